/- The law FnListOf, walked. Condition: the code lies in memory, the table of signs in its variable. -/
import Derived.Test.YtaodhmjlanhakaaDoorProg
import Derived.Test.YtaodhmjlanhakaaDoorDrL
import Derived.Test.YtaodhmjlanhakaaDoorLsM
import Derived.Test.YtaodhmjlanhakaaDoorTs
import Derived.Test.YtaodhmjlanhakaaDoorMakeI
namespace Go.Proofs.YtaodhmjlanhakaaDoor
open Go.RowKit

set_option maxRecDepth 100000 in
set_option maxHeartbeats 8000000 in
theorem lawPLO_any (A : Option Addr) (len cap : Nat) (w : World) (hb : Bts w w.heap.size A len) (hc : len ≤ cap) (hm : cap ≤ maxLen) (ht : nv.Tab w) :
    Calls Tryd.prog 3 #[.slice A len cap] w fun e w' => e = .returned (.bool true) ∧ Below w.heap.size w w' := by
  by_cases h2 : len ≤ 1048576
  · have t0 : ¬ (len : Int) > 1048576 := by omega
    have hlt := tab_lt ht
    have C1 := drawLO_any A len cap w hb hc hm
    have H1 := Lib.hid C1
    have HT := Lib.hid ht
    clear C1 hb hc hm ht
    go_enter Tryd.func3, Tryd.ntmps3
    go_wp2_with fail
    refine H1.out.mono ?_
    rintro e w2 ⟨k, n, s, f, A1, c1, rfl, hf, hn, ⟨L, o1, hnd, hlm⟩, hb⟩
    have hb0 : Below w2.heap.size w2 (w2.alloc (.cells #[.int .i64 k, .int .i64 n, .string s, .slice A1 f.len c1] 25)) := (Below.refl _ _).alloc (Nat.le_refl _) _
    have HQ := Lib.hid (Blk.new w2 25 #[.int .i64 k, .int .i64 n, .string s, .slice A1 f.len c1])
    have HO := Lib.hid (o1.below hb0 o1.lt)
    have HL3 : Hid (∀ x ∈ L, x < w2.heap.size) := Lib.hid o1.lt
    have HB3 := Lib.hid (hb.trans (hb0.mono hb.size))
    have HND := Lib.hid hnd
    have HN := Lib.hid hn
    have HF := Lib.hid hf
    have hs3 : (w2.alloc (.cells #[.int .i64 k, .int .i64 n, .string s, .slice A1 f.len c1] 25)).heap.size = w2.heap.size + 1 := by simp
    clear hf hn o1 hnd hlm hb hb0 H1
    go_wp2_with fail
    generalize w2.alloc (.cells #[.int .i64 k, .int .i64 n, .string s, .slice A1 f.len c1] 25) = w3 at *
    have HS3 := Lib.hid hs3
    clear hs3
    generalize w2.heap.size = H at *
    refine (implList_any k n s f A1 c1 0 w3.heap.size w3 (HO.out.kids fun x hx => ⟨Nat.zero_le _, HO.out.lt x hx⟩) (Nat.le_refl _) HF.out (by have := HN.out; omega) (tab_below HT.out HB3.out hlt)).mono ?_
    rintro e w4 ⟨hb4, hr4⟩
    have HB4 := Lib.hid hb4
    have HR4 := Lib.hid hr4
    have hq4 := HQ.out.below hb4 HQ.out.lt
    clear hb4 hr4
    have hcond : (validT k n s f && listB k n s f) = true ∨ (validT k n s f && listB k n s f) = false := by cases (validT k n s f && listB k n s f) <;> simp
    rcases hcond with hv | hv
    · have h4 : ∃ A4 c4, e = .returned (.tuple #[.slice A4 (fronts k s f).len c4, .bool true]) ∧ Made w3 (fronts k s f) A4 c4 w4 := by
        rcases HR4.out with ⟨_, A4, c4, h, hm⟩ | ⟨h, _⟩
        · exact ⟨A4, c4, h, hm⟩
        · rw [hv] at h; cases h
      obtain ⟨A4, c4, rfl, hm4⟩ := h4
      have HV := Lib.hid hv
      have HM4 := Lib.hid hm4
      obtain ⟨x0, x1, x2, x3⟩ := cells4i hq4
      clear hv hm4 hq4 HR4
      go_wp2_with fail
      refine (specList_any k n s f A1 c1 0 w3.heap.size w4 ((HO.out.kids fun x hx => ⟨Nat.zero_le _, HO.out.lt x hx⟩).below HB4.out (Nat.le_refl _)) HB4.out.size HF.out (by have := HN.out; omega)).mono ?_
      rintro e w5 ⟨hb5, hr5⟩
      have h5 : ∃ A5 c5, e = .returned (.tuple #[.slice A5 (fronts k s f).len c5, .bool true]) ∧ Made w4 (fronts k s f) A5 c5 w5 := by
        rcases hr5 with ⟨_, A4, c4, h, hm⟩ | ⟨h, _⟩
        · exact ⟨A4, c4, h, hm⟩
        · rw [HV.out] at h; cases h
      obtain ⟨A5, c5, rfl, hm5⟩ := h5
      have hfn := fronts_nodes k s f
      have HFN : Hid (nodes (fronts k s f) ≤ 1000) := Lib.hid (Nat.le_trans hfn HN.out)
      have hpair : ∃ L4 L5, OwnS w5 (fronts k s f) A4 c4 L4 ∧ OwnS w5 (fronts k s f) A5 c5 L5 ∧ (L4 ++ L5).Nodup := by
        obtain ⟨L4, p1, p2, p3, p4⟩ := HM4.out
        obtain ⟨L5, q1, q2, q3, q4⟩ := hm5
        exact ⟨L4, L5, p1.below q4 fun x hx => (p3 x hx).2, q1, List.nodup_append.2 ⟨p2, q2, fun a ha b hb e => by have := (p3 a ha).2; have := (q3 b hb).1; omega⟩⟩
      obtain ⟨L4, L5, p1, p2, p3⟩ := hpair
      have CP := pgT_any (fronts k s f) (fronts k s f) A4 A5 c4 c5 L4 L5 w5 p1 p2 p3 (by have := HFN.out; omega)
      rw [eqF_refl] at CP
      have HCP := Lib.hid CP
      have HP1 := Lib.hid p1
      have HB5 := Lib.hid (HB4.out.trans (hb5.mono HB4.out.size))
      clear hb5 hr5 hm5 hfn p1 p2 p3 CP x0 x1 x2 x3
      go_wp2_with fail
      refine HCP.out.mono ?_
      rintro e w6 ⟨rfl, hb6⟩
      have HB6 := Lib.hid (HB5.out.trans (hb6.mono HB5.out.size))
      have HP6 := Lib.hid (HP1.out.below hb6 HP1.out.lt)
      have HVV := Lib.hid (make_fronts (by have h := HV.out; rw [Bool.and_eq_true] at h; exact h.1) (by have h := HV.out; rw [Bool.and_eq_true] at h; exact h.2) (k := k) (n := n) (s := s) (f := f))
      have CM := implMake_any (fronts k s f) A4 c4 3 0 brk .nil none 0 0 w6.heap.size 0 w6.heap.size w6 (HP6.out.kids fun x hx => ⟨Nat.zero_le _, HP6.out.lt x hx⟩) (Nat.le_refl _) (KidsAt.nil _ _ _ _ _ (Nat.zero_le _)) (Nat.le_refl _) ⟨by omega, by omega, by unfold maxLen; decide⟩ (by have := HFN.out; omega) (by simp [nodes]) (tab_below HT.out (HB3.out.trans (HB6.out.mono HB3.out.size)) hlt)
      rw [HVV.out.1, HVV.out.2] at CM
      have HCM := Lib.hid CM
      clear hb6 CM HCP HP1
      generalize (fronts k s f).len = fl at *
      go_wp2_with fail
      refine HCM.out.mono ?_
      rintro e w7 ⟨k', n', s', f', A7, c7, hch, rfl, hm7⟩
      injection hch with g1 g2 g3 g4 _
      subst g1 g2 g3 g4
      obtain ⟨L7, r1, r2, r3, r4⟩ := hm7
      have hb8 : Below w7.heap.size w7 (w7.alloc (.cells #[.int .i64 k, .int .i64 n, .string s, .slice A7 f.len c7] 25)) := (Below.refl _ _).alloc (Nat.le_refl _) _
      have hb38 := HB6.out.trans ((r4.trans (hb8.mono r4.size)).mono HB6.out.size)
      have hnd7 : (L7 ++ L).Nodup := List.nodup_append.2 ⟨r2, HND.out, fun a ha b hb e => by have := (r3 a ha).1; have := HL3.out b hb; have := HB6.out.size; have := HS3.out; omega⟩
      have CT := tsame_own k n s f A7 c7 k n s f A1 c1 L7 L (w7.alloc (.cells #[.int .i64 k, .int .i64 n, .string s, .slice A7 f.len c7] 25)) (r1.below hb8 r1.lt) (HO.out.below hb38 HO.out.lt) hnd7 (by have := HN.out; omega)
      rw [eqT_same] at CT
      obtain ⟨z0, z1, z2, z3⟩ := cells4i (HQ.out.below (HB6.out.trans (r4.mono HB6.out.size)) HQ.out.lt)
      have hH7 : H < w7.heap.size := (HQ.out.below (HB6.out.trans (r4.mono HB6.out.size)) HQ.out.lt).lt
      have HCT := Lib.hid CT
      have HB8 := Lib.hid (HB3.out.trans (hb38.mono HB3.out.size))
      clear r1 r2 r3 r4 hb8 hb38 hnd7 CT HCM
      go_wp2_with fail
      refine HCT.out.mono ?_
      rintro e w9 ⟨rfl, hb9⟩
      have HB9 := Lib.hid (HB8.out.trans (hb9.mono HB8.out.size))
      clear hb9
      go_wp2_with fail
      go_ret
      exact ⟨rfl, HB9.out⟩
    · have h4 : ∃ A4 c4, e = .returned (.tuple #[.slice A4 0 c4, .bool false]) ∧ c4 ≤ maxLen := by
        rcases HR4.out with ⟨h, _⟩ | ⟨_, A4, c4, h, hm⟩
        · rw [hv] at h; cases h
        · exact ⟨A4, c4, h, hm⟩
      obtain ⟨A4, c4, rfl, hm4⟩ := h4
      have HV := Lib.hid hv
      have HM4 := Lib.hid hm4
      obtain ⟨x0, x1, x2, x3⟩ := cells4i hq4
      clear hv hm4 hq4 HR4
      go_wp2_with fail
      refine (specList_any k n s f A1 c1 0 w3.heap.size w4 ((HO.out.kids fun x hx => ⟨Nat.zero_le _, HO.out.lt x hx⟩).below HB4.out (Nat.le_refl _)) HB4.out.size HF.out (by have := HN.out; omega)).mono ?_
      rintro e w5 ⟨hb5, hr5⟩
      have h5 : ∃ A5 c5, e = .returned (.tuple #[.slice A5 0 c5, .bool false]) ∧ c5 ≤ maxLen := by
        rcases hr5 with ⟨h, _⟩ | ⟨_, A4, c4, h, hm⟩
        · rw [HV.out] at h; cases h
        · exact ⟨A4, c4, h, hm⟩
      obtain ⟨A5, c5, rfl, hm5⟩ := h5
      have CP := fun wx => pgT_any .nil .nil A4 A5 c4 c5 [] [] wx ⟨Nat.zero_le _, HM4.out, .inl ⟨rfl, rfl⟩⟩ ⟨Nat.zero_le _, hm5, .inl ⟨rfl, rfl⟩⟩ List.nodup_nil (by simp [nodes])
      rw [eqF_refl, show Fr.nil.len = 0 from rfl] at CP
      have HCP := Lib.hid CP
      have HB5 := Lib.hid (HB3.out.trans ((HB4.out.trans (hb5.mono HB4.out.size)).mono HB3.out.size))
      clear hb5 hr5 hm5 CP x0 x1 x2 x3
      go_wp2_with fail
      refine (HCP.out _).mono ?_
      rintro e w6 ⟨rfl, hb6⟩
      have HB6 := Lib.hid (HB5.out.trans (hb6.mono HB5.out.size))
      clear hb6
      go_wp2_with fail
      refine (HCP.out _).mono ?_
      rintro e w7 ⟨rfl, hb7⟩
      have HB7 := Lib.hid (HB6.out.trans (hb7.mono HB6.out.size))
      clear hb7
      go_wp2_with fail
      go_ret
      exact ⟨rfl, HB7.out⟩
  · have t0 : (len : Int) > 1048576 := by omega
    clear hb hc hm ht
    go_enter Tryd.func3, Tryd.ntmps3
    go_wp2_with fail
    go_ret
    exact ⟨rfl, Below.refl _ _⟩
end Go.Proofs.YtaodhmjlanhakaaDoor
