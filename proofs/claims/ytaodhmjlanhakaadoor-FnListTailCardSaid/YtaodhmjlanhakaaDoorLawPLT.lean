/- The law FnListTail, walked. Condition: both codes lie in memory, the table of signs in its variable. -/
import Derived.Test.YtaodhmjlanhakaaDoorProg
import Derived.Test.YtaodhmjlanhakaaDoorDrL
import Derived.Test.YtaodhmjlanhakaaDoorLsM
import Derived.Test.YtaodhmjlanhakaaDoorTs
import Derived.Test.YtaodhmjlanhakaaDoorMakeI
import Derived.IntWalk
import Derived.BigQuiet
import Derived.Deep.QuietTactic
namespace Go.Proofs.YtaodhmjlanhakaaDoor
open Go.RowKit

/-- A list of one term more: its parts. -/
theorem tail_list (kx nx : Int) (sx : ByteArray) (fx : Fr) (k n : Int) (s : ByteArray) (f : Fr) (h : mlB (.cons kx nx sx fx .nil) k n s f = true) :
    mlF (.cons kx nx sx fx .nil) k n s f = .cons 3 0 dot (.cons kx nx sx fx (.cons k n s f .nil)) .nil ∧ validT k n s f = true ∧ validT 3 0 dot (.cons kx nx sx fx (.cons k n s f .nil)) = true ∧
      listB 3 0 dot (.cons kx nx sx fx (.cons k n s f .nil)) = listB k n s f ∧ fronts 3 dot (.cons kx nx sx fx (.cons k n s f .nil)) = .cons kx nx sx fx (fronts k s f) := by
  have hp : pairB 3 dot 2 = true := by decide
  refine ⟨by unfold mlF; rw [if_pos h]; rfl, ?_, ?_, listB_next (by rw [tails, if_pos hp]), by rw [fronts, if_pos hp]⟩
  · unfold mlB at h
    simp only [Bool.and_eq_true] at h
    exact h.2.2.1
  · unfold mlB at h
    simp only [Bool.and_eq_true] at h
    exact h.2.2.2
theorem mlF_cons (g : Fr) (k n : Int) (s : ByteArray) (f : Fr) : ∃ k' n' s' f', mlF g k n s f = .cons k' n' s' f' .nil := by
  unfold mlF
  split
  · exact chain_one g k n s f
  · exact ⟨_, _, _, _, rfl⟩

set_option maxRecDepth 100000 in
set_option maxHeartbeats 8000000 in
theorem lawPLT_any (A : Option Addr) (len cap : Nat) (A' : Option Addr) (len' cap' : Nat) (w : World) (hb : Bts w w.heap.size A len) (hc : len ≤ cap) (hm : cap ≤ maxLen) (hb' : Bts w w.heap.size A' len') (hc' : len' ≤ cap') (hm' : cap' ≤ maxLen) (ht : nv.Tab w) :
    Calls Tryd.prog 5 #[.slice A len cap, .slice A' len' cap'] w fun e w' => e = .returned (.bool true) ∧ Below w.heap.size w w' := by
  by_cases h2 : len ≤ 1048576 ∧ len' ≤ 1048576
  · have t0 : ¬ (len : Int) > 1048576 := by omega
    have t0' : ¬ (len' : Int) > 1048576 := by omega
    have hlt := tab_lt ht
    have C1 := drawLO_any A len cap w hb hc hm
    have H1 := Lib.hid C1
    have HT := Lib.hid ht
    have HBT := Lib.hid hb'
    have HCM' := Lib.hid (And.intro hc' hm')
    clear C1 hb hc hm ht hb' hc' hm' h2
    go_enter Tryd.func5, Tryd.ntmps5
    go_wp2_with fail
    refine H1.out.mono ?_
    rintro e w2 ⟨k, n, s, f, A1, c1, rfl, hf, hn, ⟨L, o1, hnd, hlm⟩, hb⟩
    have hb0 : Below w2.heap.size w2 (w2.alloc (.cells #[.int .i64 k, .int .i64 n, .string s, .slice A1 f.len c1] 25)) := (Below.refl _ _).alloc (Nat.le_refl _) _
    have HQ := Lib.hid (Blk.new w2 25 #[.int .i64 k, .int .i64 n, .string s, .slice A1 f.len c1])
    have HO := Lib.hid (o1.below hb0 o1.lt)
    have HB3 := Lib.hid (hb.trans (hb0.mono hb.size))
    have HN := Lib.hid hn
    have HF := Lib.hid hf
    clear hf hn o1 hnd hlm hb hb0 H1
    go_wp2_with fail
    generalize w2.alloc (.cells #[.int .i64 k, .int .i64 n, .string s, .slice A1 f.len c1] 25) = w3 at *
    generalize w2.heap.size = H at *
    have HKT : Hid (∀ wX, Below w3.heap.size w3 wX → KidsAt wX 0 wX.heap.size f A1 c1) := Lib.hid fun wX h => ((HO.out.kids fun x hx => ⟨Nat.zero_le _, HO.out.lt x hx⟩).below h (Nat.le_refl _)).more (Nat.zero_le _) h.size
    refine (implList_any k n s f A1 c1 0 w3.heap.size w3 (HKT.out _ (Below.refl _ _)) (Nat.le_refl _) HF.out (by have := HN.out; omega) (tab_below HT.out HB3.out hlt)).mono ?_
    rintro e w4 ⟨hb4, hr4⟩
    have HB4 := Lib.hid hb4
    have HR4 := Lib.hid hr4
    have hq4 := HQ.out.below hb4 HQ.out.lt
    obtain ⟨x0, x1, x2, x3⟩ := cells4i hq4
    clear hb4 hr4 hq4
    have hcond : (validT k n s f && listB k n s f) = true ∨ (validT k n s f && listB k n s f) = false := by cases (validT k n s f && listB k n s f) <;> simp
    rcases hcond with hv | hv
    · have h4 : ∃ A4 c4, e = .returned (.tuple #[.slice A4 (fronts k s f).len c4, .bool true]) ∧ ∃ L4, OwnS w4 (fronts k s f) A4 c4 L4 ∧ L4.Nodup ∧ ∀ x ∈ L4, w3.heap.size ≤ x := by
        rcases HR4.out with ⟨_, A4, c4, h, L4, p1, p2, p3, _⟩ | ⟨h, _⟩
        · exact ⟨A4, c4, h, L4, p1, p2, fun x hx => (p3 x hx).1⟩
        · rw [hv] at h; cases h
      obtain ⟨A4, c4, rfl, L4, p1, p2, p3⟩ := h4
      have HV := Lib.hid hv
      have HP4 := Lib.hid p1
      have HN4 := Lib.hid p2
      have HL4 := Lib.hid p3
      clear hv p1 p2 p3 HR4
      go_wp2_with fail
      refine (specList_any k n s f A1 c1 0 w4.heap.size w4 (HKT.out _ HB4.out) (Nat.le_refl _) HF.out (by have := HN.out; omega)).mono ?_
      rintro e w5 ⟨hb5, hr5⟩
      have h5 : ∃ A5 c5, e = .returned (.tuple #[.slice A5 (fronts k s f).len c5, .bool true]) ∧ ∃ L5, OwnS w5 (fronts k s f) A5 c5 L5 ∧ L5.Nodup ∧ ∀ x ∈ L5, w4.heap.size ≤ x := by
        rcases hr5 with ⟨_, A4, c4, h, L4, p1, p2, p3, _⟩ | ⟨h, _⟩
        · exact ⟨A4, c4, h, L4, p1, p2, fun x hx => (p3 x hx).1⟩
        · rw [HV.out] at h; cases h
      obtain ⟨A5, c5, rfl, L5, q1, q2, q3⟩ := h5
      have HFN : Hid (nodes (fronts k s f) ≤ 1000) := Lib.hid (Nat.le_trans (fronts_nodes k s f) HN.out)
      have HP5 := Lib.hid (HP4.out.below hb5 HP4.out.lt)
      have HQ5 := Lib.hid q1
      have HN45 : Hid ((L4 ++ L5).Nodup) := Lib.hid (List.nodup_append.2 ⟨HN4.out, q2, fun a ha b hb e => by have := HP4.out.lt a ha; have := q3 b hb; omega⟩)
      have HB5 := Lib.hid (HB4.out.trans (hb5.mono HB4.out.size))
      have HB5w := Lib.hid (HB3.out.trans (HB5.out.mono HB3.out.size))
      have CX := drawTV_any A' len' cap' w5 (HBT.out.up HB5w.out) HCM'.out.1 HCM'.out.2
      have HCX := Lib.hid CX
      clear hb5 hr5 q1 q2 q3 CX x0 x1 x2 x3
      go_wp2_with fail
      refine HCX.out.mono ?_
      rintro e w6 ⟨kx, nx, sx, fx, Ax, cx, rfl, hfx, hnx, ⟨Lx, r1, r2, r3⟩, hb6⟩
      have hb7 : Below w6.heap.size w6 (w6.alloc (.cells #[.int .i64 kx, .int .i64 nx, .string sx, .slice Ax fx.len cx] 25)) := (Below.refl _ _).alloc (Nat.le_refl _) _
      have hb8 : Below (w6.alloc (.cells #[.int .i64 kx, .int .i64 nx, .string sx, .slice Ax fx.len cx] 25)).heap.size (w6.alloc (.cells #[.int .i64 kx, .int .i64 nx, .string sx, .slice Ax fx.len cx] 25)) ((w6.alloc (.cells #[.int .i64 kx, .int .i64 nx, .string sx, .slice Ax fx.len cx] 25)).alloc (.cells #[.int .i64 kx, .int .i64 nx, .string sx, .slice Ax fx.len cx] 25)) := (Below.refl _ _).alloc (Nat.le_refl _) _
      have hz7 : (w6.alloc (.cells #[.int .i64 kx, .int .i64 nx, .string sx, .slice Ax fx.len cx] 25)).heap.size = w6.heap.size + 1 := by simp
      have hqx := Blk.new w6 25 #[.int .i64 kx, .int .i64 nx, .string sx, .slice Ax fx.len cx]
      have hqy := Blk.new (w6.alloc (.cells #[.int .i64 kx, .int .i64 nx, .string sx, .slice Ax fx.len cx] 25)) 25 #[.int .i64 kx, .int .i64 nx, .string sx, .slice Ax fx.len cx]
      rw [hz7] at hqy
      have hb68 := hb7.trans (hb8.mono hb7.size)
      have HB8 := Lib.hid (HB5.out.trans ((hb6.trans (hb68.mono hb6.size)).mono HB5.out.size))
      have HX8 := Lib.hid (r1.below hb68 r1.lt)
      have HLX : Hid (∀ x ∈ Lx, w5.heap.size ≤ x ∧ x < w6.heap.size) := Lib.hid fun x hx => ⟨r3 x hx, r1.lt x hx⟩
      have HNX := Lib.hid r2
      have HQX := Lib.hid (hqx.below hb8 hqx.lt)
      have HQY := Lib.hid hqy
      have HFX := Lib.hid hfx
      have HNDX := Lib.hid hnx
      have HS56 := Lib.hid hb6.size
      have HP8 := Lib.hid (HP5.out.below (hb6.trans (hb68.mono hb6.size)) HP5.out.lt)
      have HQ8 := Lib.hid (HQ5.out.below (hb6.trans (hb68.mono hb6.size)) HQ5.out.lt)
      obtain ⟨x0, x1, x2, x3⟩ := cells4i (HQ.out.below HB8.out HQ.out.lt)
      have hHl : H < w6.heap.size := by have := HQ.out.lt; have := HB5.out.size; have := hb6.size; omega
      clear hfx hnx r1 r2 r3 hb6 hb7 hb8 hb68 hqx hqy HCX
      go_wp2_with fail
      rw [hz7] at *
      clear hz7
      generalize hw8 : (w6.alloc (.cells #[.int .i64 kx, .int .i64 nx, .string sx, .slice Ax fx.len cx] 25)).alloc (.cells #[.int .i64 kx, .int .i64 nx, .string sx, .slice Ax fx.len cx] 25) = w8 at *
      clear hw8
      generalize w6.heap.size = Hx at *
      have hkx : KidsAt w8 0 w8.heap.size (.cons kx nx sx fx .nil) (some ⟨Hx + 1, 0, none⟩) 1 := by
        have hkk := HX8.out.kids (lo := 0) (hi := w8.heap.size) fun x hx => ⟨Nat.zero_le _, HX8.out.lt x hx⟩
        exact ⟨by simp [Fr.len], by unfold maxLen; omega, fun _ => ⟨Hx + 1, 0, rfl, Nat.zero_le _, HQY.out.lt, HFX.out, ⟨Ax, cx, ⟨HQY.out.cell 0, HQY.out.cell 1, HQY.out.cell 2, HQY.out.cell 3⟩, hkk.1, hkk.2.1, hkk.2.2⟩, trivial⟩⟩
      have CM := implMake_any (.cons kx nx sx fx .nil) (some ⟨Hx + 1, 0, none⟩) 1 k n s f A1 c1 0 w8.heap.size 0 w8.heap.size w8 hkx (Nat.le_refl _) (HKT.out _ HB8.out) (Nat.le_refl _) HF.out (by have := HNDX.out; simp only [nodes]; omega) (by have := HN.out; omega) (tab_below HT.out (HB3.out.trans (HB8.out.mono HB3.out.size)) hlt)
      obtain ⟨ku, nu, su, fu, hmu⟩ := mlF_cons (.cons kx nx sx fx .nil) k n s f
      have HMU := Lib.hid hmu
      have HCM := Lib.hid CM
      clear CM hkx hmu x0 x1 x2 x3
      refine HCM.out.mono ?_
      rintro e w9 ⟨ku', nu', su', fu', Au, cu, hmu, rfl, hm9⟩
      rw [HMU.out] at hmu
      injection hmu with g1 g2 g3 g4 _
      subst g1 g2 g3 g4
      obtain ⟨Lu, u1, u2, u3, u4⟩ := hm9
      have hb10 : Below w9.heap.size w9 (w9.alloc (.cells #[.int .i64 ku, .int .i64 nu, .string su, .slice Au fu.len cu] 25)) := (Below.refl _ _).alloc (Nat.le_refl _) _
      have HB10 := Lib.hid (u4.trans (hb10.mono u4.size))
      have HKU : Hid (∀ wX, Below (w9.alloc (.cells #[.int .i64 ku, .int .i64 nu, .string su, .slice Au fu.len cu] 25)).heap.size (w9.alloc (.cells #[.int .i64 ku, .int .i64 nu, .string su, .slice Au fu.len cu] 25)) wX → KidsAt wX 0 wX.heap.size fu Au cu) := Lib.hid fun wX h =>
        (((u1.kids (lo := 0) fun x hx => ⟨Nat.zero_le _, u1.lt x hx⟩).below hb10 (Nat.le_refl _)).more (Nat.zero_le _) hb10.size |>.below h (Nat.le_refl _)).more (Nat.zero_le _) h.size
      have HQU := Lib.hid (Blk.new w9 25 #[.int .i64 ku, .int .i64 nu, .string su, .slice Au fu.len cu])
      have HP10 := Lib.hid (HP8.out.below HB10.out HP8.out.lt)
      have HQ10 := Lib.hid (HQ8.out.below HB10.out HQ8.out.lt)
      clear u1 u2 u3 u4 hb10 HCM
      have CP : ∀ wX, Below (w9.alloc (.cells #[.int .i64 ku, .int .i64 nu, .string su, .slice Au fu.len cu] 25)).heap.size (w9.alloc (.cells #[.int .i64 ku, .int .i64 nu, .string su, .slice Au fu.len cu] 25)) wX → Calls Tryd.prog 10 #[.slice A4 (fronts k s f).len c4, .slice A5 (fronts k s f).len c5] wX fun e w' => e = .returned (.bool true) ∧ Below wX.heap.size wX w' := fun wX h => by
        have h1 := pgT_any (fronts k s f) (fronts k s f) A4 A5 c4 c5 L4 L5 wX (HP10.out.below h HP10.out.lt) (HQ10.out.below h HQ10.out.lt) HN45.out (by have := HFN.out; omega)
        rwa [eqF_refl] at h1
      have HCP := Lib.hid CP
      have HBA := Lib.hid (HB8.out.trans (HB10.out.mono HB8.out.size))
      clear CP
      have hmb : mlB (.cons kx nx sx fx .nil) k n s f = true ∨ mlB (.cons kx nx sx fx .nil) k n s f = false := by cases mlB (.cons kx nx sx fx .nil) k n s f <;> simp
      rcases hmb with hmb | hmb
      · have HTL := Lib.hid (tail_list kx nx sx fx k n s f hmb)
        rw [hmb]
        clear hmb
        have hu := HMU.out
        rw [HTL.out.1] at hu
        injection hu with g1 g2 g3 g4 _
        subst g1 g2 g3 g4
        go_wp2_with fail
        generalize hw10 : w9.alloc (.cells #[.int .i64 3, .int .i64 0, .string dot, .slice Au (Fr.cons kx nx sx fx (.cons k n s f .nil)).len cu] 25) = w10 at *
        clear hw10
        refine (HCP.out _ (Below.refl _ _)).mono ?_
        rintro e w11 ⟨rfl, hb11⟩
        have HB11 := Lib.hid hb11
        clear hb11
        obtain ⟨x0, x1, x2, x3⟩ := cells4i (HQU.out.below HB11.out HQU.out.lt)
        go_wp2_with fail
        refine (implList_any 3 0 dot _ Au cu 0 w11.heap.size w11 (HKU.out _ HB11.out) (Nat.le_refl _) fits_dot (by have := HN.out; have := HNDX.out; simp only [nodes]; omega) (tab_below HT.out (HB3.out.trans ((HBA.out.trans (HB11.out.mono HBA.out.size)).mono HB3.out.size)) hlt)).mono ?_
        rintro e w12 ⟨hb12, hr12⟩
        have h12 : ∃ A12 c12, e = .returned (.tuple #[.slice A12 ((fronts k s f).len + 1) c12, .bool true]) ∧ ∃ L12, OwnS w12 (.cons kx nx sx fx (fronts k s f)) A12 c12 L12 ∧ L12.Nodup ∧ ∀ x ∈ L12, w11.heap.size ≤ x := by
          rw [HTL.out.2.2.1, HTL.out.2.2.2.1, HTL.out.2.2.2.2] at hr12
          rcases hr12 with ⟨_, A, c, h, L12, v1, v2, v3, _⟩ | ⟨h, _⟩
          · exact ⟨A, c, h, L12, v1, v2, fun x hx => (v3 x hx).1⟩
          · have h2 := HV.out
            rw [HTL.out.2.1] at h2
            rw [h2] at h
            cases h
        obtain ⟨A12, c12, rfl, L12, v1, v2, v3⟩ := h12
        obtain ⟨b, Af, cf, M1, M2, rfl, hc1, hc2, ⟨d0, d1, d2, d3⟩, hbl, m1, m2, n1, n2, s1, s2⟩ := v1.behind v2
        have hb1012 := HB11.out.trans (hb12.mono HB11.out.size)
        have hb812 := HB10.out.trans (hb1012.mono HB10.out.size)
        have hx12 := HX8.out.below hb812 HX8.out.lt
        have hp12 := HP10.out.below hb1012 HP10.out.lt
        have hs1 := HB10.out.size
        have hs2 := HB11.out.size
        have CT := fun wX (h : Below w12.heap.size w12 wX) => tsame_own kx nx sx fx Af cf kx nx sx fx Ax cx M1 Lx wX (m1.below h m1.lt) (hx12.below h hx12.lt) (List.nodup_append.2 ⟨n1, HNX.out, fun a ha b hb e => by have := v3 a (s1 a ha); have := HX8.out.lt b hb; omega⟩) (by have := HNDX.out; omega)
        rw [eqT_same] at CT
        have hpl := HP8.out.lt
        have hPB : ∀ wX, Below w12.heap.size w12 wX → Calls Tryd.prog 10 #[.slice (if c12 = 1 then some ⟨b, 0, none⟩ else some ⟨b, 4, none⟩) (fronts k s f).len (c12 - 1), .slice A4 (fronts k s f).len c4] wX fun e w' => e = .returned (.bool true) ∧ Below wX.heap.size wX w' := fun wX h => by
          by_cases h1 : c12 = 1
          · rw [if_pos h1]
            have h0 : (fronts k s f).len = 0 := by omega
            have h2 := pgTo_any (fronts k s f) (fronts k s f) (some ⟨b, 0, none⟩) A4 (c12 - 1) c4 [] L4 wX ⟨by omega, by omega, .inl ⟨h0, rfl⟩⟩ (hp12.below h hp12.lt).t (by simpa using HN4.out) (by have := HFN.out; omega)
            rwa [eqF_refl] at h2
          · rw [if_neg h1]
            have h2 := pgTo_any (fronts k s f) (fronts k s f) (some ⟨b, 4, none⟩) A4 (c12 - 1) c4 M2 L4 wX (m2.below h) (hp12.below h hp12.lt).t (List.nodup_append.2 ⟨n2, HN4.out, fun a ha b hb e => by have := v3 a (s2 a ha); have := hpl b hb; omega⟩) (by have := HFN.out; omega)
            rwa [eqF_refl] at h2
        obtain ⟨y0, y1, y2, y3⟩ := cells4i (HQX.out.below hb812 HQX.out.lt)
        have hHx : Hx < w12.heap.size := by have := HQX.out.lt; have := hb812.size; omega
        have EIGHT : ∀ x, Below w12.heap.size w12 x → x.cell? ⟨b, 0, none⟩ = some (.int .i64 kx) ∧ x.cell? ⟨b, 1, none⟩ = some (.int .i64 nx) ∧ x.cell? ⟨b, 2, none⟩ = some (.string sx) ∧ x.cell? ⟨b, 3, none⟩ = some (.slice Af fx.len cf) ∧
            x.cell? ⟨Hx, 0, none⟩ = some (.int .i64 kx) ∧ x.cell? ⟨Hx, 1, none⟩ = some (.int .i64 nx) ∧ x.cell? ⟨Hx, 2, none⟩ = some (.string sx) ∧ x.cell? ⟨Hx, 3, none⟩ = some (.slice Ax fx.len cx) := fun x h =>
          ⟨(h.cell (p := ⟨b, 0, none⟩) hbl).trans d0, (h.cell (p := ⟨b, 1, none⟩) hbl).trans d1, (h.cell (p := ⟨b, 2, none⟩) hbl).trans d2, (h.cell (p := ⟨b, 3, none⟩) hbl).trans d3,
            (h.cell (p := ⟨Hx, 0, none⟩) hHx).trans y0, (h.cell (p := ⟨Hx, 1, none⟩) hHx).trans y1, (h.cell (p := ⟨Hx, 2, none⟩) hHx).trans y2, (h.cell (p := ⟨Hx, 3, none⟩) hHx).trans y3⟩
        have HCT := Lib.hid CT
        have HPB := Lib.hid hPB
        have HE := Lib.hid EIGHT
        have HB12 := Lib.hid (HB3.out.trans ((HBA.out.trans (hb1012.mono HBA.out.size)).mono HB3.out.size))
        unfold maxLen at hc2
        clear x0 x1 x2 x3 hb12 hr12 v1 v2 v3 hbl m1 m2 n1 n2 s1 s2 hb1012 hb812 hx12 hp12 hs1 hs2 CT hpl hPB EIGHT hHx HP4 HN4 HL4 HFN HP5 HQ5 HN45 HB5 HB5w HX8 HLX HNX HQX HQY HFX HNDX HS56 HP8 HQ8 HTL HMU HB10 HKU HQU HP10 HQ10 HCP HB11 HBA HBT HCM' HKT HB4 HO HQ
        generalize (fronts k s f).len = fl at *
        by_cases hcc : c12 = 1
        · subst hcc
          rw [if_pos rfl] at HPB
          have te : (((fl + 1 : Nat) : Int) == (fl : Int) + 1) = true := by simp
          have tw : IntKind.i64.wrap ((fl : Int) + 1) = (fl : Int) + 1 := IntWalk.i64_in _ (by omega)
          have tz1 : (1 : Int) ≤ ((fl + 1 : Nat) : Int) := by omega
          have tz3 : 1 ≤ fl + 1 := by omega
          have tz0 : (0 : Int) ≤ (fl : Int) := by omega
          have tz4 : (1 : Int) ≤ (fl : Int) + 1 := by omega
          have HPB0 : Hid (∀ wX, Below w12.heap.size w12 wX → Calls Tryd.prog 10 #[.slice (some ⟨b, 0, none⟩) 0 0, .slice A4 fl c4] wX fun e w' => e = .returned (.bool true) ∧ Below wX.heap.size wX w') := Lib.hid fun wX h => by
            have h2 := HPB.out wX h
            have hf0 : fl = 0 := by omega
            rw [show (Value.slice (some ⟨b, 0, none⟩) fl (1 - 1)) = .slice (some ⟨b, 0, none⟩) 0 0 by rw [hf0]] at h2
            exact h2
          clear hc2 HPB
          go_wp2_with fail
          go_region_held3 (fun x => x.cell? ⟨b, 0, none⟩ = some (.int .i64 kx) ∧ x.cell? ⟨b, 1, none⟩ = some (.int .i64 nx) ∧ x.cell? ⟨b, 2, none⟩ = some (.string sx) ∧ x.cell? ⟨b, 3, none⟩ = some (.slice Af fx.len cf) ∧
              x.cell? ⟨Hx, 0, none⟩ = some (.int .i64 kx) ∧ x.cell? ⟨Hx, 1, none⟩ = some (.int .i64 nx) ∧ x.cell? ⟨Hx, 2, none⟩ = some (.string sx) ∧ x.cell? ⟨Hx, 3, none⟩ = some (.slice Ax fx.len cx))
            (first | exact HE.out _ HB14.out | exact HE.out _ HB13.out | exact HE.out _ (Below.refl _ _) | exact HE.out _ (Below.refl _ _).drew)
            (first
              | (go_at_call 12
                 refine (HCT.out _ (Below.refl _ _).drew).mono ?_
                 rintro e w13 ⟨rfl, hb13⟩
                 have HB13 : Hid (Below w12.heap.size w12 w13) := Lib.hid ((Below.refl _ _).drew.trans hb13)
                 clear hb13)
              | (go_at_call 10
                 refine (HPB0.out _ HB13.out).mono ?_
                 rintro e w14 ⟨rfl, hb14⟩
                 have HB14 : Hid (Below w12.heap.size w12 w14) := Lib.hid (HB13.out.trans (hb14.mono HB13.out.size))
                 clear hb14)
              | fail)
          all_goals
            clear te tw tz0 tz1 tz3 tz4
            go_wp2_with fail
            go_ret
            exact ⟨rfl, HB12.out.trans (HB14.out.mono HB12.out.size)⟩
        · rw [if_neg hcc] at HPB
          have te : (((fl + 1 : Nat) : Int) == (fl : Int) + 1) = true := by simp
          have tw : IntKind.i64.wrap ((fl : Int) + 1) = (fl : Int) + 1 := IntWalk.i64_in _ (by omega)
          have tz1 : (1 : Int) ≤ ((fl + 1 : Nat) : Int) := by omega
          have tz2 : ((fl + 1 : Nat) : Int) ≤ (c12 : Int) := by omega
          have tz3 : 1 ≤ fl + 1 := by omega
          have tz0 : (0 : Int) ≤ (fl : Int) := by omega
          have tz4 : (1 : Int) ≤ (fl : Int) + 1 := by omega
          have tz5 : (fl : Int) + 1 ≤ (c12 : Int) := by omega
          have tz6 : (1 : Int) ≤ (c12 : Int) := by omega
          clear hc2
          go_wp2_with fail
          go_region_held3 (fun x => x.cell? ⟨b, 0, none⟩ = some (.int .i64 kx) ∧ x.cell? ⟨b, 1, none⟩ = some (.int .i64 nx) ∧ x.cell? ⟨b, 2, none⟩ = some (.string sx) ∧ x.cell? ⟨b, 3, none⟩ = some (.slice Af fx.len cf) ∧
              x.cell? ⟨Hx, 0, none⟩ = some (.int .i64 kx) ∧ x.cell? ⟨Hx, 1, none⟩ = some (.int .i64 nx) ∧ x.cell? ⟨Hx, 2, none⟩ = some (.string sx) ∧ x.cell? ⟨Hx, 3, none⟩ = some (.slice Ax fx.len cx))
            (first | exact HE.out _ HB14.out | exact HE.out _ HB13.out | exact HE.out _ (Below.refl _ _) | exact HE.out _ (Below.refl _ _).drew)
            (first
              | (go_at_call 12
                 refine (HCT.out _ (Below.refl _ _).drew).mono ?_
                 rintro e w13 ⟨rfl, hb13⟩
                 have HB13 : Hid (Below w12.heap.size w12 w13) := Lib.hid ((Below.refl _ _).drew.trans hb13)
                 clear hb13)
              | (go_at_call 10
                 refine (HPB.out _ HB13.out).mono ?_
                 rintro e w14 ⟨rfl, hb14⟩
                 have HB14 : Hid (Below w12.heap.size w12 w14) := Lib.hid (HB13.out.trans (hb14.mono HB13.out.size))
                 clear hb14)
              | fail)
          all_goals
            clear te tw tz0 tz1 tz2 tz3 tz4 tz5 tz6
            go_wp2_with fail
            go_ret
            exact ⟨rfl, HB12.out.trans (HB14.out.mono HB12.out.size)⟩
      · rw [hmb]
        clear hmb
        go_wp2_with fail
        generalize w9.alloc (.cells #[.int .i64 ku, .int .i64 nu, .string su, .slice Au fu.len cu] 25) = w10 at *
        refine (HCP.out _ (Below.refl _ _)).mono ?_
        rintro e w11 ⟨rfl, hb11⟩
        have HB11 := Lib.hid hb11
        clear hb11
        go_wp2_with fail
        refine (HCP.out _ HB11.out).mono ?_
        rintro e w12 ⟨rfl, hb12⟩
        have HB12 := Lib.hid (HB3.out.trans ((HBA.out.trans ((HB11.out.trans (hb12.mono HB11.out.size)).mono HBA.out.size)).mono HB3.out.size))
        clear hb12
        go_wp2_with fail
        go_ret
        exact ⟨rfl, HB12.out⟩
    · have h4 : ∃ A4 c4, e = .returned (.tuple #[.slice A4 0 c4, .bool false]) ∧ ∃ L4, OwnS w4 Fr.nil A4 c4 L4 ∧ L4.Nodup ∧ ∀ x ∈ L4, w3.heap.size ≤ x := by
        rcases HR4.out with ⟨h, _⟩ | ⟨_, A4, c4, h, hm⟩
        · rw [hv] at h; cases h
        · exact ⟨A4, c4, h, [], ⟨Nat.zero_le _, hm, .inl ⟨rfl, rfl⟩⟩, List.nodup_nil, fun x hx => by simp at hx⟩
      obtain ⟨A4, c4, rfl, L4, p1, p2, p3⟩ := h4
      have HV := Lib.hid hv
      have HP4 := Lib.hid p1
      have HN4 := Lib.hid p2
      have HL4 := Lib.hid p3
      clear hv p1 p2 p3 HR4
      go_wp2_with fail
      refine (specList_any k n s f A1 c1 0 w4.heap.size w4 (HKT.out _ HB4.out) (Nat.le_refl _) HF.out (by have := HN.out; omega)).mono ?_
      rintro e w5 ⟨hb5, hr5⟩
      have h5 : ∃ A5 c5, e = .returned (.tuple #[.slice A5 0 c5, .bool false]) ∧ ∃ L5, OwnS w5 Fr.nil A5 c5 L5 ∧ L5.Nodup ∧ ∀ x ∈ L5, w4.heap.size ≤ x := by
        rcases hr5 with ⟨h, _⟩ | ⟨_, A4, c4, h, hm⟩
        · rw [HV.out] at h; cases h
        · exact ⟨A4, c4, h, [], ⟨Nat.zero_le _, hm, .inl ⟨rfl, rfl⟩⟩, List.nodup_nil, fun x hx => by simp at hx⟩
      obtain ⟨A5, c5, rfl, L5, q1, q2, q3⟩ := h5
      have HFN : Hid (nodes Fr.nil ≤ 1000) := Lib.hid (by simp [nodes])
      have HP5 := Lib.hid (HP4.out.below hb5 HP4.out.lt)
      have HQ5 := Lib.hid q1
      have HN45 : Hid ((L4 ++ L5).Nodup) := Lib.hid (List.nodup_append.2 ⟨HN4.out, q2, fun a ha b hb e => by have := HP4.out.lt a ha; have := q3 b hb; omega⟩)
      have HB5 := Lib.hid (HB4.out.trans (hb5.mono HB4.out.size))
      have HB5w := Lib.hid (HB3.out.trans (HB5.out.mono HB3.out.size))
      have CX := drawTV_any A' len' cap' w5 (HBT.out.up HB5w.out) HCM'.out.1 HCM'.out.2
      have HCX := Lib.hid CX
      clear hb5 hr5 q1 q2 q3 CX x0 x1 x2 x3
      go_wp2_with fail
      refine HCX.out.mono ?_
      rintro e w6 ⟨kx, nx, sx, fx, Ax, cx, rfl, hfx, hnx, ⟨Lx, r1, r2, r3⟩, hb6⟩
      have hb7 : Below w6.heap.size w6 (w6.alloc (.cells #[.int .i64 kx, .int .i64 nx, .string sx, .slice Ax fx.len cx] 25)) := (Below.refl _ _).alloc (Nat.le_refl _) _
      have hb8 : Below (w6.alloc (.cells #[.int .i64 kx, .int .i64 nx, .string sx, .slice Ax fx.len cx] 25)).heap.size (w6.alloc (.cells #[.int .i64 kx, .int .i64 nx, .string sx, .slice Ax fx.len cx] 25)) ((w6.alloc (.cells #[.int .i64 kx, .int .i64 nx, .string sx, .slice Ax fx.len cx] 25)).alloc (.cells #[.int .i64 kx, .int .i64 nx, .string sx, .slice Ax fx.len cx] 25)) := (Below.refl _ _).alloc (Nat.le_refl _) _
      have hz7 : (w6.alloc (.cells #[.int .i64 kx, .int .i64 nx, .string sx, .slice Ax fx.len cx] 25)).heap.size = w6.heap.size + 1 := by simp
      have hqx := Blk.new w6 25 #[.int .i64 kx, .int .i64 nx, .string sx, .slice Ax fx.len cx]
      have hqy := Blk.new (w6.alloc (.cells #[.int .i64 kx, .int .i64 nx, .string sx, .slice Ax fx.len cx] 25)) 25 #[.int .i64 kx, .int .i64 nx, .string sx, .slice Ax fx.len cx]
      rw [hz7] at hqy
      have hb68 := hb7.trans (hb8.mono hb7.size)
      have HB8 := Lib.hid (HB5.out.trans ((hb6.trans (hb68.mono hb6.size)).mono HB5.out.size))
      have HX8 := Lib.hid (r1.below hb68 r1.lt)
      have HLX : Hid (∀ x ∈ Lx, w5.heap.size ≤ x ∧ x < w6.heap.size) := Lib.hid fun x hx => ⟨r3 x hx, r1.lt x hx⟩
      have HNX := Lib.hid r2
      have HQX := Lib.hid (hqx.below hb8 hqx.lt)
      have HQY := Lib.hid hqy
      have HFX := Lib.hid hfx
      have HNDX := Lib.hid hnx
      have HS56 := Lib.hid hb6.size
      have HP8 := Lib.hid (HP5.out.below (hb6.trans (hb68.mono hb6.size)) HP5.out.lt)
      have HQ8 := Lib.hid (HQ5.out.below (hb6.trans (hb68.mono hb6.size)) HQ5.out.lt)
      obtain ⟨x0, x1, x2, x3⟩ := cells4i (HQ.out.below HB8.out HQ.out.lt)
      have hHl : H < w6.heap.size := by have := HQ.out.lt; have := HB5.out.size; have := hb6.size; omega
      clear hfx hnx r1 r2 r3 hb6 hb7 hb8 hb68 hqx hqy HCX
      go_wp2_with fail
      rw [hz7] at *
      clear hz7
      generalize hw8 : (w6.alloc (.cells #[.int .i64 kx, .int .i64 nx, .string sx, .slice Ax fx.len cx] 25)).alloc (.cells #[.int .i64 kx, .int .i64 nx, .string sx, .slice Ax fx.len cx] 25) = w8 at *
      clear hw8
      generalize w6.heap.size = Hx at *
      have hkx : KidsAt w8 0 w8.heap.size (.cons kx nx sx fx .nil) (some ⟨Hx + 1, 0, none⟩) 1 := by
        have hkk := HX8.out.kids (lo := 0) (hi := w8.heap.size) fun x hx => ⟨Nat.zero_le _, HX8.out.lt x hx⟩
        exact ⟨by simp [Fr.len], by unfold maxLen; omega, fun _ => ⟨Hx + 1, 0, rfl, Nat.zero_le _, HQY.out.lt, HFX.out, ⟨Ax, cx, ⟨HQY.out.cell 0, HQY.out.cell 1, HQY.out.cell 2, HQY.out.cell 3⟩, hkk.1, hkk.2.1, hkk.2.2⟩, trivial⟩⟩
      have CM := implMake_any (.cons kx nx sx fx .nil) (some ⟨Hx + 1, 0, none⟩) 1 k n s f A1 c1 0 w8.heap.size 0 w8.heap.size w8 hkx (Nat.le_refl _) (HKT.out _ HB8.out) (Nat.le_refl _) HF.out (by have := HNDX.out; simp only [nodes]; omega) (by have := HN.out; omega) (tab_below HT.out (HB3.out.trans (HB8.out.mono HB3.out.size)) hlt)
      obtain ⟨ku, nu, su, fu, hmu⟩ := mlF_cons (.cons kx nx sx fx .nil) k n s f
      have HMU := Lib.hid hmu
      have HCM := Lib.hid CM
      clear CM hkx hmu x0 x1 x2 x3
      refine HCM.out.mono ?_
      rintro e w9 ⟨ku', nu', su', fu', Au, cu, hmu, rfl, hm9⟩
      rw [HMU.out] at hmu
      injection hmu with g1 g2 g3 g4 _
      subst g1 g2 g3 g4
      obtain ⟨Lu, u1, u2, u3, u4⟩ := hm9
      have hb10 : Below w9.heap.size w9 (w9.alloc (.cells #[.int .i64 ku, .int .i64 nu, .string su, .slice Au fu.len cu] 25)) := (Below.refl _ _).alloc (Nat.le_refl _) _
      have HB10 := Lib.hid (u4.trans (hb10.mono u4.size))
      have HKU : Hid (∀ wX, Below (w9.alloc (.cells #[.int .i64 ku, .int .i64 nu, .string su, .slice Au fu.len cu] 25)).heap.size (w9.alloc (.cells #[.int .i64 ku, .int .i64 nu, .string su, .slice Au fu.len cu] 25)) wX → KidsAt wX 0 wX.heap.size fu Au cu) := Lib.hid fun wX h =>
        (((u1.kids (lo := 0) fun x hx => ⟨Nat.zero_le _, u1.lt x hx⟩).below hb10 (Nat.le_refl _)).more (Nat.zero_le _) hb10.size |>.below h (Nat.le_refl _)).more (Nat.zero_le _) h.size
      have HQU := Lib.hid (Blk.new w9 25 #[.int .i64 ku, .int .i64 nu, .string su, .slice Au fu.len cu])
      have HP10 := Lib.hid (HP8.out.below HB10.out HP8.out.lt)
      have HQ10 := Lib.hid (HQ8.out.below HB10.out HQ8.out.lt)
      clear u1 u2 u3 u4 hb10 HCM
      have CP : ∀ wX, Below (w9.alloc (.cells #[.int .i64 ku, .int .i64 nu, .string su, .slice Au fu.len cu] 25)).heap.size (w9.alloc (.cells #[.int .i64 ku, .int .i64 nu, .string su, .slice Au fu.len cu] 25)) wX → Calls Tryd.prog 10 #[.slice A4 Fr.nil.len c4, .slice A5 Fr.nil.len c5] wX fun e w' => e = .returned (.bool true) ∧ Below wX.heap.size wX w' := fun wX h => by
        have h1 := pgT_any Fr.nil Fr.nil A4 A5 c4 c5 L4 L5 wX (HP10.out.below h HP10.out.lt) (HQ10.out.below h HQ10.out.lt) HN45.out (by have := HFN.out; omega)
        rwa [eqF_refl] at h1
      have HCP := Lib.hid CP
      have HBA := Lib.hid (HB8.out.trans (HB10.out.mono HB8.out.size))
      clear CP
      have hmb : mlB (.cons kx nx sx fx .nil) k n s f = true ∨ mlB (.cons kx nx sx fx .nil) k n s f = false := by cases mlB (.cons kx nx sx fx .nil) k n s f <;> simp
      rcases hmb with hmb | hmb
      · have HTL := Lib.hid (tail_list kx nx sx fx k n s f hmb)
        rw [hmb]
        clear hmb
        have hu := HMU.out
        rw [HTL.out.1] at hu
        injection hu with g1 g2 g3 g4 _
        subst g1 g2 g3 g4
        go_wp2_with fail
        generalize hw10 : w9.alloc (.cells #[.int .i64 3, .int .i64 0, .string dot, .slice Au (Fr.cons kx nx sx fx (.cons k n s f .nil)).len cu] 25) = w10 at *
        clear hw10
        refine (HCP.out _ (Below.refl _ _)).mono ?_
        rintro e w11 ⟨rfl, hb11⟩
        have HB11 := Lib.hid hb11
        clear hb11
        obtain ⟨x0, x1, x2, x3⟩ := cells4i (HQU.out.below HB11.out HQU.out.lt)
        go_wp2_with fail
        refine (implList_any 3 0 dot _ Au cu 0 w11.heap.size w11 (HKU.out _ HB11.out) (Nat.le_refl _) fits_dot (by have := HN.out; have := HNDX.out; simp only [nodes]; omega) (tab_below HT.out (HB3.out.trans ((HBA.out.trans (HB11.out.mono HBA.out.size)).mono HB3.out.size)) hlt)).mono ?_
        rintro e w12 ⟨hb12, hr12⟩
        have h12 : ∃ A12 c12, e = .returned (.tuple #[.slice A12 0 c12, .bool false]) := by
          rw [HTL.out.2.2.1, HTL.out.2.2.2.1] at hr12
          rcases hr12 with ⟨h, _⟩ | ⟨_, A, c, h, _⟩
          · have h2 := HV.out
            rw [HTL.out.2.1] at h2
            rw [h2] at h
            cases h
          · exact ⟨A, c, h⟩
        obtain ⟨A12, c12, rfl⟩ := h12
        have HB12 := Lib.hid (HB3.out.trans ((HBA.out.trans ((HB11.out.trans (hb12.mono HB11.out.size)).mono HBA.out.size)).mono HB3.out.size))
        clear x0 x1 x2 x3 hb12 hr12
        go_wp2_with fail
        go_quiet (fail)
        go_wp2_with fail
        go_ret
        exact ⟨rfl, HB12.out.trans (c := w12.drewN _) ⟨rfl, rfl, rfl, Nat.le_refl _, fun _ _ => rfl⟩⟩
      · rw [hmb]
        clear hmb
        go_wp2_with fail
        generalize w9.alloc (.cells #[.int .i64 ku, .int .i64 nu, .string su, .slice Au fu.len cu] 25) = w10 at *
        refine (HCP.out _ (Below.refl _ _)).mono ?_
        rintro e w11 ⟨rfl, hb11⟩
        have HB11 := Lib.hid hb11
        clear hb11
        go_wp2_with fail
        refine (HCP.out _ HB11.out).mono ?_
        rintro e w12 ⟨rfl, hb12⟩
        have HB12 := Lib.hid (HB3.out.trans ((HBA.out.trans ((HB11.out.trans (hb12.mono HB11.out.size)).mono HBA.out.size)).mono HB3.out.size))
        clear hb12
        go_wp2_with fail
        go_ret
        exact ⟨rfl, HB12.out⟩
  · by_cases h3 : len ≤ 1048576
    · have t0 : ¬ (len : Int) > 1048576 := by omega
      have t1 : (len' : Int) > 1048576 := by omega
      clear hb hc hm hb' hc' hm' ht h2
      go_enter Tryd.func5, Tryd.ntmps5
      go_wp2_with fail
      go_ret
      exact ⟨rfl, Below.refl _ _⟩
    · have t0 : (len : Int) > 1048576 := by omega
      clear hb hc hm hb' hc' hm' ht h2
      go_enter Tryd.func5, Tryd.ntmps5
      go_wp2_with fail
      go_ret
      exact ⟨rfl, Below.refl _ _⟩
end Go.Proofs.YtaodhmjlanhakaaDoor
