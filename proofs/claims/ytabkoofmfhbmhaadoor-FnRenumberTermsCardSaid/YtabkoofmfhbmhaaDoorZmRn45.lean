/- spec.l1Renumber, spec.RenumberTerms. Condition: the row lies in memory. -/
import Derived.Test.YtabkoofmfhbmhaaDoorProg
import Derived.Test.YtabkoofmfhbmhaaDoorZmRn40
import Derived.Test.YtabkoofmfhbmhaaDoorAll
namespace Go.Proofs.YtabkoofmfhbmhaaDoor
open Go.RowKit

theorem addV_nodup {acc : List Int} (h : acc.Nodup) (n : Int) : (addV acc n).Nodup := by
  unfold addV
  split
  · exact h
  · rename_i hn
    have hm : n ∉ acc := fun e => hn (List.contains_iff_mem.2 e)
    refine List.nodup_append.2 ⟨h, by simp, fun a ha b hb e => ?_⟩
    have hb' : b = n := by simpa using hb
    subst e hb'
    exact hm ha
theorem varsF_nodup (f : Fr) : ∀ acc : List Int, acc.Nodup → (varsF acc f).Nodup := by
  induction f with
  | nil => intro acc h; exact h
  | cons k n s kids rest ihk ihr =>
    intro acc h
    simp only [varsF]
    refine ihr _ ?_
    split
    · exact addV_nodup h n
    · exact ihk acc h
theorem made_below' {w w2 : World} {f : Fr} {A : Option Addr} {cap : Nat} (h : Made w f A cap w2) : Below w.heap.size w w2 := by
  obtain ⟨L, _, _, _, h4⟩ := h
  exact h4
/-- The variables of the terms of a row. -/
def allVars (f : Fr) : List Int := varsF [] f

set_option maxRecDepth 100000 in
set_option maxHeartbeats 4000000 in
/-- spec.l1Renumber. -/
theorem specRen_any (f : Fr) (A : Option Addr) (cap lo hi : Nat) (w : World) (hk : KidsAt w lo hi f A cap) (hh : hi ≤ w.heap.size) (hnd : nodes f ≤ 1048576) :
    Calls Tryd.prog 35 #[.slice A f.len cap] w fun e w' => MadeS w (renF (allVars f) f) e w' := by
  have HK := Lib.hid hk
  have hl := hk.1
  have hm := hk.2.1
  have hl2 : f.len ≤ 1048576 := by have := len_le_nodes f; omega
  unfold maxLen at hm
  have HND := Lib.hid hnd
  have hVN : (allVars f).Nodup := varsF_nodup f [] List.nodup_nil
  have hVL : (allVars f).length ≤ 1048576 := by have := varsF_len f []; unfold allVars; simp at this; omega
  have hv0 : varsF [] f = allVars f := rfl
  generalize allVars f = V at *
  have HV0 := Lib.hid hv0
  generalize hn : f.len = len at *
  have HN := Lib.hid hn
  have HVN := Lib.hid hVN
  have hb0 : Below w.heap.size w (w.alloc (.cells #[] 3)) := (Below.refl _ _).alloc (Nat.le_refl _) _
  have HB0 := Lib.hid hb0
  clear hk hnd hv0 hn hVN hb0
  obtain ⟨i0, hi0, hz0, hz1, hz2⟩ := info_parts infoT
  go_enter Tryd.func35, Tryd.ntmps35
  go_wp2_with fail
  go_loopw [4, 3] (fun i o wr => ∃ (j : Nat) (a : List Int) (v : Value), j ≤ len ∧ i = .int .i64 j ∧ v = o ∧ OwnI wr w.heap.size v a ∧ varsF a (f.drop j) = V ∧ a.length + nodes (f.drop j) ≤ nodes f ∧ Below w.heap.size w wr) (fun i _ _ => len - (intOf i).toNat)
  case atStart => exact ⟨0, [], _, Nat.zero_le _, rfl, rfl, OwnI.empty w (Nat.le_refl _), HV0.out, by show 0 + nodes f ≤ nodes f; omega, HB0.out⟩
  case round =>
    obtain ⟨j, a, v, hj, rfl, rfl, hoa, hva, hla, hb⟩ := hrel
    by_cases hlt : j < len
    · obtain ⟨kk, nn, s', kids, hd⟩ := Fr.drop_cons j f (by rw [HN.out]; exact hlt)
      obtain ⟨b, o, rfl, hlb, hbb, hrow⟩ := HK.out.2.2 (by rw [HN.out]; omega)
      obtain ⟨hfit, A', cap', c0, c1, c2, c3, hkid⟩ := hrow.elem hd
      have hlo : (⟨b, o, none⟩ : Addr).block < w.heap.size := Nat.lt_of_lt_of_le hbb hh
      have k0 := (hb.cell (p := ⟨b, o + j * 4, none⟩) hlo).trans c0
      have k1 := (hb.cell (p := ⟨b, o + j * 4 + 1, none⟩) hlo).trans c1
      have k2 := (hb.cell (p := ⟨b, o + j * 4 + 2, none⟩) hlo).trans c2
      have k3 := (hb.cell (p := ⟨b, o + j * 4 + 3, none⟩) hlo).trans c3
      have e1 : nodes (f.drop j) = 1 + nodes kids + nodes (f.drop (j + 1)) := by rw [hd]; rfl
      have hvl := varsT_len a kk nn kids
      have hva' : varsF (varsT a kk nn kids) (f.drop (j + 1)) = V := by rw [hd] at hva; exact hva
      have hal := hoa.lt
      have C2 := va_all kids.size s' kids (Nat.le_refl _) kk nn A' cap' lo hi w.heap.size a v wr (hkid.below hb hh) hh hb.size hoa (by have := HND.out; omega)
      have HNX : Hid (∀ v2 w3, OwnI w3 w.heap.size v2 (varsT a kk nn kids) → Wrote (ownV v) wr w3 →
          OwnI w3 w.heap.size v2 (varsT a kk nn kids) ∧ varsF (varsT a kk nn kids) (f.drop (j + 1)) = V ∧ (varsT a kk nn kids).length + nodes (f.drop (j + 1)) ≤ nodes f ∧ Below w.heap.size w w3) := Lib.hid fun v2 w3 h2 hw3 =>
        ⟨h2, hva', by omega, hb.trans (hw3.below hb.size fun x hx => (hal x hx).1)⟩
      have H2 := Lib.hid C2
      clear C2 hoa hva hva' hla hb hvl hal c0 c1 c2 c3 hkid hrow hfit hd e1
      go_wp2_with fail
      refine H2.out.mono ?_
      rintro e w3 ⟨v2, rfl, h2, hw3, hn2⟩
      have HX := Lib.hid (HNX.out v2 w3 h2 hw3)
      clear h2 hw3 hn2
      go_wp2_with fail
      go_roundw
      case rel => exact ⟨j + 1, _, v2, by omega, by go_num, rfl, HX.out⟩
      case measure => simp [intOf]; omega
    · obtain rfl : j = len := by omega
      have he : a = V := by
        have h1 := Fr.drop_len f
        rw [HN.out] at h1
        rw [← hva, h1]; rfl
      subst he
      have hal := hoa.lt
      have hsw := hb.size
      have HOA := Lib.hid hoa
      have HB := Lib.hid hb
      have hst : RowP wr.heap.size (.slice (some ⟨wr.heap.size, 0, none⟩) 0 0) ((renF a f).take 0) (wr.alloc (.cells #[] 31)) := by
        rw [show (renF a f).take 0 = .nil by cases renF a f <;> rfl]
        exact RowP.empty (Nat.le_refl _)
      have HST := Lib.hid hst
      have hb1 : Below wr.heap.size wr (wr.alloc (.cells #[] 31)) := (Below.refl _ _).alloc (Nat.le_refl _) _
      have HB1 := Lib.hid hb1
      clear hoa hb hva hla hst hb1 hal HV0
      generalize wr = wq at *
      go_wp2_with fail
      go_loopw [6, 5] (fun i o wr => ∃ (j2 : Nat) (v2 : Value), j2 ≤ j ∧ i = .int .i64 j2 ∧ v2 = o ∧ RowP wq.heap.size v2 ((renF a f).take j2) wr ∧ Below wq.heap.size wq wr) (fun i _ _ => j - (intOf i).toNat)
      case atStart => exact ⟨0, _, Nat.zero_le _, rfl, rfl, HST.out, HB1.out⟩
      case round =>
        obtain ⟨j2, v2, hj2, rfl, rfl, hr, hbx⟩ := hrel
        by_cases hlt2 : j2 < j
        · obtain ⟨kk, nn, s', kids, hd⟩ := Fr.drop_cons j2 f (by rw [HN.out]; exact hlt2)
          obtain ⟨b, o, rfl, hlb, hbb, hrow⟩ := HK.out.2.2 (by rw [HN.out]; omega)
          obtain ⟨hfit, A', cap', c0, c1, c2, c3, hkid⟩ := hrow.elem hd
          have hbw : Below w.heap.size w wr := HB.out.trans (hbx.mono HB.out.size)
          have hlo : (⟨b, o, none⟩ : Addr).block < w.heap.size := Nat.lt_of_lt_of_le hbb hh
          have k0 := (hbw.cell (p := ⟨b, o + j2 * 4, none⟩) hlo).trans c0
          have k1 := (hbw.cell (p := ⟨b, o + j2 * 4 + 1, none⟩) hlo).trans c1
          have k2 := (hbw.cell (p := ⟨b, o + j2 * 4 + 2, none⟩) hlo).trans c2
          have k3 := (hbw.cell (p := ⟨b, o + j2 * 4 + 3, none⟩) hlo).trans c3
          obtain ⟨xs, L, hown, hD, hN, hL, hv⟩ := hr
          have hlen : ((renF a f).take j2).len = j2 := Fr.len_take j2 _ (by rw [renF_len, HN.out]; omega)
          have hvl := hown.lt
          have hnk := nodes_drop_elem j2 f hd
          have C2 := rnT_any s' kids kk nn A' cap' lo hi w.heap.size a v wr (hkid.below hbw hh) (Nat.le_trans hh hbw.size) hfit (by have := HND.out; omega) (HOA.out.below hbx) HVN.out (by omega)
          have HSTEP : Hid (∀ A2 cap2 w2 w4 g cap4, Made wr (renF a kids) A2 cap2 w2 → (w2.alloc (.cells #[.int .i64 kk, .int .i64 (renN a kk nn), .string s', .slice A2 (renF a kids).len cap2] 31)).grownBy w4 v2.ownBlock →
              w4.ownsRow wq.heap.size 31 4 (.slice (some ⟨g, 0, none⟩) (j2 + 1) cap4) (j2 + 1) (xs ++ [.int .i64 kk, .int .i64 (renN a kk nn), .string s', .slice A2 (renF a kids).len cap2]) → (v2.ownBlock = some g ∨ g = w2.heap.size + 1) →
              RowP wq.heap.size (.slice (some ⟨g, 0, none⟩) (j2 + 1) cap4) ((renF a f).take (j2 + 1)) w4 ∧ Below wq.heap.size wq w4) := Lib.hid fun A2 cap2 w2 w4 g cap4 hm2 hg ho hat => by
            have hb2 := made_below' hm2
            have hb3 : Below w2.heap.size w2 (w2.alloc (.cells #[.int .i64 kk, .int .i64 (renN a kk nn), .string s', .slice A2 (renF a kids).len cap2] 31)) := (Below.refl _ _).alloc (Nat.le_refl _) _
            have hst := RowP.step (base := wq.heap.size) hD hN hL hv (fun g hg => (hvl g hg).2) hbx.size (renN_fits a hfit (by omega)) hm2 hb3 hg (by rw [hlen]; exact ho) (by simpa using hat)
            rw [hlen, ← Fr.take_succ j2 (renF a f) (show (renF a f).drop j2 = .cons kk (renN a kk nn) s' (renF a kids) (renF a (f.drop (j2 + 1))) by rw [renF_drop, hd]; rfl)] at hst
            refine ⟨hst, ?_⟩
            have h3 := hbx.trans ((hb2.trans (hb3.mono hb2.size)).mono hbx.size)
            exact h3.grown hg h3.size fun g hg => (hvl g hg).1
          rw [hlen] at hown
          have hkeep : ∀ A2 cap2 w2, Made wr (renF a kids) A2 cap2 w2 → w2.ownsRow wq.heap.size 31 4 v2 j2 xs ∧ wr.heap.size ≤ w2.heap.size := fun A2 cap2 w2 hm2 => by
            have hb2 := made_below' hm2
            exact ⟨hown.kept (row := none) ⟨hb2.os, hb2.tape, hb2.output, hb2.size, fun k hk _ => hb2.block k hk⟩ (by
              cases h : v2.ownBlock with
              | none => exact .inl rfl
              | some g => exact .inr (by simp)), hb2.size⟩
          have hwx := hbx.size
          have H2 := Lib.hid C2
          have HKEEP := Lib.hid hkeep
          clear C2 hkeep hown hD hN hL hv hvl hbx hbw hd hrow hkid c0 c1 c2 c3 hfit hlen
          go_wp2_with fail
          refine H2.out.mono ?_
          rintro e w2 ⟨A2, cap2, rfl, hm2⟩
          obtain ⟨ho2, hs2⟩ := HKEEP.out A2 cap2 w2 hm2
          have HO2 := Lib.hid ho2
          have HM2 := Lib.hid hm2
          clear ho2 hm2
          go_wp2_with (at_builtin; go_must (refine wpList_append_lies _ rfl _ _ _ rfl wq.heap.size 31 i0 _ 4 56 Tryd.underlying23 hi0 hz0 hz1 hz2 rfl (by omega) v2 j2 xs rfl (HO2.out.alloc _) ⟨w2.heap.size, 0, none⟩ 1 1 [.int .i64 kk, .int .i64 (renN a kk nn), .string s', .slice A2 (renF a kids).len cap2] rfl rfl (World.news_of_block (cs := #[.int .i64 kk, .int .i64 (renN a kk nn), .string s', .slice A2 (renF a kids).len cap2]) (fr := (0, 0)) (heap_alloc_new w2 _)) (by simp [Value.oneCell']) (by omega) (by unfold maxLen; omega) (by omega) (by simp; omega) (w2.heap.size + 1) (by simp) ?_); intro g cap4 w6 hown6 hgrow hat hlt6; have HS := Lib.hid (HSTEP.out A2 cap2 w2 w6 g cap4 HM2.out hgrow hown6 hat); clear hown6 hgrow hat)
          go_roundw
          case rel => exact ⟨j2 + 1, _, by omega, by go_num, rfl, HS.out⟩
          case measure => simp [intOf]; omega
        · obtain rfl : j2 = j := by omega
          rw [← HN.out, ← renF_len a f, Fr.take_len] at hr
          obtain ⟨A2, cap2, rfl⟩ := hr.form
          have HF : Hid (Made w (renF a f) A2 cap2 wr) := Lib.hid (hr.done (HB.out.trans (hbx.mono HB.out.size)) hsw)
          clear hr hbx
          go_wp2_with fail
          go_ret
          exact ⟨A2, cap2, rfl, HF.out⟩
end Go.Proofs.YtabkoofmfhbmhaaDoor
