/- spec.l1Copy: a deep copy of a term. Condition: the term lies in memory. -/
import Derived.Test.YtihmgodiiohdnaaGreatDoorProg
import Derived.Test.YtihmgodiiohdnaaGreatDoorTo
import Derived.Test.YtihmgodiiohdnaaGreatDoorRowP
import Derived.Test.YtihmgodiiohdnaaGreatDoorImplV
import Derived.Test.YtihmgodiiohdnaaGreatDoorSpecC
import Derived.Deep.RegionLaw
namespace Go.Proofs.YtihmgodiiohdnaaGreatDoor
open Go.RowKit

def CpT (s : ByteArray) (f : Fr) : Prop := ∀ (k n : Int) (A : Option Addr) (cap lo hi : Nat) (w : World), KidsAt w lo hi f A cap → hi ≤ w.heap.size → Fits k n s → nodes f ≤ 1048576 →
  Calls Tryz.prog 60 #[.agg #[.int .i64 k, .int .i64 n, .string s, .slice A f.len cap]] w fun e w' => MadeT w k n s f e w'

/-- The loop's relation: j arguments are copied; the box of the argument, the result's and the copy's blocks lie at H, H + 1, H + 2. -/
def CpP (w : World) (k n : Int) (s : ByteArray) (f : Fr) (A : Option Addr) (cap H j : Nat) (v : Value) (wr : World) : Prop :=
  Blk wr H 30 #[.int .i64 k, .int .i64 n, .string s, .slice A f.len cap] ∧ Blk wr (H + 1) 30 #[.int .i64 0, .int .i64 0, .string ⟨#[]⟩, .slice none 0 0] ∧
  Blk wr (H + 1 + 1) 30 #[.int .i64 k, .int .i64 n, .string s, v] ∧ RowP (H + 1 + 1 + 1) v (f.take j) wr ∧ Below w.heap.size w wr ∧ H + 1 + 1 + 1 ≤ wr.heap.size ∧ w.heap.size ≤ H

theorem CpP.step {w wr w1 w2 w4 : World} {k n : Int} {s : ByteArray} {f : Fr} {A : Option Addr} {cap H j : Nat} {v : Value} {xs : List Value} {L : List Nat} {kk nn : Int} {s' : ByteArray} {kids rest : Fr} {A' : Option Addr} {cap' g cap4 : Nat}
    (h : CpP w k n s f A cap H j v wr) (hd : f.drop j = .cons kk nn s' kids rest) (hj : j < f.len) (hD : Desc wr (f.take j) xs L) (hN : L.Nodup) (hL : ∀ x ∈ L, H + 1 + 1 + 1 ≤ x ∧ x < wr.heap.size) (hv : ∀ g, v.ownBlock = some g → g ∉ L)
    (hvl : ∀ g, v.ownBlock = some g → H + 1 + 1 + 1 ≤ g ∧ g < wr.heap.size) (hf : Fits kk nn s') (hm : Made wr kids A' cap' w1) (hb2 : Below w1.heap.size w1 w2) (hg : w2.grownBy w4 v.ownBlock)
    (ho : w4.ownsRow (H + 1 + 1 + 1) 30 4 (.slice (some ⟨g, 0, none⟩) (j + 1) cap4) (j + 1) (xs ++ [.int .i64 kk, .int .i64 nn, .string s', .slice A' kids.len cap'])) (hat : v.ownBlock = some g ∨ g = w2.heap.size) :
    CpP w k n s f A cap H (j + 1) (.slice (some ⟨g, 0, none⟩) (j + 1) cap4) (w4.setCell ⟨H + 1 + 1, 3, none⟩ (.slice (some ⟨g, 0, none⟩) (j + 1) cap4)) := by
  obtain ⟨b0, b1, b2, hr, hb, hs, hH⟩ := h
  have hlen : (f.take j).len = j := Fr.len_take j f (by omega)
  have hm' := hm
  obtain ⟨_, _, _, _, hb1⟩ := hm'
  have far : ∀ x, x < H + 1 + 1 + 1 → w4.heap[x]? = wr.heap[x]? := fun x hx => by
    have h1 := hb1.size
    have h2 := hb2.size
    rw [hg.block x (by omega) fun e => by have := (hvl x e.symm).1; omega, hb2.block x (by omega), hb1.block x (by omega)]
  have hbw : Below w.heap.size w w4 := by
    have h1 := hb1.trans (hb2.mono hb1.size)
    have h2 := hb.trans (h1.mono hb.size)
    refine h2.grown hg h2.size fun g hg => ?_
    have := (hvl g hg).1; omega
  have hst := RowP.step (base := H + 1 + 1 + 1) hD hN hL hv (fun g hg => (hvl g hg).2) hs hf hm hb2 hg (by rw [hlen]; exact ho) hat
  rw [hlen, ← Fr.take_succ j f hd] at hst
  refine ⟨(b0.keep (far H (by omega))).far (by simp; omega) _, (b1.keep (far (H + 1) (by omega))).far (by simp) _, (b2.keep (far (H + 1 + 1) (by omega))).set_ 3 _, hst.set_ (by simp) _, hbw.setCell (by simp; omega) _, ?_, hH⟩
  have h1 := hb1.size
  have h2 := hb2.size
  have h3 := hg.size
  simp only [World.setCell, Array.size_modify]
  omega

set_option maxRecDepth 100000 in
set_option maxHeartbeats 8000000 in
theorem cpT_of (s : ByteArray) (f : Fr) (h : ∀ i k n s kids rest, f.drop i = .cons k n s kids rest → CpT s kids) : CpT s f := by
  intro k n A cap lo hi w hk hh hf hnd
  have HK := Lib.hid hk
  have HH := Lib.hid h
  have HHI := Lib.hid hh
  have HND := Lib.hid hnd
  have hl := hk.1
  have hm := hk.2.1
  have hl2 : f.len ≤ 1048576 := by have := len_le_nodes f; omega
  have hst : CpP w k n s f A cap w.heap.size 0 (.slice none 0 0) (((w.alloc (.cells #[.int .i64 k, .int .i64 n, .string s, .slice A f.len cap] 30)).alloc (.cells #[.int .i64 0, .int .i64 0, .string ⟨#[]⟩, .slice none 0 0] 30)).alloc (.cells #[.int .i64 k, .int .i64 n, .string s, .slice none 0 0] 30)) := by
    refine ⟨((Blk.new w _ _).alloc _).alloc _, ?_, ?_, RowP.nil _ _, (two_alloc w _ _).alloc (by simp; omega) _, by simp, Nat.le_refl _⟩
    · have h := (Blk.new (w.alloc (.cells #[.int .i64 k, .int .i64 n, .string s, .slice A f.len cap] 30)) 30 #[.int .i64 0, .int .i64 0, .string ⟨#[]⟩, .slice none 0 0]).alloc (.cells #[.int .i64 k, .int .i64 n, .string s, .slice none 0 0] 30)
      simpa using h
    · have h := Blk.new ((w.alloc (.cells #[.int .i64 k, .int .i64 n, .string s, .slice A f.len cap] 30)).alloc (.cells #[.int .i64 0, .int .i64 0, .string ⟨#[]⟩, .slice none 0 0] 30)) 30 #[.int .i64 k, .int .i64 n, .string s, .slice none 0 0]
      simpa using h
  unfold maxLen at hm
  clear hk h hh hnd
  obtain ⟨i0, hi0, hz0, hz1, hz2⟩ := info_parts infoT
  generalize hn : f.len = len at *
  have HN := Lib.hid hn
  have HST := Lib.hid hst
  clear hn hst
  go_enter Tryz.func60, Tryz.ntmps60
  go_wp2_with fail
  go_loopw [4] (fun i wr => ∃ (j : Nat) (v : Value), j ≤ len ∧ i = .int .i64 j ∧ CpP w k n s f A cap w.heap.size j v wr) (fun i _ => len - (intOf i).toNat)
  case atStart => exact ⟨0, .slice none 0 0, Nat.zero_le _, rfl, HST.out⟩
  case round =>
    obtain ⟨j, v, hj, rfl, hp⟩ := hrel
    have HP := Lib.hid hp
    obtain ⟨b0, b1, b2, hr, hb, hs, hH⟩ := hp
    have a3 := b0.cell 3
    simp only [List.getElem?_toArray, List.getElem?_cons_zero, List.getElem?_cons_succ, HN.out] at a3
    by_cases hlt : j < len
    · obtain ⟨kk, nn, s', kids, hd⟩ := Fr.drop_cons j f (by rw [HN.out]; exact hlt)
      obtain ⟨b, o, rfl, hlb, hbb, hrow⟩ := HK.out.2.2 (by rw [HN.out]; omega)
      obtain ⟨hfit, A', cap', c0, c1, c2, c3, hkid⟩ := hrow.elem hd
      have hlo : (⟨b, o, none⟩ : Addr).block < w.heap.size := Nat.lt_of_lt_of_le hbb HHI.out
      have k0 := (hb.cell (p := ⟨b, o + j * 4, none⟩) hlo).trans c0
      have k1 := (hb.cell (p := ⟨b, o + j * 4 + 1, none⟩) hlo).trans c1
      have k2 := (hb.cell (p := ⟨b, o + j * 4 + 2, none⟩) hlo).trans c2
      have k3 := (hb.cell (p := ⟨b, o + j * 4 + 3, none⟩) hlo).trans c3
      obtain ⟨xs, L, hown, hD, hN, hL, hv⟩ := hr
      rw [Fr.len_take j f (by rw [HN.out]; omega)] at hown
      have hvl := hown.lt
      have x3 := b2.cell 3
      have xf := b2.frozen 3
      simp only [List.getElem?_toArray, List.getElem?_cons_zero, List.getElem?_cons_succ] at x3
      have hsz : w.heap.size + 1 + 1 < wr.heap.size := by omega
      have C2 : ∀ w1, Below wr.heap.size wr w1 → Calls Tryz.prog 60 #[.agg #[.int .i64 kk, .int .i64 nn, .string s', .slice A' kids.len cap']] w1 fun e w' => MadeT w1 kk nn s' kids e w' := fun w1 hb1 => by
        have hb2 := hb.trans (hb1.mono hb.size)
        refine HH.out _ _ _ _ _ _ hd kk nn A' cap' lo hi w1 (hkid.below hb2 HHI.out) (Nat.le_trans HHI.out hb2.size) hfit ?_
        have := nodes_elem j f hd
        have := HND.out
        omega
      have STEP := fun (A2 : Option Addr) (cap2 : Nat) (w1 w2 w4 : World) (g cap4 : Nat) hm hb2 hg ho hat => HP.out.step (w1 := w1) (w2 := w2) (w4 := w4) (A' := A2) (cap' := cap2) (g := g) (cap4 := cap4) hd (by rw [HN.out]; exact hlt) hD hN hL hv hvl hfit hm hb2 hg ho hat
      have H2 := Lib.hid C2
      have HSTEP := Lib.hid STEP
      have HOWN := Lib.hid hown
      have hne : some (w.heap.size + 1 + 1) ≠ v.ownBlock := fun e => by have := (hvl _ e.symm).1; omega
      have keep : ∀ w2, Below wr.heap.size wr w2 → w2.ownsRow (w.heap.size + 1 + 1 + 1) 30 4 v j xs := fun w2 hb2 =>
        hown.kept (row := none) ⟨hb2.os, hb2.tape, hb2.output, hb2.size, fun k hk _ => hb2.block k hk⟩ (by
          cases h : v.ownBlock with
          | none => exact .inl rfl
          | some g => exact .inr (by simp))
      have HNE := Lib.hid hne
      have HKEEP := Lib.hid keep
      have HB2 := Lib.hid b2
      have hHs : w.heap.size ≤ wr.heap.size := by omega
      have ij0 : (0 : Int) ≤ (j : Int) := Int.natCast_nonneg _
      have ij1 : (j : Int) < (len : Int) := by omega
      clear C2 STEP hown hD hN hL hv hvl hb hH b0 b1 b2 hrow hkid hd c0 c1 c2 c3 hfit hlo hne keep
      go_wp2_with fail
      go_region_law (first
        | (refine step_append_lies _ (by rfl) _ _ _ (by rfl) (w.heap.size + 1 + 1 + 1) 30 i0 _ 4 56 Tryz.underlying28 hi0 hz0 hz1 hz2 rfl (by omega) v j xs (by rfl) (HO2.out.alloc _)
             ⟨w2.heap.size, 0, none⟩ 1 1 [.int .i64 kk, .int .i64 nn, .string s', .slice A2 kids.len cap2] (by rfl) (by rfl) (World.news_of_block (cs := #[.int .i64 kk, .int .i64 nn, .string s', .slice A2 kids.len cap2]) (fr := (0, 0)) (heap_alloc_new w2 _)) (by simp [Value.oneCell'])
             (by omega) (by unfold maxLen; omega) (by omega) (by simp; omega) (w2.heap.size + 1) (by simp) ?_
           intro g cap4 w4 hown4 hgrow hat hlt4
           have q4 := (HQ2.out.alloc (.cells #[.int .i64 kk, .int .i64 nn, .string s', .slice A2 kids.len cap2] 30)).keep (hgrow.block _ (by simp; omega) HNE.out)
           have z3 := q4.cell 3
           have zf := q4.frozen 3
           simp only [List.getElem?_toArray, List.getElem?_cons_zero, List.getElem?_cons_succ] at z3
           clear q4
           have HOWN4 := Lib.hid hown4
           have HGROW := Lib.hid hgrow
           have HAT := Lib.hid hat
           clear hown4 hgrow hat)
        | (go_simp
           go_at_call 60
           refine (H2.out _ (Below.refl _ _).drew).mono ?_
           rintro e w2 ⟨A2, cap2, rfl, hm2⟩
           have hd2 : Below wr.heap.size wr w2 := (Below.refl wr.heap.size wr).drew.trans (by obtain ⟨L, _, _, _, h⟩ := hm2; exact h)
           have y3 := (hd2.cell (p := ⟨w.heap.size + 1 + 1, 3, none⟩) hsz).trans x3
           have hs2 : wr.heap.size ≤ w2.heap.size := hd2.size
           have HO2 := Lib.hid (HKEEP.out w2 hd2)
           have HQ2 := Lib.hid (HB2.out.below hd2 hsz)
           have y4 := (HQ2.out.alloc (.cells #[.int .i64 kk, .int .i64 nn, .string s', .slice A2 kids.len cap2] 30)).cell 3
           simp only [List.getElem?_toArray, List.getElem?_cons_zero, List.getElem?_cons_succ] at y4
           have HM := Lib.hid hm2
           clear hm2 hd2))
      all_goals
        go_wp2_with fail
        go_roundw
        case rel => exact ⟨j + 1, _, by omega, by go_num, HSTEP.out A2 cap2 w2 _ w4 g cap4 (drew_made HM.out) ((Below.refl _ _).alloc (Nat.le_refl _) _) HGROW.out HOWN4.out (by rw [show (w2.alloc (.cells #[.int .i64 kk, .int .i64 nn, .string s', .slice A2 kids.len cap2] 30)).heap.size = w2.heap.size + 1 by simp]; exact HAT.out)⟩
        case measure => simp [intOf]; omega
    · obtain rfl : j = len := by omega
      have x0 := b2.cell 0
      have x1 := b2.cell 1
      have x2 := b2.cell 2
      have x3 := b2.cell 3
      have d0 := b1.cell 0
      have d1 := b1.cell 1
      have d2 := b1.cell 2
      have d3 := b1.cell 3
      have g0 := b1.frozen 0
      have g1 := b1.frozen 1
      have g2 := b1.frozen 2
      have g3 := b1.frozen 3
      simp only [List.getElem?_toArray, List.getElem?_cons_zero, List.getElem?_cons_succ] at x0 x1 x2 x3 d0 d1 d2 d3
      rw [← HN.out, Fr.take_len] at hr
      obtain ⟨A2, cap2, rfl⟩ := hr.form
      have HB1 := Lib.hid b1
      have HR := Lib.hid hr
      have HB := Lib.hid hb
      clear b0 b1 b2 hr hb HP
      go_wp2_with fail
      have e1 := (((HB1.out.set_ 0 (.int .i64 k)).set_ 1 (.int .i64 n)).set_ 2 (.string s)).set_ 3 (.slice A2 f.len cap2)
      have hr2 := (((HR.out.set_ (p := ⟨w.heap.size + 1, 0, none⟩) (by simp) (.int .i64 k)).set_ (p := ⟨w.heap.size + 1, 1, none⟩) (by simp) (.int .i64 n)).set_ (p := ⟨w.heap.size + 1, 2, none⟩) (by simp) (.string s)).set_ (p := ⟨w.heap.size + 1, 3, none⟩) (by simp) (.slice A2 f.len cap2)
      refine bodyPost_ret (v := .agg #[.int .i64 k, .int .i64 n, .string s, .slice A2 f.len cap2]) ?_ rfl ⟨A2, cap2, rfl, hr2.done ?_ (by omega)⟩
      · exact results_cell_row Tryz.results60 _ _ (w.heap.size + 1) _ _ _ _ rfl e1 Tryz.underlying30 rfl (by kernel_rfl)
      · exact (((HB.out.setCell (p := ⟨w.heap.size + 1, 0, none⟩) (by simp) _).setCell (p := ⟨w.heap.size + 1, 1, none⟩) (by simp) _).setCell (p := ⟨w.heap.size + 1, 2, none⟩) (by simp) _).setCell (p := ⟨w.heap.size + 1, 3, none⟩) (by simp) _
theorem cp_all (N : Nat) : ∀ (s : ByteArray) (f : Fr), f.size ≤ N → CpT s f := by
  induction N with
  | zero =>
    intro s f hf
    refine cpT_of s f fun i k n s kids rest hd => ?_
    have h1 := Fr.size_drop i f
    rw [hd] at h1
    simp only [Fr.size] at h1
    omega
  | succ N ih =>
    intro s f hf
    refine cpT_of s f fun i k n s kids rest hd => ih s kids ?_
    have h1 := Fr.size_drop i f
    rw [hd] at h1
    simp only [Fr.size] at h1
    omega
/-- spec.l1Copy. -/
theorem cpT_any (s : ByteArray) (f : Fr) : CpT s f := cp_all f.size s f (Nat.le_refl _)
end Go.Proofs.YtihmgodiiohdnaaGreatDoor
