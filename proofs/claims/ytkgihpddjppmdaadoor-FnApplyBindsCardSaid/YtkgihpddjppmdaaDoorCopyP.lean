/- spec.l1Copy, with how the row of its answer lies. Condition: the term lies in memory. -/
import Derived.Test.YtkgihpddjppmdaaDoorProg
import Derived.Test.YtkgihpddjppmdaaDoorCopy
namespace Go.Proofs.YtkgihpddjppmdaaDoor
open Go.RowKit

theorem RowP.lower {w : World} {base base' : Nat} {v : Value} {f : Fr} (h : RowP base v f w) (hb : base' ≤ base) : RowP base' v f w := by
  obtain ⟨xs, L, ho, hd, hn, hL, hv⟩ := h
  refine ⟨xs, L, ⟨ho.1, ?_⟩, hd, hn, fun x hx => ⟨Nat.le_trans hb (hL x hx).1, (hL x hx).2⟩, hv⟩
  rcases ho.2 with h | ⟨g, cap, cur, rfl, hg, hr⟩
  · exact .inl h
  · exact .inr ⟨g, cap, cur, rfl, Nat.le_trans hb hg, hr⟩
/-- What spec.l1Copy leaves. -/
def MadeP (w : World) (k n : Int) (s : ByteArray) (f : Fr) (e : Ending) (w' : World) : Prop := ∃ v, e = .returned (.agg #[.int .i64 k, .int .i64 n, .string s, v]) ∧ RowP w.heap.size v f w' ∧ Below w.heap.size w w'

set_option maxRecDepth 100000 in
set_option maxHeartbeats 8000000 in
/-- spec.l1Copy, and how its row lies. -/
theorem cpP_any (s : ByteArray) (f : Fr) (k n : Int) (A : Option Addr) (cap lo hi : Nat) (w : World) (hk : KidsAt w lo hi f A cap) (hh : hi ≤ w.heap.size) (hnd : nodes f ≤ 1048576) :
    Calls Tryd.prog 25 #[.agg #[.int .i64 k, .int .i64 n, .string s, .slice A f.len cap]] w fun e w' => MadeP w k n s f e w' := by
  have HK := Lib.hid hk
  have HHI := Lib.hid hh
  have HND := Lib.hid hnd
  have hl := hk.1
  have hm := hk.2.1
  have hl2 : f.len ≤ 1048576 := by have := len_le_nodes f; omega
  have hst : CpP w k n s f A cap w.heap.size 0 (.slice none 0 0) (((w.alloc (.cells #[.int .i64 k, .int .i64 n, .string s, .slice A f.len cap] 25)).alloc (.cells #[.int .i64 0, .int .i64 0, .string ⟨#[]⟩, .slice none 0 0] 25)).alloc (.cells #[.int .i64 k, .int .i64 n, .string s, .slice none 0 0] 25)) := by
    refine ⟨((Blk.new w _ _).alloc _).alloc _, ?_, ?_, RowP.nil _ _, (two_alloc w _ _).alloc (by simp; omega) _, by simp, Nat.le_refl _⟩
    · have h := (Blk.new (w.alloc (.cells #[.int .i64 k, .int .i64 n, .string s, .slice A f.len cap] 25)) 25 #[.int .i64 0, .int .i64 0, .string ⟨#[]⟩, .slice none 0 0]).alloc (.cells #[.int .i64 k, .int .i64 n, .string s, .slice none 0 0] 25)
      simpa using h
    · have h := Blk.new ((w.alloc (.cells #[.int .i64 k, .int .i64 n, .string s, .slice A f.len cap] 25)).alloc (.cells #[.int .i64 0, .int .i64 0, .string ⟨#[]⟩, .slice none 0 0] 25)) 25 #[.int .i64 k, .int .i64 n, .string s, .slice none 0 0]
      simpa using h
  unfold maxLen at hm
  clear hk hh hnd
  obtain ⟨i0, hi0, hz0, hz1, hz2⟩ := info_parts infoT
  generalize hn : f.len = len at *
  have HN := Lib.hid hn
  have HST := Lib.hid hst
  clear hn hst
  go_enter Tryd.func25, Tryd.ntmps25
  go_wp2_with fail
  go_loopw [4] (fun i wr => ∃ (j : Nat) (v : Value), j ≤ len ∧ i = .int .i64 j ∧ CpP w k n s f A cap w.heap.size j v wr) (fun i _ => len - (intOf i).toNat)
  case atStart => exact ⟨0, .slice none 0 0, Nat.zero_le _, rfl, HST.out⟩
  case round =>
    obtain ⟨j, v, hj, rfl, hp⟩ := hrel
    have HP := Lib.hid hp
    obtain ⟨b0, b1, b2, hr, hb, hs, hH⟩ := hp
    have a3 := b0.cell 3
    simp only [List.getElem?_toArray, List.getElem?_cons_zero, List.getElem?_cons_succ, HN.out] at a3
    by_cases hlt : j < len
    · obtain ⟨kk, nn, s', kids, hd⟩ := Fr.drop_cons j f (by rw [HN.out]; exact hlt)
      obtain ⟨b, o, rfl, hlb, hbb, hrow⟩ := HK.out.2.2 (by rw [HN.out]; omega)
      obtain ⟨hfit, A', cap', c0, c1, c2, c3, hkid⟩ := hrow.elem hd
      have hlo : (⟨b, o, none⟩ : Addr).block < w.heap.size := Nat.lt_of_lt_of_le hbb HHI.out
      have k0 := (hb.cell (p := ⟨b, o + j * 4, none⟩) hlo).trans c0
      have k1 := (hb.cell (p := ⟨b, o + j * 4 + 1, none⟩) hlo).trans c1
      have k2 := (hb.cell (p := ⟨b, o + j * 4 + 2, none⟩) hlo).trans c2
      have k3 := (hb.cell (p := ⟨b, o + j * 4 + 3, none⟩) hlo).trans c3
      obtain ⟨xs, L, hown, hD, hN, hL, hv⟩ := hr
      rw [Fr.len_take j f (by rw [HN.out]; omega)] at hown
      have hvl := hown.lt
      have x3 := b2.cell 3
      have xf := b2.frozen 3
      simp only [List.getElem?_toArray, List.getElem?_cons_zero, List.getElem?_cons_succ] at x3
      have hsz : w.heap.size + 1 + 1 < wr.heap.size := by omega
      have C2 : ∀ w1, Below wr.heap.size wr w1 → Calls Tryd.prog 25 #[.agg #[.int .i64 kk, .int .i64 nn, .string s', .slice A' kids.len cap']] w1 fun e w' => MadeT w1 kk nn s' kids e w' := fun w1 hb1 => by
        have hb2 := hb.trans (hb1.mono hb.size)
        refine cpT_any s' kids kk nn A' cap' lo hi w1 (hkid.below hb2 HHI.out) (Nat.le_trans HHI.out hb2.size) hfit ?_
        have := nodes_elem j f hd
        have := HND.out
        omega
      have STEP := fun (A2 : Option Addr) (cap2 : Nat) (w1 w2 w4 : World) (g cap4 : Nat) hm hb2 hg ho hat => HP.out.step (w1 := w1) (w2 := w2) (w4 := w4) (A' := A2) (cap' := cap2) (g := g) (cap4 := cap4) hd (by rw [HN.out]; exact hlt) hD hN hL hv hvl hfit hm hb2 hg ho hat
      have H2 := Lib.hid C2
      have HSTEP := Lib.hid STEP
      have HOWN := Lib.hid hown
      have hne : some (w.heap.size + 1 + 1) ≠ v.ownBlock := fun e => by have := (hvl _ e.symm).1; omega
      have keep : ∀ w2, Below wr.heap.size wr w2 → w2.ownsRow (w.heap.size + 1 + 1 + 1) 25 4 v j xs := fun w2 hb2 =>
        hown.kept (row := none) ⟨hb2.os, hb2.tape, hb2.output, hb2.size, fun k hk _ => hb2.block k hk⟩ (by
          cases h : v.ownBlock with
          | none => exact .inl rfl
          | some g => exact .inr (by simp))
      have HNE := Lib.hid hne
      have HKEEP := Lib.hid keep
      have HB2 := Lib.hid b2
      have hHs : w.heap.size ≤ wr.heap.size := by omega
      have ij0 : (0 : Int) ≤ (j : Int) := Int.natCast_nonneg _
      have ij1 : (j : Int) < (len : Int) := by omega
      clear C2 STEP hown hD hN hL hv hvl hb hH b0 b1 b2 hrow hkid hd c0 c1 c2 c3 hfit hlo hne keep
      go_wp2_with fail
      go_region_law (first
        | (refine step_append_lies _ (by rfl) _ _ _ (by rfl) (w.heap.size + 1 + 1 + 1) 25 i0 _ 4 56 Tryd.underlying23 hi0 hz0 hz1 hz2 rfl (by omega) v j xs (by rfl) (HO2.out.alloc _)
             ⟨w2.heap.size, 0, none⟩ 1 1 [.int .i64 kk, .int .i64 nn, .string s', .slice A2 kids.len cap2] (by rfl) (by rfl) (World.news_of_block (cs := #[.int .i64 kk, .int .i64 nn, .string s', .slice A2 kids.len cap2]) (fr := (0, 0)) (heap_alloc_new w2 _)) (by simp [Value.oneCell'])
             (by omega) (by unfold maxLen; omega) (by omega) (by simp; omega) (w2.heap.size + 1) (by simp) ?_
           intro g cap4 w4 hown4 hgrow hat hlt4
           have q4 := (HQ2.out.alloc (.cells #[.int .i64 kk, .int .i64 nn, .string s', .slice A2 kids.len cap2] 25)).keep (hgrow.block _ (by simp; omega) HNE.out)
           have z3 := q4.cell 3
           have zf := q4.frozen 3
           simp only [List.getElem?_toArray, List.getElem?_cons_zero, List.getElem?_cons_succ] at z3
           clear q4
           have HOWN4 := Lib.hid hown4
           have HGROW := Lib.hid hgrow
           have HAT := Lib.hid hat
           clear hown4 hgrow hat)
        | (go_simp
           go_at_call 25
           refine (H2.out _ (Below.refl _ _).drew).mono ?_
           rintro e w2 ⟨A2, cap2, rfl, hm2⟩
           have hd2 : Below wr.heap.size wr w2 := (Below.refl wr.heap.size wr).drew.trans (by obtain ⟨L, _, _, _, h⟩ := hm2; exact h)
           have y3 := (hd2.cell (p := ⟨w.heap.size + 1 + 1, 3, none⟩) hsz).trans x3
           have hs2 : wr.heap.size ≤ w2.heap.size := hd2.size
           have HO2 := Lib.hid (HKEEP.out w2 hd2)
           have HQ2 := Lib.hid (HB2.out.below hd2 hsz)
           have y4 := (HQ2.out.alloc (.cells #[.int .i64 kk, .int .i64 nn, .string s', .slice A2 kids.len cap2] 25)).cell 3
           simp only [List.getElem?_toArray, List.getElem?_cons_zero, List.getElem?_cons_succ] at y4
           have HM := Lib.hid hm2
           clear hm2 hd2))
      all_goals
        go_wp2_with fail
        go_roundw
        case rel => exact ⟨j + 1, _, by omega, by go_num, HSTEP.out A2 cap2 w2 _ w4 g cap4 (drew_made HM.out) ((Below.refl _ _).alloc (Nat.le_refl _) _) HGROW.out HOWN4.out (by rw [show (w2.alloc (.cells #[.int .i64 kk, .int .i64 nn, .string s', .slice A2 kids.len cap2] 25)).heap.size = w2.heap.size + 1 by simp]; exact HAT.out)⟩
        case measure => simp [intOf]; omega
    · obtain rfl : j = len := by omega
      have x0 := b2.cell 0
      have x1 := b2.cell 1
      have x2 := b2.cell 2
      have x3 := b2.cell 3
      have d0 := b1.cell 0
      have d1 := b1.cell 1
      have d2 := b1.cell 2
      have d3 := b1.cell 3
      have g0 := b1.frozen 0
      have g1 := b1.frozen 1
      have g2 := b1.frozen 2
      have g3 := b1.frozen 3
      simp only [List.getElem?_toArray, List.getElem?_cons_zero, List.getElem?_cons_succ] at x0 x1 x2 x3 d0 d1 d2 d3
      rw [← HN.out, Fr.take_len] at hr
      obtain ⟨A2, cap2, rfl⟩ := hr.form
      have HB1 := Lib.hid b1
      have HR := Lib.hid hr
      have HB := Lib.hid hb
      clear b0 b1 b2 hr hb HP
      go_wp2_with fail
      have e1 := (((HB1.out.set_ 0 (.int .i64 k)).set_ 1 (.int .i64 n)).set_ 2 (.string s)).set_ 3 (.slice A2 f.len cap2)
      have hr2 := (((HR.out.set_ (p := ⟨w.heap.size + 1, 0, none⟩) (by simp) (.int .i64 k)).set_ (p := ⟨w.heap.size + 1, 1, none⟩) (by simp) (.int .i64 n)).set_ (p := ⟨w.heap.size + 1, 2, none⟩) (by simp) (.string s)).set_ (p := ⟨w.heap.size + 1, 3, none⟩) (by simp) (.slice A2 f.len cap2)
      refine bodyPost_ret (v := .agg #[.int .i64 k, .int .i64 n, .string s, .slice A2 f.len cap2]) ?_ rfl ⟨.slice A2 f.len cap2, rfl, hr2.lower (by omega), ?_⟩
      · exact results_cell_row Tryd.results25 _ _ (w.heap.size + 1) _ _ _ _ rfl e1 Tryd.underlying25 rfl (by kernel_rfl)
      · exact (((HB.out.setCell (p := ⟨w.heap.size + 1, 0, none⟩) (by simp) _).setCell (p := ⟨w.heap.size + 1, 1, none⟩) (by simp) _).setCell (p := ⟨w.heap.size + 1, 2, none⟩) (by simp) _).setCell (p := ⟨w.heap.size + 1, 3, none⟩) (by simp) _
end Go.Proofs.YtkgihpddjppmdaaDoor
