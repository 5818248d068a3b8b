/- spec.l3Full, its loop. Condition: the term and the table lie in memory; the terms are well-formed. -/
import Derived.Test.YtkefpickpjjllaaDoorProg
import Derived.Test.YtkefpickpjjllaaDoorZmUT37
import Derived.Deep.AppendLies
import Derived.Test.YtkefpickpjjllaaDoorMk
import Derived.Test.YtkefpickpjjllaaDoorAs
import Derived.WalkKit
import Derived.WalkSpells
import Derived.Outline
import Derived.Test.YtkefpickpjjllaaDoorCopy
import Derived.Test.YtkefpickpjjllaaDoorTb
import Derived.Test.YtkefpickpjjllaaDoorTermOf
import Derived.Test.YtkefpickpjjllaaDoorMatS
import Derived.Test.YtkefpickpjjllaaDoorSpecC
namespace Go.Proofs.YtkefpickpjjllaaDoor
open Go.RowKit

set_option maxRecDepth 100000 in
set_option maxHeartbeats 4000000 in
theorem fu_of (rm : Int) (h0 : 0 ≤ rm) (h1 : rm ≤ 1000) (h : ∀ r, 0 ≤ r → r < rm → FuC r) : FuC rm := by
  intro σ m A cap lo hi g w hσ hs hk hh hg hK ht
  by_cases hr : rm < 1
  · exact fu_zero m A cap g w _ rm h0 hr
  obtain ⟨hb0, b0, b1⟩ := two_boxes w #[.int .i64 m.k, .int .i64 m.n, .string m.s, .slice A m.f.len cap] #[.int .i64 0, .int .i64 0, .string ⟨#[]⟩, .slice none 0 0]
  have hgl := hK.lt
  have C1 := fun w1 (hb : Below w.heap.size w w1) => walkS_any σ hσ hs m A cap lo hi g w1 (hk.below hb hh) (Nat.le_trans hh hb.size) hg (hK.below hb hh) ht
  have HMM : Hid (Tm (wk σ m) → suN (fin σ) m = ⟨(wk σ m).k, (wk σ m).n, (wk σ m).s, suF (fin σ) (wk σ m).f⟩) := Lib.hid (fu_M hσ m)
  have HREC := Lib.hid (fun (r : Int) (h3 : 0 ≤ r) (h4 : r < rm) (x : Nd) (A1 : Option Addr) (c1 : Nat) (w1 : World) (hb : Below w.heap.size w w1) (hk1 : KidsAt w1 lo hi x.f A1 c1) (ht1 : Tm x) => h r h3 h4 σ x A1 c1 lo hi g w1 hσ hs hk1 (Nat.le_trans hh hb.size) hg (hK.below hb hh) ht1)
  have H1 := Lib.hid C1
  have HB0 := Lib.hid hb0
  have HQ0 := Lib.hid b0
  have HQ1 := Lib.hid b1
  have HHI := Lib.hid hh
  clear C1 hb0 b0 b1 hk hK ht hσ hs h hg hgl hh
  generalize suN (fin σ) m = M at *
  generalize wk σ m = x at *
  generalize fin σ = τ at *
  obtain ⟨k, n, s, F⟩ := x
  obtain ⟨i0, hi0, hz0, hz1, hz2⟩ := info_parts infoT
  go_enter Tryd.func21, Tryd.ntmps21
  go_wp2_with fail
  refine (H1.out _ HB0.out).mono ?_
  rintro e w3 ⟨A3, c3, rfl, hk3, hb3, ht3⟩
  have hM := HMM.out ht3
  subst hM
  have hsz := HB0.out.size
  have hb13 := HB0.out.trans (hb3.mono hsz)
  have q0 := HQ0.out.below hb3 HQ0.out.lt
  have q1 := HQ1.out.below hb3 HQ1.out.lt
  have hl0 := q0.lt
  have hl1 := q1.lt
  obtain ⟨d0, d1, d2, d3⟩ := cells4i q0
  obtain ⟨f0, f1, f2, f3⟩ := frozen4 q0
  have HKW : Hid (KidsAt w lo hi F A3 c3) := Lib.hid (hk3.keep fun p _ hp => (hb13.cell (Nat.lt_of_lt_of_le hp HHI.out)).symm)
  have hst : FuP w k n s F.len A3 c3 w.heap.size w3.heap.size .nil (.slice none 0 0) (((((w3.setCell ⟨w.heap.size, 0, none⟩ (.int .i64 k)).setCell ⟨w.heap.size, 1, none⟩ (.int .i64 n)).setCell ⟨w.heap.size, 2, none⟩ (.string s)).setCell ⟨w.heap.size, 3, none⟩ (.slice A3 F.len c3)).alloc (.cells #[.int .i64 k, .int .i64 n, .string s, .slice none 0 0] 31)) := by
    have e0 := set4 q0 (.int .i64 k) (.int .i64 n) (.string s) (.slice A3 F.len c3)
    have e1 := ((((q1.far (p := ⟨w.heap.size, 0, none⟩) (by simp) (.int .i64 k)).far (p := ⟨w.heap.size, 1, none⟩) (by simp) (.int .i64 n)).far (p := ⟨w.heap.size, 2, none⟩) (by simp) (.string s)).far (p := ⟨w.heap.size, 3, none⟩) (by simp) (.slice A3 F.len c3))
    have eb := below4 hb13 (Nat.le_refl _) (.int .i64 k) (.int .i64 n) (.string s) (.slice A3 F.len c3)
    have es : ((((w3.setCell ⟨w.heap.size, 0, none⟩ (.int .i64 k)).setCell ⟨w.heap.size, 1, none⟩ (.int .i64 n)).setCell ⟨w.heap.size, 2, none⟩ (.string s)).setCell ⟨w.heap.size, 3, none⟩ (.slice A3 F.len c3)).heap.size = w3.heap.size := by simp [World.setCell]
    generalize ((((w3.setCell ⟨w.heap.size, 0, none⟩ (.int .i64 k)).setCell ⟨w.heap.size, 1, none⟩ (.int .i64 n)).setCell ⟨w.heap.size, 2, none⟩ (.string s)).setCell ⟨w.heap.size, 3, none⟩ (.slice A3 F.len c3)) = wq at *
    have e2 := Blk.new wq 31 #[.int .i64 k, .int .i64 n, .string s, .slice none 0 0]
    rw [es] at e2
    exact ⟨e0.alloc _, e1.alloc _, e2, RowP.nil _ _, eb.alloc eb.size _, by simp [es], Nat.le_refl _, by omega⟩
  have HST := Lib.hid hst
  have HFT : Hid (Fits k n s) := Lib.hid (shapeT_small ht3.1).1
  have HTF : Hid (TmF F) := Lib.hid ht3.kids
  have HXD : Hid (∀ j, (suF τ F).drop j = suF τ (F.drop j)) := Lib.hid (suF_drop τ F)
  have HXL : Hid ((suF τ F).len = F.len) := Lib.hid (suF_len τ F)
  have hlen : F.len ≤ 1000 := by have := len_le_nodes F; have := ht3.2; simp only at this; omega
  clear hst hk3 hb3 hb13 ht3 q0 q1 HMM H1 HQ0 HQ1 HB0
  simp only
  generalize hxe : suF τ F = X at *
  have HXE := Lib.hid hxe
  clear hxe
  generalize hn : F.len = len at *
  have HN := Lib.hid hn
  clear hn
  go_wp2_with fail
  go_loopw [9, 10] (fun lf i wr => ∃ (j : Nat) (lv : Int) (mf : Fr) (v : Value), j ≤ len ∧ lf = .int .i64 lv ∧ i = .int .i64 j ∧ TmF (F.drop j) ∧ LvP X rm j lv mf ∧ FuP w k n s len A3 c3 w.heap.size w3.heap.size mf v wr) (fun _ i _ => len - (intOf i).toNat)
  case atStart => exact ⟨0, rm - 1, .nil, .slice none 0 0, Nat.zero_le _, by go_num, rfl, HTF.out, ⟨⟨by omega, by omega⟩, rfl, .inl ⟨by omega, by cases X <;> rfl, by simp [nodes]⟩⟩, HST.out⟩
  case round =>
    obtain ⟨j, lv, mf, v, hj, rfl, rfl, htf, hlv, hp⟩ := hrel
    have HP := Lib.hid hp
    have HLV := Lib.hid hlv
    obtain ⟨⟨l1, l2⟩, hmf, _⟩ := hlv
    obtain ⟨b0, b1, b2, hr, hb, hs, hH, hHH⟩ := hp
    have a3 := b0.cell 3
    simp only [List.getElem?_toArray, List.getElem?_cons_zero, List.getElem?_cons_succ] at a3
    by_cases hgo : j < len ∧ 0 ≤ lv
    · obtain ⟨hlt, hlv0⟩ := hgo
      have hlr : lv < rm := by rcases HLV.out.2.2 with ⟨_, _, h⟩ | ⟨h, _⟩ <;> omega
      obtain ⟨kk, nn, s', kids, hd⟩ := Fr.drop_cons j F (by rw [HN.out]; exact hlt)
      obtain ⟨b, o, rfl, hlb, hbb, hrow⟩ := HKW.out.2.2 (by rw [HN.out]; omega)
      obtain ⟨hfit, A', cap', e0, e1, e2, e3, hkid⟩ := hrow.elem hd
      rw [hd] at htf
      have hlo : (⟨b, o, none⟩ : Addr).block < w.heap.size := Nat.lt_of_lt_of_le hbb HHI.out
      have k0 := (hb.cell (p := ⟨b, o + j * 4, none⟩) hlo).trans e0
      have k1 := (hb.cell (p := ⟨b, o + j * 4 + 1, none⟩) hlo).trans e1
      have k2 := (hb.cell (p := ⟨b, o + j * 4 + 2, none⟩) hlo).trans e2
      have k3 := (hb.cell (p := ⟨b, o + j * 4 + 3, none⟩) hlo).trans e3
      obtain ⟨xs, L, hown, hD, hN, hL, hv⟩ := hr
      rw [hmf] at hown
      have hvl := hown.lt
      have C2 : ∀ w1, Below wr.heap.size wr w1 → Calls Tryd.prog 21 #[.agg #[.int .i64 kk, .int .i64 nn, .string s', .slice A' kids.len cap'], .slice (some ⟨g, 0, none⟩) 26 26, .int .i64 lv] w1 fun e w' => FuRes w1 (suN τ ⟨kk, nn, s', kids⟩) lv e w' := fun w1 hb1 => by
        have hb2 := hb.trans (hb1.mono hb.size)
        exact HREC.out lv hlv0 hlr ⟨kk, nn, s', kids⟩ A' cap' w1 hb2 (hkid.below hb2 HHI.out) htf.cons.1
      have hX : X.drop j = .cons (suN τ ⟨kk, nn, s', kids⟩).k (suN τ ⟨kk, nn, s', kids⟩).n (suN τ ⟨kk, nn, s', kids⟩).s (suN τ ⟨kk, nn, s', kids⟩).f (suF τ (F.drop (j + 1))) := by rw [HXD.out, hd, suF_cons]
      generalize suN τ ⟨kk, nn, s', kids⟩ = MM at *
      have HLS : Hid (∀ (l : Int) (m : Nd), -1 ≤ l → l ≤ lv → ((nodes MM.f : Int) + 1 ≤ lv ∧ m = MM ∧ l = lv - 1 - nodes MM.f) ∨ (lv < (nodes MM.f : Int) + 1 ∧ l < 0) → LvP X rm (j + 1) l (mf.app (.cons m.k m.n m.s m.f .nil))) := Lib.hid fun l m g1 g2 g3 => HLV.out.step hlv0 hX g1 g2 g3
      have STEP := fun (mk mn : Int) (ms : ByteArray) (mg : Fr) (A2 : Option Addr) (cap2 : Nat) (w1 w2 w4 : World) (g4 cap4 : Nat) hfm hm hb2 hg ho hat => HP.out.step (kk := mk) (nn := mn) (s' := ms) (kids := mg) (w1 := w1) (w2 := w2) (w4 := w4) (A' := A2) (cap' := cap2) (g := g4) (cap4 := cap4) hmf hD hN hL hv hvl hfm hm hb2 hg ho hat
      have HT2 := Lib.hid htf.cons.2
      have H2 := Lib.hid C2
      have HSTEP := Lib.hid STEP
      have hne : some w3.heap.size ≠ v.ownBlock := fun e => by have := (hvl _ e.symm).1; omega
      have HNE := Lib.hid hne
      have keep : ∀ w2, Below wr.heap.size wr w2 → w2.ownsRow (w3.heap.size + 1) 31 4 v j xs := fun w2 hb2 =>
        hown.kept (row := none) ⟨hb2.os, hb2.tape, hb2.output, hb2.size, fun k hk _ => hb2.block k hk⟩ (by
          cases h : v.ownBlock with
          | none => exact .inl rfl
          | some g => exact .inr (by simp))
      have HKEEP := Lib.hid keep
      have HB2 := Lib.hid b2
      have hHs := hs
      have hsl := b2.lt
      have ij0 : (0 : Int) ≤ (j : Int) := Int.natCast_nonneg _
      have ij1 : (j : Int) < (len : Int) := by omega
      have hlvg : lv ≥ 0 := hlv0
      clear C2 STEP hown hD hN hL hv hvl hb hs hH b0 b1 b2 hrow hkid hd e0 e1 e2 e3 hfit hlo hne keep hX htf hlr
      go_wp2_with fail
      refine (H2.out wr (Below.refl _ _)).mono ?_
      rintro e w2 ⟨⟨mk, mn, ms, mg⟩, A2, c2, l, rfl, hm2, hf2, hl1, hl2, hres⟩
      simp only at hm2 hf2 ⊢
      have hd2 := made_below hm2
      have hs2 : wr.heap.size ≤ w2.heap.size := hd2.size
      have HO6 := Lib.hid ((HKEEP.out w2 hd2).alloc (.cells #[.int .i64 mk, .int .i64 mn, .string ms, .slice A2 mg.len c2] 31))
      have HQ2 := Lib.hid (HB2.out.below hd2 hsl)
      have y3 := (HQ2.out.alloc (.cells #[.int .i64 mk, .int .i64 mn, .string ms, .slice A2 mg.len c2] 31)).cell 3
      simp only [List.getElem?_toArray, List.getElem?_cons_zero, List.getElem?_cons_succ] at y3
      obtain ⟨x0, x1, x2, x3⟩ := cells4i (Blk.new w2 31 #[.int .i64 mk, .int .i64 mn, .string ms, .slice A2 mg.len c2])
      have hn6 := heap_alloc_new (w2.alloc (.cells #[.int .i64 mk, .int .i64 mn, .string ms, .slice A2 mg.len c2] 31)) (.cells #[.int .i64 mk, .int .i64 mn, .string ms, .slice A2 mg.len c2] 31)
      rw [show (w2.alloc (.cells #[.int .i64 mk, .int .i64 mn, .string ms, .slice A2 mg.len c2] 31)).heap.size = w2.heap.size + 1 by simp] at hn6
      have HN6 := Lib.hid hn6
      have HM2 := Lib.hid hm2
      have HF2 := Lib.hid hf2
      have HLX := Lib.hid (HLS.out l ⟨mk, mn, ms, mg⟩ hl1 hl2 hres)
      clear hn6 hm2 hf2 hd2 hres k0 k1 k2 k3 a3
      go_wp2_with (at_builtin; go_must (refine wpList_append_lies _ rfl _ _ _ rfl (w3.heap.size + 1) 31 i0 _ 4 56 Tryd.underlying29 hi0 hz0 hz1 hz2 rfl (by omega) v j xs rfl (HO6.out.alloc _) ⟨w2.heap.size + 1, 0, none⟩ 1 1 [.int .i64 mk, .int .i64 mn, .string ms, .slice A2 mg.len c2] rfl rfl (World.news_of_block (cs := #[.int .i64 mk, .int .i64 mn, .string ms, .slice A2 mg.len c2]) (fr := (0, 0)) HN6.out) (by simp [Value.oneCell']) (by omega) (by unfold maxLen; omega) (by omega) (by simp; omega) (w2.heap.size + 1 + 1) (by simp) ?_); intro g4 cap4 w4 hown4 hgrow hat hlt4; have q4 := ((HQ2.out.alloc (.cells #[.int .i64 mk, .int .i64 mn, .string ms, .slice A2 mg.len c2] 31)).alloc (.cells #[.int .i64 mk, .int .i64 mn, .string ms, .slice A2 mg.len c2] 31)).keep (hgrow.block _ (by simp; omega) HNE.out); have z3 := q4.cell 3; have zf := q4.frozen 3; simp only [List.getElem?_toArray, List.getElem?_cons_zero, List.getElem?_cons_succ] at z3; have HS := Lib.hid (HSTEP.out mk mn ms mg A2 c2 w2 _ w4 g4 cap4 HF2.out HM2.out (two_alloc w2 _ _) hgrow hown4 (by simpa using hat)); clear hown4 hgrow hat q4)
      go_roundw
      case rel => exact ⟨j + 1, l, _, _, by omega, rfl, by go_num, HT2.out, HLX.out, HS.out⟩
      case measure => simp [intOf]; omega
    · have HRES : Hid ((((nodes X : Int) + 1 ≤ rm ∧ (⟨k, n, s, mf⟩ : Nd) = ⟨k, n, s, X⟩ ∧ lv = rm - 1 - nodes X) ∨ (rm < (nodes X : Int) + 1 ∧ lv < 0))) := Lib.hid (by
        rcases HLV.out.2.2 with ⟨p1, p2, p3⟩ | ⟨p1, p2⟩
        · have hjl : j = len := by omega
          have hmx : mf = X := by rw [p2, hjl, show len = X.len from HXL.out.symm]; exact Fr.take_len X
          subst hmx
          exact .inl ⟨by omega, rfl, p3⟩
        · exact .inr ⟨by omega, p1⟩)
      obtain ⟨x0, x1, x2, x3⟩ := cells4i b2
      obtain ⟨d0, d1, d2, d3⟩ := cells4i b1
      obtain ⟨g0, g1, g2, g3⟩ := frozen4 b1
      obtain ⟨A2, cap2, rfl⟩ := hr.form
      have HB1 := Lib.hid b1
      have HR := Lib.hid hr
      have HB := Lib.hid hb
      have HNUM := Lib.hid (And.intro hs (And.intro hHH (And.intro l1 l2)))
      have hway : ((j : Int) < (len : Int) ∧ ¬ (lv ≥ 0)) ∨ ¬ ((j : Int) < (len : Int)) := by omega
      have ij0 : (0 : Int) ≤ (j : Int) := Int.natCast_nonneg _
      clear b0 b1 b2 hr hb HP hgo htf HLV HST HREC hs hHH hH hlen hsz hl0 hl1 hmf hj l1 l2 h0 h1
      rcases hway with ⟨t1, t2⟩ | t1
      all_goals
        go_wp2_with fail
        obtain ⟨hs, hHH, l1, l2⟩ := HNUM.out
        have hres : (((nodes (suF τ F) : Int) + 1 ≤ rm ∧ (⟨k, n, s, mf⟩ : Nd) = ⟨k, n, s, suF τ F⟩ ∧ lv = rm - 1 - nodes (suF τ F)) ∨ (rm < (nodes (suF τ F) : Int) + 1 ∧ lv < 0)) := by rw [HXE.out]; exact HRES.out
        have e1 := set4 HB1.out (.int .i64 k) (.int .i64 n) (.string s) (.slice A2 mf.len cap2)
        have hr2 := (((HR.out.set_ (p := ⟨w.heap.size + 1, 0, none⟩) (by simp; omega) (.int .i64 k)).set_ (p := ⟨w.heap.size + 1, 1, none⟩) (by simp; omega) (.int .i64 n)).set_ (p := ⟨w.heap.size + 1, 2, none⟩) (by simp; omega) (.string s)).set_ (p := ⟨w.heap.size + 1, 3, none⟩) (by simp; omega) (.slice A2 mf.len cap2)
        refine bodyPost_ret (v := .tuple #[.agg #[.int .i64 k, .int .i64 n, .string s, .slice A2 mf.len cap2], .int .i64 lv]) ?_ rfl ⟨⟨k, n, s, mf⟩, A2, cap2, lv, rfl, RowP.done (w0 := w) hr2 ?_ (by omega), HFT.out, l1, l2, hres⟩
        · exact results_cell_row2 Tryd.results21 _ _ (w.heap.size + 1) _ _ _ _ rfl e1 Tryd.underlying31 rfl (by kernel_rfl)
        · exact (((HB.out.setCell (p := ⟨w.heap.size + 1, 0, none⟩) (by simp) _).setCell (p := ⟨w.heap.size + 1, 1, none⟩) (by simp) _).setCell (p := ⟨w.heap.size + 1, 2, none⟩) (by simp) _).setCell (p := ⟨w.heap.size + 1, 3, none⟩) (by simp) _
theorem fu_all (N : Nat) : ∀ rm : Int, 0 ≤ rm → rm ≤ N → rm ≤ 1000 → FuC rm := by
  induction N with
  | zero => exact fun rm h0 h1 h2 => fu_of rm h0 h2 fun r h3 h4 => by omega
  | succ N ih => exact fun rm h0 h1 h2 => fu_of rm h0 h2 fun r h3 h4 => ih r h3 (by omega) (by omega)
/-- spec.l3Full. -/
theorem full_any (rm : Int) (h0 : 0 ≤ rm) (h1 : rm ≤ 1000) : FuC rm := fu_all rm.toNat rm h0 (by omega) h1
end Go.Proofs.YtkefpickpjjllaaDoor

/- spec.l1Pair, l1Nil, impl.isEmptyList: what a list's nodes are. Condition: the term lies in memory. -/
namespace Go.Proofs.YtkefpickpjjllaaDoor
open Go.RowKit

def dotB (s : ByteArray) : Bool := s.data.toList == [46]
def emptyB (s : ByteArray) : Bool := s.data.toList == [91, 93]
/-- A pair of a list. -/
def pairB (k : Int) (s : ByteArray) (len : Nat) : Bool := k == 3 && (dotB s && len == 2)
/-- The empty list. -/
def nilB (k : Int) (s : ByteArray) (len : Nat) : Bool := k == 3 && (emptyB s && len == 0)

/-! The elements of a list, and what stands behind the last pair. -/
def fronts : Int → ByteArray → Fr → Fr
  | k, s, .cons k1 n1 s1 kd1 (.cons k2 _ s2 kd2 .nil) => if pairB k s 2 = true then .cons k1 n1 s1 kd1 (fronts k2 s2 kd2) else .nil
  | _, _, _ => .nil
def tails : Int → Int → ByteArray → Fr → Fr
  | k, n, s, .cons k1 n1 s1 kd1 (.cons k2 n2 s2 kd2 .nil) => if pairB k s 2 = true then tails k2 n2 s2 kd2 else .cons k n s (.cons k1 n1 s1 kd1 (.cons k2 n2 s2 kd2 .nil)) .nil
  | k, n, s, f => .cons k n s f .nil
theorem two_of (f : Fr) (h : f.len = 2) : ∃ k1 n1 s1 kd1 k2 n2 s2 kd2, f = .cons k1 n1 s1 kd1 (.cons k2 n2 s2 kd2 .nil) := by
  cases f with
  | nil => simp [Fr.len] at h
  | cons k1 n1 s1 kd1 r =>
    cases r with
    | nil => simp [Fr.len] at h
    | cons k2 n2 s2 kd2 r =>
      cases r with
      | nil => exact ⟨_, _, _, _, _, _, _, _, rfl⟩
      | cons _ _ _ _ _ => simp [Fr.len] at h
theorem pairB_len {k : Int} {s : ByteArray} {len : Nat} (h : pairB k s len = true) : len = 2 ∧ k = 3 ∧ dotB s = true := by
  simp only [pairB, Bool.and_eq_true, beq_iff_eq] at h
  exact ⟨h.2.2, h.1, h.2.1⟩
theorem pair_yes {k : Int} (n : Int) {s : ByteArray} {f : Fr} (h : pairB k s f.len = true) : ∃ k1 n1 s1 kd1 k2 n2 s2 kd2, f = .cons k1 n1 s1 kd1 (.cons k2 n2 s2 kd2 .nil) ∧ fronts k s f = .cons k1 n1 s1 kd1 (fronts k2 s2 kd2) ∧ tails k n s f = tails k2 n2 s2 kd2 := by
  have hl := (pairB_len h).1
  obtain ⟨k1, n1, s1, kd1, k2, n2, s2, kd2, rfl⟩ := two_of f hl
  have h2 : pairB k s 2 = true := h
  exact ⟨k1, n1, s1, kd1, k2, n2, s2, kd2, rfl, by rw [fronts, if_pos h2], by rw [tails, if_pos h2]⟩
theorem pair_no {k : Int} (n : Int) {s : ByteArray} {f : Fr} (h : pairB k s f.len = false) : fronts k s f = .nil ∧ tails k n s f = .cons k n s f .nil := by
  by_cases hl : f.len = 2
  · obtain ⟨k1, n1, s1, kd1, k2, n2, s2, kd2, rfl⟩ := two_of f hl
    have h2 : ¬ pairB k s 2 = true := by rw [Bool.not_eq_true]; exact h
    exact ⟨by rw [fronts, if_neg h2], by rw [tails, if_neg h2]⟩
  · cases f with
    | nil => exact ⟨rfl, rfl⟩
    | cons k1 n1 s1 kd1 r =>
      cases r with
      | nil => exact ⟨rfl, rfl⟩
      | cons k2 n2 s2 kd2 r =>
        cases r with
        | nil => simp [Fr.len] at hl
        | cons _ _ _ _ _ => exact ⟨rfl, rfl⟩
/-- The term is a list. -/
def listB (k n : Int) (s : ByteArray) (f : Fr) : Bool := match tails k n s f with
  | .cons k' _ s' f' _ => nilB k' s' f'.len
  | .nil => false
theorem app_assoc (a b c : Fr) : (a.app b).app c = a.app (b.app c) := by
  induction a with
  | nil => rfl
  | cons _ _ _ _ _ _ ih => simp only [Fr.app, ih]
theorem app_nil (a : Fr) : a.app .nil = a := by
  induction a with
  | nil => rfl
  | cons _ _ _ _ _ _ ih => simp only [Fr.app, ih]
end Go.Proofs.YtkefpickpjjllaaDoor

/- spec.ListOf: the elements of a list, copied. Condition: the term lies in memory. -/
namespace Go.Proofs.YtkefpickpjjllaaDoor
open Go.RowKit

def lenOf : Value → Nat | .slice _ n _ => n | _ => 0

/-- The loop's relation: the term that is looked at lies in block H; its elements before it are copied into the row v. -/
def LsP (w : World) (lo hi H : Nat) (F T : Fr) (M : Nat) (k n : Int) (s : ByteArray) (f : Fr) (A : Option Addr) (cap : Nat) (acc : Fr) (v : Value) (wr : World) : Prop :=
  Blk wr H 31 #[.int .i64 k, .int .i64 n, .string s, .slice A f.len cap] ∧ KidsAt w lo hi f A cap ∧ Fits k n s ∧ nodes f ≤ M ∧ RowP (H + 1) v acc wr ∧ acc.app (fronts k s f) = F ∧ tails k n s f = T ∧ Below w.heap.size w wr ∧ H + 1 ≤ wr.heap.size ∧ w.heap.size ≤ H

theorem LsP.step {w wr w1 w2 w3 w4 : World} {lo hi H : Nat} {F T : Fr} {M : Nat} {k n : Int} {s : ByteArray} {k1 n1 k2 n2 : Int} {s1 s2 : ByteArray} {kd1 kd2 : Fr} {A : Option Addr} {cap : Nat} {acc : Fr} {v : Value} {xs : List Value} {L : List Nat} {A1 A2 : Option Addr} {cap1 cap2 g cap4 : Nat}
    (h : LsP w lo hi H F T M k n s (.cons k1 n1 s1 kd1 (.cons k2 n2 s2 kd2 .nil)) A cap acc v wr) (hp : pairB k s 2 = true) (hD : Desc w1 acc xs L) (hN : L.Nodup) (hL : ∀ x ∈ L, H + 1 ≤ x ∧ x < w1.heap.size) (hv : ∀ g, v.ownBlock = some g → g ∉ L) (hvl : ∀ g, v.ownBlock = some g → H + 1 ≤ g ∧ g < w1.heap.size)
    (hb1 : Below wr.heap.size wr w1) (hf1 : Fits k1 n1 s1) (hm : Made w1 kd1 A1 cap1 w2) (hb3 : Below w2.heap.size w2 w3) (hg : w3.grownBy w4 v.ownBlock)
    (ho : w4.ownsRow (H + 1) 31 4 (.slice (some ⟨g, 0, none⟩) (acc.len + 1) cap4) (acc.len + 1) (xs ++ [.int .i64 k1, .int .i64 n1, .string s1, .slice A1 kd1.len cap1])) (hat : v.ownBlock = some g ∨ g = w3.heap.size)
    (hf2 : Fits k2 n2 s2) (hk2 : KidsAt w lo hi kd2 A2 cap2) :
    LsP w lo hi H F T M k2 n2 s2 kd2 A2 cap2 (acc.app (.cons k1 n1 s1 kd1 .nil)) (.slice (some ⟨g, 0, none⟩) (acc.len + 1) cap4) ((((w4.setCell ⟨H, 0, none⟩ (.int .i64 k2)).setCell ⟨H, 1, none⟩ (.int .i64 n2)).setCell ⟨H, 2, none⟩ (.string s2)).setCell ⟨H, 3, none⟩ (.slice A2 kd2.len cap2)) := by
  obtain ⟨b0, hk, hf, hM, hr, hF, hT, hb, hs, hH⟩ := h
  have hm' := hm
  obtain ⟨_, _, _, _, hb2⟩ := hm'
  have s1' := hb1.size
  have s2' := hb2.size
  have s3' := hb3.size
  have s4' := hg.size
  have far : w4.heap[H]? = wr.heap[H]? := by
    rw [hg.block H (by omega) fun e => by have := (hvl H e.symm).1; omega, hb3.block H (by omega), hb2.block H (by omega), hb1.block H (by omega)]
  have hbw : Below w.heap.size w w4 := by
    have h1 := hb1.trans ((hb2.trans (hb3.mono hb2.size)).mono hb1.size)
    have h2 := hb.trans (h1.mono hb.size)
    refine h2.grown hg h2.size fun g hg => ?_
    have := (hvl g hg).1; omega
  have hst := RowP.step (base := H + 1) hD hN hL hv (fun g hg => (hvl g hg).2) (by omega) hf1 hm hb3 hg ho hat
  have hF' : (acc.app (.cons k1 n1 s1 kd1 .nil)).app (fronts k2 s2 kd2) = F := by
    rw [← hF, fronts, if_pos hp, app_assoc]; rfl
  have hT' : tails k2 n2 s2 kd2 = T := by rw [← hT, tails, if_pos hp]
  have hM' : nodes kd2 ≤ M := by simp only [nodes] at hM; omega
  refine ⟨((((b0.keep far).set_ 0 _).set_ 1 _).set_ 2 _).set_ 3 _, hk2, hf2, hM', (((hst.set_ (by simp) _).set_ (by simp) _).set_ (by simp) _).set_ (by simp) _, hF', hT', (((hbw.setCell hH _).setCell hH _).setCell hH _).setCell hH _, ?_, hH⟩
  simp only [World.setCell, Array.size_modify]
  omega

theorem LsP.below {w wr w1 : World} {lo hi H : Nat} {F T : Fr} {M : Nat} {k n : Int} {s : ByteArray} {f : Fr} {A : Option Addr} {cap : Nat} {acc : Fr} {v : Value}
    (h : LsP w lo hi H F T M k n s f A cap acc v wr) (hb : Below wr.heap.size wr w1) : LsP w lo hi H F T M k n s f A cap acc v w1 := by
  obtain ⟨b0, hk, hf, hM, hr, hF, hT, hbw, hs, hH⟩ := h
  exact ⟨b0.below hb (by omega), hk, hf, hM, hr.below hb, hF, hT, hbw.trans (hb.mono hbw.size), Nat.le_trans hs hb.size, hH⟩

theorem fronts_nodes (k : Int) (s : ByteArray) (f : Fr) : nodes (fronts k s f) ≤ nodes f := by
  have all : ∀ N : Nat, ∀ f : Fr, f.size ≤ N → ∀ k s, nodes (fronts k s f) ≤ nodes f := by
    intro N
    induction N with
    | zero =>
      intro f hf k s
      cases f with
      | nil => exact Nat.le_refl _
      | cons _ _ _ _ _ => simp [Fr.size] at hf
    | succ N ih =>
      intro f hf k s
      cases hp : pairB k s f.len
      · rw [(pair_no 0 hp).1]; exact Nat.zero_le _
      · obtain ⟨k1, n1, s1, kd1, k2, n2, s2, kd2, rfl, hfr, _⟩ := pair_yes 0 hp
        rw [hfr]
        simp only [Fr.size] at hf
        have := ih kd2 (by omega) k2 s2
        simp only [nodes]
        omega
  exact all f.size f (Nat.le_refl _) k s

/-- What spec.ListOf answers. -/
def ListRes (w : World) (k n : Int) (s : ByteArray) (f : Fr) (e : Ending) (w' : World) : Prop :=
  Below w.heap.size w w' ∧ ((validT k n s f && listB k n s f) = true ∧ (∃ A cap, e = .returned (.tuple #[.slice A (fronts k s f).len cap, .bool true]) ∧ Made w (fronts k s f) A cap w') ∨
    (validT k n s f && listB k n s f) = false ∧ ∃ A cap, e = .returned (.tuple #[.slice A 0 cap, .bool false]) ∧ cap ≤ maxLen)

end Go.Proofs.YtkefpickpjjllaaDoor

/- impl.splitList: the elements with which a node begins as a list, and what follows. Condition: the node lies in memory. -/
namespace Go.Proofs.YtkefpickpjjllaaDoor
open Go.RowKit

/-- The values xs are the nodes of the row f. -/
def NDesc (w : World) (lo hi : Nat) : Fr → List Value → Prop
  | .nil, xs => xs = []
  | .cons k n s kids rest, xs => ∃ x ys, xs = x :: ys ∧ NdV w lo hi k n s kids x ∧ NDesc w lo hi rest ys
section
variable {w w' : World} {lo hi : Nat}
theorem NDesc.len (f : Fr) : ∀ xs, NDesc w lo hi f xs → xs.length = f.len := by
  induction f with
  | nil => rintro xs rfl; rfl
  | cons k n s kids rest _ ih =>
    rintro xs ⟨x, ys, rfl, _, h⟩
    simp only [List.length_cons, Fr.len, ih ys h]
theorem NDesc.snoc (f : Fr) {k n : Int} {s : ByteArray} {kids : Fr} {x : Value} (hx : NdV w lo hi k n s kids x) : ∀ xs, NDesc w lo hi f xs → NDesc w lo hi (f.app (.cons k n s kids .nil)) (xs ++ [x]) := by
  induction f with
  | nil => rintro xs rfl; exact ⟨x, [], rfl, hx, rfl⟩
  | cons k' n' s' kids' rest _ ih =>
    rintro xs ⟨y, ys, rfl, hy, h⟩
    exact ⟨y, _, rfl, hy, ih ys h⟩
theorem NDesc.row {lo' hi' g : Nat} (hk : ∀ p : Addr, lo ≤ p.block → p.block < hi → w'.cell? p = w.cell? p) (hL : lo' ≤ lo) (hH : hi ≤ hi') (f : Fr) : ∀ xs o, NDesc w lo hi f xs → (∀ j u, xs[j]? = some u → w'.cell? ⟨g, o + j, none⟩ = some u) → NdRow w' lo' hi' f g o := by
  induction f with
  | nil => intro xs o _ _; trivial
  | cons k n s kids rest _ ih =>
    rintro xs o ⟨x, ys, rfl, hx, h⟩ hc
    refine ⟨⟨x, hc 0 x rfl, ?_⟩, ih ys (o + 1) h fun j u hu => ?_⟩
    · rcases hx.keep hk hL hH with h | h | ⟨h1, A, cap, h2, h3⟩
      · exact .inl h
      · exact .inr (.inl h)
      · exact .inr (.inr ⟨h1, A, cap, h2, h3.1, h3.2.1, h3.2.2⟩)
    · have := hc (j + 1) u (by simpa using hu)
      rwa [show o + (j + 1) = o + 1 + j by omega] at this
end

/-- What splitList answers. -/
def SplitRes (w : World) (F T : Fr) (e : Ending) (w' : World) : Prop :=
  Below w.heap.size w w' ∧ ∃ A cap v', e = .returned (.tuple #[.slice A F.len cap, v']) ∧ NdS w' 0 w'.heap.size F A cap ∧ ∃ k n s f, T = .cons k n s f .nil ∧ NdV w' 0 w'.heap.size k n s f v'
/-- The loop's relation. -/
def SpP (w : World) (lo hi : Nat) (F T : Fr) (k n : Int) (s : ByteArray) (f : Fr) (x : Value) (acc : Fr) (v : Value) (wr : World) : Prop :=
  NdV w lo hi k n s f x ∧ (∃ xs, wr.ownsRow w.heap.size 53 1 v acc.len xs ∧ NDesc w lo hi acc xs) ∧ acc.app (fronts k s f) = F ∧ tails k n s f = T ∧ Below w.heap.size w wr
/-- What splitList answers, by the blocks: the row is new, the nodes are the old ones. -/
def SplitR2 (w : World) (lo hi : Nat) (F T : Fr) (e : Ending) (w' : World) : Prop :=
  Below w.heap.size w w' ∧ ∃ v v', e = .returned (.tuple #[v, v']) ∧ (∃ xs, w'.ownsRow w.heap.size 53 1 v F.len xs ∧ NDesc w lo hi F xs) ∧ ∃ k n s f, T = .cons k n s f .nil ∧ NdV w lo hi k n s f v'
theorem SpP.fin {w wr : World} {lo hi : Nat} {F T : Fr} {k n : Int} {s : ByteArray} {f : Fr} {x : Value} {acc : Fr} {v : Value} (h : SpP w lo hi F T k n s f x acc v wr) (hp : pairB k s f.len = false) (o : Obj) :
    SplitR2 w lo hi F T (.returned (.tuple #[v, x])) (wr.alloc o) := by
  obtain ⟨hx, ⟨xs, ho, hD⟩, hF, hT, hb⟩ := h
  rw [(pair_no n hp).1, app_nil] at hF
  rw [(pair_no n hp).2] at hT
  subst hF hT
  exact ⟨hb.alloc hb.size o, v, x, rfl, ⟨xs, ho.alloc o, hD⟩, k, n, s, f, rfl, hx⟩
theorem SplitR2.res {w w' : World} {lo hi : Nat} {F T : Fr} {e : Ending} (h : SplitR2 w lo hi F T e w') (hh : hi ≤ w.heap.size) : SplitRes w F T e w' := by
  obtain ⟨hb2, v, x, rfl, ⟨xs, ho2, hD⟩, k, n, s, f, rfl, hx⟩ := h
  have hk : ∀ p : Addr, lo ≤ p.block → p.block < hi → w'.cell? p = w.cell? p := fun p _ hp => hb2.cell (by omega)
  refine ⟨hb2, ?_⟩
  rcases ho2.2 with ⟨rfl, h0⟩ | ⟨g, cap, cur, rfl, hbg, hg, hnc, hcm, hcs, htake⟩
  · have hnil : F = .nil := by
      cases F with
      | nil => rfl
      | cons _ _ _ _ _ => simp [Fr.len] at h0
    subst hnil
    exact ⟨none, 0, x, rfl, ⟨Nat.le_refl _, Nat.zero_le _, fun h => absurd h (Nat.lt_irrefl 0)⟩, k, n, s, f, rfl, hx.keep hk (Nat.zero_le _) (Nat.le_trans hh hb2.size)⟩
  · refine ⟨_, cap, x, rfl, ⟨hnc, hcm, fun _ => ⟨g, rfl, Nat.zero_le _, Blk.lt hg, ?_⟩⟩, k, n, s, f, rfl, hx.keep hk (Nat.zero_le _) (Nat.le_trans hh hb2.size)⟩
    refine NDesc.row hk (Nat.zero_le _) (Nat.le_trans hh hb2.size) F xs 0 hD fun j u hu => ?_
    have h3 := (World.ownsRow.cells ho2 (g := g) rfl) j u hu
    have e : (⟨g, 0, none⟩ : Addr).add j = ⟨g, 0 + j, none⟩ := by unfold Addr.add; split <;> simp_all
    rwa [e] at h3

end Go.Proofs.YtkefpickpjjllaaDoor

/- impl.ListOf. Condition: the term lies in memory, the table of signs in its variable. -/
namespace Go.Proofs.YtkefpickpjjllaaDoor
open Go.RowKit

theorem shape_fronts (k n : Int) (s : ByteArray) (f : Fr) (d : Int) (h : shapeT k n s f d = true) : shapeF (fronts k s f) d = true := by
  have all : ∀ N : Nat, ∀ f : Fr, f.size ≤ N → ∀ k n s d, shapeT k n s f d = true → shapeF (fronts k s f) d = true := by
    intro N
    induction N with
    | zero =>
      intro f hf k n s d _
      cases f with
      | nil => rfl
      | cons _ _ _ _ _ => simp [Fr.size] at hf
    | succ N ih =>
      intro f hf k n s d h
      cases hp : pairB k s f.len
      · rw [(pair_no 0 hp).1]; rfl
      · obtain ⟨k1, n1, s1, kd1, k2, n2, s2, kd2, rfl, hfr, _⟩ := pair_yes 0 hp
        rw [hfr, shapeF_cons]
        simp only [Fr.size] at hf
        have h1 := shapeT_kids h
        rw [shapeF_cons, shapeF_cons, Bool.and_eq_true, Bool.and_eq_true] at h1
        have h2 := ih kd2 (by omega) k2 n2 s2 (d - 1) h1.2.1
        rw [Bool.and_eq_true]
        refine ⟨?_, shapeF_mono _ (d - 1) d (by omega) h2⟩
        have h3 : shapeF (.cons k1 n1 s1 kd1 .nil) (d - 1) = true := by rw [shapeF_cons, h1.1]; rfl
        have h4 := shapeF_mono _ (d - 1) d (by omega) h3
        rw [shapeF_cons, Bool.and_eq_true] at h4
        exact h4.1
  exact all f.size f (Nat.le_refl _) k n s d h
theorem validT_shape {k n : Int} {s : ByteArray} {f : Fr} (h : validT k n s f = true) : shapeT k n s f 30 = true := by
  unfold validT at h
  rw [Bool.and_eq_true] at h
  exact h.1


end Go.Proofs.YtkefpickpjjllaaDoor

/- spec.InstanceOf. Condition: the terms lie in memory. -/
namespace Go.Proofs.YtkefpickpjjllaaDoor
open Go.RowKit

/-- What both InstanceOf answer. -/
def inB (k n : Int) (s : ByteArray) (f : Fr) (k' n' : Int) (s' : ByteArray) (g : Fr) : Bool := validT k n s f && (validT k' n' s' g && (mtT [] k' n' s' g k n s f).isSome)
/-- Both boxes lie there. -/
def VB (w : World) (a b : Array Value) (wk : World) : Prop := Below w.heap.size w wk ∧ Blk wk w.heap.size 31 a ∧ Blk wk (w.heap.size + 1) 31 b
theorem VB.next {w wk wl : World} {a b : Array Value} (h : VB w a b wk) (hb : Below wk.heap.size wk wl) : VB w a b wl := ⟨h.1.trans (hb.mono h.1.size), h.2.1.below hb h.2.1.lt, h.2.2.below hb h.2.2.lt⟩
theorem VB.drew {w wk : World} {a b : Array Value} (h : VB w a b wk) : VB w a b wk.drew := h.next (Below.refl _ _).drew
theorem VB.cells {w wk : World} {x0 x1 x2 x3 y0 y1 y2 y3 : Value} (h : VB w #[x0, x1, x2, x3] #[y0, y1, y2, y3] wk) : wk.cell? ⟨w.heap.size, 0, none⟩ = some x0 ∧ wk.cell? ⟨w.heap.size, 1, none⟩ = some x1 ∧ wk.cell? ⟨w.heap.size, 2, none⟩ = some x2 ∧ wk.cell? ⟨w.heap.size, 3, none⟩ = some x3 ∧
    wk.cell? ⟨w.heap.size + 1, 0, none⟩ = some y0 ∧ wk.cell? ⟨w.heap.size + 1, 1, none⟩ = some y1 ∧ wk.cell? ⟨w.heap.size + 1, 2, none⟩ = some y2 ∧ wk.cell? ⟨w.heap.size + 1, 3, none⟩ = some y3 := by
  obtain ⟨a0, a1, a2, a3⟩ := cells4i h.2.1
  obtain ⟨b0, b1, b2, b3⟩ := cells4i h.2.2
  exact ⟨a0, a1, a2, a3, b0, b1, b2, b3⟩

/-- The empty table. -/
def kn0 : Array Value := madeCells #[.int .i64 0, .int .i64 0, .string ⟨#[]⟩, .slice none 0 0] 104
theorem run_kn0 (w : World) : (Instr.makeSlice 29 (.int .i64 26) (.int .i64 26)).run Tryd.prog w = .ok (.slice (some ⟨w.heap.size, 0, none⟩) 26 26) (w.alloc (.cells kn0 31)) := by
  obtain ⟨i0, hi0, hz0, hz1, hz2⟩ := info_parts infoT
  have hr := run_make (P := Tryd.prog) w 29 31 i0 _ Tryd.underlying29 hi0 hz0 .i64 .i64 26 26 (by omega) (by omega) (by rw [hz2]; omega) (by omega)
  rw [hz1] at hr
  exact hr
theorem kn0_lies {w1 : World} {g : Nat} (hq : Blk w1 g 31 kn0) (lo hi : Nat) : KnS w1 lo hi g [] := by
  refine ⟨kn0, hq, by simp [kn0, madeCells], fun i hi' => ⟨fun _ => ?_, fun m hm => by cases hm⟩⟩
  have e : (i * 4) % 4 = 0 := by omega
  have e2 : i * 4 < 104 := by omega
  simp [kn0, madeCells, e, e2]

theorem MsRes.one {w w' : World} {lo hi g : Nat} {r : Option St} {e : Ending} (h : MsRes w lo hi g r e w') : e = .returned (.bool r.isSome) ∧ Wrote [g] w w' := by
  refine ⟨?_, h.1⟩
  rcases h.2 with ⟨st', rfl, rfl, _⟩ | ⟨rfl, rfl⟩
  · rfl
  · rfl

end Go.Proofs.YtkefpickpjjllaaDoor
