/- spec.l3Shift: a term with a number added to its variables. Condition: the term lies in memory and is well-formed. -/
import Derived.Test.YtkefpickpjjllaaDoorProg
import Derived.Test.YtkefpickpjjllaaDoorRen
import Derived.Test.YtkefpickpjjllaaDoorTermOf
import Derived.Test.YtkefpickpjjllaaDoorZmUT36
import Derived.Test.YtkefpickpjjllaaDoorRowP
namespace Go.Proofs.YtkefpickpjjllaaDoor
open Go.RowKit

/-- The new number; the row with all variables shifted. -/
def shN (V k n : Int) : Int := if k = 1 then n + V else n
def shF (V : Int) : Fr → Fr
  | .nil => .nil
  | .cons k n s kids rest => .cons k (shN V k n) s (shF V kids) (shF V rest)
theorem shF_len (V : Int) (f : Fr) : (shF V f).len = f.len := by
  induction f with
  | nil => rfl
  | cons _ _ _ _ _ _ ih => simp only [shF, Fr.len, ih]
theorem shF_nodes (V : Int) (f : Fr) : nodes (shF V f) = nodes f := by
  induction f with
  | nil => rfl
  | cons _ _ _ _ _ ihk ih => simp only [shF, nodes, ih, ihk]
theorem shF_drop (V : Int) (f : Fr) : ∀ j, (shF V f).drop j = shF V (f.drop j) := by
  induction f with
  | nil => intro j; cases j <;> rfl
  | cons _ _ _ _ _ _ ih =>
    intro j
    cases j with
    | zero => rfl
    | succ j => exact ih j
theorem shapeT_small {k n : Int} {s : ByteArray} {f : Fr} {d : Int} (h : shapeT k n s f d = true) : Fits k n s ∧ (-999 ≤ n ∧ n ≤ 999) := by
  have hk := shapeT_kind h
  by_cases h3 : k = 3
  · subst h3
    obtain ⟨rfl, hnm, _, _⟩ := shapeT_struct h
    exact ⟨⟨by omega, by omega, by have := nameB_size hnm; unfold maxLen; omega⟩, by omega⟩
  · obtain ⟨rfl, _, hn⟩ := shapeT_leaf h h3
    exact ⟨⟨by omega, by omega, by unfold maxLen; simp [ByteArray.size]⟩, hn⟩
theorem shN_fits {k n V : Int} {s : ByteArray} {f : Fr} {d : Int} (h : shapeT k n s f d = true) (hV : -25 ≤ V ∧ V ≤ 25) : Fits k (shN V k n) s := by
  obtain ⟨⟨h1, h2, h3⟩, h4⟩ := shapeT_small h
  refine ⟨h1, ?_, h3⟩
  unfold shN
  split <;> omega

def SfT (s : ByteArray) (f : Fr) : Prop := ∀ (k n V d : Int) (A : Option Addr) (cap lo hi : Nat) (w : World), KidsAt w lo hi f A cap → hi ≤ w.heap.size → shapeT k n s f d = true → nodes f ≤ 1048576 → -25 ≤ V ∧ V ≤ 25 →
  Calls Tryd.prog 51 #[.agg #[.int .i64 k, .int .i64 n, .string s, .slice A f.len cap], .int .i64 V] w fun e w' => MadeT w k (shN V k n) s (shF V f) e w'

set_option maxRecDepth 100000 in
set_option maxHeartbeats 8000000 in
theorem sfT_of (s : ByteArray) (f : Fr) (h : ∀ i k n s kids rest, f.drop i = .cons k n s kids rest → SfT s kids) : SfT s f := by
  intro k n V d A cap lo hi w hk hh hf hnd hVl
  have hfit := (shapeT_small hf).2
  have HK := Lib.hid hk
  have HH := Lib.hid h
  have HHI := Lib.hid hh
  have HND := Lib.hid hnd
  have hl := hk.1
  have hm := hk.2.1
  have hl2 : f.len ≤ 1048576 := by have := len_le_nodes f; omega
  have hst : ∀ m, RnP w k n m s f.len (shF V f) A cap w.heap.size 0 (.slice none 0 0) (((w.alloc (.cells #[.int .i64 k, .int .i64 n, .string s, .slice A f.len cap] 31)).alloc (.cells #[.int .i64 0, .int .i64 0, .string ⟨#[]⟩, .slice none 0 0] 31)).alloc (.cells #[.int .i64 k, .int .i64 m, .string s, .slice none 0 0] 31)) := by
    intro m
    refine ⟨((Blk.new w _ _).alloc _).alloc _, ?_, ?_, RowP.nil _ _, (two_alloc w _ _).alloc (by simp; omega) _, by simp, Nat.le_refl _⟩
    · have h := (Blk.new (w.alloc (.cells #[.int .i64 k, .int .i64 n, .string s, .slice A f.len cap] 31)) 31 #[.int .i64 0, .int .i64 0, .string ⟨#[]⟩, .slice none 0 0]).alloc (.cells #[.int .i64 k, .int .i64 m, .string s, .slice none 0 0] 31)
      simpa using h
    · have h := Blk.new ((w.alloc (.cells #[.int .i64 k, .int .i64 n, .string s, .slice A f.len cap] 31)).alloc (.cells #[.int .i64 0, .int .i64 0, .string ⟨#[]⟩, .slice none 0 0] 31)) 31 #[.int .i64 k, .int .i64 m, .string s, .slice none 0 0]
      simpa using h
  unfold maxLen at hm
  have HSF := Lib.hid (shapeT_kids hf)
  clear hk h hh hnd hf
  obtain ⟨i0, hi0, hz0, hz1, hz2⟩ := info_parts infoT
  generalize hn : f.len = len at *
  have HN := Lib.hid hn
  have HST := Lib.hid hst
  clear hn hst
  go_enter Tryd.func51, Tryd.ntmps51
  rcases (show k = 1 ∨ k ≠ 1 by omega) with hk1 | hk1
  case' inl =>
    have t1 : (k == 1) = true := by rw [hk1]; rfl
    have HM : Hid (n + V = shN V k n) := Lib.hid (by unfold shN; rw [if_pos hk1])
    clear hk1
  case' inr =>
    have t1 : (k == 1) = false := by rw [beq_eq_false_iff_ne]; exact hk1
    have HM : Hid (n = shN V k n) := Lib.hid (by unfold shN; rw [if_neg hk1])
  all_goals
    go_wp2_with fail
    go_loopw [6] (fun i wr => ∃ (j : Nat) (v : Value) (m : Int), j ≤ len ∧ i = .int .i64 j ∧ m = shN V k n ∧ shapeF (f.drop j) (d - 1) = true ∧ RnP w k n m s len (shF V f) A cap w.heap.size j v wr) (fun i _ => len - (intOf i).toNat)
    case atStart => exact ⟨0, .slice none 0 0, _, Nat.zero_le _, rfl, HM.out, HSF.out, HST.out _⟩
    case round =>
      obtain ⟨j, v, m, hj, rfl, hmn, hsh, hp⟩ := hrel
      have HMR := Lib.hid hmn
      clear hmn
      have HP := Lib.hid hp
      obtain ⟨b0, b1, b2, hr, hb, hs, hH⟩ := hp
      have a3 := b0.cell 3
      simp only [List.getElem?_toArray, List.getElem?_cons_zero, List.getElem?_cons_succ] at a3
      by_cases hlt : j < len
      · obtain ⟨kk, nn, s', kids, hd⟩ := Fr.drop_cons j f (by rw [HN.out]; exact hlt)
        obtain ⟨b, o, rfl, hlb, hbb, hrow⟩ := HK.out.2.2 (by rw [HN.out]; omega)
        obtain ⟨hfit, A', cap', c0, c1, c2, c3, hkid⟩ := hrow.elem hd
        rw [hd, shapeF_cons, Bool.and_eq_true] at hsh
        have hlo : (⟨b, o, none⟩ : Addr).block < w.heap.size := Nat.lt_of_lt_of_le hbb HHI.out
        have k0 := (hb.cell (p := ⟨b, o + j * 4, none⟩) hlo).trans c0
        have k1 := (hb.cell (p := ⟨b, o + j * 4 + 1, none⟩) hlo).trans c1
        have k2 := (hb.cell (p := ⟨b, o + j * 4 + 2, none⟩) hlo).trans c2
        have k3 := (hb.cell (p := ⟨b, o + j * 4 + 3, none⟩) hlo).trans c3
        obtain ⟨xs, L, hown, hD, hN, hL, hv⟩ := hr
        rw [Fr.len_take j (shF V f) (by rw [shF_len, HN.out]; omega)] at hown
        have hvl := hown.lt
        have x3 := b2.cell 3
        have xf := b2.frozen 3
        simp only [List.getElem?_toArray, List.getElem?_cons_zero, List.getElem?_cons_succ] at x3
        have hsz : w.heap.size + 1 + 1 < wr.heap.size := by omega
        have C2 : ∀ w1, Below wr.heap.size wr w1 → Calls Tryd.prog 51 #[.agg #[.int .i64 kk, .int .i64 nn, .string s', .slice A' kids.len cap'], .int .i64 V] w1 fun e w' => MadeT w1 kk (shN V kk nn) s' (shF V kids) e w' := fun w1 hb1 => by
          have hb2 := hb.trans (hb1.mono hb.size)
          refine HH.out _ _ _ _ _ _ hd kk nn V (d - 1) A' cap' lo hi w1 (hkid.below hb2 HHI.out) (Nat.le_trans HHI.out hb2.size) hsh.1 ?_ hVl
          have := nodes_elem j f hd
          have := HND.out
          omega
        have STEP := fun (A2 : Option Addr) (cap2 : Nat) (w1 w2 w4 : World) (g cap4 : Nat) hm hb2 hg ho hat => HP.out.step (w1 := w1) (w2 := w2) (w4 := w4) (A' := A2) (cap' := cap2) (g := g) (cap4 := cap4) (show (shF V f).drop j = .cons kk (shN V kk nn) s' (shF V kids) (shF V (f.drop (j + 1))) by rw [shF_drop, hd]; rfl) (by rw [shF_len, HN.out]; exact hlt) hD hN hL hv hvl (shN_fits hsh.1 hVl) hm hb2 hg ho hat
        rw [shF_len] at STEP
        unfold MadeT at C2
        rw [shF_len] at C2
        generalize shN V kk nn = nr at *
        have HS2 := Lib.hid hsh.2
        have H2 := Lib.hid C2
        have HSTEP := Lib.hid STEP
        have HOWN := Lib.hid hown
        have hne : some (w.heap.size + 1 + 1) ≠ v.ownBlock := fun e => by have := (hvl _ e.symm).1; omega
        have keep : ∀ w2, Below wr.heap.size wr w2 → w2.ownsRow (w.heap.size + 1 + 1 + 1) 31 4 v j xs := fun w2 hb2 =>
          hown.kept (row := none) ⟨hb2.os, hb2.tape, hb2.output, hb2.size, fun k hk _ => hb2.block k hk⟩ (by
            cases h : v.ownBlock with
            | none => exact .inl rfl
            | some g => exact .inr (by simp))
        have HNE := Lib.hid hne
        have HKEEP := Lib.hid keep
        have HB2 := Lib.hid b2
        have hHs : w.heap.size ≤ wr.heap.size := by omega
        have ij0 : (0 : Int) ≤ (j : Int) := Int.natCast_nonneg _
        have ij1 : (j : Int) < (len : Int) := by omega
        clear C2 STEP hown hD hN hL hv hvl hb hH b0 b1 b2 hrow hkid hd c0 c1 c2 c3 hfit hlo hne keep hsh
        go_wp2_with fail
        go_region_law (first
          | (refine step_append_lies _ (by rfl) _ _ _ (by rfl) (w.heap.size + 1 + 1 + 1) 31 i0 _ 4 56 Tryd.underlying29 hi0 hz0 hz1 hz2 rfl (by omega) v j xs (by rfl) (HO2.out.alloc _)
               ⟨w2.heap.size, 0, none⟩ 1 1 [.int .i64 kk, .int .i64 nr, .string s', .slice A2 kids.len cap2] (by rfl) (by rfl) (World.news_of_block (cs := #[.int .i64 kk, .int .i64 nr, .string s', .slice A2 kids.len cap2]) (fr := (0, 0)) (heap_alloc_new w2 _)) (by simp [Value.oneCell'])
               (by omega) (by unfold maxLen; omega) (by omega) (by simp; omega) (w2.heap.size + 1) (by simp) ?_
             intro g cap4 w4 hown4 hgrow hat hlt4
             have q4 := (HQ2.out.alloc (.cells #[.int .i64 kk, .int .i64 nr, .string s', .slice A2 kids.len cap2] 31)).keep (hgrow.block _ (by simp; omega) HNE.out)
             have z3 := q4.cell 3
             have zf := q4.frozen 3
             simp only [List.getElem?_toArray, List.getElem?_cons_zero, List.getElem?_cons_succ] at z3
             clear q4
             have HOWN4 := Lib.hid hown4
             have HGROW := Lib.hid hgrow
             have HAT := Lib.hid hat
             clear hown4 hgrow hat)
          | (go_simp
             go_at_call 51
             refine (H2.out _ (Below.refl _ _).drew).mono ?_
             rintro e w2 ⟨A2, cap2, rfl, hm2⟩
             have hd2 : Below wr.heap.size wr w2 := (Below.refl wr.heap.size wr).drew.trans (by obtain ⟨L, _, _, _, h⟩ := hm2; exact h)
             have y3 := (hd2.cell (p := ⟨w.heap.size + 1 + 1, 3, none⟩) hsz).trans x3
             have hs2 : wr.heap.size ≤ w2.heap.size := hd2.size
             have HO2 := Lib.hid (HKEEP.out w2 hd2)
             have HQ2 := Lib.hid (HB2.out.below hd2 hsz)
             have y4 := (HQ2.out.alloc (.cells #[.int .i64 kk, .int .i64 nr, .string s', .slice A2 kids.len cap2] 31)).cell 3
             simp only [List.getElem?_toArray, List.getElem?_cons_zero, List.getElem?_cons_succ] at y4
             have HM := Lib.hid hm2
             clear hm2 hd2))
        all_goals
          go_wp2_with fail
          go_roundw
          case rel => exact ⟨j + 1, _, m, by omega, by go_num, HMR.out, HS2.out, HSTEP.out A2 cap2 w2 _ w4 g cap4 (drew_made HM.out) ((Below.refl _ _).alloc (Nat.le_refl _) _) HGROW.out HOWN4.out (by rw [show (w2.alloc (.cells #[.int .i64 kk, .int .i64 nr, .string s', .slice A2 kids.len cap2] 31)).heap.size = w2.heap.size + 1 by simp]; exact HAT.out)⟩
          case measure => simp [intOf]; omega
      · obtain rfl : j = len := by omega
        have x0 := b2.cell 0
        have x1 := b2.cell 1
        have x2 := b2.cell 2
        have x3 := b2.cell 3
        have d0 := b1.cell 0
        have d1 := b1.cell 1
        have d2 := b1.cell 2
        have d3 := b1.cell 3
        have g0 := b1.frozen 0
        have g1 := b1.frozen 1
        have g2 := b1.frozen 2
        have g3 := b1.frozen 3
        simp only [List.getElem?_toArray, List.getElem?_cons_zero, List.getElem?_cons_succ] at x0 x1 x2 x3 d0 d1 d2 d3
        rw [← HN.out, ← shF_len V f, Fr.take_len] at hr
        obtain ⟨A2, cap2, rfl⟩ := hr.form
        have HB1 := Lib.hid b1
        have HR := Lib.hid hr
        have HB := Lib.hid hb
        clear b0 b1 b2 hr hb HP hsh
        go_wp2_with fail
        have e1 := (((HB1.out.set_ 0 (.int .i64 k)).set_ 1 (.int .i64 m)).set_ 2 (.string s)).set_ 3 (.slice A2 (shF V f).len cap2)
        have hr2 := (((HR.out.set_ (p := ⟨w.heap.size + 1, 0, none⟩) (by simp) (.int .i64 k)).set_ (p := ⟨w.heap.size + 1, 1, none⟩) (by simp) (.int .i64 m)).set_ (p := ⟨w.heap.size + 1, 2, none⟩) (by simp) (.string s)).set_ (p := ⟨w.heap.size + 1, 3, none⟩) (by simp) (.slice A2 (shF V f).len cap2)
        rw [← HMR.out]
        refine bodyPost_ret (v := .agg #[.int .i64 k, .int .i64 m, .string s, .slice A2 (shF V f).len cap2]) ?_ rfl ⟨A2, cap2, rfl, hr2.done ?_ (by omega)⟩
        · exact results_cell_row Tryd.results51 _ _ (w.heap.size + 1) _ _ _ _ rfl e1 Tryd.underlying31 rfl (by kernel_rfl)
        · exact (((HB.out.setCell (p := ⟨w.heap.size + 1, 0, none⟩) (by simp) _).setCell (p := ⟨w.heap.size + 1, 1, none⟩) (by simp) _).setCell (p := ⟨w.heap.size + 1, 2, none⟩) (by simp) _).setCell (p := ⟨w.heap.size + 1, 3, none⟩) (by simp) _
theorem sf_all (N : Nat) : ∀ (s : ByteArray) (f : Fr), f.size ≤ N → SfT s f := by
  induction N with
  | zero =>
    intro s f hf
    refine sfT_of s f fun i k n s kids rest hd => ?_
    have h1 := Fr.size_drop i f
    rw [hd] at h1
    simp only [Fr.size] at h1
    omega
  | succ N ih =>
    intro s f hf
    refine sfT_of s f fun i k n s kids rest hd => ih s kids ?_
    have h1 := Fr.size_drop i f
    rw [hd] at h1
    simp only [Fr.size] at h1
    omega
/-- spec.l3Shift. -/
theorem sfT_any (s : ByteArray) (f : Fr) : SfT s f := sf_all f.size s f (Nat.le_refl _)
end Go.Proofs.YtkefpickpjjllaaDoor

/- spec.l3Full. Condition: the term and the table lie in memory; the terms are well-formed. -/
namespace Go.Proofs.YtkefpickpjjllaaDoor
open Go.RowKit

/-- What l3Full leaves: the node M and the room that is left, or a number below 0. -/
def FuRes (w : World) (M : Nd) (rm : Int) (e : Ending) (w' : World) : Prop :=
  ∃ (m : Nd) (A : Option Addr) (c : Nat) (l : Int), e = .returned (.tuple #[.agg #[.int .i64 m.k, .int .i64 m.n, .string m.s, .slice A m.f.len c], .int .i64 l]) ∧ Made w m.f A c w' ∧ Fits m.k m.n m.s ∧ -1 ≤ l ∧ l ≤ rm ∧
    (((nodes M.f : Int) + 1 ≤ rm ∧ m = M ∧ l = rm - 1 - nodes M.f) ∨ (rm < (nodes M.f : Int) + 1 ∧ l < 0))
theorem fits_zero : Fits 0 0 ⟨#[]⟩ := ⟨by omega, by omega, by decide⟩
def FuC (rm : Int) : Prop := ∀ (σ : Sub) (m : Nd) (A : Option Addr) (cap lo hi g : Nat) (w : World), Ok2 σ → ShS σ → KidsAt w lo hi m.f A cap → hi ≤ w.heap.size → hi ≤ g → KnS w lo hi g σ → Tm m →
  Calls Tryd.prog 21 #[.agg #[.int .i64 m.k, .int .i64 m.n, .string m.s, .slice A m.f.len cap], .slice (some ⟨g, 0, none⟩) 26 26, .int .i64 rm] w fun e w' => FuRes w (suN (fin σ) m) rm e w'
theorem fu_M {σ : Sub} (hσ : Ok2 σ) (m : Nd) (ht : Tm (wk σ m)) : suN (fin σ) m = ⟨(wk σ m).k, (wk σ m).n, (wk σ m).s, suF (fin σ) (wk σ m).f⟩ := by
  rw [← wk_fin σ m hσ]
  have he := wk_end σ m hσ
  generalize wk σ m = x at *
  by_cases hk : x.k = 1
  · have hl := he.resolve_left (fun h => h hk)
    obtain ⟨k, n, s, f⟩ := x
    simp only at hk hl
    subst hk
    obtain ⟨rfl, rfl, _⟩ := shapeT_var ht.1
    unfold suN
    rw [if_pos rfl]
    exact hσ.inv.free n hl
  · unfold suN
    rw [if_neg hk]
theorem suF_drop (τ : Int → Nd) (f : Fr) : ∀ j, (suF τ f).drop j = suF τ (f.drop j) := by
  induction f with
  | nil => intro j; cases j <;> rfl
  | cons k n s kids rest _ ih =>
    intro j
    cases j with
    | zero => rfl
    | succ j => rw [suF_cons]; exact ih j
theorem nodes_take_le (f : Fr) : ∀ j, nodes (f.take j) ≤ nodes f := by
  induction f with
  | nil => intro j; cases j <;> exact Nat.le_refl _
  | cons k n s kids rest _ ih =>
    intro j
    cases j with
    | zero => exact Nat.zero_le _
    | succ j =>
      have := ih j
      show nodes (Fr.cons k n s kids (rest.take j)) ≤ _
      simp only [nodes]; omega
/-- j arguments are done, with lv of the room left; or there is no room. -/
def LvP (X : Fr) (rm : Int) (j : Nat) (lv : Int) (mf : Fr) : Prop := (-1 ≤ lv ∧ lv ≤ rm) ∧ mf.len = j ∧ ((0 ≤ lv ∧ mf = X.take j ∧ lv = rm - 1 - nodes mf) ∨ (lv < 0 ∧ rm - 1 < (nodes X : Int)))
theorem LvP.step {X : Fr} {rm lv l : Int} {j : Nat} {mf rest : Fr} {M m : Nd} (h : LvP X rm j lv mf) (hlv : 0 ≤ lv) (hd : X.drop j = .cons M.k M.n M.s M.f rest) (h1 : -1 ≤ l) (h2 : l ≤ lv)
    (hr : ((nodes M.f : Int) + 1 ≤ lv ∧ m = M ∧ l = lv - 1 - nodes M.f) ∨ (lv < (nodes M.f : Int) + 1 ∧ l < 0)) : LvP X rm (j + 1) l (mf.app (.cons m.k m.n m.s m.f .nil)) := by
  obtain ⟨⟨_, h3⟩, hl, ⟨_, h4, h5⟩ | ⟨h4, _⟩⟩ := h
  · have hn := nodes_take j X hd
    have hle := nodes_take_le X (j + 1)
    rw [← h4] at hn
    refine ⟨⟨h1, by omega⟩, by rw [Fr.len_app, hl]; rfl, ?_⟩
    rcases hr with ⟨_, rfl, h6⟩ | ⟨h6, h7⟩
    · refine .inl ⟨by omega, by rw [Fr.take_succ j X hd, ← h4], ?_⟩
      rw [nodes_app]
      simp only [nodes]
      omega
    · exact .inr ⟨h7, by omega⟩
  · omega
/-- The loop's relation: the box of the walked term, the result's and the node's blocks lie at H0, H0 + 1, H. -/
def FuP (w : World) (k n : Int) (s : ByteArray) (len : Nat) (A : Option Addr) (cap H0 H : Nat) (mf : Fr) (v : Value) (wr : World) : Prop :=
  Blk wr H0 31 #[.int .i64 k, .int .i64 n, .string s, .slice A len cap] ∧ Blk wr (H0 + 1) 31 #[.int .i64 0, .int .i64 0, .string ⟨#[]⟩, .slice none 0 0] ∧
  Blk wr H 31 #[.int .i64 k, .int .i64 n, .string s, v] ∧ RowP (H + 1) v mf wr ∧ Below w.heap.size w wr ∧ H + 1 ≤ wr.heap.size ∧ w.heap.size ≤ H0 ∧ H0 + 1 < H
theorem FuP.step {w wr w1 w2 w4 : World} {k n : Int} {s : ByteArray} {len : Nat} {f : Fr} {A : Option Addr} {cap H0 H j : Nat} {v : Value} {xs : List Value} {L : List Nat} {kk nn : Int} {s' : ByteArray} {kids : Fr} {A' : Option Addr} {cap' g cap4 : Nat}
    (h : FuP w k n s len A cap H0 H f v wr) (hj : f.len = j) (hD : Desc wr f xs L) (hN : L.Nodup) (hL : ∀ x ∈ L, H + 1 ≤ x ∧ x < wr.heap.size) (hv : ∀ g, v.ownBlock = some g → g ∉ L)
    (hvl : ∀ g, v.ownBlock = some g → H + 1 ≤ g ∧ g < wr.heap.size) (hf : Fits kk nn s') (hm : Made wr kids A' cap' w1) (hb2 : Below w1.heap.size w1 w2) (hg : w2.grownBy w4 v.ownBlock)
    (ho : w4.ownsRow (H + 1) 31 4 (.slice (some ⟨g, 0, none⟩) (j + 1) cap4) (j + 1) (xs ++ [.int .i64 kk, .int .i64 nn, .string s', .slice A' kids.len cap'])) (hat : v.ownBlock = some g ∨ g = w2.heap.size) :
    FuP w k n s len A cap H0 H (f.app (.cons kk nn s' kids .nil)) (.slice (some ⟨g, 0, none⟩) (j + 1) cap4) (w4.setCell ⟨H, 3, none⟩ (.slice (some ⟨g, 0, none⟩) (j + 1) cap4)) := by
  subst hj
  obtain ⟨b0, b1, b2, hr, hb, hs, hH, hHH⟩ := h
  have hm' := hm
  obtain ⟨_, _, _, _, hb1⟩ := hm'
  have far : ∀ x, x < H + 1 → w4.heap[x]? = wr.heap[x]? := fun x hx => by
    have h1 := hb1.size
    have h2 := hb2.size
    rw [hg.block x (by omega) fun e => by have := (hvl x e.symm).1; omega, hb2.block x (by omega), hb1.block x (by omega)]
  have hbw : Below w.heap.size w w4 := by
    have h1 := hb1.trans (hb2.mono hb1.size)
    have h2 := hb.trans (h1.mono hb.size)
    refine h2.grown hg h2.size fun g hg => ?_
    have := (hvl g hg).1; omega
  have hst := RowP.step (base := H + 1) hD hN hL hv (fun g hg => (hvl g hg).2) hs hf hm hb2 hg ho hat
  refine ⟨(b0.keep (far H0 (by omega))).far (by simp; omega) _, (b1.keep (far (H0 + 1) (by omega))).far (by simp; omega) _, (b2.keep (far H (by omega))).set_ 3 _, hst.set_ (by simp) _, hbw.setCell (by simp; omega) _, ?_, hH, hHH⟩
  have h1 := hb1.size
  have h2 := hb2.size
  have h3 := hg.size
  simp only [World.setCell, Array.size_modify]
  omega

set_option maxRecDepth 100000 in
set_option maxHeartbeats 400000 in
theorem fu_zero (m : Nd) (A : Option Addr) (cap g : Nat) (w : World) (M : Nd) (rm : Int) (h0 : 0 ≤ rm) (hr : rm < 1) :
    Calls Tryd.prog 21 #[.agg #[.int .i64 m.k, .int .i64 m.n, .string m.s, .slice A m.f.len cap], .slice (some ⟨g, 0, none⟩) 26 26, .int .i64 rm] w fun e w' => FuRes w M rm e w' := by
  obtain ⟨hb0, b0, b1⟩ := two_boxes w #[.int .i64 m.k, .int .i64 m.n, .string m.s, .slice A m.f.len cap] #[.int .i64 0, .int .i64 0, .string ⟨#[]⟩, .slice none 0 0]
  obtain ⟨d0, d1, d2, d3⟩ := cells4i b1
  obtain ⟨f0, f1, f2, f3⟩ := frozen4 b1
  have HB := Lib.hid b1
  have HB0 := Lib.hid hb0
  clear b0 b1 hb0
  go_enter Tryd.func21, Tryd.ntmps21
  go_wp2_with fail
  refine bodyPost_ret (v := .tuple #[.agg #[.int .i64 0, .int .i64 0, .string ⟨#[]⟩, .slice none 0 0], .int .i64 (-1)]) ?_ rfl ⟨⟨0, 0, ⟨#[]⟩, .nil⟩, none, 0, -1, rfl, made_nil HB0.out, fits_zero, by omega, by omega, .inr ⟨by omega, by omega⟩⟩
  exact results_cell_row2 Tryd.results21 _ _ (w.heap.size + 1) _ _ _ _ rfl HB.out Tryd.underlying31 rfl (by kernel_rfl)

end Go.Proofs.YtkefpickpjjllaaDoor
