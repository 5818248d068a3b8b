/- spec.l3Walk. Condition: the term and the table lie in memory; the terms are well-formed. -/
import Derived.Test.YtkefpickpjjllaaDoorProg
import Derived.Test.YtkefpickpjjllaaDoorMatS
import Derived.Test.YtkefpickpjjllaaDoorUn2
import Derived.Deep.LoopGhost
import Derived.Test.YtkefpickpjjllaaDoorVars
import Derived.Test.YtkefpickpjjllaaDoorAs
import Derived.Test.YtkefpickpjjllaaDoorTermOf
import Derived.Test.YtkefpickpjjllaaDoorImplV
import Derived.Test.YtkefpickpjjllaaDoorRep
import Derived.Maps.Own
import Derived.Maps.OwnOps
import Derived.Maps.OwnSet
import Derived.Test.YtkefpickpjjllaaDoorRen
import Derived.Test.YtkefpickpjjllaaDoorMk
import Derived.Test.YtkefpickpjjllaaDoorSpecC
import Derived.StillTailTactics
namespace Go.Proofs.YtkefpickpjjllaaDoor
open Go.RowKit

/-- A well-formed node that is not too large; all that is bound is so. -/
def Tm (m : Nd) : Prop := shapeT m.k m.n m.s m.f 30 = true ∧ nodes m.f ≤ 1000
def ShS (σ : Sub) : Prop := ∀ n m, lkS σ n = some m → Tm m
def WkRes (w : World) (lo hi : Nat) (m : Nd) (e : Ending) (w' : World) : Prop :=
  ∃ (A : Option Addr) (c : Nat), e = .returned (.agg #[.int .i64 m.k, .int .i64 m.n, .string m.s, .slice A m.f.len c]) ∧ KidsAt w' lo hi m.f A c ∧ Below w.heap.size w w' ∧ Tm m
set_option maxRecDepth 100000 in
set_option maxHeartbeats 4000000 in
theorem walkS_any (σ : Sub) (hσ : Ok2 σ) (hsσ : ShS σ) (m0 : Nd) (A : Option Addr) (cap lo hi g : Nat) (w : World) (hk : KidsAt w lo hi m0.f A cap) (hh : hi ≤ w.heap.size) (hg : hi ≤ g) (hK : KnS w lo hi g σ) (hs : Tm m0) :
    Calls Tryd.prog 39 #[.agg #[.int .i64 m0.k, .int .i64 m0.n, .string m0.s, .slice A m0.f.len cap], .slice (some ⟨g, 0, none⟩) 26 26] w fun e w' => WkRes w lo hi (wk σ m0) e w' := by
  have hgl := hK.lt
  obtain ⟨hb0, b0, b1⟩ := two_boxes w #[.int .i64 m0.k, .int .i64 m0.n, .string m0.s, .slice A m0.f.len cap] #[.int .i64 0, .int .i64 0, .string ⟨#[]⟩, .slice none 0 0]
  have HST : Hid (∃ (m : Nd) (A' : Option Addr) (c' : Nat), wl σ m ≤ wl σ m0 ∧ wk σ m = wk σ m0 ∧ Tm m ∧ Blk ((w.alloc (.cells #[.int .i64 m0.k, .int .i64 m0.n, .string m0.s, .slice A m0.f.len cap] 31)).alloc (.cells #[.int .i64 0, .int .i64 0, .string ⟨#[]⟩, .slice none 0 0] 31)) w.heap.size 31 #[.int .i64 m.k, .int .i64 m.n, .string m.s, .slice A' m.f.len c'] ∧ KidsAt ((w.alloc (.cells #[.int .i64 m0.k, .int .i64 m0.n, .string m0.s, .slice A m0.f.len cap] 31)).alloc (.cells #[.int .i64 0, .int .i64 0, .string ⟨#[]⟩, .slice none 0 0] 31)) lo hi m.f A' c' ∧ KnS ((w.alloc (.cells #[.int .i64 m0.k, .int .i64 m0.n, .string m0.s, .slice A m0.f.len cap] 31)).alloc (.cells #[.int .i64 0, .int .i64 0, .string ⟨#[]⟩, .slice none 0 0] 31)) lo hi g σ) :=
    Lib.hid ⟨m0, A, cap, Nat.le_refl _, rfl, hs, b0, hk.below hb0 hh, hK.below hb0 hh⟩
  have HB0 := Lib.hid hb0
  have HB1 := Lib.hid b1
  have HSS := Lib.hid hsσ
  have HOK := Lib.hid hσ
  clear hk hK hs hb0 b0 b1 hsσ hσ
  generalize wl σ m0 = n0 at *
  generalize wk σ m0 = mE at *
  go_enter Tryd.func39, Tryd.ntmps39
  go_wp2_with fail
  generalize ((w.alloc (.cells #[.int .i64 m0.k, .int .i64 m0.n, .string m0.s, .slice A m0.f.len cap] 31)).alloc (.cells #[.int .i64 0, .int .i64 0, .string ⟨#[]⟩, .slice none 0 0] 31)) = w1 at *
  have hs1 := HB0.out.size
  go_loopg [] n0 (fun gk wr => ∃ (m : Nd) (A' : Option Addr) (c' : Nat), wl σ m ≤ gk ∧ wk σ m = mE ∧ Tm m ∧ Blk wr w.heap.size 31 #[.int .i64 m.k, .int .i64 m.n, .string m.s, .slice A' m.f.len c'] ∧ KidsAt wr lo hi m.f A' c' ∧ KnS wr lo hi g σ ∧ Wrote [w.heap.size] w1 wr)
  case atStart =>
    obtain ⟨m, A', c', h1, h2, h3, h4, h5, h6⟩ := HST.out
    exact ⟨m, A', c', h1, h2, h3, h4, h5, h6, .refl _ _⟩
  case round =>
    obtain ⟨m, A', c', h1, h2, h3, h4, h5, h6, h7⟩ := hrel
    have x0 := h4.cell 0
    have x1 := h4.cell 1
    have x2 := h4.cell 2
    have x3 := h4.cell 3
    have f0 := h4.frozen 0
    have f1 := h4.frozen 1
    have f2 := h4.frozen 2
    have f3 := h4.frozen 3
    simp only [List.getElem?_toArray, List.getElem?_cons_zero, List.getElem?_cons_succ] at x0 x1 x2 x3
    have q1 := h7.blk HB1.out (by simp)
    have HQ1 := Lib.hid q1
    have z0 := q1.cell 0
    have z1 := q1.cell 1
    have z2 := q1.cell 2
    have z3 := q1.cell 3
    have g0 := q1.frozen 0
    have g1 := q1.frozen 1
    have g2 := q1.frozen 2
    have g3 := q1.frozen 3
    simp only [List.getElem?_toArray, List.getElem?_cons_zero, List.getElem?_cons_succ] at z0 z1 z2 z3
    have hsw := h7.size
    have HEND : Hid (m.k ≠ 1 ∨ lk σ m.n = none → ∀ w' : World, w' = ((((wr.setCell ⟨w.heap.size + 1, 0, none⟩ (.int .i64 m.k)).setCell ⟨w.heap.size + 1, 1, none⟩ (.int .i64 m.n)).setCell ⟨w.heap.size + 1, 2, none⟩ (.string m.s)).setCell ⟨w.heap.size + 1, 3, none⟩ (.slice A' m.f.len c')) → WkRes w lo hi mE (.returned (.agg #[.int .i64 m.k, .int .i64 m.n, .string m.s, .slice A' m.f.len c'])) w') := Lib.hid (by
      rintro hc w' rfl
      obtain ⟨e1, _⟩ := wk_stop σ m hc
      rw [e1] at h2
      subst h2
      have hw : Wrote [w.heap.size, w.heap.size + 1] w1 ((((wr.setCell ⟨w.heap.size + 1, 0, none⟩ (.int .i64 m.k)).setCell ⟨w.heap.size + 1, 1, none⟩ (.int .i64 m.n)).setCell ⟨w.heap.size + 1, 2, none⟩ (.string m.s)).setCell ⟨w.heap.size + 1, 3, none⟩ (.slice A' m.f.len c')) :=
        ((((h7.more fun x hx => by simp at hx; simp [hx]).set_ (.inl (by simp)) _).set_ (.inl (by simp)) _).set_ (.inl (by simp)) _).set_ (.inl (by simp)) _
      have hw2 : Wrote [w.heap.size + 1] wr ((((wr.setCell ⟨w.heap.size + 1, 0, none⟩ (.int .i64 m.k)).setCell ⟨w.heap.size + 1, 1, none⟩ (.int .i64 m.n)).setCell ⟨w.heap.size + 1, 2, none⟩ (.string m.s)).setCell ⟨w.heap.size + 1, 3, none⟩ (.slice A' m.f.len c')) :=
        ((((Wrote.refl _ _).set_ (.inl (by simp)) _).set_ (.inl (by simp)) _).set_ (.inl (by simp)) _).set_ (.inl (by simp)) _
      refine ⟨A', c', rfl, h5.keep fun p _ hp => hw2.cell (by omega) (by simp; omega), ?_, h3⟩
      exact ((Wrote.of_below HB0.out []).more_new hw fun x hx => by simp at hx; right; omega).below (Nat.le_refl _) (by simp))
    by_cases hk1 : m.k = 1
    · obtain ⟨hms, hmf, hn0⟩ := shapeT_var (by have h3 := h3.1; rw [hk1] at h3; exact h3)
      obtain ⟨i, hni⟩ : ∃ i : Nat, m.n = (i : Int) := ⟨m.n.toNat, by omega⟩
      have hi' : i < 26 := by omega
      obtain ⟨cs, k0, hcs, hcell⟩ := h6
      have hci := hcell i hi'
      have y0 := k0.cell (i * 4)
      have ii0 : (0 : Int) ≤ (i : Int) := Int.natCast_nonneg _
      have ii1 : (i : Int) < 26 := by omega
      have HKN : Hid (KnS wr lo hi g σ) := Lib.hid ⟨cs, k0, hcs, hcell⟩
      have e1 : (1 : Int) == 1 := rfl
      cases hlk : lkS σ (i : Int) with
      | none =>
        have HV := Lib.hid (HEND.out (.inr (by rw [hni]; exact hlk)))
        have y1 := y0.trans (hci.1 hlk)
        rw [hk1, hni, hms, hmf] at HV
        rw [hk1] at x0
        rw [hni] at x1
        clear HEND h2 h3 h4 h5 h7 hci y0 hcell k0 HST
        go_wp2_with fail
        refine bodyPost_ret (v := .agg #[.int .i64 1, .int .i64 (i : Int), .string ⟨#[]⟩, .slice A' Fr.nil.len c']) ?_ rfl (HV.out _ rfl)
        exact results_cell_row Tryd.results39 _ _ (w.heap.size + 1) _ _ _ _ rfl (set4 HQ1.out _ _ _ _) Tryd.underlying31 rfl (by kernel_rfl)
      | some t =>
        obtain ⟨ht0, htr, At, ct, c0, c1, c2, c3, hkt⟩ := hci.2 t hlk
        have y1 := y0.trans c0
        have y2 := (k0.cell (i * 4 + 1)).trans c1
        have y3 := (k0.cell (i * 4 + 2)).trans c2
        have y4 := (k0.cell (i * 4 + 3)).trans c3
        have ht1 : (t.k != 0) = true := by simpa using ht0
        have hst := wk_step σ m t HOK.out hk1 (by rw [hni]; exact hlk)
        have hgk : 1 ≤ gk := by have := hst.2; omega
        have HNX : Hid (∀ w' : World, w' = ((((wr.setCell ⟨w.heap.size, 0, none⟩ (.int .i64 t.k)).setCell ⟨w.heap.size, 1, none⟩ (.int .i64 t.n)).setCell ⟨w.heap.size, 2, none⟩ (.string t.s)).setCell ⟨w.heap.size, 3, none⟩ (.slice At t.f.len ct)) →
            ∃ (m : Nd) (A' : Option Addr) (c' : Nat), wl σ m ≤ gk - 1 ∧ wk σ m = mE ∧ Tm m ∧ Blk w' w.heap.size 31 #[.int .i64 m.k, .int .i64 m.n, .string m.s, .slice A' m.f.len c'] ∧ KidsAt w' lo hi m.f A' c' ∧ KnS w' lo hi g σ ∧ Wrote [w.heap.size] w1 w') := Lib.hid (by
          rintro w' rfl
          have hw : Wrote [w.heap.size] wr ((((wr.setCell ⟨w.heap.size, 0, none⟩ (.int .i64 t.k)).setCell ⟨w.heap.size, 1, none⟩ (.int .i64 t.n)).setCell ⟨w.heap.size, 2, none⟩ (.string t.s)).setCell ⟨w.heap.size, 3, none⟩ (.slice At t.f.len ct)) :=
            ((((Wrote.refl _ _).set_ (.inl (by simp)) _).set_ (.inl (by simp)) _).set_ (.inl (by simp)) _).set_ (.inl (by simp)) _
          refine ⟨t, At, ct, by have := hst.2; omega, hst.1.symm.trans h2, HSS.out _ t hlk, set4 h4 _ _ _ _, hkt.keep fun p _ hp => hw.cell (by omega) (by simp; omega), HKN.out.wrote hw (by simp; omega) (by omega) (by simp; omega), h7.trans hw⟩)
        rw [hk1] at x0
        rw [hni] at x1
        clear HEND h2 h3 h4 h5 h7 hci y0 hcell k0 HST hst c0 c1 c2 c3 hkt z0 z1 z2 z3 g0 g1 g2 g3
        go_wp2_with fail
        go_roundg (gk - 1)
        case measure => omega
        case rel => exact HNX.out _ rfl
    · have tk : (m.k == 1) = false := by rw [beq_eq_false_iff_ne]; exact hk1
      have HV := Lib.hid (HEND.out (.inl hk1))
      clear HEND h2 h3 h4 h5 h6 h7 HST
      go_wp2_with fail
      refine bodyPost_ret (v := .agg #[.int .i64 m.k, .int .i64 m.n, .string m.s, .slice A' m.f.len c']) ?_ rfl (HV.out _ rfl)
      exact results_cell_row Tryd.results39 _ _ (w.heap.size + 1) _ _ _ _ rfl (set4 HQ1.out _ _ _ _) Tryd.underlying31 rfl (by kernel_rfl)
end Go.Proofs.YtkefpickpjjllaaDoor

/- impl's numbering: newNumbering, place; what it is for replaceVars. Condition: the nodes lie in memory and are well-formed. -/
namespace Go.Proofs.YtkefpickpjjllaaDoor
open Go.RowKit Go.Maps

/-- The map leads each number that was met to its place. -/
def NumD (D : DataW Unit) (acc : List Int) : Prop :=
  IsMap D ∧ (∀ n, has D (.int .i64 n) = acc.contains n) ∧ (∀ n, acc.contains n = true → D.atKey (.int .i64 n) (.lit (.int .i64 0)) = .lit (.int .i64 (acc.idxOf n)))
theorem NumD.nil : NumD (.map []) [] := ⟨isMap_empty, fun _ => rfl, fun n h => by simp at h⟩
theorem NumD.step {D : DataW Unit} {acc : List Int} (h : NumD D acc) (n : Int) (hn : acc.contains n = false) : NumD (D.put (.int .i64 n) (.lit (.int .i64 acc.length))) (acc ++ [n]) := by
  have hm : n ∉ acc := fun e => by
    have := List.contains_iff_mem.2 e
    rw [hn] at this
    cases this
  refine ⟨h.1.put _ _, fun m => ?_, fun m hc => ?_⟩
  · by_cases e : m = n
    · subst e
      rw [has_put_same h.1 (show WideAt.IsKeyLit (.int .i64 m) from trivial)]
      simp
    · rw [has_put_other (fun h => e (by injection h)), h.2.1]
      rw [Bool.eq_iff_iff, List.contains_iff_mem, List.contains_iff_mem]
      simp [e]
  · by_cases e : m = n
    · subst e
      rw [atKey_put_same h.1 (show WideAt.IsKeyLit (.int .i64 m) from trivial), List.idxOf_append, if_neg hm]
      simp
    · rw [atKey_put_other (fun h => e (by injection h))]
      have hc' : m ∈ acc := by
        have := List.contains_iff_mem.1 hc
        simpa [e] using this
      rw [h.2.2 m (List.contains_iff_mem.2 hc'), List.idxOf_append, if_pos hc']

theorem lawV : Keyed Tryd.prog 67 := int_keyed Tryd.underlying67
theorem zeroV (w : World) : (zeroValue 67).run Tryd.prog w = .ok (.int .i64 0) w := by kernel_rfl

def numOut (acc : List Int) (n : Int) : Nd := ⟨1, ((addV acc n).idxOf n : Int), ⟨#[]⟩, .nil⟩
theorem st_num (f : Fr) : ∀ a : List Int, stF addV a f = varsF a f := by
  induction f with
  | nil => intro a; rfl
  | cons k n s kids rest ihk ihr =>
    intro a
    simp only [stF, varsF]
    rw [ihr, ihk]
theorem stT_num (a : List Int) (k n : Int) (f : Fr) : stT addV a k n f = varsT a k n f := by
  unfold stT varsT
  rw [st_num]

end Go.Proofs.YtkefpickpjjllaaDoor

/- impl.replaceVars with a numbering's place; impl.TermVars. Condition: the nodes lie in memory and are well-formed. -/
namespace Go.Proofs.YtkefpickpjjllaaDoor
open Go.RowKit Go.Maps

/-- Blocks that are new since w and no part of the row of numbers. -/
def Fresh (n0 n1 : Nat) (vo : Value) (x : Nat) : Prop := n0 ≤ x ∧ x < n1 ∧ x ∉ ownV vo
theorem addV_pre (a : List Int) (n : Int) : a <+: addV a n := by
  unfold addV
  split
  · exact List.prefix_refl a
  · exact List.prefix_append a [n]
theorem varsF_pre (f : Fr) : ∀ a, a <+: varsF a f := by
  induction f with
  | nil => intro a; exact List.prefix_refl a
  | cons k n s kids rest ihk ihr =>
    intro a
    simp only [varsF]
    refine List.IsPrefix.trans ?_ (ihr _)
    split
    · exact addV_pre a n
    · exact ihk a
theorem varsT_pre (a : List Int) (k n : Int) (f : Fr) : a <+: varsT a k n f := by
  unfold varsT
  split
  · exact addV_pre a n
  · exact varsF_pre f a
theorem renN_pre {a W : List Int} {n : Int} (h : addV a n <+: W) : renN W 1 n = ((addV a n).idxOf n : Int) := by
  obtain ⟨t, rfl⟩ := h
  have hm : n ∈ addV a n := by
    unfold addV
    split
    · rename_i h; exact List.contains_iff_mem.1 h
    · simp
  unfold renN
  rw [if_pos ⟨rfl, List.mem_append.2 (.inl hm)⟩, List.idxOf_append, if_pos hm]
theorem rp_num (f : Fr) : ∀ (a : List Int) (d : Int) (W : List Int), shapeF f d = true → varsF a f <+: W → rpF addV numOut a f = renF W f := by
  induction f with
  | nil => intro a d W _ _; rfl
  | cons k n s kids rest ihk ihr =>
    intro a d W h hW
    rw [shapeF_cons, Bool.and_eq_true] at h
    rw [rpF_cons, stT_num]
    have hW2 : varsF (varsT a k n kids) rest <+: W := hW
    have h2 := ihr (varsT a k n kids) d W h.2 hW2
    have h3 : varsT a k n kids <+: W := (varsF_pre rest _).trans hW2
    rw [h2]
    by_cases hk : k = 1
    · subst hk
      obtain ⟨rfl, rfl, _⟩ := shapeT_leaf h.1 (by omega)
      have e : varsT a 1 n .nil = addV a n := by unfold varsT; rw [if_pos rfl]
      rw [e] at h3
      show _ = Fr.cons 1 (renN W 1 n) ⟨#[]⟩ .nil (renF W rest)
      unfold rpT
      rw [if_pos rfl, renN_pre h3]
      rfl
    · have e : varsT a k n kids = varsF a kids := by unfold varsT; rw [if_neg hk]
      rw [e] at h3
      have h4 := ihk a (d - 1) W (shapeT_kids h.1) h3
      show _ = Fr.cons k (renN W k n) s (renF W kids) (renF W rest)
      unfold rpT
      rw [if_neg hk, h4]
      unfold renN
      rw [if_neg (fun e => hk e.1)]
theorem rpT_num {a : List Int} {k n : Int} {s : ByteArray} {f : Fr} {d : Int} {W : List Int} (h : shapeT k n s f d = true) (hW : varsT a k n f <+: W) : rpT addV numOut a k n s f = ⟨k, renN W k n, s, renF W f⟩ := by
  by_cases hk : k = 1
  · subst hk
    obtain ⟨rfl, rfl, _⟩ := shapeT_leaf h (by omega)
    have e : varsT a 1 n .nil = addV a n := by unfold varsT; rw [if_pos rfl]
    rw [e] at hW
    unfold rpT
    rw [if_pos rfl, renN_pre hW]; rfl
  · have e : varsT a k n f = varsF a f := by unfold varsT; rw [if_neg hk]
    rw [e] at hW
    unfold rpT
    rw [if_neg hk, rp_num f a (d - 1) W (shapeT_kids h) hW]
    unfold renN
    rw [if_neg (fun e => hk e.1)]
end Go.Proofs.YtkefpickpjjllaaDoor

/- impl.nodesOf, spec.l1All: all terms of a list. Condition: they lie in memory, the table of signs in its variable. -/
namespace Go.Proofs.YtkefpickpjjllaaDoor
open Go.RowKit

/-- Every term of the row is valid. -/
def allV : Fr → Bool
  | .nil => true
  | .cons k n s kids rest => validT k n s kids && allV rest
theorem nodes_drop_elem (i : Nat) (f : Fr) {k n : Int} {s : ByteArray} {kids rest : Fr} (h : f.drop i = .cons k n s kids rest) : nodes kids ≤ nodes f := by
  have := nodes_elem i f h; omega

/-- The loop's relation: j nodes are made, in block g. -/
def NPart (w : World) (f : Fr) (g j : Nat) (wr : World) : Prop :=
  Below w.heap.size w wr ∧ (∃ cur, Blk wr g 53 cur ∧ cur.size = f.len) ∧ NdRow wr (g + 1) wr.heap.size (f.take j) g 0 ∧ w.heap.size ≤ g
theorem NPart.step {w wr w1 w2 : World} {f : Fr} {g i : Nat} {k n : Int} {s : ByteArray} {kids rest : Fr} {v : Value}
    (h : NPart w f g i wr) (hd : f.drop i = .cons k n s kids rest) (hi : i < f.len) (h1 : Below wr.heap.size wr w1) (h2 : Below w1.heap.size w1 w2) (hv : NdV w2 w1.heap.size w2.heap.size k n s kids v) :
    NPart w f g (i + 1) (w2.setCell ⟨g, i, none⟩ v) := by
  obtain ⟨hb, ⟨cur, hblk, hs⟩, hrow, hgl⟩ := h
  have hlt := hblk.lt
  have h12 : Below wr.heap.size wr w2 := h1.trans (h2.mono h1.size)
  have b2 := hblk.below h12 hlt
  have far : ∀ p : Addr, p.block ≠ g → (w2.setCell ⟨g, i, none⟩ v).cell? p = w2.cell? p := fun p hp => World.cell?_of_block (heap_setCell_other w2 ⟨g, i, none⟩ p.block v hp)
  have hsz : (w2.setCell ⟨g, i, none⟩ v).heap.size = w2.heap.size := by simp [World.setCell]
  have hlen : (f.take i).len = i := Fr.len_take i f (by omega)
  have hs1 := h1.size
  have hs2 := h12.size
  refine ⟨(hb.trans (h12.mono hb.size)).setCell hgl v, ⟨_, b2.set_ i v, by simpa using hs⟩, ?_, hgl⟩
  rw [Fr.take_succ i f hd, hsz]
  refine NdRow.snoc (f.take i) (hv.keep (fun p hp _ => far p (by omega)) (by omega) (Nat.le_refl _)) g 0 ?_ ?_
  · refine NdRow.keep (fun p hp hp' => ?_) (Nat.le_refl _) hs2 (f.take i) g 0 (fun j hj => ?_) hrow
    · rw [far p (by omega)]
      exact h12.cell hp'
    · rw [hlen] at hj
      rw [(b2.set_ i v).cell, hblk.cell]
      simp only [Array.getElem?_setIfInBounds]
      rw [if_neg (by omega)]
  · rw [hlen, (b2.set_ i v).cell]
    simp [Array.getElem?_setIfInBounds]
    omega
theorem NPart.start {w w2 : World} {f : Fr} {base : Nat} {xs : List Value} (hown : w2.ownsRow base 53 1 (.slice (some ⟨w.heap.size, 0, none⟩) f.len f.len) f.len xs) (hg : w.grownBy w2 none) : NPart w f w.heap.size 0 w2 := by
  rcases hown.2 with ⟨h', _⟩ | ⟨g', cap', cur, h', _, hb, _, _, hs, _⟩
  · simp at h'
  · simp only [Value.slice.injEq, Option.some.injEq, Addr.mk.injEq, and_true, true_and] at h'
    obtain ⟨rfl, rfl⟩ := h'
    exact ⟨(Below.refl _ _).grown hg (Nat.le_refl _) (fun k hk => by cases hk), ⟨cur, hb, by simpa using hs⟩, trivial, Nat.le_refl _⟩
theorem NPart.done {w wr : World} {f : Fr} {g : Nat} (h : NPart w f g f.len wr) (hl : f.len ≤ maxLen) : NdS wr w.heap.size wr.heap.size f (some ⟨g, 0, none⟩) f.len ∧ Below w.heap.size w wr := by
  obtain ⟨hb, ⟨cur, hblk, hs⟩, hrow, hgl⟩ := h
  rw [Fr.take_len] at hrow
  exact ⟨⟨Nat.le_refl _, hl, fun _ => ⟨g, rfl, hgl, hblk.lt, NdRow.keep (fun _ _ _ => rfl) (by omega) (Nat.le_refl _) f g 0 (fun _ _ => rfl) hrow⟩⟩, hb⟩
theorem NPart.cell {w wr w2 : World} {f : Fr} {g j : Nat} (h : NPart w f g j wr) (hj : j < f.len) (hb : Below wr.heap.size wr w2) : (∃ v, w2.cell? ⟨g, j, none⟩ = some v) ∧ w2.frozen? ⟨g, j, none⟩ = false := by
  obtain ⟨_, ⟨cur, hblk, hs⟩, _⟩ := h
  have hb2 := hblk.below hb hblk.lt
  refine ⟨?_, hb2.frozen _⟩
  rw [hb2.cell]
  exact ⟨_, Array.getElem?_eq_getElem (by omega)⟩

/-- What nodesOf answers. -/
def NodesRes (w : World) (f : Fr) (e : Ending) (w' : World) : Prop :=
  Below w.heap.size w w' ∧ ((allV f = true ∧ ∃ A cap, e = .returned (.tuple #[.slice A f.len cap, .bool true]) ∧ NdS w' w.heap.size w'.heap.size f A cap) ∨ (allV f = false ∧ e = .returned (.tuple #[.slice none 0 0, .bool false])))

end Go.Proofs.YtkefpickpjjllaaDoor

/- spec.l1Renumber, spec.RenumberTerms. Condition: the row lies in memory. -/
namespace Go.Proofs.YtkefpickpjjllaaDoor
open Go.RowKit

theorem addV_nodup {acc : List Int} (h : acc.Nodup) (n : Int) : (addV acc n).Nodup := by
  unfold addV
  split
  · exact h
  · rename_i hn
    have hm : n ∉ acc := fun e => hn (List.contains_iff_mem.2 e)
    refine List.nodup_append.2 ⟨h, by simp, fun a ha b hb e => ?_⟩
    have hb' : b = n := by simpa using hb
    subst e hb'
    exact hm ha
theorem varsF_nodup (f : Fr) : ∀ acc : List Int, acc.Nodup → (varsF acc f).Nodup := by
  induction f with
  | nil => intro acc h; exact h
  | cons k n s kids rest ihk ihr =>
    intro acc h
    simp only [varsF]
    refine ihr _ ?_
    split
    · exact addV_nodup h n
    · exact ihk acc h
theorem made_below' {w w2 : World} {f : Fr} {A : Option Addr} {cap : Nat} (h : Made w f A cap w2) : Below w.heap.size w w2 := by
  obtain ⟨L, _, _, _, h4⟩ := h
  exact h4
/-- The variables of the terms of a row. -/
def allVars (f : Fr) : List Int := varsF [] f

end Go.Proofs.YtkefpickpjjllaaDoor

/- impl.nodesOf with the row that it makes; shapes of renamed terms. Condition: the row lies in memory, the table of signs in its variable. -/
namespace Go.Proofs.YtkefpickpjjllaaDoor
open Go.RowKit

theorem shape_of_valid {k n : Int} {s : ByteArray} {f : Fr} (h : validT k n s f = true) : shapeT k n s f 30 = true := by
  unfold validT at h
  rw [Bool.and_eq_true] at h
  exact h.1

/-- What nodesOf answers. -/
def NodesRes2 (w : World) (f : Fr) (e : Ending) (w' : World) : Prop :=
  Below w.heap.size w w' ∧ ((allV f = true ∧ e = .returned (.tuple #[.slice (some ⟨w.heap.size, 0, none⟩) f.len f.len, .bool true]) ∧ NPart w f w.heap.size f.len w') ∨ (allV f = false ∧ e = .returned (.tuple #[.slice none 0 0, .bool false])))
theorem nodup_len (N : Nat) : ∀ l : List Int, l.Nodup → (∀ x ∈ l, 0 ≤ x ∧ x < N) → l.length ≤ N := by
  induction N with
  | zero =>
    intro l _ h
    cases l with
    | nil => exact Nat.le_refl _
    | cons x _ => have := h x (by simp); omega
  | succ N ih =>
    intro l hn h
    have h1 := ih (l.erase (N : Int)) (hn.erase _) fun x hx => by
      have h2 := (hn.mem_erase_iff).1 hx
      have h3 := h x h2.2
      have h4 := h2.1
      omega
    rw [List.length_erase] at h1
    split at h1 <;> omega
theorem vars_range (f : Fr) : ∀ (d : Int) (acc : List Int), shapeF f d = true → (∀ x ∈ acc, 0 ≤ x ∧ x < (26 : Nat)) → ∀ x ∈ varsF acc f, 0 ≤ x ∧ x < (26 : Nat) := by
  induction f with
  | nil => intro d acc _ h; exact h
  | cons k n s kids rest ihk ihr =>
    intro d acc hs h
    rw [shapeF_cons, Bool.and_eq_true] at hs
    simp only [varsF]
    refine ihr d _ hs.2 ?_
    split
    · rename_i hk
      subst hk
      have h0 := hs.1
      unfold shapeT ownB at h0
      simp only [Bool.and_eq_true, Bool.or_eq_true, decide_eq_true_eq, beq_iff_eq] at h0
      unfold addV
      split
      · exact h
      · intro x hx
        rcases List.mem_append.1 hx with hx | hx
        · exact h x hx
        · have : x = n := by simpa using hx
          omega
    · exact ihk _ _ (shapeT_kids hs.1) h
theorem shapeF_ren (V : List Int) (hV : V.length ≤ 26) (f : Fr) : ∀ d, shapeF f d = true → shapeF (renF V f) d = true := by
  induction f with
  | nil => intro d h; exact h
  | cons k n s kids rest ihk ihr =>
    intro d hs
    rw [shapeF_cons, Bool.and_eq_true] at hs
    simp only [renF]
    rw [shapeF_cons, Bool.and_eq_true]
    refine ⟨?_, ihr d hs.2⟩
    have hk := ihk _ (shapeT_kids hs.1)
    have h0 := hs.1
    unfold shapeT ownB at h0 ⊢
    simp only [Bool.and_eq_true, Bool.or_eq_true, decide_eq_true_eq, beq_iff_eq, renF_len] at h0 ⊢
    refine ⟨h0.1, ?_, hk⟩
    by_cases h1 : k = 1
    · have hr : 0 ≤ renN V k n ∧ renN V k n ≤ 25 := by
        unfold renN
        split
        · rename_i hh
          have := List.idxOf_lt_length_iff.2 hh.2
          omega
        · omega
      rcases h0.2.1 with (h | h) | h
      · exact .inl (.inl ⟨h.1, ⟨⟨hr, h.2.1.2⟩, h.2.2⟩⟩)
      · omega
      · omega
    · have e : renN V k n = n := by unfold renN; rw [if_neg (fun e => h1 e.1)]
      rw [e]
      exact h0.2.1
theorem allV_shape (f : Fr) (h : allV f = true) : shapeF f 30 = true := by
  induction f with
  | nil => rfl
  | cons k n s kids rest _ ihr =>
    simp only [allV, Bool.and_eq_true] at h
    rw [shapeF_cons, Bool.and_eq_true]
    exact ⟨shape_of_valid h.1, ihr h.2⟩
theorem allVars_small (f : Fr) (h : allV f = true) : (allVars f).length ≤ 26 := by
  unfold allVars
  exact nodup_len 26 _ (varsF_nodup f [] List.nodup_nil) (vars_range f 30 [] (allV_shape f h) fun x hx => by simp at hx)

end Go.Proofs.YtkefpickpjjllaaDoor

/- Unification: what it leaves where it succeeds; terms that stand for the same are unified without bindings. No condition. -/
namespace Go.Proofs.YtkefpickpjjllaaDoor
open Go.RowKit

theorem fin_cons (v : Int) (m : Nd) (σ : Sub) (a : Nd) : suN (fin ((v, m) :: σ)) a = suN (one v (suN (fin σ) m)) (suN (fin σ) a) := (suN_comp (fin σ) (one v (suN (fin σ) m)) a).symm
/-- What stood for the same does so behind more bindings. -/
theorem keep_eq (l : Sub) : ∀ (σ : Sub) (a b : Nd), suN (fin σ) a = suN (fin σ) b → suN (fin (l ++ σ)) a = suN (fin (l ++ σ)) b := by
  induction l with
  | nil => intro σ a b h; exact h
  | cons p l ih =>
    intro σ a b h
    obtain ⟨v, m⟩ := p
    show suN (fin ((v, m) :: (l ++ σ))) a = suN (fin ((v, m) :: (l ++ σ))) b
    rw [fin_cons, fin_cons, ih σ a b h]
theorem suF_comp' (v : Int) (m : Nd) (σ : Sub) (f : Fr) : suF (fin ((v, m) :: σ)) f = suF (one v (suN (fin σ) m)) (suF (fin σ) f) := (su_comp (fin σ) (one v (suN (fin σ) m)) f).symm
theorem keep_eqF (l : Sub) : ∀ (σ : Sub) (f g : Fr), suF (fin σ) f = suF (fin σ) g → suF (fin (l ++ σ)) f = suF (fin (l ++ σ)) g := by
  induction l with
  | nil => intro σ f g h; exact h
  | cons p l ih =>
    intro σ f g h
    obtain ⟨v, m⟩ := p
    show suF (fin ((v, m) :: (l ++ σ))) f = suF (fin ((v, m) :: (l ++ σ))) g
    rw [suF_comp', suF_comp', ih σ f g h]
theorem suN_var {σ : Sub} {m : Nd} (h : m.k = 1) : suN (fin σ) m = fin σ m.n := by unfold suN; rw [if_pos h]
theorem suN_str {σ : Sub} {m : Nd} (h : m.k ≠ 1) : suN (fin σ) m = ⟨m.k, m.n, m.s, suF (fin σ) m.f⟩ := by unfold suN; rw [if_neg h]
/-- One binding more. -/
theorem bind_ok {σ : Sub} {v : Int} {m : Nd} (h : Ok2 σ) (hv : lk σ v = none) (hm : wvN m) (ho : ¬ occN (suN (fin σ) m) v) (hk : m.k = 1 → lk σ m.n = none) : Ok2 ((v, m) :: σ) ∧ suN (fin ((v, m) :: σ)) (vNd v) = suN (fin ((v, m) :: σ)) m := by
  have h2 : Ok2 ((v, m) :: σ) := ⟨hv, hm, ho, hk, h⟩
  refine ⟨h2, ?_⟩
  have e : suN (fin ((v, m) :: σ)) (vNd v) = fin ((v, m) :: σ) v := suN_var rfl
  rw [e]
  exact h2.inv.bound v m (lk_same σ v m)
theorem wv_var {m : Nd} (h : wvN m) (hk : m.k = 1) : m = vNd m.n := by unfold wvN at h; rwa [if_pos hk] at h
theorem wvF_of {m : Nd} (h : wvN m) (hk : m.k ≠ 1) : wvF m.f := by unfold wvN at h; rwa [if_neg hk] at h
/-- What success leaves. -/
def UnOk (σ σ' : Sub) : Prop := Ok2 σ' ∧ ∃ l, σ' = l ++ σ
theorem UnOk.refl {σ : Sub} (h : Ok2 σ) : UnOk σ σ := ⟨h, [], rfl⟩
theorem UnOk.trans {σ σ' σ'' : Sub} (h : UnOk σ σ') (h' : UnOk σ' σ'') : UnOk σ σ'' := by
  obtain ⟨_, l, rfl⟩ := h
  obtain ⟨h2, l', rfl⟩ := h'
  exact ⟨h2, l' ++ l, by rw [List.append_assoc]⟩
theorem good_all (N : Nat) : ∀ (σ : Sub) (a b : Nd) (σ' : Sub), unT N σ a b = some (some σ') → Ok2 σ → wvN a → wvN b → UnOk σ σ' ∧ suN (fin σ') a = suN (fin σ') b := by
  induction N with
  | zero => intro σ a b σ' h; cases h
  | succ N ih =>
    have row : ∀ (f : Fr) (σ : Sub) (g : Fr) (σ' : Sub), unRow (unT N) σ f g = some (some σ') → f.len = g.len → Ok2 σ → wvF f → wvF g → UnOk σ σ' ∧ suF (fin σ') f = suF (fin σ') g := by
      intro f
      induction f with
      | nil =>
        intro σ g σ' h hl hσ _ _
        cases g with
        | nil => injection h with h; injection h with h; subst h; exact ⟨.refl hσ, rfl⟩
        | cons => simp [Fr.len] at hl
      | cons k n s f rest _ ihr =>
        intro σ g σ' h hl hσ hf hg
        cases g with
        | nil => simp [Fr.len] at hl
        | cons k' n' s' f' rest' =>
          simp only [unRow] at h
          cases hu : unT N σ ⟨k, n, s, f⟩ ⟨k', n', s', f'⟩ with
          | none => rw [hu] at h; cases h
          | some o =>
            rw [hu] at h
            cases o with
            | none => cases h
            | some σ1 =>
              obtain ⟨u1, e1⟩ := ih σ _ _ σ1 hu hσ hf.1 hg.1
              obtain ⟨u2, e2⟩ := ihr σ1 rest' σ' h (by simpa [Fr.len] using hl) u1.1 hf.2 hg.2
              refine ⟨u1.trans u2, ?_⟩
              obtain ⟨_, l, rfl⟩ := u2
              have e3 := keep_eq l σ1 _ _ e1
              rw [suF_cons, suF_cons, e3, e2]
    intro σ a b σ' h hσ ha hb
    have wa := wk_wv σ a hσ ha
    have wb := wk_wv σ b hσ hb
    have ea := wk_end σ a hσ
    have eb := wk_end σ b hσ
    have fa := wk_fin σ a hσ
    have fb := wk_fin σ b hσ
    rw [unT] at h
    split at h
    · next h1 =>
      split at h
      · next h2 =>
        injection h with h; injection h with h; subst h
        refine ⟨.refl hσ, ?_⟩
        rw [← fa, ← fb, suN_var h1, suN_var h2.1, h2.2]
      · next h2 =>
        split at h
        · cases h
        · next h3 =>
          injection h with h; injection h with h; subst h
          have hl : lk σ (wk σ a).n = none := by rcases ea with h | h; exact absurd h1 h; exact h
          obtain ⟨k1, k2⟩ := bind_ok hσ hl wb h3 fun hk => by rcases eb with h | h; exact absurd hk h; exact h
          rw [← wv_var wa h1] at k2
          refine ⟨⟨k1, [_], rfl⟩, ?_⟩
          have e1 := keep_eq [((wk σ a).n, wk σ b)] σ _ _ fa
          have e2 := keep_eq [((wk σ a).n, wk σ b)] σ _ _ fb
          exact e1.symm.trans (k2.trans e2)
    · next h1 =>
      split at h
      · next h2 =>
        split at h
        · cases h
        · next h3 =>
          injection h with h; injection h with h; subst h
          have hl : lk σ (wk σ b).n = none := by rcases eb with h | h; exact absurd h2 h; exact h
          obtain ⟨k1, k2⟩ := bind_ok hσ hl wa h3 fun hk => absurd hk h1
          rw [← wv_var wb h2] at k2
          refine ⟨⟨k1, [_], rfl⟩, ?_⟩
          have e1 := keep_eq [((wk σ b).n, wk σ a)] σ _ _ fa
          have e2 := keep_eq [((wk σ b).n, wk σ a)] σ _ _ fb
          exact e1.symm.trans (k2.symm.trans e2)
      · next h2 =>
        split at h
        · next h3 =>
          obtain ⟨k1, k2⟩ := row _ σ _ σ' h h3.2.2.2 hσ (wvF_of wa h1) (wvF_of wb h2)
          refine ⟨k1, ?_⟩
          obtain ⟨_, l, rfl⟩ := k1
          have e1 := keep_eq l σ _ _ fa
          have e2 := keep_eq l σ _ _ fb
          rw [← e1, ← e2, suN_str h1, suN_str h2, k2, h3.1, h3.2.1, h3.2.2.1]
        · cases h
theorem Un.good {σ σ' : Sub} {a b : Nd} (h : Un σ a b (some σ')) (hσ : Ok2 σ) (ha : wvN a) (hb : wvN b) : UnOk σ σ' ∧ suN (fin σ') a = suN (fin σ') b := by
  obtain ⟨N, h⟩ := h
  exact good_all N σ a b σ' h hσ ha hb
/-- Terms that stand for the same are unified without bindings. -/
theorem same_all (σ : Sub) (hσ : Ok2 σ) (N : Nat) : (∀ a b : Nd, wvN a → wvN b → 1 + nodes (suN (fin σ) a).f ≤ N → suN (fin σ) a = suN (fin σ) b → Un σ a b (some σ)) ∧
    (∀ f g : Fr, wvF f → wvF g → nodes (suF (fin σ) f) ≤ N → suF (fin σ) f = suF (fin σ) g → UnF σ f g (some σ)) := by
  induction N with
  | zero =>
    refine ⟨fun a b _ _ h => by omega, fun f g hf hg h e => ?_⟩
    cases f with
    | nil =>
      cases g with
      | nil => exact .nil σ
      | cons => have := congrArg Fr.len e; rw [suF_len, suF_len] at this; simp [Fr.len] at this
    | cons => rw [suF_cons] at h; simp [nodes] at h
  | succ N ih =>
    have P : ∀ a b : Nd, wvN a → wvN b → 1 + nodes (suN (fin σ) a).f ≤ N + 1 → suN (fin σ) a = suN (fin σ) b → Un σ a b (some σ) := by
      intro a b ha hb hN e
      have wa := wk_wv σ a hσ ha
      have wb := wk_wv σ b hσ hb
      have ea := wk_end σ a hσ
      have eb := wk_end σ b hσ
      have fa := wk_fin σ a hσ
      have fb := wk_fin σ b hσ
      have e' : suN (fin σ) (wk σ a) = suN (fin σ) (wk σ b) := fa.trans (e.trans fb.symm)
      by_cases h1 : (wk σ a).k = 1
      · have hl : lk σ (wk σ a).n = none := by rcases ea with h | h; exact absurd h1 h; exact h
        have e1 : suN (fin σ) (wk σ a) = vNd (wk σ a).n := by rw [suN_var h1, hσ.inv.free _ hl]
        by_cases h2 : (wk σ b).k = 1
        · have hl2 : lk σ (wk σ b).n = none := by rcases eb with h | h; exact absurd h2 h; exact h
          have e2 : suN (fin σ) (wk σ b) = vNd (wk σ b).n := by rw [suN_var h2, hσ.inv.free _ hl2]
          rw [e1, e2] at e'
          injection e' with _ e3
          exact .same h1 h2 e3
        · rw [e1, suN_str h2] at e'
          injection e' with e3
          exact absurd e3.symm h2
      · by_cases h2 : (wk σ b).k = 1
        · have hl2 : lk σ (wk σ b).n = none := by rcases eb with h | h; exact absurd h2 h; exact h
          have e2 : suN (fin σ) (wk σ b) = vNd (wk σ b).n := by rw [suN_var h2, hσ.inv.free _ hl2]
          rw [e2, suN_str h1] at e'
          injection e' with e3
          exact absurd e3 h1
        · rw [suN_str h1, suN_str h2] at e'
          injection e' with q1 q2 q3 q4
          have hlen : (wk σ a).f.len = (wk σ b).f.len := by have := congrArg Fr.len q4; rwa [suF_len, suF_len] at this
          refine .kids h1 h2 ⟨q1, q2, q3, hlen⟩ (ih.2 _ _ (wvF_of wa h1) (wvF_of wb h2) ?_ q4)
          rw [← fa, suN_str h1] at hN
          have hN' : 1 + nodes (suF (fin σ) (wk σ a).f) ≤ N + 1 := hN
          omega
    refine ⟨P, ?_⟩
    intro f
    induction f with
    | nil =>
      intro g _ _ _ e
      cases g with
      | nil => exact .nil σ
      | cons => have := congrArg Fr.len e; rw [suF_len, suF_len] at this; simp [Fr.len] at this
    | cons k n s kids rest _ ihr =>
      intro g hf hg hN e
      cases g with
      | nil => have := congrArg Fr.len e; rw [suF_len, suF_len] at this; simp [Fr.len] at this
      | cons k' n' s' kids' rest' =>
        rw [suF_cons, suF_cons] at e
        rw [suF_cons] at hN
        simp only [nodes] at hN
        injection e with e1 e2 e3 e4 e5
        have eN : suN (fin σ) ⟨k, n, s, kids⟩ = suN (fin σ) ⟨k', n', s', kids'⟩ := by
          have hx : ∀ x y : Nd, x.k = y.k → x.n = y.n → x.s = y.s → x.f = y.f → x = y := by
            rintro ⟨_, _, _, _⟩ ⟨_, _, _, _⟩ h1 h2 h3 h4
            simp only at h1 h2 h3 h4
            subst h1 h2 h3 h4
            rfl
          exact hx _ _ e1 e2 e3 e4
        exact .cons (P _ _ hf.1 hg.1 (by omega) eN) (ihr rest' hf.2 hg.2 (by omega) e5)
theorem un_same {σ : Sub} (hσ : Ok2 σ) {f g : Fr} (hf : wvF f) (hg : wvF g) (e : suF (fin σ) f = suF (fin σ) g) : UnF σ f g (some σ) := (same_all σ hσ _).2 f g hf hg (Nat.le_refl _) e
end Go.Proofs.YtkefpickpjjllaaDoor

/- Unification: which variables a node stands for, by steps along the bindings. No condition. -/
namespace Go.Proofs.YtkefpickpjjllaaDoor
open Go.RowKit

/-- v is reached from x along the bindings. -/
inductive Rch (σ : Sub) (v : Int) : Int → Prop where
  | here : lk σ v = none → Rch σ v v
  | step (x y : Int) (t : Nd) : lk σ x = some t → occN t y → Rch σ v y → Rch σ v x
theorem rch_occ {σ : Sub} (hi : Inv σ) {v x : Int} (h : Rch σ v x) : occN (fin σ x) v := by
  induction h with
  | here h => rw [hi.free v h, occN_var]
  | step x y t h1 h2 _ ih =>
    rw [hi.bound x t h1, occ_suN]
    exact ⟨y, h2, ih⟩
theorem occF_nodes (τ : Int → Nd) (f : Fr) (y : Int) (h : occF f y) : 1 + nodes (τ y).f ≤ nodes (suF τ f) := by
  induction f with
  | nil => exact h.elim
  | cons k n s kids rest ihk ihr =>
    rcases h with h | h
    · by_cases hk : k = 1
      · subst hk
        rw [if_pos rfl] at h
        subst h
        simp only [suF, if_true, nodes]
        omega
      · rw [if_neg hk] at h
        simp only [suF, if_neg hk, nodes]
        have := ihk h
        omega
    · have := ihr h
      rw [suF_cons]
      simp only [nodes]
      omega
theorem occ_rch {σ : Sub} (hσ : Ok2 σ) {v : Int} (hv : lk σ v = none) : ∀ (N M : Nat) (x : Int), nodes (fin σ x).f ≤ N → wl σ (vNd x) ≤ M → occN (fin σ x) v → Rch σ v x := by
  intro N
  induction N with
  | zero =>
    intro M
    induction M with
    | zero =>
      intro x hN hM h
      cases hx : lk σ x with
      | none =>
        rw [hσ.inv.free x hx, occN_var] at h
        subst h
        exact .here hv
      | some t =>
        have := (wk_step σ (vNd x) t hσ rfl hx).2
        omega
    | succ M ihM =>
      intro x hN hM h
      cases hx : lk σ x with
      | none =>
        rw [hσ.inv.free x hx, occN_var] at h
        subst h
        exact .here hv
      | some t =>
        have hst := (wk_step σ (vNd x) t hσ rfl hx).2
        have hb := hσ.inv.bound x t hx
        by_cases hk : t.k = 1
        · have hwv := wv_var (hσ.inv.wvb x t hx) hk
          have e : fin σ x = fin σ t.n := by rw [hb, suN_var hk]
          rw [e] at h hN
          rw [hwv] at hst
          exact .step x t.n t hx (by rw [hwv, occN_var]; rfl) (ihM t.n hN (by omega) h)
        · rw [hb, suN_str hk] at hN
          rw [hb, occ_suN] at h
          obtain ⟨y, hy, hyv⟩ := h
          have hy' : occF t.f y := by unfold occN at hy; rwa [if_neg hk] at hy
          have := occF_nodes (fin σ) t.f y hy'
          have hN' : nodes (suF (fin σ) t.f) ≤ 0 := hN
          omega
  | succ N ihN =>
    intro M
    induction M with
    | zero =>
      intro x hN hM h
      cases hx : lk σ x with
      | none =>
        rw [hσ.inv.free x hx, occN_var] at h
        subst h
        exact .here hv
      | some t =>
        have := (wk_step σ (vNd x) t hσ rfl hx).2
        omega
    | succ M ihM =>
      intro x hN hM h
      cases hx : lk σ x with
      | none =>
        rw [hσ.inv.free x hx, occN_var] at h
        subst h
        exact .here hv
      | some t =>
        have hst := (wk_step σ (vNd x) t hσ rfl hx).2
        have hb := hσ.inv.bound x t hx
        by_cases hk : t.k = 1
        · have hwv := wv_var (hσ.inv.wvb x t hx) hk
          have e : fin σ x = fin σ t.n := by rw [hb, suN_var hk]
          rw [e] at h hN
          rw [hwv] at hst
          exact .step x t.n t hx (by rw [hwv, occN_var]; rfl) (ihM t.n hN (by omega) h)
        · rw [hb, suN_str hk] at hN
          rw [hb, occ_suN] at h
          obtain ⟨y, hy, hyv⟩ := h
          have hy' : occF t.f y := by unfold occN at hy; rwa [if_neg hk] at hy
          have := occF_nodes (fin σ) t.f y hy'
          have hN' : nodes (suF (fin σ) t.f) ≤ N + 1 := hN
          exact .step x y t hx hy (ihN _ y (by omega) (Nat.le_refl _) hyv)
/-- A free variable occurs in what a node stands for, if and only if it is reached. -/
theorem occ_iff {σ : Sub} (hσ : Ok2 σ) {v : Int} (hv : lk σ v = none) (m : Nd) : occN (suN (fin σ) m) v ↔ ∃ x, occN m x ∧ Rch σ v x := by
  rw [occ_suN]
  constructor
  · rintro ⟨x, h1, h2⟩
    exact ⟨x, h1, occ_rch hσ hv _ _ x (Nat.le_refl _) (Nat.le_refl _) h2⟩
  · rintro ⟨x, h1, h2⟩
    exact ⟨x, h1, rch_occ hσ.inv h2⟩
/-- x is settled by the seen variables: it is seen, or free and not v. -/
def Stl (σ : Sub) (v : Int) (S : List Int) (x : Int) : Prop := x ∈ S ∨ (lk σ x = none ∧ x ≠ v)
/-- What is seen beyond S0 is bound, and leads only to what is settled. -/
def Closed (σ : Sub) (v : Int) (S0 S : List Int) : Prop := ∀ y ∈ S, y ∉ S0 → ∃ t, lk σ y = some t ∧ ∀ z, occN t z → Stl σ v S z
theorem stl_more {σ : Sub} {v : Int} {S S' : List Int} (h : ∀ x ∈ S, x ∈ S') {x : Int} (hx : Stl σ v S x) : Stl σ v S' x := by
  rcases hx with hx | hx
  · exact .inl (h x hx)
  · exact .inr hx
theorem closed_trans {σ : Sub} {v : Int} {S0 S1 S2 : List Int} (h1 : Closed σ v S0 S1) (h2 : Closed σ v S1 S2) (hs : ∀ x ∈ S1, x ∈ S2) : Closed σ v S0 S2 := by
  intro y hy hy0
  by_cases h : y ∈ S1
  · obtain ⟨t, ht, hz⟩ := h1 y h hy0
    exact ⟨t, ht, fun z hzz => stl_more hs (hz z hzz)⟩
  · exact h2 y hy h
/-- Nothing that is settled by a closed set reaches v. -/
theorem closed_no {σ : Sub} {v : Int} {S : List Int} (hv : lk σ v = none) (h : Closed σ v [] S) {x : Int} (hr : Rch σ v x) : ¬ Stl σ v S x := by
  induction hr with
  | here h0 =>
    rintro (hx | ⟨_, hx⟩)
    · obtain ⟨t, ht, _⟩ := h v hx (by simp)
      rw [hv] at ht; cases ht
    · exact hx rfl
  | step x y t h1 h2 _ ih =>
    rintro (hx | ⟨hx, _⟩)
    · obtain ⟨t', ht', hz⟩ := h x hx (by simp)
      rw [h1] at ht'
      injection ht' with ht'
      subst ht'
      exact ih (hz y h2)
    · rw [h1] at hx; cases hx
end Go.Proofs.YtkefpickpjjllaaDoor
