/- impl's numbering: newNumbering, place; what it is for replaceVars. Condition: the nodes lie in memory and are well-formed. -/
import Derived.Test.YtkgihpddjppmdaaDoorProg
import Derived.Test.YtkgihpddjppmdaaDoorZmAB41
import Derived.Test.YtkgihpddjppmdaaDoorAs
import Derived.Test.YtkgihpddjppmdaaDoorTermOf
import Derived.Test.YtkgihpddjppmdaaDoorImplV
import Derived.Test.YtkgihpddjppmdaaDoorZmAB42
import Derived.Maps.Own
import Derived.Maps.OwnOps
import Derived.Maps.OwnSet
namespace Go.Proofs.YtkgihpddjppmdaaDoor
open Go.RowKit Go.Maps

/-- The map leads each number that was met to its place. -/
def NumD (D : DataW Unit) (acc : List Int) : Prop :=
  IsMap D ∧ (∀ n, has D (.int .i64 n) = acc.contains n) ∧ (∀ n, acc.contains n = true → D.atKey (.int .i64 n) (.lit (.int .i64 0)) = .lit (.int .i64 (acc.idxOf n)))
theorem NumD.nil : NumD (.map []) [] := ⟨isMap_empty, fun _ => rfl, fun n h => by simp at h⟩
theorem NumD.step {D : DataW Unit} {acc : List Int} (h : NumD D acc) (n : Int) (hn : acc.contains n = false) : NumD (D.put (.int .i64 n) (.lit (.int .i64 acc.length))) (acc ++ [n]) := by
  have hm : n ∉ acc := fun e => by
    have := List.contains_iff_mem.2 e
    rw [hn] at this
    cases this
  refine ⟨h.1.put _ _, fun m => ?_, fun m hc => ?_⟩
  · by_cases e : m = n
    · subst e
      rw [has_put_same h.1 (show WideAt.IsKeyLit (.int .i64 m) from trivial)]
      simp
    · rw [has_put_other (fun h => e (by injection h)), h.2.1]
      rw [Bool.eq_iff_iff, List.contains_iff_mem, List.contains_iff_mem]
      simp [e]
  · by_cases e : m = n
    · subst e
      rw [atKey_put_same h.1 (show WideAt.IsKeyLit (.int .i64 m) from trivial), List.idxOf_append, if_neg hm]
      simp
    · rw [atKey_put_other (fun h => e (by injection h))]
      have hc' : m ∈ acc := by
        have := List.contains_iff_mem.1 hc
        simpa [e] using this
      rw [h.2.2 m (List.contains_iff_mem.2 hc'), List.idxOf_append, if_pos hc']

/-- The numbering in block mb: its map in bm, its row of numbers vo, which reads as acc. -/
def Num (w : World) (base mb bm : Nat) (vo : Value) (acc : List Int) : Prop :=
  Blk w mb 68 #[.map (some bm), vo] ∧ (∃ D, w.ownsMap Tryd.prog 48 (plainElem Tryd.prog 48) bm acc.length D ∧ NumD D acc) ∧ OwnI w base vo acc ∧ mb < base ∧ bm < base ∧ bm ≠ mb
def NumRes (w : World) (base mb bm : Nat) (vo : Value) (xs : List Int) (w' : World) : Prop :=
  ∃ vo', Num w' base mb bm vo' xs ∧ Wrote (mb :: bm :: ownV vo) w w' ∧ (∀ x ∈ ownV vo', x ∈ ownV vo ∨ w.heap.size ≤ x)

theorem Num.below {w w' : World} {base mb bm : Nat} {vo : Value} {acc : List Int} (h : Num w base mb bm vo acc) (hb : Below w.heap.size w w') : Num w' base mb bm vo acc := by
  obtain ⟨b0, ⟨D, hD, hN⟩, ho, h1, h2, h3⟩ := h
  exact ⟨b0.below hb b0.lt, ⟨D, hD.kept (row := none) ⟨hb.os, hb.tape, hb.output, hb.size, fun k hk _ => hb.block k hk⟩ (by simp), hN⟩, ho.below hb, h1, h2, h3⟩

/-- A number that was not met is put into the map and behind the row. -/
theorem Num.step {w w1 w6 : World} {base mb bm g cap4 : Nat} {vo : Value} {acc : List Int} {n : Int} {D : DataW Unit} (hb0 : Blk w mb 68 #[.map (some bm), vo]) (ho : OwnI w base vo acc) (h1 : mb < base) (h2 : bm < base) (h3 : bm ≠ mb) (hN : NumD D acc) (hn : acc.contains n = false)
    (hown1 : w1.ownsMap Tryd.prog 48 (plainElem Tryd.prog 48) bm (acc.length + 1) (D.put (.int .i64 n) (.lit (.int .i64 acc.length)))) (hg1 : w.grownBy w1 (some bm))
    (hg : (w1.alloc (.cells #[.int .i64 n] 3)).grownBy w6 vo.ownBlock)
    (hown6 : w6.ownsRow base 3 1 (.slice (some ⟨g, 0, none⟩) (acc.length + 1) cap4) (acc.length + 1) (acc.map (Value.int .i64) ++ [.int .i64 n])) (hat : vo.ownBlock = some g ∨ g = w1.heap.size + 1) :
    NumRes w base mb bm vo (acc ++ [n]) (w6.setCell ⟨mb, 1, none⟩ (.slice (some ⟨g, 0, none⟩) (acc.length + 1) cap4)) := by
  have hlt := ho.lt
  have hw1 : Wrote [bm] w w1 := ⟨hg1.os, hg1.tape, hg1.output, hg1.size, fun x hx hn => hg1.block x hx fun e => hn (by simpa using e)⟩
  have ho1 : OwnI w1 base vo acc := ho.keep hw1 fun x hx e => by have := (hlt x hx).1; simp at e; omega
  have hs := OwnI.snoc (H := w1.heap.size + 1) (v := vo) (Wrote.of_below ((Below.refl w1.heap.size w1).alloc (Nat.le_refl _) (.cells #[.int .i64 n] 3)) _) hg hown6 hat (by omega)
  have hb1 : Blk w1 mb 68 #[.map (some bm), vo] := hw1.blk hb0 fun e => by simp at e; omega
  have hmo : mb ∉ ownV vo := fun e => by have := (hlt _ e).1; omega
  have hb6 := hs.2.1.blk hb1 hmo
  have hon : ∀ x ∈ ownV (.slice (some ⟨g, 0, none⟩) (acc.length + 1) cap4), base ≤ x := fun x hx => (hs.1.lt x hx).1
  have hneb : some bm ≠ vo.ownBlock := fun e => by
    have := (hlt bm (by unfold ownV; rw [← e]; simp)).1
    omega
  refine ⟨_, ⟨?_, ⟨_, by rw [show (acc ++ [n]).length = acc.length + 1 by simp]; exact ((hown1.alloc _).kept hg hneb).setCell h3 _, hN.step n hn⟩, hs.1.keep (L := [mb]) ((Wrote.refl _ _).set_ (.inl (by simp)) _) (fun x hx e => ?_), h1, h2, h3⟩, ?_, fun x hx => ?_⟩
  · have h := hb6.set_ 1 (.slice (some ⟨g, 0, none⟩) (acc.length + 1) cap4)
    simpa using h
  · have := hon x hx
    simp at e; omega
  · exact ((hw1.more (L' := mb :: bm :: ownV vo) (by simp)).trans (hs.2.1.more (by simp +contextual))).set_ (.inl (by simp)) _
  · rcases hs.2.2 x hx with h | h
    · exact .inl h
    · exact .inr (Nat.le_trans hg1.size h)

theorem lawV : Keyed Tryd.prog 48 := int_keyed Tryd.underlying48
theorem zeroV (w : World) : (zeroValue 48).run Tryd.prog w = .ok (.int .i64 0) w := by kernel_rfl

set_option maxRecDepth 100000 in
set_option maxHeartbeats 1000000 in
/-- numbering.place. -/
theorem place_any (n : Int) (acc : List Int) (vo : Value) (base mb bm : Nat) (w : World) (hN : Num w base mb bm vo acc) (hbs : base ≤ w.heap.size) (hacc : acc.length ≤ 2097152) (hn : -999 ≤ n ∧ n ≤ 999) :
    Calls Tryd.prog 24 #[.pointer (some ⟨mb, 0, none⟩), .int .i64 n] w fun e w' => e = .returned (.iface 48 (.int .i64 ((addV acc n).idxOf n : Int))) ∧ NumRes w base mb bm vo (addV acc n) w' := by
  have hN0 := hN
  obtain ⟨b0, ⟨D, hD, hND⟩, ho, h1, h2, h3⟩ := hN
  have c0 := b0.cell 0
  have c1 := b0.cell 1
  have f1 := b0.frozen 1
  simp only [List.getElem?_toArray, List.getElem?_cons_zero, List.getElem?_cons_succ] at c0 c1
  have hkey : keyOf Tryd.prog 48 (.int .i64 n) = some (.int .i64 n) := keyOf_int_mk Tryd.underlying48 (WalkArith.wf_i64 (by omega))
  have hh := hND.2.1 n
  have HD := Lib.hid hD
  have HN0 := Lib.hid hN0
  cases hc : acc.contains n
  · have hV : addV acc n = acc ++ [n] := by unfold addV; rw [hc]; rfl
    have hix : ((acc ++ [n]).idxOf n : Int) = (acc.length : Int) := by
      have hm : n ∉ acc := fun e => by
        have := List.contains_iff_mem.2 e
        rw [hc] at this
        cases this
      rw [List.idxOf_append, if_neg hm]
      simp
    rw [hV, hix]
    obtain ⟨A0, cap0, hform, hc0, hm0, hr0⟩ := ho.read
    subst hform
    have STEP := fun w1 w6 g cap4 h4 h5 h6 h7 h8 => Num.step (w1 := w1) (w6 := w6) (g := g) (cap4 := cap4) b0 ho h1 h2 h3 hND hc h4 h5 h6 h7 h8
    have HSTEP := Lib.hid STEP
    have hlt := ho.lt
    have hmlt := b0.lt
    have FAR : ∀ w1, w.grownBy w1 (some bm) → w1.cell? ⟨mb, 0, none⟩ = some (.map (some bm)) ∧ w1.cell? ⟨mb, 1, none⟩ = some (.slice A0 acc.length cap0) ∧ w1.frozen? ⟨mb, 1, none⟩ = false ∧ OwnI w1 base (.slice A0 acc.length cap0) acc ∧ w.heap.size ≤ w1.heap.size := fun w1 hg => by
      have hw1 : Wrote [bm] w w1 := ⟨hg.os, hg.tape, hg.output, hg.size, fun x hx hn => hg.block x hx fun e => hn (by simpa using e)⟩
      have b1 := hw1.blk b0 fun e => by simp at e; omega
      exact ⟨b1.cell 0, b1.cell 1, b1.frozen 1, ho.keep hw1 fun x hx e => by have := (hlt x hx).1; simp at e; omega, hg.size⟩
    have HFAR := Lib.hid FAR
    have FAR2 : ∀ w1 w6, w.grownBy w1 (some bm) → (w1.alloc (.cells #[.int .i64 n] 3)).grownBy w6 (Value.slice A0 acc.length cap0).ownBlock → (∃ u, w6.cell? ⟨mb, 1, none⟩ = some u) ∧ w6.frozen? ⟨mb, 1, none⟩ = false := fun w1 w6 hg hg6 => by
      have hw1 : Wrote [bm] w w1 := ⟨hg.os, hg.tape, hg.output, hg.size, fun x hx hn => hg.block x hx fun e => hn (by simpa using e)⟩
      have b1 := hw1.blk b0 fun e => by simp at e; omega
      have b6 := (b1.alloc (.cells #[.int .i64 n] 3)).keep (hg6.block mb (by have := b1.lt; simp; omega) fun e => by have := (hlt mb (by unfold ownV; rw [← e]; simp)).1; omega)
      exact ⟨⟨_, b6.cell 1⟩, b6.frozen 1⟩
    have HFAR2 := Lib.hid FAR2
    rw [hc] at hh
    have HH := Lib.hid hh
    unfold maxLen at hm0
    have hwl : (Lit.int .i64 (acc.length : Int)).wf = true := WalkArith.wf_i64 (by omega)
    have HWL := Lib.hid hwl
    clear hN0 b0 hD hND ho hh hc hV hr0 STEP FAR FAR2 hwl hlt HN0
    obtain ⟨i0, hi0, hz0, hz1, hz2⟩ := info_parts infoI
    go_enter Tryd.func24, Tryd.ntmps24
    go_wp2_with (first
      | (at_lookup; refine wpList_lookup_own_ok_int _ rfl _ _ 66 rfl 48 48 .i64 lawV Tryd.underlying66 Tryd.underlying48 (zeroV _) bm acc.length D rfl HD.out _ _ rfl hkey ?_; intro c hat hwc; rw [HH.out])
      | (at_mapUpdate; refine wpList_mapUpdate_own _ rfl _ _ _ 66 rfl 48 48 lawV Tryd.underlying66 _ bm acc.length D rfl HD.out (by unfold maxLen; omega) _ _ _ rfl rfl hkey (.lit (.int .i64 acc.length)) [] (plainElem_int Tryd.underlying48 HWL.out) ?_; intro w1 hown1 hgrow1; obtain ⟨x0, x1, xf, hor, hsz⟩ := HFAR.out w1 hgrow1; have hnew := Blk.new w1 3 #[.int .i64 n]; have HOR := Lib.hid hor; have HNEW := Lib.hid hnew; have HOWN1 := Lib.hid hown1; have HG1 := Lib.hid hgrow1; clear hown1 hgrow1 hor hnew c0 c1 f1)
      | (at_builtin; go_must (refine wpList_append_lies _ rfl _ _ _ rfl base 3 i0 _ 1 8 Tryd.underlying32 hi0 hz0 hz1 hz2 rfl (by omega) (.slice A0 acc.length cap0) acc.length (acc.map (Value.int .i64)) rfl (HOR.out.alloc _) ⟨w1.heap.size, 0, none⟩ 1 1 [.int .i64 n] rfl rfl (World.news_of_block (cs := #[.int .i64 n]) (t := 3) (fr := (0, 0)) HNEW.out) (by simp [Value.oneCell']) (by omega) (by unfold maxLen; omega) (by omega) (by simp; omega) (w1.heap.size + 1) (by simp) ?_); intro g cap4 w6 hown6 hgrow hat6 hlt6; obtain ⟨⟨u, y1⟩, yf⟩ := HFAR2.out w1 w6 HG1.out hgrow; have HS := Lib.hid (HSTEP.out w1 w6 g cap4 HOWN1.out HG1.out hgrow hown6 hat6); clear hown6 hgrow hat6 x0 x1 xf))
    go_ret
    exact ⟨rfl, HS.out⟩
  · have hV : addV acc n = acc := by unfold addV; rw [hc]; rfl
    rw [hV]
    rw [hc] at hh
    have HH := Lib.hid hh
    have HAT := Lib.hid (hND.2.2 n hc)
    clear hN0 b0 hD hND ho hh hc hV
    go_enter Tryd.func24, Tryd.ntmps24
    go_wp2_with (at_lookup; refine wpList_lookup_own_ok_int _ rfl _ _ 66 rfl 48 48 .i64 lawV Tryd.underlying66 Tryd.underlying48 (zeroV _) bm acc.length D rfl HD.out _ _ rfl hkey ?_; intro c hat hwc; rw [HH.out])
    go_wp2_with fail
    go_ret
    have e := hat.symm.trans HAT.out
    simp only [DataW.lit.injEq, Lit.int.injEq, true_and] at e
    rw [e]
    exact ⟨rfl, vo, HN0.out, .refl _ _, fun x h => .inl h⟩

theorem Num.wrote {w w' : World} {base mb bm : Nat} {vo : Value} {acc : List Int} {L : List Nat} (h : Num w base mb bm vo acc) (hb : Wrote L w w') (hL : ∀ x ∈ L, x ≠ mb ∧ x ≠ bm ∧ x ∉ ownV vo) : Num w' base mb bm vo acc := by
  obtain ⟨b0, ⟨D, hD, hN⟩, ho, h1, h2, h3⟩ := h
  have hlt := hD.lt
  obtain ⟨es, clock, he, r⟩ := hD
  exact ⟨hb.blk b0 fun e => (hL _ e).1 rfl, ⟨D, ⟨es, clock, (hb.block bm hlt fun e => (hL _ e).2.1 rfl).trans he, r⟩, hN⟩, ho.keep hb fun x hx e => (hL _ e).2.2 hx, h1, h2, h3⟩
theorem place_ef : ∀ args w, (callFunc 24 args).run Tryd.prog w = .ok (.enter 24 args) w := fun _ _ => by kernel_rfl
/-- The state of a numbering, and what it hands back. -/
def NumI (base mb bm : Nat) (w : World) (acc : List Int) (Q : List Nat) : Prop := ∃ vo, Num w base mb bm vo acc ∧ Q = mb :: bm :: ownV vo
def numOut (acc : List Int) (n : Int) : Nd := ⟨1, ((addV acc n).idxOf n : Int), ⟨#[]⟩, .nil⟩
theorem place_rep (base mb bm : Nat) : RepC 24 #[.pointer (some ⟨mb, 0, none⟩)] #[] (NumI base mb bm) (fun _ => False) base List.length addV numOut where
  keep := fun {w w' a Q L} h hw hL => by
    obtain ⟨vo, hN, rfl⟩ := h
    refine ⟨vo, hN.wrote hw fun x hx => ?_, rfl⟩
    have h := (hL x hx).1
    simp only [List.mem_cons, not_or] at h
    exact h
  lt := fun {w a Q} h x hx => by
    obtain ⟨vo, hN, rfl⟩ := h
    obtain ⟨b0, ⟨D, hD, _⟩, ho, _⟩ := hN
    simp only [List.mem_cons] at hx
    rcases hx with rfl | rfl | hx
    · exact b0.lt
    · exact hD.lt
    · exact (ho.lt x hx).2
  old := fun x hx => hx.elim
  len := addV_len
  call := fun a Q n w h hB hs hn => by
    obtain ⟨vo, hN, rfl⟩ := h
    refine (place_any n a vo base mb bm w hN hB hs (by omega)).mono ?_
    rintro e w' ⟨rfl, vo', h1, h2, h3⟩
    refine ⟨mb :: bm :: ownV vo', _, rfl, ⟨vo', h1, rfl⟩, h2, fun x hx => ?_, .inl ⟨rfl, rfl⟩⟩
    simp only [List.mem_cons] at hx ⊢
    rcases hx with h | h | h
    · exact .inl (.inl h)
    · exact .inl (.inr (.inl h))
    · rcases h3 x h with h | h
      · exact .inl (.inr (.inr h))
      · exact .inr h
theorem st_num (f : Fr) : ∀ a : List Int, stF addV a f = varsF a f := by
  induction f with
  | nil => intro a; rfl
  | cons k n s kids rest ihk ihr =>
    intro a
    simp only [stF, varsF]
    rw [ihr, ihk]
theorem stT_num (a : List Int) (k n : Int) (f : Fr) : stT addV a k n f = varsT a k n f := by
  unfold stT varsT
  rw [st_num]

set_option maxHeartbeats 1000000 in
/-- impl.newNumbering. -/
theorem newNum_any (w : World) : Calls Tryd.prog 23 #[] w fun e w' => e = .returned (.pointer (some ⟨w.heap.size + 1, 0, none⟩)) ∧ Num w' (w.heap.size + 2) (w.heap.size + 1) w.heap.size (.slice none 0 0) [] ∧ Below w.heap.size w w' ∧ w'.heap.size = w.heap.size + 2 := by
  have hmm := @run_makeMap Tryd.prog
  have hb4 : Below w.heap.size w ((w.alloc (.map #[] 0)).alloc (.cells #[.map (some w.heap.size), .slice none 0 0] 68)) := ((Below.refl _ _).alloc (Nat.le_refl _) _).alloc (by simp) _
  have hq : Blk ((w.alloc (.map #[] 0)).alloc (.cells #[.map (some w.heap.size), .slice none 0 0] 68)) (w.heap.size + 1) 68 #[.map (some w.heap.size), .slice none 0 0] := by
    have h := Blk.new (w.alloc (.map #[] 0)) 68 #[.map (some w.heap.size), .slice none 0 0]
    rwa [show (w.alloc (.map #[] 0)).heap.size = w.heap.size + 1 by simp] at h
  have hN : Num ((w.alloc (.map #[] 0)).alloc (.cells #[.map (some w.heap.size), .slice none 0 0] 68)) (w.heap.size + 2) (w.heap.size + 1) w.heap.size (.slice none 0 0) [] :=
    ⟨hq, ⟨_, (World.ownsMap_made w _ _ _).alloc _, NumD.nil⟩, OwnI.nil _ _, by omega, by omega, by omega⟩
  have HN := Lib.hid hN
  have HB := Lib.hid hb4
  clear hb4 hq hN
  go_enter Tryd.func23, Tryd.ntmps23
  go_wp2_with fail
  go_ret
  exact ⟨rfl, HN.out, HB.out, by simp⟩
end Go.Proofs.YtkgihpddjppmdaaDoor

/- impl.replaceVars with a numbering's place; impl.TermVars. Condition: the nodes lie in memory and are well-formed. -/
namespace Go.Proofs.YtkgihpddjppmdaaDoor
open Go.RowKit Go.Maps

/-- Blocks that are new since w and no part of the row of numbers. -/
def Fresh (n0 n1 : Nat) (vo : Value) (x : Nat) : Prop := n0 ≤ x ∧ x < n1 ∧ x ∉ ownV vo
theorem addV_pre (a : List Int) (n : Int) : a <+: addV a n := by
  unfold addV
  split
  · exact List.prefix_refl a
  · exact List.prefix_append a [n]
theorem varsF_pre (f : Fr) : ∀ a, a <+: varsF a f := by
  induction f with
  | nil => intro a; exact List.prefix_refl a
  | cons k n s kids rest ihk ihr =>
    intro a
    simp only [varsF]
    refine List.IsPrefix.trans ?_ (ihr _)
    split
    · exact addV_pre a n
    · exact ihk a
theorem varsT_pre (a : List Int) (k n : Int) (f : Fr) : a <+: varsT a k n f := by
  unfold varsT
  split
  · exact addV_pre a n
  · exact varsF_pre f a
theorem renN_pre {a W : List Int} {n : Int} (h : addV a n <+: W) : renN W 1 n = ((addV a n).idxOf n : Int) := by
  obtain ⟨t, rfl⟩ := h
  have hm : n ∈ addV a n := by
    unfold addV
    split
    · rename_i h; exact List.contains_iff_mem.1 h
    · simp
  unfold renN
  rw [if_pos ⟨rfl, List.mem_append.2 (.inl hm)⟩, List.idxOf_append, if_pos hm]
/-- What renumber leaves. -/
def NsRes (w : World) (base mb bm : Nat) (vo : Value) (xs : List Int) (k n : Int) (s : ByteArray) (f : Fr) (e : Ending) (w' : World) : Prop :=
  ∃ vo' v', e = .returned v' ∧ Num w' base mb bm vo' xs ∧ Wrote (mb :: bm :: ownV vo) w w' ∧ (∀ x ∈ ownV vo', x ∈ ownV vo ∨ w.heap.size ≤ x) ∧ (∀ W, xs <+: W → NdVIn w' (Fresh w.heap.size w'.heap.size vo') k (renN W k n) s (renF W f) v')

theorem rp_num (f : Fr) : ∀ (a : List Int) (d : Int) (W : List Int), shapeF f d = true → varsF a f <+: W → rpF addV numOut a f = renF W f := by
  induction f with
  | nil => intro a d W _ _; rfl
  | cons k n s kids rest ihk ihr =>
    intro a d W h hW
    rw [shapeF_cons, Bool.and_eq_true] at h
    rw [rpF_cons, stT_num]
    have hW2 : varsF (varsT a k n kids) rest <+: W := hW
    have h2 := ihr (varsT a k n kids) d W h.2 hW2
    have h3 : varsT a k n kids <+: W := (varsF_pre rest _).trans hW2
    rw [h2]
    by_cases hk : k = 1
    · subst hk
      obtain ⟨rfl, rfl, _⟩ := shapeT_leaf h.1 (by omega)
      have e : varsT a 1 n .nil = addV a n := by unfold varsT; rw [if_pos rfl]
      rw [e] at h3
      show _ = Fr.cons 1 (renN W 1 n) ⟨#[]⟩ .nil (renF W rest)
      unfold rpT
      rw [if_pos rfl, renN_pre h3]
      rfl
    · have e : varsT a k n kids = varsF a kids := by unfold varsT; rw [if_neg hk]
      rw [e] at h3
      have h4 := ihk a (d - 1) W (shapeT_kids h.1) h3
      show _ = Fr.cons k (renN W k n) s (renF W kids) (renF W rest)
      unfold rpT
      rw [if_neg hk, h4]
      unfold renN
      rw [if_neg (fun e => hk e.1)]
theorem rpT_num {a : List Int} {k n : Int} {s : ByteArray} {f : Fr} {d : Int} {W : List Int} (h : shapeT k n s f d = true) (hW : varsT a k n f <+: W) : rpT addV numOut a k n s f = ⟨k, renN W k n, s, renF W f⟩ := by
  by_cases hk : k = 1
  · subst hk
    obtain ⟨rfl, rfl, _⟩ := shapeT_leaf h (by omega)
    have e : varsT a 1 n .nil = addV a n := by unfold varsT; rw [if_pos rfl]
    rw [e] at hW
    unfold rpT
    rw [if_pos rfl, renN_pre hW]; rfl
  · have e : varsT a k n f = varsF a f := by unfold varsT; rw [if_neg hk]
    rw [e] at hW
    unfold rpT
    rw [if_neg hk, rp_num f a (d - 1) W (shapeT_kids h) hW]
    unfold renN
    rw [if_neg (fun e => hk e.1)]
/-- impl.replaceVars with a numbering's place. -/
theorem nsT_any (k n d : Int) (s : ByteArray) (f : Fr) (v : Value) (lo hi base mb bm : Nat) (vo : Value) (acc : List Int) (w : World) (hs : shapeT k n s f d = true) (hv : NdV w lo hi k n s f v) (hmb : hi ≤ mb) (hbm : hi ≤ bm) (hN : Num w base mb bm vo acc) (hbs : base ≤ w.heap.size) (hacc : acc.length + nodes f ≤ 2097152) :
    Calls Tryd.prog 17 #[v, .func (.func 24) #[.pointer (some ⟨mb, 0, none⟩)] #[]] w fun e w' => NsRes w base mb bm vo (varsT acc k n f) k n s f e w' := by
  have hlo := hN.2.2.1.lt
  have hml := hN.1.lt
  refine (rpT_any place_ef (place_rep base mb bm) s f k n d v lo hi acc (mb :: bm :: ownV vo) w hs hv (by omega) (fun x hx => ?_) ⟨vo, hN, rfl⟩ hbs hacc).mono ?_
  · simp only [List.mem_cons] at hx
    rcases hx with rfl | rfl | hx
    · exact hmb
    · exact hbm
    · have := (hlo x hx).1; have := hN.2.2.2.1; omega
  · rintro e w' ⟨Q', v', rfl, ⟨vo', h1, rfl⟩, h2, h3, h4⟩
    rw [stT_num] at h1
    have hlo' := h1.2.2.1.lt
    have b1 := h1.2.2.2.1
    have b2 := h1.2.2.2.2.1
    refine ⟨vo', v', rfl, h1, h2, fun x hx => ?_, fun W hW => ?_⟩
    · have h5 := (hlo' x hx).1
      rcases h3 x (by simp [hx]) with h | h
      · simp only [List.mem_cons] at h
        rcases h with h | h | h
        · omega
        · omega
        · exact .inl h
      · exact .inr h
    · rw [rpT_num hs hW] at h4
      refine NdVIn.keep h4 (fun _ _ => rfl) fun x hx => ?_
      have hq := hx.2.2
      simp only [List.mem_cons, not_or] at hq
      rcases hx.1 with h | h
      · exact h.elim
      · exact ⟨h, hx.2.1, hq.2.2⟩

set_option maxRecDepth 100000 in
set_option maxHeartbeats 4000000 in
/-- impl.TermVars. -/
theorem implVars_any (k n : Int) (s : ByteArray) (f : Fr) (A : Option Addr) (cap lo hi : Nat) (w : World) (hk : KidsAt w lo hi f A cap) (hh : hi ≤ w.heap.size) (hf : Fits k n s) (hnd : nodes f ≤ 1048576) (ht : nv.Tab w) :
    Calls Tryd.prog 9 #[.agg #[.int .i64 k, .int .i64 n, .string s, .slice A f.len cap]] w fun e w' => ∃ v, e = .returned v ∧ OwnI w' w.heap.size v (varsB k n s f) ∧ Below w.heap.size w w' := by
  have hlt := tab_lt ht
  have C1 := fun w1 (hb : Below w.heap.size w w1) => nodeOf_any k n s f A cap lo hi w1 (hk.below hb hh) (Nat.le_trans hh hb.size) hf hnd (tab_below ht hb hlt)
  have hb0 : Below w.heap.size w (w.alloc (.cells #[.int .i64 k, .int .i64 n, .string s, .slice A f.len cap] 25)) := (Below.refl _ _).alloc (Nat.le_refl _) _
  have HND := Lib.hid hnd
  have H1 := Lib.hid C1
  have HB0 := Lib.hid hb0
  clear C1 hk hf hnd ht hh hb0
  have hmf : ∀ (fn : Fn) (first cap : Array Value) (w : World), (Instr.makeFunc fn first cap).run Tryd.prog w = .ok (.func fn first cap) w := fun _ _ _ _ => rfl
  go_enter Tryd.func9, Tryd.ntmps9
  go_wp2_with fail
  refine (H1.out _ HB0.out).mono ?_
  rintro e w2 ⟨hb, hr⟩
  have hb2 : Below w.heap.size w w2 := HB0.out.trans (hb.mono (by simp))
  rcases hr with ⟨hok, v, rfl, hv⟩ | ⟨hok, rfl⟩
  · have HV : Hid (varsB k n s f = varsT [] k n f) := Lib.hid (by unfold varsB; rw [hok]; rfl)
    have HSH : Hid (shapeT k n s f 30 = true) := Lib.hid (by unfold validT at hok; rw [Bool.and_eq_true] at hok; exact hok.1)
    have HNV := Lib.hid hv
    have HB2 := Lib.hid hb2
    have hsz := hb2.size
    obtain ⟨T, x, rfl⟩ := hv.iface
    clear hok hv hb hb2
    go_wp2_with fail
    refine (newNum_any w2).mono ?_
    rintro e w4 ⟨rfl, hN, hb4, hs4⟩
    have C2 := nsT_any k n 30 s f (.iface T x) 0 w2.heap.size _ _ _ _ _ w4 HSH.out (HNV.out.keep (fun p _ hp => hb4.cell hp) (Nat.zero_le _) (Nat.le_refl _)) (by omega) (Nat.le_refl _) hN (by omega) (by have := HND.out; simp; omega)
    have H2 := Lib.hid C2
    have HB4 := Lib.hid (HB2.out.trans (hb4.mono hsz))
    clear hN hb4 C2 HNV HB2
    go_wp2_with fail
    refine H2.out.mono ?_
    rintro e w5 ⟨vo, v', rfl, hN5, hw5, hn5, hn⟩
    obtain ⟨T2, x2, rfl⟩ := (hn _ (List.prefix_refl _)).iface
    have hF : OwnI w5 w.heap.size vo (varsT [] k n f) ∧ Below w.heap.size w w5 := ⟨hN5.2.2.1.mono (by omega), HB4.out.trans (hw5.below (by omega) fun x hx => by
      simp [ownV, Value.ownBlock] at hx
      omega)⟩
    have HF := Lib.hid hF
    have c1 := hN5.1.cell 1
    simp only [List.getElem?_toArray, List.getElem?_cons_zero, List.getElem?_cons_succ] at c1
    clear hN5 hw5 hn5 hF hn
    go_wp2_with fail
    go_ret
    rw [HV.out]
    exact ⟨_, rfl, HF.out⟩
  · have HV : Hid (varsB k n s f = []) := Lib.hid (by unfold varsB; rw [hok]; rfl)
    have HB2 := Lib.hid hb2
    clear hok hb2 hb
    go_wp2_with fail
    go_ret
    rw [HV.out]
    exact ⟨_, rfl, OwnI.nil _ _, HB2.out⟩
end Go.Proofs.YtkgihpddjppmdaaDoor
