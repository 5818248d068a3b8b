/- impl.replaceVars with a numbering's place; impl.TermVars. Condition: the nodes lie in memory and are well-formed. -/
import Derived.Test.YtnkaafimnkigpaaDoorProg
import Derived.Test.YtnkaafimnkigpaaDoorZmAG41
import Derived.Test.YtnkaafimnkigpaaDoorRen
import Derived.Test.YtnkaafimnkigpaaDoorZmAG40
import Derived.Test.YtnkaafimnkigpaaDoorTermOf
import Derived.Test.YtnkaafimnkigpaaDoorTb
import Derived.Test.YtnkaafimnkigpaaDoorEq
import Derived.Test.YtnkaafimnkigpaaDoorAs
import Derived.Test.YtnkaafimnkigpaaDoorRep
namespace Go.Proofs.YtnkaafimnkigpaaDoor
open Go.RowKit Go.Maps

/-- Blocks that are new since w and no part of the row of numbers. -/
def Fresh (n0 n1 : Nat) (vo : Value) (x : Nat) : Prop := n0 ≤ x ∧ x < n1 ∧ x ∉ ownV vo
theorem addV_pre (a : List Int) (n : Int) : a <+: addV a n := by
  unfold addV
  split
  · exact List.prefix_refl a
  · exact List.prefix_append a [n]
theorem varsF_pre (f : Fr) : ∀ a, a <+: varsF a f := by
  induction f with
  | nil => intro a; exact List.prefix_refl a
  | cons k n s kids rest ihk ihr =>
    intro a
    simp only [varsF]
    refine List.IsPrefix.trans ?_ (ihr _)
    split
    · exact addV_pre a n
    · exact ihk a
theorem varsT_pre (a : List Int) (k n : Int) (f : Fr) : a <+: varsT a k n f := by
  unfold varsT
  split
  · exact addV_pre a n
  · exact varsF_pre f a
theorem renN_pre {a W : List Int} {n : Int} (h : addV a n <+: W) : renN W 1 n = ((addV a n).idxOf n : Int) := by
  obtain ⟨t, rfl⟩ := h
  have hm : n ∈ addV a n := by
    unfold addV
    split
    · rename_i h; exact List.contains_iff_mem.1 h
    · simp
  unfold renN
  rw [if_pos ⟨rfl, List.mem_append.2 (.inl hm)⟩, List.idxOf_append, if_pos hm]
/-- What renumber leaves. -/
def NsRes (w : World) (base mb bm : Nat) (vo : Value) (xs : List Int) (k n : Int) (s : ByteArray) (f : Fr) (e : Ending) (w' : World) : Prop :=
  ∃ vo' v', e = .returned v' ∧ Num w' base mb bm vo' xs ∧ Wrote (mb :: bm :: ownV vo) w w' ∧ (∀ x ∈ ownV vo', x ∈ ownV vo ∨ w.heap.size ≤ x) ∧ (∀ W, xs <+: W → NdVIn w' (Fresh w.heap.size w'.heap.size vo') k (renN W k n) s (renF W f) v')

theorem rp_num (f : Fr) : ∀ (a : List Int) (d : Int) (W : List Int), shapeF f d = true → varsF a f <+: W → rpF addV numOut a f = renF W f := by
  induction f with
  | nil => intro a d W _ _; rfl
  | cons k n s kids rest ihk ihr =>
    intro a d W h hW
    rw [shapeF_cons, Bool.and_eq_true] at h
    rw [rpF_cons, stT_num]
    have hW2 : varsF (varsT a k n kids) rest <+: W := hW
    have h2 := ihr (varsT a k n kids) d W h.2 hW2
    have h3 : varsT a k n kids <+: W := (varsF_pre rest _).trans hW2
    rw [h2]
    by_cases hk : k = 1
    · subst hk
      obtain ⟨rfl, rfl, _⟩ := shapeT_leaf h.1 (by omega)
      have e : varsT a 1 n .nil = addV a n := by unfold varsT; rw [if_pos rfl]
      rw [e] at h3
      show _ = Fr.cons 1 (renN W 1 n) ⟨#[]⟩ .nil (renF W rest)
      unfold rpT
      rw [if_pos rfl, renN_pre h3]
      rfl
    · have e : varsT a k n kids = varsF a kids := by unfold varsT; rw [if_neg hk]
      rw [e] at h3
      have h4 := ihk a (d - 1) W (shapeT_kids h.1) h3
      show _ = Fr.cons k (renN W k n) s (renF W kids) (renF W rest)
      unfold rpT
      rw [if_neg hk, h4]
      unfold renN
      rw [if_neg (fun e => hk e.1)]
theorem rpT_num {a : List Int} {k n : Int} {s : ByteArray} {f : Fr} {d : Int} {W : List Int} (h : shapeT k n s f d = true) (hW : varsT a k n f <+: W) : rpT addV numOut a k n s f = ⟨k, renN W k n, s, renF W f⟩ := by
  by_cases hk : k = 1
  · subst hk
    obtain ⟨rfl, rfl, _⟩ := shapeT_leaf h (by omega)
    have e : varsT a 1 n .nil = addV a n := by unfold varsT; rw [if_pos rfl]
    rw [e] at hW
    unfold rpT
    rw [if_pos rfl, renN_pre hW]; rfl
  · have e : varsT a k n f = varsF a f := by unfold varsT; rw [if_neg hk]
    rw [e] at hW
    unfold rpT
    rw [if_neg hk, rp_num f a (d - 1) W (shapeT_kids h) hW]
    unfold renN
    rw [if_neg (fun e => hk e.1)]
/-- impl.replaceVars with a numbering's place. -/
theorem nsT_any (k n d : Int) (s : ByteArray) (f : Fr) (v : Value) (lo hi base mb bm : Nat) (vo : Value) (acc : List Int) (w : World) (hs : shapeT k n s f d = true) (hv : NdV w lo hi k n s f v) (hmb : hi ≤ mb) (hbm : hi ≤ bm) (hN : Num w base mb bm vo acc) (hbs : base ≤ w.heap.size) (hacc : acc.length + nodes f ≤ 2097152) :
    Calls Tryd.prog 46 #[v, .func (.func 70) #[.pointer (some ⟨mb, 0, none⟩)] #[]] w fun e w' => NsRes w base mb bm vo (varsT acc k n f) k n s f e w' := by
  have hlo := hN.2.2.1.lt
  have hml := hN.1.lt
  refine (rpT_any place_ef (place_rep base mb bm) s f k n d v lo hi acc (mb :: bm :: ownV vo) w hs hv (by omega) (fun x hx => ?_) ⟨vo, hN, rfl⟩ hbs hacc).mono ?_
  · simp only [List.mem_cons] at hx
    rcases hx with rfl | rfl | hx
    · exact hmb
    · exact hbm
    · have := (hlo x hx).1; have := hN.2.2.2.1; omega
  · rintro e w' ⟨Q', v', rfl, ⟨vo', h1, rfl⟩, h2, h3, h4⟩
    rw [stT_num] at h1
    have hlo' := h1.2.2.1.lt
    have b1 := h1.2.2.2.1
    have b2 := h1.2.2.2.2.1
    refine ⟨vo', v', rfl, h1, h2, fun x hx => ?_, fun W hW => ?_⟩
    · have h5 := (hlo' x hx).1
      rcases h3 x (by simp [hx]) with h | h
      · simp only [List.mem_cons] at h
        rcases h with h | h | h
        · omega
        · omega
        · exact .inl h
      · exact .inr h
    · rw [rpT_num hs hW] at h4
      refine NdVIn.keep h4 (fun _ _ => rfl) fun x hx => ?_
      have hq := hx.2.2
      simp only [List.mem_cons, not_or] at hq
      rcases hx.1 with h | h
      · exact h.elim
      · exact ⟨h, hx.2.1, hq.2.2⟩

end Go.Proofs.YtnkaafimnkigpaaDoor

/- spec.l1Renumber, spec.RenumberTerms. Condition: the row lies in memory. -/
namespace Go.Proofs.YtnkaafimnkigpaaDoor
open Go.RowKit

theorem addV_nodup {acc : List Int} (h : acc.Nodup) (n : Int) : (addV acc n).Nodup := by
  unfold addV
  split
  · exact h
  · rename_i hn
    have hm : n ∉ acc := fun e => hn (List.contains_iff_mem.2 e)
    refine List.nodup_append.2 ⟨h, by simp, fun a ha b hb e => ?_⟩
    have hb' : b = n := by simpa using hb
    subst e hb'
    exact hm ha
theorem varsF_nodup (f : Fr) : ∀ acc : List Int, acc.Nodup → (varsF acc f).Nodup := by
  induction f with
  | nil => intro acc h; exact h
  | cons k n s kids rest ihk ihr =>
    intro acc h
    simp only [varsF]
    refine ihr _ ?_
    split
    · exact addV_nodup h n
    · exact ihk acc h
theorem made_below' {w w2 : World} {f : Fr} {A : Option Addr} {cap : Nat} (h : Made w f A cap w2) : Below w.heap.size w w2 := by
  obtain ⟨L, _, _, _, h4⟩ := h
  exact h4
/-- The variables of the terms of a row. -/
def allVars (f : Fr) : List Int := varsF [] f

end Go.Proofs.YtnkaafimnkigpaaDoor

/- impl.nodesOf with the row that it makes; shapes of renamed terms. Condition: the row lies in memory, the table of signs in its variable. -/
namespace Go.Proofs.YtnkaafimnkigpaaDoor
open Go.RowKit

theorem shape_of_valid {k n : Int} {s : ByteArray} {f : Fr} (h : validT k n s f = true) : shapeT k n s f 30 = true := by
  unfold validT at h
  rw [Bool.and_eq_true] at h
  exact h.1

/-- What nodesOf answers. -/
def NodesRes2 (w : World) (f : Fr) (e : Ending) (w' : World) : Prop :=
  Below w.heap.size w w' ∧ ((allV f = true ∧ e = .returned (.tuple #[.slice (some ⟨w.heap.size, 0, none⟩) f.len f.len, .bool true]) ∧ NPart w f w.heap.size f.len w') ∨ (allV f = false ∧ e = .returned (.tuple #[.slice none 0 0, .bool false])))
theorem nodup_len (N : Nat) : ∀ l : List Int, l.Nodup → (∀ x ∈ l, 0 ≤ x ∧ x < N) → l.length ≤ N := by
  induction N with
  | zero =>
    intro l _ h
    cases l with
    | nil => exact Nat.le_refl _
    | cons x _ => have := h x (by simp); omega
  | succ N ih =>
    intro l hn h
    have h1 := ih (l.erase (N : Int)) (hn.erase _) fun x hx => by
      have h2 := (hn.mem_erase_iff).1 hx
      have h3 := h x h2.2
      have h4 := h2.1
      omega
    rw [List.length_erase] at h1
    split at h1 <;> omega
theorem vars_range (f : Fr) : ∀ (d : Int) (acc : List Int), shapeF f d = true → (∀ x ∈ acc, 0 ≤ x ∧ x < (26 : Nat)) → ∀ x ∈ varsF acc f, 0 ≤ x ∧ x < (26 : Nat) := by
  induction f with
  | nil => intro d acc _ h; exact h
  | cons k n s kids rest ihk ihr =>
    intro d acc hs h
    rw [shapeF_cons, Bool.and_eq_true] at hs
    simp only [varsF]
    refine ihr d _ hs.2 ?_
    split
    · rename_i hk
      subst hk
      have h0 := hs.1
      unfold shapeT ownB at h0
      simp only [Bool.and_eq_true, Bool.or_eq_true, decide_eq_true_eq, beq_iff_eq] at h0
      unfold addV
      split
      · exact h
      · intro x hx
        rcases List.mem_append.1 hx with hx | hx
        · exact h x hx
        · have : x = n := by simpa using hx
          omega
    · exact ihk _ _ (shapeT_kids hs.1) h
theorem shapeF_ren (V : List Int) (hV : V.length ≤ 26) (f : Fr) : ∀ d, shapeF f d = true → shapeF (renF V f) d = true := by
  induction f with
  | nil => intro d h; exact h
  | cons k n s kids rest ihk ihr =>
    intro d hs
    rw [shapeF_cons, Bool.and_eq_true] at hs
    simp only [renF]
    rw [shapeF_cons, Bool.and_eq_true]
    refine ⟨?_, ihr d hs.2⟩
    have hk := ihk _ (shapeT_kids hs.1)
    have h0 := hs.1
    unfold shapeT ownB at h0 ⊢
    simp only [Bool.and_eq_true, Bool.or_eq_true, decide_eq_true_eq, beq_iff_eq, renF_len] at h0 ⊢
    refine ⟨h0.1, ?_, hk⟩
    by_cases h1 : k = 1
    · have hr : 0 ≤ renN V k n ∧ renN V k n ≤ 25 := by
        unfold renN
        split
        · rename_i hh
          have := List.idxOf_lt_length_iff.2 hh.2
          omega
        · omega
      rcases h0.2.1 with (h | h) | h
      · exact .inl (.inl ⟨h.1, ⟨⟨hr, h.2.1.2⟩, h.2.2⟩⟩)
      · omega
      · omega
    · have e : renN V k n = n := by unfold renN; rw [if_neg (fun e => h1 e.1)]
      rw [e]
      exact h0.2.1
theorem allV_shape (f : Fr) (h : allV f = true) : shapeF f 30 = true := by
  induction f with
  | nil => rfl
  | cons k n s kids rest _ ihr =>
    simp only [allV, Bool.and_eq_true] at h
    rw [shapeF_cons, Bool.and_eq_true]
    exact ⟨shape_of_valid h.1, ihr h.2⟩
theorem allVars_small (f : Fr) (h : allV f = true) : (allVars f).length ≤ 26 := by
  unfold allVars
  exact nodup_len 26 _ (varsF_nodup f [] List.nodup_nil) (vars_range f 30 [] (allV_shape f h) fun x hx => by simp at hx)

set_option maxRecDepth 100000 in
set_option maxHeartbeats 2000000 in
/-- impl.nodesOf, with the row that it makes. -/
theorem nodesOf2_any (f : Fr) (A : Option Addr) (cap lo hi : Nat) (w : World) (hk : KidsAt w lo hi f A cap) (hh : hi ≤ w.heap.size) (hnd : nodes f ≤ 1048576) (ht : nv.Tab w) :
    Calls Tryd.prog 71 #[.slice A f.len cap] w fun e w' => NodesRes2 w f e w' := by
  have hlt0 := tab_lt ht
  have HK := Lib.hid hk
  have HHI := Lib.hid hh
  have HND := Lib.hid hnd
  have HT := Lib.hid ht
  have hl : f.len ≤ 1048576 := by have := len_le_nodes f; omega
  have hst := fun w1 base xs => NPart.start (w := w) (w2 := w1) (f := f) (base := base) (xs := xs)
  have HST := Lib.hid hst
  clear hk hh hnd ht hst
  generalize hv : allV f = v
  have HV := Lib.hid hv
  generalize hn : f.len = len at *
  have HN := Lib.hid hn
  clear hn hv
  obtain ⟨i0, hi0, hz0, hz1, hz2⟩ := info_parts infoN
  go_enter Tryd.func71, Tryd.ntmps71
  go_wp2_with (at_make; go_must (refine wpList_make_full _ rfl _ _ 89 rfl w.heap.size 62 i0 _ 1 Tryd.underlying89 hi0 hz0 hz1 .i64 .i64 _ _ len rfl rfl rfl rfl (by rw [hz2]; omega) (by unfold maxLen; omega) (Nat.le_refl _) ?_); intro w1 hown hgrow)
  have hp0 := HST.out _ _ _ hown hgrow
  have HP0 := Lib.hid hp0
  clear hp0 hown hgrow HST hi0 hz0 hz1 hz2
  go_loopw [14] (fun i wr => ∃ (j : Nat), j ≤ len ∧ i = .int .i64 j ∧ allV (f.drop j) = v ∧ NPart w f w.heap.size j wr) (fun i _ => len - (intOf i).toNat)
  case atStart => exact ⟨0, Nat.zero_le _, rfl, HV.out, HP0.out⟩
  case round =>
    obtain ⟨j, hj, rfl, hv, hpart⟩ := hrel
    have HPT := Lib.hid hpart
    by_cases hlt : j < len
    · have hltf : j < f.len := by rw [HN.out]; exact hlt
      obtain ⟨kk, nn, s, kids, hd⟩ := Fr.drop_cons j f hltf
      obtain ⟨b, o, rfl, hlb, hbb, hrow⟩ := HK.out.2.2 (by rw [HN.out]; omega)
      obtain ⟨hfit, A', cp, c0, c1, c2, c3, hkid⟩ := hrow.elem hd
      rw [hd] at hv
      simp only [allV] at hv
      have hb := hpart.1
      have hlo : (⟨b, o, none⟩ : Addr).block < w.heap.size := Nat.lt_of_lt_of_le hbb HHI.out
      have k0 := (hb.cell (p := ⟨b, o + j * 4, none⟩) hlo).trans c0
      have k1 := (hb.cell (p := ⟨b, o + j * 4 + 1, none⟩) hlo).trans c1
      have k2 := (hb.cell (p := ⟨b, o + j * 4 + 2, none⟩) hlo).trans c2
      have k3 := (hb.cell (p := ⟨b, o + j * 4 + 3, none⟩) hlo).trans c3
      have hb1 : Below wr.heap.size wr (wr.alloc (.cells #[.int .i64 kk, .int .i64 nn, .string s, .slice A' kids.len cp] 31)) := (Below.refl _ _).alloc (Nat.le_refl _) _
      have hbw1 := hb.trans (hb1.mono hb.size)
      have C1 := nodeOf_any kk nn s kids A' cp lo hi _ (hkid.below hbw1 HHI.out) (Nat.le_trans HHI.out hbw1.size) hfit (Nat.le_trans (nodes_drop_elem j f hd) HND.out) (tab_below HT.out hbw1 hlt0)
      have cellsOf := fun w2 hb => HPT.out.cell (w2 := w2) hltf hb
      have stepOf := fun w2 v h2 hv => HPT.out.step (w2 := w2) (v := v) hd hltf hb1 h2 hv
      have H1 := Lib.hid C1
      have HB := Lib.hid hb
      have HB1 := Lib.hid hb1
      have HE := Lib.hid hv
      have HC := Lib.hid cellsOf
      have HS := Lib.hid stepOf
      clear C1 hb hb1 hbw1 hv c0 c1 c2 c3 hkid hrow hfit hd hlo cellsOf stepOf hpart hltf
      go_wp2_with fail
      refine H1.out.mono ?_
      rintro e w2 ⟨hb2, hr⟩
      have hb12 : Below wr.heap.size wr w2 := HB1.out.trans (hb2.mono HB1.out.size)
      rcases hr with ⟨hok, vv, rfl, hnv⟩ | ⟨hok, rfl⟩
      · obtain ⟨⟨v0, d0⟩, g0⟩ := HC.out w2 hb12
        have hstep := HS.out w2 vv hb2 hnv
        have HF : Hid (allV (f.drop (j + 1)) = v) := Lib.hid (by rw [← HE.out, hok]; rfl)
        obtain ⟨T, x, rfl⟩ := hnv.iface
        have HSTEP := Lib.hid hstep
        clear hok hnv hb2 hb12 hstep k0 k1 k2 k3
        go_wp2_with fail
        go_roundw
        case rel => exact ⟨j + 1, by omega, by go_num, HF.out, HSTEP.out⟩
        case measure => simp [intOf]; omega
      · have HF : Hid (v = false) := Lib.hid (by rw [← HE.out, hok]; rfl)
        have HBW : Hid (Below w.heap.size w w2) := Lib.hid (HB.out.trans (hb12.mono HB.out.size))
        clear hok hb2 hb12 k0 k1 k2 k3
        go_wp2_with fail
        go_ret2
        exact ⟨HBW.out, .inr ⟨HV.out.trans HF.out, rfl⟩⟩
    · obtain rfl : j = len := by omega
      have HE : Hid (allV f = true) := Lib.hid (by
        have h1 := Fr.drop_len f
        rw [HN.out] at h1
        rw [HV.out, ← hv, h1]; rfl)
      clear hpart hv
      go_wp2_with fail
      go_ret2
      refine ⟨HPT.out.1, .inl ⟨HE.out, ?_, ?_⟩⟩
      · rw [HN.out]; rfl
      · rw [HN.out]; exact HPT.out
end Go.Proofs.YtnkaafimnkigpaaDoor

/- Matching a general term with a special one: plain mathematics, and the model's table in memory. No condition. -/
namespace Go.Proofs.YtnkaafimnkigpaaDoor
open Go.RowKit

/-- What is known about variables, the newest first. -/
abbrev St := List (Int × Nd)
def lkS (st : St) (n : Int) : Option Nd := (st.find? fun p => p.1 == n).map (·.2)
theorem lkS_same (st : St) (n : Int) (m : Nd) : lkS ((n, m) :: st) n = some m := by simp [lkS, List.find?]
theorem lkS_other (st : St) (n n' : Int) (m : Nd) (h : n' ≠ n) : lkS ((n, m) :: st) n' = lkS st n' := by
  unfold lkS
  rw [List.find?_cons, show ((n, m) : Int × Nd).1 = n from rfl, show (n == n') = false by rw [beq_eq_false_iff_ne]; exact fun e => h e.symm]
def mtV (st : St) (n : Int) (m : Nd) : Option St :=
  match lkS st n with
  | some o => if eqT o.k o.n o.s o.f m.k m.n m.s m.f = true then some st else none
  | none => some ((n, m) :: st)
def hdB (k n : Int) (s : ByteArray) (l : Nat) (k' n' : Int) (s' : ByteArray) (l' : Nat) : Bool := k == k' && (n == n' && (s.data.toList == s'.data.toList && l == l'))
def mtF : St → Fr → Fr → Option St
  | st, .cons k n s kids rest, .cons k' n' s' kids' rest' =>
    match (if k = 1 then mtV st n ⟨k', n', s', kids'⟩ else if hdB k n s kids.len k' n' s' kids'.len = true then mtF st kids kids' else none) with
    | some st' => mtF st' rest rest'
    | none => none
  | st, .nil, _ => some st
  | st, .cons _ _ _ _ _, .nil => some st
def mtT (st : St) (k n : Int) (s : ByteArray) (f : Fr) (k' n' : Int) (s' : ByteArray) (f' : Fr) : Option St :=
  if k = 1 then mtV st n ⟨k', n', s', f'⟩ else if hdB k n s f.len k' n' s' f'.len = true then mtF st f f' else none
theorem mtF_cons (st : St) (k n : Int) (s : ByteArray) (kids rest : Fr) (k' n' : Int) (s' : ByteArray) (kids' rest' : Fr) :
    mtF st (.cons k n s kids rest) (.cons k' n' s' kids' rest') = match mtT st k n s kids k' n' s' kids' with | some st' => mtF st' rest rest' | none => none := rfl
theorem mtF_nil (st : St) (g : Fr) : mtF st .nil g = some st := by cases g <;> rfl
theorem shapeT_mono {k n : Int} {s : ByteArray} {f : Fr} {d d' : Int} (hd : d ≤ d') (h : shapeT k n s f d = true) : shapeT k n s f d' = true := by
  have h1 := shapeF_mono (.cons k n s f .nil) d d' hd (by rw [shapeF_cons, h]; rfl)
  rw [shapeF_cons, Bool.and_eq_true] at h1
  exact h1.1

/-- The model's table: 26 terms in block g; those that are known read as st says. -/
def KnS (w : World) (lo hi g : Nat) (st : St) : Prop := ∃ cs, Blk w g 31 cs ∧ cs.size = 104 ∧ ∀ i : Nat, i < 26 →
  (lkS st (i : Int) = none → cs[i * 4]? = some (.int .i64 0)) ∧
  ∀ m, lkS st (i : Int) = some m → m.k ≠ 0 ∧ (-9223372036854775808 ≤ m.k ∧ m.k ≤ 9223372036854775807) ∧ ∃ (A : Option Addr) (c : Nat), cs[i * 4]? = some (.int .i64 m.k) ∧ cs[i * 4 + 1]? = some (.int .i64 m.n) ∧ cs[i * 4 + 2]? = some (.string m.s) ∧ cs[i * 4 + 3]? = some (.slice A m.f.len c) ∧ KidsAt w lo hi m.f A c
theorem KnS.wrote {w w' : World} {lo hi g : Nat} {st : St} {L : List Nat} (h : KnS w lo hi g st) (hb : Wrote L w w') (hg : g ∉ L) (hh : hi ≤ w.heap.size) (hL : ∀ x ∈ L, hi ≤ x) : KnS w' lo hi g st := by
  obtain ⟨cs, h1, h2, h3⟩ := h
  refine ⟨cs, hb.blk h1 hg, h2, fun i hi' => ⟨(h3 i hi').1, fun m hm => ?_⟩⟩
  obtain ⟨a, b, A, c, c0, c1, c2, c3, hk⟩ := (h3 i hi').2 m hm
  exact ⟨a, b, A, c, c0, c1, c2, c3, hk.keep fun p _ hp => hb.cell (by omega) fun e => by have := hL _ e; omega⟩
theorem KnS.below {w w' : World} {lo hi g : Nat} {st : St} (h : KnS w lo hi g st) (hb : Below w.heap.size w w') (hh : hi ≤ w.heap.size) : KnS w' lo hi g st :=
  h.wrote (.of_below hb []) (by simp) hh (by simp)
theorem KnS.lt {w : World} {lo hi g : Nat} {st : St} (h : KnS w lo hi g st) : g < w.heap.size := by
  obtain ⟨cs, h1, _⟩ := h
  exact h1.lt
/-- A term is put at the variable i. -/
theorem KnS.put {w : World} {lo hi g i : Nat} {st : St} {k n : Int} {s : ByteArray} {f : Fr} {A : Option Addr} {c : Nat} (h : KnS w lo hi g st) (hi' : i < 26) (hg : hi ≤ g) (hk0 : k ≠ 0) (hkr : -9223372036854775808 ≤ k ∧ k ≤ 9223372036854775807) (hk : KidsAt w lo hi f A c) :
    KnS ((((w.setCell ⟨g, i * 4, none⟩ (.int .i64 k)).setCell ⟨g, i * 4 + 1, none⟩ (.int .i64 n)).setCell ⟨g, i * 4 + 2, none⟩ (.string s)).setCell ⟨g, i * 4 + 3, none⟩ (.slice A f.len c)) lo hi g (((i : Int), ⟨k, n, s, f⟩) :: st) := by
  obtain ⟨cs, h1, h2, h3⟩ := h
  have q := (((h1.set_ (i * 4) (.int .i64 k)).set_ (i * 4 + 1) (.int .i64 n)).set_ (i * 4 + 2) (.string s)).set_ (i * 4 + 3) (.slice A f.len c)
  have far : ∀ p : Addr, p.block < hi → ((((w.setCell ⟨g, i * 4, none⟩ (.int .i64 k)).setCell ⟨g, i * 4 + 1, none⟩ (.int .i64 n)).setCell ⟨g, i * 4 + 2, none⟩ (.string s)).setCell ⟨g, i * 4 + 3, none⟩ (.slice A f.len c)).cell? p = w.cell? p := fun p hp => World.cell?_of_block (by
    rw [heap_setCell_other _ _ _ _ (show p.block ≠ g by omega), heap_setCell_other _ _ _ _ (show p.block ≠ g by omega), heap_setCell_other _ _ _ _ (show p.block ≠ g by omega), heap_setCell_other _ _ _ _ (show p.block ≠ g by omega)])
  refine ⟨_, q, by simpa using h2, fun j hj => ?_⟩
  by_cases e : j = i
  · subst e
    rw [lkS_same]
    refine ⟨fun h => (by cases h), fun m hm => ?_⟩
    injection hm with hm
    subst hm
    refine ⟨hk0, hkr, A, c, ?_, ?_, ?_, ?_, hk.keep fun p _ hp => far p hp⟩
    · simp only [Array.getElem?_setIfInBounds, Array.size_setIfInBounds]
      rw [if_neg (by omega), if_neg (by omega), if_neg (by omega), if_pos trivial, if_pos (by omega)]
    · simp only [Array.getElem?_setIfInBounds, Array.size_setIfInBounds]
      rw [if_neg (by omega), if_neg (by omega), if_pos trivial, if_pos (by omega)]
    · simp only [Array.getElem?_setIfInBounds, Array.size_setIfInBounds]
      rw [if_neg (by omega), if_pos trivial, if_pos (by omega)]
    · simp only [Array.getElem?_setIfInBounds, Array.size_setIfInBounds]
      rw [if_pos trivial, if_pos (by omega)]
  · rw [lkS_other _ _ _ _ (by omega)]
    have hc : ∀ x, x < 4 → ((((cs.setIfInBounds (i * 4) (.int .i64 k)).setIfInBounds (i * 4 + 1) (.int .i64 n)).setIfInBounds (i * 4 + 2) (.string s)).setIfInBounds (i * 4 + 3) (.slice A f.len c))[j * 4 + x]? = cs[j * 4 + x]? := fun x hx => by
      simp only [Array.getElem?_setIfInBounds, Array.size_setIfInBounds]
      rw [if_neg (by omega), if_neg (by omega), if_neg (by omega), if_neg (by omega)]
    have h0 := hc 0 (by omega)
    rw [Nat.add_zero] at h0
    refine ⟨fun h => h0.trans ((h3 j hj).1 h), fun m hm => ?_⟩
    obtain ⟨a, b, A', c', c0, c1, c2, c3, hk'⟩ := (h3 j hj).2 m hm
    exact ⟨a, b, A', c', h0.trans c0, (hc 1 (by omega)).trans c1, (hc 2 (by omega)).trans c2, (hc 3 (by omega)).trans c3, hk'.keep fun p _ hp => far p hp⟩
end Go.Proofs.YtnkaafimnkigpaaDoor

/- Unification: bindings as plain data, and what they stand for in the end. No condition. -/
namespace Go.Proofs.YtnkaafimnkigpaaDoor
open Go.RowKit

/-- The node of a variable. -/
def vNd (n : Int) : Nd := ⟨1, n, ⟨#[]⟩, .nil⟩
/-- A row, a node with its variables replaced. -/
def suF (τ : Int → Nd) : Fr → Fr
  | .nil => .nil
  | .cons k n s kids rest => if k = 1 then .cons (τ n).k (τ n).n (τ n).s (τ n).f (suF τ rest) else .cons k n s (suF τ kids) (suF τ rest)
def suN (τ : Int → Nd) (m : Nd) : Nd := if m.k = 1 then τ m.n else ⟨m.k, m.n, m.s, suF τ m.f⟩
theorem suF_cons (τ : Int → Nd) (k n : Int) (s : ByteArray) (kids rest : Fr) : suF τ (.cons k n s kids rest) = .cons (suN τ ⟨k, n, s, kids⟩).k (suN τ ⟨k, n, s, kids⟩).n (suN τ ⟨k, n, s, kids⟩).s (suN τ ⟨k, n, s, kids⟩).f (suF τ rest) := by
  simp only [suF, suN]
  split <;> rfl
theorem suF_rp (τ : Int → Nd) (f : Fr) : suF τ f = rpF (fun (a : Unit) _ => a) (fun _ n => τ n) () f := by
  induction f with
  | nil => rfl
  | cons k n s kids rest ihk ihr =>
    simp only [suF, rpF, ihk, ihr]
theorem suF_len (τ : Int → Nd) (f : Fr) : (suF τ f).len = f.len := by
  induction f with
  | nil => rfl
  | cons k n s kids rest _ ih => rw [suF_cons]; simp only [Fr.len, ih]
/-- The variables that occur in a row, in a node. -/
def occF : Fr → Int → Prop
  | .nil, _ => False
  | .cons k n _ kids rest, x => (if k = 1 then x = n else occF kids x) ∨ occF rest x
def occN (m : Nd) (x : Int) : Prop := if m.k = 1 then x = m.n else occF m.f x
theorem occF_cons (k n : Int) (s : ByteArray) (kids rest : Fr) (x : Int) : occF (.cons k n s kids rest) x ↔ occN ⟨k, n, s, kids⟩ x ∨ occF rest x := Iff.rfl
theorem occN_var (n x : Int) : occN (vNd n) x ↔ x = n := by unfold occN vNd; simp
theorem su_congr (τ τ' : Int → Nd) (f : Fr) (h : ∀ x, occF f x → τ x = τ' x) : suF τ f = suF τ' f := by
  induction f with
  | nil => rfl
  | cons k n s kids rest ihk ihr =>
    have hr := ihr fun x hx => h x (.inr hx)
    by_cases hk : k = 1
    · subst hk
      have h1 := h n (.inl (by rw [if_pos rfl]))
      simp only [suF, if_true, h1, hr]
    · have h1 := ihk fun x hx => h x (.inl (by rw [if_neg hk]; exact hx))
      simp only [suF, if_neg hk, h1, hr]
theorem suN_congr (τ τ' : Int → Nd) (m : Nd) (h : ∀ x, occN m x → τ x = τ' x) : suN τ m = suN τ' m := by
  unfold suN
  split
  · next hk => exact h m.n (by unfold occN; rw [if_pos hk])
  · next hk => rw [su_congr τ τ' m.f fun x hx => h x (by unfold occN; rw [if_neg hk]; exact hx)]
theorem su_comp (τ τ' : Int → Nd) (f : Fr) : suF τ' (suF τ f) = suF (fun n => suN τ' (τ n)) f := by
  induction f with
  | nil => rfl
  | cons k n s kids rest ihk ihr =>
    by_cases hk : k = 1
    · subst hk
      simp only [suF, if_true]
      rw [ihr]
      unfold suN
      split <;> rfl
    · simp only [suF, if_neg hk]
      rw [ihk, ihr]
theorem suN_comp (τ τ' : Int → Nd) (m : Nd) : suN τ' (suN τ m) = suN (fun n => suN τ' (τ n)) m := by
  by_cases hk : m.k = 1
  · have e1 : suN τ m = τ m.n := by unfold suN; rw [if_pos hk]
    have e2 : suN (fun n => suN τ' (τ n)) m = suN τ' (τ m.n) := by
      show (if m.k = 1 then _ else _) = _
      rw [if_pos hk]
    rw [e1, e2]
  · have e1 : suN τ m = ⟨m.k, m.n, m.s, suF τ m.f⟩ := by unfold suN; rw [if_neg hk]
    have e2 : suN (fun n => suN τ' (τ n)) m = ⟨m.k, m.n, m.s, suF (fun n => suN τ' (τ n)) m.f⟩ := by
      show (if m.k = 1 then _ else _) = _
      rw [if_neg hk]
    rw [e1, e2]
    show (if m.k = 1 then _ else _) = _
    rw [if_neg hk, su_comp]
theorem occ_suF (τ : Int → Nd) (f : Fr) (y : Int) : occF (suF τ f) y ↔ ∃ x, occF f x ∧ occN (τ x) y := by
  induction f with
  | nil => exact ⟨fun h => h.elim, fun ⟨_, h, _⟩ => h.elim⟩
  | cons k n s kids rest ihk ihr =>
    by_cases hk : k = 1
    · subst hk
      simp only [suF, if_true, occF, ihr]
      constructor
      · rintro (h | ⟨x, h1, h2⟩)
        · exact ⟨n, .inl rfl, h⟩
        · exact ⟨x, .inr h1, h2⟩
      · rintro ⟨x, rfl | h1, h2⟩
        · exact .inl h2
        · exact .inr ⟨x, h1, h2⟩
    · simp only [suF, if_neg hk, occF, ihk, ihr]
      constructor
      · rintro (⟨x, h1, h2⟩ | ⟨x, h1, h2⟩)
        · exact ⟨x, .inl h1, h2⟩
        · exact ⟨x, .inr h1, h2⟩
      · rintro ⟨x, h1 | h1, h2⟩
        · exact .inl ⟨x, h1, h2⟩
        · exact .inr ⟨x, h1, h2⟩
theorem occ_suN (τ : Int → Nd) (m : Nd) (y : Int) : occN (suN τ m) y ↔ ∃ x, occN m x ∧ occN (τ x) y := by
  by_cases hk : m.k = 1
  · have e1 : suN τ m = τ m.n := by unfold suN; rw [if_pos hk]
    rw [e1]
    have e2 : ∀ x, occN m x ↔ x = m.n := fun x => by unfold occN; rw [if_pos hk]
    constructor
    · exact fun h => ⟨m.n, (e2 _).2 rfl, h⟩
    · rintro ⟨x, h1, h2⟩
      rw [(e2 x).1 h1] at h2
      exact h2
  · have e1 : suN τ m = ⟨m.k, m.n, m.s, suF τ m.f⟩ := by unfold suN; rw [if_neg hk]
    have e2 : ∀ x, occN m x ↔ occF m.f x := fun x => by unfold occN; rw [if_neg hk]
    have e3 : occN (⟨m.k, m.n, m.s, suF τ m.f⟩ : Nd) y ↔ occF (suF τ m.f) y := by unfold occN; rw [if_neg hk]
    rw [e1, e3, occ_suF]
    exact ⟨fun ⟨x, h1, h2⟩ => ⟨x, (e2 x).2 h1, h2⟩, fun ⟨x, h1, h2⟩ => ⟨x, (e2 x).1 h1, h2⟩⟩
/-- Well-formed variables: a node of kind 1 is the node of its variable. -/
def wvF : Fr → Prop
  | .nil => True
  | .cons k n s kids rest => (if k = 1 then (⟨k, n, s, kids⟩ : Nd) = vNd n else wvF kids) ∧ wvF rest
def wvN (m : Nd) : Prop := if m.k = 1 then m = vNd m.n else wvF m.f
theorem wv_shape (f : Fr) : ∀ d, shapeF f d = true → wvF f := by
  induction f with
  | nil => intro d _; trivial
  | cons k n s kids rest ihk ihr =>
    intro d h
    rw [shapeF_cons, Bool.and_eq_true] at h
    refine ⟨?_, ihr d h.2⟩
    split
    · next hk =>
      subst hk
      obtain ⟨h1, h2, _⟩ := shapeT_var h.1
      rw [h1, h2]; rfl
    · exact ihk (d - 1) (shapeT_kids h.1)
theorem su_id (f : Fr) (h : wvF f) : suF vNd f = f := by
  induction f with
  | nil => rfl
  | cons k n s kids rest ihk ihr =>
    obtain ⟨h1, h2⟩ := h
    by_cases hk : k = 1
    · subst hk
      rw [if_pos rfl] at h1
      injection h1 with _ _ h3 h4
      simp only [suF, if_true, ihr h2]
      rw [h3, h4]; rfl
    · rw [if_neg hk] at h1
      simp only [suF, if_neg hk, ihk h1, ihr h2]
theorem suN_id (m : Nd) (h : wvN m) : suN vNd m = m := by
  unfold suN
  unfold wvN at h
  split
  · next hk => rw [if_pos hk] at h; exact h.symm
  · next hk => rw [if_neg hk] at h; rw [su_id m.f h]
theorem wv_su (τ : Int → Nd) (hτ : ∀ x, wvN (τ x)) (f : Fr) (h : wvF f) : wvF (suF τ f) := by
  induction f with
  | nil => trivial
  | cons k n s kids rest ihk ihr =>
    obtain ⟨h1, h2⟩ := h
    by_cases hk : k = 1
    · subst hk
      simp only [suF, if_true]
      have h3 := hτ n
      refine ⟨?_, ihr h2⟩
      unfold wvN at h3
      split
      · next hk => rw [if_pos hk] at h3; exact h3
      · next hk => rw [if_neg hk] at h3; exact h3
    · rw [if_neg hk] at h1
      simp only [suF, if_neg hk]
      exact ⟨by rw [if_neg hk]; exact ihk h1, ihr h2⟩
theorem wv_suN (τ : Int → Nd) (hτ : ∀ x, wvN (τ x)) (m : Nd) (h : wvN m) : wvN (suN τ m) := by
  unfold suN
  split
  · exact hτ _
  · next hk =>
    unfold wvN at h ⊢
    rw [if_neg hk] at h
    rw [if_neg hk]
    exact wv_su τ hτ m.f h
theorem wv_vNd (n : Int) : wvN (vNd n) := by unfold wvN vNd; rw [if_pos rfl]

/-- Bindings, newest first; what each variable stands for in the end. -/
abbrev Sub := St
abbrev lk (σ : Sub) (x : Int) : Option Nd := lkS σ x
theorem lk_same (σ : Sub) (v : Int) (m : Nd) : lk ((v, m) :: σ) v = some m := lkS_same σ v m
theorem lk_other (σ : Sub) (v x : Int) (m : Nd) (h : x ≠ v) : lk ((v, m) :: σ) x = lk σ x := lkS_other σ v x m h
def one (v : Int) (m : Nd) : Int → Nd := fun x => if x = v then m else vNd x
def fin : Sub → Int → Nd
  | [], x => vNd x
  | (v, m) :: σ, x => suN (one v (suN (fin σ) m)) (fin σ x)
/-- Bindings that were made one after the other: each variable was not bound, and did not occur. -/
def Ok : Sub → Prop
  | [] => True
  | (v, m) :: σ => lk σ v = none ∧ wvN m ∧ ¬ occN (suN (fin σ) m) v ∧ Ok σ
structure Inv (σ : Sub) : Prop where
  free : ∀ x, lk σ x = none → fin σ x = vNd x
  bound : ∀ x m, lk σ x = some m → fin σ x = suN (fin σ) m
  idem : ∀ x y, occN (fin σ x) y → lk σ y = none
  wv : ∀ x, wvN (fin σ x)
  wvb : ∀ x m, lk σ x = some m → wvN m
theorem one_free (v : Int) (m : Nd) (a : Nd) (h : ¬ occN a v) (ha : wvN a) : suN (one v m) a = a := by
  rw [suN_congr (one v m) vNd a fun x hx => by
    unfold one
    rw [if_neg]
    rintro rfl
    exact h hx]
  exact suN_id a ha
theorem inv_of : ∀ σ : Sub, Ok σ → Inv σ
  | [], _ => ⟨fun x _ => rfl, (fun x m h => by cases h), fun x y _ => rfl, fun x => wv_vNd x, (fun x m h => by cases h)⟩
  | (v, m) :: σ, ⟨h1, h2, h3, h4⟩ => by
    obtain ⟨i1, i2, i3, i4, i5⟩ := inv_of σ h4
    have hv : fin σ v = vNd v := i1 v h1
    have hm : wvN (suN (fin σ) m) := wv_suN _ i4 m h2
    have key : ∀ a : Nd, suN (fin ((v, m) :: σ)) a = suN (one v (suN (fin σ) m)) (suN (fin σ) a) := fun a => (suN_comp (fin σ) (one v (suN (fin σ) m)) a).symm
    have hfix : suN (one v (suN (fin σ) m)) (suN (fin σ) m) = suN (fin σ) m := one_free v _ _ h3 hm
    have hw1 : ∀ x, wvN (one v (suN (fin σ) m) x) := fun x => by
      unfold one
      split
      · exact hm
      · exact wv_vNd x
    refine ⟨fun x hx => ?_, fun x n hx => ?_, fun x y hy => ?_, fun x => wv_suN _ hw1 _ (i4 x), fun x n hx => ?_⟩
    · have hne : x ≠ v := fun e => by subst e; rw [lk_same] at hx; cases hx
      rw [lk_other _ _ _ _ hne] at hx
      show suN _ (fin σ x) = _
      rw [i1 x hx]
      refine one_free v _ _ ?_ (wv_vNd x)
      rw [occN_var]
      exact fun e => hne e.symm
    · by_cases e : x = v
      · subst e
        rw [lk_same] at hx
        injection hx with hx
        subst hx
        rw [key, hfix]
        show suN _ (fin σ x) = _
        rw [hv]
        show one x _ x = _
        unfold one
        rw [if_pos rfl]
      · rw [lk_other _ _ _ _ e] at hx
        rw [key]
        show suN _ (fin σ x) = _
        rw [i2 x n hx]
    · have hy' : occN (suN (one v (suN (fin σ) m)) (fin σ x)) y := hy
      rw [occ_suN] at hy'
      obtain ⟨z, hz, hyz⟩ := hy'
      unfold one at hyz
      have hlz := i3 x z hz
      split at hyz
      · next e =>
        have hne : y ≠ v := fun e2 => by subst e2; exact h3 hyz
        rw [lk_other _ _ _ _ hne]
        rw [occ_suN] at hyz
        obtain ⟨u, _, hu2⟩ := hyz
        exact i3 u y hu2
      · next e =>
        rw [occN_var] at hyz
        subst hyz
        rw [lk_other _ _ _ _ e]
        exact hlz
    · by_cases e : x = v
      · subst e
        rw [lk_same] at hx
        injection hx with hx
        subst hx
        exact h2
      · rw [lk_other _ _ _ _ e] at hx
        exact i5 x n hx
end Go.Proofs.YtnkaafimnkigpaaDoor
