/- Renumbering is done once: plain facts. No condition. -/
import Derived.Test.YtabkoofmfhbmhaaDoorProg
import Derived.Test.YtabkoofmfhbmhaaDoorZmRn40
import Derived.Test.YtabkoofmfhbmhaaDoorTermOf
import Derived.Test.YtabkoofmfhbmhaaDoorNode
namespace Go.Proofs.YtabkoofmfhbmhaaDoor
open Go.RowKit

/-- The numbers of as many variables. -/
def iota (V : List Int) : List Int := (List.range V.length).map Int.ofNat
theorem iota_snoc (V : List Int) (n : Int) : iota (V ++ [n]) = iota V ++ [(V.length : Int)] := by
  simp [iota, List.range_succ]
theorem mem_iota {V : List Int} {m : Nat} : (m : Int) ∈ iota V ↔ m < V.length := by
  simp only [iota, List.mem_map, List.mem_range]
  constructor
  · rintro ⟨a, h, e⟩
    have e2 : (a : Int) = m := e
    omega
  · intro h; exact ⟨m, h, rfl⟩
theorem idx_iota {V : List Int} {m : Nat} (h : m < V.length) : (iota V).idxOf (m : Int) = m := by
  have hnd : (iota V).Nodup := by
    unfold iota
    exact List.Pairwise.map _ (fun a b hab e => hab (by have e2 : (a : Int) = b := e; omega)) List.nodup_range
  have hl : m < (iota V).length := by simpa [iota] using h
  have hg : (iota V)[m] = (m : Int) := by simp [iota]
  have h2 := hnd.idxOf_getElem m hl
  rw [hg] at h2
  exact h2
theorem varsF_up (f : Fr) : ∀ a, a <+: varsF a f := by
  induction f with
  | nil => intro a; exact List.prefix_refl _
  | cons k n s kids rest ihk ihr =>
    intro a
    refine List.IsPrefix.trans ?_ (ihr _)
    split
    · unfold addV
      split
      · exact List.prefix_refl _
      · exact List.prefix_append _ _
    · exact ihk a
/-- The variables of a row that was renumbered are 0, 1, 2 .. -/
theorem vars_ren (f : Fr) : ∀ (a V : List Int), V.Nodup → varsF a f <+: V → varsF (iota a) (renF V f) = iota (varsF a f) := by
  induction f with
  | nil => intro a V _ _; rfl
  | cons k n s kids rest ihk ihr =>
    intro a V hV hp
    have hq : (if k = 1 then addV a n else varsF a kids) <+: V := (varsF_up rest _).trans hp
    have key : (if k = 1 then addV (iota a) (renN V k n) else varsF (iota a) (renF V kids)) = iota (if k = 1 then addV a n else varsF a kids) := by
      by_cases hk : k = 1
      · subst hk
        simp only [if_true] at hq ⊢
        unfold addV at hq ⊢
        by_cases hn : n ∈ a
        · have hc : a.contains n = true := by simpa using hn
          rw [if_pos hc] at hq ⊢
          obtain ⟨t, rfl⟩ := hq
          have hm : n ∈ a ++ t := by simp [hn]
          have hi : (a ++ t).idxOf n < a.length := by rw [List.idxOf_append, if_pos hn]; exact List.idxOf_lt_length_iff.2 hn
          have e1 : renN (a ++ t) 1 n = (((a ++ t).idxOf n : Nat) : Int) := by unfold renN; rw [if_pos ⟨rfl, hm⟩]
          rw [e1]
          have hc2 : (iota a).contains (((a ++ t).idxOf n : Nat) : Int) = true := by simpa using mem_iota.2 hi
          rw [if_pos hc2]
        · have hc : ¬ a.contains n = true := by simpa using hn
          rw [if_neg hc] at hq ⊢
          obtain ⟨t, rfl⟩ := hq
          have hm : n ∈ a ++ [n] ++ t := by simp
          have hi : (a ++ [n] ++ t).idxOf n = a.length := by
            rw [List.append_assoc, List.idxOf_append, if_neg hn]
            simp
          have e1 : renN (a ++ [n] ++ t) 1 n = ((a.length : Nat) : Int) := by unfold renN; rw [if_pos ⟨rfl, hm⟩, hi]
          rw [e1]
          have hc2 : ¬ (iota a).contains ((a.length : Nat) : Int) = true := by
            intro h
            have := mem_iota.1 (by simpa using h : ((a.length : Nat) : Int) ∈ iota a)
            omega
          rw [if_neg hc2, iota_snoc]
      · simp only [if_neg hk] at hq ⊢
        exact ihk a V hV hq
    show varsF (if k = 1 then addV (iota a) (renN V k n) else varsF (iota a) (renF V kids)) (renF V rest) = _
    rw [key]
    exact ihr _ V hV hp
/-- Renumbering again changes nothing. -/
theorem ren_ren (f : Fr) : ∀ (a V : List Int) (d : Int), shapeF f d = true → varsF a f <+: V → renF (iota V) (renF V f) = renF V f := by
  induction f with
  | nil => intro a V d _ _; rfl
  | cons k n s kids rest ihk ihr =>
    intro a V d h hp
    rw [shapeF_cons, Bool.and_eq_true] at h
    have hq : (if k = 1 then addV a n else varsF a kids) <+: V := (varsF_up rest _).trans hp
    have hr := ihr _ V d h.2 hp
    by_cases hk : k = 1
    · subst hk
      obtain ⟨rfl, rfl, _⟩ := shapeT_leaf h.1 (by omega)
      rw [if_pos rfl] at hq
      have hn : n ∈ V := hq.subset (by
        unfold addV
        split
        · next hc => simpa using hc
        · simp)
      have hl := List.idxOf_lt_length_iff.2 hn
      have e1 : renN V 1 n = ((V.idxOf n : Nat) : Int) := by unfold renN; rw [if_pos ⟨rfl, hn⟩]
      have e2 : renN (iota V) 1 ((V.idxOf n : Nat) : Int) = ((V.idxOf n : Nat) : Int) := by
        unfold renN
        rw [if_pos ⟨rfl, mem_iota.2 hl⟩, idx_iota hl]
      simp only [renF]
      rw [e1, e2, hr]
    · rw [if_neg hk] at hq
      have h4 := ihk a V (d - 1) (shapeT_kids h.1) hq
      have e1 : ∀ (W : List Int) (m : Int), renN W k m = m := fun W m => by unfold renN; rw [if_neg (fun e => hk e.1)]
      simp only [renF]
      rw [e1, e1, hr, h4]
end Go.Proofs.YtabkoofmfhbmhaaDoor

/- impl's nodes in memory, by the set of their blocks. No condition. -/
namespace Go.Proofs.YtabkoofmfhbmhaaDoor
open Go.RowKit

/-- The nodes of the row f lie in block b from cell o on; what they lead to lies in blocks of the set P. -/
def NdRowIn (w : World) (P : Nat → Prop) : Fr → Nat → Nat → Prop
  | .nil, _, _ => True
  | .cons k n s kids rest, b, o => (∃ v, w.cell? ⟨b, o, none⟩ = some v ∧
      ((k = 1 ∧ v = .iface 84 (.int .i64 n)) ∨ (k = 2 ∧ v = .iface 90 (.int .i64 n)) ∨
        (k = 3 ∧ ∃ (A : Option Addr) (cap : Nat), v = .iface 102 (.agg #[.string s, .slice A kids.len cap]) ∧ kids.len ≤ cap ∧ cap ≤ maxLen ∧ (0 < kids.len → ∃ b', A = some ⟨b', 0, none⟩ ∧ P b' ∧ NdRowIn w P kids b' 0)))) ∧ NdRowIn w P rest b (o + 1)
def NdSIn (w : World) (P : Nat → Prop) (f : Fr) (A : Option Addr) (cap : Nat) : Prop :=
  f.len ≤ cap ∧ cap ≤ maxLen ∧ (0 < f.len → ∃ b', A = some ⟨b', 0, none⟩ ∧ P b' ∧ NdRowIn w P f b' 0)
def NdVIn (w : World) (P : Nat → Prop) (k n : Int) (s : ByteArray) (kids : Fr) (v : Value) : Prop :=
  (k = 1 ∧ v = .iface 84 (.int .i64 n)) ∨ (k = 2 ∧ v = .iface 90 (.int .i64 n)) ∨
    (k = 3 ∧ ∃ (A : Option Addr) (cap : Nat), v = .iface 102 (.agg #[.string s, .slice A kids.len cap]) ∧ NdSIn w P kids A cap)
section
variable {w w' : World} {P P' : Nat → Prop}
theorem NdRowIn.keep (hk : ∀ p : Addr, P p.block → w'.cell? p = w.cell? p) (hP : ∀ x, P x → P' x) (f : Fr) :
    ∀ b o, (∀ j, j < f.len → w'.cell? ⟨b, o + j, none⟩ = w.cell? ⟨b, o + j, none⟩) → NdRowIn w P f b o → NdRowIn w' P' f b o := by
  induction f with
  | nil => intro b o _ _; trivial
  | cons k n s kids rest ihk ihr =>
    rintro b o hc ⟨⟨v, hv, hw⟩, hr⟩
    simp only [Fr.len] at hc
    refine ⟨⟨v, (hc 0 (by omega)).trans hv, ?_⟩, ihr b (o + 1) (fun j hj => ?_) hr⟩
    · rcases hw with h | h | ⟨h1, A, cap, h2, h3, h4, h5⟩
      · exact .inl h
      · exact .inr (.inl h)
      · refine .inr (.inr ⟨h1, A, cap, h2, h3, h4, fun hp => ?_⟩)
        obtain ⟨b', e, hb, hrow⟩ := h5 hp
        exact ⟨b', e, hP _ hb, ihk b' 0 (fun j _ => hk _ hb) hrow⟩
    · have := hc (j + 1) (by omega)
      rwa [show o + (j + 1) = o + 1 + j by omega] at this
theorem NdSIn.keep {f : Fr} {A : Option Addr} {cap : Nat} (h : NdSIn w P f A cap) (hk : ∀ p : Addr, P p.block → w'.cell? p = w.cell? p) (hP : ∀ x, P x → P' x) : NdSIn w' P' f A cap :=
  ⟨h.1, h.2.1, fun hp => by
    obtain ⟨b', e, hb, hrow⟩ := h.2.2 hp
    exact ⟨b', e, hP _ hb, NdRowIn.keep hk hP f b' 0 (fun j _ => hk _ hb) hrow⟩⟩
theorem NdVIn.keep {k n : Int} {s : ByteArray} {kids : Fr} {v : Value} (h : NdVIn w P k n s kids v) (hk : ∀ p : Addr, P p.block → w'.cell? p = w.cell? p) (hP : ∀ x, P x → P' x) : NdVIn w' P' k n s kids v := by
  rcases h with h | h | ⟨h1, A, cap, h2, h3⟩
  · exact .inl h
  · exact .inr (.inl h)
  · exact .inr (.inr ⟨h1, A, cap, h2, h3.keep hk hP⟩)
theorem NdVIn.iface {k n : Int} {s : ByteArray} {kids : Fr} {v : Value} (h : NdVIn w P k n s kids v) : ∃ T x, v = .iface T x := by
  rcases h with ⟨_, rfl⟩ | ⟨_, rfl⟩ | ⟨_, A, cap, rfl, _⟩
  · exact ⟨_, _, rfl⟩
  · exact ⟨_, _, rfl⟩
  · exact ⟨_, _, rfl⟩
theorem NdRowIn.snoc (f : Fr) {k n : Int} {s : ByteArray} {kids : Fr} {v : Value} (hv : NdVIn w P k n s kids v) :
    ∀ b o, NdRowIn w P f b o → w.cell? ⟨b, o + f.len, none⟩ = some v → NdRowIn w P (f.app (.cons k n s kids .nil)) b o := by
  induction f with
  | nil =>
    intro b o _ hc
    refine ⟨⟨v, hc, ?_⟩, trivial⟩
    rcases hv with h | h | ⟨h1, A, cap, h2, h3⟩
    · exact .inl h
    · exact .inr (.inl h)
    · exact .inr (.inr ⟨h1, A, cap, h2, h3.1, h3.2.1, h3.2.2⟩)
  | cons k' n' s' kids' rest' _ ihr =>
    intro b o h hc
    refine ⟨h.1, ihr b (o + 1) h.2 ?_⟩
    rw [← hc]
    simp only [Fr.len]
    rw [show o + (rest'.len + 1) = o + 1 + rest'.len by omega]
/-- By ranges. -/
theorem NdRowIn.range {lo hi : Nat} (hP : ∀ x, P x → lo ≤ x ∧ x < hi) (f : Fr) : ∀ b o, NdRowIn w P f b o → NdRow w lo hi f b o := by
  induction f with
  | nil => intro b o _; trivial
  | cons k n s kids rest ihk ihr =>
    rintro b o ⟨⟨v, hv, hw⟩, hr⟩
    refine ⟨⟨v, hv, ?_⟩, ihr b (o + 1) hr⟩
    rcases hw with h | h | ⟨h1, A, cap, h2, h3, h4, h5⟩
    · exact .inl h
    · exact .inr (.inl h)
    · refine .inr (.inr ⟨h1, A, cap, h2, h3, h4, fun hp => ?_⟩)
      obtain ⟨b', e, hb, hrow⟩ := h5 hp
      exact ⟨b', e, (hP _ hb).1, (hP _ hb).2, ihk b' 0 hrow⟩
theorem NdVIn.range {lo hi : Nat} (hP : ∀ x, P x → lo ≤ x ∧ x < hi) {k n : Int} {s : ByteArray} {kids : Fr} {v : Value} (h : NdVIn w P k n s kids v) : NdV w lo hi k n s kids v := by
  rcases h with h | h | ⟨h1, A, cap, h2, h3, h4, h5⟩
  · exact .inl h
  · exact .inr (.inl h)
  · refine .inr (.inr ⟨h1, A, cap, h2, h3, h4, fun hp => ?_⟩)
    obtain ⟨b', e, hb, hrow⟩ := h5 hp
    exact ⟨b', e, (hP _ hb).1, (hP _ hb).2, NdRowIn.range hP kids b' 0 hrow⟩
/-- One node is put behind those that are there. -/
theorem NdRowIn.put {w0 : World} {f : Fr} {j g : Nat} {k n : Int} {s : ByteArray} {kids rest : Fr} {v u0 : Value} {Q : Nat → Prop} (hd : f.drop j = .cons k n s kids rest) (hj : j ≤ f.len) (hrow : NdRowIn w0 P (f.take j) g 0) (hv : NdVIn w Q k n s kids v)
    (hk : ∀ p : Addr, P p.block → w.cell? p = w0.cell? p) (hc : ∀ i, w.cell? ⟨g, i, none⟩ = w0.cell? ⟨g, i, none⟩) (hcell : w.cell? ⟨g, j, none⟩ = some u0) (hP : ∀ x, P x → P' x) (hQ : ∀ x, Q x → P' x) (hg : ¬ P g ∧ ¬ Q g) :
    NdRowIn (w.setCell ⟨g, j, none⟩ v) P' (f.take (j + 1)) g 0 := by
  have hlen : (f.take j).len = j := Fr.len_take j f hj
  have far : ∀ p : Addr, p.block ≠ g → (w.setCell ⟨g, j, none⟩ v).cell? p = w.cell? p := fun p hp => World.cell?_of_block (heap_setCell_other w _ p.block v hp)
  rw [Fr.take_succ j f hd]
  refine NdRowIn.snoc (f.take j) (hv.keep (fun p hp => far p fun e => hg.2 (e ▸ hp)) hQ) g 0 ?_ ?_
  · refine NdRowIn.keep (fun p hp => (far p fun e => hg.1 (e ▸ hp)).trans (hk p hp)) hP (f.take j) g 0 (fun i hi => ?_) hrow
    rw [hlen] at hi
    rw [← hc]
    exact World.cell?_setCell_other w _ _ _ (fun e => by injection e with _ e _; omega)
  · rw [hlen, Nat.zero_add]
    exact World.cell?_setCell_same w _ _ hcell
end
end Go.Proofs.YtabkoofmfhbmhaaDoor
