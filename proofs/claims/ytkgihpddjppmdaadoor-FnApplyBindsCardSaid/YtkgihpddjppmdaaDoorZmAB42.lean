/- spec.l3Shift: a term with a number added to its variables. Condition: the term lies in memory and is well-formed. -/
import Derived.Test.YtkgihpddjppmdaaDoorProg
import Derived.Test.YtkgihpddjppmdaaDoorZmAB41
import Derived.Test.YtkgihpddjppmdaaDoorTermOf
import Derived.Test.YtkgihpddjppmdaaDoorNode
import Derived.Test.YtkgihpddjppmdaaDoorAs
import Derived.Test.YtkgihpddjppmdaaDoorImplV
import Derived.Test.YtkgihpddjppmdaaDoorTb
namespace Go.Proofs.YtkgihpddjppmdaaDoor
open Go.RowKit

/-- The new number; the row with all variables shifted. -/
def shN (V k n : Int) : Int := if k = 1 then n + V else n
def shF (V : Int) : Fr → Fr
  | .nil => .nil
  | .cons k n s kids rest => .cons k (shN V k n) s (shF V kids) (shF V rest)
theorem shF_len (V : Int) (f : Fr) : (shF V f).len = f.len := by
  induction f with
  | nil => rfl
  | cons _ _ _ _ _ _ ih => simp only [shF, Fr.len, ih]
theorem shF_nodes (V : Int) (f : Fr) : nodes (shF V f) = nodes f := by
  induction f with
  | nil => rfl
  | cons _ _ _ _ _ ihk ih => simp only [shF, nodes, ih, ihk]
theorem shF_drop (V : Int) (f : Fr) : ∀ j, (shF V f).drop j = shF V (f.drop j) := by
  induction f with
  | nil => intro j; cases j <;> rfl
  | cons _ _ _ _ _ _ ih =>
    intro j
    cases j with
    | zero => rfl
    | succ j => exact ih j
theorem shapeT_small {k n : Int} {s : ByteArray} {f : Fr} {d : Int} (h : shapeT k n s f d = true) : Fits k n s ∧ (-999 ≤ n ∧ n ≤ 999) := by
  have hk := shapeT_kind h
  by_cases h3 : k = 3
  · subst h3
    obtain ⟨rfl, hnm, _, _⟩ := shapeT_struct h
    exact ⟨⟨by omega, by omega, by have := nameB_size hnm; unfold maxLen; omega⟩, by omega⟩
  · obtain ⟨rfl, _, hn⟩ := shapeT_leaf h h3
    exact ⟨⟨by omega, by omega, by unfold maxLen; simp [ByteArray.size]⟩, hn⟩
theorem shN_fits {k n V : Int} {s : ByteArray} {f : Fr} {d : Int} (h : shapeT k n s f d = true) (hV : -25 ≤ V ∧ V ≤ 25) : Fits k (shN V k n) s := by
  obtain ⟨⟨h1, h2, h3⟩, h4⟩ := shapeT_small h
  refine ⟨h1, ?_, h3⟩
  unfold shN
  split <;> omega

end Go.Proofs.YtkgihpddjppmdaaDoor

/- impl's nodes in memory, by the set of their blocks. No condition. -/
namespace Go.Proofs.YtkgihpddjppmdaaDoor
open Go.RowKit

/-- The nodes of the row f lie in block b from cell o on; what they lead to lies in blocks of the set P. -/
def NdRowIn (w : World) (P : Nat → Prop) : Fr → Nat → Nat → Prop
  | .nil, _, _ => True
  | .cons k n s kids rest, b, o => (∃ v, w.cell? ⟨b, o, none⟩ = some v ∧
      ((k = 1 ∧ v = .iface 48 (.int .i64 n)) ∨ (k = 2 ∧ v = .iface 93 (.int .i64 n)) ∨
        (k = 3 ∧ ∃ (A : Option Addr) (cap : Nat), v = .iface 84 (.agg #[.string s, .slice A kids.len cap]) ∧ kids.len ≤ cap ∧ cap ≤ maxLen ∧ (0 < kids.len → ∃ b', A = some ⟨b', 0, none⟩ ∧ P b' ∧ NdRowIn w P kids b' 0)))) ∧ NdRowIn w P rest b (o + 1)
def NdSIn (w : World) (P : Nat → Prop) (f : Fr) (A : Option Addr) (cap : Nat) : Prop :=
  f.len ≤ cap ∧ cap ≤ maxLen ∧ (0 < f.len → ∃ b', A = some ⟨b', 0, none⟩ ∧ P b' ∧ NdRowIn w P f b' 0)
def NdVIn (w : World) (P : Nat → Prop) (k n : Int) (s : ByteArray) (kids : Fr) (v : Value) : Prop :=
  (k = 1 ∧ v = .iface 48 (.int .i64 n)) ∨ (k = 2 ∧ v = .iface 93 (.int .i64 n)) ∨
    (k = 3 ∧ ∃ (A : Option Addr) (cap : Nat), v = .iface 84 (.agg #[.string s, .slice A kids.len cap]) ∧ NdSIn w P kids A cap)
section
variable {w w' : World} {P P' : Nat → Prop}
theorem NdRowIn.keep (hk : ∀ p : Addr, P p.block → w'.cell? p = w.cell? p) (hP : ∀ x, P x → P' x) (f : Fr) :
    ∀ b o, (∀ j, j < f.len → w'.cell? ⟨b, o + j, none⟩ = w.cell? ⟨b, o + j, none⟩) → NdRowIn w P f b o → NdRowIn w' P' f b o := by
  induction f with
  | nil => intro b o _ _; trivial
  | cons k n s kids rest ihk ihr =>
    rintro b o hc ⟨⟨v, hv, hw⟩, hr⟩
    simp only [Fr.len] at hc
    refine ⟨⟨v, (hc 0 (by omega)).trans hv, ?_⟩, ihr b (o + 1) (fun j hj => ?_) hr⟩
    · rcases hw with h | h | ⟨h1, A, cap, h2, h3, h4, h5⟩
      · exact .inl h
      · exact .inr (.inl h)
      · refine .inr (.inr ⟨h1, A, cap, h2, h3, h4, fun hp => ?_⟩)
        obtain ⟨b', e, hb, hrow⟩ := h5 hp
        exact ⟨b', e, hP _ hb, ihk b' 0 (fun j _ => hk _ hb) hrow⟩
    · have := hc (j + 1) (by omega)
      rwa [show o + (j + 1) = o + 1 + j by omega] at this
theorem NdSIn.keep {f : Fr} {A : Option Addr} {cap : Nat} (h : NdSIn w P f A cap) (hk : ∀ p : Addr, P p.block → w'.cell? p = w.cell? p) (hP : ∀ x, P x → P' x) : NdSIn w' P' f A cap :=
  ⟨h.1, h.2.1, fun hp => by
    obtain ⟨b', e, hb, hrow⟩ := h.2.2 hp
    exact ⟨b', e, hP _ hb, NdRowIn.keep hk hP f b' 0 (fun j _ => hk _ hb) hrow⟩⟩
theorem NdVIn.keep {k n : Int} {s : ByteArray} {kids : Fr} {v : Value} (h : NdVIn w P k n s kids v) (hk : ∀ p : Addr, P p.block → w'.cell? p = w.cell? p) (hP : ∀ x, P x → P' x) : NdVIn w' P' k n s kids v := by
  rcases h with h | h | ⟨h1, A, cap, h2, h3⟩
  · exact .inl h
  · exact .inr (.inl h)
  · exact .inr (.inr ⟨h1, A, cap, h2, h3.keep hk hP⟩)
theorem NdVIn.iface {k n : Int} {s : ByteArray} {kids : Fr} {v : Value} (h : NdVIn w P k n s kids v) : ∃ T x, v = .iface T x := by
  rcases h with ⟨_, rfl⟩ | ⟨_, rfl⟩ | ⟨_, A, cap, rfl, _⟩
  · exact ⟨_, _, rfl⟩
  · exact ⟨_, _, rfl⟩
  · exact ⟨_, _, rfl⟩
theorem NdRowIn.snoc (f : Fr) {k n : Int} {s : ByteArray} {kids : Fr} {v : Value} (hv : NdVIn w P k n s kids v) :
    ∀ b o, NdRowIn w P f b o → w.cell? ⟨b, o + f.len, none⟩ = some v → NdRowIn w P (f.app (.cons k n s kids .nil)) b o := by
  induction f with
  | nil =>
    intro b o _ hc
    refine ⟨⟨v, hc, ?_⟩, trivial⟩
    rcases hv with h | h | ⟨h1, A, cap, h2, h3⟩
    · exact .inl h
    · exact .inr (.inl h)
    · exact .inr (.inr ⟨h1, A, cap, h2, h3.1, h3.2.1, h3.2.2⟩)
  | cons k' n' s' kids' rest' _ ihr =>
    intro b o h hc
    refine ⟨h.1, ihr b (o + 1) h.2 ?_⟩
    rw [← hc]
    simp only [Fr.len]
    rw [show o + (rest'.len + 1) = o + 1 + rest'.len by omega]
/-- By ranges. -/
theorem NdRowIn.range {lo hi : Nat} (hP : ∀ x, P x → lo ≤ x ∧ x < hi) (f : Fr) : ∀ b o, NdRowIn w P f b o → NdRow w lo hi f b o := by
  induction f with
  | nil => intro b o _; trivial
  | cons k n s kids rest ihk ihr =>
    rintro b o ⟨⟨v, hv, hw⟩, hr⟩
    refine ⟨⟨v, hv, ?_⟩, ihr b (o + 1) hr⟩
    rcases hw with h | h | ⟨h1, A, cap, h2, h3, h4, h5⟩
    · exact .inl h
    · exact .inr (.inl h)
    · refine .inr (.inr ⟨h1, A, cap, h2, h3, h4, fun hp => ?_⟩)
      obtain ⟨b', e, hb, hrow⟩ := h5 hp
      exact ⟨b', e, (hP _ hb).1, (hP _ hb).2, ihk b' 0 hrow⟩
theorem NdVIn.range {lo hi : Nat} (hP : ∀ x, P x → lo ≤ x ∧ x < hi) {k n : Int} {s : ByteArray} {kids : Fr} {v : Value} (h : NdVIn w P k n s kids v) : NdV w lo hi k n s kids v := by
  rcases h with h | h | ⟨h1, A, cap, h2, h3, h4, h5⟩
  · exact .inl h
  · exact .inr (.inl h)
  · refine .inr (.inr ⟨h1, A, cap, h2, h3, h4, fun hp => ?_⟩)
    obtain ⟨b', e, hb, hrow⟩ := h5 hp
    exact ⟨b', e, (hP _ hb).1, (hP _ hb).2, NdRowIn.range hP kids b' 0 hrow⟩
/-- One node is put behind those that are there. -/
theorem NdRowIn.put {w0 : World} {f : Fr} {j g : Nat} {k n : Int} {s : ByteArray} {kids rest : Fr} {v u0 : Value} {Q : Nat → Prop} (hd : f.drop j = .cons k n s kids rest) (hj : j ≤ f.len) (hrow : NdRowIn w0 P (f.take j) g 0) (hv : NdVIn w Q k n s kids v)
    (hk : ∀ p : Addr, P p.block → w.cell? p = w0.cell? p) (hc : ∀ i, w.cell? ⟨g, i, none⟩ = w0.cell? ⟨g, i, none⟩) (hcell : w.cell? ⟨g, j, none⟩ = some u0) (hP : ∀ x, P x → P' x) (hQ : ∀ x, Q x → P' x) (hg : ¬ P g ∧ ¬ Q g) :
    NdRowIn (w.setCell ⟨g, j, none⟩ v) P' (f.take (j + 1)) g 0 := by
  have hlen : (f.take j).len = j := Fr.len_take j f hj
  have far : ∀ p : Addr, p.block ≠ g → (w.setCell ⟨g, j, none⟩ v).cell? p = w.cell? p := fun p hp => World.cell?_of_block (heap_setCell_other w _ p.block v hp)
  rw [Fr.take_succ j f hd]
  refine NdRowIn.snoc (f.take j) (hv.keep (fun p hp => far p fun e => hg.2 (e ▸ hp)) hQ) g 0 ?_ ?_
  · refine NdRowIn.keep (fun p hp => (far p fun e => hg.1 (e ▸ hp)).trans (hk p hp)) hP (f.take j) g 0 (fun i hi => ?_) hrow
    rw [hlen] at hi
    rw [← hc]
    exact World.cell?_setCell_other w _ _ _ (fun e => by injection e with _ e _; omega)
  · rw [hlen, Nat.zero_add]
    exact World.cell?_setCell_same w _ _ hcell
end
end Go.Proofs.YtkgihpddjppmdaaDoor

/- impl.replaceVars, for whatever function it is handed. Condition: the nodes lie in memory and are well-formed; the function meets its contract. -/
namespace Go.Proofs.YtkgihpddjppmdaaDoor
open Go.RowKit

section
variable {α : Type} (nx : α → Int → α) (out : α → Int → Nd)
/-- The state behind a row. -/
def stF : α → Fr → α
  | a, .nil => a
  | a, .cons k n _ kids rest => stF (if k = 1 then nx a n else stF a kids) rest
/-- The row with its variables replaced. -/
def rpF : α → Fr → Fr
  | _, .nil => .nil
  | a, .cons k n s kids rest => if k = 1 then .cons (out a n).k (out a n).n (out a n).s (out a n).f (rpF (nx a n) rest) else .cons k n s (rpF a kids) (rpF (stF nx a kids) rest)
def stT (a : α) (k n : Int) (f : Fr) : α := if k = 1 then nx a n else stF nx a f
def rpT (a : α) (k n : Int) (s : ByteArray) (f : Fr) : Nd := if k = 1 then out a n else ⟨k, n, s, rpF nx out a f⟩
theorem rpF_cons (a : α) (k n : Int) (s : ByteArray) (kids rest : Fr) : rpF nx out a (.cons k n s kids rest) = .cons (rpT nx out a k n s kids).k (rpT nx out a k n s kids).n (rpT nx out a k n s kids).s (rpT nx out a k n s kids).f (rpF nx out (stT nx a k n kids) rest) := by
  simp only [rpF, rpT, stT]
  split <;> rfl
theorem stF_cons (a : α) (k n : Int) (s : ByteArray) (kids rest : Fr) : stF nx a (.cons k n s kids rest) = stF nx (stT nx a k n kids) rest := rfl
theorem rpF_len (f : Fr) : ∀ a, (rpF nx out a f).len = f.len := by
  induction f with
  | nil => intro a; rfl
  | cons k n s kids rest _ ih => intro a; rw [rpF_cons]; simp only [Fr.len, ih]
theorem stF_take (i : Nat) : ∀ (f : Fr) (a : α) {k n : Int} {s : ByteArray} {kids rest : Fr}, f.drop i = .cons k n s kids rest → stF nx a (f.take (i + 1)) = stT nx (stF nx a (f.take i)) k n kids := by
  induction i with
  | zero =>
    intro f a k n s kids rest h
    cases f with
    | nil => cases h
    | cons k' n' s' kids' rest' =>
      injection h with h1 h2 h3 h4 h5
      subst h1 h2 h3 h4 h5
      simp only [Fr.take, stF, stT]
  | succ i ih =>
    intro f a k n s kids rest h
    cases f with
    | nil => cases h
    | cons k' n' s' kids' rest' => exact ih rest' _ h
theorem rpF_take (i : Nat) : ∀ (f : Fr) (a : α) {k n : Int} {s : ByteArray} {kids rest : Fr}, f.drop i = .cons k n s kids rest →
    rpF nx out a (f.take (i + 1)) = (rpF nx out a (f.take i)).app (.cons (rpT nx out (stF nx a (f.take i)) k n s kids).k (rpT nx out (stF nx a (f.take i)) k n s kids).n (rpT nx out (stF nx a (f.take i)) k n s kids).s (rpT nx out (stF nx a (f.take i)) k n s kids).f .nil) := by
  induction i with
  | zero =>
    intro f a k n s kids rest h
    cases f with
    | nil => cases h
    | cons k' n' s' kids' rest' =>
      injection h with h1 h2 h3 h4 h5
      subst h1 h2 h3 h4 h5
      simp only [Fr.take, rpF_cons]
      rfl
  | succ i ih =>
    intro f a k n s kids rest h
    cases f with
    | nil => cases h
    | cons k' n' s' kids' rest' =>
      show rpF nx out a (.cons k' n' s' kids' (rest'.take (i + 1))) = _
      rw [rpF_cons, ih rest' _ h]
      show _ = (rpF nx out a (.cons k' n' s' kids' (rest'.take i))).app _
      rw [rpF_cons]
      rfl
end

/-- Blocks of P0, or new ones; none of Q. -/
def Fresh3 (P0 : Nat → Prop) (n0 n1 : Nat) (Q : List Nat) (x : Nat) : Prop := (P0 x ∨ n0 ≤ x) ∧ x < n1 ∧ x ∉ Q

/-- What the handed function kf with the captured values cp is asked: I is its state's place in memory (the state a, in the blocks Q), P0 the old blocks of what it hands back. -/
structure RepC {α : Type} (kf : Nat) (fs cp : Array Value) (I : World → α → List Nat → Prop) (P0 : Nat → Prop) (B : Nat) (sz : α → Nat) (nx : α → Int → α) (out : α → Int → Nd) : Prop where
  keep : ∀ {w w' : World} {a : α} {Q L : List Nat}, I w a Q → Wrote L w w' → (∀ x ∈ L, x ∉ Q ∧ ¬ P0 x) → I w' a Q
  lt : ∀ {w : World} {a : α} {Q : List Nat}, I w a Q → ∀ x ∈ Q, x < w.heap.size
  old : ∀ x, P0 x → x < B
  len : ∀ a n, sz (nx a n) ≤ sz a + 1
  call : ∀ (a : α) (Q : List Nat) (n : Int) (w : World), I w a Q → B ≤ w.heap.size → sz a ≤ 2097152 → (0 ≤ n ∧ n ≤ 25) →
    Calls Tryd.prog kf (fs.push (.int .i64 n) ++ cp) w fun e w' => ∃ Q' v, e = .returned v ∧ I w' (nx a n) Q' ∧ Wrote Q w w' ∧ (∀ x ∈ Q', x ∈ Q ∨ w.heap.size ≤ x) ∧ NdVIn w' (Fresh3 P0 w.heap.size w'.heap.size Q') (out a n).k (out a n).n (out a n).s (out a n).f v

theorem shapeT_var {n : Int} {s : ByteArray} {f : Fr} {d : Int} (h : shapeT 1 n s f d = true) : s = ⟨#[]⟩ ∧ f = .nil ∧ (0 ≤ n ∧ n ≤ 25) := by
  have h0 := shapeT_leaf h (by omega)
  refine ⟨h0.1, h0.2.1, ?_⟩
  unfold shapeT ownB at h
  simp only [Bool.and_eq_true, Bool.or_eq_true, decide_eq_true_eq, beq_iff_eq] at h
  omega
section
variable {α : Type} {kf : Nat} {fs cp : Array Value} {I : World → α → List Nat → Prop} {P0 : Nat → Prop} {B : Nat} {sz : α → Nat} {nx : α → Int → α} {out : α → Int → Nd}

theorem RepC.size (H : RepC kf fs cp I P0 B sz nx out) (f : Fr) : ∀ a, sz (stF nx a f) ≤ sz a + nodes f := by
  induction f with
  | nil => intro a; exact Nat.le_refl _
  | cons k n s kids rest ihk ihr =>
    intro a
    simp only [stF, nodes]
    refine Nat.le_trans (ihr _) ?_
    split
    · have := H.len a n; omega
    · have := ihk a; omega
theorem RepC.sizeT (H : RepC kf fs cp I P0 B sz nx out) (a : α) (k n : Int) (f : Fr) : sz (stT nx a k n f) ≤ sz a + 1 + nodes f := by
  unfold stT
  split
  · have := H.len a n; omega
  · have := H.size f a; omega

/-- What replaceVars leaves. -/
def RpRes (I : World → α → List Nat → Prop) (P0 : Nat → Prop) (w : World) (Q : List Nat) (b : α) (m : Nd) (e : Ending) (w' : World) : Prop :=
  ∃ Q' v', e = .returned v' ∧ I w' b Q' ∧ Wrote Q w w' ∧ (∀ x ∈ Q', x ∈ Q ∨ w.heap.size ≤ x) ∧ NdVIn w' (Fresh3 P0 w.heap.size w'.heap.size Q') m.k m.n m.s m.f v'
def RpT (kf : Nat) (fs cp : Array Value) (I : World → α → List Nat → Prop) (P0 : Nat → Prop) (B : Nat) (sz : α → Nat) (nx : α → Int → α) (out : α → Int → Nd) (s : ByteArray) (f : Fr) : Prop :=
  ∀ (k n d : Int) (v : Value) (lo hi : Nat) (a : α) (Q : List Nat) (w : World), shapeT k n s f d = true → NdV w lo hi k n s f v → hi ≤ w.heap.size → (∀ x ∈ Q, hi ≤ x) → I w a Q → B ≤ w.heap.size → sz a + nodes f ≤ 2097152 →
  Calls Tryd.prog 17 #[v, .func (.func kf) fs cp] w fun e w' => RpRes I P0 w Q (stT nx a k n f) (rpT nx out a k n s f) e w'

/-- The loop's relation: j kids are replaced; their new row is block g. -/
def RpP (I : World → α → List Nat → Prop) (P0 : Nat → Prop) (sz : α → Nat) (nx : α → Int → α) (out : α → Int → Nd) (w : World) (Q : List Nat) (a : α) (M : Nat) (f : Fr) (hx g : Nat) (cs : Array Value) (j : Nat) (wr : World) : Prop :=
  ∃ (Qj : List Nat), I wr (stF nx a (f.take j)) Qj ∧ sz (stF nx a (f.take j)) + nodes (f.drop j) ≤ M ∧ Wrote Q w wr ∧ (∀ x ∈ Qj, x ∈ Q ∨ w.heap.size ≤ x) ∧ hx ∉ Qj ∧ g ∉ Qj ∧ Blk wr hx 84 cs ∧ (∃ cur, Blk wr g 44 cur ∧ cur.size = f.len) ∧ NdRowIn wr (Fresh3 P0 (g + 1) wr.heap.size Qj) (rpF nx out a (f.take j)) g 0

theorem RpP.step (H : RepC kf fs cp I P0 B sz nx out) {w wr w3 : World} {Q : List Nat} {a : α} {M : Nat} {f : Fr} {hx g : Nat} {cs : Array Value} {j : Nat} {Qj : List Nat} {k n : Int} {s : ByteArray} {kids : Fr}
    (hd : f.drop j = .cons k n s kids (f.drop (j + 1))) (hj : j < f.len) (hl : sz (stF nx a (f.take j)) + nodes (f.drop j) ≤ M) (hw : Wrote Q w wr) (hn : ∀ x ∈ Qj, x ∈ Q ∨ w.heap.size ≤ x) (h1 : hx ∉ Qj) (h2 : g ∉ Qj)
    (hb1 : Blk wr hx 84 cs) {cur : Array Value} (hb2 : Blk wr g 44 cur) (hcs : cur.size = f.len) (hgw : w.heap.size ≤ g) (hgx : g ≠ hx) (hB : B ≤ g)
    (hrow : NdRowIn wr (Fresh3 P0 (g + 1) wr.heap.size Qj) (rpF nx out a (f.take j)) g 0) {e : Ending}
    (hr : RpRes I P0 wr Qj (stT nx (stF nx a (f.take j)) k n kids) (rpT nx out (stF nx a (f.take j)) k n s kids) e w3) : ∃ u T z, e = .returned u ∧ u = .iface T z ∧
    RpP I P0 sz nx out w Q a M f hx g cs (j + 1) (w3.setCell ⟨g, j, none⟩ u) ∧ (∃ u', w3.cell? ⟨g, j, none⟩ = some u') ∧ w3.frozen? ⟨g, j, none⟩ = false := by
  obtain ⟨Q3, u, rfl, hI3, hw3, hn3, hnode⟩ := hr
  obtain ⟨T, z, hu⟩ := hnode.iface
  refine ⟨u, T, z, rfl, hu, ?_⟩
  have q1 := hw3.blk hb1 h1
  have q2 := hw3.blk hb2 h2
  have hx3 : ∀ x, x < wr.heap.size → x ∉ Qj → x ∉ Q3 := fun x hx h e => by
    rcases hn3 x e with h' | h'
    · exact h h'
    · omega
  have hvl := H.sizeT (stF nx a (f.take j)) k n kids
  have e1 : nodes (f.drop j) = 1 + nodes kids + nodes (f.drop (j + 1)) := by rw [hd]; rfl
  have g3 := hx3 g hb2.lt h2
  have gP : ¬ P0 g := fun h => by have := H.old g h; omega
  have hgl := hb2.lt
  have hs3 := hw3.size
  have hsz : (w3.setCell ⟨g, j, none⟩ u).heap.size = w3.heap.size := by simp [World.setCell]
  have hW : Wrote [g] w3 (w3.setCell ⟨g, j, none⟩ u) := (Wrote.refl _ _).set_ (.inl (by simp)) u
  refine ⟨⟨Q3, ?_, ?_, ?_, ?_, hx3 hx hb1.lt h1, g3, q1.far (p := ⟨g, j, none⟩) (fun e => hgx e.symm) u, ⟨_, q2.set_ j u, by simpa using hcs⟩, ?_⟩, ⟨_, (q2.cell j).trans (Array.getElem?_eq_getElem (by omega))⟩, q2.frozen j⟩
  · rw [stF_take nx j f a hd]
    exact H.keep hI3 hW fun x hx => by simp at hx; subst hx; exact ⟨g3, gP⟩
  · rw [stF_take nx j f a hd]; omega
  · refine (hw.more_new hw3 fun x hx => ?_).set_ (.inr hgw) u
    exact hn x hx
  · intro x hx
    rcases hn3 x hx with h | h
    · exact hn x h
    · exact .inr (Nat.le_trans hw.size h)
  · rw [hsz, rpF_take nx out j f a hd]
    have hlen : (rpF nx out a (f.take j)).len = j := by rw [rpF_len]; exact Fr.len_take j f (by omega)
    have far : ∀ p : Addr, p.block ≠ g → (w3.setCell ⟨g, j, none⟩ u).cell? p = w3.cell? p := fun p hp => World.cell?_of_block (heap_setCell_other w3 _ p.block u hp)
    have v1 : NdVIn (w3.setCell ⟨g, j, none⟩ u) (Fresh3 P0 (g + 1) w3.heap.size Q3) (rpT nx out (stF nx a (f.take j)) k n s kids).k (rpT nx out (stF nx a (f.take j)) k n s kids).n (rpT nx out (stF nx a (f.take j)) k n s kids).s (rpT nx out (stF nx a (f.take j)) k n s kids).f u := by
      refine hnode.keep (fun p hp => far p fun e => ?_) fun x hx => ⟨?_, hx.2⟩
      · rcases hp.1 with h | h
        · exact gP (e ▸ h)
        · omega
      · rcases hx.1 with h | h
        · exact .inl h
        · exact .inr (by omega)
    have v2 : NdRowIn (w3.setCell ⟨g, j, none⟩ u) (Fresh3 P0 (g + 1) w3.heap.size Q3) (rpF nx out a (f.take j)) g 0 := by
      refine NdRowIn.keep (fun p hp => ?_) (fun x hx => ⟨hx.1, by have := hx.2.1; omega, hx3 x hx.2.1 hx.2.2⟩) (rpF nx out a (f.take j)) g 0 (fun i hi => ?_) hrow
      · have hne : p.block ≠ g := fun e => by
          rcases hp.1 with h | h
          · exact gP (e ▸ h)
          · omega
        exact (far p hne).trans (hw3.cell hp.2.1 hp.2.2)
      · rw [hlen] at hi
        rw [World.cell?_setCell_other w3 _ _ _ (fun e => by injection e with _ e _; omega), q2.cell, hb2.cell]
    refine NdRowIn.snoc _ v1 g 0 v2 ?_
    rw [hlen, Nat.zero_add]
    exact World.cell?_setCell_same w3 _ _ ((q2.cell j).trans (Array.getElem?_eq_getElem (by omega)))

set_option maxRecDepth 100000 in
set_option maxHeartbeats 2000000 in
theorem rpT_of (ef : ∀ args w, (callFunc kf args).run Tryd.prog w = .ok (.enter kf args) w) (H : RepC kf fs cp I P0 B sz nx out) (s : ByteArray) (f : Fr) (h : ∀ i k n s kids rest, f.drop i = .cons k n s kids rest → RpT kf fs cp I P0 B sz nx out s kids) : RpT kf fs cp I P0 B sz nx out s f := by
  intro k n d v lo hi a Q w hs hv hh hQ hI hB hsz
  rcases hv with ⟨rfl, rfl⟩ | ⟨rfl, rfl⟩ | ⟨rfl, A, cap, rfl, hk⟩
  · obtain ⟨rfl, rfl, hn⟩ := shapeT_var hs
    have C1 := H.call a Q n w hI hB (by simp only [nodes] at hsz; omega) hn
    have H1 := Lib.hid C1
    clear h hs hI C1
    go_enter Tryd.func17, Tryd.ntmps17
    go_wp2_with fail
    refine H1.out.mono ?_
    rintro e w2 ⟨Q2, v2, rfl, g1, g2, g3, g4⟩
    obtain ⟨T2, z2, rfl⟩ := g4.iface
    have HR : Hid (RpRes I P0 w Q (stT nx a 1 n .nil) (rpT nx out a 1 n ⟨#[]⟩ .nil) (.returned (.iface T2 z2)) w2) := Lib.hid ⟨Q2, _, rfl, g1, g2, g3, g4⟩
    clear g1 g2 g3 g4 H1
    go_wp2_with fail
    go_ret
    exact HR.out
  · obtain ⟨rfl, rfl, hn⟩ := shapeT_leaf hs (by omega)
    have HR : Hid (RpRes I P0 w Q (stT nx a 2 n .nil) (rpT nx out a 2 n ⟨#[]⟩ .nil) (.returned (.iface 93 (.int .i64 n))) w) := Lib.hid ⟨Q, _, rfl, hI, .refl _ _, fun x h => .inl h, .inr (.inl ⟨rfl, rfl⟩)⟩
    clear h hs hI
    go_enter Tryd.func17, Tryd.ntmps17
    go_wp2_with fail
    go_ret
    exact HR.out
  · obtain ⟨rfl, hname, hlen, hsf⟩ := shapeT_struct hs
    have hl := hk.1
    have hm := hk.2.1
    unfold maxLen at hm
    have hqlt := H.lt hI
    have HQ := Lib.hid hQ
    have HST : Hid (∀ w3 xs, w3.ownsRow (w.heap.size + 1) 44 1 (.slice (some ⟨w.heap.size + 1, 0, none⟩) f.len f.len) f.len xs → (w.alloc (.cells #[.string s, .slice A f.len cap] 84)).grownBy w3 none →
        RpP I P0 sz nx out w Q a (sz a + nodes f) f w.heap.size (w.heap.size + 1) #[.string s, .slice A f.len cap] 0 w3 ∧ w3.cell? ⟨w.heap.size, 1, none⟩ = some (.slice A f.len cap)) := Lib.hid fun w3 xs ho hg => by
      have hb3 : Below w.heap.size w w3 := by
        have h1 : Below w.heap.size w (w.alloc (.cells #[.string s, .slice A f.len cap] 84)) := (Below.refl _ _).alloc (Nat.le_refl _) _
        exact h1.grown hg h1.size fun g hg => by cases hg
      have hq : Blk w3 w.heap.size 84 #[.string s, .slice A f.len cap] := (Blk.new w _ _).keep (hg.block _ (by simp) (by simp))
      have hcur : ∃ cur, Blk w3 (w.heap.size + 1) 44 cur ∧ cur.size = f.len := by
        rcases ho.2 with ⟨h', _⟩ | ⟨g', cap', cur, h', _, hb, _, _, hs, _⟩
        · simp at h'
        · simp only [Value.slice.injEq, Option.some.injEq, Addr.mk.injEq, and_true, true_and] at h'
          obtain ⟨rfl, rfl⟩ := h'
          exact ⟨cur, hb, by simpa using hs⟩
      have e0 : f.take 0 = .nil := by cases f <;> rfl
      refine ⟨⟨Q, ?_, ?_, .of_below hb3 _, fun x h => .inl h, fun e => by have := hqlt _ e; omega, fun e => by have := hqlt _ e; omega, hq, hcur, ?_⟩, hq.cell 1⟩
      · rw [e0]; exact H.keep hI (.of_below hb3 []) fun x hx => by simp at hx
      · rw [e0]; exact Nat.le_refl _
      · rw [e0]; trivial
    have HQL := Lib.hid hqlt
    have HK := Lib.hid hk
    have HH := Lib.hid h
    have HSF := Lib.hid hsf
    have HSZ := Lib.hid hsz
    have HRC := Lib.hid H
    have HFN : Hid (∀ (Qj : List Nat) (j : Nat) wr, f.len = j → I wr (stF nx a (f.take j)) Qj → Wrote Q w wr → (∀ x ∈ Qj, x ∈ Q ∨ w.heap.size ≤ x) → w.heap.size + 1 ∉ Qj → w.heap.size + 1 < wr.heap.size → NdRowIn wr (Fresh3 P0 (w.heap.size + 1 + 1) wr.heap.size Qj) (rpF nx out a (f.take j)) (w.heap.size + 1) 0 →
        RpRes I P0 w Q (stT nx a 3 0 f) (rpT nx out a 3 0 s f) (.returned (.iface 84 (.agg #[.string s, .slice (some ⟨w.heap.size + 1, 0, none⟩) j j]))) wr) := Lib.hid fun Qj j wr hj h1 h2 h3 h4 h5 h6 => by
      subst hj
      rw [Fr.take_len] at h1 h6
      have e1 : stT nx a 3 0 f = stF nx a f := by unfold stT; rw [if_neg (by omega)]
      have e2 : rpT nx out a 3 0 s f = ⟨3, 0, s, rpF nx out a f⟩ := by unfold rpT; rw [if_neg (by omega)]
      rw [e1, e2]
      refine ⟨Qj, _, rfl, h1, h2, h3, .inr (.inr ⟨rfl, some ⟨w.heap.size + 1, 0, none⟩, f.len, by rw [rpF_len], by rw [rpF_len]; exact Nat.le_refl _, by unfold maxLen; omega, fun _ => ⟨w.heap.size + 1, rfl, ⟨.inr (by omega), h5, h4⟩, ?_⟩⟩)⟩
      exact NdRowIn.keep (fun _ _ => rfl) (fun x hx => ⟨by rcases hx.1 with h | h; exact .inl h; exact .inr (by omega), hx.2⟩) _ _ 0 (fun _ _ => rfl) h6
    generalize hn : f.len = len at *
    have HN := Lib.hid hn
    clear hk h hs hI hname hsf hn hqlt hsz hQ H
    obtain ⟨i0, hi0, hz0, hz1, hz2⟩ := info_parts infoN
    go_enter Tryd.func17, Tryd.ntmps17
    go_wp2_with (at_make; go_must (refine wpList_make_full _ rfl _ _ 82 rfl (w.heap.size + 1) 44 i0 _ 1 Tryd.underlying82 hi0 hz0 hz1 .i64 .i64 _ _ len rfl rfl rfl rfl (by rw [hz2]; omega) (by unfold maxLen; omega) (by simp) ?_); intro w3 hown hgrow; rw [show (w.alloc (.cells #[.string s, .slice A len cap] 84)).heap.size = w.heap.size + 1 by simp] at hown; obtain ⟨hp, x1⟩ := HST.out w3 _ hown hgrow; have HP := Lib.hid hp; clear hp hown hgrow)
    have HWS : Hid (w.heap.size < w3.heap.size) := Lib.hid (by obtain ⟨_, _, _, _, _, _, _, hb, _, _⟩ := HP.out; exact hb.lt)
    clear hi0 hz0 hz1 hz2 HST
    go_loopw [27] (fun i wr => ∃ (j : Nat), j ≤ len ∧ i = .int .i64 j ∧ shapeF (f.drop j) (d - 1) = true ∧ RpP I P0 sz nx out w Q a (sz a + nodes f) f w.heap.size (w.heap.size + 1) #[.string s, .slice A len cap] j wr) (fun i _ => len - (intOf i).toNat)
    case atStart => exact ⟨0, Nat.zero_le _, rfl, HSF.out, HP.out⟩
    case round =>
      obtain ⟨j, hj, rfl, hsh, hp⟩ := hrel
      obtain ⟨Qj, hIj, hla, hw, hnw, hh1, hh2, hq1, ⟨cur, hq2, hcs⟩, hrw⟩ := hp
      by_cases hlt : j < len
      · obtain ⟨kk, nn, s', kids, hd⟩ := Fr.drop_cons j f (by rw [HN.out]; exact hlt)
        obtain ⟨b, rfl, hlb, hbb, hrow⟩ := HK.out.2.2 (by rw [HN.out]; omega)
        obtain ⟨vv, hcell, hnv⟩ := hrow.elem hd
        rw [Nat.zero_add] at hcell
        rw [hd, shapeF_cons, Bool.and_eq_true] at hsh
        have hkeep : ∀ p : Addr, p.block < hi → wr.cell? p = w.cell? p := fun p hp => hw.cell (by omega) fun e => by have := HQ.out _ e; omega
        have k0 := (hkeep ⟨b, j, none⟩ hbb).trans hcell
        have hnv' := hnv.keep (fun p _ hp => hkeep p hp) (Nat.le_refl _) (Nat.le_refl _)
        have e1 : nodes (f.drop j) = 1 + nodes kids + nodes (f.drop (j + 1)) := by rw [hd]; rfl
        have C1 := HH.out _ _ _ _ _ _ hd kk nn (d - 1) vv lo hi (stF nx a (f.take j)) Qj wr hsh.1 hnv' (Nat.le_trans hh hw.size) (fun x hx => by
          rcases hnw x hx with h | h
          · exact HQ.out x h
          · omega) hIj (Nat.le_trans hB hw.size) (by have := HSZ.out; omega)
        have STEP := fun (w3 : World) (e : Ending) hr => RpP.step HRC.out (w3 := w3) (e := e) hd (by rw [HN.out]; exact hlt) hla hw hnw hh1 hh2 hq1 hq2 hcs (by omega) (by omega) (by omega) hrw hr
        obtain ⟨T1, z1, rfl⟩ := hnv.iface
        have H1 := Lib.hid C1
        have HSTEP := Lib.hid STEP
        have HS2 := Lib.hid hsh.2
        clear C1 STEP hsh hIj hla hw hnw hh1 hh2 hq1 hq2 hcs hrw hd hrow hcell hnv hnv' hkeep e1
        go_wp2_with fail
        refine H1.out.mono ?_
        rintro e w4 h2
        obtain ⟨u, T2, z2, rfl, rfl, hst, ⟨u', y1⟩, yf⟩ := HSTEP.out w4 e h2
        have HNX := Lib.hid hst
        clear h2 hst
        go_wp2_with fail
        go_roundw
        case rel => exact ⟨j + 1, by omega, by go_num, HS2.out, HNX.out⟩
        case measure => simp [intOf]; omega
      · obtain rfl : j = len := by omega
        have HF := Lib.hid (HFN.out Qj j wr rfl hIj hw hnw hh2 hq2.lt hrw)
        have a0 := hq1.cell 0
        simp only [List.getElem?_toArray, List.getElem?_cons_zero] at a0
        clear hIj hla hw hnw hq1 hq2 hcs hsh hh1 hh2 hrw
        go_wp2_with fail
        go_ret
        exact HF.out
theorem rp_all (ef : ∀ args w, (callFunc kf args).run Tryd.prog w = .ok (.enter kf args) w) (H : RepC kf fs cp I P0 B sz nx out) (N : Nat) : ∀ (s : ByteArray) (f : Fr), f.size ≤ N → RpT kf fs cp I P0 B sz nx out s f := by
  induction N with
  | zero =>
    intro s f hf
    refine rpT_of ef H s f fun i k n s kids rest hd => ?_
    have h1 := Fr.size_drop i f
    rw [hd] at h1
    simp only [Fr.size] at h1
    omega
  | succ N ih =>
    intro s f hf
    refine rpT_of ef H s f fun i k n s kids rest hd => ih s kids ?_
    have h1 := Fr.size_drop i f
    rw [hd] at h1
    simp only [Fr.size] at h1
    omega
/-- impl.replaceVars. -/
theorem rpT_any (ef : ∀ args w, (callFunc kf args).run Tryd.prog w = .ok (.enter kf args) w) (H : RepC kf fs cp I P0 B sz nx out) (s : ByteArray) (f : Fr) : RpT kf fs cp I P0 B sz nx out s f := rp_all ef H f.size s f (Nat.le_refl _)
end
end Go.Proofs.YtkgihpddjppmdaaDoor
