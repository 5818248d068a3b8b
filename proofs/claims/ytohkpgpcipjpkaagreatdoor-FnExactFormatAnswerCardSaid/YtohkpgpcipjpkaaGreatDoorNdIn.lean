/- impl's nodes in memory, by the set of their blocks. No condition. -/
import Derived.Test.YtohkpgpcipjpkaaGreatDoorNode
import Derived.Test.YtohkpgpcipjpkaaGreatDoorRen
namespace Go.Proofs.YtohkpgpcipjpkaaGreatDoor
open Go.RowKit

/-- The nodes of the row f lie in block b from cell o on; what they lead to lies in blocks of the set P. -/
def NdRowIn (w : World) (P : Nat → Prop) : Fr → Nat → Nat → Prop
  | .nil, _, _ => True
  | .cons k n s kids rest, b, o => (∃ v, w.cell? ⟨b, o, none⟩ = some v ∧
      ((k = 1 ∧ v = .iface 63 (.int .i64 n)) ∨ (k = 2 ∧ v = .iface 108 (.int .i64 n)) ∨
        (k = 3 ∧ ∃ (A : Option Addr) (cap : Nat), v = .iface 78 (.agg #[.string s, .slice A kids.len cap]) ∧ kids.len ≤ cap ∧ cap ≤ maxLen ∧ (0 < kids.len → ∃ b', A = some ⟨b', 0, none⟩ ∧ P b' ∧ NdRowIn w P kids b' 0)))) ∧ NdRowIn w P rest b (o + 1)
def NdSIn (w : World) (P : Nat → Prop) (f : Fr) (A : Option Addr) (cap : Nat) : Prop :=
  f.len ≤ cap ∧ cap ≤ maxLen ∧ (0 < f.len → ∃ b', A = some ⟨b', 0, none⟩ ∧ P b' ∧ NdRowIn w P f b' 0)
def NdVIn (w : World) (P : Nat → Prop) (k n : Int) (s : ByteArray) (kids : Fr) (v : Value) : Prop :=
  (k = 1 ∧ v = .iface 63 (.int .i64 n)) ∨ (k = 2 ∧ v = .iface 108 (.int .i64 n)) ∨
    (k = 3 ∧ ∃ (A : Option Addr) (cap : Nat), v = .iface 78 (.agg #[.string s, .slice A kids.len cap]) ∧ NdSIn w P kids A cap)
section
variable {w w' : World} {P P' : Nat → Prop}
theorem NdRowIn.keep (hk : ∀ p : Addr, P p.block → w'.cell? p = w.cell? p) (hP : ∀ x, P x → P' x) (f : Fr) :
    ∀ b o, (∀ j, j < f.len → w'.cell? ⟨b, o + j, none⟩ = w.cell? ⟨b, o + j, none⟩) → NdRowIn w P f b o → NdRowIn w' P' f b o := by
  induction f with
  | nil => intro b o _ _; trivial
  | cons k n s kids rest ihk ihr =>
    rintro b o hc ⟨⟨v, hv, hw⟩, hr⟩
    simp only [Fr.len] at hc
    refine ⟨⟨v, (hc 0 (by omega)).trans hv, ?_⟩, ihr b (o + 1) (fun j hj => ?_) hr⟩
    · rcases hw with h | h | ⟨h1, A, cap, h2, h3, h4, h5⟩
      · exact .inl h
      · exact .inr (.inl h)
      · refine .inr (.inr ⟨h1, A, cap, h2, h3, h4, fun hp => ?_⟩)
        obtain ⟨b', e, hb, hrow⟩ := h5 hp
        exact ⟨b', e, hP _ hb, ihk b' 0 (fun j _ => hk _ hb) hrow⟩
    · have := hc (j + 1) (by omega)
      rwa [show o + (j + 1) = o + 1 + j by omega] at this
theorem NdSIn.keep {f : Fr} {A : Option Addr} {cap : Nat} (h : NdSIn w P f A cap) (hk : ∀ p : Addr, P p.block → w'.cell? p = w.cell? p) (hP : ∀ x, P x → P' x) : NdSIn w' P' f A cap :=
  ⟨h.1, h.2.1, fun hp => by
    obtain ⟨b', e, hb, hrow⟩ := h.2.2 hp
    exact ⟨b', e, hP _ hb, NdRowIn.keep hk hP f b' 0 (fun j _ => hk _ hb) hrow⟩⟩
theorem NdVIn.keep {k n : Int} {s : ByteArray} {kids : Fr} {v : Value} (h : NdVIn w P k n s kids v) (hk : ∀ p : Addr, P p.block → w'.cell? p = w.cell? p) (hP : ∀ x, P x → P' x) : NdVIn w' P' k n s kids v := by
  rcases h with h | h | ⟨h1, A, cap, h2, h3⟩
  · exact .inl h
  · exact .inr (.inl h)
  · exact .inr (.inr ⟨h1, A, cap, h2, h3.keep hk hP⟩)
theorem NdVIn.iface {k n : Int} {s : ByteArray} {kids : Fr} {v : Value} (h : NdVIn w P k n s kids v) : ∃ T x, v = .iface T x := by
  rcases h with ⟨_, rfl⟩ | ⟨_, rfl⟩ | ⟨_, A, cap, rfl, _⟩
  · exact ⟨_, _, rfl⟩
  · exact ⟨_, _, rfl⟩
  · exact ⟨_, _, rfl⟩
theorem NdRowIn.snoc (f : Fr) {k n : Int} {s : ByteArray} {kids : Fr} {v : Value} (hv : NdVIn w P k n s kids v) :
    ∀ b o, NdRowIn w P f b o → w.cell? ⟨b, o + f.len, none⟩ = some v → NdRowIn w P (f.app (.cons k n s kids .nil)) b o := by
  induction f with
  | nil =>
    intro b o _ hc
    refine ⟨⟨v, hc, ?_⟩, trivial⟩
    rcases hv with h | h | ⟨h1, A, cap, h2, h3⟩
    · exact .inl h
    · exact .inr (.inl h)
    · exact .inr (.inr ⟨h1, A, cap, h2, h3.1, h3.2.1, h3.2.2⟩)
  | cons k' n' s' kids' rest' _ ihr =>
    intro b o h hc
    refine ⟨h.1, ihr b (o + 1) h.2 ?_⟩
    rw [← hc]
    simp only [Fr.len]
    rw [show o + (rest'.len + 1) = o + 1 + rest'.len by omega]
/-- By ranges. -/
theorem NdRowIn.range {lo hi : Nat} (hP : ∀ x, P x → lo ≤ x ∧ x < hi) (f : Fr) : ∀ b o, NdRowIn w P f b o → NdRow w lo hi f b o := by
  induction f with
  | nil => intro b o _; trivial
  | cons k n s kids rest ihk ihr =>
    rintro b o ⟨⟨v, hv, hw⟩, hr⟩
    refine ⟨⟨v, hv, ?_⟩, ihr b (o + 1) hr⟩
    rcases hw with h | h | ⟨h1, A, cap, h2, h3, h4, h5⟩
    · exact .inl h
    · exact .inr (.inl h)
    · refine .inr (.inr ⟨h1, A, cap, h2, h3, h4, fun hp => ?_⟩)
      obtain ⟨b', e, hb, hrow⟩ := h5 hp
      exact ⟨b', e, (hP _ hb).1, (hP _ hb).2, ihk b' 0 hrow⟩
theorem NdVIn.range {lo hi : Nat} (hP : ∀ x, P x → lo ≤ x ∧ x < hi) {k n : Int} {s : ByteArray} {kids : Fr} {v : Value} (h : NdVIn w P k n s kids v) : NdV w lo hi k n s kids v := by
  rcases h with h | h | ⟨h1, A, cap, h2, h3, h4, h5⟩
  · exact .inl h
  · exact .inr (.inl h)
  · refine .inr (.inr ⟨h1, A, cap, h2, h3, h4, fun hp => ?_⟩)
    obtain ⟨b', e, hb, hrow⟩ := h5 hp
    exact ⟨b', e, (hP _ hb).1, (hP _ hb).2, NdRowIn.range hP kids b' 0 hrow⟩
/-- One node is put behind those that are there. -/
theorem NdRowIn.put {w0 : World} {f : Fr} {j g : Nat} {k n : Int} {s : ByteArray} {kids rest : Fr} {v u0 : Value} {Q : Nat → Prop} (hd : f.drop j = .cons k n s kids rest) (hj : j ≤ f.len) (hrow : NdRowIn w0 P (f.take j) g 0) (hv : NdVIn w Q k n s kids v)
    (hk : ∀ p : Addr, P p.block → w.cell? p = w0.cell? p) (hc : ∀ i, w.cell? ⟨g, i, none⟩ = w0.cell? ⟨g, i, none⟩) (hcell : w.cell? ⟨g, j, none⟩ = some u0) (hP : ∀ x, P x → P' x) (hQ : ∀ x, Q x → P' x) (hg : ¬ P g ∧ ¬ Q g) :
    NdRowIn (w.setCell ⟨g, j, none⟩ v) P' (f.take (j + 1)) g 0 := by
  have hlen : (f.take j).len = j := Fr.len_take j f hj
  have far : ∀ p : Addr, p.block ≠ g → (w.setCell ⟨g, j, none⟩ v).cell? p = w.cell? p := fun p hp => World.cell?_of_block (heap_setCell_other w _ p.block v hp)
  rw [Fr.take_succ j f hd]
  refine NdRowIn.snoc (f.take j) (hv.keep (fun p hp => far p fun e => hg.2 (e ▸ hp)) hQ) g 0 ?_ ?_
  · refine NdRowIn.keep (fun p hp => (far p fun e => hg.1 (e ▸ hp)).trans (hk p hp)) hP (f.take j) g 0 (fun i hi => ?_) hrow
    rw [hlen] at hi
    rw [← hc]
    exact World.cell?_setCell_other w _ _ _ (fun e => by injection e with _ e _; omega)
  · rw [hlen, Nat.zero_add]
    exact World.cell?_setCell_same w _ _ hcell
end
end Go.Proofs.YtohkpgpcipjpkaaGreatDoor
