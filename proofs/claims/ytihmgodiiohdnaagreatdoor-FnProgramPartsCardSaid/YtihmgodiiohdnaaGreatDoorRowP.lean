/- Rows of terms that a call makes by append. No condition. -/
import Derived.Test.YtihmgodiiohdnaaGreatDoorMk
import Derived.Deep.AppendLies
namespace Go.Proofs.YtihmgodiiohdnaaGreatDoor
open Go.RowKit

/-- The cells xs read as the row f, whose arguments lie in the blocks L. -/
def Desc (w : World) : Fr → List Value → List Nat → Prop
  | .nil, xs, L => xs = [] ∧ L = []
  | .cons k n s kids rest, xs, L => ∃ (A : Option Addr) (cap : Nat) (L1 L2 : List Nat) (ys : List Value), xs = .int .i64 k :: .int .i64 n :: .string s :: .slice A kids.len cap :: ys ∧ L = L1 ++ L2 ∧ Fits k n s ∧ OwnS w kids A cap L1 ∧ Desc w rest ys L2
section
variable {w w' : World}
theorem Desc.keep (f : Fr) : ∀ xs L, Desc w f xs L → (∀ x ∈ L, w'.heap[x]? = w.heap[x]?) → Desc w' f xs L := by
  induction f with
  | nil => intro xs L h _; exact h
  | cons k n s kids rest _ ihr =>
    rintro xs L ⟨A, cap, L1, L2, ys, rfl, rfl, hf, ho, hd⟩ hL
    exact ⟨A, cap, L1, L2, ys, rfl, rfl, hf, ho.keep fun x hx => hL x (by simp [hx]), ihr ys L2 hd fun x hx => hL x (by simp [hx])⟩
theorem Desc.snoc (f : Fr) {k n : Int} {s : ByteArray} {kids : Fr} {A : Option Addr} {cap : Nat} {L' : List Nat} (hf : Fits k n s) (hs : OwnS w kids A cap L') :
    ∀ xs L, Desc w f xs L → Desc w (f.app (.cons k n s kids .nil)) (xs ++ [.int .i64 k, .int .i64 n, .string s, .slice A kids.len cap]) (L ++ L') := by
  induction f with
  | nil =>
    rintro xs L ⟨rfl, rfl⟩
    exact ⟨A, cap, L', [], [], rfl, by simp, hf, hs, rfl, rfl⟩
  | cons k' n' s' kids' rest' _ ihr =>
    rintro xs L ⟨A', cap', L1, L2, ys, rfl, rfl, hf', ho, hd⟩
    exact ⟨A', cap', L1, L2 ++ L', _, rfl, by simp, hf', ho, ihr ys L2 hd⟩
theorem Desc.own {g : Nat} (f : Fr) : ∀ xs L o, Desc w f xs L → (∀ j u, xs[j]? = some u → w.cell? ⟨g, o + j, none⟩ = some u) → OwnAt w f g o L := by
  induction f with
  | nil => rintro xs L o ⟨_, h⟩ _; exact h
  | cons k n s kids rest _ ihr =>
    rintro xs L o ⟨A, cap, L1, L2, ys, rfl, rfl, hf, ho, hd⟩ hc
    refine ⟨A, cap, L1, L2, rfl, hf, ⟨hc 0 _ rfl, hc 1 _ rfl, hc 2 _ rfl, hc 3 _ rfl⟩, ho.1, ho.2.1, ho.2.2, ihr ys L2 (o + 4) hd fun j u hu => ?_⟩
    have := hc (j + 4) u (by simpa using hu)
    rwa [show o + (j + 4) = o + 4 + j by omega] at this
theorem Fr.len_app (f g : Fr) : (f.app g).len = f.len + g.len := by
  induction f with
  | nil => simp [Fr.app, Fr.len]
  | cons _ _ _ _ _ _ ih => simp only [Fr.app, Fr.len, ih]; omega

/-- The slice v reads as the row f; its block and those of the arguments are the call's own, from base on. -/
def RowP (base : Nat) (v : Value) (f : Fr) (w : World) : Prop :=
  ∃ xs L, w.ownsRow base 30 4 v f.len xs ∧ Desc w f xs L ∧ L.Nodup ∧ (∀ x ∈ L, base ≤ x ∧ x < w.heap.size) ∧ (∀ g, v.ownBlock = some g → g ∉ L)
variable {base : Nat} {v : Value} {f : Fr}
theorem RowP.nil (base : Nat) (w : World) : RowP base (.slice none 0 0) .nil w := ⟨[], [], World.ownsRow_nil w _ _ _, ⟨rfl, rfl⟩, List.nodup_nil, fun x hx => by simp at hx, fun g hg => by simp [Value.ownBlock] at hg⟩
theorem RowP.empty {w : World} (hb : base ≤ w.heap.size) : RowP base (.slice (some ⟨w.heap.size, 0, none⟩) 0 0) .nil (w.alloc (.cells #[] 30)) :=
  ⟨[], [], ⟨rfl, .inr ⟨w.heap.size, 0, #[], rfl, hb, heap_alloc_new w _, Nat.le_refl _, Nat.zero_le _, rfl, rfl⟩⟩, ⟨rfl, rfl⟩, List.nodup_nil, fun x hx => by simp at hx, fun g hg => by simp⟩
theorem RowP.below (h : RowP base v f w) (hb : Below w.heap.size w w') : RowP base v f w' := by
  obtain ⟨xs, L, ho, hd, hn, hL, hv⟩ := h
  refine ⟨xs, L, ho.kept (row := none) ⟨hb.os, hb.tape, hb.output, hb.size, fun k hk _ => hb.block k hk⟩ ?_, hd.keep f xs L fun x hx => hb.block x (hL x hx).2, hn, fun x hx => ⟨(hL x hx).1, Nat.lt_of_lt_of_le (hL x hx).2 hb.size⟩, hv⟩
  cases h : v.ownBlock with
  | none => exact .inl rfl
  | some g => exact .inr (by simp)
theorem RowP.set_ (h : RowP base v f w) {p : Addr} (hp : p.block < base) (u : Value) : RowP base v f (w.setCell p u) := by
  obtain ⟨xs, L, ho, hd, hn, hL, hv⟩ := h
  refine ⟨xs, L, ownsRow_setCell_below ho hp u, hd.keep f xs L fun x hx => heap_setCell_other w p x u (by have := (hL x hx).1; omega), hn, fun x hx => ⟨(hL x hx).1, by simpa [World.setCell] using (hL x hx).2⟩, hv⟩
theorem RowP.form (h : RowP base v f w) : ∃ A cap, v = .slice A f.len cap := by
  obtain ⟨xs, L, ho, _⟩ := h
  rcases ho.2 with ⟨rfl, h0⟩ | ⟨g, cap, cur, rfl, _⟩
  · exact ⟨none, 0, by rw [h0]⟩
  · exact ⟨_, cap, rfl⟩
theorem RowP.own {A : Option Addr} {cap : Nat} (h : RowP base (.slice A f.len cap) f w) : ∃ L, OwnS w f A cap L ∧ L.Nodup ∧ ∀ x ∈ L, base ≤ x ∧ x < w.heap.size := by
  obtain ⟨xs, L, ho, hd, hn, hL, hv⟩ := h
  rcases ho.2 with ⟨h0, h1⟩ | ⟨g, cap', cur, h0, hbg, hg, hnc, hcm, hcs, htake⟩
  · injection h0 with h0 h2 h3
    subst h0 h3
    exact ⟨[], ⟨by omega, Nat.zero_le _, .inl ⟨h1, rfl⟩⟩, List.nodup_nil, fun x hx => by simp at hx⟩
  · injection h0 with h0 h2 h3
    subst h0 h3
    have hgl := Blk.lt hg
    refine ⟨g :: L, ⟨hnc, hcm, .inr ⟨g, L, cur, rfl, rfl, hg, hcs, hd.own f xs L 0 fun j u hu => ?_⟩⟩, List.nodup_cons.2 ⟨hv g rfl, hn⟩, fun x hx => ?_⟩
    · have h3 := (World.ownsRow.cells ho (g := g) rfl) j u hu
      have e : (⟨g, 0, none⟩ : Addr).add j = ⟨g, 0 + j, none⟩ := by unfold Addr.add; split <;> simp_all
      rwa [e] at h3
    · rcases List.mem_cons.1 hx with rfl | hx
      · exact ⟨hbg, hgl⟩
      · exact hL x hx
/-- One term more: the kids were made behind w, the append stands at w2. -/
theorem RowP.step {w1 w2 w3 : World} {xs : List Value} {L : List Nat} {k n : Int} {s : ByteArray} {kids : Fr} {A : Option Addr} {cap cap' g : Nat}
    (hD : Desc w f xs L) (hN : L.Nodup) (hL : ∀ x ∈ L, base ≤ x ∧ x < w.heap.size) (hv : ∀ g, v.ownBlock = some g → g ∉ L) (hvl : ∀ g, v.ownBlock = some g → g < w.heap.size) (hbase : base ≤ w.heap.size)
    (hf : Fits k n s) (hm : Made w kids A cap w1) (hb2 : Below w1.heap.size w1 w2) (hg : w2.grownBy w3 v.ownBlock)
    (ho : w3.ownsRow base 30 4 (.slice (some ⟨g, 0, none⟩) (f.len + 1) cap') (f.len + 1) (xs ++ [.int .i64 k, .int .i64 n, .string s, .slice A kids.len cap])) (hat : v.ownBlock = some g ∨ g = w2.heap.size) :
    RowP base (.slice (some ⟨g, 0, none⟩) (f.len + 1) cap') (f.app (.cons k n s kids .nil)) w3 := by
  obtain ⟨L', how, hn', hL', hb1⟩ := hm
  have h12 : w.heap.size ≤ w2.heap.size := Nat.le_trans hb1.size hb2.size
  have far : ∀ x, x < w1.heap.size → (∀ g, v.ownBlock = some g → x ≠ g) → w3.heap[x]? = w1.heap[x]? := fun x hx hne =>
    (hg.block x (Nat.lt_of_lt_of_le hx hb2.size) fun e => hne x e.symm rfl).trans (hb2.block x hx)
  have hlen : (f.app (.cons k n s kids .nil)).len = f.len + 1 := by rw [Fr.len_app]; rfl
  refine ⟨_, L ++ L', by rw [hlen]; exact ho, Desc.snoc f hf (how.keep fun x hx => far x (hL' x hx).2 fun g hg e => ?_) xs L (hD.keep f xs L fun x hx => ?_), List.nodup_append.2 ⟨hN, hn', fun a ha b hb e => ?_⟩, fun x hx => ?_, fun g' hg' hx => ?_⟩
  · have := hvl g hg; have := (hL' x hx).1; omega
  · rw [far x (Nat.lt_of_lt_of_le (hL x hx).2 hb1.size) fun g hg e => hv g hg (e ▸ hx)]
    exact hb1.block x (hL x hx).2
  · have := (hL a ha).2; have := (hL' b hb).1; omega
  · have hs3 := hg.size
    have := hb2.size
    rcases List.mem_append.1 hx with hx | hx
    · have := hL x hx; omega
    · have := hL' x hx; omega
  · have e : g = g' := by simpa [Value.ownBlock] using hg'
    subst e
    have := hb2.size
    rcases hat with h | rfl
    · rcases List.mem_append.1 hx with hx | hx
      · exact hv g h hx
      · have := hvl g h; have := (hL' g hx).1; omega
    · rcases List.mem_append.1 hx with hx | hx
      · have := (hL _ hx).2; omega
      · have := (hL' _ hx).2; omega
theorem RowP.done {A : Option Addr} {cap : Nat} {w0 : World} (h : RowP base (.slice A f.len cap) f w) (hb : Below w0.heap.size w0 w) (hbase : w0.heap.size ≤ base) : Made w0 f A cap w := by
  obtain ⟨L, ho, hn, hL⟩ := h.own
  exact ⟨L, ho, hn, fun x hx => ⟨Nat.le_trans hbase (hL x hx).1, (hL x hx).2⟩, hb⟩
end
end Go.Proofs.YtihmgodiiohdnaaGreatDoor
