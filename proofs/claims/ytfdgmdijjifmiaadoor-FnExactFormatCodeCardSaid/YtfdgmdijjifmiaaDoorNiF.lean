/- impl.FormatInstr. Condition: the tables lie in their variables; the name is no longer than the law's budget. -/
import Derived.Test.YtfdgmdijjifmiaaDoorProg
import Derived.Test.YtfdgmdijjifmiaaDoorNiN
import Derived.Test.YtfdgmdijjifmiaaDoorIt
import Derived.Deep.AppendLies
namespace Go.Proofs.YtfdgmdijjifmiaaDoor.ins
open Go.RowKit

theorem wd_len (k : Nat) (h : k < 14) : (wd k).length ≤ 6 := by
  have all : ∀ j : Fin 14, (wd j.val).length ≤ 6 := by decide
  exact all ⟨k, h⟩
/-- What the table says of its rows. -/
theorem nu_nm (k : Nat) (h : k < 14) : (nu k = 2 ∧ nm k = false) ∨ (nu k = 2 ∧ nm k = true) ∨ (nu k = 1 ∧ nm k = false) ∨ (nu k = 1 ∧ nm k = true) ∨ (nu k = 0 ∧ nm k = false) := by
  have all : ∀ j : Fin 14, (nu j.val = 2 ∧ nm j.val = false) ∨ (nu j.val = 2 ∧ nm j.val = true) ∨ (nu j.val = 1 ∧ nm j.val = false) ∨ (nu j.val = 1 ∧ nm j.val = true) ∨ (nu j.val = 0 ∧ nm j.val = false) := by decide
  exact all ⟨k, h⟩
theorem allB_range {k : Nat} {x : Ins} (h : allB k x = true) : (-999 ≤ x.a ∧ x.a ≤ 999) ∧ (0 ≤ x.b ∧ x.b ≤ 999) := by
  unfold allB at h
  by_cases hc : x.a < -999 ∨ x.a > 999 ∨ x.b < 0 ∨ x.b > 999
  · rw [if_pos hc] at h; cases h
  · omega
theorem fmtB_row {k : Nat} {x : Ins} (hk : k < 14) (hop : x.op = (k + 1 : Nat)) : fmtB x = if allB k x = true then wd k ++ (restW k x).flatMap (32 :: ·) else [] := by
  have h1 : isOp x.op := ⟨by omega, by omega⟩
  have h2 : (x.op - 1).toNat = k := by omega
  unfold fmtB okB
  rw [if_pos h1, h2]
theorem fmtB_no {x : Ins} (h : ¬ isOp x.op) : fmtB x = [] := by
  unfold fmtB okB
  rw [if_neg h]; rfl
theorem join32 (x : List UInt8) (r : List (List UInt8)) : Lib.join (x :: r) [32] = x ++ r.flatMap (32 :: ·) := by
  rw [Lib.join_cons]
  congr 1
/-- strings.Join of a word and others behind it, out of the cells that hold them. -/
theorem joined (g cap : Nat) (x : List UInt8) (r : List (List UInt8)) (w : World) (hc : ∀ (j : Nat) (y : List UInt8), (x :: r)[j]? = some y → w.cell? ⟨g, j, none⟩ = some (.string ⟨y.toArray⟩)) (hg : g < w.heap.size) (hr : r.length ≤ 3) (hcap : r.length + 1 ≤ cap) (hl : Lib.lens (x :: r) ≤ 1099511627776) :
    Calls Tryd.prog 40 #[.slice (some ⟨g, 0, none⟩) (r.length + 1) cap, .string ⟨#[32]⟩] w fun e w' => e = .returned (.string ⟨(x ++ r.flatMap (32 :: ·)).toArray⟩) ∧ Below w.heap.size w w' := by
  have h := it.join_any g 0 cap ((x :: r).map fun y => ⟨y.toArray⟩) ⟨#[32]⟩ w (fun j z hz => by
    rw [List.getElem?_map] at hz
    obtain ⟨y, hy, rfl⟩ := Option.map_eq_some_iff.1 hz
    rw [Nat.zero_add]
    exact hc j y hy) hg (by simp; omega) (by simp; omega)
  have e : (((x :: r).map fun y => (⟨y.toArray⟩ : ByteArray)).map (·.data.toList)) = x :: r := by
    rw [List.map_map]
    have : ((fun z : ByteArray => z.data.toList) ∘ fun y : List UInt8 => (⟨y.toArray⟩ : ByteArray)) = id := by funext y; simp
    rw [this, List.map_id]
  rw [e, show (⟨#[32]⟩ : ByteArray).data.toList = [32] from rfl, join32] at h
  have h2 := h (by
    have := Lib.join_length x r [32]
    rw [join32] at this
    rw [this]; simp; omega)
  rw [List.length_map, List.length_cons] at h2
  exact h2
end Go.Proofs.YtfdgmdijjifmiaaDoor.ins
