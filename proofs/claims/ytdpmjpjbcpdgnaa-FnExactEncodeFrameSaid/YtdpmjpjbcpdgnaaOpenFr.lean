/- A frame as a parameter, opened. No condition of its own. -/
import Derived.Test.YtdpmjpjbcpdgnaaRows
import Derived.ProofKit
import Derived.OpenShut
import Derived.ShutString
import Derived.ChangeSlices
import Derived.Lib.SmallJoins
import Derived.RowKit
namespace Go.Proofs.Ytdpmjpjbcpdgnaa
open Go.ChangeShapes Go.WideShapes Go.ChangeAt Go.RowKit
section
variable {H : Type} {enc : TypeId × Value → H} {w : World} {sp : Nat → Bool} {held : Bool} {r : Reach} {b0 : Nat} {v : Value} {d : DataW H} {ps : List MemPlace}
set_option maxRecDepth 100000 in
theorem openF (hval : Value.okWide Try.prog w r b0 23 v) (hd : DataW.Trod enc Try.prog w 0 sp held 23 v d ps) : ∃ (t : Int) (s : ByteArray), v = .agg #[.int .i64 t, .string s] ∧ s.size ≤ maxLen := by
  obtain ⟨v0, v1, y0, y1, n, rfl, _, _, h0, h1⟩ := Joins.open_agg2 Try.underlying23 (by kernel_rfl) (by kernel_rfl) hval hd
  obtain ⟨t, ht, _⟩ := DataW.trod_int Try.underlying3 h0
  obtain ⟨s, hs, _, hm⟩ := DataW.trod_string Try.underlying9 h1
  simp only [List.cons.injEq, and_true] at ht hs
  subst ht hs
  exact ⟨t, s, rfl, hm⟩
end
end Go.Proofs.Ytdpmjpjbcpdgnaa
