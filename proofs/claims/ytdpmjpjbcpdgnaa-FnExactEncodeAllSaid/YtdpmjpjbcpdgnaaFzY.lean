/- A frame measured and copied. No condition but that a text's size is an int. -/
import Derived.Test.YtdpmjpjbcpdgnaaProg
import Derived.Test.YtdpmjpjbcpdgnaaFzW
namespace Go.Proofs.Ytdpmjpjbcpdgnaa
open Go.RowKit

set_option maxHeartbeats 1000000 in
/-- laws.szFrame. -/
theorem szF_any (t : Int) (s : ByteArray) (left : Int) (w : World) (hs : s.size ≤ maxLen) (h0 : 0 ≤ left) (h1 : left ≤ 1048576) :
    Calls Try.prog 6 #[.agg #[.int .i64 t, .string s], .int .i64 left] w fun e w' => e = .returned (.int .i64 (if left < (s.size : Int) then -1 else left - (s.size : Int))) ∧ Below w.heap.size w w' := by
  unfold maxLen at hs
  have HB := Lib.hid ((Below.refl w.heap.size w).alloc (Nat.le_refl _) (.cells #[.int .i64 t, .string s] 23))
  have hq := Blk.new w 23 #[.int .i64 t, .string s]
  have x1 : (w.alloc (.cells #[.int .i64 t, .string s] 23)).cell? ⟨w.heap.size, 1, none⟩ = some (.string s) := hq.cell 1
  clear hq
  by_cases h : left < (s.size : Int)
  · have t0 : left - (s.size : Int) < 0 := by omega
    rw [if_pos h]
    clear h
    go_enter Try.func6, Try.ntmps6
    go_wp2_with fail
    go_ret
    exact ⟨rfl, HB.out⟩
  · have t0 : ¬ left - (s.size : Int) < 0 := by omega
    rw [if_neg h]
    clear h
    go_enter Try.func6, Try.ntmps6
    go_wp2_with fail
    go_ret
    exact ⟨rfl, HB.out⟩

theorem setc2F {w : World} {g : Nat} {t : TypeId} {x0 x1 : Value} (h : Blk w g t #[x0, x1]) (a b : Value) : Blk ((w.setCell ⟨g, 0, none⟩ a).setCell ⟨g, 1, none⟩ b) g t #[a, b] := (h.set_ 0 a).set_ 1 b
set_option maxRecDepth 100000 in
set_option maxHeartbeats 1000000 in
/-- laws.toFrame. -/
theorem toF_any (t : Int) (s : ByteArray) (w : World) :
    Calls Try.prog 8 #[.agg #[.int .i64 t, .string s]] w fun e w' => e = .returned (.agg #[.int .i64 t, .string s]) ∧ Below w.heap.size w w' := by
  have hb1 := (Below.refl w.heap.size w).alloc (Nat.le_refl _) (.cells #[.int .i64 t, .string s] 23)
  have hq1 := Blk.new (w.alloc (.cells #[.int .i64 t, .string s] 23)) 26 #[.int .i64 t, .string s]
  have hs1 : (w.alloc (.cells #[.int .i64 t, .string s] 23)).heap.size = w.heap.size + 1 := by simp
  rw [hs1] at hq1
  have hq1' := hq1.alloc (.cells #[.int .i64 t, .string s] 26)
  have hb3 := (hb1.alloc hb1.size (.cells #[.int .i64 t, .string s] 26)).alloc (Nat.le_trans hb1.size (by simp)) (.cells #[.int .i64 t, .string s] 26)
  have HQ1 := Lib.hid hq1'
  have HB3 := Lib.hid hb3
  clear hb1 hq1 hs1 hq1' hb3
  go_enter Try.func8, Try.ntmps8
  go_wp2_with fail
  generalize ((w.alloc (.cells #[.int .i64 t, .string s] 23)).alloc (.cells #[.int .i64 t, .string s] 26)).alloc (.cells #[.int .i64 t, .string s] 26) = w3 at *
  refine bodyPost_ret (v := .agg #[.int .i64 t, .string s]) ?_ rfl ⟨rfl, HB3.out⟩
  exact results_cell_row Try.results8 _ _ (w.heap.size + 1) _ _ _ _ rfl HQ1.out Try.underlying26 rfl (by kernel_rfl)
end Go.Proofs.Ytdpmjpjbcpdgnaa
