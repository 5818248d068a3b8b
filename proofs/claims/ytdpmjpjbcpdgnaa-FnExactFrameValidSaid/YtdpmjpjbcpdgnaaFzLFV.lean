/- The law FnExactFrameValid, walked. No condition but that a text's size is an int. -/
import Derived.Test.YtdpmjpjbcpdgnaaProg
import Derived.Test.YtdpmjpjbcpdgnaaFzY
import Derived.Test.YtdpmjpjbcpdgnaaFzV
namespace Go.Proofs.Ytdpmjpjbcpdgnaa
open Go.RowKit

set_option maxRecDepth 100000 in
set_option maxHeartbeats 2000000 in
theorem lawFV_any (t : Int) (s : ByteArray) (w : World) (hs : s.size ≤ maxLen) :
    Calls Try.prog 3 #[.agg #[.int .i64 t, .string s]] w fun e w' => e = .returned (.bool true) ∧ Below w.heap.size w w' := by
  have hb1 := (Below.refl w.heap.size w).alloc (Nat.le_refl _) (.cells #[.int .i64 t, .string s] 23)
  have hq1 := Blk.new w 23 #[.int .i64 t, .string s]
  have CZ := szF_any t s 1048576 (w.alloc (.cells #[.int .i64 t, .string s] 23)) hs (by omega) (by omega)
  obtain ⟨z, hz⟩ : ∃ z : Int, (if (1048576 : Int) < (s.size : Int) then -1 else 1048576 - (s.size : Int)) = z := ⟨_, rfl⟩
  rw [hz] at CZ
  have HCZ := Lib.hid CZ
  have HCT := Lib.hid (toF_any t s)
  have HCS := Lib.hid fun w => specFV_any t s w hs
  have HCI := Lib.hid fun w => implFV_any t s w hs
  have HB1 := Lib.hid hb1
  have HQ1 := Lib.hid hq1
  have hlt := hq1.lt
  have tr : (fz.okF ⟨t, s⟩ != fz.okF ⟨t, s⟩) = false := by simp
  generalize fz.okF ⟨t, s⟩ = r at *
  clear CZ hb1 hq1 hz
  by_cases h : z < 0
  · go_enter Try.func3, Try.ntmps3
    go_wp2_with fail
    refine HCZ.out.mono ?_
    rintro e w2 ⟨rfl, hb2⟩
    have HB2 := Lib.hid (HB1.out.trans (hb2.mono HB1.out.size))
    clear hb2
    go_wp2_with fail
    go_ret
    exact ⟨rfl, HB2.out⟩
  · go_enter Try.func3, Try.ntmps3
    go_wp2_with fail
    generalize (w.alloc (.cells #[.int .i64 t, .string s] 23)) = w1 at *
    refine HCZ.out.mono ?_
    rintro e w2 ⟨rfl, hb2⟩
    have HB2 := Lib.hid hb2
    have x0 : w2.cell? ⟨w.heap.size, 0, none⟩ = some (.int .i64 t) := (HQ1.out.below hb2 hlt).cell 0
    have x1 : w2.cell? ⟨w.heap.size, 1, none⟩ = some (.string s) := (HQ1.out.below hb2 hlt).cell 1
    clear hb2
    go_wp2_with fail
    refine (HCT.out _).mono ?_
    rintro e w3 ⟨rfl, hb3⟩
    have HB3 := Lib.hid (HB2.out.trans (hb3.mono HB2.out.size))
    clear hb3
    go_wp2_with fail
    refine (HCS.out _).mono ?_
    rintro e w4 ⟨rfl, hb4⟩
    have HB4 := Lib.hid (HB3.out.trans (hb4.mono HB3.out.size))
    have y0 : w4.cell? ⟨w.heap.size, 0, none⟩ = some (.int .i64 t) := (HQ1.out.below HB4.out hlt).cell 0
    have y1 : w4.cell? ⟨w.heap.size, 1, none⟩ = some (.string s) := (HQ1.out.below HB4.out hlt).cell 1
    clear hb4 x0 x1
    go_wp2_with fail
    refine (HCT.out _).mono ?_
    rintro e w5 ⟨rfl, hb5⟩
    have HB5 := Lib.hid (HB4.out.trans (hb5.mono HB4.out.size))
    clear hb5
    go_wp2_with fail
    refine (HCI.out _).mono ?_
    rintro e w6 ⟨rfl, hb6⟩
    have HB6 := Lib.hid (HB5.out.trans (hb6.mono HB5.out.size))
    clear hb6
    go_wp2_with fail
    go_ret
    exact ⟨rfl, HB1.out.trans (HB6.out.mono HB1.out.size)⟩
end Go.Proofs.Ytdpmjpjbcpdgnaa
