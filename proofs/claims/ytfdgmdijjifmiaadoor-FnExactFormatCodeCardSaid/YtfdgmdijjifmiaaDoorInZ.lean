/- laws.szInstr, szInstrS, toInstr, toInstrS, eqInstr, eqInstrS (of equal rows). Condition: the instructions lie in memory; no more than the law's budget. -/
import Derived.Test.YtfdgmdijjifmiaaDoorProg
import Derived.Test.YtfdgmdijjifmiaaDoorIn
import Derived.Test.YtfdgmdijjifmiaaDoorSz
import Derived.OwnWalk
import Derived.StillTailTactics
import Derived.KernelRfl
namespace Go.Proofs.YtfdgmdijjifmiaaDoor
open Go.RowKit

theorem infoIn : (Tryd.prog.info? 26).map (fun i => (i.zero, i.size, i.bytes)) = some (some (.agg #[.int .i64 0, .int .i64 0, .int .i64 0, .string ByteArray.empty]), 4, 40) := by kernel_rfl
def szX (s : ByteArray) (l : Int) : Int := if l - s.size < 0 then -1 else l - s.size
def szXs : List Ins → Int → Int
  | [], l => l
  | x :: xs, l => if szX x.s l < 0 then -1 else szXs xs (szX x.s l)
def szIn (xs : List Ins) (l : Int) : Int := if l - xs.length < 0 then -1 else szXs xs (l - xs.length)
/-- Letters of all names. -/
def wtIn : List Ins → Nat
  | [] => 0
  | x :: xs => x.s.size + wtIn xs
theorem szX_range (s : ByteArray) (l : Int) (h : 0 ≤ l) : -1 ≤ szX s l ∧ szX s l ≤ l ∧ (0 ≤ szX s l → szX s l = l - s.size) := by
  unfold szX; split <;> omega
theorem szXs_range : ∀ (xs : List Ins) (l : Int), 0 ≤ l → -1 ≤ szXs xs l ∧ szXs xs l ≤ l ∧ (0 ≤ szXs xs l → szXs xs l = l - wtIn xs)
  | [], l, h => by simp only [szXs, wtIn]; omega
  | x :: xs, l, h => by
    have h1 := szX_range x.s l h
    simp only [szXs, wtIn]
    split
    · omega
    · have h2 := szXs_range xs (szX x.s l) (by omega)
      omega
theorem szIn_range (xs : List Ins) (l : Int) (h : 0 ≤ l) : -1 ≤ szIn xs l ∧ szIn xs l ≤ l ∧ (0 ≤ szIn xs l → szIn xs l = l - xs.length - wtIn xs) := by
  unfold szIn
  split
  · omega
  · have := szXs_range xs (l - xs.length) (by omega); omega

set_option maxRecDepth 100000 in
set_option maxHeartbeats 1000000 in
/-- laws.szInstr. -/
theorem szX_any (x : Ins) (hx : x.ok) (left : Int) (w : World) (h0 : 0 ≤ left) (h1 : left ≤ 1048576) :
    Calls Tryd.prog 8 #[.agg #[.int .i64 x.op, .int .i64 x.a, .int .i64 x.b, .string x.s], .int .i64 left] w fun e w' => e = .returned (.int .i64 (szX x.s left)) ∧ Below w.heap.size w w' := by
  obtain ⟨op, a, b, s⟩ := x
  have hs := hx.2.2.2
  unfold maxLen at hs
  clear hx
  simp only at hs ⊢
  by_cases hneg : left - s.size < 0
  · have HV : Hid (szX s left = -1) := Lib.hid (by unfold szX; rw [if_pos hneg])
    go_enter Tryd.func8, Tryd.ntmps8
    go_wp2_with fail
    go_ret
    rw [HV.out]
    exact ⟨rfl, (Below.refl _ _).alloc (Nat.le_refl _) _⟩
  · have HV : Hid (szX s left = left - s.size) := Lib.hid (by unfold szX; rw [if_neg hneg])
    go_enter Tryd.func8, Tryd.ntmps8
    go_wp2_with fail
    go_ret
    rw [HV.out]
    exact ⟨rfl, (Below.refl _ _).alloc (Nat.le_refl _) _⟩

set_option maxRecDepth 100000 in
set_option maxHeartbeats 2000000 in
/-- laws.szInstrS. -/
theorem szIn_any (xs : List Ins) (A : Option Addr) (cap hi : Nat) (left : Int) (w : World) (hk : InsS w hi xs A cap) (hh : hi ≤ w.heap.size) (h0 : 0 ≤ left) (h1 : left ≤ 1048576) :
    Calls Tryd.prog 12 #[.slice A xs.length cap, .int .i64 left] w fun e w' => e = .returned (.int .i64 (szIn xs left)) ∧ Below w.heap.size w w' := by
  have HK := Lib.hid hk
  have HHI := Lib.hid hh
  have hl := hk.1
  have hm := hk.2.1
  unfold maxLen at hm
  clear hk hh
  by_cases hneg : left - xs.length < 0
  · have HV : Hid (szIn xs left = -1) := Lib.hid (by unfold szIn; rw [if_pos hneg])
    generalize xs.length = len at *
    go_enter Tryd.func12, Tryd.ntmps12
    go_wp2_with fail
    go_ret
    rw [HV.out]
    exact ⟨rfl, Below.refl _ _⟩
  · have HV : Hid (szIn xs left = szXs xs (left - xs.length)) := Lib.hid (by unfold szIn; rw [if_neg hneg])
    generalize hn : xs.length = len at *
    have HN := Lib.hid hn
    clear hn
    go_enter Tryd.func12, Tryd.ntmps12
    go_wp2_with fail
    go_loopw [1, 5] (fun l i wr => ∃ (k : Nat) (z : Int), k ≤ len ∧ i = .int .i64 k ∧ l = .int .i64 z ∧ 0 ≤ z ∧ z ≤ 1048576 ∧ szXs (xs.drop k) z = szXs xs (left - len) ∧ Below w.heap.size w wr) (fun _ i _ => len - (intOf i).toNat)
    case atStart => exact ⟨0, _, Nat.zero_le _, rfl, rfl, by omega, by omega, rfl, Below.refl _ _⟩
    case round =>
      obtain ⟨k, z, hk, rfl, rfl, hz0, hz1, hsz, hb⟩ := hrel
      by_cases hlt : k < len
      · obtain ⟨x, hd⟩ := drop_at k xs (by rw [HN.out]; exact hlt)
        obtain ⟨b, o, rfl, hbb, hrow⟩ := HK.out.2.2 (by rw [HN.out]; omega)
        obtain ⟨hok, c0, c1, c2, c3⟩ := hrow.elem k xs b o hd
        have hlo : (⟨b, o, none⟩ : Addr).block < w.heap.size := Nat.lt_of_lt_of_le hbb HHI.out
        have k0 := (hb.cell (p := ⟨b, o + k * 4, none⟩) hlo).trans c0
        have k1 := (hb.cell (p := ⟨b, o + k * 4 + 1, none⟩) hlo).trans c1
        have k2 := (hb.cell (p := ⟨b, o + k * 4 + 2, none⟩) hlo).trans c2
        have k3 := (hb.cell (p := ⟨b, o + k * 4 + 3, none⟩) hlo).trans c3
        rw [hd] at hsz
        simp only [szXs] at hsz
        have C1 := szX_any x hok z wr hz0 hz1
        have hr := szX_range x.s z hz0
        generalize szX x.s z = r at *
        have r1 := hr.1
        have r2 := hr.2.1
        have H1 := Lib.hid C1
        have HB := Lib.hid hb
        clear C1 hr hb c0 c1 c2 c3 hrow hd hlo hok
        by_cases hz : r < 0
        · obtain rfl : r = -1 := by omega
          have HS : Hid (szXs xs (left - len) = -1) := Lib.hid (by rw [← hsz]; rfl)
          clear hsz
          go_wp2_with fail
          refine H1.out.mono ?_
          rintro e w2 ⟨rfl, hb2⟩
          have HB2 := Lib.hid (HB.out.trans (hb2.mono HB.out.size))
          clear hb2
          go_wp2_with fail
          go_ret
          rw [HV.out, HS.out]
          exact ⟨rfl, HB2.out⟩
        · rw [if_neg hz] at hsz
          have HS := Lib.hid hsz
          clear hsz
          go_wp2_with fail
          refine H1.out.mono ?_
          rintro e w2 ⟨rfl, hb2⟩
          have HB2 := Lib.hid (HB.out.trans (hb2.mono HB.out.size))
          clear hb2
          go_wp2_with fail
          go_roundw
          case rel => exact ⟨k + 1, r, by omega, by go_num, rfl, by omega, by omega, HS.out, HB2.out⟩
          case measure => simp [intOf]; omega
      · obtain rfl : k = len := by omega
        have HS : Hid (szXs xs (left - k) = z) := Lib.hid (by rw [← hsz, List.drop_eq_nil_of_le (by rw [HN.out]; exact Nat.le_refl _)]; rfl)
        have HB := Lib.hid hb
        clear hsz hb
        go_wp2_with fail
        go_ret
        rw [HV.out, HS.out]
        exact ⟨rfl, HB.out⟩

set_option maxRecDepth 100000 in
set_option maxHeartbeats 2000000 in
/-- laws.toInstr. -/
theorem toX_any (x : Ins) (w : World) :
    Calls Tryd.prog 10 #[.agg #[.int .i64 x.op, .int .i64 x.a, .int .i64 x.b, .string x.s]] w fun e w' => e = .returned (.agg #[.int .i64 x.op, .int .i64 x.a, .int .i64 x.b, .string x.s]) ∧ Below w.heap.size w w' := by
  obtain ⟨op, a, b, s⟩ := x
  simp only
  go_enter Tryd.func10, Tryd.ntmps10
  go_wp2_with fail
  have hq := (Blk.new (w.alloc (.cells #[.int .i64 op, .int .i64 a, .int .i64 b, .string s] 23)) 26 #[.int .i64 op, .int .i64 a, .int .i64 b, .string s]).alloc (.cells #[.int .i64 op, .int .i64 a, .int .i64 b, .string s] 26)
  rw [show (w.alloc (.cells #[.int .i64 op, .int .i64 a, .int .i64 b, .string s] 23)).heap.size = w.heap.size + 1 by simp] at hq
  refine bodyPost_ret (v := .agg #[.int .i64 op, .int .i64 a, .int .i64 b, .string s]) ?_ rfl ⟨rfl, (((Below.refl _ _).alloc (Nat.le_refl _) _).alloc (by simp) _).alloc (by simp; omega) _⟩
  exact results_cell_row Tryd.results10 _ _ (w.heap.size + 1) _ _ _ _ rfl hq Tryd.underlying26 rfl (by kernel_rfl)
end Go.Proofs.YtfdgmdijjifmiaaDoor
