/- laws.eqInstr, eqInstrS (of equal rows). Condition: the instructions lie in memory. -/
import Derived.Test.YtfdgmdijjifmiaaDoorProg
import Derived.Test.YtfdgmdijjifmiaaDoorInZ
import Derived.Test.YtfdgmdijjifmiaaDoorEq
namespace Go.Proofs.YtfdgmdijjifmiaaDoor
open Go.RowKit

set_option maxRecDepth 100000 in
set_option maxHeartbeats 1000000 in
/-- laws.eqInstr. -/
theorem eqX_any (x : Ins) (w : World) :
    Calls Tryd.prog 19 #[.agg #[.int .i64 x.op, .int .i64 x.a, .int .i64 x.b, .string x.s], .agg #[.int .i64 x.op, .int .i64 x.a, .int .i64 x.b, .string x.s]] w fun e w' => e = .returned (.bool true) ∧ Below w.heap.size w w' := by
  obtain ⟨op, a, b, s⟩ := x
  simp only
  have t0 : (op != op) = false := by simp
  have t1 : (a != a) = false := by simp
  have t2 : (b != b) = false := by simp
  have t3 : (s.toList != s.toList) = false := by simp
  have t4 : (!(s.toList == s.toList)) = false := t3
  go_enter Tryd.func19, Tryd.ntmps19
  go_wp2_with fail
  go_ret
  exact ⟨rfl, two_alloc w _ _⟩

set_option maxRecDepth 100000 in
set_option maxHeartbeats 2000000 in
/-- laws.eqInstrS of equal rows. -/
theorem eqIn_any (xs : List Ins) (A B : Option Addr) (cap cap' hi hi' : Nat) (w : World) (hk : InsS w hi xs A cap) (hk' : InsS w hi' xs B cap') (hh : hi ≤ w.heap.size) (hh' : hi' ≤ w.heap.size) :
    Calls Tryd.prog 16 #[.slice A xs.length cap, .slice B xs.length cap'] w fun e w' => e = .returned (.bool true) ∧ Below w.heap.size w w' := by
  have HK := Lib.hid hk
  have HK' := Lib.hid hk'
  have HHI := Lib.hid hh
  have HHI' := Lib.hid hh'
  have hl := hk.1
  have hm := hk.2.1
  unfold maxLen at hm
  clear hk hk' hh hh'
  generalize hn : xs.length = len at *
  have HN := Lib.hid hn
  clear hn
  have t0 : ((len : Int) != (len : Int)) = false := by simp
  go_enter Tryd.func16, Tryd.ntmps16
  go_wp2_with fail
  go_loopw [5] (fun i wr => ∃ (k : Nat), k ≤ len ∧ i = .int .i64 k ∧ Below w.heap.size w wr) (fun i _ => len - (intOf i).toNat)
  case atStart => exact ⟨0, Nat.zero_le _, rfl, Below.refl _ _⟩
  case round =>
    obtain ⟨k, hk, rfl, hb⟩ := hrel
    by_cases hlt : k < len
    · obtain ⟨x, hd⟩ := drop_at k xs (by rw [HN.out]; exact hlt)
      obtain ⟨b, o, rfl, hbb, hrow⟩ := HK.out.2.2 (by rw [HN.out]; omega)
      obtain ⟨b', o', rfl, hbb', hrow'⟩ := HK'.out.2.2 (by rw [HN.out]; omega)
      obtain ⟨_, c0, c1, c2, c3⟩ := InsAt.elem k xs b o hrow hd
      obtain ⟨_, c0', c1', c2', c3'⟩ := InsAt.elem k xs b' o' hrow' hd
      have hlo : (⟨b, o, none⟩ : Addr).block < w.heap.size := Nat.lt_of_lt_of_le hbb HHI.out
      have hlo' : (⟨b', o', none⟩ : Addr).block < w.heap.size := Nat.lt_of_lt_of_le hbb' HHI'.out
      have k0 := (hb.cell (p := ⟨b, o + k * 4, none⟩) hlo).trans c0
      have k1 := (hb.cell (p := ⟨b, o + k * 4 + 1, none⟩) hlo).trans c1
      have k2 := (hb.cell (p := ⟨b, o + k * 4 + 2, none⟩) hlo).trans c2
      have k3 := (hb.cell (p := ⟨b, o + k * 4 + 3, none⟩) hlo).trans c3
      have j0 := (hb.cell (p := ⟨b', o' + k * 4, none⟩) hlo').trans c0'
      have j1 := (hb.cell (p := ⟨b', o' + k * 4 + 1, none⟩) hlo').trans c1'
      have j2 := (hb.cell (p := ⟨b', o' + k * 4 + 2, none⟩) hlo').trans c2'
      have j3 := (hb.cell (p := ⟨b', o' + k * 4 + 3, none⟩) hlo').trans c3'
      have C1 := fun w1 => eqX_any x w1
      obtain ⟨op, a, bb, s⟩ := x
      simp only at k0 k1 k2 k3 j0 j1 j2 j3 C1
      have H1 := Lib.hid C1
      have HB := Lib.hid hb
      clear C1 hb c0 c1 c2 c3 c0' c1' c2' c3' hrow hrow' hd hlo hlo'
      go_wp2_with fail
      go_still_tail 8, (by kernel_rfl)
      change wpList _ _ _ _ _ wr.drew
      have hbd : Below wr.heap.size wr wr.drew := (Below.refl _ _).drew
      generalize wr.drew = w2 at hbd ⊢
      have HD := Lib.hid hbd
      clear hbd k0 k1 k2 k3 j0 j1 j2 j3
      go_wp2_with fail
      refine (H1.out _).mono ?_
      rintro e w3 ⟨rfl, hb3⟩
      have HB3 := Lib.hid hb3
      clear hb3
      go_wp2_with fail
      go_roundw
      case rel => exact ⟨k + 1, by omega, by go_num, (HB.out.trans (HD.out.mono HB.out.size)).trans (HB3.out.mono (Nat.le_trans HB.out.size HD.out.size))⟩
      case measure => simp [intOf]; omega
    · obtain rfl : k = len := by omega
      have HB := Lib.hid hb
      clear hb
      go_wp2_with fail
      go_ret
      exact ⟨rfl, HB.out⟩
end Go.Proofs.YtfdgmdijjifmiaaDoor
