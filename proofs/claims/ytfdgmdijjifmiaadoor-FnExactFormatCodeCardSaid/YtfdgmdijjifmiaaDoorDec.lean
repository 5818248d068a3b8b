/- The model's texts of numbers: spec.l18Dec, l1Dec. Condition: none but that the number is small. -/
import Derived.Test.YtfdgmdijjifmiaaDoorProg
import Derived.Test.YtfdgmdijjifmiaaDoorOwn
import Derived.WalkKit
import Derived.WalkSpells
import Derived.Outline
import Derived.Lib.SlBytesConst
import Derived.Lib.ItoaNum
import Derived.Lib.ItoaLen
namespace Go.Proofs.YtfdgmdijjifmiaaDoor.dec
open Go.RowKit

theorem str_app (a b : List UInt8) : (.string (⟨a.toArray⟩ ++ ⟨b.toArray⟩) : Value) = .string ⟨(a ++ b).toArray⟩ := congrArg Value.string (ByteArray.mk_append_mk a b)
theorem str_own (s : ByteArray) : s = ⟨s.data.toList.toArray⟩ := by cases s; simp
theorem one_byteV (x : Int) (c : UInt8) (hc : (c.toNat : Int) = x) (w : World) : (convert 73 9 (.slice (some ⟨w.heap.size, 0, none⟩) 1 1)).run Tryd.prog (w.alloc (.cells #[.int .u8 x] 5)) =
    .ok (.string ⟨[c].toArray⟩) (w.alloc (.cells #[.int .u8 x] 5)) := by
  refine run_convert_bytes_back _ _ _ 5 ⟨w.heap.size, 0, none⟩ 1 [c] Tryd.underlying73 Tryd.underlying5 Tryd.underlying9 fun i hi => ?_
  obtain rfl : i = 0 := by simpa using hi
  have h := (Blk.new w 5 #[.int .u8 x]).cell 0
  show (w.alloc _).cell? ⟨w.heap.size, 0, none⟩ = some (.int .u8 (c.toNat : Int))
  rw [h, hc]
  rfl
set_option maxRecDepth 100000 in
set_option maxHeartbeats 1000000 in
/-- spec.l18Dec at a number that is not negative. -/
theorem dec18_any (n : Nat) (hn : n ≤ 999) (w : World) : Calls Tryd.prog 60 #[.int .i64 (n : Int)] w fun e w' => e = .returned (.string ⟨(Lib.decDigits n).toArray⟩) ∧ Below w.heap.size w w' := by
  have t0 : ¬ (n : Int) < -9223372036854775807 := by omega
  have t1 : ¬ (n : Int) < 0 := by omega
  go_enter Tryd.func60, Tryd.ntmps60
  go_wp2_with fail
  go_loopw [3, 0] (fun o i wr => ∃ (j : Nat) (out : List UInt8), j ≤ n ∧ out.length + j ≤ 4 + n ∧ i = .int .i64 j ∧ o = .string ⟨out.toArray⟩ ∧ Lib.decDigits j ++ out = Lib.decDigits n ∧ Below w.heap.size w wr) (fun _ i _ => (intOf i).toNat)
  case atStart => exact ⟨n, [], Nat.le_refl _, by simp, rfl, rfl, by simp, Below.refl _ _⟩
  case round =>
    obtain ⟨j, out, hj, hl, rfl, rfl, hd, hb⟩ := hrel
    have HD := Lib.hid hd
    have HB := Lib.hid hb
    clear hd hb
    by_cases h9 : j ≤ 9
    · have hc : ((UInt8.ofNat (48 + j)).toNat : Int) = 48 + (j : Int) := by rw [UInt8.toNat_ofNat']; omega
      have kc := one_byteV (48 + (j : Int)) (UInt8.ofNat (48 + j)) hc wr
      have HV : Hid (([UInt8.ofNat (48 + j)] ++ out) = Lib.decDigits n) := Lib.hid (by
        have h := HD.out
        rw [Lib.decDigits_one (by omega)] at h
        exact h)
      have t9 : ¬ (9 : Int) < j := by omega
      clear hc
      generalize UInt8.ofNat (48 + j) = d at *
      go_wp2_with fail
      go_ret
      rw [← HV.out, ← ByteArray.mk_append_mk]
      exact ⟨rfl, HB.out.alloc HB.out.size _⟩
    · have t9 : (9 : Int) < j := by omega
      have hc : ((UInt8.ofNat (48 + j % 10)).toNat : Int) = 48 + (j : Int) % 10 := by rw [UInt8.toNat_ofNat']; omega
      have kc := one_byteV (48 + (j : Int) % 10) (UInt8.ofNat (48 + j % 10)) hc wr
      have HE : Hid (Lib.decDigits (j / 10) ++ (UInt8.ofNat (48 + j % 10) :: out) = Lib.decDigits n) := Lib.hid (by
        rw [← HD.out, Lib.decDigits.eq_def j, dif_neg (by omega), List.append_assoc]
        rfl)
      clear hc
      generalize UInt8.ofNat (48 + j % 10) = d at *
      go_wp2_with fail
      go_roundw
      case rel => exact ⟨j / 10, d :: out, by omega, by simp only [List.length_cons]; omega, by go_num, str_app [d] out, HE.out, HB.out.alloc HB.out.size _⟩
      case measure => simp [intOf]; omega
set_option maxRecDepth 100000 in
/-- spec.l1Dec. -/
theorem dec_any (n : Int) (hn : -999 ≤ n ∧ n ≤ 999) (w : World) : Calls Tryd.prog 37 #[.int .i64 n] w fun e w' => e = .returned (.string ⟨(Lib.itoa n).toArray⟩) ∧ Below w.heap.size w w' := by
  by_cases h0 : n < 0
  · obtain ⟨m, rfl⟩ : ∃ m : Nat, n = -(m : Int) := ⟨n.natAbs, by omega⟩
    have C1 := dec18_any m (by omega) w
    have HV : Hid ((⟨#[45]⟩ : ByteArray) ++ ⟨(Lib.decDigits m).toArray⟩ = ⟨(Lib.itoa (-(m : Int))).toArray⟩) := Lib.hid (by
      rw [Lib.itoa_neg m (by omega)]
      exact ByteArray.mk_append_mk [45] _)
    have hlen : (Lib.decDigits m).length ≤ 20 := by rw [Lib.decDigits_length]; exact Lib.nDigits_le20 m (by omega)
    generalize Lib.decDigits m = l at *
    have H1 := Lib.hid C1
    clear C1
    go_enter Tryd.func37, Tryd.ntmps37
    go_wp2_with fail
    refine H1.out.mono ?_
    rintro e w2 ⟨rfl, hb⟩
    have HB := Lib.hid hb
    clear hb
    go_wp2_with fail
    go_ret
    rw [← HV.out]; exact ⟨rfl, HB.out⟩
  · obtain ⟨m, rfl⟩ : ∃ m : Nat, n = (m : Int) := ⟨n.toNat, by omega⟩
    have C1 := dec18_any m (by omega) w
    have HV : Hid (Lib.itoa (m : Int) = Lib.decDigits m) := Lib.hid (Lib.itoa_nonneg m)
    have H1 := Lib.hid C1
    clear C1
    go_enter Tryd.func37, Tryd.ntmps37
    go_wp2_with fail
    refine H1.out.mono ?_
    rintro e w2 ⟨rfl, hb⟩
    have HB := Lib.hid hb
    clear hb
    go_wp2_with fail
    go_ret
    rw [HV.out]; exact ⟨rfl, HB.out⟩
end Go.Proofs.YtfdgmdijjifmiaaDoor.dec
