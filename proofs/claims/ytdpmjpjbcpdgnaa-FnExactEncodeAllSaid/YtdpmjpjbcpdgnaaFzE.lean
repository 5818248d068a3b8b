/- laws.eqByteS, markByteS, heldByteS on rows of bytes that a call owns. Condition: the rows lie in memory. -/
import Derived.Test.YtdpmjpjbcpdgnaaProg
import Derived.Test.YtdpmjpjbcpdgnaaFzW
import Derived.Deep.QuietTactic
import Derived.BigQuiet
import Derived.IntWalk
namespace Go.Proofs.Ytdpmjpjbcpdgnaa
open Go.RowKit

set_option maxHeartbeats 1000000 in
/-- laws.eqByteS on rows that read alike. -/
theorem eqU_any (xs : List UInt8) (v1 v2 : Value) (b1 b2 : Nat) (w : World) (h1 : OwnU w b1 v1 xs) (h2 : OwnU w b2 v2 xs) :
    Calls Try.prog 12 #[v1, v2] w fun e w' => e = .returned (.bool true) ∧ Below w.heap.size w w' := by
  have l1 := own_lt h1
  have l2 := own_lt h2
  obtain ⟨A, cap, rfl, hc1, hm1, hr1⟩ := h1.read
  obtain ⟨B, cap', rfl, hc2, hm2, hr2⟩ := h2.read
  clear h1 h2
  generalize hn : xs.length = len at *
  unfold maxLen at hm1 hm2
  have H1 := Lib.hid hr1
  have H2 := Lib.hid hr2
  have L1 := Lib.hid l1
  have L2 := Lib.hid l2
  have t0 : ((len : Int) != (len : Int)) = false := by simp
  clear hr1 hr2 l1 l2 hn
  go_enter Try.func12, Try.ntmps12
  go_wp2_with fail
  go_loopw [5] (fun i wr => ∃ (k : Nat), k ≤ len ∧ i = .int .i64 k ∧ Below w.heap.size w wr) (fun i _ => len - (intOf i).toNat)
  case atStart => exact ⟨0, Nat.zero_le _, rfl, Below.refl _ _⟩
  case round =>
    obtain ⟨k, hk, rfl, hb⟩ := hrel
    by_cases hlt : k < len
    · obtain ⟨g, rfl, ho, hg⟩ := H1.out (by omega)
      obtain ⟨g', rfl, ho', hg'⟩ := H2.out (by omega)
      have e1 := (hb.cell (p := ⟨g, k, none⟩) (L1.out g (by rw [ho]; simp)).2).trans (hg k hlt).1
      have e2 := (hb.cell (p := ⟨g', k, none⟩) (L2.out g' (by rw [ho']; simp)).2).trans (hg' k hlt).1
      generalize ((xs.getD k 0).toNat : Int) = x at *
      have tx : (x != x) = false := by simp
      have HB := Lib.hid hb
      clear hg hg' ho ho' hb
      go_wp2_with fail
      go_quiet (fail)
      go_wp2_with fail
      go_roundw
      case rel => exact ⟨k + 1, by omega, by go_num, HB.out.trans ⟨rfl, rfl, rfl, Nat.le_refl _, fun _ _ => rfl⟩⟩
      case measure => simp [intOf]; omega
    · obtain rfl : k = len := by omega
      have HB := Lib.hid hb
      clear hb
      go_wp2_with fail
      go_ret
      exact ⟨rfl, HB.out⟩

set_option maxHeartbeats 1000000 in
/-- laws.markByteS. -/
theorem markU_any (xs : List UInt8) (v : Value) (base k0 : Nat) (w : World) (h : OwnU w base v xs) (hk0 : k0 + xs.length ≤ 1099511627776) :
    Calls Try.prog 13 #[v, .int .i64 (k0 : Int)] w fun e w' => e = .returned (.int .i64 ((k0 + xs.length : Nat) : Int)) ∧ OwnU w' base v (mkU k0 xs.length) ∧ Wrote (ownV v) w w' := by
  obtain ⟨A, cap, rfl, hc1, hm1, hr1⟩ := h.read
  unfold maxLen at hm1
  have hpos : 0 < xs.length → ∃ g, A = some ⟨g, 0, none⟩ ∧ ownV (.slice A xs.length cap) = [g] := fun hp => by
    obtain ⟨g, h1, h2, _⟩ := hr1 hp
    exact ⟨g, h1, h2⟩
  clear hr1
  have HP := Lib.hid hpos
  have HO := Lib.hid h
  clear hpos h
  generalize hn : xs.length = len at *
  have HN := Lib.hid hn
  clear hn
  go_enter Try.func13, Try.ntmps13
  go_wp2_with fail
  go_loopw [5, 1] (fun i k wr => ∃ (j : Nat), j ≤ len ∧ i = .int .i64 j ∧ k = .int .i64 ((k0 + j : Nat) : Int) ∧ OwnU wr base (.slice A len cap) (mkU k0 j ++ xs.drop j) ∧ Wrote (ownV (.slice A len cap)) w wr) (fun i _ _ => len - (intOf i).toNat)
  case atStart => exact ⟨0, Nat.zero_le _, rfl, rfl, HO.out, .refl _ _⟩
  case round =>
    obtain ⟨j, hj, rfl, rfl, ho, hw⟩ := hrel
    have hlen : (mkU k0 j ++ xs.drop j).length = len := by rw [List.length_append, mkU_len, List.length_drop, HN.out]; omega
    by_cases hlt : j < len
    · obtain ⟨g, rfl, hown⟩ := HP.out (by omega)
      obtain ⟨A', cap', he, _, _, hr⟩ := ho.read
      obtain ⟨g', e1, _, hcell⟩ := hr (by omega)
      injection he with he1 he2 he3
      rw [← he1] at e1
      injection e1 with e1
      injection e1 with e1
      subst he3
      have c0 := (hcell j (by omega)).1
      have f0 := (hcell j (by omega)).2
      rw [← e1] at c0 f0
      have hst := ho.stored j (UInt8.ofNat (k0 + j)) hlen.symm
      rw [mkU_step k0 j xs (by rw [HN.out]; exact hlt)] at hst
      have hws := hw.set_ (p := ⟨g, j, none⟩) (.inl (by rw [hown]; simp)) (.int .u8 ((UInt8.ofNat (k0 + j)).toNat : Int))
      have HST := Lib.hid hst
      have HWS := Lib.hid hws
      have ek : ((k0 + j : Nat) : Int) + 1 = ((k0 + (j + 1) : Nat) : Int) := by omega
      have eu2 : ((k0 : Int) + (j : Int)) % 256 = ((UInt8.ofNat (k0 + j)).toNat : Int) := by
        rw [UInt8.toNat_ofNat']; simp
      generalize ((UInt8.ofNat (k0 + j)).toNat : Int) = ub at *
      clear ho hw hown hr hcell he1 he2 hst hws hlen e1
      go_wp2_with fail
      go_roundw
      case rel => exact ⟨j + 1, by omega, by go_num, by go_num, HST.out, HWS.out⟩
      case measure => simp [intOf]; omega
    · obtain rfl : j = len := by omega
      have e : mkU k0 j ++ xs.drop j = mkU k0 j := by rw [List.drop_eq_nil_of_le (by rw [HN.out]; exact Nat.le_refl _), List.append_nil]
      rw [e] at ho
      have H1 := Lib.hid ho
      have H2 := Lib.hid hw
      clear ho hw e hlen
      go_wp2_with fail
      go_ret
      exact ⟨rfl, H1.out, H2.out⟩

set_option maxHeartbeats 1000000 in
/-- laws.heldByteS on a row that holds its marks. -/
theorem heldU_any (k0 len : Nat) (v : Value) (base : Nat) (w : World) (h : OwnU w base v (mkU k0 len)) (hk0 : k0 + len ≤ 1099511627776) :
    Calls Try.prog 14 #[v, .int .i64 (k0 : Int)] w fun e w' => e = .returned (.int .i64 ((k0 + len : Nat) : Int)) ∧ Below w.heap.size w w' := by
  have l1 := own_lt h
  obtain ⟨A, cap, rfl, hc1, hm1, hr1⟩ := h.read
  rw [mkU_len] at *
  unfold maxLen at hm1
  have H1 := Lib.hid hr1
  have L1 := Lib.hid l1
  clear hr1 l1 h
  go_enter Try.func14, Try.ntmps14
  go_wp2_with fail
  go_loopw [5, 1] (fun i k wr => ∃ (j : Nat), j ≤ len ∧ i = .int .i64 j ∧ k = .int .i64 ((k0 + j : Nat) : Int) ∧ Below w.heap.size w wr) (fun i _ _ => len - (intOf i).toNat)
  case atStart => exact ⟨0, Nat.zero_le _, rfl, rfl, Below.refl _ _⟩
  case round =>
    obtain ⟨j, hj, rfl, rfl, hb⟩ := hrel
    by_cases hlt : j < len
    · obtain ⟨g, rfl, ho, hg⟩ := H1.out (by omega)
      have e1 := (hb.cell (p := ⟨g, j, none⟩) (L1.out g (by rw [ho]; simp)).2).trans (hg j hlt).1
      rw [mkU_at k0 len j hlt] at e1
      have eu2 : ((k0 : Int) + (j : Int)) % 256 = ((UInt8.ofNat (k0 + j)).toNat : Int) := by
        rw [UInt8.toNat_ofNat']; simp
      generalize ((UInt8.ofNat (k0 + j)).toNat : Int) = ub at *
      have tx : (ub != ub) = false := by simp
      have ek : ((k0 + j : Nat) : Int) + 1 = ((k0 + (j + 1) : Nat) : Int) := by omega
      have HB := Lib.hid hb
      clear hg ho hb
      go_wp2_with fail
      go_roundw
      case rel => exact ⟨j + 1, by omega, by go_num, by go_num, HB.out⟩
      case measure => simp [intOf]; omega
    · obtain rfl : j = len := by omega
      have HB := Lib.hid hb
      clear hb
      go_wp2_with fail
      go_ret
      exact ⟨rfl, HB.out⟩
end Go.Proofs.Ytdpmjpjbcpdgnaa
