/- spec.l18Num of a text of at most four digits. Condition: every byte of the text is a digit. -/
import Derived.Test.YtihmgodiiohdnaaGreatDoorProg
import Derived.Test.YtihmgodiiohdnaaGreatDoorNmS
namespace Go.Proofs.YtihmgodiiohdnaaGreatDoor.rdr
open Go.RowKit

/-- The number that digits write. -/
def dval (l : List UInt8) : Nat := l.foldl (fun n c => n * 10 + (c.toNat - 48)) 0
def okN (l : List UInt8) : Bool := decide (0 < l.length) && !(decide (l[0]? = some 48) && decide (1 < l.length))
def n18 (l : List UInt8) : Int := if okN l = true then (dval l : Int) else 0
theorem dval_snoc (l : List UInt8) (c : UInt8) : dval (l ++ [c]) = dval l * 10 + (c.toNat - 48) := by unfold dval; rw [List.foldl_append]; rfl
theorem dval_take (l : List UInt8) (k : Nat) (c : UInt8) (h : l[k]? = some c) : dval (l.take (k + 1)) = dval (l.take k) * 10 + (c.toNat - 48) := by
  rw [List.take_add_one, h]
  exact dval_snoc _ _

set_option maxRecDepth 100000 in
set_option maxHeartbeats 4000000 in
theorem num18_any (s : ByteArray) (w : World) (h4 : s.size ≤ 4) (hd : ∀ i (h : i < s.size), 48 ≤ s[i].toNat ∧ s[i].toNat ≤ 57) :
    Calls Tryz.prog 104 #[.string s] w fun e w' => e = .returned (.tuple #[.int .i64 (n18 s.data.toList), .bool (okN s.data.toList)]) ∧ Below w.heap.size w w' := by
  have hK : okN s.data.toList = (decide (0 < s.data.toList.length) && !(decide (s.data.toList[0]? = some 48) && decide (1 < s.data.toList.length))) := rfl
  rw [show s.data.toList.length = s.size from rfl] at hK
  have hat : ∀ i (h : i < s.size), s.data.toList[i]? = some s[i] := fun i h => Lib.data_getElem? s i h
  have hdv : dval (s.data.toList.take s.size) = dval s.data.toList := congrArg dval (List.take_length (l := s.data.toList))
  have hst := fun k h => dval_take s.data.toList k s[k] (hat k h)
  have hz : dval (s.data.toList.take 0) = 0 := rfl
  have hN : n18 s.data.toList = if okN s.data.toList = true then (dval s.data.toList : Int) else 0 := rfl
  have HN := Lib.hid hN
  have HK := Lib.hid hK
  have HAT := Lib.hid hat
  have HDV := Lib.hid hdv
  have HST := Lib.hid hst
  have HZ := Lib.hid hz
  have HD := Lib.hid hd
  clear hK hat hdv hst hz hd hN
  generalize n18 s.data.toList = r at *
  generalize okN s.data.toList = ok at *
  generalize dval s.data.toList = V at *
  by_cases h0 : s.size = 0
  · have HV : Hid (ok = false ∧ r = 0) := by
      have h1 : ok = false := by rw [HK.out, h0]; rfl
      exact Lib.hid ⟨h1, by rw [HN.out, h1]; rfl⟩
    go_enter Tryz.func104, Tryz.ntmps104
    go_wp2_with fail
    go_ret2
    rw [HV.out.1, HV.out.2]
    exact ⟨rfl, Below.refl _ _⟩
  · have hp : 0 < s.size := by omega
    obtain ⟨e1, e2⟩ := HD.out 0 hp
    have n45 : ((s[0].toNat : Int) == 45) = false := by rw [beq_eq_false_iff_ne]; omega
    have g0 : decide ((s.size : Int) > 0) = true := by simp; omega
    have g1 : ((s.size : Int) == 0) = false := by rw [beq_eq_false_iff_ne]; omega
    have g2 : ¬ ((s.size : Int) > 17) := by omega
    by_cases hz48 : s[0].toNat = 48 ∧ 1 < s.size
    · have HV : Hid (ok = false ∧ r = 0) := by
        have h48 : s[0] = 48 := UInt8.toNat_inj.1 hz48.1
        have h1 : ok = false := by rw [HK.out, HAT.out 0 hp, h48, decide_eq_true hp, decide_eq_true hz48.2]; rfl
        exact Lib.hid ⟨h1, by rw [HN.out, h1]; rfl⟩
      have t48 : ((s[0].toNat : Int) == 48) = true := by rw [beq_iff_eq]; omega
      have g3 : (s.size : Int) > 1 := by omega
      clear hz48
      go_enter Tryz.func104, Tryz.ntmps104
      go_wp2_with fail
      go_ret2
      rw [HV.out.1, HV.out.2]
      exact ⟨rfl, Below.refl _ _⟩
    · have h1 : ok = true := by
        rw [HK.out, HAT.out 0 hp, decide_eq_true hp]
        by_cases h48 : s[0] = 48
        · have : ¬ 1 < s.size := fun h => hz48 ⟨by rw [h48]; rfl, h⟩
          rw [decide_eq_false this]
          simp
        · rw [decide_eq_false (show ¬ some s[0] = some 48 from fun h => h48 (Option.some.inj h))]
          rfl
      have HV : Hid (ok = true ∧ r = (V : Int)) := Lib.hid ⟨h1, by rw [HN.out, h1]; rfl⟩
      clear h1
      by_cases h48 : s[0].toNat = 48
      · have t48 : ((s[0].toNat : Int) == 48) = true := by rw [beq_iff_eq]; omega
        have g3 : ¬ ((s.size : Int) > 1) := by omega
        clear hz48 h48
        go_enter Tryz.func104, Tryz.ntmps104
        go_wp2_with fail
        go_loopw [5, 6] (fun n ix wr => ∃ (k n0 : Nat), k ≤ s.size ∧ ix = .int .i64 k ∧ n = .int .i64 n0 ∧ n0 = dval (s.data.toList.take k) ∧ n0 < 10 ^ k ∧ wr = w) (fun _ ix _ => 4 - (intOf ix).toNat)
        case atStart => exact ⟨0, 0, by omega, rfl, rfl, HZ.out.symm, by omega, by trivial⟩
        case round =>
          obtain ⟨k, n0, hk, rfl, rfl, hn0, hn1, hwr⟩ := hrel
          subst hwr
          have HN0 := Lib.hid hn0
          have HN1 := Lib.hid hn1
          have h10 : 10 ^ k ≤ 10 ^ 4 := Nat.pow_le_pow_right (by omega) (by omega)
          have hb : n0 < 10000 := Nat.lt_of_lt_of_le hn1 h10
          clear hn0 hn1 h10
          by_cases hlt : k < s.size
          · obtain ⟨d1, d2⟩ := HD.out k hlt
            have b1 : ¬ ((s[k].toNat : Int) < 48) := by omega
            have b2 : ¬ ((s[k].toNat : Int) > 57) := by omega
            have w1 : IntKind.i64.wrap ((n0 : Int) * 10) = (n0 : Int) * 10 := IntWalk.i64_in _ (by omega)
            have w2 : IntKind.u8.wrap ((s[k].toNat : Int) - 48) = (s[k].toNat : Int) - 48 := by rw [IntKind.wrap_u8]; omega
            have w3 : IntKind.i64.wrap ((s[k].toNat : Int) - 48) = (s[k].toNat : Int) - 48 := IntWalk.i64_in _ (by omega)
            have w4 : IntKind.i64.wrap ((n0 : Int) * 10 + ((s[k].toNat : Int) - 48)) = (n0 : Int) * 10 + ((s[k].toNat : Int) - 48) := IntWalk.i64_in _ (by omega)
            have hnew : ((n0 * 10 + (s[k].toNat - 48) : Nat) : Int) = (n0 : Int) * 10 + ((s[k].toNat : Int) - 48) := by omega
            have HNEW := Lib.hid hnew
            have hpow : n0 * 10 + (s[k].toNat - 48) < 10 ^ (k + 1) := by have := HN1.out; rw [Nat.pow_succ]; omega
            have HPOW := Lib.hid hpow
            clear hnew hpow
            go_wp2_with fail
            go_roundw
            case rel => exact ⟨k + 1, n0 * 10 + (s[k].toNat - 48), by omega, by go_num, by rw [HNEW.out], by rw [HST.out k hlt, ← HN0.out], HPOW.out, by trivial⟩
            case measure => simp [intOf]; omega
          · obtain rfl : k = s.size := by omega
            have hV : n0 = V := by rw [HN0.out, HDV.out]
            subst hV
            go_wp2_with fail
            go_ret2
            rw [HV.out.1, HV.out.2]
            exact ⟨rfl, Below.refl _ _⟩
      · have t48 : ((s[0].toNat : Int) == 48) = false := by rw [beq_eq_false_iff_ne]; omega
        clear hz48 h48
        go_enter Tryz.func104, Tryz.ntmps104
        go_wp2_with fail
        go_loopw [5, 6] (fun n ix wr => ∃ (k n0 : Nat), k ≤ s.size ∧ ix = .int .i64 k ∧ n = .int .i64 n0 ∧ n0 = dval (s.data.toList.take k) ∧ n0 < 10 ^ k ∧ wr = w) (fun _ ix _ => 4 - (intOf ix).toNat)
        case atStart => exact ⟨0, 0, by omega, rfl, rfl, HZ.out.symm, by omega, by trivial⟩
        case round =>
          obtain ⟨k, n0, hk, rfl, rfl, hn0, hn1, hwr⟩ := hrel
          subst hwr
          have HN0 := Lib.hid hn0
          have HN1 := Lib.hid hn1
          have h10 : 10 ^ k ≤ 10 ^ 4 := Nat.pow_le_pow_right (by omega) (by omega)
          have hb : n0 < 10000 := Nat.lt_of_lt_of_le hn1 h10
          clear hn0 hn1 h10
          by_cases hlt : k < s.size
          · obtain ⟨d1, d2⟩ := HD.out k hlt
            have b1 : ¬ ((s[k].toNat : Int) < 48) := by omega
            have b2 : ¬ ((s[k].toNat : Int) > 57) := by omega
            have w1 : IntKind.i64.wrap ((n0 : Int) * 10) = (n0 : Int) * 10 := IntWalk.i64_in _ (by omega)
            have w2 : IntKind.u8.wrap ((s[k].toNat : Int) - 48) = (s[k].toNat : Int) - 48 := by rw [IntKind.wrap_u8]; omega
            have w3 : IntKind.i64.wrap ((s[k].toNat : Int) - 48) = (s[k].toNat : Int) - 48 := IntWalk.i64_in _ (by omega)
            have w4 : IntKind.i64.wrap ((n0 : Int) * 10 + ((s[k].toNat : Int) - 48)) = (n0 : Int) * 10 + ((s[k].toNat : Int) - 48) := IntWalk.i64_in _ (by omega)
            have hnew : ((n0 * 10 + (s[k].toNat - 48) : Nat) : Int) = (n0 : Int) * 10 + ((s[k].toNat : Int) - 48) := by omega
            have HNEW := Lib.hid hnew
            have hpow : n0 * 10 + (s[k].toNat - 48) < 10 ^ (k + 1) := by have := HN1.out; rw [Nat.pow_succ]; omega
            have HPOW := Lib.hid hpow
            clear hnew hpow
            go_wp2_with fail
            go_roundw
            case rel => exact ⟨k + 1, n0 * 10 + (s[k].toNat - 48), by omega, by go_num, by rw [HNEW.out], by rw [HST.out k hlt, ← HN0.out], HPOW.out, by trivial⟩
            case measure => simp [intOf]; omega
          · obtain rfl : k = s.size := by omega
            have hV : n0 = V := by rw [HN0.out, HDV.out]
            subst hV
            go_wp2_with fail
            go_ret2
            rw [HV.out.1, HV.out.2]
            exact ⟨rfl, Below.refl _ _⟩
end Go.Proofs.YtihmgodiiohdnaaGreatDoor.rdr
