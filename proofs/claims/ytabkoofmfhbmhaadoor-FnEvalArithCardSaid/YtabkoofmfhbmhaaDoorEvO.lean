/- Arithmetic: the operations, the model's (l5Ranged, l5Mod, l5Div, l5Op) and the program's (checked, sum, difference, product, quotient, remainder, operationFor). Condition: the numbers are small. -/
import Derived.Test.YtabkoofmfhbmhaaDoorProg
import Derived.Test.YtabkoofmfhbmhaaDoorEv
import Derived.IntWalk
namespace Go.Proofs.YtabkoofmfhbmhaaDoor
open Go.RowKit

/-- An error in memory: nil for 0. -/
def errV (c : Int) : Value := if c = 0 then .nilIface else .iface 115 (.int .i64 c)

/-- spec.l5Ranged. -/
theorem rng_any (n : Int) (w : World) : Calls Tryd.prog 83 #[.int .i64 n] w fun e w' => e = .returned (.tuple #[.int .i64 (rg n).1, .int .i64 (rg n).2]) ∧ w = w' := by
  by_cases h1 : n < -999
  · have HV : Hid (rg n = (0, 5)) := Lib.hid (by unfold rg; exact if_pos (.inl h1))
    go_enter Tryd.func83, Tryd.ntmps83
    go_wp2
    go_ret2
    rw [HV.out]; exact ⟨rfl, rfl⟩
  · by_cases h2 : 999 < n
    · have HV : Hid (rg n = (0, 5)) := Lib.hid (by unfold rg; exact if_pos (.inr h2))
      go_enter Tryd.func83, Tryd.ntmps83
      go_wp2
      go_ret2
      rw [HV.out]; exact ⟨rfl, rfl⟩
    · have HV : Hid (rg n = (n, 0)) := Lib.hid (by unfold rg; exact if_neg (by omega))
      go_enter Tryd.func83, Tryd.ntmps83
      go_wp2
      go_ret2
      rw [HV.out]; exact ⟨rfl, rfl⟩
/-- impl.checked. -/
theorem chk_any (n : Int) (w : World) : Calls Tryd.prog 106 #[.int .i64 n] w fun e w' => e = .returned (.tuple #[.int .i64 (rg n).1, errV (rg n).2]) ∧ w = w' := by
  by_cases h1 : n < -999
  · have HV : Hid (rg n = (0, 5)) := Lib.hid (by unfold rg; exact if_pos (.inl h1))
    go_enter Tryd.func106, Tryd.ntmps106
    go_wp2
    go_ret2
    rw [HV.out]; exact ⟨rfl, rfl⟩
  · by_cases h2 : 999 < n
    · have HV : Hid (rg n = (0, 5)) := Lib.hid (by unfold rg; exact if_pos (.inr h2))
      go_enter Tryd.func106, Tryd.ntmps106
      go_wp2
      go_ret2
      rw [HV.out]; exact ⟨rfl, rfl⟩
    · have HV : Hid (rg n = (n, 0)) := Lib.hid (by unfold rg; exact if_neg (by omega))
      go_enter Tryd.func106, Tryd.ntmps106
      go_wp2
      go_ret2
      rw [HV.out]; exact ⟨rfl, rfl⟩
theorem modV_zero {a b : Int} (h : a.tmod b = 0) : modV a b = 0 := by unfold modV; rw [h]; simp
theorem modV_yes {a b : Int} (h : (a.tmod b != 0) = true ∧ (!decide (a.tmod b < 0) == decide (b < 0)) = true) : modV a b = a.tmod b + b := by
  unfold modV
  refine if_pos ⟨by simpa using h.1, ?_⟩
  have h2 := h.2
  simpa using h2
theorem modV_no {a b : Int} (h : (a.tmod b != 0) = false ∨ (!decide (a.tmod b < 0) == decide (b < 0)) = false) : modV a b = a.tmod b := by
  unfold modV
  refine if_neg fun hc => ?_
  rcases h with h | h
  · exact hc.1 (by simpa using h)
  · exact hc.2 (by simpa using h)
set_option maxHeartbeats 1000000 in
/-- spec.l5Mod. -/
theorem mod_any (a b : Int) (w : World) (ha : Small a) (hb : Small b) (h0 : b ≠ 0) : Calls Tryd.prog 84 #[.int .i64 a, .int .i64 b] w fun e w' => e = .returned (.int .i64 (modV a b)) ∧ w = w' := by
  obtain ⟨h1, h2⟩ := tmod_small (a := a) hb h0
  unfold Small at ha hb h1
  obtain ⟨a1, a2⟩ := ha
  obtain ⟨b1, b2⟩ := hb
  obtain ⟨m1, m2⟩ := h1
  have hbz : (b == 0) = false := by rw [beq_eq_false_iff_ne]; exact h0
  go_enter Tryd.func84, Tryd.ntmps84
  go_wp2
  · rename_i h
    go_ret
    rw [modV_zero h]; exact ⟨rfl, rfl⟩
  · rename_i h
    go_ret
    rw [modV_yes h]; exact ⟨rfl, rfl⟩
  · rename_i h
    go_ret
    rw [modV_no h]; exact ⟨rfl, rfl⟩
/-- spec.l5Div. -/
theorem div_any (a b : Int) (w : World) (ha : Small a) (h0 : b ≠ 0) : Calls Tryd.prog 85 #[.int .i64 a, .int .i64 b] w fun e w' => e = .returned (.int .i64 (a.tdiv b)) ∧ w = w' := by
  have h1 := tdiv_small (b := b) ha
  unfold Small at ha h1
  obtain ⟨a1, a2⟩ := ha
  obtain ⟨m1, m2⟩ := h1
  have hbz : (b == 0) = false := by rw [beq_eq_false_iff_ne]; exact h0
  go_enter Tryd.func85, Tryd.ntmps85
  go_wp2
  go_ret
  exact ⟨rfl, rfl⟩
theorem mul_small {a b : Int} (ha : Small a) (hb : Small b) : -998001 ≤ a * b ∧ a * b ≤ 998001 := by
  have h1 : (a * b).natAbs ≤ 999 * 999 := by
    rw [Int.natAbs_mul]
    unfold Small at ha hb
    exact Nat.mul_le_mul (by omega) (by omega)
  omega
theorem rg_id {v : Int} (h : Small v) : rg v = (v, 0) := by
  unfold Small at h
  unfold rg
  exact if_neg (by omega)

set_option maxHeartbeats 2000000 in
/-- spec.l5Op. -/
theorem opS_any (s : ByteArray) (a b : Int) (w : World) (ha : Small a) (hb : Small b) (h0 : arOp s.data.toList ≠ 0) :
    Calls Tryd.prog 68 #[.string s, .int .i64 a, .int .i64 b] w fun e w' => e = .returned (.tuple #[.int .i64 (opV (arOp s.data.toList) a b).1, .int .i64 (opV (arOp s.data.toList) a b).2]) ∧ w = w' := by
  have hl := ByteArray.toList_eq s
  have C1 := rng_any
  have H1 := Lib.hid C1
  have hmul := mul_small ha hb
  have HMO := Lib.hid fun w1 h => mod_any a b w1 ha hb h
  have HDI := Lib.hid fun w1 h => div_any a b w1 ha h
  unfold Small at ha hb
  obtain ⟨a1, a2⟩ := ha
  obtain ⟨b1, b2⟩ := hb
  obtain ⟨u1, u2⟩ := hmul
  clear C1
  rcases ar_cases s.data.toList with ⟨hs, hv⟩ | ⟨hs, hv⟩ | ⟨hs, hv⟩ | ⟨hs, hv⟩ | ⟨hs, hv⟩ | ⟨_, hv⟩
  case inr.inr.inr.inr.inr => exact absurd hv h0
  all_goals
    rw [hv]
    rw [hs] at hl
    have HL := Lib.hid hl
    clear hl hs hv h0
    have t0 : (s.toList == [43]) = _ := congrArg (fun l => l == ([43] : List UInt8)) HL.out
    have t1 : (s.toList == [45]) = _ := congrArg (fun l => l == ([45] : List UInt8)) HL.out
    have t2 : (s.toList == [42]) = _ := congrArg (fun l => l == ([42] : List UInt8)) HL.out
    have t4 : (s.toList == [109, 111, 100]) = _ := congrArg (fun l => l == ([109, 111, 100] : List UInt8)) HL.out
  · go_enter Tryd.func68, Tryd.ntmps68
    go_wp2_with (go_at_call 83; refine (H1.out _ _).mono ?_; rintro e w' ⟨rfl, rfl⟩)
    go_ret2
    exact ⟨rfl, rfl⟩
  · go_enter Tryd.func68, Tryd.ntmps68
    go_wp2_with (go_at_call 83; refine (H1.out _ _).mono ?_; rintro e w' ⟨rfl, rfl⟩)
    go_ret2
    exact ⟨rfl, rfl⟩
  · go_enter Tryd.func68, Tryd.ntmps68
    go_wp2_with (go_at_call 83; refine (H1.out _ _).mono ?_; rintro e w' ⟨rfl, rfl⟩)
    go_ret2
    exact ⟨rfl, rfl⟩
  · by_cases hz : b = 0
    · subst hz
      go_enter Tryd.func68, Tryd.ntmps68
      go_wp2_with fail
      go_ret2
      exact ⟨rfl, rfl⟩
    · have hbz : (b == 0) = false := by rw [beq_eq_false_iff_ne]; exact hz
      have HV : Hid (opV 4 a b = (a.tdiv b, 0)) := Lib.hid (by unfold opV; simp [hz])
      have H2 := Lib.hid fun w1 => HDI.out w1 hz
      clear hz
      go_enter Tryd.func68, Tryd.ntmps68
      go_wp2_with (go_at_call 85; refine (H2.out _).mono ?_; rintro e w' ⟨rfl, rfl⟩)
      go_ret2
      rw [HV.out]; exact ⟨rfl, rfl⟩
  · by_cases hz : b = 0
    · subst hz
      go_enter Tryd.func68, Tryd.ntmps68
      go_wp2_with fail
      go_ret2
      exact ⟨rfl, rfl⟩
    · have hbz : (b == 0) = false := by rw [beq_eq_false_iff_ne]; exact hz
      have HV : Hid (opV 5 a b = (modV a b, 0)) := Lib.hid (by unfold opV; simp [hz])
      have H2 := Lib.hid fun w1 => HMO.out w1 hz
      clear hz
      go_enter Tryd.func68, Tryd.ntmps68
      go_wp2_with (go_at_call 84; refine (H2.out _).mono ?_; rintro e w' ⟨rfl, rfl⟩)
      go_ret2
      rw [HV.out]; exact ⟨rfl, rfl⟩

/-- What an operation's function does. -/
def OpC (kf o : Nat) : Prop := (∀ args w, (callFunc kf args).run Tryd.prog w = .ok (.enter kf args) w) ∧ ∀ a b w, Small a → Small b →
  Calls Tryd.prog kf #[.int .i64 a, .int .i64 b] w fun e w' => e = .returned (.tuple #[.int .i64 (opV o a b).1, errV (opV o a b).2]) ∧ w = w'

theorem sum_c : OpC 93 1 := by
  refine ⟨fun args w => by kernel_rfl, fun a b w ha hb => ?_⟩
  have C1 := chk_any
  have H1 := Lib.hid C1
  unfold Small at ha hb
  clear C1
  go_enter Tryd.func93, Tryd.ntmps93
  go_wp2_with (go_at_call 106; refine (H1.out _ _).mono ?_; rintro e w' ⟨rfl, rfl⟩)
  go_ret2
  exact ⟨rfl, rfl⟩
theorem difference_c : OpC 94 2 := by
  refine ⟨fun args w => by kernel_rfl, fun a b w ha hb => ?_⟩
  have C1 := chk_any
  have H1 := Lib.hid C1
  unfold Small at ha hb
  clear C1
  go_enter Tryd.func94, Tryd.ntmps94
  go_wp2_with (go_at_call 106; refine (H1.out _ _).mono ?_; rintro e w' ⟨rfl, rfl⟩)
  go_ret2
  exact ⟨rfl, rfl⟩
theorem product_c : OpC 95 3 := by
  refine ⟨fun args w => by kernel_rfl, fun a b w ha hb => ?_⟩
  have C1 := chk_any
  have H1 := Lib.hid C1
  have hmul := mul_small ha hb
  unfold Small at ha hb
  clear C1
  go_enter Tryd.func95, Tryd.ntmps95
  go_wp2_with (go_at_call 106; refine (H1.out _ _).mono ?_; rintro e w' ⟨rfl, rfl⟩)
  go_ret2
  exact ⟨rfl, rfl⟩
theorem quotient_c : OpC 96 4 := by
  refine ⟨fun args w => by kernel_rfl, fun a b w ha hb => ?_⟩
  by_cases hz : b = 0
  · subst hz
    go_enter Tryd.func96, Tryd.ntmps96
    go_wp2_with fail
    go_ret2
    exact ⟨rfl, rfl⟩
  · have h1 := tdiv_small (b := b) ha
    have C1 := chk_any (a.tdiv b)
    rw [rg_id h1] at C1
    have hbz : (b == 0) = false := by rw [beq_eq_false_iff_ne]; exact hz
    have HV : Hid (opV 4 a b = (a.tdiv b, 0)) := Lib.hid (by unfold opV; simp [hz])
    have H1 := Lib.hid C1
    unfold Small at ha hb h1
    clear C1
    go_enter Tryd.func96, Tryd.ntmps96
    go_wp2_with (go_at_call 106; refine (H1.out _).mono ?_; rintro e w' ⟨rfl, rfl⟩)
    go_ret2
    rw [HV.out]; exact ⟨rfl, rfl⟩
set_option maxHeartbeats 1000000 in
theorem remainder_c : OpC 97 5 := by
  refine ⟨fun args w => by kernel_rfl, fun a b w ha hb => ?_⟩
  by_cases hz : b = 0
  · subst hz
    go_enter Tryd.func97, Tryd.ntmps97
    go_wp2_with fail
    go_ret2
    exact ⟨rfl, rfl⟩
  · obtain ⟨h1, h2⟩ := tmod_small (a := a) hb hz
    have HS := Lib.hid (modV_small (a := a) hb hz)
    have C1 := chk_any
    have hbz : (b == 0) = false := by rw [beq_eq_false_iff_ne]; exact hz
    have HV : Hid (opV 5 a b = (modV a b, 0)) := Lib.hid (by unfold opV; simp [hz])
    have H1 := Lib.hid C1
    unfold Small at ha hb h1
    clear C1
    go_enter Tryd.func97, Tryd.ntmps97
    go_wp2_with (go_at_call 106; refine (H1.out _ _).mono ?_; rintro e w' ⟨rfl, rfl⟩)
    · rename_i h
      go_ret2
      rw [HV.out, modV_zero h]; exact ⟨rfl, rfl⟩
    · rename_i h
      go_ret2
      rw [HV.out, ← modV_yes h, rg_id HS.out]; exact ⟨rfl, rfl⟩
    · rename_i h
      go_ret2
      rw [HV.out, ← modV_no h, rg_id HS.out]; exact ⟨rfl, rfl⟩
end Go.Proofs.YtabkoofmfhbmhaaDoor
