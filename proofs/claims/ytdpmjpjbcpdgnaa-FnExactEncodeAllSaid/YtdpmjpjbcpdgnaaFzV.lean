/- FrameValid, of the model and of impl. No condition but that a text's size is an int. -/
import Derived.Test.YtdpmjpjbcpdgnaaProg
import Derived.Test.YtdpmjpjbcpdgnaaFzW
import Derived.Lib.IndexBytes
namespace Go.Proofs.Ytdpmjpjbcpdgnaa
open Go.RowKit

/-- spec.l11Byte. -/
theorem byte_any (c : UInt8) (w : World) :
    Calls Try.prog 27 #[.int .u8 (c.toNat : Int)] w fun e w' => e = .returned (.bool (fz.okc c)) ∧ w = w' := by
  have hc : fz.okc c = (decide (c.toNat = 10) || (decide (32 ≤ c.toNat) && decide (c.toNat ≤ 126))) := by
    unfold fz.okc
    congr 1
    rw [Bool.eq_iff_iff, beq_iff_eq, decide_eq_true_eq]
    exact ⟨fun h => by rw [h]; rfl, fun h => UInt8.toNat_inj.1 h⟩
  generalize fz.okc c = r at *
  generalize c.toNat = n at *
  by_cases h10 : n = 10
  · subst h10
    have HR : Hid (r = true) := Lib.hid (by rw [hc]; decide)
    clear hc
    go_enter Try.func27, Try.ntmps27
    go_wp2_with fail
    go_ret
    rw [HR.out]
    exact ⟨rfl, rfl⟩
  · have t0 : ((n : Int) == 10) = false := by rw [beq_eq_false_iff_ne]; omega
    by_cases h32 : 32 ≤ n
    · have t1 : (32 : Int) ≤ (n : Int) := by omega
      by_cases h126 : n ≤ 126
      · have HR : Hid (r = true) := Lib.hid (by rw [hc, decide_eq_true h32, decide_eq_true h126]; simp)
        have t2 : decide ((n : Int) ≤ 126) = true := by simp; omega
        clear hc h10 h32 h126
        go_enter Try.func27, Try.ntmps27
        go_wp2_with fail
        go_ret
        rw [HR.out]
        exact ⟨rfl, rfl⟩
      · have HR : Hid (r = false) := Lib.hid (by rw [hc, decide_eq_false h126, decide_eq_false h10]; simp)
        have t2 : decide ((n : Int) ≤ 126) = false := by simp; omega
        clear hc h10 h32 h126
        go_enter Try.func27, Try.ntmps27
        go_wp2_with fail
        go_ret
        rw [HR.out]
        exact ⟨rfl, rfl⟩
    · have HR : Hid (r = false) := Lib.hid (by rw [hc, decide_eq_false h32, decide_eq_false h10]; simp)
      have t1 : ¬ (32 : Int) ≤ (n : Int) := by omega
      have t1' : decide ((32 : Int) ≤ (n : Int)) = false := by simp; omega
      clear hc h10 h32
      go_enter Try.func27, Try.ntmps27
      go_wp2_with fail
      go_ret
      rw [HR.out]
      exact ⟨rfl, rfl⟩

theorem all_to (s : ByteArray) (k : Nat) (hk : ¬ k < s.size) (h : ∀ j, j < k → ∃ c, s.data.toList[j]? = some c ∧ fz.okc c = true) : fz.okS s.data.toList = true := by
  unfold fz.okS
  rw [List.all_eq_true]
  intro c hc
  obtain ⟨j, hj⟩ := List.mem_iff_getElem?.1 hc
  have hjl : j < s.data.toList.length := (List.getElem?_eq_some_iff.1 hj).1
  have hsz : s.data.toList.length = s.size := rfl
  obtain ⟨c', hc', hl⟩ := h j (by omega)
  rw [hj] at hc'
  cases hc'
  exact hl
theorem all_no (s : ByteArray) (k : Nat) (c : UInt8) (h : s.data.toList[k]? = some c) (hc : fz.okc c = false) : fz.okS s.data.toList = false := by
  unfold fz.okS
  rw [← Bool.not_eq_true, List.all_eq_true]
  intro hall
  rw [hall c (List.mem_of_getElem? h)] at hc
  cases hc
def txtB (s : ByteArray) : Bool := fz.okS s.data.toList && decide (s.size ≤ 2000)

set_option maxHeartbeats 1000000 in
/-- spec.l11Text. -/
theorem text_any (s : ByteArray) (w : World) (hs : s.size ≤ maxLen) :
    Calls Try.prog 21 #[.string s] w fun e w' => e = .returned (.bool (txtB s)) ∧ w = w' := by
  unfold maxLen at hs
  go_enter Try.func21, Try.ntmps21
  go_wp2_with fail
  go_loop [3] (fun i => ∃ k : Nat, k ≤ s.size ∧ i = .int .i64 k ∧ ∀ j, j < k → ∃ c, s.data.toList[j]? = some c ∧ fz.okc c = true) (fun i => s.size - (intOf i).toNat)
  case atStart => exact ⟨0, Nat.zero_le _, rfl, fun j h => absurd h (Nat.not_lt_zero j)⟩
  case round =>
    obtain ⟨k, hk, rfl, hlow⟩ := hrel
    have HL := Lib.hid hlow
    clear hlow
    by_cases hlt : k < s.size
    · have hat : s.data.toList[k]? = some s[k] := Lib.data_getElem? s k hlt
      have HA := Lib.hid hat
      have C1 := fun w => byte_any s[k] w
      cases hb : fz.okc s[k] with
      | true =>
        rw [hb] at C1
        have HB := Lib.hid hb
        have H1 := Lib.hid C1
        clear hat hb C1
        go_wp2_with (go_at_call 27; refine (H1.out _).mono ?_; rintro e w' ⟨rfl, rfl⟩)
        go_round
        case rel =>
          refine ⟨k + 1, by omega, by go_num, fun j hj => ?_⟩
          rcases Nat.lt_succ_iff_lt_or_eq.1 hj with h | h
          · exact HL.out j h
          · subst h; exact ⟨_, HA.out, HB.out⟩
        case measure => simp [intOf]; omega
      | false =>
        rw [hb] at C1
        have HV : Hid (txtB s = false) := Lib.hid (by unfold txtB; rw [all_no s k _ hat hb]; rfl)
        have H1 := Lib.hid C1
        clear hat hb C1
        go_wp2_with (go_at_call 27; refine (H1.out _).mono ?_; rintro e w' ⟨rfl, rfl⟩)
        go_ret
        rw [HV.out]
        exact ⟨rfl, rfl⟩
    · have HV : Hid (txtB s = decide (s.size ≤ 2000)) := Lib.hid (by unfold txtB; rw [all_to s k hlt HL.out]; rfl)
      by_cases h2 : s.size ≤ 2000
      · have t2 : decide ((s.size : Int) ≤ 2000) = true := by simp; omega
        have HV2 : Hid (txtB s = true) := Lib.hid (by rw [HV.out, decide_eq_true h2])
        go_wp2_with fail
        go_ret
        rw [HV2.out]
        exact ⟨rfl, rfl⟩
      · have t2 : decide ((s.size : Int) ≤ 2000) = false := by simp; omega
        have HV2 : Hid (txtB s = false) := Lib.hid (by rw [HV.out, decide_eq_false h2])
        go_wp2_with fail
        go_ret
        rw [HV2.out]
        exact ⟨rfl, rfl⟩

set_option maxHeartbeats 1000000 in
/-- impl.isPayload. -/
theorem pay_any (s : ByteArray) (w : World) (hs : s.size ≤ maxLen) :
    Calls Try.prog 22 #[.string s] w fun e w' => e = .returned (.bool (fz.okS s.data.toList)) ∧ w = w' := by
  unfold maxLen at hs
  go_enter Try.func22, Try.ntmps22
  go_wp2_with fail
  go_loop [6] (fun i => ∃ k : Nat, k ≤ s.size ∧ i = .int .i64 k ∧ ∀ j, j < k → ∃ c, s.data.toList[j]? = some c ∧ fz.okc c = true) (fun i => s.size - (intOf i).toNat)
  case atStart => exact ⟨0, Nat.zero_le _, rfl, fun j h => absurd h (Nat.not_lt_zero j)⟩
  case round =>
    obtain ⟨k, hk, rfl, hlow⟩ := hrel
    have HL := Lib.hid hlow
    clear hlow
    by_cases hlt : k < s.size
    · have hat : s.data.toList[k]? = some s[k] := Lib.data_getElem? s k hlt
      have HA := Lib.hid hat
      have hc : fz.okc s[k] = (decide (s[k].toNat = 10) || (decide (32 ≤ s[k].toNat) && decide (s[k].toNat ≤ 126))) := by
        unfold fz.okc
        congr 1
        rw [Bool.eq_iff_iff, beq_iff_eq, decide_eq_true_eq]
        exact ⟨fun h => by rw [h]; rfl, fun h => UInt8.toNat_inj.1 h⟩
      have HN := fun h => all_no s k _ hat h
      have HNO := Lib.hid HN
      clear hat HN
      have HC := Lib.hid hc
      clear hc
      by_cases h10 : s[k].toNat = 10
      · have t0 : ((s[k].toNat : Int) != 10) = false := by rw [h10]; rfl
        have t0' : ((s[k].toNat : Int) == 10) = true := by rw [h10]; rfl
        have HB : Hid (fz.okc s[k] = true) := Lib.hid (by rw [HC.out, decide_eq_true h10]; rfl)
        clear h10 HC HNO
        go_wp2_with fail
        go_round
        case rel =>
          refine ⟨k + 1, by omega, by go_num, fun j hj => ?_⟩
          rcases Nat.lt_succ_iff_lt_or_eq.1 hj with h | h
          · exact HL.out j h
          · subst h; exact ⟨_, HA.out, HB.out⟩
        case measure => simp [intOf]; omega
      · have t0 : ((s[k].toNat : Int) != 10) = true := by simp; omega
        have t0' : ((s[k].toNat : Int) == 10) = false := by rw [beq_eq_false_iff_ne]; omega
        by_cases h32 : 32 ≤ s[k].toNat
        · have t1 : ¬ (s[k].toNat : Int) < 32 := by omega
          by_cases h126 : s[k].toNat ≤ 126
          · have t2 : ¬ (126 : Int) < (s[k].toNat : Int) := by omega
            have t2' : decide ((126 : Int) < (s[k].toNat : Int)) = false := by simp; omega
            have HB : Hid (fz.okc s[k] = true) := Lib.hid (by rw [HC.out, decide_eq_true h32, decide_eq_true h126]; simp)
            clear h10 h32 h126 HC HNO
            go_wp2_with fail
            go_round
            case rel =>
              refine ⟨k + 1, by omega, by go_num, fun j hj => ?_⟩
              rcases Nat.lt_succ_iff_lt_or_eq.1 hj with h | h
              · exact HL.out j h
              · subst h; exact ⟨_, HA.out, HB.out⟩
            case measure => simp [intOf]; omega
          · have t2 : (126 : Int) < (s[k].toNat : Int) := by omega
            have HV : Hid (fz.okS s.data.toList = false) := Lib.hid (HNO.out (by rw [HC.out, decide_eq_false h126, decide_eq_false h10]; simp))
            clear h10 h32 h126 HC HNO
            go_wp2_with fail
            go_ret
            rw [HV.out]
            exact ⟨rfl, rfl⟩
        · have t1 : (s[k].toNat : Int) < 32 := by omega
          have HV : Hid (fz.okS s.data.toList = false) := Lib.hid (HNO.out (by rw [HC.out, decide_eq_false h32, decide_eq_false h10]; simp))
          clear h10 h32 HC HNO
          go_wp2_with fail
          go_ret
          rw [HV.out]
          exact ⟨rfl, rfl⟩
    · have HV : Hid (fz.okS s.data.toList = true) := Lib.hid (all_to s k hlt HL.out)
      go_wp2_with fail
      go_ret
      rw [HV.out]
      exact ⟨rfl, rfl⟩

theorem okF_eq (t : Int) (s : ByteArray) : fz.okF ⟨t, s⟩ = (decide (1 ≤ t) && decide (t ≤ 7) && fz.okS s.data.toList && decide (s.size ≤ 2000)) := rfl
set_option maxHeartbeats 1000000 in
/-- spec.FrameValid. -/
theorem specFV_any (t : Int) (s : ByteArray) (w : World) (hs : s.size ≤ maxLen) :
    Calls Try.prog 7 #[.agg #[.int .i64 t, .string s]] w fun e w' => e = .returned (.bool (fz.okF ⟨t, s⟩)) ∧ Below w.heap.size w w' := by
  have hv := okF_eq t s
  generalize fz.okF ⟨t, s⟩ = r at *
  have HBL := Lib.hid ((Below.refl w.heap.size w).alloc (Nat.le_refl _) (.cells #[.int .i64 t, .string s] 26))
  have C1 := fun w => text_any s w hs
  have H1 := Lib.hid C1
  clear C1
  by_cases h1 : 1 ≤ t
  · have t1 : (1 : Int) ≤ t := h1
    by_cases h7 : t ≤ 7
    · have t2 : t ≤ 7 := h7
      have t2' : decide (t ≤ 7) = true := by simpa using h7
      have HV : Hid (r = txtB s) := Lib.hid (by rw [hv, decide_eq_true h1, decide_eq_true h7]; rfl)
      clear hv h1 h7
      go_enter Try.func7, Try.ntmps7
      go_wp2_with (go_at_call 21; refine (H1.out _).mono ?_; rintro e w' ⟨rfl, rfl⟩)
      go_ret
      rw [HV.out]
      exact ⟨rfl, HBL.out⟩
    · have t2 : ¬ t ≤ 7 := h7
      have t2' : decide (t ≤ 7) = false := by simpa using h7
      have HV : Hid (r = false) := Lib.hid (by rw [hv, decide_eq_false h7]; simp)
      clear hv h1 h7
      go_enter Try.func7, Try.ntmps7
      go_wp2_with fail
      go_ret
      rw [HV.out]
      exact ⟨rfl, HBL.out⟩
  · have t1 : ¬ (1 : Int) ≤ t := h1
    have HV : Hid (r = false) := Lib.hid (by rw [hv, decide_eq_false h1]; simp)
    clear hv h1
    go_enter Try.func7, Try.ntmps7
    go_wp2_with fail
    go_ret
    rw [HV.out]
    exact ⟨rfl, HBL.out⟩
set_option maxHeartbeats 1000000 in
/-- impl.FrameValid. -/
theorem implFV_any (t : Int) (s : ByteArray) (w : World) (hs : s.size ≤ maxLen) :
    Calls Try.prog 9 #[.agg #[.int .i64 t, .string s]] w fun e w' => e = .returned (.bool (fz.okF ⟨t, s⟩)) ∧ Below w.heap.size w w' := by
  have hv := okF_eq t s
  generalize fz.okF ⟨t, s⟩ = r at *
  have HBL := Lib.hid ((Below.refl w.heap.size w).alloc (Nat.le_refl _) (.cells #[.int .i64 t, .string s] 26))
  have C1 := fun w => pay_any s w hs
  have H1 := Lib.hid C1
  unfold maxLen at hs
  clear C1
  by_cases h1 : 1 ≤ t
  · have t1 : (1 : Int) ≤ t := h1
    by_cases h7 : t ≤ 7
    · have t2 : t ≤ 7 := h7
      have t2' : decide (t ≤ 7) = true := by simpa using h7
      by_cases h2 : s.size ≤ 2000
      · have t3 : (s.size : Int) ≤ 2000 := by omega
        have t3' : decide ((s.size : Int) ≤ 2000) = true := by simp; omega
        have HV : Hid (r = fz.okS s.data.toList) := Lib.hid (by rw [hv, decide_eq_true h1, decide_eq_true h7, decide_eq_true h2]; simp)
        clear hv h1 h7 h2
        go_enter Try.func9, Try.ntmps9
        go_wp2_with (go_at_call 22; refine (H1.out _).mono ?_; rintro e w' ⟨rfl, rfl⟩)
        go_ret
        rw [HV.out]
        exact ⟨rfl, HBL.out⟩
      · have t3 : ¬ (s.size : Int) ≤ 2000 := by omega
        have t3' : decide ((s.size : Int) ≤ 2000) = false := by simp; omega
        have HV : Hid (r = false) := Lib.hid (by rw [hv, decide_eq_false h2]; simp)
        clear hv h1 h7 h2
        go_enter Try.func9, Try.ntmps9
        go_wp2_with fail
        go_ret
        rw [HV.out]
        exact ⟨rfl, HBL.out⟩
    · have t2 : ¬ t ≤ 7 := h7
      have t2' : decide (t ≤ 7) = false := by simpa using h7
      have HV : Hid (r = false) := Lib.hid (by rw [hv, decide_eq_false h7]; simp)
      clear hv h1 h7
      go_enter Try.func9, Try.ntmps9
      go_wp2_with fail
      go_ret
      rw [HV.out]
      exact ⟨rfl, HBL.out⟩
  · have t1 : ¬ (1 : Int) ≤ t := h1
    have HV : Hid (r = false) := Lib.hid (by rw [hv, decide_eq_false h1]; simp)
    clear hv h1
    go_enter Try.func9, Try.ntmps9
    go_wp2_with fail
    go_ret
    rw [HV.out]
    exact ⟨rfl, HBL.out⟩
end Go.Proofs.Ytdpmjpjbcpdgnaa
