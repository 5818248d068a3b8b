/- NameValid: the walks of spec.NameValid, impl.NameValid and what they call. Condition: the table of signs lies in its variable. -/
import Derived.Test.YtihmgodiiohdnaaGreatDoorProg
import Derived.Test.YtihmgodiiohdnaaGreatDoorNvPlain
import Derived.WalkKit
import Derived.WalkSpells
import Derived.Outline
import Derived.Laws.Rows
import Derived.Below
import Derived.Lib.Hide
namespace Go.Proofs.YtihmgodiiohdnaaGreatDoor.nv
open Go.RowKit

theorem extract_le (s : ByteArray) (n : Nat) (_h : n ≤ s.size) : (s.extract 0 n).data.toList = s.data.toList.take n := by
  simp [ByteArray.data_extract]

/-- strings.HasPrefix. -/
theorem pre_any (s p : ByteArray) (w : World) (hs0 : s.size ≤ maxLen) (hp0 : p.size ≤ maxLen) :
    Calls Tryz.prog 136 #[.string s, .string p] w fun e w' => e = .returned (.bool (p.data.toList.isPrefixOf s.data.toList)) ∧ w = w' := by
  have hs : s.size ≤ 9223372036854775807 := hs0
  have hp : p.size ≤ 9223372036854775807 := hp0
  clear hs0 hp0
  by_cases h : p.size ≤ s.size
  · have H : Hid (((s.extract 0 p.size).toList == p.toList) = p.data.toList.isPrefixOf s.data.toList) := by
      rw [ByteArray.toList_eq, ByteArray.toList_eq, extract_le s _ h, Bool.eq_iff_iff, beq_iff_eq, List.isPrefixOf_iff_prefix, List.prefix_iff_eq_take]
      exact ⟨fun e => e.symm, fun e => e.symm⟩
    go_enter Tryz.func136, Tryz.ntmps136
    go_wp2
    go_ret
    rw [← H.out]
    exact ⟨rfl, rfl⟩
  · have H : Hid (p.data.toList.isPrefixOf s.data.toList = false) := by
      rw [← Bool.not_eq_true, List.isPrefixOf_iff_prefix]
      intro hh
      exact h hh.length_le
    go_enter Tryz.func136, Tryz.ntmps136
    go_wp2
    go_ret
    rw [H.out]
    exact ⟨rfl, rfl⟩

set_option maxHeartbeats 400000 in
/-- spec.l1Word. -/
theorem word_any (s : ByteArray) (w : World) (hs : s.size ≤ maxLen) :
    Calls Tryz.prog 49 #[.string s] w fun e w' => e = .returned (.bool (wordB s.data.toList)) ∧ w = w' := by
  unfold maxLen at hs
  go_enter Tryz.func49, Tryz.ntmps49
  go_wp2
  go_loop [3] (fun i => ∃ k : Nat, k ≤ s.size ∧ i = .int .i64 k ∧ ∀ j, j < k → ∃ c, s.data.toList[j]? = some c ∧ lowB c = true) (fun i => s.size - (intOf i).toNat)
  case atStart => exact ⟨0, Nat.zero_le _, rfl, fun j h => absurd h (Nat.not_lt_zero j)⟩
  case round =>
    obtain ⟨k, hk, rfl, hlow⟩ := hrel
    have HL := Lib.hid hlow
    clear hlow
    by_cases hlt : k < s.size
    · have hat : s.data.toList[k]? = some s[k] := Lib.data_getElem? s k hlt
      by_cases hb : lowB s[k] = true
      · have H1 := hb
        simp only [lowB, Bool.and_eq_true, decide_eq_true_eq] at H1
        have b1 : (97 : Int) ≤ (s[k].toNat : Int) := by omega
        have b2 : (s[k].toNat : Int) ≤ 122 := by omega
        have HA := Lib.hid hat
        have HB := Lib.hid hb
        clear hat hb H1
        go_wp2
        go_round
        case rel =>
          refine ⟨k + 1, by omega, by go_num, fun j hj => ?_⟩
          rcases Nat.lt_succ_iff_lt_or_eq.1 hj with h | h
          · exact HL.out j h
          · subst h; exact ⟨_, HA.out, HB.out⟩
        case measure => simp [intOf]; omega
      · have HW : Hid (wordB s.data.toList = false) := by
          have hm : s[k] ∈ s.data.toList := List.mem_of_getElem? hat
          have : s.data.toList.all lowB = false := by
            rw [← Bool.not_eq_true, List.all_eq_true]
            intro hall
            exact hb (hall _ hm)
          unfold wordB
          rw [this]; rfl
        have H1 := hb
        simp only [lowB, Bool.and_eq_true, decide_eq_true_eq] at H1
        clear hat hb
        rcases Nat.lt_or_ge s[k].toNat 97 with h97 | h97
        · have b1 : (s[k].toNat : Int) < 97 := by omega
          clear H1
          go_wp2
          go_ret
          rw [HW.out]; exact ⟨rfl, rfl⟩
        · have b1 : ¬ (s[k].toNat : Int) < 97 := by omega
          have b2 : (122 : Int) < (s[k].toNat : Int) := by omega
          clear H1
          go_wp2
          go_ret
          rw [HW.out]; exact ⟨rfl, rfl⟩
    · have HW : Hid (wordB s.data.toList = (decide (1 ≤ s.size) && decide (s.size ≤ 6))) := by
        have : s.data.toList.all lowB = true := by
          rw [List.all_eq_true]
          intro c hc
          obtain ⟨j, hj⟩ := List.mem_iff_getElem?.1 hc
          have hjl : j < s.data.toList.length := by
            rcases Nat.lt_or_ge j s.data.toList.length with h | h
            · exact h
            · rw [List.getElem?_eq_none h] at hj; cases hj
          have hsz : s.data.toList.length = s.size := rfl
          obtain ⟨c', hc', hl⟩ := HL.out j (by omega)
          rw [hj] at hc'
          cases hc'
          exact hl
        unfold wordB
        rw [this]; rfl
      by_cases h1 : 1 ≤ s.size
      · by_cases h6 : s.size ≤ 6
        · have HV : Hid (wordB s.data.toList = true) := by rw [HW.out, decide_eq_true h1, decide_eq_true h6]; rfl
          have d6 : decide ((s.size : Int) ≤ 6) = true := by simp; omega
          clear HW
          go_wp2
          go_ret
          rw [HV.out]; exact ⟨rfl, rfl⟩
        · have HV : Hid (wordB s.data.toList = false) := by rw [HW.out, decide_eq_true h1, decide_eq_false h6]; rfl
          have d6 : decide ((s.size : Int) ≤ 6) = false := by simp; omega
          clear HW
          go_wp2
          go_ret
          rw [HV.out]; exact ⟨rfl, rfl⟩
      · have HV : Hid (wordB s.data.toList = false) := by rw [HW.out, decide_eq_false h1]; rfl
        clear HW
        go_wp2
        go_ret
        rw [HV.out]; exact ⟨rfl, rfl⟩

/-- spec.l1Signs: fifteen strings in a new block. -/
theorem signs_any (w : World) :
    Calls Tryz.prog 98 #[] w fun e w' => e = .returned (.slice (some ⟨w.heap.size, 0, none⟩) 15 15) ∧ w' = w.alloc (.cells (signB.map Value.string).toArray 9) := by
  go_enter Tryz.func98, Tryz.ntmps98
  go_wp2
  go_ret
  exact ⟨rfl, rfl⟩

/-- What spec.l1Has answers. -/
def hasB (xs : List ByteArray) (s : ByteArray) : Bool := (xs.map (·.data.toList)).contains s.data.toList
/-- spec.l1Has. -/
theorem has_any (xs : List ByteArray) (a : Nat) (s : ByteArray) (w : World) (hl : xs.length ≤ 1000) (hc : ∀ i, i < xs.length → w.cell? ⟨a, i, none⟩ = some (.string (xs.getD i ByteArray.empty))) :
    Calls Tryz.prog 97 #[.slice (some ⟨a, 0, none⟩) xs.length xs.length, .string s] w fun e w' => e = .returned (.bool (hasB xs s)) ∧ w = w' := by
  have HC := Lib.hid hc
  clear hc
  generalize hn : xs.length = n at *
  have HN := Lib.hid hn
  clear hn
  go_enter Tryz.func97, Tryz.ntmps97
  go_wp2
  go_loop [5] (fun i => ∃ k : Nat, k ≤ n ∧ i = .int .i64 k ∧ ∀ j, j < k → (xs.getD j ByteArray.empty).data.toList ≠ s.data.toList) (fun i => n - (intOf i).toNat)
  case atStart => exact ⟨0, Nat.zero_le _, rfl, fun j h => absurd h (Nat.not_lt_zero j)⟩
  case round =>
    obtain ⟨k, hk, rfl, hno⟩ := hrel
    have HL := Lib.hid hno
    clear hno
    by_cases hlt : k < n
    · have hcell := HC.out k hlt
      by_cases he : (xs.getD k ByteArray.empty).data.toList = s.data.toList
      · have HV : Hid (hasB xs s = true) := by
          unfold hasB
          rw [List.contains_iff_mem, List.mem_map]
          have hkl : k < xs.length := by rw [HN.out]; exact hlt
          refine ⟨xs.getD k ByteArray.empty, ?_, he⟩
          simp [List.getD, hkl]
        have ht : ((xs.getD k ByteArray.empty).toList == s.toList) = true := by rw [ByteArray.toList_eq, ByteArray.toList_eq, he]; simp
        generalize xs.getD k ByteArray.empty = x at *
        clear he
        go_wp2
        go_ret
        rw [HV.out]; exact ⟨rfl, rfl⟩
      · have ht : ((xs.getD k ByteArray.empty).toList == s.toList) = false := by rw [ByteArray.toList_eq, ByteArray.toList_eq]; simpa using he
        have HE := Lib.hid he
        clear he
        generalize hx : xs.getD k ByteArray.empty = x at *
        have HX := Lib.hid hx
        clear hx
        go_wp2
        go_round
        case rel =>
          refine ⟨k + 1, by omega, by go_num, fun j hj => ?_⟩
          rcases Nat.lt_succ_iff_lt_or_eq.1 hj with h | h
          · exact HL.out j h
          · subst h; rw [HX.out]; exact HE.out
        case measure => simp [intOf]; omega
    · have HV : Hid (hasB xs s = false) := by
        unfold hasB
        rw [← Bool.not_eq_true, List.contains_iff_mem, List.mem_map]
        rintro ⟨x, hx, he⟩
        obtain ⟨j, hj⟩ := List.mem_iff_getElem?.1 hx
        have hjl : j < xs.length := by
          rcases Nat.lt_or_ge j xs.length with h | h
          · exact h
          · rw [List.getElem?_eq_none h] at hj; cases hj
        have hd : xs.getD j ByteArray.empty = x := by simp [List.getD, hj]
        have h1 := HN.out
        refine HL.out j (by omega) ?_
        rw [hd]; exact he
      go_wp2
      go_ret
      rw [HV.out]; exact ⟨rfl, rfl⟩

/-- spec.NameValid. -/
theorem spec_any (s : ByteArray) (w : World) (hs : s.size ≤ maxLen) :
    Calls Tryz.prog 80 #[.string s] w fun e w' => e = .returned (.bool (nameB s.data.toList)) ∧ Below w.heap.size w w' := by
  have hb : hasB signB s = signs.contains s.data.toList := by unfold hasB signB; rw [List.map_map]; congr 1
  by_cases hw : wordB s.data.toList = true
  · have HV : Hid (nameB s.data.toList = true) := by unfold nameB; rw [hw]; rfl
    have C1 := word_any s w hs
    rw [hw] at C1
    have H1 := Lib.hid C1
    clear hb hw C1
    go_enter Tryz.func80, Tryz.ntmps80
    go_wp2_with (go_at_call 49; refine H1.out.mono ?_; rintro e w' ⟨rfl, rfl⟩)
    go_ret
    rw [HV.out]; exact ⟨rfl, Below.refl _ _⟩
  · have hw' : wordB s.data.toList = false := by simpa using hw
    have HV : Hid (nameB s.data.toList = hasB signB s) := by unfold nameB; rw [hw', hb]; rfl
    have C1 := word_any s w hs
    rw [hw'] at C1
    have H1 := Lib.hid C1
    have C2 := has_any signB w.heap.size s (w.alloc (.cells (signB.map Value.string).toArray 9)) (by decide) (fun i hi => by
      rw [cell_of_row _ _ _ _ _ _ (heap_alloc_new w _)]
      simp [List.getD, hi])
    have hlen : signB.length = 15 := rfl
    rw [hlen] at C2
    have H2 := Lib.hid C2
    clear hb hw hw' C1 C2 hlen
    go_enter Tryz.func80, Tryz.ntmps80
    go_wp2_with (first
      | (go_at_call 49; refine H1.out.mono ?_; rintro e w' ⟨rfl, rfl⟩)
      | (go_at_call 98; refine (signs_any w).mono ?_; rintro e w' ⟨rfl, rfl⟩)
      | (go_at_call 97; refine H2.out.mono ?_; rintro e w' ⟨rfl, rfl⟩))
    go_ret
    rw [HV.out]; exact ⟨rfl, (Below.refl _ _).alloc (Nat.le_refl _) _⟩

/-- The table of signs, as an array's cells. -/
def signV : Array Value := (signB.map Value.string).toArray
/-- The table of signs lies in its variable. -/
def Tab (w : World) : Prop := ∃ t fr, w.heap[2]? = some (.cells signV t fr)
theorem Tab.below {w w' : World} (h : Tab w) (hb : Below w.heap.size w w') : Tab w' := by
  obtain ⟨t, fr, hf⟩ := h
  refine ⟨t, fr, ?_⟩
  have hlt : 2 < w.heap.size := by
    rcases Nat.lt_or_ge 2 w.heap.size with h | h
    · exact h
    · rw [Array.getElem?_eq_none h] at hf; cases hf
  exact (hb.block _ hlt).trans hf

theorem index_sign (k : Nat) (h : k < 15) (w : World) :
    (Instr.index 186 (.agg signV) (.int .i64 k)).run Tryz.prog w = .ok (.string (signB.getD k ByteArray.empty)) w := by
  have all : ∀ j : Fin 15, ∀ w, (Instr.index 186 (.agg signV) (.int .i64 (j.val : Nat))).run Tryz.prog w = .ok (.string (signB.getD j.val ByteArray.empty)) w := by
    intro j w
    match j with
    | ⟨0, _⟩ => (change _ = _; kernel_rfl)
    | ⟨1, _⟩ => (change _ = _; kernel_rfl)
    | ⟨2, _⟩ => (change _ = _; kernel_rfl)
    | ⟨3, _⟩ => (change _ = _; kernel_rfl)
    | ⟨4, _⟩ => (change _ = _; kernel_rfl)
    | ⟨5, _⟩ => (change _ = _; kernel_rfl)
    | ⟨6, _⟩ => (change _ = _; kernel_rfl)
    | ⟨7, _⟩ => (change _ = _; kernel_rfl)
    | ⟨8, _⟩ => (change _ = _; kernel_rfl)
    | ⟨9, _⟩ => (change _ = _; kernel_rfl)
    | ⟨10, _⟩ => (change _ = _; kernel_rfl)
    | ⟨11, _⟩ => (change _ = _; kernel_rfl)
    | ⟨12, _⟩ => (change _ = _; kernel_rfl)
    | ⟨13, _⟩ => (change _ = _; kernel_rfl)
    | ⟨14, _⟩ => (change _ = _; kernel_rfl)
  exact all ⟨k, h⟩ w

theorem step_yes (l p : List UInt8) (n : Nat) (h : n < p.length) (hp : p.isPrefixOf l = true) : stepSign l n p = p.length := by unfold stepSign; rw [if_pos ⟨h, hp⟩]
theorem step_no (l p : List UInt8) (n : Nat) (h : n < p.length → p.isPrefixOf l = false) : stepSign l n p = n := by
  unfold stepSign
  rw [if_neg]
  rintro ⟨h1, h2⟩
  rw [h h1] at h2
  cases h2

/-- impl.isLetter. -/
theorem letter_any (b : UInt8) (w : World) :
    Calls Tryz.prog 83 #[.int .u8 (b.toNat : Int)] w fun e w' => e = .returned (.bool (lowB b)) ∧ w = w' := by
  by_cases h1 : 97 ≤ b.toNat
  · by_cases h2 : b.toNat ≤ 122
    · have HV : Hid (lowB b = true) := Lib.hid (by unfold lowB; rw [decide_eq_true h1, decide_eq_true h2]; rfl)
      have b1 : (97 : Int) ≤ (b.toNat : Int) := by omega
      have d2 : decide ((b.toNat : Int) ≤ 122) = true := by simp; omega
      go_enter Tryz.func83, Tryz.ntmps83
      go_wp2
      go_ret
      rw [HV.out]; exact ⟨rfl, rfl⟩
    · have HV : Hid (lowB b = false) := Lib.hid (by unfold lowB; rw [decide_eq_true h1, decide_eq_false h2]; rfl)
      have b1 : (97 : Int) ≤ (b.toNat : Int) := by omega
      have d2 : decide ((b.toNat : Int) ≤ 122) = false := by simp; omega
      go_enter Tryz.func83, Tryz.ntmps83
      go_wp2
      go_ret
      rw [HV.out]; exact ⟨rfl, rfl⟩
  · have HV : Hid (lowB b = false) := Lib.hid (by unfold lowB; rw [decide_eq_false h1]; rfl)
    have b1 : (b.toNat : Int) < 97 := by omega
    have d1 : decide ((97 : Int) ≤ (b.toNat : Int)) = false := by simp; omega
    go_enter Tryz.func83, Tryz.ntmps83
    go_wp2
    go_ret
    rw [HV.out]; exact ⟨rfl, rfl⟩

set_option maxHeartbeats 1000000 in
/-- impl.nameLength: its first loop, and its second over the table. -/
theorem len_any (s : ByteArray) (w : World) (hs : s.size ≤ maxLen) (ht : Tab w) :
    Calls Tryz.prog 132 #[.string s] w fun e w' => e = .returned (.int .i64 (nameLen s.data.toList)) ∧ w = w' := by
  have hs' := Lib.hid hs
  unfold maxLen at hs
  obtain ⟨tt, fr, htab⟩ := ht
  have HT := Lib.hid htab
  clear htab
  have hidx := index_sign
  have HI := Lib.hid hidx
  clear hidx
  go_enter Tryz.func132, Tryz.ntmps132
  go_wp2
  go_loop [3] (fun i => ∃ k : Nat, k ≤ s.size ∧ i = .int .i64 k ∧ ∀ j, j < k → ∃ c, s.data.toList[j]? = some c ∧ lowB c = true) (fun i => s.size - (intOf i).toNat)
  case atStart => exact ⟨0, Nat.zero_le _, rfl, fun j h => absurd h (Nat.not_lt_zero j)⟩
  case round =>
    obtain ⟨k, hk, rfl, hlow⟩ := hrel
    have HL := Lib.hid hlow
    clear hlow
    by_cases hgo : ∃ h : k < s.size, lowB s[k] = true
    · obtain ⟨hlt, hb⟩ := hgo
      have hat : s.data.toList[k]? = some s[k] := Lib.data_getElem? s k hlt
      have CL : ∀ w1 : World, Calls Tryz.prog 83 #[.int .u8 (s[k].toNat : Int)] w1 fun e w' => e = .returned (.bool true) ∧ w1 = w' := fun w1 => by
        have := letter_any s[k] w1
        rwa [hb] at this
      have HCL := Lib.hid CL
      have HA := Lib.hid hat
      have HB := Lib.hid hb
      clear hat hb CL
      go_wp2_with (go_at_call 83; refine (HCL.out _).mono ?_; rintro e w' ⟨rfl, rfl⟩)
      go_round
      case rel =>
        refine ⟨k + 1, by omega, by go_num, fun j hj => ?_⟩
        rcases Nat.lt_succ_iff_lt_or_eq.1 hj with h | h
        · exact HL.out j h
        · subst h; exact ⟨_, HA.out, HB.out⟩
      case measure => simp [intOf]; omega
    · have HK : Hid (lowN s.data.toList = k) := by
        have hsz : s.data.toList.length = s.size := rfl
        refine lowN_eq _ _ (by omega) HL.out fun c hc => ?_
        have hlt : k < s.size := by
          rcases Nat.lt_or_ge k s.size with h | h
          · exact h
          · rw [List.getElem?_eq_none (by omega)] at hc; cases hc
        have hat : s.data.toList[k]? = some s[k] := Lib.data_getElem? s k hlt
        rw [hat] at hc
        cases hc
        rw [← Bool.not_eq_true]
        exact fun hh => hgo ⟨hlt, hh⟩
      have hways : s.size ≤ k ∨ ∃ h : k < s.size, lowB s[k] = false := by
        rcases Nat.lt_or_ge k s.size with h | h
        · exact .inr ⟨h, by rw [← Bool.not_eq_true]; exact fun hh => hgo ⟨h, hh⟩⟩
        · exact .inl h
      clear hgo HL
      have HW := Lib.hid hways
      clear hways
      by_cases h6 : 6 < k
      · have HV : Hid (nameLen s.data.toList = 0) := Lib.hid (by unfold nameLen; rw [HK.out, if_pos h6])
        rcases HW.out with hway | ⟨hlt, hway⟩
        · go_wp2
          go_ret
          rw [HV.out]; exact ⟨rfl, rfl⟩
        · have CL : ∀ w1 : World, Calls Tryz.prog 83 #[.int .u8 (s[k].toNat : Int)] w1 fun e w' => e = .returned (.bool false) ∧ w1 = w' := fun w1 => by
            have := letter_any s[k] w1
            rwa [hway] at this
          have HCL := Lib.hid CL
          clear CL hway
          go_wp2_with (go_at_call 83; refine (HCL.out _).mono ?_; rintro e w' ⟨rfl, rfl⟩)
          go_ret
          rw [HV.out]; exact ⟨rfl, rfl⟩
      · have HV : Hid (nameLen s.data.toList = signN s.data.toList 15) := Lib.hid (by unfold nameLen; rw [HK.out, if_neg h6])
        have H0 : Hid (signN s.data.toList 0 = k) := HK.out
        have CL : ∀ (h : k < s.size) (w1 : World), lowB s[k] = false → Calls Tryz.prog 83 #[.int .u8 (s[k].toNat : Int)] w1 fun e w' => e = .returned (.bool false) ∧ w1 = w' := fun h w1 hway => by
          have := letter_any s[k] w1
          rwa [hway] at this
        have HCL := Lib.hid CL
        clear CL
        rcases HW.out with hway | ⟨hlt, hway⟩
        case' inr =>
          have HWY := Lib.hid hway
          clear hway
        all_goals
          go_wp2_with (first | (go_at_call 83; refine (HCL.out hlt _ HWY.out).mono ?_; rintro e w' ⟨rfl, rfl⟩) | refine wpList_load_row rfl 186 _ rfl 2 rfl tt _ fr _ HT.out Tryz.underlying186 rfl (by kernel_rfl) ?_)
          go_loop [23, 4] (fun i n => ∃ j : Nat, j ≤ 15 ∧ i = .int .i64 j ∧ n = .int .i64 (signN s.data.toList j)) (fun i _ => 15 - (intOf i).toNat)
          case atStart => exact ⟨0, Nat.zero_le _, rfl, by rw [H0.out]⟩
          case round =>
            obtain ⟨j, hj, rfl, rfl⟩ := hrel
            by_cases hj15 : j < 15
            · have hx := fun w => HI.out j hj15 w
              have hnx := signN_succ s.data.toList j hj15
              rw [← signB_at j hj15] at hnx
              have hsm := signs_small j
              rw [← signB_at j hj15] at hsm
              have hnl := signN_le s.data.toList j
              have hsz : s.data.toList.length = s.size := rfl
              generalize hp : signB.getD j ByteArray.empty = p at *
              have hpz : p.data.toList.length = p.size := rfl
              rw [hpz] at hsm
              rw [hsz] at hnl
              generalize hn : signN s.data.toList j = n at *
              have HN := Lib.hid hn
              have HNX := Lib.hid hnx
              have HP := Lib.hid hpz
              clear hp hn hnx hsz hpz
              have C1 := pre_any s p w hs'.out (by unfold maxLen; omega)
              by_cases hlt2 : n < p.size
              · cases hpre : p.data.toList.isPrefixOf s.data.toList
                · have HE : Hid (signN s.data.toList (j + 1) = n) := Lib.hid (by rw [HNX.out, step_no _ _ _ (fun _ => hpre)])
                  rw [hpre] at C1
                  have H1 := Lib.hid C1
                  clear C1 hpre
                  go_wp2_with (go_at_call 136; refine H1.out.mono ?_; rintro e w' ⟨rfl, rfl⟩)
                  go_round
                  case rel => exact ⟨j + 1, by omega, by go_num, by rw [HE.out]⟩
                  case measure => simp [intOf]; omega
                · have HE : Hid (signN s.data.toList (j + 1) = p.size) := Lib.hid (by rw [HNX.out, step_yes _ _ _ (by rw [HP.out]; exact hlt2) hpre, HP.out])
                  rw [hpre] at C1
                  have H1 := Lib.hid C1
                  clear C1 hpre
                  go_wp2_with (go_at_call 136; refine H1.out.mono ?_; rintro e w' ⟨rfl, rfl⟩)
                  go_round
                  case rel => exact ⟨j + 1, by omega, by go_num, by rw [HE.out]⟩
                  case measure => simp [intOf]; omega
              · have HE : Hid (signN s.data.toList (j + 1) = n) := Lib.hid (by rw [HNX.out, step_no _ _ _ (fun h => absurd (by rw [HP.out] at h; exact h) hlt2)])
                clear C1
                go_wp2
                go_round
                case rel => exact ⟨j + 1, by omega, by go_num, by rw [HE.out]⟩
                case measure => simp [intOf]; omega
            · obtain rfl : j = 15 := by omega
              go_wp2
              go_ret
              rw [HV.out]; exact ⟨rfl, rfl⟩
end Go.Proofs.YtihmgodiiohdnaaGreatDoor.nv
