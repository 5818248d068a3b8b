/- laws.toByteS, szByteS, szDecoder, toDecoder, eqDecoder, markDecoder, heldDecoder. Condition: the arguments lie in memory. -/
import Derived.Test.YtdpmjpjbcpdgnaaDoorProg
import Derived.Test.YtdpmjpjbcpdgnaaDoorFzE
import Derived.Test.YtdpmjpjbcpdgnaaDoorFzG
import Derived.Test.YtdpmjpjbcpdgnaaDoorFzF
namespace Go.Proofs.YtdpmjpjbcpdgnaaDoor
open Go.RowKit

/-- laws.szByteS. -/
theorem szU_any (A : Option Addr) (n cap : Nat) (left : Int) (w : World) (hn : n ≤ cap) (hc : cap ≤ maxLen) (h0 : 0 ≤ left) (h1 : left ≤ 1048576) :
    Calls Tryd.prog 63 #[.slice A n cap, .int .i64 left] w fun e w' => e = .returned (.int .i64 (if left < (n : Int) then -1 else left - (n : Int))) ∧ w = w' := by
  unfold maxLen at hc
  by_cases h : left < (n : Int)
  · have t0 : left - (n : Int) < 0 := by omega
    go_enter Tryd.func63, Tryd.ntmps63
    go_wp2_with fail
    go_ret
    exact ⟨rfl, rfl⟩
  · have t0 : ¬ left - (n : Int) < 0 := by omega
    go_enter Tryd.func63, Tryd.ntmps63
    go_wp2_with fail
    go_ret
    exact ⟨rfl, rfl⟩
theorem szD_any (A : Option Addr) (n cap : Nat) (br : Bool) (left : Int) (w : World) (hn : n ≤ cap) (hc : cap ≤ maxLen) (h0 : 0 ≤ left) (h1 : left ≤ 1048576) :
    Calls Tryd.prog 39 #[.agg #[.slice A n cap, .bool br], .int .i64 left] w fun e w' => e = .returned (.int .i64 (if left < (n : Int) then -1 else left - (n : Int))) ∧ Below w.heap.size w w' := by
  have C1 := fun w => szU_any A n cap left w hn hc h0 h1
  have HB := Lib.hid ((Below.refl w.heap.size w).alloc (Nat.le_refl _) (.cells #[.slice A n cap, .bool br] 48))
  by_cases h : left < (n : Int)
  · have HV : Hid ((if left < (n : Int) then (-1 : Int) else left - (n : Int)) = -1) := Lib.hid (if_pos h)
    rw [HV.out] at C1
    have H1 := Lib.hid C1
    clear C1
    go_enter Tryd.func39, Tryd.ntmps39
    go_wp2_with (go_at_call 63; refine (H1.out _).mono ?_; rintro e w' ⟨rfl, rfl⟩)
    go_ret
    exact ⟨rfl, HB.out⟩
  · have HV : Hid ((if left < (n : Int) then (-1 : Int) else left - (n : Int)) = left - (n : Int)) := Lib.hid (if_neg h)
    have t0 : ¬ left - (n : Int) < 0 := by omega
    rw [HV.out] at C1
    have H1 := Lib.hid C1
    clear C1
    go_enter Tryd.func39, Tryd.ntmps39
    go_wp2_with (go_at_call 63; refine (H1.out _).mono ?_; rintro e w' ⟨rfl, rfl⟩)
    go_ret
    exact ⟨rfl, HB.out⟩

theorem rep_step (l : List UInt8) (k : Nat) (h : k < l.length) : (l.take k ++ List.replicate (l.length - k) (0 : UInt8)).set k (l.getD k 0) = l.take (k + 1) ++ List.replicate (l.length - (k + 1)) (0 : UInt8) := by
  have e : l.take (k + 1) = l.take k ++ [l.getD k 0] := by
    rw [List.take_succ_eq_append_getElem h]; simp [List.getD, h]
  have hl : (l.take k).length = k := by rw [List.length_take]; omega
  have hr : List.replicate (l.length - k) (0 : UInt8) = 0 :: List.replicate (l.length - (k + 1)) 0 := by
    rw [show l.length - k = (l.length - (k + 1)) + 1 by omega, List.replicate_succ]
  rw [e, List.set_append_right _ _ (by omega), hl, Nat.sub_self, hr, List.append_assoc]
  rfl
set_option maxRecDepth 100000 in
set_option maxHeartbeats 1000000 in
/-- laws.toByteS. -/
theorem toU_any (A : Option Addr) (cap : Nat) (l : List UInt8) (w : World) (ha : AtU w w.heap.size A l) (hc : l.length ≤ cap) (hm : cap ≤ maxLen) (hz : l.length ≤ 1048576) :
    Calls Tryd.prog 33 #[.slice A l.length cap] w fun e w' => (∃ v A' cap', e = .returned v ∧ v = .slice (some A') l.length cap' ∧ l.length ≤ cap' ∧ cap' ≤ maxLen ∧ OwnU w' w.heap.size v l) ∧ Below w.heap.size w w' := by
  obtain ⟨i, hi, hs, hby, hzz⟩ := i_u8
  obtain ⟨w1, kmk, hown1, hgr1⟩ := run_make_full (P := Tryd.prog) w w.heap.size 22 5 i (.int .u8 0) 1 u8_u2 hi hzz hs .i64 .i64 l.length (by rw [hby]; omega) (by unfold maxLen; omega) (Nat.le_refl _)
  have hb1 : Below w.heap.size w w1 := (Below.refl w.heap.size w).grown hgr1 (Nat.le_refl _) (fun k hk => by cases hk)
  have hU1 : OwnU w1 w.heap.size (.slice (some ⟨w.heap.size, 0, none⟩) l.length l.length) (l.take 0 ++ List.replicate (l.length - 0) (0 : UInt8)) := by
    unfold OwnU
    have e1 : (l.take 0 ++ List.replicate (l.length - 0) (0 : UInt8)).length = l.length := by simp
    have e2 : Lib.byteCells (l.take 0 ++ List.replicate (l.length - 0) (0 : UInt8)) = (madeCells (Value.int .u8 0).cells (l.length * 1)).toList := by
      show _ = (madeCells #[Value.int .u8 0] (l.length * 1)).toList
      rw [toList_madeCells_one]
      simp [Lib.byteCells]
    rw [e1, e2]
    exact hown1
  have hglt : w.heap.size < w1.heap.size := by
    rcases hown1.2 with ⟨h, _⟩ | ⟨g, cap2, cur, h, _, hh, _⟩
    · cases h
    · injection h with h _ _
      injection h with h
      injection h with h _ _
      rw [h]; exact (Array.getElem?_eq_some_iff.1 hh).1
  have HA := Lib.hid ha
  have HU1 := Lib.hid hU1
  have HB1 := Lib.hid hb1
  have hcm : cap ≤ 9223372036854775807 := hm
  clear ha hm hown1 hgr1 hU1 hb1 hi hs hby hzz
  obtain ⟨n, hn⟩ : ∃ n, n = l.length := ⟨_, rfl⟩
  have HN := Lib.hid hn
  rw [← hn] at kmk hc hz HU1
  rw [← hn]
  clear hn
  go_enter Tryd.func33, Tryd.ntmps33
  go_wp2_with fail
  go_loopw [4] (fun i wr => ∃ (k : Nat), k ≤ n ∧ i = .int .i64 k ∧ OwnU wr w.heap.size (.slice (some ⟨w.heap.size, 0, none⟩) n n) (l.take k ++ List.replicate (n - k) (0 : UInt8)) ∧ Below w.heap.size w wr) (fun i _ => n - (intOf i).toNat)
  case atStart => exact ⟨0, Nat.zero_le _, rfl, HU1.out, HB1.out⟩
  case round =>
    obtain ⟨k, hk, rfl, ho, hb⟩ := hrel
    have hlen : (l.take k ++ List.replicate (n - k) (0 : UInt8)).length = n := by rw [List.length_append, List.length_take, List.length_replicate, ← HN.out]; omega
    by_cases hlt : k < n
    · obtain ⟨b, o, rfl, hbb, hcell⟩ := HA.out (by rw [← HN.out]; omega)
      have s0 := (hb.cell (p := ⟨b, o + k, none⟩) hbb).trans (hcell k (by rw [← HN.out]; exact hlt))
      obtain ⟨A', cap', he, _, _, hr⟩ := ho.read
      obtain ⟨g', e1, _, hcl⟩ := hr (by omega)
      injection he with he1 he2 he3
      rw [← he1] at e1
      injection e1 with e1
      injection e1 with e1
      have c0 := (hcl k (by omega)).1
      have f0 := (hcl k (by omega)).2
      rw [← e1] at c0 f0
      have hst := ho.stored k (l.getD k 0) hlen.symm
      have hrs := rep_step l k (by rw [← HN.out]; exact hlt)
      rw [← HN.out] at hrs
      rw [hrs] at hst
      have HST := Lib.hid hst
      have HWS := Lib.hid (hb.setCell (p := ⟨w.heap.size, k, none⟩) (Nat.le_refl _) (.int .u8 ((l.getD k 0).toNat : Int)))
      generalize ((l.getD k 0).toNat : Int) = ub at *
      clear ho hb hr hcl he1 he2 he3 hst hrs hlen hcell e1
      go_wp2_with fail
      go_roundw
      case rel => exact ⟨k + 1, by omega, by go_num, HST.out, HWS.out⟩
      case measure => simp [intOf]; omega
    · obtain rfl : k = n := by omega
      have e : l.take k ++ List.replicate (k - k) (0 : UInt8) = l := by rw [Nat.sub_self, HN.out]; simp
      rw [e] at ho
      have HO := Lib.hid ho
      have HB := Lib.hid hb
      clear ho hb hlen e
      go_wp2_with fail
      go_ret
      exact ⟨⟨_, ⟨w.heap.size, 0, none⟩, k, rfl, rfl, Nat.le_refl _, by unfold maxLen; omega, HO.out⟩, HB.out⟩
end Go.Proofs.YtdpmjpjbcpdgnaaDoor
