/- spec.l8Uses, spec.CodeSlots. Condition: the code lies in memory. -/
import Derived.Test.YtfdgmdijjifmiaaProg
import Derived.Test.YtfdgmdijjifmiaaInZ
import Derived.Test.YtfdgmdijjifmiaaCo
namespace Go.Proofs.Ytfdgmdijjifmiaa
open Go.RowKit

theorem bne_of_ne {a b : Int} (h : ¬ a = b) : (a == b) = false := by simpa using h

set_option maxRecDepth 100000 in
set_option maxHeartbeats 2000000 in
/-- spec.l8Uses. -/
theorem l8Uses_any (x : Ins) (w : World) :
    Calls Try.prog 10 #[.agg #[.int .i64 x.op, .int .i64 x.a, .int .i64 x.b, .string x.s]] w fun e w' => e = .returned (.int .i64 (useI x)) ∧ Below w.heap.size w w' := by
  obtain ⟨op, a, b, s⟩ := x
  simp only
  have HB : Hid (Below w.heap.size w (w.alloc (.cells #[.int .i64 op, .int .i64 a, .int .i64 b, .string s] 33))) := Lib.hid ((Below.refl _ _).alloc (Nat.le_refl _) _)
  by_cases h : op = 1 ∨ op = 4 ∨ op = 5 ∨ op = 8 ∨ op = 9
  · have HV : Hid (useI ⟨op, a, b, s⟩ = a) := Lib.hid (by unfold useI; rw [if_pos h])
    rcases h with rfl | rfl | rfl | rfl | rfl
    all_goals
      go_enter Try.func10, Try.ntmps10
      go_wp2_with fail
      go_ret
      rw [HV.out]
      exact ⟨rfl, HB.out⟩
  · by_cases h7 : op = 7
    · subst h7
      have HV : Hid (useI ⟨7, a, b, s⟩ = b) := Lib.hid (by unfold useI; rw [if_neg h, if_pos rfl])
      go_enter Try.func10, Try.ntmps10
      go_wp2_with fail
      go_ret
      rw [HV.out]
      exact ⟨rfl, HB.out⟩
    · have HV : Hid (useI ⟨op, a, b, s⟩ = -1) := Lib.hid (by unfold useI; rw [if_neg h, if_neg h7])
      have t1 := bne_of_ne (fun e => h (.inl e))
      have t4 := bne_of_ne (fun e => h (.inr (.inl e)))
      have t5 := bne_of_ne (fun e => h (.inr (.inr (.inl e))))
      have t8 := bne_of_ne (fun e => h (.inr (.inr (.inr (.inl e)))))
      have t9 := bne_of_ne (fun e => h (.inr (.inr (.inr (.inr e)))))
      have t7 := bne_of_ne h7
      clear h h7
      go_enter Try.func10, Try.ntmps10
      go_wp2_with fail
      go_ret
      rw [HV.out]
      exact ⟨rfl, HB.out⟩

set_option maxRecDepth 100000 in
set_option maxHeartbeats 2000000 in
/-- spec.CodeSlots. -/
theorem specCo_any (xs : List Ins) (A : Option Addr) (cap hi : Nat) (w : World) (hk : InsS w hi xs A cap) (hh : hi ≤ w.heap.size) (hok : ∀ y ∈ xs, y.ok) :
    Calls Try.prog 5 #[.slice A xs.length cap] w fun e w' => e = .returned (.int .i64 (slotsI xs 4)) ∧ Below w.heap.size w w' := by
  have HK := Lib.hid hk
  have HHI := Lib.hid hh
  have HOK := Lib.hid hok
  have hl := hk.1
  have hm := hk.2.1
  unfold maxLen at hm
  clear hk hh hok
  generalize hn : xs.length = len at *
  have HN := Lib.hid hn
  clear hn
  go_enter Try.func5, Try.ntmps5
  go_wp2_with fail
  go_loopw [3, 4] (fun m i wr => ∃ (k : Nat) (z : Int), k ≤ len ∧ i = .int .i64 k ∧ m = .int .i64 z ∧ 4 ≤ z ∧ z ≤ 9223372036854775807 ∧ slotsI (xs.drop k) z = slotsI xs 4 ∧ Below w.heap.size w wr) (fun _ i _ => len - (intOf i).toNat)
  case atStart => exact ⟨0, 4, Nat.zero_le _, rfl, rfl, by omega, by omega, rfl, Below.refl _ _⟩
  case round =>
    obtain ⟨k, z, hk, rfl, rfl, hz0, hz1, hsl, hb⟩ := hrel
    by_cases hlt : k < len
    · obtain ⟨x, hd⟩ := drop_at k xs (by rw [HN.out]; exact hlt)
      obtain ⟨b, o, rfl, hbb, hrow⟩ := HK.out.2.2 (by rw [HN.out]; omega)
      obtain ⟨hxo, c0, c1, c2, c3⟩ := hrow.elem k xs b o hd
      have hlo : (⟨b, o, none⟩ : Addr).block < w.heap.size := Nat.lt_of_lt_of_le hbb HHI.out
      have C1 := fun w1 => l8Uses_any x w1
      rw [slotsI_drop hd] at hsl
      have hu := useI_range hxo
      have hmr := moreI_range hxo hz0 hz1
      have HME : Hid (moreI z x = max z (min (useI x) 9223372036854775806 + 1)) := Lib.hid rfl
      generalize moreI z x = z2 at *
      generalize useI x = u at *
      obtain ⟨op, a, bb, s⟩ := x
      have CL : ∀ w1, Below wr.heap.size wr w1 → w1.cell? ⟨b, o + k * 4, none⟩ = some (.int .i64 op) ∧ w1.cell? ⟨b, o + k * 4 + 1, none⟩ = some (.int .i64 a) ∧ w1.cell? ⟨b, o + k * 4 + 2, none⟩ = some (.int .i64 bb) ∧ w1.cell? ⟨b, o + k * 4 + 3, none⟩ = some (.string s) := fun w1 h1 => by
        have h := hb.trans (h1.mono hb.size)
        exact ⟨(h.cell (p := ⟨b, o + k * 4, none⟩) hlo).trans c0, (h.cell (p := ⟨b, o + k * 4 + 1, none⟩) hlo).trans c1, (h.cell (p := ⟨b, o + k * 4 + 2, none⟩) hlo).trans c2, (h.cell (p := ⟨b, o + k * 4 + 3, none⟩) hlo).trans c3⟩
      obtain ⟨k0, k1, k2, k3⟩ := CL wr (Below.refl _ _)
      have H1 := Lib.hid C1
      have HB := Lib.hid hb
      have HC := Lib.hid CL
      have HS := Lib.hid hsl
      have HU := Lib.hid hu
      have HM := Lib.hid hmr
      clear C1 hb c0 c1 c2 c3 hrow hd hlo hxo CL hsl hu hmr
      have hu1 := HU.out.1
      have hu2 := HU.out.2
      by_cases c1 : u < z
      · have HZ : Hid (slotsI (xs.drop (k + 1)) z = slotsI xs 4) := Lib.hid (by have h := HS.out; rwa [show z2 = z by rw [HME.out]; omega] at h)
        go_wp2_with fail
        refine (H1.out wr).mono ?_
        rintro e w2 ⟨rfl, hb2⟩
        have HB2 := Lib.hid (HB.out.trans (hb2.mono HB.out.size))
        clear hb2
        go_wp2_with fail
        go_roundw
        case rel => exact ⟨k + 1, z, by omega, by go_num, rfl, hz0, hz1, HZ.out, HB2.out⟩
        case measure => simp [intOf]; omega
      · by_cases c2 : z < 9223372036854775807
        · by_cases c3 : u < 9223372036854775807
          · have HZ : Hid (slotsI (xs.drop (k + 1)) (u + 1) = slotsI xs 4) := Lib.hid (by have h := HS.out; rwa [show z2 = u + 1 by rw [HME.out]; omega] at h)
            go_wp2_with fail
            refine (H1.out wr).mono ?_
            rintro e w2 ⟨rfl, hb2⟩
            obtain ⟨k0, k1, k2, k3⟩ := HC.out w2 hb2
            have HB2 := Lib.hid hb2
            clear hb2
            go_wp2_with fail
            refine (H1.out w2).mono ?_
            rintro e w3 ⟨rfl, hb3⟩
            have HB3 := Lib.hid (HB.out.trans ((HB2.out.trans (hb3.mono HB2.out.size)).mono HB.out.size))
            clear hb3 k0 k1 k2 k3
            go_wp2_with fail
            go_roundw
            case rel => exact ⟨k + 1, u + 1, by omega, by go_num, by go_num, by omega, by omega, HZ.out, HB3.out⟩
            case measure => simp [intOf]; omega
          · obtain rfl : u = 9223372036854775807 := by omega
            have HZ : Hid (slotsI (xs.drop (k + 1)) 9223372036854775807 = slotsI xs 4) := Lib.hid (by have h := HS.out; rwa [show z2 = 9223372036854775807 by rw [HME.out]; omega] at h)
            go_wp2_with fail
            refine (H1.out wr).mono ?_
            rintro e w2 ⟨rfl, hb2⟩
            obtain ⟨k0, k1, k2, k3⟩ := HC.out w2 hb2
            have HB2 := Lib.hid hb2
            clear hb2
            go_wp2_with fail
            refine (H1.out w2).mono ?_
            rintro e w3 ⟨rfl, hb3⟩
            have HB3 := Lib.hid (HB.out.trans ((HB2.out.trans (hb3.mono HB2.out.size)).mono HB.out.size))
            clear hb3 k0 k1 k2 k3
            go_wp2_with fail
            go_roundw
            case rel => exact ⟨k + 1, _, by omega, by go_num, rfl, by omega, by omega, HZ.out, HB3.out⟩
            case measure => simp [intOf]; omega
        · obtain rfl : z = 9223372036854775807 := by omega
          have HZ : Hid (slotsI (xs.drop (k + 1)) 9223372036854775807 = slotsI xs 4) := Lib.hid (by have h := HS.out; rwa [show z2 = 9223372036854775807 by rw [HME.out]; omega] at h)
          go_wp2_with fail
          refine (H1.out wr).mono ?_
          rintro e w2 ⟨rfl, hb2⟩
          have HB2 := Lib.hid (HB.out.trans (hb2.mono HB.out.size))
          clear hb2
          go_wp2_with fail
          go_roundw
          case rel => exact ⟨k + 1, _, by omega, by go_num, rfl, by omega, by omega, HZ.out, HB2.out⟩
          case measure => simp [intOf]; omega
    · obtain rfl : k = len := by omega
      have HS : Hid (slotsI xs 4 = z) := Lib.hid (by rw [← hsl, List.drop_eq_nil_of_le (by rw [HN.out]; exact Nat.le_refl _)]; rfl)
      have HB := Lib.hid hb
      clear hsl hb
      go_wp2_with fail
      go_ret
      rw [HS.out]
      exact ⟨rfl, HB.out⟩
end Go.Proofs.Ytfdgmdijjifmiaa
