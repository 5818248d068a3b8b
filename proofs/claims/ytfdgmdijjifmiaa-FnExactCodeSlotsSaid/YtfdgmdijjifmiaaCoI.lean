/- impl.slotsWith, impl.CodeSlots. Condition: the code lies in memory. -/
import Derived.Test.YtfdgmdijjifmiaaProg
import Derived.Test.YtfdgmdijjifmiaaCoS
namespace Go.Proofs.Ytfdgmdijjifmiaa
open Go.RowKit

set_option maxRecDepth 100000 in
/-- impl.slotsWith. -/
theorem slotsWith_any (u : Int) (hu : I64 u) (w : World) :
    Calls Try.prog 12 #[.int .i64 u] w fun e w' => e = .returned (.int .i64 (min u 9223372036854775806 + 1)) ∧ w' = w := by
  obtain ⟨h1, h2⟩ := hu
  by_cases h : u ≤ 9223372036854775806
  · have HV : Hid (min u 9223372036854775806 = u) := Lib.hid (by omega)
    go_enter Try.func12, Try.ntmps12
    go_wp2_with fail
    go_ret
    rw [HV.out]
    exact ⟨rfl, rfl⟩
  · obtain rfl : u = 9223372036854775807 := by omega
    go_enter Try.func12, Try.ntmps12
    go_wp2_with fail
    go_ret
    exact ⟨rfl, rfl⟩

set_option maxRecDepth 100000 in
set_option maxHeartbeats 2000000 in
/-- impl.CodeSlots. -/
theorem implCo_any (xs : List Ins) (A : Option Addr) (cap hi : Nat) (w : World) (hk : InsS w hi xs A cap) (hh : hi ≤ w.heap.size) (hok : ∀ y ∈ xs, y.ok) :
    Calls Try.prog 7 #[.slice A xs.length cap] w fun e w' => e = .returned (.int .i64 (slotsI xs 4)) ∧ Below w.heap.size w w' := by
  have HK := Lib.hid hk
  have HHI := Lib.hid hh
  have HOK := Lib.hid hok
  have hl := hk.1
  have hm := hk.2.1
  unfold maxLen at hm
  clear hk hh hok
  generalize hn : xs.length = len at *
  have HN := Lib.hid hn
  clear hn
  go_enter Try.func7, Try.ntmps7
  go_wp2_with fail
  go_loopw [3, 8] (fun m i wr => ∃ (k : Nat) (z : Int), k ≤ len ∧ i = .int .i64 k ∧ m = .int .i64 z ∧ 4 ≤ z ∧ z ≤ 9223372036854775807 ∧ slotsI (xs.drop k) z = slotsI xs 4 ∧ Below w.heap.size w wr) (fun _ i _ => len - (intOf i).toNat)
  case atStart => exact ⟨0, 4, Nat.zero_le _, rfl, rfl, by omega, by omega, rfl, Below.refl _ _⟩
  case round =>
    obtain ⟨k, z, hk, rfl, rfl, hz0, hz1, hsl, hb⟩ := hrel
    by_cases hlt : k < len
    · obtain ⟨x, hd⟩ := drop_at k xs (by rw [HN.out]; exact hlt)
      obtain ⟨b, o, rfl, hbb, hrow⟩ := HK.out.2.2 (by rw [HN.out]; omega)
      obtain ⟨hxo, c0, c1, c2, c3⟩ := hrow.elem k xs b o hd
      have hlo : (⟨b, o, none⟩ : Addr).block < w.heap.size := Nat.lt_of_lt_of_le hbb HHI.out
      have k0 := (hb.cell (p := ⟨b, o + k * 4, none⟩) hlo).trans c0
      have k1 := (hb.cell (p := ⟨b, o + k * 4 + 1, none⟩) hlo).trans c1
      have k2 := (hb.cell (p := ⟨b, o + k * 4 + 2, none⟩) hlo).trans c2
      have k3 := (hb.cell (p := ⟨b, o + k * 4 + 3, none⟩) hlo).trans c3
      rw [slotsI_drop hd] at hsl
      have hmr := moreI_range hxo hz0 hz1
      obtain ⟨op, a, bb, s⟩ := x
      have hxa : I64 a := hxo.2.1
      have hxb : I64 bb := hxo.2.2.1
      have C1 := fun w1 => slotsWith_any a hxa w1
      have C2 := fun w1 => slotsWith_any bb hxb w1
      have H1 := Lib.hid C1
      have H2 := Lib.hid C2
      have HB := Lib.hid hb
      have HBA := Lib.hid (fun o => hb.alloc hb.size o)
      have HS := Lib.hid hsl
      have HM := Lib.hid hmr
      clear C1 C2 hb c0 c1 c2 c3 hrow hd hlo hxo hsl hmr
      by_cases h : op = 1 ∨ op = 4 ∨ op = 5 ∨ op = 8 ∨ op = 9
      · have HV : Hid (moreI z ⟨op, a, bb, s⟩ = max z (min a 9223372036854775806 + 1)) := Lib.hid (by unfold moreI useI; rw [if_pos h])
        unfold I64 at hxa hxb
        clear H2
        generalize min a 9223372036854775806 + 1 = u1 at *
        rcases h with rfl | rfl | rfl | rfl | rfl
        all_goals
          go_wp2_with fail
          refine (H1.out _).mono ?_
          rintro e w2 ⟨rfl, rfl⟩
          go_wp2_with fail
          go_roundw
          case rel => exact ⟨k + 1, _, by omega, by go_num, by (have h := HV.out; rw [h]; congr 1; split <;> omega), HM.out.1, HM.out.2, HS.out, HBA.out _⟩
          case measure => simp [intOf]; omega
      · by_cases h7 : op = 7
        · subst h7
          have HV : Hid (moreI z ⟨7, a, bb, s⟩ = max z (min bb 9223372036854775806 + 1)) := Lib.hid (by unfold moreI useI; rw [if_neg h, if_pos rfl])
          unfold I64 at hxa hxb
          clear h H1
          generalize min bb 9223372036854775806 + 1 = u1 at *
          go_wp2_with fail
          refine (H2.out _).mono ?_
          rintro e w2 ⟨rfl, rfl⟩
          go_wp2_with fail
          go_roundw
          case rel => exact ⟨k + 1, _, by omega, by go_num, by (have h := HV.out; rw [h]; congr 1; split <;> omega), HM.out.1, HM.out.2, HS.out, HBA.out _⟩
          case measure => simp [intOf]; omega
        · have HV : Hid (moreI z ⟨op, a, bb, s⟩ = max z (min (-1) 9223372036854775806 + 1)) := Lib.hid (by unfold moreI useI; rw [if_neg h, if_neg h7])
          have t1 := bne_of_ne (fun e => h (.inl e))
          have t4 := bne_of_ne (fun e => h (.inr (.inl e)))
          have t5 := bne_of_ne (fun e => h (.inr (.inr (.inl e))))
          have t8 := bne_of_ne (fun e => h (.inr (.inr (.inr (.inl e)))))
          have t9 := bne_of_ne (fun e => h (.inr (.inr (.inr (.inr e)))))
          have t7 := bne_of_ne h7
          clear h h7
          go_wp2_with fail
          go_roundw
          case rel => exact ⟨k + 1, z, by omega, by go_num, rfl, hz0, hz1, by have h1 := HS.out; rw [HV.out] at h1; rw [show max z (min (-1) 9223372036854775806 + 1) = z by omega] at h1; exact h1, HBA.out _⟩
          case measure => simp [intOf]; omega
    · obtain rfl : k = len := by omega
      have HS : Hid (slotsI xs 4 = z) := Lib.hid (by rw [← hsl, List.drop_eq_nil_of_le (by rw [HN.out]; exact Nat.le_refl _)]; rfl)
      have HB := Lib.hid hb
      clear hsl hb
      go_wp2_with fail
      go_ret
      rw [HS.out]
      exact ⟨rfl, HB.out⟩
end Go.Proofs.Ytfdgmdijjifmiaa
