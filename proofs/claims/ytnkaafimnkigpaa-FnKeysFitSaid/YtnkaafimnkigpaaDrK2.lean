/- DrawKeysFit; the law FnKeysFit, walked. Condition: the code lies in memory. -/
import Derived.Test.YtnkaafimnkigpaaProg
import Derived.Test.YtnkaafimnkigpaaDrP
import Derived.Test.YtnkaafimnkigpaaKfW
import Derived.Deep.RegionLaw
namespace Go.Proofs.Ytnkaafimnkigpaa
open Go.RowKit

set_option maxRecDepth 100000 in
/-- spec.l18Open. -/
theorem open18k_any (A : Option Addr) (len cap : Nat) (w : World) (hb : Bts w w.heap.size A len) (hm : cap ≤ maxLen) (hc : len ≤ cap) :
    Calls Try.prog 7 #[.slice A len cap] w fun e w' => e = .returned (.pointer (some ⟨w.heap.size, 0, none⟩)) ∧ Rd w' w.heap.size 0 ∧ Below w.heap.size w w' := by
  have HB : ∀ o, Hid (Below w.heap.size w (w.alloc o)) := fun o => Lib.hid ((Below.refl _ _).alloc (Nat.le_refl _) _)
  unfold maxLen at hm
  by_cases h2 : len ≤ 2000
  · have HR : Hid (Rd (w.alloc (.cells #[.slice A len cap, .int .i64 0] 32)) w.heap.size 0) := Lib.hid ⟨A, len, cap, 0, Blk.new w _ _, hb.keep fun x hx => (HB _).out.block x hx, h2, Nat.le_refl _⟩
    have t0 : ¬ (len : Int) > 2000 := by omega
    clear hb
    go_enter Try.func7, Try.ntmps7
    go_wp2_with fail
    go_ret
    exact ⟨rfl, HR.out, (HB _).out⟩
  · obtain ⟨b, o, rfl, hbb, hbc⟩ := hb (by omega)
    have HR : Hid (Rd (w.alloc (.cells #[.slice (some ⟨b, o, none⟩) 2000 cap, .int .i64 0] 32)) w.heap.size 0) := Lib.hid ⟨_, 2000, cap, 0, Blk.new w _ _, fun _ => ⟨b, o, rfl, hbb, fun i hi => by
      obtain ⟨n, h1, h3⟩ := hbc i (by omega)
      exact ⟨n, ((HB _).out.cell (p := ⟨b, o + i, none⟩) hbb).trans h1, h3⟩⟩, Nat.le_refl _, Nat.le_refl _⟩
    have t0 : (len : Int) > 2000 := by omega
    clear hb hbc
    go_enter Try.func7, Try.ntmps7
    go_wp2_with fail
    go_ret
    exact ⟨rfl, HR.out, (HB _).out⟩
/-- The strings that are drawn from. -/
def kfA : Array Value := #[.string ⟨#[]⟩, .string ⟨#[49]⟩, .string ⟨#[97, 47, 48]⟩, .string ⟨#[102, 47, 49]⟩, .string ⟨#[45, 49]⟩, .string ⟨#[46, 47, 50]⟩]
theorem kfA_at (i : Nat) (h : i < 6) : ∃ s : ByteArray, kfA[i]? = some (.string s) ∧ s.size ≤ 3 := by
  rcases i with _ | _ | _ | _ | _ | _ | i
  · exact ⟨⟨#[]⟩, rfl, by decide⟩
  · exact ⟨⟨#[49]⟩, rfl, by decide⟩
  · exact ⟨⟨#[97, 47, 48]⟩, rfl, by decide⟩
  · exact ⟨⟨#[102, 47, 49]⟩, rfl, by decide⟩
  · exact ⟨⟨#[45, 49]⟩, rfl, by decide⟩
  · exact ⟨⟨#[46, 47, 50]⟩, rfl, by decide⟩
  · omega
set_option maxRecDepth 100000 in
set_option maxHeartbeats 2000000 in
/-- spec.DrawKeysFit. -/
theorem drawKF_any (A : Option Addr) (len cap : Nat) (w : World) (hb : Bts w w.heap.size A len) (hc : len ≤ cap) (hm : cap ≤ maxLen) :
    Calls Try.prog 4 #[.slice A len cap] w fun e w' => ∃ a b : ByteArray, e = .returned (.tuple #[.string a, .string b]) ∧ Below w.heap.size w w' := by
  have C1 := open18k_any A len cap w hb hm hc
  have H1 := Lib.hid C1
  clear C1 hb hc hm
  go_enter Try.func4, Try.ntmps4
  go_wp2_with fail
  refine H1.out.mono ?_
  rintro e w2 ⟨rfl, hr, hb⟩
  have hb3 : Below w2.heap.size w2 (w2.alloc (.cells #[.string ⟨#[]⟩, .string ⟨#[49]⟩, .string ⟨#[97, 47, 48]⟩, .string ⟨#[102, 47, 49]⟩, .string ⟨#[45, 49]⟩, .string ⟨#[46, 47, 50]⟩] 9)) := (Below.refl _ _).alloc (Nat.le_refl _) _
  have hq3 : Blk (w2.alloc (.cells #[.string ⟨#[]⟩, .string ⟨#[49]⟩, .string ⟨#[97, 47, 48]⟩, .string ⟨#[102, 47, 49]⟩, .string ⟨#[45, 49]⟩, .string ⟨#[46, 47, 50]⟩] 9)) w2.heap.size 9 kfA := Blk.new w2 _ _
  have HR3 := Lib.hid (hr.below hb3)
  have HQ3 := Lib.hid hq3
  have HB3 := Lib.hid (hb.trans (hb3.mono hb.size))
  have HLT : Hid (w.heap.size < w2.heap.size) := Lib.hid hr.lt
  clear hr hb hb3 hq3 H1
  go_wp2_with fail
  generalize (w2.alloc (.cells #[.string ⟨#[]⟩, .string ⟨#[49]⟩, .string ⟨#[97, 47, 48]⟩, .string ⟨#[102, 47, 49]⟩, .string ⟨#[45, 49]⟩, .string ⟨#[46, 47, 50]⟩] 9)) = w3 at *
  have hd3 : Below w3.heap.size w3 w3.drew := (Below.refl _ _).drew
  have HRD := Lib.hid (HR3.out.below hd3)
  have HQD := Lib.hid (HQ3.out.below hd3 HQ3.out.lt)
  have hs3 : w2.heap.size < w3.heap.size := HQ3.out.lt
  have x0 : w3.cell? ⟨w2.heap.size, 0, none⟩ = some (.string ⟨#[]⟩) := HQ3.out.cell 0
  clear hd3
  go_region_law
    (first
      | (go_simp
         go_at_call 8
         refine (pick_any w.heap.size 0 6 _ (HR3.out.below (by repeat (first | exact Below.refl _ _ | apply Below.drew))) (by omega) (by omega) (by omega)).mono ?_
         rintro e w4 ⟨i, rfl, hi0, hi1, hr4, hw4⟩
         obtain ⟨m, rfl⟩ : ∃ m : Nat, i = (m : Int) := ⟨i.toNat, by omega⟩
         have hm6 : m < 6 := by omega
         have hq4 := hw4.blk HQD.out (by have := HLT.out; simp; omega)
         obtain ⟨s1, hs1, hz1⟩ := kfA_at m hm6
         have y1 := (hq4.cell m).trans hs1
         have y0 : w4.cell? ⟨w2.heap.size, 0, none⟩ = some (.string ⟨#[]⟩) := hq4.cell 0
         have HS1 := Lib.hid hs1
         have HR4 := Lib.hid hr4
         have HQ4 := Lib.hid hq4
         have HB4 := Lib.hid (HB3.out.trans ((Below.refl w3.heap.size w3).drew.mono HB3.out.size) |>.trans (hw4.below (Nat.le_trans HB3.out.size (Nat.le_refl _)) (fun x hx => by simp at hx; omega)))
         have hi6 : (m : Int) < 6 := by omega
         clear HR3 hi1 hr4 hw4 hq4 hs1)
      | (go_simp
         go_at_call 8
         refine (pick_any w.heap.size 1 6 _ HR4.out (by omega) (by omega) (by omega)).mono ?_
         rintro e w5 ⟨i, rfl, hj0, hj1, hr5, hw5⟩
         obtain ⟨m', rfl⟩ : ∃ m : Nat, i = (m : Int) := ⟨i.toNat, by omega⟩
         have hm6' : m' < 6 := by omega
         have hq5 := hw5.blk HQ4.out (by have := HLT.out; simp; omega)
         obtain ⟨s2, hs2, hz2⟩ := kfA_at m' hm6'
         have z1 := (hq5.cell m).trans HS1.out
         have z2 := (hq5.cell m').trans hs2
         have z0 : w5.cell? ⟨w2.heap.size, 0, none⟩ = some (.string ⟨#[]⟩) := hq5.cell 0
         have HB5 := Lib.hid (HB4.out.trans (hw5.below HB4.out.size (fun x hx => by simp at hx; omega)))
         have hj6 : (m' : Int) < 6 := by omega
         clear HR4 hj1 hr5 hw5 hq5 hs2))
  all_goals
    go_wp2_with fail
    go_ret2
    exact ⟨_, _, rfl, HB5.out⟩

theorem kfL_comm (a b : List UInt8) : kfL a b = kfL b a := by
  unfold kfL
  rw [Bool.or_comm a.isEmpty b.isEmpty]
  congr 1
  rw [Bool.eq_iff_iff, beq_iff_eq, beq_iff_eq]
  exact ⟨fun h => h.symm, fun h => h.symm⟩
theorem kfL_self (a : List UInt8) : kfL a a = true := by
  unfold kfL
  simp
def kfW (x y : ByteArray) : Bool := kfL x.data.toList y.data.toList
theorem kfL_nil (a : List UInt8) : kfL a [] = true := by
  unfold kfL
  simp
theorem specKW_any (x y : ByteArray) (w : World) : Calls Try.prog 6 #[.string x, .string y] w fun e w' => e = .returned (.bool (kfW x y)) ∧ w' = w := specKF_any x y w
theorem implKW_any (x y : ByteArray) (w : World) : Calls Try.prog 5 #[.string x, .string y] w fun e w' => e = .returned (.bool (kfW x y)) ∧ w' = w := implKF_any x y w
set_option maxRecDepth 100000 in
set_option maxHeartbeats 2000000 in
/-- The law. -/
theorem lawPKF_any (A : Option Addr) (len cap : Nat) (w : World) (hb : Bts w w.heap.size A len) (hc : len ≤ cap) (hm : cap ≤ maxLen) :
    Calls Try.prog 3 #[.slice A len cap] w fun e w' => e = .returned (.bool true) ∧ Below w.heap.size w w' := by
  by_cases h2 : len ≤ 1048576
  · have t0 : ¬ (len : Int) > 1048576 := by omega
    have C1 := drawKF_any A len cap w hb hc hm
    have H1 := Lib.hid C1
    clear C1 hb hc hm
    go_enter Try.func3, Try.ntmps3
    go_wp2_with fail
    refine H1.out.mono ?_
    rintro e w2 ⟨a, b, rfl, hb⟩
    have HB := Lib.hid hb
    clear hb H1
    have C2 := fun x y w1 => specKW_any x y w1
    have C3 := fun x y w1 => implKW_any x y w1
    have f1 : kfW b a = kfW a b := kfL_comm _ _
    have f2 : kfW a a = true := kfL_self _
    have f3 : kfW a ⟨#[]⟩ = true := kfL_nil _
    have tv : (kfW a b == kfW a b) = true := by cases kfW a b <;> rfl
    have H2 := Lib.hid C2
    have H3 := Lib.hid C3
    clear C2 C3
    go_wp2_with (first
      | (go_at_call 6; refine (H2.out _ _ _).mono ?_; rintro e w' ⟨rfl, rfl⟩)
      | (go_at_call 5; refine (H3.out _ _ _).mono ?_; rintro e w' ⟨rfl, rfl⟩))
    go_ret
    exact ⟨rfl, HB.out⟩
  · have t0 : (len : Int) > 1048576 := by omega
    have HB := Lib.hid (Below.refl w.heap.size w)
    clear hb hc hm
    go_enter Try.func3, Try.ntmps3
    go_wp2_with fail
    go_ret
    exact ⟨rfl, HB.out⟩
end Go.Proofs.Ytnkaafimnkigpaa
