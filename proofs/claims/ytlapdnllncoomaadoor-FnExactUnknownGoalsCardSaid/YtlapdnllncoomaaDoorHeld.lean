/- laws.heldTermS, heldTerm: a marked row still holds its marks. Condition: the marked row lies in memory. -/
import Derived.Test.YtlapdnllncoomaaDoorProg
import Derived.Test.YtlapdnllncoomaaDoorMark
import Derived.Deep.RegionHeld3
namespace Go.Proofs.YtlapdnllncoomaaDoor
open Go.RowKit

def HeldS (f : Fr) : Prop := ∀ (A : Option Addr) (cap k lo hi : Nat) (w : World), KidsAt w lo hi (markF f k) A cap → hi ≤ w.heap.size → k + 3 * nodes f ≤ 1099511627776 → 0 < k →
  Calls Tryd.prog 31 #[.slice A f.len cap, .int .i64 (k : Int)] w fun e w' => e = .returned (.int .i64 ((k + 3 * nodes f : Nat) : Int)) ∧ Below w.heap.size w w'

set_option maxRecDepth 100000 in
set_option maxHeartbeats 2000000 in
theorem heldS_of (f : Fr) (h : ∀ i k n s kids rest, f.drop i = .cons k n s kids rest → HeldS kids) : HeldS f := by
  intro A cap k0 lo hi w hk hh hb hk0
  have HK := Lib.hid hk
  have HH := Lib.hid h
  have HHI := Lib.hid hh
  have HB := Lib.hid hb
  have hl : f.len ≤ 1099511627776 := by have := len_le_nodes f; omega
  have hml := markF_len f k0
  have HML := Lib.hid hml
  clear hk h hh hb hml
  generalize hn : f.len = len at *
  have HN := Lib.hid hn
  clear hn
  go_enter Tryd.func31, Tryd.ntmps31
  go_wp2_with fail
  go_loopw [5, 1] (fun i k wr => ∃ (j kk : Nat), j ≤ len ∧ i = .int .i64 j ∧ k = .int .i64 kk ∧ kk = k0 + 3 * nodes (f.take j) ∧ Below w.heap.size w wr) (fun i _ _ => len - (intOf i).toNat)
  case atStart => exact ⟨0, k0, Nat.zero_le _, rfl, rfl, rfl, Below.refl _ _⟩
  case round =>
    obtain ⟨j, kk, hj, rfl, rfl, hkk, hbw⟩ := hrel
    by_cases hlt : j < len
    · obtain ⟨kn, nn, s, kids, hd⟩ := Fr.drop_cons j f (by rw [HN.out]; exact hlt)
      have hdm : (markF f k0).drop j = .cons (kk : Int) ((kk : Int) + 1) (mtext (kk + 2)) (markF kids (kk + 3)) (markF (f.drop (j + 1)) (kk + 3 + 3 * nodes kids)) := by
        rw [markF_drop, hd, ← hkk]; rfl
      obtain ⟨b, o, rfl, hlb, hbb, hrow⟩ := HK.out.2.2 (by rw [HML.out]; omega)
      obtain ⟨_, A', cap', c0, c1, c2, c3, hkid⟩ := hrow.elem hdm
      rw [markF_len] at c3
      have hlo : (⟨b, o, none⟩ : Addr).block < w.heap.size := Nat.lt_of_lt_of_le hbb HHI.out
      have k0' := (hbw.cell (p := ⟨b, o + j * 4, none⟩) hlo).trans c0
      have k1' := (hbw.cell (p := ⟨b, o + j * 4 + 1, none⟩) hlo).trans c1
      have k2' := (hbw.cell (p := ⟨b, o + j * 4 + 2, none⟩) hlo).trans c2
      have k3' := (hbw.cell (p := ⟨b, o + j * 4 + 3, none⟩) hlo).trans c3
      have hsp := nodes_split j f
      have hnt := nodes_take j f hd
      have hn1 : nodes (f.drop j) = 1 + nodes kids + nodes (f.drop (j + 1)) := by rw [hd]; rfl
      have hkb : kk + 3 + 3 * nodes kids ≤ 1099511627776 := by have := HB.out; omega
      have HKK : Hid (kk + 3 + 3 * nodes kids = k0 + 3 * nodes (f.take (j + 1))) := Lib.hid (by omega)
      have C1 : ∀ w1, Calls Tryd.prog 47 #[.int .i64 ((kk : Int) + 1 + 1)] w1 fun e w' => e = .returned (.string (mtext (kk + 2))) ∧ Below w1.heap.size w1 w' := fun w1 => by
        have h := markText_any (kk + 2) w1 (by omega) (by omega)
        rwa [show ((kk + 2 : Nat) : Int) = (kk : Int) + 1 + 1 by omega] at h
      have C2 : ∀ w1, Below wr.heap.size wr w1 → Calls Tryd.prog 31 #[.slice A' kids.len cap', .int .i64 ((kk : Int) + 1 + 1 + 1)] w1 fun e w' => e = .returned (.int .i64 ((kk + 3 + 3 * nodes kids : Nat) : Int)) ∧ Below w1.heap.size w1 w' := fun w1 hb1 => by
        have hb2 := hbw.trans (hb1.mono hbw.size)
        have h := HH.out _ _ _ _ _ _ hd A' cap' (kk + 3) lo hi w1 (hkid.below hb2 HHI.out) (Nat.le_trans HHI.out hb2.size) (by omega) (by omega)
        rwa [show ((kk + 3 : Nat) : Int) = (kk : Int) + 1 + 1 + 1 by omega] at h
      have t0 : ((kk : Int) != (kk : Int)) = false := by simp
      have t1 : ((kk : Int) + 1 != (kk : Int) + 1) = false := by simp
      have t2 : ((mtext (kk + 2)).toList != (mtext (kk + 2)).toList) = false := by simp
      have t2' : (!((mtext (kk + 2)).toList == (mtext (kk + 2)).toList)) = false := by simp
      have t3 : ¬ (((kk + 3 + 3 * nodes kids : Nat) : Int) < 0) := by omega
      have hlo' : b < wr.heap.size := Nat.lt_of_lt_of_le hlo hbw.size
      have H1 := Lib.hid C1
      have H2 := Lib.hid C2
      have HBW := Lib.hid hbw
      generalize mtext (kk + 2) = mt at *
      clear C1 C2 hbw hkk hsp hnt hn1 hd hdm c0 c1 c2 c3 hkid hrow
      go_wp2_with fail
      go_region_held3 (fun w' => w'.cell? ⟨b, o + j * 4 + 2, none⟩ = some (.string mt))
        (first | exact y2 | exact k2')
        (first
          | (go_at_call 47
             refine (H1.out _).mono ?_
             rintro e w2 ⟨rfl, hb2⟩
             have hd2 : Below wr.heap.size wr w2 := (Below.refl wr.heap.size wr).drew.trans hb2
             have y2 := (hd2.cell (p := ⟨b, o + j * 4 + 2, none⟩) hlo').trans k2'
             have y3 := (hd2.cell (p := ⟨b, o + j * 4 + 3, none⟩) hlo').trans k3'
             have HB2 := Lib.hid hd2
             clear hb2 hd2))
      go_wp2_with fail
      refine (H2.out _ HB2.out).mono ?_
      rintro e w3 ⟨rfl, hb3⟩
      have HB3 : Hid (Below w.heap.size w w3) := Lib.hid ((HBW.out.trans (HB2.out.mono HBW.out.size)).trans (hb3.mono (Nat.le_trans HBW.out.size HB2.out.size)))
      clear hb3
      go_wp2_with fail
      go_roundw
      case rel => exact ⟨j + 1, kk + 3 + 3 * nodes kids, by omega, by go_num, rfl, HKK.out, HB3.out⟩
      case measure => simp [intOf]; omega
    · obtain rfl : j = len := by omega
      have HE : Hid (k0 + 3 * nodes f = kk) := Lib.hid (by rw [hkk, ← HN.out, Fr.take_len])
      have HBW := Lib.hid hbw
      clear hbw hkk
      go_wp2_with fail
      go_ret
      rw [HE.out]
      exact ⟨rfl, HBW.out⟩

theorem held_all (N : Nat) : ∀ f : Fr, f.size ≤ N → HeldS f := by
  induction N with
  | zero =>
    intro f hf
    refine heldS_of f fun i k n s kids rest hd => ?_
    have h1 := Fr.size_drop i f
    rw [hd] at h1
    simp only [Fr.size] at h1
    omega
  | succ N ih =>
    intro f hf
    refine heldS_of f fun i k n s kids rest hd => ih kids ?_
    have h1 := Fr.size_drop i f
    rw [hd] at h1
    simp only [Fr.size] at h1
    omega
/-- laws.heldTermS. -/
theorem heldS_any (f : Fr) : HeldS f := held_all f.size f (Nat.le_refl _)

end Go.Proofs.YtlapdnllncoomaaDoor
