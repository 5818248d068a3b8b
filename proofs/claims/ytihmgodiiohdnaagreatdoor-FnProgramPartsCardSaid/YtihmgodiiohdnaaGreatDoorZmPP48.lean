/- spec.ParseClause: a fact and a colon. Condition: the text is no longer than a string can be. -/
import Derived.Test.YtihmgodiiohdnaaGreatDoorProg
import Derived.Test.YtihmgodiiohdnaaGreatDoorZmPP47
import Derived.Test.YtihmgodiiohdnaaGreatDoorRpg
import Derived.Test.YtihmgodiiohdnaaGreatDoorRowP
import Derived.Test.YtihmgodiiohdnaaGreatDoorZmPP43
import Derived.Test.YtihmgodiiohdnaaGreatDoorZmPP45
import Derived.Deep.RegionLaw
namespace Go.Proofs.YtihmgodiiohdnaaGreatDoor.rdr
open Go.RowKit

set_option maxRecDepth 100000 in
set_option maxHeartbeats 8000000 in
theorem pc_colon (s : ByteArray) (w : World) (hs : s.size ≤ 1000) (k m : Int) (s0 : ByteArray) (f : Fr) (p : Nat) (hq : rdE s 0 = some ((k, m, s0, f), p)) (h58 : bA s p 58 = true) (h45 : bA s (p + 1) 45 = false) :
    Calls Tryz.prog 45 #[.string s] w fun e w' => PcR w (pcF s ⟨k, m, s0, f, .nil⟩ p) e w' := by
  have hb0 : Below w.heap.size w (w.alloc (.cells #[.int .i64 0, .int .i64 0, .string ⟨#[]⟩, .slice none 0 0, .slice none 0 0] 32)) := (Below.refl _ _).alloc (Nat.le_refl _) _
  have hq0 := Blk.new w 32 #[.int .i64 0, .int .i64 0, .string ⟨#[]⟩, .slice none 0 0, .slice none 0 0]
  have HB0 := Lib.hid hb0
  have HQ0 := Lib.hid hq0
  clear hb0 hq0
  have t0 : ¬ (s.size : Int) > 1000 := by omega
  have C1 := read_any s 0 (w.alloc (.cells #[.int .i64 0, .int .i64 0, .string ⟨#[]⟩, .slice none 0 0, .slice none 0 0] 32)) (by omega) (by omega)
  rw [show ((0 : Nat) : Int) = 0 from rfl, hq] at C1
  have hp := rdE_prog hq
  have hnd := rdE_nodes hq
  have t8 : ¬ (p : Int) < 0 := by omega
  have hp1 : p ≤ 1000 := by omega
  have H1 := Lib.hid C1
  have HNA : Hid (nodes f ≤ 1048576) := Lib.hid (by simp only at hnd; omega)
  have C58 := fun w1 => sign_any s p 58 w1 (by unfold maxLen; omega) (by unfold maxLen; omega)
  have C45 := fun w1 => sign_any s (p + 1) 45 w1 (by unfold maxLen; omega) (by unfold maxLen; omega)
  rw [show ((p + 1 : Nat) : Int) = (p : Int) + 1 by omega] at C45
  change ∀ w1, Calls _ _ _ _ fun e w' => e = .returned (.bool (bA s p 58)) ∧ w' = w1 at C58
  change ∀ w1, Calls _ _ _ _ fun e w' => e = .returned (.bool (bA s (p + 1) 45)) ∧ w' = w1 at C45
  rw [h58] at C58
  have H58 := Lib.hid C58
  clear C1 hq hnd C58 h58
  rw [h45] at C45
  have H45 := Lib.hid C45
  clear C45 h45
  go_enter Tryz.func45, Tryz.ntmps45
  go_wp2_with fail
  refine H1.out.mono ?_
  intro e w2 hr2
  obtain ⟨hb, A, cap, rfl, hf, hk⟩ := hr2.some_
  have hb3 : Below w2.heap.size w2 ((w2.alloc (.cells #[.int .i64 k, .int .i64 m, .string s0, .slice A f.len cap] 30)).alloc (.cells #[.int .i64 k, .int .i64 m, .string s0, .slice A f.len cap, .slice none 0 0] 32)) := two_alloc _ _ _
  have hb23 := hb.trans (hb3.mono hb.size)
  have HB3 := Lib.hid (HB0.out.trans (hb23.mono HB0.out.size))
  have HQ3 := Lib.hid (HQ0.out.below hb23 HQ0.out.lt)
  have HC3 : Hid (Blk ((w2.alloc (.cells #[.int .i64 k, .int .i64 m, .string s0, .slice A f.len cap] 30)).alloc (.cells #[.int .i64 k, .int .i64 m, .string s0, .slice A f.len cap, .slice none 0 0] 32)) (w2.heap.size + 1) 32 #[.int .i64 k, .int .i64 m, .string s0, .slice A f.len cap, .slice none 0 0]) := Lib.hid (by
    have h := Blk.new (w2.alloc (.cells #[.int .i64 k, .int .i64 m, .string s0, .slice A f.len cap] 30)) 32 #[.int .i64 k, .int .i64 m, .string s0, .slice A f.len cap, .slice none 0 0]
    simpa using h)
  have HF := Lib.hid hf
  have HK3 := Lib.hid ((hk.below hb3 (Nat.le_refl _)).more (hi' := w2.heap.size + 1) (Nat.zero_le _) (Nat.le_succ _))
  have HWG : Hid (w.heap.size < w2.heap.size + 1) := Lib.hid (by have := hb.size; simp at this; omega)
  clear hb hf hk hb3 hb23 hr2
  go_wp2_with fail
  generalize (w2.alloc (.cells #[.int .i64 k, .int .i64 m, .string s0, .slice A f.len cap] 30)).alloc (.cells #[.int .i64 k, .int .i64 m, .string s0, .slice A f.len cap, .slice none 0 0] 32) = w3 at *
  generalize w2.heap.size + 1 = G at *
  refine (H58.out _).mono ?_
  rintro e w9 ⟨rfl, hw⟩
  rw [hw]
  clear hw
  go_wp2_with fail
  refine (H45.out _).mono ?_
  rintro e w9 ⟨rfl, hw⟩
  rw [hw]
  clear hw
  have HB5 := HB3
  have HQ5 := HQ3
  have HC5 := HC3
  have HKA : Hid (KidsAt w3 0 w3.heap.size f A cap) := Lib.hid (HK3.out.more (Nat.zero_le _) (Nat.le_of_lt HC3.out.lt))
  have HKB : Hid (KidsAt w3 0 w3.heap.size .nil none 0) := Lib.hid (KidsAt.nil _ _ _ _ _ (Nat.zero_le _))
  have HNB : Hid (nodes Fr.nil ≤ 1048576) := Lib.hid (by decide)
  have C46 := fun w1 => sign_any s p 46 w1 (by unfold maxLen; omega) (by unfold maxLen; omega)
  have CF := wr.specFC_any ⟨k, m, s0, f, .nil⟩ A none cap 0 0 w3.heap.size w3 HKA.out HKB.out (Nat.le_refl _) HF.out HNA.out HNB.out
  have CC4 := fun w1 (hb : Below w3.heap.size w3 w1) => cpC_any ⟨k, m, s0, f, .nil⟩ A none cap 0 0 w3.heap.size w1 (HKA.out.below hb (Nat.le_refl _)) (HKB.out.below hb (Nat.le_refl _)) hb.size HF.out HNA.out HNB.out
  change ∀ w1, Calls _ _ _ _ fun e w' => e = .returned (.bool (bA s p 46)) ∧ w' = w1 at C46
  have hstr : (⟨(wr.fcB ⟨k, m, s0, f, .nil⟩).toArray⟩ : ByteArray).toList = wr.fcB ⟨k, m, s0, f, .nil⟩ := by rw [ByteArray.toList_eq]
  have hss : s.toList = s.data.toList := by rw [ByteArray.toList_eq]
  obtain ⟨a0, a1, a2, a3, a4⟩ := dcells5 HC5.out
  by_cases z1 : p + 1 = s.size
  · have t1 : (p : Int) = (s.size : Int) - 1 := by omega
    have eq1 : (p : Int) = (s.size : Int) - 1 := by omega
    rw [eq1] at C46
    clear eq1
    cases z2 : bA s p 46 with
    | false =>
      rw [z2] at C46
      have H46 := Lib.hid C46
      have HR : Hid (pcF s ⟨k, m, s0, f, .nil⟩ p = none) := Lib.hid (pcF_no fun h => by rw [z2] at h; cases h.2.1)
      have HB2 := HB5
      have HQ2 := HQ5
      obtain ⟨d0, d1, d2, d3, d4⟩ := dcells5 HQ2.out
      obtain ⟨f0, f1, f2, f3, f4⟩ := dfrozen5 HQ2.out
      clear C46 CF CC4 z1 z2 hstr hss a0 a1 a2 a3 a4
      go_wp2_with fail
      refine (H46.out _).mono ?_
      rintro e w9 ⟨rfl, hw⟩
      rw [hw]
      clear hw
      go_wp2_with fail
      refine bodyPost_ret (v := .tuple #[.agg #[.int .i64 0, .int .i64 0, .string ⟨#[]⟩, .slice none 0 0, .slice none 0 0], .bool false]) ?_ rfl (by rw [HR.out]; exact PcR.fin0 HB2.out _ _ _ _ _)
      exact results_cell_row2 Tryz.results45 _ _ w.heap.size _ _ _ _ rfl (dset5 HQ2.out _ _ _ _ _) Tryz.underlying32 rfl (by kernel_rfl)
    | true =>
      rw [z2] at C46
      have H46 := Lib.hid C46
      by_cases z3 : wr.fcB ⟨k, m, s0, f, .nil⟩ = s.data.toList
      · have HR : Hid (pcF s ⟨k, m, s0, f, .nil⟩ p = some ⟨k, m, s0, f, .nil⟩) := Lib.hid (pcF_yes z1 z2 z3)
        have t3 : ((⟨(wr.fcB ⟨k, m, s0, f, .nil⟩).toArray⟩ : ByteArray).toList == s.toList) = true := by rw [beq_iff_eq, hstr, hss]; exact z3
        generalize (⟨(wr.fcB ⟨k, m, s0, f, .nil⟩).toArray⟩ : ByteArray) = bs at *
        have HCF := Lib.hid CF
        have HCC := Lib.hid CC4
        clear C46 CF CC4 z1 z2 z3 hstr hss
        go_wp2_with fail
        refine (H46.out _).mono ?_
        rintro e w9 ⟨rfl, hw⟩
        rw [hw]
        clear hw
        go_wp2_with fail
        refine HCF.out.mono ?_
        rintro e w6 ⟨rfl, hb⟩
        have HB56 := Lib.hid hb
        clear hb a0 a1 a2 a3 a4
        obtain ⟨a0, a1, a2, a3, a4⟩ := dcells5 (HC5.out.below HB56.out HC5.out.lt)
        go_wp2_with fail
        refine (HCC.out _ HB56.out).mono ?_
        rintro e w7 ⟨A9, c9, B9, cb9, rfl, hm⟩
        have hb67 := hm.at_.2.2
        have hb57 := HB56.out.trans (hb67.mono HB56.out.size)
        have HQ2 := Lib.hid (HQ5.out.below hb57 HQ5.out.lt)
        have HM := Lib.hid hm
        clear hm hb67 hb57 a0 a1 a2 a3 a4
        obtain ⟨d0, d1, d2, d3, d4⟩ := dcells5 HQ2.out
        obtain ⟨f0, f1, f2, f3, f4⟩ := dfrozen5 HQ2.out
        go_wp2_with fail
        refine bodyPost_ret (v := .tuple #[.agg #[.int .i64 k, .int .i64 m, .string s0, .slice A9 f.len c9, .slice B9 0 cb9], .bool true]) ?_ rfl (by rw [HR.out]; exact PcR.fin (c := ⟨k, m, s0, f, .nil⟩) (HB5.out.trans (HB56.out.mono HB5.out.size)) (by have := HQ5.out.lt; have := HB56.out.size; omega) HF.out HM.out _ _ _ _ _)
        exact results_cell_row2 Tryz.results45 _ _ w.heap.size _ _ _ _ rfl (dset5 HQ2.out _ _ _ _ _) Tryz.underlying32 rfl (by kernel_rfl)
      · have HR : Hid (pcF s ⟨k, m, s0, f, .nil⟩ p = none) := Lib.hid (pcF_no fun h => z3 h.2.2)
        have t3 : ((⟨(wr.fcB ⟨k, m, s0, f, .nil⟩).toArray⟩ : ByteArray).toList == s.toList) = false := by rw [beq_eq_false_iff_ne, hstr, hss]; exact z3
        generalize (⟨(wr.fcB ⟨k, m, s0, f, .nil⟩).toArray⟩ : ByteArray) = bs at *
        have HCF := Lib.hid CF
        clear C46 CF CC4 z1 z2 z3 hstr hss
        go_wp2_with fail
        refine (H46.out _).mono ?_
        rintro e w9 ⟨rfl, hw⟩
        rw [hw]
        clear hw
        go_wp2_with fail
        refine HCF.out.mono ?_
        rintro e w6 ⟨rfl, hb⟩
        have HB2 := Lib.hid (HB5.out.trans (hb.mono HB5.out.size))
        have HQ2 := Lib.hid (HQ5.out.below hb HQ5.out.lt)
        clear hb a0 a1 a2 a3 a4
        obtain ⟨d0, d1, d2, d3, d4⟩ := dcells5 HQ2.out
        obtain ⟨f0, f1, f2, f3, f4⟩ := dfrozen5 HQ2.out
        go_wp2_with fail
        refine bodyPost_ret (v := .tuple #[.agg #[.int .i64 0, .int .i64 0, .string ⟨#[]⟩, .slice none 0 0, .slice none 0 0], .bool false]) ?_ rfl (by rw [HR.out]; exact PcR.fin0 HB2.out _ _ _ _ _)
        exact results_cell_row2 Tryz.results45 _ _ w.heap.size _ _ _ _ rfl (dset5 HQ2.out _ _ _ _ _) Tryz.underlying32 rfl (by kernel_rfl)
  · have t1 : ¬ (p : Int) = (s.size : Int) - 1 := by omega
    have HR : Hid (pcF s ⟨k, m, s0, f, .nil⟩ p = none) := Lib.hid (pcF_no fun h => z1 h.1)
    have HB2 := HB5
    have HQ2 := HQ5
    obtain ⟨d0, d1, d2, d3, d4⟩ := dcells5 HQ2.out
    obtain ⟨f0, f1, f2, f3, f4⟩ := dfrozen5 HQ2.out
    clear C46 CF CC4 z1 hstr hss a0 a1 a2 a3 a4
    go_wp2_with fail
    refine bodyPost_ret (v := .tuple #[.agg #[.int .i64 0, .int .i64 0, .string ⟨#[]⟩, .slice none 0 0, .slice none 0 0], .bool false]) ?_ rfl (by rw [HR.out]; exact PcR.fin0 HB2.out _ _ _ _ _)
    exact results_cell_row2 Tryz.results45 _ _ w.heap.size _ _ _ _ rfl (dset5 HQ2.out _ _ _ _ _) Tryz.underlying32 rfl (by kernel_rfl)
end Go.Proofs.YtihmgodiiohdnaaGreatDoor.rdr

/- spec.ParseClause: goals that cannot be read. Condition: the text is no longer than a string can be. -/
namespace Go.Proofs.YtihmgodiiohdnaaGreatDoor.rdr
open Go.RowKit

set_option maxRecDepth 100000 in
set_option maxHeartbeats 8000000 in
theorem pc_bad (s : ByteArray) (w : World) (hs : s.size ≤ 1000) (k m : Int) (s0 : ByteArray) (f : Fr) (p : Nat) (hq : rdE s 0 = some ((k, m, s0, f), p)) (h58 : bA s p 58 = true) (h45 : bA s (p + 1) 45 = true) (hg : rdG 8 s (p + 2) .nil = none) :
    Calls Tryz.prog 45 #[.string s] w fun e w' => PcR w none e w' := by
  have hb0 : Below w.heap.size w (w.alloc (.cells #[.int .i64 0, .int .i64 0, .string ⟨#[]⟩, .slice none 0 0, .slice none 0 0] 32)) := (Below.refl _ _).alloc (Nat.le_refl _) _
  have hq0 := Blk.new w 32 #[.int .i64 0, .int .i64 0, .string ⟨#[]⟩, .slice none 0 0, .slice none 0 0]
  have HB0 := Lib.hid hb0
  have HQ0 := Lib.hid hq0
  clear hb0 hq0
  have t0 : ¬ (s.size : Int) > 1000 := by omega
  have C1 := read_any s 0 (w.alloc (.cells #[.int .i64 0, .int .i64 0, .string ⟨#[]⟩, .slice none 0 0, .slice none 0 0] 32)) (by omega) (by omega)
  rw [show ((0 : Nat) : Int) = 0 from rfl, hq] at C1
  have hp := rdE_prog hq
  have hnd := rdE_nodes hq
  have t8 : ¬ (p : Int) < 0 := by omega
  have hp1 : p ≤ 1000 := by omega
  have H1 := Lib.hid C1
  have HNA : Hid (nodes f ≤ 1048576) := Lib.hid (by simp only at hnd; omega)
  have C58 := fun w1 => sign_any s p 58 w1 (by unfold maxLen; omega) (by unfold maxLen; omega)
  have C45 := fun w1 => sign_any s (p + 1) 45 w1 (by unfold maxLen; omega) (by unfold maxLen; omega)
  rw [show ((p + 1 : Nat) : Int) = (p : Int) + 1 by omega] at C45
  change ∀ w1, Calls _ _ _ _ fun e w' => e = .returned (.bool (bA s p 58)) ∧ w' = w1 at C58
  change ∀ w1, Calls _ _ _ _ fun e w' => e = .returned (.bool (bA s (p + 1) 45)) ∧ w' = w1 at C45
  rw [h58] at C58
  have H58 := Lib.hid C58
  clear C1 hq hnd C58 h58
  rw [h45] at C45
  have H45 := Lib.hid C45
  have h2l := bA_lt h45
  have CG := fun w1 => goals_any s (p + 2) w1 (by omega) (by omega)
  rw [show ((p + 2 : Nat) : Int) = (p : Int) + 2 by omega, hg] at CG
  have HG := Lib.hid CG
  clear C45 h45 CG
  clear hg
  go_enter Tryz.func45, Tryz.ntmps45
  go_wp2_with fail
  refine H1.out.mono ?_
  intro e w2 hr2
  obtain ⟨hb, A, cap, rfl, hf, hk⟩ := hr2.some_
  have hb3 : Below w2.heap.size w2 ((w2.alloc (.cells #[.int .i64 k, .int .i64 m, .string s0, .slice A f.len cap] 30)).alloc (.cells #[.int .i64 k, .int .i64 m, .string s0, .slice A f.len cap, .slice none 0 0] 32)) := two_alloc _ _ _
  have hb23 := hb.trans (hb3.mono hb.size)
  have HB3 := Lib.hid (HB0.out.trans (hb23.mono HB0.out.size))
  have HQ3 := Lib.hid (HQ0.out.below hb23 HQ0.out.lt)
  have HC3 : Hid (Blk ((w2.alloc (.cells #[.int .i64 k, .int .i64 m, .string s0, .slice A f.len cap] 30)).alloc (.cells #[.int .i64 k, .int .i64 m, .string s0, .slice A f.len cap, .slice none 0 0] 32)) (w2.heap.size + 1) 32 #[.int .i64 k, .int .i64 m, .string s0, .slice A f.len cap, .slice none 0 0]) := Lib.hid (by
    have h := Blk.new (w2.alloc (.cells #[.int .i64 k, .int .i64 m, .string s0, .slice A f.len cap] 30)) 32 #[.int .i64 k, .int .i64 m, .string s0, .slice A f.len cap, .slice none 0 0]
    simpa using h)
  have HF := Lib.hid hf
  have HK3 := Lib.hid ((hk.below hb3 (Nat.le_refl _)).more (hi' := w2.heap.size + 1) (Nat.zero_le _) (Nat.le_succ _))
  have HWG : Hid (w.heap.size < w2.heap.size + 1) := Lib.hid (by have := hb.size; simp at this; omega)
  clear hb hf hk hb3 hb23 hr2
  go_wp2_with fail
  generalize (w2.alloc (.cells #[.int .i64 k, .int .i64 m, .string s0, .slice A f.len cap] 30)).alloc (.cells #[.int .i64 k, .int .i64 m, .string s0, .slice A f.len cap, .slice none 0 0] 32) = w3 at *
  generalize w2.heap.size + 1 = G at *
  refine (H58.out _).mono ?_
  rintro e w9 ⟨rfl, hw⟩
  rw [hw]
  clear hw
  go_wp2_with fail
  refine (H45.out _).mono ?_
  rintro e w9 ⟨rfl, hw⟩
  rw [hw]
  clear hw
  go_wp2_with fail
  refine (HG.out _).mono ?_
  intro e w4 hr2
  obtain ⟨hb, z, hz, rfl⟩ := hr2.none_
  have HB4 := Lib.hid (HB3.out.trans (hb.mono HB3.out.size))
  have hc4 := HC3.out.below hb HC3.out.lt
  have hq4 := HQ3.out.below hb HQ3.out.lt
  have t1 : ¬ z = (s.size : Int) - 1 := by omega
  obtain ⟨a0, a1, a2, a3, a4⟩ := dcells5 hc4
  obtain ⟨g0, g1, g2, g3, g4⟩ := dfrozen5 hc4
  have hHG : w.heap.size < G := by have := HWG.out; omega
  have hne : w.heap.size ≠ G := by omega
  have HQ4 := Lib.hid hq4
  have HB2 : Hid (Below w.heap.size w (w4.setCell ⟨G, 4, none⟩ (.slice none 0 0))) := Lib.hid (HB4.out.setCell (p := ⟨G, 4, none⟩) (Nat.le_of_lt hHG) (.slice none 0 0))
  have HQ2 : Hid (Blk (w4.setCell ⟨G, 4, none⟩ (.slice none 0 0)) w.heap.size 32 #[.int .i64 0, .int .i64 0, .string ⟨#[]⟩, .slice none 0 0, .slice none 0 0]) := Lib.hid (HQ4.out.far hne _)
  obtain ⟨d0, d1, d2, d3, d4⟩ := dcells5 hq4
  obtain ⟨f0, f1, f2, f3, f4⟩ := dfrozen5 hq4
  clear hb hz hr2 hq4 hc4
  go_wp2_with fail
  refine bodyPost_ret (v := .tuple #[.agg #[.int .i64 0, .int .i64 0, .string ⟨#[]⟩, .slice none 0 0, .slice none 0 0], .bool false]) ?_ rfl (PcR.fin0 HB2.out _ _ _ _ _)
  exact results_cell_row2 Tryz.results45 _ _ w.heap.size _ _ _ _ rfl (dset5 HQ2.out _ _ _ _ _) Tryz.underlying32 rfl (by kernel_rfl)
end Go.Proofs.YtihmgodiiohdnaaGreatDoor.rdr

/- spec.ParseClause: a clause with a body. Condition: the text is no longer than a string can be. -/
namespace Go.Proofs.YtihmgodiiohdnaaGreatDoor.rdr
open Go.RowKit

set_option maxRecDepth 100000 in
set_option maxHeartbeats 8000000 in
theorem pc_rule (s : ByteArray) (w : World) (hs : s.size ≤ 1000) (k m : Int) (s0 : ByteArray) (f : Fr) (p : Nat) (hq : rdE s 0 = some ((k, m, s0, f), p)) (h58 : bA s p 58 = true) (h45 : bA s (p + 1) 45 = true) (g : Fr) (q : Nat) (hg : rdG 8 s (p + 2) .nil = some (g, q)) :
    Calls Tryz.prog 45 #[.string s] w fun e w' => PcR w (pcF s ⟨k, m, s0, f, g⟩ q) e w' := by
  have hb0 : Below w.heap.size w (w.alloc (.cells #[.int .i64 0, .int .i64 0, .string ⟨#[]⟩, .slice none 0 0, .slice none 0 0] 32)) := (Below.refl _ _).alloc (Nat.le_refl _) _
  have hq0 := Blk.new w 32 #[.int .i64 0, .int .i64 0, .string ⟨#[]⟩, .slice none 0 0, .slice none 0 0]
  have HB0 := Lib.hid hb0
  have HQ0 := Lib.hid hq0
  clear hb0 hq0
  have t0 : ¬ (s.size : Int) > 1000 := by omega
  have C1 := read_any s 0 (w.alloc (.cells #[.int .i64 0, .int .i64 0, .string ⟨#[]⟩, .slice none 0 0, .slice none 0 0] 32)) (by omega) (by omega)
  rw [show ((0 : Nat) : Int) = 0 from rfl, hq] at C1
  have hp := rdE_prog hq
  have hnd := rdE_nodes hq
  have t8 : ¬ (p : Int) < 0 := by omega
  have hp1 : p ≤ 1000 := by omega
  have H1 := Lib.hid C1
  have HNA : Hid (nodes f ≤ 1048576) := Lib.hid (by simp only at hnd; omega)
  have C58 := fun w1 => sign_any s p 58 w1 (by unfold maxLen; omega) (by unfold maxLen; omega)
  have C45 := fun w1 => sign_any s (p + 1) 45 w1 (by unfold maxLen; omega) (by unfold maxLen; omega)
  rw [show ((p + 1 : Nat) : Int) = (p : Int) + 1 by omega] at C45
  change ∀ w1, Calls _ _ _ _ fun e w' => e = .returned (.bool (bA s p 58)) ∧ w' = w1 at C58
  change ∀ w1, Calls _ _ _ _ fun e w' => e = .returned (.bool (bA s (p + 1) 45)) ∧ w' = w1 at C45
  rw [h58] at C58
  have H58 := Lib.hid C58
  clear C1 hq hnd C58 h58
  rw [h45] at C45
  have H45 := Lib.hid C45
  have h2l := bA_lt h45
  have CG := fun w1 => goals_any s (p + 2) w1 (by omega) (by omega)
  rw [show ((p + 2 : Nat) : Int) = (p : Int) + 2 by omega, hg] at CG
  have HG := Lib.hid CG
  clear C45 h45 CG
  have hgp := rdG_prog _ _ _ _ _ _ hg
  have hgn := rdG_nodes _ _ _ _ _ _ hg
  have HNB : Hid (nodes g ≤ 1048576) := Lib.hid (by simp only [nodes, Fr.len] at hgn; omega)
  have hq1 : q ≤ 1000 := by omega
  clear hg hgn hgp
  go_enter Tryz.func45, Tryz.ntmps45
  go_wp2_with fail
  refine H1.out.mono ?_
  intro e w2 hr2
  obtain ⟨hb, A, cap, rfl, hf, hk⟩ := hr2.some_
  have hb3 : Below w2.heap.size w2 ((w2.alloc (.cells #[.int .i64 k, .int .i64 m, .string s0, .slice A f.len cap] 30)).alloc (.cells #[.int .i64 k, .int .i64 m, .string s0, .slice A f.len cap, .slice none 0 0] 32)) := two_alloc _ _ _
  have hb23 := hb.trans (hb3.mono hb.size)
  have HB3 := Lib.hid (HB0.out.trans (hb23.mono HB0.out.size))
  have HQ3 := Lib.hid (HQ0.out.below hb23 HQ0.out.lt)
  have HC3 : Hid (Blk ((w2.alloc (.cells #[.int .i64 k, .int .i64 m, .string s0, .slice A f.len cap] 30)).alloc (.cells #[.int .i64 k, .int .i64 m, .string s0, .slice A f.len cap, .slice none 0 0] 32)) (w2.heap.size + 1) 32 #[.int .i64 k, .int .i64 m, .string s0, .slice A f.len cap, .slice none 0 0]) := Lib.hid (by
    have h := Blk.new (w2.alloc (.cells #[.int .i64 k, .int .i64 m, .string s0, .slice A f.len cap] 30)) 32 #[.int .i64 k, .int .i64 m, .string s0, .slice A f.len cap, .slice none 0 0]
    simpa using h)
  have HF := Lib.hid hf
  have HK3 := Lib.hid ((hk.below hb3 (Nat.le_refl _)).more (hi' := w2.heap.size + 1) (Nat.zero_le _) (Nat.le_succ _))
  have HWG : Hid (w.heap.size < w2.heap.size + 1) := Lib.hid (by have := hb.size; simp at this; omega)
  clear hb hf hk hb3 hb23 hr2
  go_wp2_with fail
  generalize (w2.alloc (.cells #[.int .i64 k, .int .i64 m, .string s0, .slice A f.len cap] 30)).alloc (.cells #[.int .i64 k, .int .i64 m, .string s0, .slice A f.len cap, .slice none 0 0] 32) = w3 at *
  generalize w2.heap.size + 1 = G at *
  refine (H58.out _).mono ?_
  rintro e w9 ⟨rfl, hw⟩
  rw [hw]
  clear hw
  go_wp2_with fail
  refine (H45.out _).mono ?_
  rintro e w9 ⟨rfl, hw⟩
  rw [hw]
  clear hw
  go_wp2_with fail
  refine (HG.out _).mono ?_
  intro e w4 hr2
  obtain ⟨hb, B, capB, rfl, hkb⟩ := hr2.some_
  have HB4 := Lib.hid (HB3.out.trans (hb.mono HB3.out.size))
  have hc4 := HC3.out.below hb HC3.out.lt
  have hq4 := HQ3.out.below hb HQ3.out.lt
  obtain ⟨a0, a1, a2, a3, a4⟩ := dcells5 hc4
  obtain ⟨g0, g1, g2, g3, g4⟩ := dfrozen5 hc4
  have hG3 := HC3.out.lt
  have hbsz := hb.size
  have hHG : w.heap.size < G := by have := HWG.out; omega
  have hne : w.heap.size ≠ G := by omega
  have HQ5 : Hid (Blk (w4.setCell ⟨G, 4, none⟩ (.slice B g.len capB)) w.heap.size 32 #[.int .i64 0, .int .i64 0, .string ⟨#[]⟩, .slice none 0 0, .slice none 0 0]) := Lib.hid (hq4.far hne _)
  have HB5 := Lib.hid (HB4.out.setCell (p := ⟨G, 4, none⟩) (Nat.le_of_lt hHG) (.slice B g.len capB))
  have HC5 : Hid (Blk (w4.setCell ⟨G, 4, none⟩ (.slice B g.len capB)) G 32 #[.int .i64 k, .int .i64 m, .string s0, .slice A f.len cap, .slice B g.len capB]) := Lib.hid (hc4.set_ 4 _)
  have hsz : (w4.setCell ⟨G, 4, none⟩ (.slice B g.len capB)).heap.size = w4.heap.size := by simp [World.setCell]
  have HKB : Hid (KidsAt (w4.setCell ⟨G, 4, none⟩ (.slice B g.len capB)) 0 (w4.setCell ⟨G, 4, none⟩ (.slice B g.len capB)).heap.size g B capB) := Lib.hid (by
    rw [hsz]
    exact (hkb.keep fun p' h1 _ => World.cell?_of_block (heap_setCell_other _ _ _ _ (show p'.block ≠ G by omega))).more (Nat.zero_le _) (Nat.le_refl _))
  have HKA : Hid (KidsAt (w4.setCell ⟨G, 4, none⟩ (.slice B g.len capB)) 0 (w4.setCell ⟨G, 4, none⟩ (.slice B g.len capB)).heap.size f A cap) := Lib.hid (by
    rw [hsz]
    exact ((HK3.out.below hb (Nat.le_of_lt HC3.out.lt)).keep fun p' _ h2 => World.cell?_of_block (heap_setCell_other _ _ _ _ (show p'.block ≠ G by omega))).more (Nat.zero_le _) (by have := hb.size; omega))
  obtain ⟨d0, d1, d2, d3, d4⟩ := dcells5 hq4
  obtain ⟨e0, e1, e2, e3, e4⟩ := dfrozen5 hq4
  clear hb hkb hr2 hc4 hq4 HK3 HB4 HB3 HQ3 HC3 hsz
  have C46 := fun w1 => sign_any s q 46 w1 (by unfold maxLen; omega) (by unfold maxLen; omega)
  have CF := wr.specFC_any ⟨k, m, s0, f, g⟩ A B cap capB 0 (w4.setCell ⟨G, 4, none⟩ (.slice B g.len capB)).heap.size (w4.setCell ⟨G, 4, none⟩ (.slice B g.len capB)) HKA.out HKB.out (Nat.le_refl _) HF.out HNA.out HNB.out
  have CC4 := fun w1 (hb : Below (w4.setCell ⟨G, 4, none⟩ (.slice B g.len capB)).heap.size (w4.setCell ⟨G, 4, none⟩ (.slice B g.len capB)) w1) => cpC_any ⟨k, m, s0, f, g⟩ A B cap capB 0 (w4.setCell ⟨G, 4, none⟩ (.slice B g.len capB)).heap.size w1 (HKA.out.below hb (Nat.le_refl _)) (HKB.out.below hb (Nat.le_refl _)) hb.size HF.out HNA.out HNB.out
  change ∀ w1, Calls _ _ _ _ fun e w' => e = .returned (.bool (bA s q 46)) ∧ w' = w1 at C46
  have hstr : (⟨(wr.fcB ⟨k, m, s0, f, g⟩).toArray⟩ : ByteArray).toList = wr.fcB ⟨k, m, s0, f, g⟩ := by rw [ByteArray.toList_eq]
  have hss : s.toList = s.data.toList := by rw [ByteArray.toList_eq]
  obtain ⟨a0, a1, a2, a3, a4⟩ := dcells5 HC5.out
  by_cases z1 : q + 1 = s.size
  · have t1 : (q : Int) = (s.size : Int) - 1 := by omega
    have eq1 : (q : Int) = (s.size : Int) - 1 := by omega
    rw [eq1] at C46
    clear eq1
    cases z2 : bA s q 46 with
    | false =>
      rw [z2] at C46
      have H46 := Lib.hid C46
      have HR : Hid (pcF s ⟨k, m, s0, f, g⟩ q = none) := Lib.hid (pcF_no fun h => by rw [z2] at h; cases h.2.1)
      have HB2 := HB5
      have HQ2 := HQ5
      obtain ⟨d0, d1, d2, d3, d4⟩ := dcells5 HQ2.out
      obtain ⟨f0, f1, f2, f3, f4⟩ := dfrozen5 HQ2.out
      clear C46 CF CC4 z1 z2 hstr hss a0 a1 a2 a3 a4
      go_wp2_with fail
      refine (H46.out _).mono ?_
      rintro e w9 ⟨rfl, hw⟩
      rw [hw]
      clear hw
      go_wp2_with fail
      refine bodyPost_ret (v := .tuple #[.agg #[.int .i64 0, .int .i64 0, .string ⟨#[]⟩, .slice none 0 0, .slice none 0 0], .bool false]) ?_ rfl (by rw [HR.out]; exact PcR.fin0 HB2.out _ _ _ _ _)
      exact results_cell_row2 Tryz.results45 _ _ w.heap.size _ _ _ _ rfl (dset5 HQ2.out _ _ _ _ _) Tryz.underlying32 rfl (by kernel_rfl)
    | true =>
      rw [z2] at C46
      have H46 := Lib.hid C46
      by_cases z3 : wr.fcB ⟨k, m, s0, f, g⟩ = s.data.toList
      · have HR : Hid (pcF s ⟨k, m, s0, f, g⟩ q = some ⟨k, m, s0, f, g⟩) := Lib.hid (pcF_yes z1 z2 z3)
        have t3 : ((⟨(wr.fcB ⟨k, m, s0, f, g⟩).toArray⟩ : ByteArray).toList == s.toList) = true := by rw [beq_iff_eq, hstr, hss]; exact z3
        generalize (⟨(wr.fcB ⟨k, m, s0, f, g⟩).toArray⟩ : ByteArray) = bs at *
        have HCF := Lib.hid CF
        have HCC := Lib.hid CC4
        clear C46 CF CC4 z1 z2 z3 hstr hss
        go_wp2_with fail
        refine (H46.out _).mono ?_
        rintro e w9 ⟨rfl, hw⟩
        rw [hw]
        clear hw
        go_wp2_with fail
        refine HCF.out.mono ?_
        rintro e w6 ⟨rfl, hb⟩
        have HB56 := Lib.hid hb
        clear hb a0 a1 a2 a3 a4
        obtain ⟨a0, a1, a2, a3, a4⟩ := dcells5 (HC5.out.below HB56.out HC5.out.lt)
        go_wp2_with fail
        refine (HCC.out _ HB56.out).mono ?_
        rintro e w7 ⟨A9, c9, B9, cb9, rfl, hm⟩
        have hb67 := hm.at_.2.2
        have hb57 := HB56.out.trans (hb67.mono HB56.out.size)
        have HQ2 := Lib.hid (HQ5.out.below hb57 HQ5.out.lt)
        have HM := Lib.hid hm
        clear hm hb67 hb57 a0 a1 a2 a3 a4
        obtain ⟨d0, d1, d2, d3, d4⟩ := dcells5 HQ2.out
        obtain ⟨f0, f1, f2, f3, f4⟩ := dfrozen5 HQ2.out
        go_wp2_with fail
        refine bodyPost_ret (v := .tuple #[.agg #[.int .i64 k, .int .i64 m, .string s0, .slice A9 f.len c9, .slice B9 g.len cb9], .bool true]) ?_ rfl (by rw [HR.out]; exact PcR.fin (c := ⟨k, m, s0, f, g⟩) (HB5.out.trans (HB56.out.mono HB5.out.size)) (by have := HQ5.out.lt; have := HB56.out.size; omega) HF.out HM.out _ _ _ _ _)
        exact results_cell_row2 Tryz.results45 _ _ w.heap.size _ _ _ _ rfl (dset5 HQ2.out _ _ _ _ _) Tryz.underlying32 rfl (by kernel_rfl)
      · have HR : Hid (pcF s ⟨k, m, s0, f, g⟩ q = none) := Lib.hid (pcF_no fun h => z3 h.2.2)
        have t3 : ((⟨(wr.fcB ⟨k, m, s0, f, g⟩).toArray⟩ : ByteArray).toList == s.toList) = false := by rw [beq_eq_false_iff_ne, hstr, hss]; exact z3
        generalize (⟨(wr.fcB ⟨k, m, s0, f, g⟩).toArray⟩ : ByteArray) = bs at *
        have HCF := Lib.hid CF
        clear C46 CF CC4 z1 z2 z3 hstr hss
        go_wp2_with fail
        refine (H46.out _).mono ?_
        rintro e w9 ⟨rfl, hw⟩
        rw [hw]
        clear hw
        go_wp2_with fail
        refine HCF.out.mono ?_
        rintro e w6 ⟨rfl, hb⟩
        have HB2 := Lib.hid (HB5.out.trans (hb.mono HB5.out.size))
        have HQ2 := Lib.hid (HQ5.out.below hb HQ5.out.lt)
        clear hb a0 a1 a2 a3 a4
        obtain ⟨d0, d1, d2, d3, d4⟩ := dcells5 HQ2.out
        obtain ⟨f0, f1, f2, f3, f4⟩ := dfrozen5 HQ2.out
        go_wp2_with fail
        refine bodyPost_ret (v := .tuple #[.agg #[.int .i64 0, .int .i64 0, .string ⟨#[]⟩, .slice none 0 0, .slice none 0 0], .bool false]) ?_ rfl (by rw [HR.out]; exact PcR.fin0 HB2.out _ _ _ _ _)
        exact results_cell_row2 Tryz.results45 _ _ w.heap.size _ _ _ _ rfl (dset5 HQ2.out _ _ _ _ _) Tryz.underlying32 rfl (by kernel_rfl)
  · have t1 : ¬ (q : Int) = (s.size : Int) - 1 := by omega
    have HR : Hid (pcF s ⟨k, m, s0, f, g⟩ q = none) := Lib.hid (pcF_no fun h => z1 h.1)
    have HB2 := HB5
    have HQ2 := HQ5
    obtain ⟨d0, d1, d2, d3, d4⟩ := dcells5 HQ2.out
    obtain ⟨f0, f1, f2, f3, f4⟩ := dfrozen5 HQ2.out
    clear C46 CF CC4 z1 hstr hss a0 a1 a2 a3 a4
    go_wp2_with fail
    refine bodyPost_ret (v := .tuple #[.agg #[.int .i64 0, .int .i64 0, .string ⟨#[]⟩, .slice none 0 0, .slice none 0 0], .bool false]) ?_ rfl (by rw [HR.out]; exact PcR.fin0 HB2.out _ _ _ _ _)
    exact results_cell_row2 Tryz.results45 _ _ w.heap.size _ _ _ _ rfl (dset5 HQ2.out _ _ _ _ _) Tryz.underlying32 rfl (by kernel_rfl)
end Go.Proofs.YtihmgodiiohdnaaGreatDoor.rdr

/- spec.l18Cut. Condition: the text is no longer than 2^20 bytes. -/
namespace Go.Proofs.YtihmgodiiohdnaaGreatDoor.rdr
open Go.RowKit

theorem infoStr : (Tryz.prog.info? 9).map (fun i => (i.zero, i.size, i.bytes)) = some (some (.string ByteArray.empty), 1, 16) := by kernel_rfl
/-- The parts of a text, from offset i on; the part that is open begins at a. -/
def cutG (s : ByteArray) (x : Int) : Nat → Nat → Nat → List ByteArray → List ByteArray
  | 0, _, _, acc => acc
  | n + 1, a, i, acc => if i = s.size ∨ bA s i x = true then cutG s x n (i + 1) (i + 1) (acc ++ [s.extract a i]) else cutG s x n a (i + 1) acc
def cutL (s : ByteArray) (x : Int) : List ByteArray := cutG s x (s.size + 1) 0 0 []
/-- A row of strings that a call owns. -/
def OwnW (w : World) (base : Nat) (v : Value) (xs : List ByteArray) : Prop := w.ownsRow base 9 1 v xs.length (xs.map Value.string)
theorem OwnW.below {w w1 : World} {base : Nat} {v : Value} {xs : List ByteArray} (h : OwnW w base v xs) (hb : Below w.heap.size w w1) : OwnW w1 base v xs :=
  World.ownsRow.kept h (row := none) ⟨hb.os, hb.tape, hb.output, hb.size, fun k hk _ => hb.block k hk⟩ (by
    cases h : v.ownBlock with
    | none => exact .inl rfl
    | some g => exact .inr (by simp))
theorem OwnW.read {w : World} {base : Nat} {v : Value} {xs : List ByteArray} (h : OwnW w base v xs) : ∃ A cap, v = .slice A xs.length cap ∧ xs.length ≤ cap ∧ cap ≤ maxLen ∧ (0 < xs.length → ∃ g, A = some ⟨g, 0, none⟩ ∧ g < w.heap.size ∧ base ≤ g ∧ ∀ i z, xs[i]? = some z → w.cell? ⟨g, i, none⟩ = some (.string z)) := by
  have hl := World.ownsRow.lt h
  rcases h.2 with ⟨h0, h1⟩ | ⟨g, cap, cur, h0, hbg, hg, hnc, hcm, hcs, htake⟩
  · exact ⟨none, 0, by rw [h0, h1], by omega, Nat.zero_le _, fun hp => by omega⟩
  · refine ⟨some ⟨g, 0, none⟩, cap, h0, hnc, hcm, fun _ => ⟨g, rfl, ?_, hbg, fun i z hz => ?_⟩⟩
    · exact (hl g (by rw [h0]; rfl)).2
    · have h3 := World.ownsRow.cells h (g := g) (by rw [h0]; rfl) i (.string z) (by rw [List.getElem?_map, hz]; rfl)
      have e : (⟨g, 0, none⟩ : Addr).add i = ⟨g, i, none⟩ := by unfold Addr.add; split <;> simp_all
      rwa [e] at h3
set_option maxRecDepth 100000 in
set_option maxHeartbeats 4000000 in
theorem cut_any (s : ByteArray) (x : Int) (w : World) (hs : s.size ≤ 1048576) :
    Calls Tryz.prog 44 #[.string s, .int .u8 x] w fun e w' => ∃ v, e = .returned v ∧ OwnW w' w.heap.size v (cutL s x) ∧ Below w.heap.size w w' := by
  obtain ⟨i0, hi0, hz0, hz1, hz2⟩ := info_parts infoStr
  have hb0 : Below w.heap.size w (w.alloc (.cells #[] 9)) := (Below.refl _ _).alloc (Nat.le_refl _) _
  have hr0 : OwnW (w.alloc (.cells #[] 9)) w.heap.size (.slice (some ⟨w.heap.size, 0, none⟩) 0 0) [] := ⟨rfl, .inr ⟨w.heap.size, 0, #[], rfl, Nat.le_refl _, heap_alloc_new w _, Nat.le_refl _, Nat.zero_le _, rfl, rfl⟩⟩
  generalize hR : cutL s x = R
  have HR0 := Lib.hid hR
  have HB0 := Lib.hid hb0
  have HO0 := Lib.hid hr0
  clear hb0 hr0 hR
  go_enter Tryz.func44, Tryz.ntmps44
  go_wp2_with fail
  generalize w.alloc (.cells #[] 9) = w1 at *
  go_loopw [5, 6, 7] (fun u fr i wr => ∃ (v : Value) (acc : List ByteArray) (a j : Nat), v = u ∧ fr = .int .i64 a ∧ i = .int .i64 j ∧ j ≤ s.size + 1 ∧ a ≤ j ∧ acc.length ≤ j ∧ cutG s x (s.size + 1 - j) a j acc = R ∧ OwnW wr w.heap.size v acc ∧ Below w.heap.size w wr) (fun _ _ i _ => s.size + 1 - (intOf i).toNat)
  case atStart => exact ⟨_, [], 0, 0, rfl, rfl, rfl, by omega, Nat.le_refl _, Nat.le_refl _, HR0.out, HO0.out, HB0.out⟩
  case round =>
    obtain ⟨v, acc, a, j, rfl, rfl, rfl, hj, haj, hal, hR, ho, hb⟩ := hrel
    have HB := Lib.hid hb
    have HO := Lib.hid ho
    have hws : w.heap.size ≤ wr.heap.size := hb.size
    by_cases hje : j ≤ s.size
    · have t1 : (j : Int) ≤ (s.size : Int) := by omega
      obtain ⟨m, hm⟩ : ∃ m, s.size + 1 - j = m + 1 := ⟨s.size - j, by omega⟩
      have hm2 : s.size + 1 - (j + 1) = m := by omega
      rw [hm, cutG] at hR
      by_cases hc : j = s.size ∨ bA s j x = true
      · rw [if_pos hc] at hR
        have HRR := Lib.hid hR
        have HM := Lib.hid (And.intro hm2 (And.intro hj (And.intro haj hal)))
        have HSTEP : Hid (∀ w5 g cap', (wr.alloc (.cells #[.string (s.extract a j)] 9)).grownBy w5 v.ownBlock → w5.ownsRow w.heap.size 9 1 (.slice (some ⟨g, 0, none⟩) (acc.length + 1) cap') (acc.length + 1) (acc.map Value.string ++ [.string (s.extract a j)]) → OwnW w5 w.heap.size (.slice (some ⟨g, 0, none⟩) (acc.length + 1) cap') (acc ++ [s.extract a j]) ∧ Below w.heap.size w w5) := Lib.hid fun w5 g cap' hg ho5 => by
          refine ⟨?_, ?_⟩
          · unfold OwnW
            rw [List.length_append, List.map_append]
            exact ho5
          · have h2 := HB.out.trans (((Below.refl _ wr).alloc (Nat.le_refl _) (.cells #[.string (s.extract a j)] 9)).mono HB.out.size)
            exact h2.grown hg h2.size fun g' hg' => (World.ownsRow.lt HO.out g' hg').1
        have halb : acc.length ≤ 1048577 := by omega
        have hja : (a : Int) ≤ (j : Int) := by omega
        generalize hxs : acc.map Value.string = xs at *
        have HOX : Hid (wr.ownsRow w.heap.size 9 1 v acc.length xs) := Lib.hid (by rw [← hxs]; exact HO.out)
        generalize hAL : acc.length = al at *
        have HAL := Lib.hid hAL
        clear hAL hR hm hm2 hj hal hb ho hxs HO
        rcases hc with hc | hc
        · have t2 : ((j : Int) == (s.size : Int)) = true := by rw [beq_iff_eq]; omega
          clear hc
          go_wp2_with (at_builtin; go_must (refine wpList_append_lies _ rfl _ _ _ rfl w.heap.size 9 i0 _ 1 16 Tryz.underlying74 hi0 hz0 hz1 hz2 rfl (by omega) v al xs rfl (HOX.out.alloc _) ⟨wr.heap.size, 0, none⟩ 1 1 [.string (s.extract a j)] rfl rfl (World.news_of_block (cs := #[.string (s.extract a j)]) (fr := (0, 0)) (heap_alloc_new wr _)) (by simp [Value.oneCell']) (by omega) (by unfold maxLen; omega) (by omega) (by simp; omega) (wr.heap.size + 1) (by simp) ?_); intro g cap4 w9 hown9 hgrow hat hlt9; have HS := Lib.hid (HSTEP.out w9 g cap4 hgrow hown9); clear hown9 hgrow hat)
          go_roundw
          case rel => exact ⟨_, acc ++ [s.extract a j], j + 1, j + 1, rfl, by go_num, by go_num, by omega, Nat.le_refl _, by rw [List.length_append, HAL.out]; have := HM.out.2.2.2; simp only [List.length_cons, List.length_nil]; omega, by rw [HM.out.1]; exact HRR.out, HS.out.1, HS.out.2⟩
          case measure => simp [intOf]; omega
        · have hjl := bA_lt hc
          have t2 : ((j : Int) == (s.size : Int)) = false := by rw [beq_eq_false_iff_ne]; omega
          have t3 : ((s[j].toNat : Int) == x) = true := by
            have h := hc
            unfold bA at h
            rw [atB_some (Lib.data_getElem? s j hjl)] at h
            exact h
          clear hc
          go_wp2_with (at_builtin; go_must (refine wpList_append_lies _ rfl _ _ _ rfl w.heap.size 9 i0 _ 1 16 Tryz.underlying74 hi0 hz0 hz1 hz2 rfl (by omega) v al xs rfl (HOX.out.alloc _) ⟨wr.heap.size, 0, none⟩ 1 1 [.string (s.extract a j)] rfl rfl (World.news_of_block (cs := #[.string (s.extract a j)]) (fr := (0, 0)) (heap_alloc_new wr _)) (by simp [Value.oneCell']) (by omega) (by unfold maxLen; omega) (by omega) (by simp; omega) (wr.heap.size + 1) (by simp) ?_); intro g cap4 w9 hown9 hgrow hat hlt9; have HS := Lib.hid (HSTEP.out w9 g cap4 hgrow hown9); clear hown9 hgrow hat)
          go_roundw
          case rel => exact ⟨_, acc ++ [s.extract a j], j + 1, j + 1, rfl, by go_num, by go_num, by omega, Nat.le_refl _, by rw [List.length_append, HAL.out]; have := HM.out.2.2.2; simp only [List.length_cons, List.length_nil]; omega, by rw [HM.out.1]; exact HRR.out, HS.out.1, HS.out.2⟩
          case measure => simp [intOf]; omega
      · rw [if_neg hc] at hR
        have hjl : j < s.size := by omega
        have HRR := Lib.hid hR
        have HM := Lib.hid (And.intro hm2 (And.intro hj (And.intro haj hal)))
        have t2 : ((j : Int) == (s.size : Int)) = false := by rw [beq_eq_false_iff_ne]; omega
        have t3 : ((s[j].toNat : Int) == x) = false := by
          rw [← Bool.not_eq_true]
          intro h
          refine hc (.inr ?_)
          unfold bA
          rw [atB_some (Lib.data_getElem? s j hjl)]
          exact h
        clear hR hm hm2 hj hal hb ho hc
        go_wp2_with fail
        go_roundw
        case rel => exact ⟨_, acc, a, j + 1, rfl, rfl, by go_num, by omega, by omega, by have := HM.out.2.2.2; omega, by rw [HM.out.1]; exact HRR.out, HO.out, HB.out⟩
        case measure => simp [intOf]; omega
    · have t1 : ¬ (j : Int) ≤ (s.size : Int) := by omega
      have HV : Hid (acc = R) := Lib.hid (by
        rw [show s.size + 1 - j = 0 by omega] at hR
        exact hR)
      clear hR hb ho
      go_wp2_with fail
      go_ret
      rw [← HV.out]
      exact ⟨_, rfl, HO.out, HB.out⟩
end Go.Proofs.YtihmgodiiohdnaaGreatDoor.rdr

/- Rows of clauses that a call makes by append. No condition. -/
namespace Go.Proofs.YtihmgodiiohdnaaGreatDoor
open Go.RowKit

/-- The cells xs read as the clauses, whose terms' arguments lie in the blocks L. -/
def DescC (w : World) : List Cl → List Value → List Nat → Prop
  | [], xs, L => xs = [] ∧ L = []
  | c :: cs, xs, L => ∃ (A : Option Addr) (cap : Nat) (B : Option Addr) (capB : Nat) (L1 L2 L3 : List Nat) (ys : List Value), xs = .int .i64 c.k :: .int .i64 c.n :: .string c.s :: .slice A c.kids.len cap :: .slice B c.body.len capB :: ys ∧ L = L1 ++ (L2 ++ L3) ∧ Fits c.k c.n c.s ∧ OwnS w c.kids A cap L1 ∧ OwnS w c.body B capB L2 ∧ DescC w cs ys L3
section
variable {w w' : World}
theorem DescC.keep : ∀ (cs : List Cl) (xs : List Value) (L : List Nat), DescC w cs xs L → (∀ x ∈ L, w'.heap[x]? = w.heap[x]?) → DescC w' cs xs L
  | [], _, _, h, _ => h
  | c :: cs, xs, L, h, hL => by
    obtain ⟨A, cap, B, capB, L1, L2, L3, ys, rfl, rfl, hf, ho, hob, hd⟩ := h
    exact ⟨A, cap, B, capB, L1, L2, L3, ys, rfl, rfl, hf, ho.keep fun x hx => hL x (by simp [hx]), hob.keep fun x hx => hL x (by simp [hx]), DescC.keep cs ys L3 hd fun x hx => hL x (by simp [hx])⟩
theorem DescC.snoc {c : Cl} {A B : Option Addr} {cap capB : Nat} {L1' L2' : List Nat} (hf : Fits c.k c.n c.s) (hs : OwnS w c.kids A cap L1') (hsb : OwnS w c.body B capB L2') :
    ∀ (cs : List Cl) (xs : List Value) (L : List Nat), DescC w cs xs L → DescC w (cs ++ [c]) (xs ++ [.int .i64 c.k, .int .i64 c.n, .string c.s, .slice A c.kids.len cap, .slice B c.body.len capB]) (L ++ (L1' ++ L2'))
  | [], _, _, h => by
    obtain ⟨rfl, rfl⟩ := h
    exact ⟨A, cap, B, capB, L1', L2', [], [], rfl, by simp, hf, hs, hsb, rfl, rfl⟩
  | c0 :: cs, _, _, h => by
    obtain ⟨A', cap', B', capB', L1, L2, L3, ys, rfl, rfl, hf', ho, hob, hd⟩ := h
    exact ⟨A', cap', B', capB', L1, L2, L3 ++ (L1' ++ L2'), _, rfl, by simp, hf', ho, hob, DescC.snoc hf hs hsb cs ys L3 hd⟩
theorem DescC.own {g : Nat} : ∀ (cs : List Cl) (xs : List Value) (L : List Nat) (o : Nat), DescC w cs xs L → (∀ j u, xs[j]? = some u → w.cell? ⟨g, o + j, none⟩ = some u) → OwnC w cs g o L
  | [], _, _, _, h, _ => h.2
  | c :: cs, _, _, o, h, hc => by
    obtain ⟨A, cap, B, capB, L1, L2, L3, ys, rfl, rfl, hf, ho, hob, hd⟩ := h
    refine ⟨A, cap, B, capB, L1, L2, L3, rfl, hf, ⟨hc 0 _ rfl, hc 1 _ rfl, hc 2 _ rfl, hc 3 _ rfl, hc 4 _ rfl⟩, ho, hob, DescC.own cs ys L3 (o + 5) hd fun j u hu => ?_⟩
    have := hc (j + 5) u (by simpa using hu)
    rwa [show o + (j + 5) = o + 5 + j by omega] at this
/-- The slice v reads as the clauses; its block and those of the terms are the call's own, from base on. -/
def RowC (base : Nat) (v : Value) (cs : List Cl) (w : World) : Prop :=
  ∃ xs L, w.ownsRow base 32 5 v cs.length xs ∧ DescC w cs xs L ∧ L.Nodup ∧ (∀ x ∈ L, base ≤ x ∧ x < w.heap.size) ∧ (∀ g, v.ownBlock = some g → g ∉ L)
variable {base : Nat} {v : Value} {cs : List Cl}
theorem RowC.empty {w : World} (hb : base ≤ w.heap.size) : RowC base (.slice (some ⟨w.heap.size, 0, none⟩) 0 0) [] (w.alloc (.cells #[] 32)) :=
  ⟨[], [], ⟨rfl, .inr ⟨w.heap.size, 0, #[], rfl, hb, heap_alloc_new w _, Nat.le_refl _, Nat.zero_le _, rfl, rfl⟩⟩, ⟨rfl, rfl⟩, List.nodup_nil, fun x hx => by simp at hx, fun g hg => by simp⟩
theorem RowC.wroteN {L0 : List Nat} (h : RowC base v cs w) (hr : ∀ x ∈ L0, x < base) (hw : Wrote L0 w w') : RowC base v cs w' := by
  obtain ⟨xs, L, ho, hd, hn, hL, hv⟩ := h
  have hlt := ho.lt
  refine ⟨xs, L, ⟨ho.1, ?_⟩, DescC.keep cs xs L hd fun x hx => hw.block x (hL x hx).2 (fun h => by have := hr x h; have := (hL x hx).1; omega), hn, fun x hx => ⟨(hL x hx).1, Nat.lt_of_lt_of_le (hL x hx).2 hw.size⟩, hv⟩
  rcases ho.2 with h | ⟨g, cap, cur, rfl, hg, hh, hr'⟩
  · exact .inl h
  · exact .inr ⟨g, cap, cur, rfl, hg, (hw.block g (hlt g rfl).2 (fun h => by have := hr g h; omega)).trans hh, hr'⟩
theorem RowC.below (h : RowC base v cs w) (hb : Below w.heap.size w w') : RowC base v cs w' := h.wroteN (L0 := []) (fun x hx => by simp at hx) (.of_below hb [])
theorem RowC.own (h : RowC base v cs w) : ∃ A cap, v = .slice A cs.length cap ∧ (A ≠ none → ∃ L, OwnCS w cs A cap L ∧ L.Nodup ∧ ∀ x ∈ L, base ≤ x ∧ x < w.heap.size) := by
  obtain ⟨xs, L, ho, hd, hn, hL, hv⟩ := h
  rcases ho.2 with ⟨rfl, h0⟩ | ⟨g, cap, cur, rfl, hbg, hg, hnc, hcm, hcs, htake⟩
  · exact ⟨none, 0, by rw [h0], fun h => (h rfl).elim⟩
  · have hgl := Blk.lt hg
    refine ⟨_, cap, rfl, fun _ => ⟨g :: L, ⟨hnc, hcm, g, L, cur, rfl, rfl, hg, hcs, DescC.own cs xs L 0 hd fun j u hu => ?_⟩, List.nodup_cons.2 ⟨hv g rfl, hn⟩, fun x hx => ?_⟩⟩
    · have h3 := (World.ownsRow.cells ho (g := g) rfl) j u hu
      have e : (⟨g, 0, none⟩ : Addr).add j = ⟨g, 0 + j, none⟩ := by unfold Addr.add; split <;> simp_all
      rwa [e] at h3
    · rcases List.mem_cons.1 hx with rfl | hx
      · exact ⟨hbg, hgl⟩
      · exact hL x hx
/-- One clause more: the clause was made behind w (where only blocks of L0 that were there are written), the append stands at w2. -/
theorem RowC.step {L0 : List Nat} {w1 w2 w3 : World} {xs : List Value} {L L1 L2 : List Nat} {c : Cl} {A B : Option Addr} {cap capB cap' g m : Nat} (hr : ∀ x ∈ L0, x < base)
    (hm0 : cs.length = m) (hD : DescC w cs xs L) (hN : L.Nodup) (hL : ∀ x ∈ L, base ≤ x ∧ x < w.heap.size) (hv : ∀ g, v.ownBlock = some g → g ∉ L) (hvl : ∀ g, v.ownBlock = some g → g < w.heap.size) (hbase : base ≤ w.heap.size)
    (hf : Fits c.k c.n c.s) (how : OwnS w1 c.kids A cap L1) (hob : OwnS w1 c.body B capB L2) (hn' : (L1 ++ L2).Nodup) (hL' : ∀ x ∈ L1 ++ L2, w.heap.size ≤ x ∧ x < w1.heap.size) (hb1 : Wrote L0 w w1) (hb2 : Below w1.heap.size w1 w2) (hg : w2.grownBy w3 v.ownBlock)
    (ho : w3.ownsRow base 32 5 (.slice (some ⟨g, 0, none⟩) (m + 1) cap') (m + 1) (xs ++ [.int .i64 c.k, .int .i64 c.n, .string c.s, .slice A c.kids.len cap, .slice B c.body.len capB])) (hat : v.ownBlock = some g ∨ g = w2.heap.size) :
    RowC base (.slice (some ⟨g, 0, none⟩) (m + 1) cap') (cs ++ [c]) w3 := by
  subst hm0
  have h12 : w.heap.size ≤ w2.heap.size := Nat.le_trans hb1.size hb2.size
  have far : ∀ x, x < w1.heap.size → (∀ g, v.ownBlock = some g → x ≠ g) → w3.heap[x]? = w1.heap[x]? := fun x hx hne =>
    (hg.block x (Nat.lt_of_lt_of_le hx hb2.size) fun e => hne x e.symm rfl).trans (hb2.block x hx)
  have hlen : (cs ++ [c]).length = cs.length + 1 := by simp
  have hfar : ∀ x ∈ L1 ++ L2, w3.heap[x]? = w1.heap[x]? := fun x hx => far x (hL' x hx).2 fun g hg e => by have := hvl g hg; have := (hL' x hx).1; omega
  refine ⟨_, L ++ (L1 ++ L2), by rw [hlen]; exact ho, DescC.snoc hf (how.keep fun x hx => hfar x (by simp [hx])) (hob.keep fun x hx => hfar x (by simp [hx])) cs xs L (DescC.keep cs xs L hD fun x hx => ?_), List.nodup_append.2 ⟨hN, hn', fun a ha b hb e => ?_⟩, fun x hx => ?_, fun g' hg' hx => ?_⟩
  · rw [far x (Nat.lt_of_lt_of_le (hL x hx).2 hb1.size) fun g hg e => hv g hg (e ▸ hx)]
    exact hb1.block x (hL x hx).2 (fun h => by have := hr x h; have := (hL x hx).1; omega)
  · have := (hL a ha).2; have := (hL' b hb).1; omega
  · have hs3 := hg.size
    have := hb2.size
    rcases List.mem_append.1 hx with hx | hx
    · have := hL x hx; have := hb1.size; omega
    · have := hL' x hx; omega
  · have e : g = g' := by simpa [Value.ownBlock] using hg'
    subst e
    have := hb2.size
    rcases hat with h | rfl
    · rcases List.mem_append.1 hx with hx | hx
      · exact hv g h hx
      · have := hvl g h; have := (hL' g hx).1; omega
    · rcases List.mem_append.1 hx with hx | hx
      · have := (hL _ hx).2; have := hb1.size; omega
      · have := (hL' _ hx).2; omega
end
end Go.Proofs.YtihmgodiiohdnaaGreatDoor

/- spec.ParseProgram. Condition: the text is no longer than 2^20 bytes. -/
namespace Go.Proofs.YtihmgodiiohdnaaGreatDoor.rdr
open Go.RowKit

/-- spec.ParseClause. -/
theorem parseC_any (s : ByteArray) (w : World) (hm : s.size ≤ maxLen) : Calls Tryz.prog 45 #[.string s] w fun e w' => PcR w (pcR s) e w' := by
  unfold pcR
  by_cases hs : 1000 < s.size
  · rw [if_pos hs]; exact pc_zero s w hm (.inl hs)
  · rw [if_neg hs]
    cases hq : rdE s 0 with
    | none => exact pc_zero s w hm (.inr hq)
    | some r =>
      obtain ⟨⟨k, m, s0, f⟩, p⟩ := r
      show Calls Tryz.prog 45 #[.string s] w fun e w' => PcR w (if bA s p 58 = true ∧ bA s (p + 1) 45 = true then (match rdG 8 s (p + 2) .nil with | none => none | some (g, q) => pcF s ⟨k, m, s0, f, g⟩ q) else pcF s ⟨k, m, s0, f, .nil⟩ p) e w'
      cases h58 : bA s p 58 with
      | false => rw [if_neg (by simp)]; exact pc_fact s w (by omega) k m s0 f p hq h58
      | true =>
        cases h45 : bA s (p + 1) 45 with
        | false => rw [if_neg (by simp)]; exact pc_colon s w (by omega) k m s0 f p hq h58 h45
        | true =>
          rw [if_pos ⟨rfl, rfl⟩]
          cases hg : rdG 8 s (p + 2) .nil with
          | none => exact pc_bad s w (by omega) k m s0 f p hq h58 h45 hg
          | some r2 => obtain ⟨g, q⟩ := r2; exact pc_rule s w (by omega) k m s0 f p hq h58 h45 g q hg
/-- spec.ParseProgram, line by line; the last line is not read. -/
def ppG : List ByteArray → List Cl → Option (List Cl)
  | [], acc => some acc
  | l :: ls, acc => match ls with
    | [] => some acc
    | _ :: _ => match pcR l with
      | none => none
      | some c => ppG ls (acc ++ [c])
theorem ppG_cons (l : ByteArray) (ls : List ByteArray) (acc : List Cl) (h : ls ≠ []) : ppG (l :: ls) acc = (match pcR l with | none => none | some c => ppG ls (acc ++ [c])) := by
  cases ls with
  | nil => exact absurd rfl h
  | cons _ _ => rfl
def ppR (s : ByteArray) : Option (List Cl) := if 21 < (cutL s 10).length ∨ (cutL s 10).getLast? ≠ some ⟨#[]⟩ then none else ppG (cutL s 10) []
theorem cutG_len (s : ByteArray) (x : Int) : ∀ (n a i : Nat) (acc : List ByteArray), i ≤ s.size → n = s.size + 1 - i → acc.length + 1 ≤ (cutG s x n a i acc).length
  | 0, a, i, acc, hi, hn => by omega
  | n + 1, a, i, acc, hi, hn => by
    rw [cutG]
    by_cases hc : i = s.size ∨ bA s i x = true
    · rw [if_pos hc]
      by_cases he : i = s.size
      · obtain rfl : n = 0 := by omega
        rw [cutG]; simp
      · have := cutG_len s x n (i + 1) (i + 1) (acc ++ [s.extract a i]) (by omega) (by omega)
        simp only [List.length_append, List.length_cons, List.length_nil] at this
        omega
    · rw [if_neg hc]
      exact cutG_len s x n a (i + 1) acc (by omega) (by omega)
theorem cutL_len (s : ByteArray) (x : Int) : 1 ≤ (cutL s x).length := by
  have := cutG_len s x (s.size + 1) 0 0 [] (Nat.zero_le _) (by omega)
  unfold cutL
  simpa using this
theorem cutG_size (s : ByteArray) (x : Int) : ∀ (n a i : Nat) (acc : List ByteArray), (∀ z ∈ acc, z.size ≤ s.size) → ∀ z ∈ cutG s x n a i acc, z.size ≤ s.size
  | 0, _, _, _, h => h
  | n + 1, a, i, acc, h => by
    rw [cutG]
    split
    · refine cutG_size s x n (i + 1) (i + 1) _ fun z hz => ?_
      rcases List.mem_append.1 hz with hz | hz
      · exact h z hz
      · obtain rfl : z = s.extract a i := by simpa using hz
        rw [ByteArray.size_extract]; omega
    · exact cutG_size s x n a (i + 1) acc h
theorem cutL_size (s : ByteArray) (x : Int) : ∀ z ∈ cutL s x, z.size ≤ s.size := cutG_size s x _ _ _ [] (fun z hz => by simp at hz)
theorem infoCl : (Tryz.prog.info? 32).map (fun i => (i.zero, i.size, i.bytes)) = some (some (.agg #[.int .i64 0, .int .i64 0, .string ByteArray.empty, .slice none 0 0, .slice none 0 0]), 5, 80) := by kernel_rfl
theorem PcR.none_ {w w' : World} {e : Ending} (h : PcR w none e w') : e = .returned (.tuple #[.agg #[.int .i64 0, .int .i64 0, .string ⟨#[]⟩, .slice none 0 0, .slice none 0 0], .bool false]) ∧ Below w.heap.size w w' := h
theorem PcR.some_ {w w' : World} {c : Cl} {e : Ending} (h : PcR w (some c) e w') : ∃ A cap B capB, e = .returned (.tuple #[.agg #[.int .i64 c.k, .int .i64 c.n, .string c.s, .slice A c.kids.len cap, .slice B c.body.len capB], .bool true]) ∧ Fits c.k c.n c.s ∧ MadeCl w c A cap B capB w' := h
def PpR (w : World) (r : Option (List Cl)) (e : Ending) (w' : World) : Prop :=
  match r with
  | none => ∃ A cap, e = .returned (.tuple #[.slice A 0 cap, .bool false]) ∧ cap ≤ maxLen ∧ Below w.heap.size w w'
  | some cs => ∃ A cap, e = .returned (.tuple #[.slice A cs.length cap, .bool true]) ∧ MadeC w cs A cap w'
set_option maxRecDepth 100000 in
set_option maxHeartbeats 8000000 in
/-- spec.ParseProgram. -/
theorem parseP_any (s : ByteArray) (w : World) (hs : s.size ≤ 1048576) : Calls Tryz.prog 29 #[.string s] w fun e w' => PpR w (ppR s) e w' := by
  obtain ⟨i0, hi0, hz0, hz1, hz2⟩ := info_parts infoCl
  have hb0 : Below w.heap.size w (w.alloc (.cells #[] 32)) := (Below.refl _ _).alloc (Nat.le_refl _) _
  have hr0 : RowC w.heap.size (.slice (some ⟨w.heap.size, 0, none⟩) 0 0) [] (w.alloc (.cells #[] 32)) := RowC.empty (Nat.le_refl _)
  have C1 := cut_any s 10 (w.alloc (.cells #[] 32)) hs
  have hll := cutL_len s 10
  have hsz := cutL_size s 10
  have HPR : Hid (ppR s = if 21 < (cutL s 10).length ∨ (cutL s 10).getLast? ≠ some ⟨#[]⟩ then none else ppG (cutL s 10) []) := Lib.hid rfl
  generalize ppR s = R at *
  generalize cutL s 10 = ls at *
  have H1 := Lib.hid C1
  have HB0 := Lib.hid hb0
  have HR0 := Lib.hid hr0
  have HSZ := Lib.hid hsz
  clear C1 hb0 hr0 hsz
  go_enter Tryz.func29, Tryz.ntmps29
  go_wp2_with fail
  refine H1.out.mono ?_
  rintro e w2 ⟨v, rfl, ho, hb⟩
  have HR2 := Lib.hid (HR0.out.below hb)
  have HB2 := Lib.hid (HB0.out.trans (hb.mono HB0.out.size))
  obtain ⟨Av, cv, rfl, hlc, hcm, hrd⟩ := ho.read
  obtain ⟨g, hgA, hgl, hgb, hcell⟩ := hrd (by omega)
  subst hgA
  have HGB : Hid (w.heap.size ≠ g) := Lib.hid (by simp at hgb; omega)
  clear hgb
  obtain ⟨l1, hl1⟩ : ∃ l1, ls.length = l1 + 1 := ⟨ls.length - 1, by omega⟩
  have hlast : ls.getLast? = some (ls.getD l1 ⟨#[]⟩) := by
    rw [List.getLast?_eq_getElem?, hl1, Nat.add_sub_cancel, List.getD_eq_getElem?_getD, List.getElem?_eq_getElem (by omega)]; rfl
  have hcl := hcell l1 (ls.getD l1 ⟨#[]⟩) (by rw [List.getD_eq_getElem?_getD, List.getElem?_eq_getElem (by omega)]; rfl)
  have HCE := Lib.hid hcell
  have HLAST := Lib.hid hlast
  have HL1 := Lib.hid hl1
  clear H1 HB0 HR0 hb ho hrd hcell hlast hll
  rw [hl1]
  rw [hl1] at hlc
  have e0 : (((l1 + 1 : Nat) : Int) - 1) = (l1 : Int) := by omega
  unfold maxLen at hcm
  clear hl1
  by_cases c1 : 21 < l1 + 1
  · have t1 : ((l1 + 1 : Nat) : Int) > 21 := by omega
    have HV : Hid (R = none) := Lib.hid (by rw [HPR.out, if_pos (.inl (by rw [HL1.out]; exact c1))])
    clear c1
    go_wp2_with fail
    go_ret2
    rw [HV.out]
    exact ⟨_, 0, rfl, Nat.zero_le _, HB2.out⟩
  · have t1 : ¬ ((l1 + 1 : Nat) : Int) > 21 := by omega
    generalize hzz : ls.getD l1 ⟨#[]⟩ = z at *
    by_cases c2 : z = ⟨#[]⟩
    · subst c2
      have HV : Hid (R = ppG ls []) := Lib.hid (by rw [HPR.out, if_neg (by rw [HL1.out, HLAST.out]; intro h; rcases h with h | h; exact c1 h; exact h rfl)])
      have hl20 : l1 ≤ 20 := by omega
      clear c1 hzz
      have HHC : Hid (∀ j, j < l1 + 1 → w2.cell? ⟨g, j, none⟩ = some (.string (ls.getD j ⟨#[]⟩))) := Lib.hid fun j hj => HCE.out j _ (by rw [List.getD_eq_getElem?_getD, List.getElem?_eq_getElem (by have := HL1.out; omega)]; rfl)
      have HDROP : Hid (∀ j, j < l1 → ls.drop j = ls.getD j ⟨#[]⟩ :: ls.drop (j + 1) ∧ ls.drop (j + 1) ≠ []) := Lib.hid fun j hj => by
        have hl := HL1.out
        refine ⟨?_, fun h => ?_⟩
        · rw [List.getD_eq_getElem?_getD, List.getElem?_eq_getElem (by omega), List.drop_eq_getElem_cons (by omega)]; rfl
        · have := congrArg List.length h
          rw [List.length_drop] at this
          simp at this
          omega
      have HEND : Hid (∀ acc, ppG (ls.drop l1) acc = some acc) := Lib.hid fun acc => by
        have hl := HL1.out
        have h1 : ls.drop l1 = [ls.getD l1 ⟨#[]⟩] := by
          rw [List.getD_eq_getElem?_getD, List.getElem?_eq_getElem (by omega), List.drop_eq_getElem_cons (by omega), List.drop_eq_nil_of_le (by omega)]; rfl
        rw [h1]; rfl
      have HMEM : Hid (∀ j, j < l1 + 1 → (ls.getD j ⟨#[]⟩).size ≤ s.size) := Lib.hid fun j hj => by
        refine HSZ.out _ ?_
        rw [List.getD_eq_getElem?_getD, List.getElem?_eq_getElem (by have := HL1.out; omega)]
        exact List.getElem_mem _
      have HLT := Lib.hid hgl
      clear hlc
      go_wp2_with fail
      go_loopw [4, 6] (fun u i wr => ∃ (v : Value) (acc : List Cl) (j : Nat), v = u ∧ i = .int .i64 j ∧ j ≤ l1 ∧ acc.length ≤ j ∧ ppG (ls.drop j) acc = R ∧ RowC w.heap.size v acc wr ∧ Below w.heap.size w wr ∧ ((∀ j, j < l1 + 1 → wr.cell? ⟨g, j, none⟩ = some (.string (ls.getD j ⟨#[]⟩))) ∧ g < wr.heap.size) ∧ ∃ g0, v.ownBlock = some g0 ∧ g0 ≠ g) (fun _ i _ => l1 + 1 - (intOf i).toNat)
      case atStart => exact ⟨_, [], 0, rfl, rfl, Nat.zero_le _, Nat.le_refl _, HV.out.symm, HR2.out, HB2.out, ⟨HHC.out, HLT.out⟩, _, rfl, HGB.out⟩
      case round =>
        obtain ⟨v, acc, j, rfl, rfl, hj, hal, hR, hrow, hb, ⟨hcl2, hgr⟩, g0, hg0, hg0n⟩ := hrel
        have HB := Lib.hid hb
        have HCL2 := Lib.hid hcl2
        have HOG : Hid (∀ x, v.ownBlock = some x → x ≠ g) := Lib.hid fun x hx => by rw [hg0] at hx; injection hx with hx; omega
        have HROW := Lib.hid hrow
        by_cases hlt : j < l1
        · have t5 : (j : Int) + 1 < ((l1 + 1 : Nat) : Int) := by omega
          obtain ⟨hd1, hd2⟩ := HDROP.out j hlt
          rw [hd1, ppG_cons _ _ _ hd2] at hR
          have k0 := hcl2 j (by omega)
          have hzs := HMEM.out j (by omega)
          generalize ls.getD j ⟨#[]⟩ = z at *
          have CP := parseC_any z wr (by unfold maxLen; omega)
          have HCP := Lib.hid CP
          clear hd1 hd2 hb hrow hzs CP hcl2 hg0 hg0n
          cases hz : pcR z with
          | none =>
            rw [hz] at hR HCP
            have HRR : Hid (R = none) := Lib.hid hR.symm
            clear hR hz
            go_wp2_with fail
            refine HCP.out.mono ?_
            intro e w3 hr2
            obtain ⟨rfl, hb⟩ := hr2.none_
            have HB3 := Lib.hid (HB.out.trans (hb.mono HB.out.size))
            clear hb hr2
            go_wp2_with fail
            go_ret2
            rw [HRR.out]
            exact ⟨_, 0, rfl, Nat.zero_le _, HB3.out.trans ((two_new _ _ _).mono HB3.out.size)⟩
          | some c =>
            rw [hz] at hR HCP
            have HRR : Hid (ppG (ls.drop (j + 1)) (acc ++ [c]) = R) := Lib.hid hR
            clear hR hz
            go_wp2_with fail
            refine HCP.out.mono ?_
            intro e w3 hr2
            obtain ⟨A, cap, B, capB, rfl, hf, ⟨L1, L2, o1, o2, hn, hL, hb⟩⟩ := hr2.some_
            have hb4 : Below w3.heap.size w3 (w3.alloc (.cells #[.int .i64 c.k, .int .i64 c.n, .string c.s, .slice A c.kids.len cap, .slice B c.body.len capB] 32)) := (Below.refl _ _).alloc (Nat.le_refl _) _
            have hb34 := hb.trans (hb4.mono hb.size)
            have HB4 := Lib.hid (HB.out.trans (hb34.mono HB.out.size))
            obtain ⟨xs, L, hown, hD, hN, hL0, hv⟩ := HROW.out
            have hvl := hown.lt
            have hbs := HB.out.size
            have hown4 : (w3.alloc (.cells #[.int .i64 c.k, .int .i64 c.n, .string c.s, .slice A c.kids.len cap, .slice B c.body.len capB] 32)).ownsRow w.heap.size 32 5 v acc.length xs := hown.kept (row := none) ⟨hb34.os, hb34.tape, hb34.output, hb34.size, fun k hk _ => hb34.block k hk⟩ (by
              cases h : v.ownBlock with
              | none => exact .inl rfl
              | some g => exact .inr (by simp))
            have HO4 := Lib.hid hown4
            have HNEW : Hid (Blk ((w3.alloc (.cells #[.int .i64 c.k, .int .i64 c.n, .string c.s, .slice A c.kids.len cap, .slice B c.body.len capB] 32)).alloc (.cells #[.int .i64 c.k, .int .i64 c.n, .string c.s, .slice A c.kids.len cap, .slice B c.body.len capB] 32)) (w3.heap.size + 1) 32 #[.int .i64 c.k, .int .i64 c.n, .string c.s, .slice A c.kids.len cap, .slice B c.body.len capB]) := Lib.hid (by
              have h := Blk.new (w3.alloc (.cells #[.int .i64 c.k, .int .i64 c.n, .string c.s, .slice A c.kids.len cap, .slice B c.body.len capB] 32)) 32 #[.int .i64 c.k, .int .i64 c.n, .string c.s, .slice A c.kids.len cap, .slice B c.body.len capB]
              simpa using h)
            have HSTEP : Hid (∀ w5 g9 cap', ((w3.alloc (.cells #[.int .i64 c.k, .int .i64 c.n, .string c.s, .slice A c.kids.len cap, .slice B c.body.len capB] 32)).alloc (.cells #[.int .i64 c.k, .int .i64 c.n, .string c.s, .slice A c.kids.len cap, .slice B c.body.len capB] 32)).grownBy w5 v.ownBlock → w5.ownsRow w.heap.size 32 5 (.slice (some ⟨g9, 0, none⟩) (acc.length + 1) cap') (acc.length + 1) (xs ++ [.int .i64 c.k, .int .i64 c.n, .string c.s, .slice A c.kids.len cap, .slice B c.body.len capB]) → (v.ownBlock = some g9 ∨ g9 = ((w3.alloc (.cells #[.int .i64 c.k, .int .i64 c.n, .string c.s, .slice A c.kids.len cap, .slice B c.body.len capB] 32)).alloc (.cells #[.int .i64 c.k, .int .i64 c.n, .string c.s, .slice A c.kids.len cap, .slice B c.body.len capB] 32)).heap.size) →
                RowC w.heap.size (.slice (some ⟨g9, 0, none⟩) (acc.length + 1) cap') (acc ++ [c]) w5 ∧ Below w.heap.size w w5 ∧ ((∀ j, j < l1 + 1 → w5.cell? ⟨g, j, none⟩ = some (.string (ls.getD j ⟨#[]⟩))) ∧ g < w5.heap.size) ∧ g9 ≠ g) := Lib.hid fun w5 g9 cap' hg ho5 hat => by
              have hb5 : Below w3.heap.size w3 ((w3.alloc (.cells #[.int .i64 c.k, .int .i64 c.n, .string c.s, .slice A c.kids.len cap, .slice B c.body.len capB] 32)).alloc (.cells #[.int .i64 c.k, .int .i64 c.n, .string c.s, .slice A c.kids.len cap, .slice B c.body.len capB] 32)) := two_new _ _ _
              have hb6 := (Below.refl _ (w3.alloc (.cells #[.int .i64 c.k, .int .i64 c.n, .string c.s, .slice A c.kids.len cap, .slice B c.body.len capB] 32))).alloc (Nat.le_refl _) (.cells #[.int .i64 c.k, .int .i64 c.n, .string c.s, .slice A c.kids.len cap, .slice B c.body.len capB] 32)
              have h6 := HB4.out.trans (hb6.mono HB4.out.size)
              have hb7 := hb.trans (hb5.mono hb.size)
              have hs7 := hb7.size
              refine ⟨RowC.step (L0 := []) (w := wr) (w1 := w3) (fun x hx => by simp at hx) rfl hD hN hL0 hv (fun g hg => (hvl g hg).2) hbs hf o1 o2 hn hL (.of_below hb []) hb5 hg ho5 hat, h6.grown hg h6.size fun g' hg' => (hvl g' hg').1, ?_⟩
              refine ⟨⟨fun j hj => ?_, ?_⟩, ?_⟩
              · have e1 : w5.cell? ⟨g, j, none⟩ = wr.cell? ⟨g, j, none⟩ := World.cell?_of_block (by
                  rw [hg.block g (by omega) (fun e => HOG.out g e.symm rfl), hb7.block g hgr])
                rw [e1]; exact HCL2.out j hj
              · have := hg.size; omega
              · rcases hat with h | h
                · exact HOG.out g9 h
                · omega
            have hacl : acc.length ≤ 30 := by omega
            have hws4 : w.heap.size ≤ w3.heap.size := Nat.le_trans hbs hb.size
            have HAC := Lib.hid hal
            generalize hAL : acc.length = al at *
            have HAL := Lib.hid hAL
            obtain ⟨x0, x1, x2, x3, x4⟩ := dcells5 (Blk.new w3 32 #[.int .i64 c.k, .int .i64 c.n, .string c.s, .slice A c.kids.len cap, .slice B c.body.len capB])
            clear hf o1 o2 hn hL hb hb4 hb34 hown hD hN hL0 hv hvl hown4 hr2 hAL
            go_wp2_with (at_builtin; go_must (refine wpList_append_lies _ rfl _ _ _ rfl w.heap.size 32 i0 _ 5 80 Tryz.underlying23 hi0 hz0 hz1 hz2 rfl (by omega) v al xs rfl (HO4.out.alloc _) ⟨w3.heap.size + 1, 0, none⟩ 1 1 [.int .i64 c.k, .int .i64 c.n, .string c.s, .slice A c.kids.len cap, .slice B c.body.len capB] rfl rfl (World.news_of_block (cs := #[.int .i64 c.k, .int .i64 c.n, .string c.s, .slice A c.kids.len cap, .slice B c.body.len capB]) (fr := (0, 0)) HNEW.out) (by simp [Value.oneCell']) (by omega) (by unfold maxLen; omega) (by omega) (by simp; omega) (w3.heap.size + 1 + 1) (by simp) ?_); intro g4 cap4 w5 hown5 hgrow hat hlt5; have HS := Lib.hid (HSTEP.out w5 g4 cap4 hgrow hown5 (by simpa using hat)); clear hown5 hgrow hat)
            go_roundw
            case rel => exact ⟨_, acc ++ [c], j + 1, rfl, by go_num, by omega, by rw [List.length_append, HAL.out]; have := HAC.out; simp only [List.length_cons, List.length_nil]; omega, HRR.out, HS.out.1, HS.out.2.1, HS.out.2.2.1, _, rfl, HS.out.2.2.2⟩
            case measure => simp [intOf]; omega
        · obtain rfl : j = l1 := by omega
          have t5 : ¬ (j : Int) + 1 < ((j + 1 : Nat) : Int) := by omega
          have HRR : Hid (R = some acc) := Lib.hid (by rw [← hR]; exact HEND.out acc)
          obtain ⟨A, cap, rfl, hA⟩ := HROW.out.own
          have hA2 : A ≠ none := by rintro rfl; cases hg0
          have HA := Lib.hid (hA hA2)
          clear hR hb hrow hA hcl2
          go_wp2_with fail
          go_ret2
          rw [HRR.out]
          obtain ⟨L, h1, h2, h3⟩ := HA.out
          exact ⟨A, cap, rfl, L, h1, h2, h3, HB.out⟩
    · have t2 : (z.toList == []) = false := by
        rw [beq_eq_false_iff_ne, ByteArray.toList_eq]
        intro h
        apply c2
        obtain ⟨d⟩ := z
        congr 1
        exact Array.toList_eq_nil_iff.1 h
      have HV : Hid (R = none) := Lib.hid (by rw [HPR.out, if_pos (.inr (by rw [HLAST.out]; intro h; injection h with h; exact c2 h))])
      clear c1 c2 hzz
      go_wp2_with fail
      go_ret2
      rw [HV.out]
      exact ⟨_, 0, rfl, Nat.zero_le _, HB2.out⟩
end Go.Proofs.YtihmgodiiohdnaaGreatDoor.rdr

/- spec.l4Texts, spec.l4Program: a program that is drawn. Condition: the source lies in memory. -/
namespace Go.Proofs.YtihmgodiiohdnaaGreatDoor.rdr
open Go.RowKit

abbrev pt0 : ByteArray := ⟨#[97, 112, 112, 40, 91, 93, 44, 65, 44, 65, 41, 46, 10, 97, 112, 112, 40, 91, 65, 124, 66, 93, 44, 67, 44, 91, 65, 124, 68, 93, 41, 58, 45, 97, 112, 112, 40, 66, 44, 67, 44, 68, 41, 46, 10]⟩
abbrev pt1 : ByteArray := ⟨#[109, 101, 109, 40, 65, 44, 91, 65, 124, 66, 93, 41, 46, 10, 109, 101, 109, 40, 65, 44, 91, 66, 124, 67, 93, 41, 58, 45, 109, 101, 109, 40, 65, 44, 67, 41, 46, 10]⟩
abbrev pt2 : ByteArray := ⟨#[112, 40, 49, 41, 46, 10, 112, 40, 50, 41, 46, 10, 112, 40, 51, 41, 46, 10, 113, 40, 65, 41, 58, 45, 112, 40, 65, 41, 44, 65, 62, 49, 44, 33, 46, 10, 114, 40, 65, 44, 66, 41, 58, 45, 112, 40, 65, 41, 44, 112, 40, 66, 41, 46, 10]⟩
abbrev pt3 : ByteArray := ⟨#[108, 101, 110, 40, 91, 93, 44, 48, 41, 46, 10, 108, 101, 110, 40, 91, 65, 124, 66, 93, 44, 67, 41, 58, 45, 108, 101, 110, 40, 66, 44, 68, 41, 44, 67, 32, 105, 115, 32, 68, 43, 49, 46, 10]⟩
abbrev pt4 : ByteArray := ⟨#[109, 97, 120, 40, 65, 44, 66, 44, 65, 41, 58, 45, 65, 62, 61, 66, 44, 33, 46, 10, 109, 97, 120, 40, 65, 44, 66, 44, 66, 41, 46, 10]⟩
abbrev pt5 : ByteArray := ⟨#[101, 40, 97, 44, 98, 41, 46, 10, 101, 40, 98, 44, 99, 41, 46, 10, 101, 40, 99, 44, 100, 41, 46, 10, 116, 40, 65, 44, 66, 41, 58, 45, 101, 40, 65, 44, 66, 41, 46, 10, 116, 40, 65, 44, 66, 41, 58, 45, 101, 40, 65, 44, 67, 41, 44, 116, 40, 67, 44, 66, 41, 46, 10]⟩
abbrev pt6 : ByteArray := ⟨#[108, 111, 111, 112, 58, 45, 108, 111, 111, 112, 46, 10, 111, 107, 46, 10]⟩
abbrev pt7 : ByteArray := ⟨#[102, 97, 99, 40, 48, 44, 49, 41, 58, 45, 33, 46, 10, 102, 97, 99, 40, 65, 44, 66, 41, 58, 45, 65, 62, 48, 44, 67, 32, 105, 115, 32, 65, 45, 49, 44, 102, 97, 99, 40, 67, 44, 68, 41, 44, 66, 32, 105, 115, 32, 65, 42, 68, 46, 10]⟩
abbrev pt8 : ByteArray := ⟨#[115, 40, 65, 41, 58, 45, 65, 61, 102, 40, 66, 41, 44, 97, 114, 103, 40, 49, 44, 65, 44, 66, 41, 44, 66, 61, 49, 46, 10, 115, 40, 65, 41, 58, 45, 118, 97, 114, 40, 65, 41, 44, 65, 61, 110, 111, 110, 101, 46, 10]⟩
abbrev pt9 : ByteArray := ⟨#[114, 101, 118, 40, 91, 93, 44, 65, 44, 65, 41, 46, 10, 114, 101, 118, 40, 91, 65, 124, 66, 93, 44, 67, 44, 68, 41, 58, 45, 114, 101, 118, 40, 66, 44, 91, 65, 124, 67, 93, 44, 68, 41, 46, 10]⟩
abbrev pt10 : ByteArray := ⟨#[98, 97, 100, 40, 65, 41, 58, 45, 66, 32, 105, 115, 32, 65, 43, 102, 111, 111, 44, 67, 61, 66, 46, 10, 98, 105, 103, 40, 65, 41, 58, 45, 65, 32, 105, 115, 32, 57, 57, 57, 43, 49, 46, 10, 117, 110, 40, 65, 41, 58, 45, 110, 111, 115, 117, 99, 104, 40, 65, 41, 46, 10]⟩
def pts : List ByteArray := [pt0, pt1, pt2, pt3, pt4, pt5, pt6, pt7, pt8, pt9, pt10]
/-- What is known of a program's clauses. -/
def smC (c : Cl) : Bool := decide (nodes c.kids ≤ 200) && decide (nodes c.body ≤ 200) && decide (c.body.len ≤ 6)
def okP (s : ByteArray) : Bool := decide (s.size ≤ 1000) && (match ppR s with | none => false | some cs => decide (1 ≤ cs.length) && decide (cs.length ≤ 20) && cs.all smC)
set_option maxRecDepth 100000 in
theorem pts_ok : pts.all okP = true := by decide +kernel
/-- What is known of a drawn program. -/
theorem pts_of {s : ByteArray} (h : s ∈ pts) : s.size ≤ 1000 ∧ ∃ cs, ppR s = some cs ∧ 1 ≤ cs.length ∧ cs.length ≤ 20 ∧ cs.all smC = true := by
  have h1 := List.all_eq_true.1 pts_ok s h
  unfold okP at h1
  rw [Bool.and_eq_true] at h1
  refine ⟨of_decide_eq_true h1.1, ?_⟩
  have h2 := h1.2
  cases hq : ppR s with
  | none => rw [hq] at h2; cases h2
  | some cs =>
    rw [hq] at h2
    simp only [Bool.and_eq_true, decide_eq_true_eq] at h2
    exact ⟨cs, rfl, h2.1.1, h2.1.2, h2.2⟩
abbrev ptCells : Array Value := #[.string pt0, .string pt1, .string pt2, .string pt3, .string pt4, .string pt5, .string pt6, .string pt7, .string pt8, .string pt9, .string pt10]
theorem pts_cells (w : World) : StrsAt (w.alloc (.cells ptCells 9)) w.heap.size (some ⟨w.heap.size, 0, none⟩) pts := ⟨w.heap.size, rfl, Nat.le_refl _, by simp, fun i z h => by
    rw [(Blk.new w _ _).cell i]
    match i, h with
      | 0, h => cases h; rfl
      | 1, h => cases h; rfl
      | 2, h => cases h; rfl
      | 3, h => cases h; rfl
      | 4, h => cases h; rfl
      | 5, h => cases h; rfl
      | 6, h => cases h; rfl
      | 7, h => cases h; rfl
      | 8, h => cases h; rfl
      | 9, h => cases h; rfl
      | 10, h => cases h; rfl⟩
set_option maxRecDepth 100000 in
/-- spec.l4Texts. -/
theorem texts_any (w : World) : Calls Tryz.prog 28 #[] w fun e w' => e = .returned (.slice (some ⟨w.heap.size, 0, none⟩) 11 11) ∧ w' = w.alloc (.cells ptCells 9) := by
  go_enter Tryz.func28, Tryz.ntmps28
  go_wp2_with fail
  go_ret
  exact ⟨rfl, rfl⟩
/-- What a call leaves that drew a program. -/
def MadeCW (rb : Nat) (w : World) (cs : List Cl) (A : Option Addr) (cap : Nat) (w' : World) : Prop :=
  ∃ L, OwnCS w' cs A cap L ∧ L.Nodup ∧ (∀ x ∈ L, w.heap.size ≤ x ∧ x < w'.heap.size) ∧ Wrote [rb] w w'
def PgR (rb N : Nat) (w : World) (e : Ending) (w' : World) : Prop :=
  ∃ (cs : List Cl) (A : Option Addr) (cap : Nat), e = .returned (.slice A cs.length cap) ∧ 1 ≤ cs.length ∧ cs.length ≤ 20 ∧ cs.all smC = true ∧ MadeCW rb w cs A cap w' ∧ Rd w' rb N
set_option maxRecDepth 100000 in
set_option maxHeartbeats 4000000 in
/-- spec.l4Program. -/
theorem prog_any (rb N : Nat) (w : World) (hr : Rd w rb N) (hN : N ≤ 1000000) : Calls Tryz.prog 15 #[.pointer (some ⟨rb, 0, none⟩)] w fun e w' => PgR rb (N + 1) w e w' := by
  have hlr := hr.lt
  have hb1 : Below w.heap.size w (w.alloc (.cells ptCells 9)) := (Below.refl _ _).alloc (Nat.le_refl _) _
  have C1 := pick_any rb N 11 (w.alloc (.cells ptCells 9)) (hr.below hb1) hN (by omega) (by omega)
  have H1 := Lib.hid C1
  have HB := Lib.hid hb1
  have HS : Hid (∀ w2, Wrote [rb] (w.alloc (.cells ptCells 9)) w2 → ∀ m : Nat, m < 11 → ∃ z, z ∈ pts ∧ w2.cell? ⟨w.heap.size, m, none⟩ = some (.string z)) := Lib.hid fun w2 hw m hm => by
    obtain ⟨b, hb, _, hb2, hc⟩ := pts_cells w
    injection hb with hb
    injection hb with hb _ _
    subst hb
    have hl : pts.length = 11 := rfl
    have hz : pts[m]? = some pts[m] := List.getElem?_eq_getElem (by omega)
    exact ⟨pts[m], List.getElem_mem _, (hw.cell (p := ⟨w.heap.size, m, none⟩) hb2 (by simp; omega)).trans (hc m _ hz)⟩
  clear hr hb1 C1
  go_enter Tryz.func15, Tryz.ntmps15
  go_wp2_with fail
  refine (texts_any w).mono ?_
  rintro e w1 ⟨rfl, hw1⟩
  rw [hw1]
  clear hw1
  generalize w.alloc (.cells ptCells 9) = w1 at *
  go_wp2_with fail
  refine H1.out.mono ?_
  rintro e w2 ⟨k, rfl, hk0, hk1, hr2, hw⟩
  obtain ⟨m, rfl⟩ : ∃ m : Nat, k = (m : Int) := ⟨k.toNat, by omega⟩
  obtain ⟨z, hz, k0⟩ := HS.out w2 hw m (by omega)
  obtain ⟨hzs, cs, hcs, hc1, hc2, hc3⟩ := pts_of hz
  have C2 := parseP_any z w2 (by omega)
  rw [hcs] at C2
  have HF : Hid (∀ e w3, PpR w2 (some cs) e w3 → ∃ A cap, e = .returned (.tuple #[.slice A cs.length cap, .bool true]) ∧ PgR rb (N + 1) w (.returned (.slice A cs.length cap)) w3) := Lib.hid fun e w3 h => by
    obtain ⟨A, cap, rfl, L, h1, h2, h3, h4⟩ := h
    have hw4 := (Wrote.of_below HB.out [rb]).trans hw
    exact ⟨A, cap, rfl, cs, A, cap, rfl, hc1, hc2, hc3, ⟨L, h1, h2, fun x hx => ⟨Nat.le_trans hw4.size (h3 x hx).1, (h3 x hx).2⟩, hw4.trans (.of_below h4 _)⟩, hr2.below h4⟩
  have H2 := Lib.hid C2
  clear C2 hr2 hw hz hzs hcs hc1 hc2 hc3 H1 HS HB
  go_wp2_with fail
  refine H2.out.mono ?_
  intro e w3 h
  obtain ⟨A, cap, rfl, h9⟩ := HF.out e w3 h
  have HH := Lib.hid h9
  clear h h9
  go_wp2_with fail
  go_ret
  exact HH.out
end Go.Proofs.YtihmgodiiohdnaaGreatDoor.rdr

/- spec.l1Draw, l1Some. Condition: the source lies in memory. -/
namespace Go.Proofs.YtihmgodiiohdnaaGreatDoor
open Go.RowKit

/-- The state of a call that draws: its result's block is still empty. -/
def DqI (w : World) (rb N : Nat) (wr : World) : Prop := Rd wr rb N ∧ Wrote [rb] w wr ∧ Blk wr w.heap.size 30 #[.int .i64 0, .int .i64 0, .string ⟨#[]⟩, .slice none 0 0] ∧ rb < w.heap.size
theorem DqI.step {w wr w2 : World} {rb N N2 : Nat} (h : DqI w rb N wr) (hr : Rd w2 rb N2) (hw : Wrote [rb] wr w2) : DqI w rb N2 w2 := ⟨hr, h.2.1.trans hw, hw.blk h.2.2.1 (by have := h.2.2.2; simp; omega), h.2.2.2⟩
theorem DqI.below {w wr w2 : World} {rb N : Nat} (h : DqI w rb N wr) (hb : Below wr.heap.size wr w2) : DqI w rb N w2 := h.step (h.1.below hb) (.of_below hb _)
theorem DqI.start {w : World} {rb N : Nat} (hr : Rd w rb N) : DqI w rb N (w.alloc (.cells #[.int .i64 0, .int .i64 0, .string ⟨#[]⟩, .slice none 0 0] 30)) := ⟨hr.below ((Below.refl _ _).alloc (Nat.le_refl _) _), .of_below ((Below.refl _ _).alloc (Nat.le_refl _) _) _, Blk.new w _ _, hr.lt⟩
/-- The drawn term is stored into the result. -/
theorem DqI.ret {w wr : World} {rb N N2 M : Nat} {k n : Int} {s : ByteArray} {f : Fr} {A : Option Addr} {cap : Nat} (h : DqI w rb N wr) (hf : Fits k n s) (hm : ∃ L, OwnS wr f A cap L ∧ L.Nodup ∧ ∀ x ∈ L, w.heap.size < x) (hM : nodes f ≤ M) (hN : N ≤ N2) (a b c d : Value) :
    DrR rb N2 M w (.returned (.agg #[.int .i64 k, .int .i64 n, .string s, .slice A f.len cap])) ((((wr.setCell ⟨w.heap.size, 0, none⟩ a).setCell ⟨w.heap.size, 1, none⟩ b).setCell ⟨w.heap.size, 2, none⟩ c).setCell ⟨w.heap.size, 3, none⟩ d) := by
  obtain ⟨L, ho, hn, hL⟩ := hm
  have hlt := ho.lt
  have hw : Wrote [rb] w ((((wr.setCell ⟨w.heap.size, 0, none⟩ a).setCell ⟨w.heap.size, 1, none⟩ b).setCell ⟨w.heap.size, 2, none⟩ c).setCell ⟨w.heap.size, 3, none⟩ d) := (((h.2.1.set_ (.inr (Nat.le_refl _)) _).set_ (.inr (Nat.le_refl _)) _).set_ (.inr (Nat.le_refl _)) _).set_ (.inr (Nat.le_refl _)) _
  refine ⟨k, n, s, f, A, cap, rfl, hf, ⟨L, ho.keep fun x hx => ?_, hn, fun x hx => ⟨Nat.le_of_lt (hL x hx), by simpa [World.setCell] using hlt x hx⟩, hw⟩, hM, ((((h.1.set_ (by show rb < w.heap.size; exact h.2.2.2) _).set_ (by show rb < w.heap.size; exact h.2.2.2) _).set_ (by show rb < w.heap.size; exact h.2.2.2) _).set_ (by show rb < w.heap.size; exact h.2.2.2) _).more hN⟩
  have hne : x ≠ w.heap.size := by have := hL x hx; omega
  rw [heap_setCell_other _ _ _ _ hne, heap_setCell_other _ _ _ _ hne, heap_setCell_other _ _ _ _ hne, heap_setCell_other _ _ _ _ hne]
theorem own_nil (w : World) (A : Option Addr) (cap lo : Nat) (h : cap ≤ maxLen) : ∃ L, OwnS w .nil A cap L ∧ L.Nodup ∧ ∀ x ∈ L, lo < x := ⟨[], ⟨Nat.zero_le _, h, .inl ⟨rfl, rfl⟩⟩, List.nodup_nil, fun x hx => by simp at hx⟩

/-- How many draws, and how many nodes, a term of this depth has at most. -/
def drN (d : Nat) : Nat := 8 * 4 ^ d
def drM (d : Nat) : Nat := 4 ^ d
def DrT (d : Nat) : Prop := ∀ (rb N : Nat) (x : Int) (w : World), Rd w rb N → N + drN d ≤ 1000000 → x = (d : Int) →
  Calls Tryz.prog 38 #[.pointer (some ⟨rb, 0, none⟩), .int .i64 x] w fun e w' => DrR rb (N + drN d) (drM d) w e w'
theorem drN_succ (d : Nat) : drN (d + 1) = 4 * drN d := by unfold drN; rw [Nat.pow_succ]; omega
theorem drM_succ (d : Nat) : drM (d + 1) = 4 * drM d := by unfold drM; rw [Nat.pow_succ]; omega
theorem drN_pos (d : Nat) : 8 ≤ drN d := by unfold drN; have : 0 < 4 ^ d := Nat.pow_pos (by decide); omega
theorem drM_pos (d : Nat) : 1 ≤ drM d := by unfold drM; exact Nat.pow_pos (by decide)

/-- One argument more is drawn and appended. -/
theorem dr_step {w wr w1 w2 w4 : World} {rb U U2 base H : Nat} {s : ByteArray} {v : Value} {F : Fr} {xs : List Value} {L : List Nat} {k n : Int} {s' : ByteArray} {kids : Fr} {A : Option Addr} {cap cap4 g : Nat} {k0 n0 : Int} (h : DqI w rb U wr)
    (hq : Blk wr H 30 #[.int .i64 k0, .int .i64 n0, .string s, v]) (hbase : w.heap.size < base) (hbs : base ≤ wr.heap.size) (hH : base ≤ H)
    (hD : Desc wr F xs L) (hN : L.Nodup) (hL : ∀ x ∈ L, base ≤ x ∧ x < wr.heap.size ∧ x ≠ H) (hv : ∀ g, v.ownBlock = some g → g ∉ L ∧ g ≠ H) (hvl : ∀ g, v.ownBlock = some g → base ≤ g ∧ g < wr.heap.size)
    (hf : Fits k n s') (hm : MadeW rb wr kids A cap w1) (hr1 : Rd w1 rb U2) (hb2 : Below w1.heap.size w1 w2) (hg : w2.grownBy w4 v.ownBlock)
    (ho : w4.ownsRow base 30 4 (.slice (some ⟨g, 0, none⟩) (F.len + 1) cap4) (F.len + 1) (xs ++ [.int .i64 k, .int .i64 n, .string s', .slice A kids.len cap])) (hat : v.ownBlock = some g ∨ g = w2.heap.size) :
    DqI w rb U2 (w4.setCell ⟨H, 3, none⟩ (.slice (some ⟨g, 0, none⟩) (F.len + 1) cap4)) ∧ Blk (w4.setCell ⟨H, 3, none⟩ (.slice (some ⟨g, 0, none⟩) (F.len + 1) cap4)) H 30 #[.int .i64 k0, .int .i64 n0, .string s, .slice (some ⟨g, 0, none⟩) (F.len + 1) cap4] ∧
      RowX base H (.slice (some ⟨g, 0, none⟩) (F.len + 1) cap4) (F.app (.cons k n s' kids .nil)) (w4.setCell ⟨H, 3, none⟩ (.slice (some ⟨g, 0, none⟩) (F.len + 1) cap4)) := by
  obtain ⟨_, hW, hB, hrb⟩ := h
  have hst := RowX.step (rb := rb) (base := base) (H := H) (by omega) hD hN hL hv (fun g hg => (hvl g hg).2) hbs hq.lt hf hm hb2 hg ho hat
  have hw1 := hm.wrote
  have hs1 := hw1.size
  have hs2 := hb2.size
  have hs4 := hg.size
  have hsw := hW.size
  have hHl := hq.lt
  have far : ∀ x, x < w1.heap.size → (∀ g, v.ownBlock = some g → x ≠ g) → w4.heap[x]? = w1.heap[x]? := fun x hx hne =>
    (hg.block x (by omega) fun e => hne x e.symm rfl).trans (hb2.block x hx)
  have hlow : ∀ x, x < base → x < w1.heap.size → w4.heap[x]? = w1.heap[x]? := fun x hx hl => far x hl fun g hg e => by have := (hvl g hg).1; omega
  have hW4 : Wrote [rb] w w4 := ⟨hg.os.trans (hb2.os.trans (hw1.os.trans hW.os)), hg.tape.trans (hb2.tape.trans (hw1.tape.trans hW.tape)), hg.output.trans (hb2.output.trans (hw1.output.trans hW.output)), by omega, fun x hx hn => by
    rw [hlow x (by omega) (by omega), hw1.block x (by omega) hn, hW.block x hx hn]⟩
  have hqH : Blk w4 H 30 #[.int .i64 k0, .int .i64 n0, .string s, v] := (hq.keep (hw1.block H hHl (by simp; omega))).keep (far H (by omega) fun g hg e => (hv g hg).2 e.symm)
  refine ⟨⟨(hr1.keep fun x hx => hlow x (by omega) (by omega)).set_ (by show rb < H; omega) _, hW4.set_ (.inr (by show w.heap.size ≤ H; omega)) _, ?_, hrb⟩, ?_, hst.set_ rfl _⟩
  · exact ((hw1.blk hB (by simp; omega)).keep (hlow _ hbase (by omega))).far (by show w.heap.size ≠ H; omega) _
  · have := hqH.set_ 3 (.slice (some ⟨g, 0, none⟩) (F.len + 1) cap4)
    simpa using this
theorem names6 (s : ByteArray) (h : s ∈ ([⟨#[97]⟩, ⟨#[98]⟩, ⟨#[110, 105, 108]⟩, ⟨#[91, 93]⟩, ⟨#[102, 111, 111]⟩, ⟨#[43]⟩] : List ByteArray)) : s.size ≤ maxLen := by
  have : ∀ s ∈ ([⟨#[97]⟩, ⟨#[98]⟩, ⟨#[110, 105, 108]⟩, ⟨#[91, 93]⟩, ⟨#[102, 111, 111]⟩, ⟨#[43]⟩] : List ByteArray), s.size ≤ 100 := by decide
  have := this s h
  unfold maxLen; omega
theorem names7 (s : ByteArray) (h : s ∈ ([⟨#[102]⟩, ⟨#[103]⟩, ⟨#[115]⟩, ⟨#[43]⟩, ⟨#[61]⟩, ⟨#[105, 115]⟩, ⟨#[102, 111, 111]⟩] : List ByteArray)) : s.size ≤ maxLen := by
  have : ∀ s ∈ ([⟨#[102]⟩, ⟨#[103]⟩, ⟨#[115]⟩, ⟨#[43]⟩, ⟨#[61]⟩, ⟨#[105, 115]⟩, ⟨#[102, 111, 111]⟩] : List ByteArray), s.size ≤ 100 := by decide
  have := this s h
  unfold maxLen; omega

set_option maxRecDepth 100000 in
set_option maxHeartbeats 8000000 in
theorem drT_low (d : Nat) (h : d < 2) : DrT d := by
  intro rb N x w hr hN hx
  have t0 : x < 2 := by omega
  have hp := drN_pos d
  have HQ := Lib.hid (DqI.start hr)
  clear hr hx h
  generalize drN d = D at *
  generalize drM d = M at *
  go_enter Tryz.func38, Tryz.ntmps38
  go_wp2_with fail
  refine (pick_any rb _ 4 _ HQ.out.1 (by omega) (by omega) (by omega)).mono ?_
  rintro e wa ⟨k, rfl, hk0, hk1, hr, hw⟩
  have HQa := Lib.hid (HQ.out.step hr hw)
  clear hr hw HQ
  by_cases z0 : k = 0
  · subst z0
    go_wp2_with fail
    refine (pick_any rb _ 4 _ HQa.out.1 (by omega) (by omega) (by omega)).mono ?_
    rintro e wb ⟨v, rfl, hv0, hv1, hr, hw⟩
    have HQb := Lib.hid (HQa.out.step hr hw)
    clear hr hw HQa
    go_wp2_with fail
    refine (var_any _ _).mono ?_
    rintro e wc ⟨rfl, hb⟩
    have HQc := Lib.hid (HQb.out.below hb)
    clear hb HQb
    obtain ⟨d0, d1, d2, d3⟩ := cells4i HQc.out.2.2.1
    obtain ⟨f0, f1, f2, f3⟩ := frozen4 HQc.out.2.2.1
    go_wp2_with fail
    refine bodyPost_ret (v := .agg #[.int .i64 1, .int .i64 v, .string ⟨#[]⟩, .slice none 0 0]) ?_ rfl (HQc.out.ret (f := .nil) ⟨by omega, by omega, Nat.zero_le _⟩ (own_nil _ _ _ _ (Nat.zero_le _)) (Nat.zero_le _) (by omega) _ _ _ _)
    exact results_cell_row Tryz.results38 _ _ w.heap.size _ _ _ _ rfl (set4 HQc.out.2.2.1 _ _ _ _) Tryz.underlying30 rfl (by kernel_rfl)
  · have tk0 : (k == 0) = false := by rw [beq_eq_false_iff_ne]; exact z0
    by_cases z1 : k = 1
    · subst z1
      have hb := (Below.refl wa.heap.size wa).alloc (Nat.le_refl _) (.cells #[.int .i64 0, .int .i64 1, .int .i64 7, .int .i64 (-3), .int .i64 999, .int .i64 (-999)] 3)
      have HQb := Lib.hid (HQa.out.below hb)
      have HI : Hid (IntsAt (wa.alloc (.cells #[.int .i64 0, .int .i64 1, .int .i64 7, .int .i64 (-3), .int .i64 999, .int .i64 (-999)] 3)) (rb + 1) (some ⟨wa.heap.size, 0, none⟩) [0, 1, 7, -3, 999, -999]) := Lib.hid ⟨wa.heap.size, rfl, HQa.out.1.lt, by simp, fun i z h => by rw [(Blk.new wa _ _).cell i]; match i, h with
        | 0, h => cases h; rfl
        | 1, h => cases h; rfl
        | 2, h => cases h; rfl
        | 3, h => cases h; rfl
        | 4, h => cases h; rfl
        | 5, h => cases h; rfl⟩
      clear hb HQa
      go_wp2_with fail
      refine (num_any rb _ [0, 1, 7, -3, 999, -999] _ 6 _ HQb.out.1 (by omega) HI.out (by decide) (by decide)).mono ?_
      rintro e wb ⟨v, rfl, hv, hr, hw⟩
      have HQc := Lib.hid (HQb.out.step hr hw)
      have hvb : -999 ≤ v ∧ v ≤ 999 := by simp at hv; omega
      clear hr hw HQb hv HI
      go_wp2_with fail
      refine (int_any _ _).mono ?_
      rintro e wc ⟨rfl, hb⟩
      have HQd := Lib.hid (HQc.out.below hb)
      clear hb HQc
      obtain ⟨d0, d1, d2, d3⟩ := cells4i HQd.out.2.2.1
      obtain ⟨f0, f1, f2, f3⟩ := frozen4 HQd.out.2.2.1
      go_wp2_with fail
      refine bodyPost_ret (v := .agg #[.int .i64 2, .int .i64 v, .string ⟨#[]⟩, .slice none 0 0]) ?_ rfl (HQd.out.ret (f := .nil) ⟨by omega, by omega, Nat.zero_le _⟩ (own_nil _ _ _ _ (Nat.zero_le _)) (Nat.zero_le _) (by omega) _ _ _ _)
      exact results_cell_row Tryz.results38 _ _ w.heap.size _ _ _ _ rfl (set4 HQd.out.2.2.1 _ _ _ _) Tryz.underlying30 rfl (by kernel_rfl)
    · have tk1 : (k == 1) = false := by rw [beq_eq_false_iff_ne]; exact z1
      have hb := (Below.refl wa.heap.size wa).alloc (Nat.le_refl _) (.cells #[.string ⟨#[97]⟩, .string ⟨#[98]⟩, .string ⟨#[110, 105, 108]⟩, .string ⟨#[91, 93]⟩, .string ⟨#[102, 111, 111]⟩, .string ⟨#[43]⟩] 9)
      have HQb := Lib.hid (HQa.out.below hb)
      have HI : Hid (StrsAt (wa.alloc (.cells #[.string ⟨#[97]⟩, .string ⟨#[98]⟩, .string ⟨#[110, 105, 108]⟩, .string ⟨#[91, 93]⟩, .string ⟨#[102, 111, 111]⟩, .string ⟨#[43]⟩] 9)) (rb + 1) (some ⟨wa.heap.size, 0, none⟩) [⟨#[97]⟩, ⟨#[98]⟩, ⟨#[110, 105, 108]⟩, ⟨#[91, 93]⟩, ⟨#[102, 111, 111]⟩, ⟨#[43]⟩]) := Lib.hid ⟨wa.heap.size, rfl, HQa.out.1.lt, by simp, fun i z h => by rw [(Blk.new wa _ _).cell i]; match i, h with
        | 0, h => cases h; rfl
        | 1, h => cases h; rfl
        | 2, h => cases h; rfl
        | 3, h => cases h; rfl
        | 4, h => cases h; rfl
        | 5, h => cases h; rfl⟩
      clear hb HQa
      go_wp2_with fail
      refine (of_any rb _ [⟨#[97]⟩, ⟨#[98]⟩, ⟨#[110, 105, 108]⟩, ⟨#[91, 93]⟩, ⟨#[102, 111, 111]⟩, ⟨#[43]⟩] _ 6 _ HQb.out.1 (by omega) HI.out (by decide) (by decide)).mono ?_
      rintro e wb ⟨s, rfl, hs, hr, hw⟩
      have HQc := Lib.hid (HQb.out.step hr hw)
      have hsb : s.size ≤ maxLen := names6 s hs
      have HSB := Lib.hid hsb
      clear hr hw HQb hs HI hsb
      go_wp2_with fail
      refine (structN_any s .nil none 0 [] _ ⟨Nat.zero_le _, Nat.zero_le _, .inl ⟨rfl, rfl⟩⟩ List.nodup_nil (by decide)).mono ?_
      rintro e wc ⟨A, cap, L, rfl, ho, hn, hL, hb, _⟩
      have hOL : ∀ x ∈ L, w.heap.size < x := fun x hx => by
        rcases hL x hx with h | h
        · simp at h
        · have := HQc.out.2.2.1.lt; omega
      have HQd := Lib.hid (HQc.out.below hb)
      have HO : Hid (∃ L, OwnS wc .nil A cap L ∧ L.Nodup ∧ ∀ x ∈ L, w.heap.size < x) := Lib.hid ⟨L, ho, hn, hOL⟩
      clear hb HQc ho hn hL hOL
      obtain ⟨d0, d1, d2, d3⟩ := cells4i HQd.out.2.2.1
      obtain ⟨f0, f1, f2, f3⟩ := frozen4 HQd.out.2.2.1
      go_wp2_with fail
      refine bodyPost_ret (v := .agg #[.int .i64 3, .int .i64 0, .string s, .slice A 0 cap]) ?_ rfl (HQd.out.ret (f := .nil) ⟨by omega, by omega, HSB.out⟩ HO.out (Nat.zero_le _) (by omega) _ _ _ _)
      exact results_cell_row Tryz.results38 _ _ w.heap.size _ _ _ _ rfl (set4 HQd.out.2.2.1 _ _ _ _) Tryz.underlying30 rfl (by kernel_rfl)

end Go.Proofs.YtihmgodiiohdnaaGreatDoor

/- spec.l1Draw, at depths from 2 on; l1Some. Condition: the source lies in memory. -/
namespace Go.Proofs.YtihmgodiiohdnaaGreatDoor
open Go.RowKit

set_option maxRecDepth 100000 in
set_option maxHeartbeats 8000000 in
theorem drT_high (d : Nat) (h : 1 ≤ d) (ih : DrT d) : DrT (d + 1) := by
  intro rb N x w hr hN hx
  have t0 : ¬ x < 2 := by omega
  have hx1 : x ≤ 1000000 := by have := drN_succ d; have := drN_pos d; have h3 : d < 4 ^ d := Nat.lt_pow_self (by decide); unfold drN at hN; rw [Nat.pow_succ] at hN; omega
  have hx2 : 2 ≤ x := by omega
  have hxd : x - 1 = (d : Int) := by omega
  have HXD := Lib.hid hxd
  have hp := drN_pos d
  have hm : 4 ≤ drM d := by obtain ⟨e, rfl⟩ : ∃ e, d = e + 1 := ⟨d - 1, by omega⟩; rw [drM_succ]; have := drM_pos e; omega
  rw [drN_succ, drM_succ]
  rw [drN_succ] at hN
  have IH := fun rb N w hr hN => ih rb N (x - 1) w hr hN HXD.out
  have HQ := Lib.hid (DqI.start hr)
  have HIH := Lib.hid IH
  clear hr hx h ih IH hxd
  generalize drN d = D at *
  generalize drM d = M at *
  go_enter Tryz.func38, Tryz.ntmps38
  go_wp2_with fail
  refine (pick_any rb _ 4 _ HQ.out.1 (by omega) (by omega) (by omega)).mono ?_
  rintro e w1 ⟨k1, rfl, hk0, hk1, hr, hw⟩
  have HQ1 := Lib.hid (HQ.out.step hr hw)
  clear hr hw HQ
  by_cases c1 : k1 = 0
  · subst c1
    go_wp2_with fail
    refine (pick_any rb _ 4 _ HQ1.out.1 (by omega) (by omega) (by omega)).mono ?_
    rintro e wa ⟨k, rfl, hk0, hk1, hr, hw⟩
    have HQa := Lib.hid (HQ1.out.step hr hw)
    clear hr hw HQ1
    by_cases z0 : k = 0
    · subst z0
      go_wp2_with fail
      refine (pick_any rb _ 4 _ HQa.out.1 (by omega) (by omega) (by omega)).mono ?_
      rintro e wb ⟨v, rfl, hv0, hv1, hr, hw⟩
      have HQb := Lib.hid (HQa.out.step hr hw)
      clear hr hw HQa
      go_wp2_with fail
      refine (var_any _ _).mono ?_
      rintro e wc ⟨rfl, hb⟩
      have HQc := Lib.hid (HQb.out.below hb)
      clear hb HQb
      obtain ⟨d0, d1, d2, d3⟩ := cells4i HQc.out.2.2.1
      obtain ⟨f0, f1, f2, f3⟩ := frozen4 HQc.out.2.2.1
      go_wp2_with fail
      refine bodyPost_ret (v := .agg #[.int .i64 1, .int .i64 v, .string ⟨#[]⟩, .slice none 0 0]) ?_ rfl (HQc.out.ret (f := .nil) ⟨by omega, by omega, Nat.zero_le _⟩ (own_nil _ _ _ _ (Nat.zero_le _)) (Nat.zero_le _) (by omega) _ _ _ _)
      exact results_cell_row Tryz.results38 _ _ w.heap.size _ _ _ _ rfl (set4 HQc.out.2.2.1 _ _ _ _) Tryz.underlying30 rfl (by kernel_rfl)
    · have tk0 : (k == 0) = false := by rw [beq_eq_false_iff_ne]; exact z0
      by_cases z1 : k = 1
      · subst z1
        have hb := (Below.refl wa.heap.size wa).alloc (Nat.le_refl _) (.cells #[.int .i64 0, .int .i64 1, .int .i64 7, .int .i64 (-3), .int .i64 999, .int .i64 (-999)] 3)
        have HQb := Lib.hid (HQa.out.below hb)
        have HI : Hid (IntsAt (wa.alloc (.cells #[.int .i64 0, .int .i64 1, .int .i64 7, .int .i64 (-3), .int .i64 999, .int .i64 (-999)] 3)) (rb + 1) (some ⟨wa.heap.size, 0, none⟩) [0, 1, 7, -3, 999, -999]) := Lib.hid ⟨wa.heap.size, rfl, HQa.out.1.lt, by simp, fun i z h => by rw [(Blk.new wa _ _).cell i]; match i, h with
          | 0, h => cases h; rfl
          | 1, h => cases h; rfl
          | 2, h => cases h; rfl
          | 3, h => cases h; rfl
          | 4, h => cases h; rfl
          | 5, h => cases h; rfl⟩
        clear hb HQa
        go_wp2_with fail
        refine (num_any rb _ [0, 1, 7, -3, 999, -999] _ 6 _ HQb.out.1 (by omega) HI.out (by decide) (by decide)).mono ?_
        rintro e wb ⟨v, rfl, hv, hr, hw⟩
        have HQc := Lib.hid (HQb.out.step hr hw)
        have hvb : -999 ≤ v ∧ v ≤ 999 := by simp at hv; omega
        clear hr hw HQb hv HI
        go_wp2_with fail
        refine (int_any _ _).mono ?_
        rintro e wc ⟨rfl, hb⟩
        have HQd := Lib.hid (HQc.out.below hb)
        clear hb HQc
        obtain ⟨d0, d1, d2, d3⟩ := cells4i HQd.out.2.2.1
        obtain ⟨f0, f1, f2, f3⟩ := frozen4 HQd.out.2.2.1
        go_wp2_with fail
        refine bodyPost_ret (v := .agg #[.int .i64 2, .int .i64 v, .string ⟨#[]⟩, .slice none 0 0]) ?_ rfl (HQd.out.ret (f := .nil) ⟨by omega, by omega, Nat.zero_le _⟩ (own_nil _ _ _ _ (Nat.zero_le _)) (Nat.zero_le _) (by omega) _ _ _ _)
        exact results_cell_row Tryz.results38 _ _ w.heap.size _ _ _ _ rfl (set4 HQd.out.2.2.1 _ _ _ _) Tryz.underlying30 rfl (by kernel_rfl)
      · have tk1 : (k == 1) = false := by rw [beq_eq_false_iff_ne]; exact z1
        have hb := (Below.refl wa.heap.size wa).alloc (Nat.le_refl _) (.cells #[.string ⟨#[97]⟩, .string ⟨#[98]⟩, .string ⟨#[110, 105, 108]⟩, .string ⟨#[91, 93]⟩, .string ⟨#[102, 111, 111]⟩, .string ⟨#[43]⟩] 9)
        have HQb := Lib.hid (HQa.out.below hb)
        have HI : Hid (StrsAt (wa.alloc (.cells #[.string ⟨#[97]⟩, .string ⟨#[98]⟩, .string ⟨#[110, 105, 108]⟩, .string ⟨#[91, 93]⟩, .string ⟨#[102, 111, 111]⟩, .string ⟨#[43]⟩] 9)) (rb + 1) (some ⟨wa.heap.size, 0, none⟩) [⟨#[97]⟩, ⟨#[98]⟩, ⟨#[110, 105, 108]⟩, ⟨#[91, 93]⟩, ⟨#[102, 111, 111]⟩, ⟨#[43]⟩]) := Lib.hid ⟨wa.heap.size, rfl, HQa.out.1.lt, by simp, fun i z h => by rw [(Blk.new wa _ _).cell i]; match i, h with
          | 0, h => cases h; rfl
          | 1, h => cases h; rfl
          | 2, h => cases h; rfl
          | 3, h => cases h; rfl
          | 4, h => cases h; rfl
          | 5, h => cases h; rfl⟩
        clear hb HQa
        go_wp2_with fail
        refine (of_any rb _ [⟨#[97]⟩, ⟨#[98]⟩, ⟨#[110, 105, 108]⟩, ⟨#[91, 93]⟩, ⟨#[102, 111, 111]⟩, ⟨#[43]⟩] _ 6 _ HQb.out.1 (by omega) HI.out (by decide) (by decide)).mono ?_
        rintro e wb ⟨s, rfl, hs, hr, hw⟩
        have HQc := Lib.hid (HQb.out.step hr hw)
        have hsb : s.size ≤ maxLen := names6 s hs
        have HSB := Lib.hid hsb
        clear hr hw HQb hs HI hsb
        go_wp2_with fail
        refine (structN_any s .nil none 0 [] _ ⟨Nat.zero_le _, Nat.zero_le _, .inl ⟨rfl, rfl⟩⟩ List.nodup_nil (by decide)).mono ?_
        rintro e wc ⟨A, cap, L, rfl, ho, hn, hL, hb, _⟩
        have hOL : ∀ x ∈ L, w.heap.size < x := fun x hx => by
          rcases hL x hx with h | h
          · simp at h
          · have := HQc.out.2.2.1.lt; omega
        have HQd := Lib.hid (HQc.out.below hb)
        have HO : Hid (∃ L, OwnS wc .nil A cap L ∧ L.Nodup ∧ ∀ x ∈ L, w.heap.size < x) := Lib.hid ⟨L, ho, hn, hOL⟩
        clear hb HQc ho hn hL hOL
        obtain ⟨d0, d1, d2, d3⟩ := cells4i HQd.out.2.2.1
        obtain ⟨f0, f1, f2, f3⟩ := frozen4 HQd.out.2.2.1
        go_wp2_with fail
        refine bodyPost_ret (v := .agg #[.int .i64 3, .int .i64 0, .string s, .slice A 0 cap]) ?_ rfl (HQd.out.ret (f := .nil) ⟨by omega, by omega, HSB.out⟩ HO.out (Nat.zero_le _) (by omega) _ _ _ _)
        exact results_cell_row Tryz.results38 _ _ w.heap.size _ _ _ _ rfl (set4 HQd.out.2.2.1 _ _ _ _) Tryz.underlying30 rfl (by kernel_rfl)
  · have tc1 : (k1 == 0) = false := by rw [beq_eq_false_iff_ne]; exact c1
    go_wp2_with fail
    refine (pick_any rb _ 3 _ HQ1.out.1 (by omega) (by omega) (by omega)).mono ?_
    rintro e w2 ⟨k2, rfl, hk0, hk1, hr, hw⟩
    have HQ2 := Lib.hid (HQ1.out.step hr hw)
    clear hr hw HQ1 hk0 hk1
    by_cases c2 : k2 = 0
    · subst c2
      go_wp2_with fail
      refine (HIH.out rb _ _ HQ2.out.1 (by omega)).mono ?_
      rintro e w3 ⟨a0, a1, a2, af, A1, cp1, rfl, hf1, hm1, hn1, hr⟩
      have HQ3 := Lib.hid (HQ2.out.step hr hm1.wrote)
      have HF1 := Lib.hid hf1
      have HM1 := Lib.hid hm1
      have HS2 := Lib.hid HQ2.out.2.2.1.lt
      have HS2' := Lib.hid HQ2.out.1.lt
      clear hr hf1 hm1 HQ2
      go_wp2_with fail
      refine (HIH.out rb _ _ HQ3.out.1 (by omega)).mono ?_
      rintro e w4 ⟨b0, b1, b2, bf, A2, cp2, rfl, hf2, hm2, hn2, hr⟩
      have HQ4 := Lib.hid (HQ3.out.step hr hm2.wrote)
      have hb := (Below.refl w4.heap.size w4).alloc (Nat.le_refl _) (.cells #[.int .i64 a0, .int .i64 a1, .string a2, .slice A1 af.len cp1, .int .i64 b0, .int .i64 b1, .string b2, .slice A2 bf.len cp2] 30)
      have HQ5 := Lib.hid (HQ4.out.below hb)
      have hown : ∃ L, OwnS (w4.alloc (.cells #[.int .i64 a0, .int .i64 a1, .string a2, .slice A1 af.len cp1, .int .i64 b0, .int .i64 b1, .string b2, .slice A2 bf.len cp2] 30)) (.cons a0 a1 a2 af (.cons b0 b1 b2 bf .nil)) (some ⟨w4.heap.size, 0, none⟩) 2 L ∧ L.Nodup ∧ ∀ x ∈ L, w.heap.size < x := by
        obtain ⟨L1, o1', n1, l1', q1⟩ := HM1.out
        obtain ⟨L2, o2, n2, l2, q2⟩ := hm2
        have hsr := HS2'.out
        have hs4 := q2.size
        have o1 := o1'.wrote q2 fun x hx e => by simp at e; have := (l1' x hx).1; omega
        have l1 : ∀ x ∈ L1, w2.heap.size ≤ x ∧ x < w4.heap.size := fun x hx => ⟨(l1' x hx).1, by have := (l1' x hx).2; omega⟩
        have hq := Blk.new w4 30 #[.int .i64 a0, .int .i64 a1, .string a2, .slice A1 af.len cp1, .int .i64 b0, .int .i64 b1, .string b2, .slice A2 bf.len cp2]
        have p1 := o1.below hb fun x hx => (l1 x hx).2
        have p2 := o2.below hb fun x hx => (l2 x hx).2
        have hs := HS2.out
        have hs3 := q1.size
        refine ⟨w4.heap.size :: (L1 ++ (L2 ++ [])), ⟨by simp [Fr.len], by unfold maxLen; omega, .inr ⟨w4.heap.size, L1 ++ (L2 ++ []), _, rfl, rfl, hq, rfl, ⟨A1, cp1, L1, L2 ++ [], rfl, HF1.out, ⟨hq.cell 0, hq.cell 1, hq.cell 2, hq.cell 3⟩, p1.1, p1.2.1, p1.2.2, ⟨A2, cp2, L2, [], rfl, hf2, ⟨hq.cell 4, hq.cell 5, hq.cell 6, hq.cell 7⟩, p2.1, p2.2.1, p2.2.2, rfl⟩⟩⟩⟩, ?_, ?_⟩
        · rw [List.append_nil]
          refine List.nodup_cons.2 ⟨fun hx => ?_, List.nodup_append.2 ⟨n1, n2, fun a ha b hb e => ?_⟩⟩
          · rcases List.mem_append.1 hx with hx | hx
            · have := (l1 _ hx).2; omega
            · have := (l2 _ hx).2; omega
          · have := (l1' a ha).2; have := (l2 b hb).1; omega
        · intro x hx
          rw [List.append_nil] at hx
          rcases List.mem_cons.1 hx with rfl | hx
          · omega
          · rcases List.mem_append.1 hx with hx | hx
            · have := (l1 _ hx).1; omega
            · have := (l2 _ hx).1; omega
      obtain ⟨L, hol, hnl, hll⟩ := hown
      have HO := Lib.hid hol
      have HN := Lib.hid hnl
      have HL := Lib.hid hll
      clear hr hf2 hm2 hb hol hnl hll HM1 HF1 HQ3 HQ4
      go_wp2_with fail
      refine (structN_any ⟨#[46]⟩ (.cons a0 a1 a2 af (.cons b0 b1 b2 bf .nil)) _ _ L _ HO.out HN.out (by simp [Fr.len])).mono ?_
      rintro e w6 ⟨A, cap, L', rfl, ho, hn, hL, hb, _⟩
      have HQ6 := Lib.hid (HQ5.out.below hb)
      have hO6 : ∃ L, OwnS w6 (.cons a0 a1 a2 af (.cons b0 b1 b2 bf .nil)) A cap L ∧ L.Nodup ∧ ∀ x ∈ L, w.heap.size < x := ⟨L', ho, hn, fun x hx => by
        rcases hL x hx with h | h
        · exact HL.out x h
        · have := HQ5.out.2.2.1.lt; omega⟩
      have HO6 := Lib.hid hO6
      clear ho hn hL hb HQ5 hO6 HO HN HL
      obtain ⟨d0, d1, d2, d3⟩ := cells4i HQ6.out.2.2.1
      obtain ⟨f0, f1, f2, f3⟩ := frozen4 HQ6.out.2.2.1
      go_wp2_with fail
      refine bodyPost_ret (v := .agg #[.int .i64 3, .int .i64 0, .string ⟨#[46]⟩, .slice A (Fr.cons a0 a1 a2 af (.cons b0 b1 b2 bf .nil)).len cap]) ?_ rfl (HQ6.out.ret ⟨by omega, by omega, by unfold maxLen; decide⟩ HO6.out (by simp only [nodes]; omega) (by omega) _ _ _ _)
      exact results_cell_row Tryz.results38 _ _ w.heap.size _ _ _ _ rfl (set4 HQ6.out.2.2.1 _ _ _ _) Tryz.underlying30 rfl (by kernel_rfl)
    · have tc2 : (k2 == 0) = false := by rw [beq_eq_false_iff_ne]; exact c2
      have hb := (Below.refl w2.heap.size w2).alloc (Nat.le_refl _) (.cells #[.string ⟨#[102]⟩, .string ⟨#[103]⟩, .string ⟨#[115]⟩, .string ⟨#[43]⟩, .string ⟨#[61]⟩, .string ⟨#[105, 115]⟩, .string ⟨#[102, 111, 111]⟩] 9)
      have HQ3 := Lib.hid (HQ2.out.below hb)
      have HI : Hid (StrsAt (w2.alloc (.cells #[.string ⟨#[102]⟩, .string ⟨#[103]⟩, .string ⟨#[115]⟩, .string ⟨#[43]⟩, .string ⟨#[61]⟩, .string ⟨#[105, 115]⟩, .string ⟨#[102, 111, 111]⟩] 9)) (rb + 1) (some ⟨w2.heap.size, 0, none⟩) [⟨#[102]⟩, ⟨#[103]⟩, ⟨#[115]⟩, ⟨#[43]⟩, ⟨#[61]⟩, ⟨#[105, 115]⟩, ⟨#[102, 111, 111]⟩]) := Lib.hid ⟨w2.heap.size, rfl, HQ2.out.1.lt, by simp, fun i z h => by rw [(Blk.new w2 _ _).cell i]; match i, h with
        | 0, h => cases h; rfl
        | 1, h => cases h; rfl
        | 2, h => cases h; rfl
        | 3, h => cases h; rfl
        | 4, h => cases h; rfl
        | 5, h => cases h; rfl
        | 6, h => cases h; rfl⟩
      clear hb HQ2
      go_wp2_with fail
      refine (of_any rb _ [⟨#[102]⟩, ⟨#[103]⟩, ⟨#[115]⟩, ⟨#[43]⟩, ⟨#[61]⟩, ⟨#[105, 115]⟩, ⟨#[102, 111, 111]⟩] _ 7 _ HQ3.out.1 (by omega) HI.out (by decide) (by decide)).mono ?_
      rintro e w3 ⟨s, rfl, hs, hr, hw⟩
      have HQ4 := Lib.hid (HQ3.out.step hr hw)
      have hsb : s.size ≤ maxLen := names7 s hs
      have HSB := Lib.hid hsb
      clear hr hw HQ3 hs HI hsb
      go_wp2_with fail
      refine (structN_any s .nil none 0 [] _ ⟨Nat.zero_le _, Nat.zero_le _, .inl ⟨rfl, rfl⟩⟩ List.nodup_nil (by decide)).mono ?_
      rintro e w4 ⟨A, cap, L, rfl, ho, hn, hL, hb, h0⟩
      obtain ⟨rfl, rfl, hq0⟩ := h0 rfl
      rw [show Fr.nil.len = 0 from rfl]
      have hp0 : RowP (w3.heap.size + 1) (.slice (some ⟨w3.heap.size + 1, 0, none⟩) 0 0) .nil w4 := ⟨[], [], ⟨rfl, .inr ⟨w3.heap.size + 1, 0, #[], rfl, Nat.le_refl _, hq0, Nat.le_refl _, Nat.zero_le _, rfl, rfl⟩⟩, ⟨rfl, rfl⟩, List.nodup_nil, fun x hx => by simp at hx, fun g hg => by simp⟩
      have hx0 := hp0.x (H := w4.heap.size) (Nat.le_refl _)
      have hq4 := Blk.new w4 30 #[.int .i64 3, .int .i64 0, .string s, .slice (some ⟨w3.heap.size + 1, 0, none⟩) 0 0]
      have hb1 := (Below.refl w4.heap.size w4).alloc (Nat.le_refl _) (.cells #[.int .i64 3, .int .i64 0, .string s, .slice (some ⟨w3.heap.size + 1, 0, none⟩) 0 0] 30)
      have HQ5 := Lib.hid ((HQ4.out.below hb).below hb1)
      have hlw : w.heap.size < w3.heap.size + 1 := by have := HQ4.out.2.2.1.lt; omega
      have hl3 : w3.heap.size + 1 < w4.heap.size := hq0.lt
      have HQ4' := Lib.hid hq4
      have HX := Lib.hid (hx0.below hb1)
      clear ho hn hL hb h0 hq0 hp0 hx0 hq4 hb1 HQ4
      go_wp2_with fail
      generalize hW5 : w4.alloc (.cells #[.int .i64 3, .int .i64 0, .string s, .slice (some ⟨w3.heap.size + 1, 0, none⟩) 0 0] 30) = W5 at *
      have hs5 : W5.heap.size = w4.heap.size + 1 := by rw [← hW5]; simp
      clear hW5
      generalize w4.heap.size = H at *
      generalize w3.heap.size + 1 = base at *
      have hb := (Below.refl W5.heap.size W5).alloc (Nat.le_refl _) (.cells #[.int .i64 2, .int .i64 1, .int .i64 3, .int .i64 2] 3)
      have HQ6 := Lib.hid (HQ5.out.below hb)
      have HI : Hid (IntsAt (W5.alloc (.cells #[.int .i64 2, .int .i64 1, .int .i64 3, .int .i64 2] 3)) (rb + 1) (some ⟨H + 1, 0, none⟩) [2, 1, 3, 2]) := Lib.hid ⟨H + 1, rfl, by have := HQ5.out.1.lt; omega, by simp; omega, fun i z h => by rw [← hs5, (Blk.new W5 _ _).cell i]; match i, h with
        | 0, h => cases h; rfl
        | 1, h => cases h; rfl
        | 2, h => cases h; rfl
        | 3, h => cases h; rfl⟩
      have HT := Lib.hid (HQ4'.out.below hb HQ4'.out.lt)
      have HX6 := Lib.hid (HX.out.below hb)
      clear hb HQ5 HX HQ4'
      refine (num_any rb _ [2, 1, 3, 2] _ 4 _ HQ6.out.1 (by omega) HI.out (by decide) (by decide)).mono ?_
      rintro e w7 ⟨c, rfl, hc, hr, hw⟩
      have hrb := HQ6.out.2.2.2
      have HQ7 := Lib.hid (HQ6.out.step hr hw)
      have HT7 := Lib.hid (hw.blk HT.out (by simp; omega))
      have HX7 := Lib.hid (HX6.out.wrote (rb := rb) (by omega) hw)
      have hs7 : H < w7.heap.size := HT7.out.lt
      have hcm : ∃ m : Nat, c = (m : Int) ∧ m ≤ 3 := by simp at hc; exact ⟨c.toNat, by omega, by omega⟩
      obtain ⟨m, rfl, hm3⟩ := hcm
      have e3D := Nat.mul_le_mul_right D hm3
      have e3M := Nat.mul_le_mul_right (1 + M) hm3
      clear hr hw hc HI HT HX6 HQ6 hs5
      obtain ⟨i0, hi0, hz0, hz1, hz2⟩ := info_parts infoTd
      go_wp2_with fail
      go_loopw [6] (fun i wr => ∃ (m U : Nat) (v : Value) (F : Fr), i = .int .i64 (m : Int) ∧ F.len + m ≤ 3 ∧ U + m * D ≤ N + 4 + 3 * D ∧ nodes F + m * (1 + M) ≤ 3 * (1 + M) ∧ DqI w rb U wr ∧ Blk wr H 30 #[.int .i64 3, .int .i64 0, .string s, v] ∧ RowX base H v F wr) (fun i _ => (intOf i).toNat)
      case atStart => exact ⟨m, _, _, .nil, rfl, by simp only [Fr.len]; omega, by omega, by simp only [nodes]; omega, HQ7.out, HT7.out, HX7.out⟩
      case round =>
        obtain ⟨m, U, v, F, rfl, h1, h2, h3, hq, ht, hx⟩ := hrel
        cases m with
        | zero =>
          obtain ⟨A, cap, rfl⟩ := hx.p.form
          obtain ⟨L, ho, hn, hL⟩ := hx.p.own
          obtain ⟨x0, x1, x2, x3⟩ := cells4i ht
          obtain ⟨d0, d1, d2, d3⟩ := cells4i hq.2.2.1
          obtain ⟨f0, f1, f2, f3⟩ := frozen4 hq.2.2.1
          have HQ8 := Lib.hid hq
          have HO8 : Hid (∃ L, OwnS wr F A cap L ∧ L.Nodup ∧ ∀ x ∈ L, w.heap.size < x) := Lib.hid ⟨L, ho, hn, fun x hx => by have := (hL x hx).1; omega⟩
          have HNF : Hid (nodes F ≤ 4 * M) := Lib.hid (by omega)
          have HU : Hid (U ≤ N + 4 * D) := Lib.hid (by omega)
          clear hq ht hx ho hn hL h1 h2 h3 HQ7 HT7 HX7 e3D e3M
          go_wp2_with fail
          refine bodyPost_ret (v := .agg #[.int .i64 3, .int .i64 0, .string s, .slice A F.len cap]) ?_ rfl (HQ8.out.ret ⟨by omega, by omega, HSB.out⟩ HO8.out HNF.out HU.out _ _ _ _)
          exact results_cell_row Tryz.results38 _ _ w.heap.size _ _ _ _ rfl (set4 HQ8.out.2.2.1 _ _ _ _) Tryz.underlying30 rfl (by kernel_rfl)
        | succ m =>
          rw [Nat.succ_mul] at h2 h3
          obtain ⟨xs, L, hown, hDs, hN, hL, hv⟩ := hx
          have hvl := hown.lt
          have hbs : base ≤ wr.heap.size := by have := ht.lt; omega
          have hHl := ht.lt
          have x3 : wr.cell? ⟨H, 3, none⟩ = some v := ht.cell 3
          have xf := ht.frozen 3
          have STEP := fun (w1 w2 w4 : World) (b0 b1 : Int) (b2 : ByteArray) (bf : Fr) (A2 : Option Addr) (cap2 g cap4 U2 : Nat) hf hm hr1 hb2 hg ho hat => dr_step (w1 := w1) (w2 := w2) (w4 := w4) (k := b0) (n := b1) (s' := b2) (kids := bf) (A := A2) (cap := cap2) (cap4 := cap4) (g := g) (U2 := U2) hq ht hlw hbs (by omega) hDs hN hL hv hvl hf hm hr1 hb2 hg ho hat
          have CALL := HIH.out rb U wr.drew (hq.1.below (Below.refl _ _).drew) (by have := Nat.zero_le (m * D); omega)
          have hne : some H ≠ v.ownBlock := fun e => (hv _ e.symm).2 rfl
          have keep : ∀ w2, Wrote [rb] wr w2 → w2.ownsRow base 30 4 v F.len xs := fun w2 hb2 => by
            refine ⟨hown.1, ?_⟩
            rcases hown.2 with h | ⟨g, cap, cur, rfl, hg, hh, hr'⟩
            · exact .inl h
            · exact .inr ⟨g, cap, cur, rfl, hg, (hb2.block g (hvl g rfl).2 (by simp; omega)).trans hh, hr'⟩
          have HSTEP := Lib.hid STEP
          have HCALL := Lib.hid CALL
          have HNE := Lib.hid hne
          have HKEEP := Lib.hid keep
          have HTT := Lib.hid ht
          have HNF := Lib.hid h3
          have hm0 : (0 : Int) < ((m + 1 : Nat) : Int) := by omega
          have hfl : F.len ≤ 3 := by omega
          clear STEP CALL hne keep hown hDs hN hL hv hvl hq ht HQ7 HT7 HX7 e3D e3M h3
          generalize hfl2 : F.len = fl at *
          have HFL := Lib.hid hfl2
          clear hfl2
          go_wp2_with fail
          have hwx : IntKind.i64.wrap (x - 1) = x - 1 := IntWalk.i64_in _ (by omega)
          go_region_law (first
            | (refine step_append_lies _ (by rfl) _ _ _ (by rfl) base 30 i0 _ 4 56 Tryz.underlying28 hi0 hz0 hz1 hz2 rfl (by omega) v fl xs (by rfl) (HO2.out.alloc _)
                 ⟨w2.heap.size, 0, none⟩ 1 1 [.int .i64 b0, .int .i64 b1, .string b2, .slice A2 bf.len cap2] (by rfl) (by rfl) (World.news_of_block (cs := #[.int .i64 b0, .int .i64 b1, .string b2, .slice A2 bf.len cap2]) (fr := (0, 0)) (heap_alloc_new w2 _)) (by simp [Value.oneCell'])
                 (by omega) (by unfold maxLen; omega) (by omega) (by simp; omega) (w2.heap.size + 1) (by simp) ?_
               intro g cap4 w4 hown4 hgrow hat hlt4
               have q4 := (HT2.out.alloc (.cells #[.int .i64 b0, .int .i64 b1, .string b2, .slice A2 bf.len cap2] 30)).keep (hgrow.block _ (by simp; omega) HNE.out)
               have z3 := q4.cell 3
               have zf := q4.frozen 3
               simp only [List.getElem?_toArray, List.getElem?_cons_zero, List.getElem?_cons_succ] at z3
               clear q4
               have HOWN4 := Lib.hid hown4
               have HGROW := Lib.hid hgrow
               have HAT := Lib.hid hat
               clear hown4 hgrow hat)
            | (go_simp
               go_at_call 38
               refine HCALL.out.mono ?_
               rintro e w2 ⟨b0, b1, b2, bf, A2, cap2, rfl, hf2, hm2, hn2, hr2⟩
               have hm2' := hm2.up (w := wr) (.of_below (Below.refl _ _).drew _)
               have hd2 := hm2'.wrote
               have hs2 := hd2.size
               have ht2 := hd2.blk HTT.out (by simp; omega)
               have y3 := ht2.cell 3
               have y4 := (ht2.alloc (.cells #[.int .i64 b0, .int .i64 b1, .string b2, .slice A2 bf.len cap2] 30)).cell 3
               simp only [List.getElem?_toArray, List.getElem?_cons_zero, List.getElem?_cons_succ] at y3 y4
               have HO2 := Lib.hid (HKEEP.out w2 hd2)
               have HT2 := Lib.hid ht2
               have HM := Lib.hid hm2'
               have HR2 := Lib.hid hr2
               have HF2 := Lib.hid hf2
               clear hm2 hm2' hd2 ht2 hr2 hf2))
          all_goals
            have hs := HSTEP.out w2 _ w4 b0 b1 b2 bf A2 cap2 g cap4 _ HF2.out HM.out HR2.out ((Below.refl _ _).alloc (Nat.le_refl _) _) HGROW.out HOWN4.out (by simpa using HAT.out)
            have HS := Lib.hid hs
            have HN2 := Lib.hid hn2
            clear hs hwx hn2
            go_wp2_with fail
            go_roundw
            case rel => exact ⟨m, U + D, _, F.app (.cons b0 b1 b2 bf .nil), by go_num, by rw [Fr.len_app, HFL.out]; simp only [Fr.len]; omega, by omega, by rw [nodes_app]; have := HNF.out; have := HN2.out; simp only [nodes]; omega, HS.out.1, HS.out.2.1, by have := HS.out.2.2; exact this⟩
            case measure => simp [intOf]
theorem drT_any : ∀ d, DrT d
  | 0 => drT_low 0 (by omega)
  | 1 => drT_low 1 (by omega)
  | d + 2 => drT_high (d + 1) (by omega) (drT_any (d + 1))

set_option maxRecDepth 100000 in
set_option maxHeartbeats 2000000 in
/-- spec.l1Some. -/
theorem some_any (rb N : Nat) (w : World) (hr : Rd w rb N) (hN : N + 3000 ≤ 1000000) : Calls Tryz.prog 41 #[.pointer (some ⟨rb, 0, none⟩)] w fun e w' => DrR rb (N + 3000) 256 w e w' := by
  have HQ := Lib.hid (DqI.start hr)
  clear hr
  have hb := (Below.refl (w.alloc (.cells #[.int .i64 0, .int .i64 0, .string ⟨#[]⟩, .slice none 0 0] 30)).heap.size (w.alloc (.cells #[.int .i64 0, .int .i64 0, .string ⟨#[]⟩, .slice none 0 0] 30))).alloc (Nat.le_refl _) (.cells #[.int .i64 3, .int .i64 2, .int .i64 4, .int .i64 1] 3)
  have HQ1 := Lib.hid (HQ.out.below hb)
  have HI : Hid (IntsAt ((w.alloc (.cells #[.int .i64 0, .int .i64 0, .string ⟨#[]⟩, .slice none 0 0] 30)).alloc (.cells #[.int .i64 3, .int .i64 2, .int .i64 4, .int .i64 1] 3)) (rb + 1) (some ⟨w.heap.size + 1, 0, none⟩) [3, 2, 4, 1]) := Lib.hid ⟨w.heap.size + 1, rfl, by have := HQ.out.2.2.2; omega, by simp, fun i z h => by
    have hq := (Blk.new (w.alloc (.cells #[.int .i64 0, .int .i64 0, .string ⟨#[]⟩, .slice none 0 0] 30)) 3 #[.int .i64 3, .int .i64 2, .int .i64 4, .int .i64 1]).cell i
    rw [show (w.alloc (.cells #[.int .i64 0, .int .i64 0, .string ⟨#[]⟩, .slice none 0 0] 30)).heap.size = w.heap.size + 1 by simp] at hq
    rw [hq]
    match i, h with
    | 0, h => cases h; rfl
    | 1, h => cases h; rfl
    | 2, h => cases h; rfl
    | 3, h => cases h; rfl⟩
  clear hb HQ
  go_enter Tryz.func41, Tryz.ntmps41
  go_wp2_with fail
  refine (num_any rb _ [3, 2, 4, 1] _ 4 _ HQ1.out.1 (by omega) HI.out (by decide) (by decide)).mono ?_
  rintro e w2 ⟨c, rfl, hc, hr, hw⟩
  have HQ2 := Lib.hid (HQ1.out.step hr hw)
  have hcd : ∃ d : Nat, c = (d : Int) ∧ drN d ≤ 2048 ∧ drM d ≤ 256 := by
    simp at hc
    rcases hc with rfl | rfl | rfl | rfl
    · exact ⟨3, rfl, by decide, by decide⟩
    · exact ⟨2, rfl, by decide, by decide⟩
    · exact ⟨4, rfl, by decide, by decide⟩
    · exact ⟨1, rfl, by decide, by decide⟩
  obtain ⟨d, rfl, hd1, hd2⟩ := hcd
  clear hc hr hw HQ1 HI
  go_wp2_with fail
  refine (drT_any d rb _ _ _ HQ2.out.1 (by omega) rfl).mono ?_
  rintro e w3 ⟨k, n, s, f, A, cap, rfl, hf, hm, hn, hr⟩
  have HQ3 := Lib.hid (HQ2.out.step hr hm.wrote)
  have hl := HQ2.out.2.2.1.lt
  have HF := Lib.hid hf
  have HNF := Lib.hid hn
  have HO : Hid (∃ L, OwnS w3 f A cap L ∧ L.Nodup ∧ ∀ x ∈ L, w.heap.size < x) := Lib.hid (by
    obtain ⟨L, h1, h2, h3, _⟩ := hm
    exact ⟨L, h1, h2, fun x hx => by have := (h3 x hx).1; omega⟩)
  clear hf hm hn hr HQ2
  obtain ⟨d0, d1, d2, d3⟩ := cells4i HQ3.out.2.2.1
  obtain ⟨f0, f1, f2, f3⟩ := frozen4 HQ3.out.2.2.1
  go_wp2_with fail
  refine bodyPost_ret (v := .agg #[.int .i64 k, .int .i64 n, .string s, .slice A f.len cap]) ?_ rfl (HQ3.out.ret HF.out HO.out (Nat.le_trans HNF.out hd2) (by omega) _ _ _ _)
  exact results_cell_row Tryz.results41 _ _ w.heap.size _ _ _ _ rfl (set4 HQ3.out.2.2.1 _ _ _ _) Tryz.underlying30 rfl (by kernel_rfl)
end Go.Proofs.YtihmgodiiohdnaaGreatDoor
