/- The law FnExactFirstKey, walked. Condition: the argument lies in memory, the tables of signs and of powers of ten in their variables. -/
import Derived.Test.YtlapdnllncoomaaDoorProg
import Derived.Test.YtlapdnllncoomaaDoorFkI
import Derived.Test.YtlapdnllncoomaaDoorTo
import Derived.Test.YtlapdnllncoomaaDoorOpen
import Derived.Test.YtlapdnllncoomaaDoorLawTV0
import Derived.Deep.RegionHeld3
namespace Go.Proofs.YtlapdnllncoomaaDoor
open Go.RowKit

set_option maxRecDepth 100000 in
set_option maxHeartbeats 4000000 in
theorem lawFK_any (k n : Int) (s : ByteArray) (f : Fr) (A : Option Addr) (cap : Nat) (w : World) (hk : KidsAt w 0 w.heap.size f A cap) (hf : Fits k n s) (ht : nv.Tab w) (hp : Lib.TabIs Tryd.prog w "internal/strconv.uint64pow10" .u64 Lib.pow10Tab) :
    Calls Tryd.prog 3 #[.agg #[.int .i64 k, .int .i64 n, .string s, .slice A f.len cap]] w fun e w' => e = .returned (.bool true) ∧ Below w.heap.size w w' := by
  have hlt := tab_lt ht
  have C1 := fun w1 (hb : Below w.heap.size w w1) => szT_any s f k n A cap 0 w.heap.size 1048576 w1 (hk.below hb (Nat.le_refl _)) hb.size hf (by omega) (by omega)
  have hr := szT_range s f 1048576 (by omega)
  generalize szT s f 1048576 = r at *
  have H1 := Lib.hid C1
  have HK := Lib.hid hk
  have HT := Lib.hid ht
  have HPT := Lib.hid (Lib.tabBelow_of_tabIs hp)
  have HF := Lib.hid hf
  have r1 := hr.1
  have r2 := hr.2.1
  clear C1 hk ht hf hp
  have hb1 : ∀ o, Below w.heap.size w (w.alloc o) := fun o => (Below.refl _ _).alloc (Nat.le_refl _) _
  have HB1 := Lib.hid hb1
  clear hb1
  by_cases hneg : r < 0
  · clear hr
    go_enter Tryd.func3, Tryd.ntmps3
    go_wp2_with fail
    refine (H1.out _ (HB1.out _)).mono ?_
    rintro e w2 ⟨rfl, hb⟩
    have HB := Lib.hid hb
    clear hb
    go_wp2_with fail
    go_ret
    exact ⟨rfl, (HB1.out _).trans (HB.out.mono (by simp))⟩
  · have hwt : s.size + f.len + wt f ≤ 1048576 := by have := hr.2.2 (by omega); omega
    have hnd : nodes f ≤ 1048576 := by have := nodes_le_wt f; omega
    have CT := fun w1 (hb : Below w.heap.size w w1) => toT_any k n s f A cap 0 w.heap.size w1 (HK.out.below hb (Nat.le_refl _)) hb.size (by omega)
    have CS := fun w1 A1 cap1 lo hi (hk : KidsAt w1 lo hi f A1 cap1) hh => specFK_any k n s f A1 cap1 lo hi w1 hk hh HF.out hnd
    have CI := fun w1 A1 cap1 lo hi (hk : KidsAt w1 lo hi f A1 cap1) hh (ht : nv.Tab w1) (hp : Lib.TabIs Tryd.prog w1 "internal/strconv.uint64pow10" .u64 Lib.pow10Tab) => implFK_any k n s f A1 cap1 lo hi w1 hk hh HF.out hnd ht hp
    have CE := fun w1 A1 cap1 lo hi A2 cap2 lo2 hi2 (hk : KidsAt w1 lo hi f A1 cap1) hh (hk2 : KidsAt w1 lo2 hi2 f A2 cap2) hh2 => eqT_any s f s f k n k n A1 A2 cap1 cap2 lo hi lo2 hi2 w1 hk hk2 hh hh2
    rw [eqT_refl] at CE
    generalize hv : (⟨(fkB k n s f).toArray⟩ : ByteArray) = v at *
    have HT' := Lib.hid CT
    have HS := Lib.hid CS
    have HI := Lib.hid CI
    have HE := Lib.hid CE
    clear CT CS CI CE hr hwt hnd hv
    go_enter Tryd.func3, Tryd.ntmps3
    go_wp2_with fail
    refine (H1.out _ (HB1.out _)).mono ?_
    rintro e w2 ⟨rfl, hb⟩
    have hq := (Blk.new w 24 #[.int .i64 k, .int .i64 n, .string s, .slice A f.len cap]).below hb (by simp)
    have hb2 : Below w.heap.size w w2 := (HB1.out _).trans (hb.mono (by simp))
    have hsz2 : w.heap.size < w2.heap.size := by have := hb.size; simp at this; omega
    obtain ⟨a0, a1, a2, a3⟩ := cells4 hq
    have HQ := Lib.hid hq
    have HB2 := Lib.hid hb2
    clear hb hq hb2
    go_wp2_with fail
    refine (HT'.out _ HB2.out).mono ?_
    rintro e w3 ⟨A1, cap1, rfl, hm⟩
    have hm1 := kids_of_made hm
    have HM1 := Lib.hid hm1
    clear hm hm1 a0 a1 a2 a3
    go_wp2_with fail
    refine (HS.out _ _ _ _ _ HM1.out.1 (Nat.le_refl _)).mono ?_
    rintro e w4 ⟨rfl, hb4⟩
    have hb4' := HM1.out.2.trans (hb4.mono HM1.out.2.size)
    have hb4w : Below w.heap.size w w4 := HB2.out.trans (hb4'.mono (by omega))
    have hq4 := HQ.out.below hb4' hsz2
    obtain ⟨a0, a1, a2, a3⟩ := cells4 hq4
    have HQ4 := Lib.hid hq4
    have HB4 := Lib.hid hb4w
    have hsz4 : w.heap.size < w4.heap.size := by have := hb4'.size; omega
    clear hb4 hb4' hb4w hq4 HM1 HQ HB2
    go_wp2_with fail
    refine (HT'.out _ HB4.out).mono ?_
    rintro e w5 ⟨A2, cap2, rfl, hm⟩
    have hm2 := kids_of_made hm
    have hb5 : Below w.heap.size w w5 := HB4.out.trans (hm2.2.mono (by omega))
    have hq5 := HQ4.out.below hm2.2 hsz4
    have hsz5 : w.heap.size < w5.heap.size := by have := hm2.2.size; omega
    have HQ5 := Lib.hid hq5
    have HB5 := Lib.hid hb5
    have HK5 := Lib.hid hm2.1
    clear hm hm2 hb5 hq5 a0 a1 a2 a3 HQ4 HB4
    go_wp2_with fail
    refine (HI.out _ _ _ _ _ (HK5.out.below ((Below.refl _ _).alloc (Nat.le_refl _) _) (Nat.le_refl _)) (by simp) (tab_below HT.out (HB5.out.trans (((Below.refl _ _).alloc (Nat.le_refl _) _).mono (Nat.le_of_lt hsz5))) hlt) (HPT.out _ (HB5.out.trans (((Below.refl _ _).alloc (Nat.le_refl _) _).mono (Nat.le_of_lt hsz5))))).mono ?_
    rintro e w6 ⟨rfl, hb6⟩
    have hq6 := (Blk.new w5 29 #[.int .i64 k, .int .i64 n, .string s, .slice A2 f.len cap2]).below hb6 (by simp)
    have hb56 : Below w5.heap.size w5 w6 := ((Below.refl _ _).alloc (Nat.le_refl _) _).trans (hb6.mono (by simp))
    have hp6 := HQ5.out.below hb56 hsz5
    have hk6 := HK5.out.below hb56 (Nat.le_refl _)
    have hbw6 : Below w.heap.size w w6 := HB5.out.trans (hb56.mono (by omega))
    have hsz6 : w5.heap.size < w6.heap.size := by have := hb6.size; simp at this; omega
    obtain ⟨a0, a1, a2, a3⟩ := cells4 hp6
    obtain ⟨x0, x1, x2, x3⟩ := cells4 hq6
    have HK6 := Lib.hid hk6
    have HB6 := Lib.hid hbw6
    have HQ6 := Lib.hid hq6
    have HP6 := Lib.hid hp6
    have HS6 := Lib.hid hb56.size
    clear hb6 hq6 hb56 hp6 hk6 hbw6
    have tv : (v.toList != v.toList) = false := by simp
    have hal := HS6.out
    go_wp2_with fail
    go_region_held3 (fun w' => w'.cell? ⟨w5.heap.size, 0, none⟩ = some (.int .i64 k) ∧ w'.cell? ⟨w5.heap.size, 1, none⟩ = some (.int .i64 n) ∧ w'.cell? ⟨w5.heap.size, 2, none⟩ = some (.string s) ∧ w'.cell? ⟨w5.heap.size, 3, none⟩ = some (.slice A2 f.len cap2) ∧
        w'.cell? ⟨w.heap.size, 0, none⟩ = some (.int .i64 k) ∧ w'.cell? ⟨w.heap.size, 1, none⟩ = some (.int .i64 n) ∧ w'.cell? ⟨w.heap.size, 2, none⟩ = some (.string s) ∧ w'.cell? ⟨w.heap.size, 3, none⟩ = some (.slice A f.len cap))
      (first | exact ⟨z0, z1, z2, z3, z4, z5, z6, z7⟩ | exact ⟨y0, y1, y2, y3, y4, y5, y6, y7⟩ | exact ⟨x0, x1, x2, x3, a0, a1, a2, a3⟩)
      (first
        | (go_at_call 10
           refine (HT'.out _ HB6.out.drew).mono ?_
           rintro e w7 ⟨A3, cap3, rfl, hm⟩
           have hm7 := kids_of_made hm
           have hd7 : Below w6.heap.size w6 w7 := (Below.refl w6.heap.size w6).drew.trans hm7.2
           obtain ⟨y0, y1, y2, y3⟩ := cells4 (HQ6.out.below hd7 hsz6)
           obtain ⟨y4, y5, y6, y7⟩ := cells4 (HP6.out.below hd7 (by omega))
           have hk7 := HK6.out.below hd7 HS6.out
           have hs7 : w6.heap.size ≤ w7.heap.size := hd7.size
           have hb7 : Below w.heap.size w w7 := HB6.out.trans (hd7.mono (by omega))
           have HM7 := Lib.hid hm7
           have HK7 := Lib.hid hk7
           have HB7 := Lib.hid hb7
           clear hm hm7 hk7 hb7 hd7)
        | (go_at_call 12
           refine (HE.out _ _ _ _ _ _ _ _ _ HK7.out (by omega) HM7.out.1 (Nat.le_refl _)).mono ?_
           rintro e w8 ⟨rfl, hb8⟩
           have HB8 := Lib.hid hb8
           have z0 := (hb8.cell (p := ⟨w5.heap.size, 0, none⟩) (by simp only; omega)).trans y0
           have z1 := (hb8.cell (p := ⟨w5.heap.size, 1, none⟩) (by simp only; omega)).trans y1
           have z2 := (hb8.cell (p := ⟨w5.heap.size, 2, none⟩) (by simp only; omega)).trans y2
           have z3 := (hb8.cell (p := ⟨w5.heap.size, 3, none⟩) (by simp only; omega)).trans y3
           have z4 := (hb8.cell (p := ⟨w.heap.size, 0, none⟩) (by simp only; omega)).trans y4
           have z5 := (hb8.cell (p := ⟨w.heap.size, 1, none⟩) (by simp only; omega)).trans y5
           have z6 := (hb8.cell (p := ⟨w.heap.size, 2, none⟩) (by simp only; omega)).trans y6
           have z7 := (hb8.cell (p := ⟨w.heap.size, 3, none⟩) (by simp only; omega)).trans y7
           clear hb8))
    go_wp2_with fail
    go_ret
    exact ⟨rfl, HB7.out.trans (HB8.out.mono HB7.out.size)⟩
end Go.Proofs.YtlapdnllncoomaaDoor
