/- The law FnExactMakeList, walked. Condition: the arguments lie in memory, the table of signs in its variable. -/
import Derived.Test.YtppnmodemhoebaaDoorProg
import Derived.Test.YtppnmodemhoebaaDoorMakeI
import Derived.Test.YtppnmodemhoebaaDoorHeld
import Derived.Test.YtppnmodemhoebaaDoorLawTV0
import Derived.Test.YtppnmodemhoebaaDoorMl
import Derived.Deep.RegionHeld3
import Derived.Deep.DeepCutAuto
namespace Go.Proofs.YtppnmodemhoebaaDoor
open Go.RowKit

theorem mlF_one (f : Fr) (k n : Int) (s : ByteArray) (kids : Fr) : ∃ gk gn gs gkids, mlF f k n s kids = .cons gk gn gs gkids .nil := by
  unfold mlF
  split
  · exact chain_one f k n s kids
  · exact ⟨_, _, _, _, rfl⟩
theorem mlF_nodes (f : Fr) (k n : Int) (s : ByteArray) (kids : Fr) : nodes (mlF f k n s kids) ≤ nodes f + f.len + nodes kids + 1 := by
  unfold mlF
  split
  · have h := nodes_chain f (.cons k n s kids .nil)
    simp only [nodes] at h
    omega
  · simp [nodes]

set_option maxRecDepth 100000 in
set_option maxHeartbeats 8000000 in
theorem lawML_any (f : Fr) (A : Option Addr) (cap : Nat) (k n : Int) (s : ByteArray) (kids : Fr) (A2 : Option Addr) (cap2 : Nat) (w : World) (hk : KidsAt w 0 w.heap.size f A cap) (hk2 : KidsAt w 0 w.heap.size kids A2 cap2) (hf : Fits k n s) (ht : nv.Tab w) :
    Calls Tryd.prog 6 #[.slice A f.len cap, .agg #[.int .i64 k, .int .i64 n, .string s, .slice A2 kids.len cap2]] w fun e w' => e = .returned (.bool true) ∧ Below w.heap.size w w' := by
  have hlt := tab_lt ht
  have hr := szS_range f 1048576 (by omega)
  have C0 := fun w1 (hb : Below w.heap.size w w1) => szS_any f A cap 0 w.heap.size 1048576 w1 (hk.below hb (Nat.le_refl _)) hb.size (by omega) (by omega)
  generalize szS f 1048576 = r at *
  have r1 := hr.1
  have r2 := hr.2.1
  have hb1 : ∀ o, Below w.heap.size w (w.alloc o) := fun o => (Below.refl _ _).alloc (Nat.le_refl _) _
  have H0 := Lib.hid C0
  have HK := Lib.hid hk
  have HK2 := Lib.hid hk2
  have HT := Lib.hid ht
  have HF := Lib.hid hf
  have HB1 := Lib.hid hb1
  clear C0 hk hk2 ht hf hb1
  by_cases hneg : r < 0
  · clear hr
    go_enter Tryd.func6, Tryd.ntmps6
    go_wp2_with fail
    refine (H0.out _ (HB1.out _)).mono ?_
    rintro e w2 ⟨rfl, hb⟩
    have HB : Hid (Below w.heap.size w w2) := Lib.hid ((HB1.out _).trans (hb.mono (by simp)))
    clear hb
    go_wp2_with fail
    go_ret
    exact ⟨rfl, HB.out⟩
  · have C1 := fun w1 (hb : Below w.heap.size w w1) => szT_any s kids k n A2 cap2 0 w.heap.size r w1 (HK2.out.below hb (Nat.le_refl _)) hb.size HF.out (by omega) (by omega)
    have hr2 := szT_range s kids r (by omega)
    generalize szT s kids r = r' at *
    have q1 := hr2.1
    have q2 := hr2.2.1
    have H1 := Lib.hid C1
    clear C1
    by_cases hneg2 : r' < 0
    · clear hr hr2
      go_enter Tryd.func6, Tryd.ntmps6
      go_wp2_with fail
      refine (H0.out _ (HB1.out _)).mono ?_
      rintro e w2 ⟨rfl, hb⟩
      have hq := (Blk.new w 25 #[.int .i64 k, .int .i64 n, .string s, .slice A2 kids.len cap2]).below hb (by simp)
      have HB : Hid (Below w.heap.size w w2) := Lib.hid ((HB1.out _).trans (hb.mono (by simp)))
      obtain ⟨a0, a1, a2, a3⟩ := cells4 hq
      clear hb hq
      go_wp2_with fail
      refine (H1.out _ HB.out).mono ?_
      rintro e w3 ⟨rfl, hb⟩
      have HB3 : Hid (Below w.heap.size w w3) := Lib.hid (HB.out.trans (hb.mono HB.out.size))
      clear hb
      go_wp2_with fail
      go_ret
      exact ⟨rfl, HB3.out⟩
    · have hw1 : f.len + wt f ≤ 1048576 := by have := hr.2.2 (by omega); omega
      have hw2 : s.size + kids.len + wt kids ≤ 1048576 := by have := hr2.2.2 (by omega); have := hr.2.2 (by omega); omega
      have hw3 : f.len + wt f + kids.len + wt kids ≤ 1048576 := by have := hr2.2.2 (by omega); have := hr.2.2 (by omega); omega
      have hn1 : nodes f ≤ 1048576 := by have := nodes_le_wt f; omega
      have hn2 : nodes kids ≤ 1048576 := by have := nodes_le_wt kids; omega
      obtain ⟨gk, gn, gs, gkids, hG⟩ := mlF_one f k n s kids
      have hgn : nodes gkids ≤ 4194304 := by
        have h := mlF_nodes f k n s kids
        rw [hG] at h
        simp only [nodes] at h
        have := len_le_nodes f
        omega
      have CTS := fun w1 (hb : Below w.heap.size w w1) => toS_any f A cap 0 w.heap.size w1 (HK.out.below hb (Nat.le_refl _)) hb.size hw1
      have CT := fun w1 (hb : Below w.heap.size w w1) => toT_any k n s kids A2 cap2 0 w.heap.size w1 (HK2.out.below hb (Nat.le_refl _)) hb.size (by omega)
      have CS := fun w1 A1 cap1 lo hi (hk : KidsAt w1 lo hi f A1 cap1) hh A3 cap3 lo3 hi3 (hk3 : KidsAt w1 lo3 hi3 kids A3 cap3) hh3 => specMake_any f A1 cap1 k n s kids A3 cap3 lo hi lo3 hi3 w1 hk hh hk3 hh3 HF.out hn1 hn2
      have CI := fun w1 A1 cap1 lo hi (hk : KidsAt w1 lo hi f A1 cap1) hh A3 cap3 lo3 hi3 (hk3 : KidsAt w1 lo3 hi3 kids A3 cap3) hh3 (ht : nv.Tab w1) => implMake_any f A1 cap1 k n s kids A3 cap3 lo hi lo3 hi3 w1 hk hh hk3 hh3 HF.out hn1 hn2 ht
      rw [hG] at CS CI
      generalize mlB f k n s kids = ok at *
      have CS2 : ∀ (w1 : World) A1 cap1 lo hi, KidsAt w1 lo hi f A1 cap1 → hi ≤ w1.heap.size → ∀ A3 cap3 lo3 hi3, KidsAt w1 lo3 hi3 kids A3 cap3 → hi3 ≤ w1.heap.size → Calls Tryd.prog 22 #[.slice A1 f.len cap1, .agg #[.int .i64 k, .int .i64 n, .string s, .slice A3 kids.len cap3]] w1 fun e w' => ∃ Ag cg, e = .returned (.tuple #[.agg #[.int .i64 gk, .int .i64 gn, .string gs, .slice Ag gkids.len cg], .bool ok]) ∧ Made w1 gkids Ag cg w' :=
        fun w1 A1 cap1 lo hi hk hh A3 cap3 lo3 hi3 hk3 hh3 => (CS w1 A1 cap1 lo hi hk hh A3 cap3 lo3 hi3 hk3 hh3).mono fun e w' ⟨k', n', s', kids', A', c', h, he, hm⟩ => by
          injection h with h1 h2 h3 h4 _
          subst h1 h2 h3 h4
          exact ⟨A', c', he, hm⟩
      have CI2 : ∀ (w1 : World) A1 cap1 lo hi, KidsAt w1 lo hi f A1 cap1 → hi ≤ w1.heap.size → ∀ A3 cap3 lo3 hi3, KidsAt w1 lo3 hi3 kids A3 cap3 → hi3 ≤ w1.heap.size → nv.Tab w1 → Calls Tryd.prog 24 #[.slice A1 f.len cap1, .agg #[.int .i64 k, .int .i64 n, .string s, .slice A3 kids.len cap3]] w1 fun e w' => ∃ Ag cg, e = .returned (.tuple #[.agg #[.int .i64 gk, .int .i64 gn, .string gs, .slice Ag gkids.len cg], .bool ok]) ∧ Made w1 gkids Ag cg w' :=
        fun w1 A1 cap1 lo hi hk hh A3 cap3 lo3 hi3 hk3 hh3 ht => (CI w1 A1 cap1 lo hi hk hh A3 cap3 lo3 hi3 hk3 hh3 ht).mono fun e w' ⟨k', n', s', kids', A', c', h, he, hm⟩ => by
          injection h with h1 h2 h3 h4 _
          subst h1 h2 h3 h4
          exact ⟨A', c', he, hm⟩
      have CE := fun w1 A1 cap1 lo hi A3 cap3 lo3 hi3 (hk : KidsAt w1 lo hi kids A1 cap1) hh (hk3 : KidsAt w1 lo3 hi3 kids A3 cap3) hh3 => eqT_any s kids s kids k n k n A1 A3 cap1 cap3 lo hi lo3 hi3 w1 hk hk3 hh hh3
      rw [eqT_refl] at CE
      have CEG := fun w1 A1 cap1 lo hi A3 cap3 lo3 hi3 (hk : KidsAt w1 lo hi gkids A1 cap1) hh (hk3 : KidsAt w1 lo3 hi3 gkids A3 cap3) hh3 => eqT_any gs gkids gs gkids gk gn gk gn A1 A3 cap1 cap3 lo hi lo3 hi3 w1 hk hk3 hh hh3
      rw [eqT_refl] at CEG
      have CEF := fun w1 A1 cap1 lo hi A3 cap3 lo3 hi3 (hk : KidsAt w1 lo hi f A1 cap1) hh (hk3 : KidsAt w1 lo3 hi3 f A3 cap3) hh3 => eqS_any f f A1 A3 cap1 cap3 lo hi lo3 hi3 w1 hk hk3 hh hh3
      rw [eqF_refl] at CEF
      have CM0 : ∀ (w1 : World) (A1 : Option Addr) (cap1 : Nat) (L : List Nat), OwnS w1 f A1 cap1 L → L.Nodup → Calls Tryd.prog 26 #[.slice A1 f.len cap1, .int .i64 ((1 : Nat) : Int)] w1 fun e w' => e = .returned (.int .i64 ((1 + 3 * nodes f : Nat) : Int)) ∧ OwnS w' (markF f 1) A1 cap1 L ∧ Wrote L w1 w' :=
        fun w1 A1 cap1 L ho hn => markS_any f A1 cap1 1 L w1 ho hn (by omega) (by omega)
      have CM1 : ∀ (w1 : World) (A1 : Option Addr) (cap1 : Nat) (L : List Nat), OwnS w1 kids A1 cap1 L → L.Nodup → Calls Tryd.prog 16 #[.agg #[.int .i64 k, .int .i64 n, .string s, .slice A1 kids.len cap1], .int .i64 ((1 + 3 * nodes f : Nat) : Int)] w1 fun e w' => e = .returned (.int .i64 ((1 + 3 * nodes f + 3 * nodes kids : Nat) : Int)) ∧ OwnS w' (markF kids (1 + 3 * nodes f)) A1 cap1 L ∧ Wrote L w1 w' :=
        fun w1 A1 cap1 L ho hn => markT_any k n s kids A1 cap1 (1 + 3 * nodes f) L w1 ho hn (by omega) (by omega)
      have CMG : ∀ (w1 : World) (A1 : Option Addr) (cap1 : Nat) (L : List Nat), OwnS w1 gkids A1 cap1 L → L.Nodup → Calls Tryd.prog 16 #[.agg #[.int .i64 gk, .int .i64 gn, .string gs, .slice A1 gkids.len cap1], .int .i64 ((1 : Nat) : Int)] w1 fun e w' => e = .returned (.int .i64 ((1 + 3 * nodes gkids : Nat) : Int)) ∧ OwnS w' (markF gkids 1) A1 cap1 L ∧ Wrote L w1 w' :=
        fun w1 A1 cap1 L ho hn => markT_any gk gn gs gkids A1 cap1 1 L w1 ho hn (by omega) (by omega)
      have CHG := fun w1 A1 cap1 lo hi hk hh => heldT_any gk gn gs gkids A1 cap1 1 lo hi w1 hk hh (by omega) (by omega)
      have HTS := Lib.hid CTS
      have HT' := Lib.hid CT
      have HS := Lib.hid CS2
      have HI := Lib.hid CI2
      have HE := Lib.hid CE
      have HG := Lib.hid CEG
      have HEF := Lib.hid CEF
      have HM0 := Lib.hid CM0
      have HM1 := Lib.hid CM1
      have HMG := Lib.hid CMG
      have HHG := Lib.hid CHG
      have tok : (ok != ok) = false := by cases ok <;> rfl
      have tk : ¬ (((1 + 3 * nodes f + 3 * nodes kids : Nat) : Int) < 0) := by omega
      have tq : ¬ (((1 + 3 * nodes gkids : Nat) : Int) < 0) := by omega
      have tm : (((1 + 3 * nodes gkids : Nat) : Int) != ((1 + 3 * nodes gkids : Nat) : Int)) = false := by simp
      generalize ((1 + 3 * nodes f + 3 * nodes kids : Nat) : Int) = k2 at *
      generalize ((1 + 3 * nodes f : Nat) : Int) = k1 at *
      generalize ((1 + 3 * nodes gkids : Nat) : Int) = kg at *
      clear CTS CT CS CI CS2 CI2 CE CEG CEF CM0 CM1 CMG CHG hr hr2 hw1 hw2 hw3 hn1 hn2 hgn hG
      go_enter Tryd.func6, Tryd.ntmps6
      go_wp2_with fail
      refine (H0.out _ (HB1.out _)).mono ?_
      rintro e w2 ⟨rfl, hb⟩
      have hq := (Blk.new w 25 #[.int .i64 k, .int .i64 n, .string s, .slice A2 kids.len cap2]).below hb (by simp)
      have hb2 : Below w.heap.size w w2 := (HB1.out _).trans (hb.mono (by simp))
      obtain ⟨a0, a1, a2, a3⟩ := cells4 hq
      have HQ := Lib.hid hq
      have HB2 := Lib.hid hb2
      clear hb hq hb2 H0
      go_wp2_with fail
      refine (H1.out _ HB2.out).mono ?_
      rintro e w3 ⟨rfl, hb⟩
      have hq3 := HQ.out.below hb HQ.out.lt
      have hb3 : Below w.heap.size w w3 := HB2.out.trans (hb.mono HB2.out.size)
      have hsz3 := hq3.lt
      obtain ⟨a0, a1, a2, a3⟩ := cells4 hq3
      have HQ3 := Lib.hid hq3
      have HB3 := Lib.hid hb3
      clear hb hq3 hb3 H1 HQ HB2
      go_wp2_with fail
      go_upto_region 8 with fail
      go_cut [6, 7] (fun u v wx => ∃ (H6 hw : Nat) (Aw : Option Addr) (cw : Nat), u = .pointer (some ⟨H6, 0, none⟩) ∧ v = .bool ok ∧ H6 < wx.heap.size ∧ MlA w w.heap.size H6 hw #[.int .i64 k, .int .i64 n, .string s, .slice A2 kids.len cap2] gk gn gs gkids Aw cw wx)
      case first =>
        have HD0 : Hid (w3.drew.cell? ⟨w.heap.size, 0, none⟩ = some (.int .i64 k) ∧ w3.drew.cell? ⟨w.heap.size, 1, none⟩ = some (.int .i64 n) ∧ w3.drew.cell? ⟨w.heap.size, 2, none⟩ = some (.string s) ∧ w3.drew.cell? ⟨w.heap.size, 3, none⟩ = some (.slice A2 kids.len cap2)) := Lib.hid ⟨a0, a1, a2, a3⟩
        have HA0 : Hid (∀ o : Obj, (w3.alloc o).drew.cell? ⟨w.heap.size, 0, none⟩ = some (.int .i64 k) ∧ (w3.alloc o).drew.cell? ⟨w.heap.size, 1, none⟩ = some (.int .i64 n) ∧ (w3.alloc o).drew.cell? ⟨w.heap.size, 2, none⟩ = some (.string s) ∧ (w3.alloc o).drew.cell? ⟨w.heap.size, 3, none⟩ = some (.slice A2 kids.len cap2)) := Lib.hid fun o => cells4 (HQ3.out.alloc o)
        go_region_held3 (fun w' => w'.cell? ⟨w.heap.size, 0, none⟩ = some (.int .i64 k) ∧ w'.cell? ⟨w.heap.size, 1, none⟩ = some (.int .i64 n) ∧ w'.cell? ⟨w.heap.size, 2, none⟩ = some (.string s) ∧ w'.cell? ⟨w.heap.size, 3, none⟩ = some (.slice A2 kids.len cap2))
          (first | (with_reducible exact ⟨x0, x1, x2, x3⟩) | (with_reducible exact ⟨y0, y1, y2, y3⟩) | (with_reducible exact ⟨z0, z1, z2, z3⟩) | (with_reducible exact cells4 (HQ4.out.alloc _)) | (with_reducible exact cells4 (HQ5.out.alloc _)) | (with_reducible exact cells4 (HQ6.out.alloc _)) | (with_reducible exact ⟨(far4 (by simp; omega) _ _ _ _).trans z0, (far4 (by simp; omega) _ _ _ _).trans z1, (far4 (by simp; omega) _ _ _ _).trans z2, (far4 (by simp; omega) _ _ _ _).trans z3⟩) | (with_reducible exact HD0.out) | (with_reducible exact HA0.out _) | fail)
          (first
            | (go_at_call 23
               refine (HTS.out _ (by first | (with_reducible exact HB3.out.drew) | (with_reducible exact (HB3.out.alloc HB3.out.size _).drew) | fail)).mono ?_
               rintro e w4 ⟨A4, cap4, rfl, hm⟩
               have hm4 := kids_of_made hm
               have hd4 : Below w3.heap.size w3 w4 := by first | (with_reducible exact ((Below.refl w3.heap.size w3).alloc (Nat.le_refl _) _).drew.trans (hm4.2.mono (by simp))) | (with_reducible exact (Below.refl w3.heap.size w3).drew.trans (hm4.2.mono (by simp))) | fail
               have hq4 := HQ3.out.below hd4 hsz3
               have hb4 := HB3.out.trans (hd4.mono HB3.out.size)
               obtain ⟨x0, x1, x2, x3⟩ := cells4 hq4
               have hsz4 := hq4.lt
               have hsz34 := hd4.size
               have HQ4 := Lib.hid hq4
               have HB4 := Lib.hid hb4
               have HK4 := Lib.hid (hm4.1.more (Nat.zero_le _) (Nat.le_refl _))
               try have HA4 := Lib.hid (And.intro ((show Blk (w3.alloc (.cells #[.int .i64 0, .int .i64 0, .string ⟨#[]⟩, .slice none 0 0] 31)).drew w3.heap.size 31 #[.int .i64 0, .int .i64 0, .string ⟨#[]⟩, .slice none 0 0] from Blk.new w3 31 #[.int .i64 0, .int .i64 0, .string ⟨#[]⟩, .slice none 0 0]).below hm4.2 (by simp)) trivial)
               try have hA4l := HA4.out.1.lt
               clear hm hm4 hd4 hq4 hb4)
            | (go_at_call 12
               refine (HT'.out _ (by first | (with_reducible exact HB4.out) | exact HB4.out.alloc HB4.out.size _)).mono ?_
               rintro e w5 ⟨A5, cap5, rfl, hm⟩
               have hm5 := kids_of_made hm
               have hd5 : Below w4.heap.size w4 w5 := by first | (with_reducible exact hm5.2) | exact ((Below.refl w4.heap.size w4).alloc (Nat.le_refl _) _).trans (hm5.2.mono (by simp))
               have hq5 := HQ4.out.below hd5 hsz4
               have hb5 := HB4.out.trans (hd5.mono HB4.out.size)
               have hk45 := HK4.out.below hd5 (Nat.le_refl _)
               obtain ⟨y0, y1, y2, y3⟩ := cells4 hq5
               have hsz5 := hq5.lt
               have hsz45 := hd5.size
               have HQ5 := Lib.hid hq5
               have HB5 := Lib.hid hb5
               have HK45 := Lib.hid hk45
               have HK5 := Lib.hid (hm5.1.more (Nat.zero_le _) (Nat.le_refl _))
               try have HA5 := Lib.hid (And.intro (HA4.out.1.below hd5 HA4.out.1.lt) trivial)
               try have HA5 := Lib.hid (And.intro ((Blk.new w4 31 #[.int .i64 0, .int .i64 0, .string ⟨#[]⟩, .slice none 0 0]).below hm5.2 (by simp)) trivial)
               try have hA5l := HA5.out.1.lt
               clear hm hm5 hq5 hb5 hk45 hd5)
            | (go_at_call 22
               refine (HS.out _ _ _ 0 w4.heap.size (by first | (with_reducible exact HK45.out) | exact HK45.out.below ((Below.refl _ _).alloc (Nat.le_refl _) _) hsz45) (by first | (with_reducible exact hsz45) | (simp; omega)) _ _ 0 w5.heap.size (by first | (with_reducible exact HK5.out) | exact HK5.out.below ((Below.refl _ _).alloc (Nat.le_refl _) _) (Nat.le_refl _)) (by first | (with_reducible exact Nat.le_refl _) | simp)).mono ?_
               rintro e w6 ⟨Aw, cw, rfl, hm⟩
               have hm6 := kids_of_made hm
               have hd6 : Below w5.heap.size w5 w6 := by first | (with_reducible exact hm6.2) | exact ((Below.refl w5.heap.size w5).alloc (Nat.le_refl _) _).trans (hm6.2.mono (by simp))
               have hq6 := HQ5.out.below hd6 hsz5
               have hb6 := HB5.out.trans (hd6.mono HB5.out.size)
               obtain ⟨z0, z1, z2, z3⟩ := cells4 hq6
               have hsz6 := hq6.lt
               have hsz56 := hd6.size
               have HQ6 := Lib.hid hq6
               have HB6 := Lib.hid hb6
               have HW6 := Lib.hid hm6.1
               try have HA6 := Lib.hid (And.intro (HA5.out.1.below hd6 HA5.out.1.lt) trivial)
               try have HA6 := Lib.hid (And.intro ((Blk.new w5 31 #[.int .i64 0, .int .i64 0, .string ⟨#[]⟩, .slice none 0 0]).below hm6.2 (by simp)) trivial)
               clear hm hm6 hq6 hb6 hd6
               try (have tA := HA6.out.1; obtain ⟨d0, d1, d2, d3⟩ := cells4 tA; obtain ⟨f0, f1, f2, f3⟩ := frozen4 tA; clear tA)))
        all_goals
          go_wp2_with fail
          go_meet
        all_goals first
          | (have tf := MlA.late (H := w.heap.size) (cs3 := #[.int .i64 k, .int .i64 n, .string s, .slice A2 kids.len cap2]) (gk := gk) (gn := gn) (gs := gs) HQ6.out HW6.out HB6.out
             with_reducible refine ⟨_, _, Aw, cw, rfl, rfl, ?_, tf⟩
             exact tf.2.1.lt)
          | (have tA := HA6.out.1
             have tf := MlA.fill (gk := gk) (gn := gn) (gs := gs) HQ6.out tA HW6.out (by first | omega | (simp; done) | (simp; omega)) (by omega) HB6.out (by omega)
             with_reducible refine ⟨_, _, Aw, cw, rfl, rfl, ?_, tf⟩
             exact tf.2.1.lt)
          | fail
      case rest =>
        obtain ⟨H6, hw, Aw, cw, rfl, rfl, hH6, hA⟩ := hcut
        have hbc := hA.2.2.2.2
        have hqc := hA.1.lt
        have hhw := hA.2.2.2.1
        have HA := Lib.hid hA
        have HBC := Lib.hid hbc
        clear hA hbc a0 a1 a2 a3 HQ3 HB3
        go_wp2_with fail
        refine (HTS.out _ HBC.out).mono ?_
        rintro e v1 ⟨Ax0, cx0, rfl, hm⟩
        obtain ⟨L0, ho0, hn0, hl0, hb⟩ := hm
        have hA1 := HA.out.below hb
        have hs1 := hb.size
        obtain ⟨a0, a1, a2, a3⟩ := cells4 hA1.1
        have HA1 := Lib.hid hA1
        have HO0 := Lib.hid (And.intro ho0 (And.intro hn0 hl0))
        clear ho0 hn0 hl0 hb hA1 HA HBC
        go_wp2_with fail
        refine (HT'.out _ HA1.out.2.2.2.2).mono ?_
        rintro e v2 ⟨Ax1, cx1, rfl, hm⟩
        obtain ⟨L1, ho1, hn1, hl1, hb⟩ := hm
        have hA2 := HA1.out.below hb
        have hs2 := hb.size
        have ho02 := HO0.out.1.below hb HO0.out.1.lt
        have HA2 := Lib.hid hA2
        have HO02 := Lib.hid ho02
        have HO1 := Lib.hid (And.intro ho1 (And.intro hn1 hl1))
        have hbv : Below v2.heap.size v2 (v2.alloc (.cells #[.int .i64 k, .int .i64 n, .string s, .slice Ax1 kids.len cx1] 31)) := (Below.refl _ _).alloc (Nat.le_refl _) _
        have HBV := Lib.hid hbv
        clear ho1 hn1 hl1 hb hA2 ho02 a0 a1 a2 a3 hbv
        go_wp2_with fail
        refine (HI.out _ _ _ 0 v2.heap.size ((own_kids HO02.out).below HBV.out (Nat.le_refl _)) HBV.out.size _ _ 0 v2.heap.size ((own_kids HO1.out.1).below HBV.out (Nat.le_refl _)) HBV.out.size (tab_below HT.out (HA2.out.below HBV.out).2.2.2.2 hlt)).mono ?_
        rintro e v3 ⟨Ag, cg, rfl, hm⟩
        obtain ⟨Lg, hog, hng, hlg, hb⟩ := hm
        have hb23 : Below v2.heap.size v2 v3 := HBV.out.trans (hb.mono HBV.out.size)
        have hb34 : Below v3.heap.size v3 (v3.alloc (.cells #[.int .i64 gk, .int .i64 gn, .string gs, .slice Ag gkids.len cg] 31)) := (Below.refl _ _).alloc (Nat.le_refl _) _
        have hs3 : v2.heap.size < v3.heap.size := by have := hb.size; simp at this; omega
        have hb24 := hb23.trans (hb34.mono hb23.size)
        have hord : MlOrd w w.heap.size H6 v2.heap.size v3.heap.size wc.heap.size v1.heap.size hw L0 L1 Lg := by
          refine ⟨⟨Nat.le_refl _, hqc⟩, hH6, ⟨by omega, hhw⟩, ⟨hs1, hs2⟩, hs3, HO0.out.2.2, HO1.out.2.2, fun x hx => ?_, HO0.out.2.1, HO1.out.2.1, hng⟩
          have h := hlg x hx
          simp at h
          omega
        have hst : Ml1 w w.heap.size H6 v2.heap.size v3.heap.size hw #[.int .i64 k, .int .i64 n, .string s, .slice A2 kids.len cap2] k n gk gn s gs f kids gkids Ax0 Ax1 Aw Ag cx0 cx1 cw cg L0 L1 Lg (v3.alloc (.cells #[.int .i64 gk, .int .i64 gn, .string gs, .slice Ag gkids.len cg] 31)) :=
          ⟨⟨HA2.out.below hb24, Blk.new v3 _ _⟩, ((Blk.new v2 _ _).below hb (by simp)).alloc _, HO02.out.below hb24 HO02.out.lt, HO1.out.1.below hb24 HO1.out.1.lt, hog.below hb34 hog.lt⟩
        have HORD := Lib.hid hord
        have hsz4 : v3.heap.size < (v3.alloc (.cells #[.int .i64 gk, .int .i64 gn, .string gs, .slice Ag gkids.len cg] 31)).heap.size := by simp
        obtain ⟨g0, g1, g2, g3⟩ := cells4 hst.1.1.2.1
        have HST := Lib.hid hst
        clear hog hng hlg hb hb23 hb34 hb24 hord hst HA1 HO0 HA2 HO02 HO1 HBV
        go_wp2_with fail
        refine (HG.out _ _ _ 0 _ _ _ 0 _ (own_kids HST.out.2.2.2.2) (Nat.le_refl _) HST.out.1.1.2.2.1 HST.out.1.1.2.2.2.1).mono ?_
        rintro e v5 ⟨rfl, hb⟩
        have h5 := HST.out.below hb
        have HST5 := Lib.hid h5
        clear hb h5 HST g0 g1 g2 g3
        go_wp2_with fail
        refine (HTS.out _ HST5.out.1.1.2.2.2.2).mono ?_
        rintro e v6 ⟨A6, c6, rfl, hm⟩
        have hm6 := kids_of_made hm
        have h6 := HST5.out.below hm6.2
        have HM6 := Lib.hid hm6.1
        have HST6 := Lib.hid h6
        clear hm hm6 h6 HST5
        go_wp2_with fail
        refine (HEF.out _ _ _ 0 _ _ _ _ _ (own_kids HST6.out.2.2.1) (Nat.le_refl _) HM6.out (Nat.le_refl _)).mono ?_
        rintro e v7 ⟨rfl, hb⟩
        have h7 := HST6.out.below hb
        obtain ⟨a0, a1, a2, a3⟩ := cells4 h7.1.1.1
        obtain ⟨x0, x1, x2, x3⟩ := cells4 h7.2.1
        have hs7 := h7.1.1.1.lt
        have hs7' := h7.2.1.lt
        have HST7 := Lib.hid h7
        clear hb h7 HST6 HM6
        go_wp2_with fail
        go_region_held3 (fun w' => w'.cell? ⟨v2.heap.size, 0, none⟩ = some (.int .i64 k) ∧ w'.cell? ⟨v2.heap.size, 1, none⟩ = some (.int .i64 n) ∧ w'.cell? ⟨v2.heap.size, 2, none⟩ = some (.string s) ∧ w'.cell? ⟨v2.heap.size, 3, none⟩ = some (.slice Ax1 kids.len cx1) ∧ w'.cell? ⟨w.heap.size, 0, none⟩ = some (.int .i64 k) ∧ w'.cell? ⟨w.heap.size, 1, none⟩ = some (.int .i64 n) ∧ w'.cell? ⟨w.heap.size, 2, none⟩ = some (.string s) ∧ w'.cell? ⟨w.heap.size, 3, none⟩ = some (.slice A2 kids.len cap2))
          (first | exact ⟨z0, z1, z2, z3, z4, z5, z6, z7⟩ | exact ⟨y0, y1, y2, y3, y4, y5, y6, y7⟩ | exact ⟨x0, x1, x2, x3, a0, a1, a2, a3⟩)
          (first
            | (go_at_call 12
               refine (HT'.out _ HST7.out.1.1.2.2.2.2.drew).mono ?_
               rintro e v8 ⟨A3, cap3, rfl, hm⟩
               have hm8 := kids_of_made hm
               have hd8 : Below v7.heap.size v7 v8 := (Below.refl v7.heap.size v7).drew.trans hm8.2
               have h8 := HST7.out.below hd8
               obtain ⟨y4, y5, y6, y7⟩ := cells4 h8.1.1.1
               obtain ⟨y0, y1, y2, y3⟩ := cells4 h8.2.1
               have HM8 := Lib.hid hm8
               have HST8 := Lib.hid h8
               clear hm hm8 h8 hd8)
            | (go_at_call 15
               refine (HE.out _ _ _ 0 _ _ _ _ _ (own_kids HST8.out.2.2.2.1) (Nat.le_refl _) HM8.out.1 (Nat.le_refl _)).mono ?_
               rintro e v9 ⟨rfl, hb9⟩
               have h9 := HST8.out.below hb9
               obtain ⟨z4, z5, z6, z7⟩ := cells4 h9.1.1.1
               obtain ⟨z0, z1, z2, z3⟩ := cells4 h9.2.1
               have HST9 := Lib.hid h9
               clear hb9 h9))
        clear a0 a1 a2 a3 x0 x1 x2 x3 y0 y1 y2 y3 y4 y5 y6 y7 z0 z1 z2 z3 z4 z5 z6 z7 HM8 HST8 HST7
        go_wp2_with fail
        refine (HM0.out _ _ _ _ HST9.out.2.2.1 HORD.out.2.2.2.2.2.2.2.2.1).mono ?_
        rintro e v10 ⟨rfl, hom, hwr⟩
        have h10 := HST9.out.mark HORD.out hwr
        obtain ⟨x0, x1, x2, x3⟩ := cells4 h10.2.1
        have HST10 := Lib.hid h10
        clear hom hwr h10 HST9
        go_wp2_with fail
        refine (HM1.out _ _ _ _ HST10.out.2.2.1 HORD.out.2.2.2.2.2.2.2.2.2.1).mono ?_
        rintro e v11 ⟨rfl, hom, hwr⟩
        have h11 := HST10.out.mark HORD.out hwr
        obtain ⟨x0, x1, x2, x3⟩ := cells4 h11.1.2
        obtain ⟨g0, g1, g2, g3⟩ := cells4 h11.1.1.2.1
        have HST11 := Lib.hid h11
        clear hom hwr h11 HST10
        go_wp2_with fail
        refine (HG.out _ _ _ 0 _ _ _ 0 _ (own_kids HST11.out.2) (Nat.le_refl _) HST11.out.1.1.2.2.1 HST11.out.1.1.2.2.2.1).mono ?_
        rintro e v12 ⟨rfl, hb⟩
        have h12 := HST11.out.below hb
        obtain ⟨x0, x1, x2, x3⟩ := cells4 h12.1.2
        have HST12 := Lib.hid h12
        clear hb h12 HST11 g0 g1 g2 g3
        go_wp2_with fail
        refine (HMG.out _ _ _ _ HST12.out.2 HORD.out.2.2.2.2.2.2.2.2.2.2).mono ?_
        rintro e v13 ⟨rfl, hom, hwr⟩
        have h13 := HST12.out.mark HORD.out hwr hom
        obtain ⟨x0, x1, x2, x3⟩ := cells4 h13.1.2
        have HST13 := Lib.hid h13
        clear hom hwr h13 HST12
        go_wp2_with fail
        refine (HHG.out _ _ _ _ _ HST13.out.2.1 HST13.out.2.2).mono ?_
        rintro e v14 ⟨rfl, hb⟩
        have h14 := HST13.out.below hb
        obtain ⟨a0, a1, a2, a3⟩ := cells4 h14.1.1.1
        have HQ3 := Lib.hid h14.1.1.1
        have HB3 := Lib.hid h14.1.1.2.2.2.2
        have hsz3 := h14.1.1.1.lt
        have HST14 := Lib.hid h14
        clear hb h14 HST13 x0 x1 x2 x3
        obtain ⟨wA, rfl⟩ : ∃ x : World, x = wc := ⟨_, rfl⟩
        go_upto_region 31 with fail
        go_cut [15, 16] (fun u v wx => ∃ (H6 hw : Nat) (Aw : Option Addr) (cw : Nat), u = .pointer (some ⟨H6, 0, none⟩) ∧ v = .bool ok ∧ H6 < wx.heap.size ∧ Below v14.heap.size v14 wx ∧ MlA w w.heap.size H6 hw #[.int .i64 k, .int .i64 n, .string s, .slice A2 kids.len cap2] gk gn gs gkids Aw cw wx)
        case first =>
          have HD0 : Hid (v14.drew.cell? ⟨w.heap.size, 0, none⟩ = some (.int .i64 k) ∧ v14.drew.cell? ⟨w.heap.size, 1, none⟩ = some (.int .i64 n) ∧ v14.drew.cell? ⟨w.heap.size, 2, none⟩ = some (.string s) ∧ v14.drew.cell? ⟨w.heap.size, 3, none⟩ = some (.slice A2 kids.len cap2)) := Lib.hid ⟨a0, a1, a2, a3⟩
          have HA0 : Hid (∀ o : Obj, (v14.alloc o).drew.cell? ⟨w.heap.size, 0, none⟩ = some (.int .i64 k) ∧ (v14.alloc o).drew.cell? ⟨w.heap.size, 1, none⟩ = some (.int .i64 n) ∧ (v14.alloc o).drew.cell? ⟨w.heap.size, 2, none⟩ = some (.string s) ∧ (v14.alloc o).drew.cell? ⟨w.heap.size, 3, none⟩ = some (.slice A2 kids.len cap2)) := Lib.hid fun o => cells4 (HQ3.out.alloc o)
          go_region_held3 (fun w' => w'.cell? ⟨w.heap.size, 0, none⟩ = some (.int .i64 k) ∧ w'.cell? ⟨w.heap.size, 1, none⟩ = some (.int .i64 n) ∧ w'.cell? ⟨w.heap.size, 2, none⟩ = some (.string s) ∧ w'.cell? ⟨w.heap.size, 3, none⟩ = some (.slice A2 kids.len cap2))
            (first | (with_reducible exact ⟨x0, x1, x2, x3⟩) | (with_reducible exact ⟨y0, y1, y2, y3⟩) | (with_reducible exact ⟨z0, z1, z2, z3⟩) | (with_reducible exact cells4 (HQ4.out.alloc _)) | (with_reducible exact cells4 (HQ5.out.alloc _)) | (with_reducible exact cells4 (HQ6.out.alloc _)) | (with_reducible exact ⟨(far4 (by simp; omega) _ _ _ _).trans z0, (far4 (by simp; omega) _ _ _ _).trans z1, (far4 (by simp; omega) _ _ _ _).trans z2, (far4 (by simp; omega) _ _ _ _).trans z3⟩) | (with_reducible exact HD0.out) | (with_reducible exact HA0.out _) | fail)
            (first
              | (go_at_call 23
                 refine (HTS.out _ (by first | (with_reducible exact HB3.out.drew) | (with_reducible exact (HB3.out.alloc HB3.out.size _).drew) | fail)).mono ?_
                 rintro e y4 ⟨A4, cap4, rfl, hm⟩
                 have hm4 := kids_of_made hm
                 have hd4 : Below v14.heap.size v14 y4 := by first | (with_reducible exact ((Below.refl v14.heap.size v14).alloc (Nat.le_refl _) _).drew.trans (hm4.2.mono (by simp))) | (with_reducible exact (Below.refl v14.heap.size v14).drew.trans (hm4.2.mono (by simp))) | fail
                 have hq4 := HQ3.out.below hd4 hsz3
                 have hb4 := HB3.out.trans (hd4.mono HB3.out.size)
                 obtain ⟨x0, x1, x2, x3⟩ := cells4 hq4
                 have hsz4 := hq4.lt
                 have hsz34 := hd4.size
                 have HD4 := Lib.hid hd4
                 have HQ4 := Lib.hid hq4
                 have HB4 := Lib.hid hb4
                 have HK4 := Lib.hid (hm4.1.more (Nat.zero_le _) (Nat.le_refl _))
                 try have HA4 := Lib.hid (And.intro ((show Blk (v14.alloc (.cells #[.int .i64 0, .int .i64 0, .string ⟨#[]⟩, .slice none 0 0] 31)).drew v14.heap.size 31 #[.int .i64 0, .int .i64 0, .string ⟨#[]⟩, .slice none 0 0] from Blk.new v14 31 #[.int .i64 0, .int .i64 0, .string ⟨#[]⟩, .slice none 0 0]).below hm4.2 (by simp)) trivial)
                 try have hA4l := HA4.out.1.lt
                 clear hm hm4 hd4 hq4 hb4)
              | (go_at_call 12
                 refine (HT'.out _ (by first | (with_reducible exact HB4.out) | exact HB4.out.alloc HB4.out.size _)).mono ?_
                 rintro e y5 ⟨A5, cap5, rfl, hm⟩
                 have hm5 := kids_of_made hm
                 have hd5 : Below y4.heap.size y4 y5 := by first | (with_reducible exact hm5.2) | exact ((Below.refl y4.heap.size y4).alloc (Nat.le_refl _) _).trans (hm5.2.mono (by simp))
                 have hq5 := HQ4.out.below hd5 hsz4
                 have hb5 := HB4.out.trans (hd5.mono HB4.out.size)
                 have hk45 := HK4.out.below hd5 (Nat.le_refl _)
                 obtain ⟨y0, y1, y2, y3⟩ := cells4 hq5
                 have hsz5 := hq5.lt
                 have hsz45 := hd5.size
                 have HD5 : Hid (Below v14.heap.size v14 y5) := Lib.hid (HD4.out.trans (hd5.mono HD4.out.size))
                 have HQ5 := Lib.hid hq5
                 have HB5 := Lib.hid hb5
                 have HK45 := Lib.hid hk45
                 have HK5 := Lib.hid (hm5.1.more (Nat.zero_le _) (Nat.le_refl _))
                 try have HA5 := Lib.hid (And.intro (HA4.out.1.below hd5 HA4.out.1.lt) trivial)
                 try have HA5 := Lib.hid (And.intro ((Blk.new y4 31 #[.int .i64 0, .int .i64 0, .string ⟨#[]⟩, .slice none 0 0]).below hm5.2 (by simp)) trivial)
                 try have hA5l := HA5.out.1.lt
                 clear hm hm5 hq5 hb5 hk45 hd5)
              | (go_at_call 24
                 refine (HI.out _ _ _ 0 y4.heap.size (by first | (with_reducible exact HK45.out) | exact HK45.out.below ((Below.refl _ _).alloc (Nat.le_refl _) _) hsz45) (by first | (with_reducible exact hsz45) | (simp; omega)) _ _ 0 y5.heap.size (by first | (with_reducible exact HK5.out) | exact HK5.out.below ((Below.refl _ _).alloc (Nat.le_refl _) _) (Nat.le_refl _)) (by first | (with_reducible exact Nat.le_refl _) | simp) (tab_below HT.out (by first | (with_reducible exact HB5.out) | (with_reducible exact HB5.out.alloc HB5.out.size _) | fail) hlt)).mono ?_
                 rintro e y6 ⟨Ah, ch, rfl, hm⟩
                 have hm6 := kids_of_made hm
                 have hd6 : Below y5.heap.size y5 y6 := by first | (with_reducible exact hm6.2) | exact ((Below.refl y5.heap.size y5).alloc (Nat.le_refl _) _).trans (hm6.2.mono (by simp))
                 have hq6 := HQ5.out.below hd6 hsz5
                 have hb6 := HB5.out.trans (hd6.mono HB5.out.size)
                 obtain ⟨z0, z1, z2, z3⟩ := cells4 hq6
                 have hsz6 := hq6.lt
                 have hsz56 := hd6.size
                 have HD6 : Hid (Below v14.heap.size v14 y6) := Lib.hid (HD5.out.trans (hd6.mono HD5.out.size))
                 have HQ6 := Lib.hid hq6
                 have HB6 := Lib.hid hb6
                 have HW6 := Lib.hid hm6.1
                 try have HA6 := Lib.hid (And.intro (HA5.out.1.below hd6 HA5.out.1.lt) trivial)
                 try have HA6 := Lib.hid (And.intro ((Blk.new y5 31 #[.int .i64 0, .int .i64 0, .string ⟨#[]⟩, .slice none 0 0]).below hm6.2 (by simp)) trivial)
                 clear hm hm6 hq6 hb6 hd6
                 try (have tA := HA6.out.1; obtain ⟨d0, d1, d2, d3⟩ := cells4 tA; obtain ⟨f0, f1, f2, f3⟩ := frozen4 tA; clear tA)))
          all_goals
            go_wp2_with fail
            go_meet
          all_goals first
            | (have tf := MlA.late (H := w.heap.size) (cs3 := #[.int .i64 k, .int .i64 n, .string s, .slice A2 kids.len cap2]) (gk := gk) (gn := gn) (gs := gs) HQ6.out HW6.out HB6.out
               with_reducible refine ⟨_, _, Ah, ch, rfl, rfl, ?_, ?_, tf⟩
               · exact tf.2.1.lt
               · exact HD6.out.alloc HD6.out.size _)
            | (have tA := HA6.out.1
               have tf := MlA.fill (gk := gk) (gn := gn) (gs := gs) HQ6.out tA HW6.out (by first | omega | (simp; done) | (simp; omega)) (by omega) HB6.out (by omega)
               with_reducible refine ⟨_, _, Ah, ch, rfl, rfl, ?_, ?_, tf⟩
               · exact tf.2.1.lt
               · exact (((HD6.out.setCell (by first | omega | (dsimp only; omega) | (simp; omega)) _).setCell (by first | omega | (dsimp only; omega) | (simp; omega)) _).setCell (by first | omega | (dsimp only; omega) | (simp; omega)) _).setCell (by first | omega | (dsimp only; omega) | (simp; omega)) _)
            | fail
        case rest =>
          obtain ⟨H15, hh, Ah, ch, rfl, rfl, hH15, hbx, hA15⟩ := hcut
          have h15 := HST14.out.below hbx
          obtain ⟨g0, g1, g2, g3⟩ := cells4 h15.1.1.2.1
          obtain ⟨x0, x1, x2, x3⟩ := cells4 hA15.2.1
          have HST15 := Lib.hid h15
          have HA15 := Lib.hid hA15
          clear hbx hA15 h15 HST14 a0 a1 a2 a3 HQ3 HB3
          go_wp2_with fail
          refine (HG.out _ _ _ 0 _ _ _ 0 _ HA15.out.2.2.1 HA15.out.2.2.2.1 HST15.out.1.1.2.2.1 HST15.out.1.1.2.2.2.1).mono ?_
          rintro e v16 ⟨rfl, hb⟩
          have h16 := HST15.out.below hb
          obtain ⟨x0, x1, x2, x3⟩ := cells4 h16.1.2
          have HST16 := Lib.hid h16
          clear hb h16 HST15 HA15 g0 g1 g2 g3
          go_wp2_with fail
          refine (HHG.out _ _ _ _ _ HST16.out.2.1 HST16.out.2.2).mono ?_
          rintro e v17 ⟨rfl, hb⟩
          have HB17 := Lib.hid (HST16.out.below hb).1.1.2.2.2.2
          clear hb HST16 x0 x1 x2 x3
          go_wp2_with fail
          go_ret
          exact ⟨rfl, HB17.out⟩
end Go.Proofs.YtppnmodemhoebaaDoor
