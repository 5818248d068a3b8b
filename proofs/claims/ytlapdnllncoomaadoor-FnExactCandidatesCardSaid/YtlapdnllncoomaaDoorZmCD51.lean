/- The law FnExactCandidates, walked. Condition: the arguments lie in memory, both tables and that of powers of ten in their variables. -/
import Derived.Test.YtlapdnllncoomaaDoorProg
import Derived.Test.YtlapdnllncoomaaDoorLawTV0
import Derived.Test.YtlapdnllncoomaaDoorZmCD49
import Derived.Test.YtlapdnllncoomaaDoorZmCD50
import Derived.Deep.RegionHeld3
namespace Go.Proofs.YtlapdnllncoomaaDoor
open Go.RowKit

/-- Behind the call of impl's function: as Ci6, and the copy of the clauses. -/
def Cf (w : World) (cs3 : Array Value) (H8 : Nat) (cs8 : Array Value) (G : List Int) (lw hw h1 : Nat) (vw : Value) (cs : List Cl) (Ax : Option Addr) (Lx : List Nat) (f : Fr) (A1 : Option Addr) (cap1 : Nat) (L1 : List Nat) (lg : Nat) (vg : Value) (wk : World) : Prop :=
  Ci6 w w.heap.size cs3 H8 cs8 G lw hw vw f A1 cap1 L1 lg vg wk ∧ OwnCS wk cs Ax cs.length Lx ∧ Lx.Nodup ∧ (∀ x ∈ Lx, hw ≤ x ∧ x < h1) ∧ (∀ x ∈ L1, h1 ≤ x) ∧ h1 ≤ H8
theorem Cf.below {w : World} {cs3 : Array Value} {H8 : Nat} {cs8 : Array Value} {G : List Int} {lw hw h1 : Nat} {vw : Value} {cs : List Cl} {Ax : Option Addr} {Lx : List Nat} {f : Fr} {A1 : Option Addr} {cap1 : Nat} {L1 : List Nat} {lg : Nat} {vg : Value} {wk wl : World}
    (h : Cf w cs3 H8 cs8 G lw hw h1 vw cs Ax Lx f A1 cap1 L1 lg vg wk) (hb : Below wk.heap.size wk wl) : Cf w cs3 H8 cs8 G lw hw h1 vw cs Ax Lx f A1 cap1 L1 lg vg wl :=
  ⟨h.1.below hb, h.2.1.below hb h.2.1.lt, h.2.2⟩
theorem Cf.rows {w : World} {cs3 : Array Value} {H8 : Nat} {cs8 : Array Value} {G : List Int} {lw hw h1 : Nat} {vw : Value} {cs : List Cl} {Ax : Option Addr} {Lx : List Nat} {f : Fr} {A1 : Option Addr} {cap1 : Nat} {L1 : List Nat} {lg : Nat} {vg : Value} {wk : World}
    (h : Cf w cs3 H8 cs8 G lw hw h1 vw cs Ax Lx f A1 cap1 L1 lg vg wk) : ClS wk 0 wk.heap.size cs Ax cs.length ∧ KidsAt wk 0 wk.heap.size f A1 cap1 :=
  ⟨h.2.1.clauses fun x hx => ⟨Nat.zero_le _, h.2.1.lt x hx⟩, h.1.2.2.2.1.kids fun x hx => ⟨Nat.zero_le _, h.1.2.2.2.1.lt x hx⟩⟩
/-- Behind the marks of the clauses. -/
theorem Cf.mark {w : World} {cs3 : Array Value} {H8 : Nat} {cs8 : Array Value} {G : List Int} {lw hw h1 : Nat} {vw : Value} {cs : List Cl} {Ax : Option Addr} {Lx : List Nat} {f : Fr} {A1 : Option Addr} {cap1 : Nat} {L1 : List Nat} {lg : Nat} {vg : Value} {wk wl : World}
    (h : Cf w cs3 H8 cs8 G lw hw h1 vw cs Ax Lx f A1 cap1 L1 lg vg wk) (hb : Wrote Lx wk wl) : Ci6 w w.heap.size cs3 H8 cs8 G lw hw vw f A1 cap1 L1 lg vg wl := by
  obtain ⟨⟨b0, b6, hk, ho, hg, hw', g1, g2, g3, g4, g5, g6, g7, g8⟩, _, _, hlx, hl1, h1H⟩ := h
  have hgl := hg.lt
  refine ⟨hb.blk b0 fun e => ?_, hb.blk b6 fun e => ?_, hk.keep hb fun x hx e => ?_, ho.wrote hb fun x hx e => ?_, hg.keep hb fun x hx e => ?_, hw'.trans (hb.below hw'.size fun x e => ?_), g1, g2, g3, g4, g5, g6, g7, g8⟩
  · have := (hlx _ e).1; omega
  · have := (hlx _ e).2; omega
  · have := (hlx _ e).1; have := g1 x hx; omega
  · have := (hlx _ e).2; have := hl1 x hx; omega
  · have := (hlx _ e).2; have := (hgl x hx).1; omega
  · have := (hlx _ e).1; omega
theorem ndCs_le : ∀ cs : List Cl, ndCs cs ≤ cs.length + wtCs cs
  | [] => Nat.le_refl _
  | c :: cs => by
    have h1 := ndCs_le cs
    have h2 := wtC_nodes c
    simp only [ndCs, wtCs, List.length_cons, ndC]
    omega

set_option maxRecDepth 100000 in
set_option maxHeartbeats 16000000 in
theorem lawCd_any (cs : List Cl) (A : Option Addr) (cap : Nat) (k n : Int) (s : ByteArray) (f : Fr) (B : Option Addr) (capB : Nat) (w : World) (hk : ClS w 0 w.heap.size cs A cap) (hkb : KidsAt w 0 w.heap.size f B capB) (hf : Fits k n s) (ht : nv.Tab w) (ho : op.OpTab w) (hp : Lib.TabIs Tryd.prog w "internal/strconv.uint64pow10" .u64 Lib.pow10Tab) :
    Calls Tryd.prog 4 #[.slice A cs.length cap, .agg #[.int .i64 k, .int .i64 n, .string s, .slice B f.len capB]] w fun e w' => e = .returned (.bool true) ∧ Below w.heap.size w w' := by
  have hb0 : Below w.heap.size w (w.alloc (.cells #[.int .i64 k, .int .i64 n, .string s, .slice B f.len capB] 24)) := (Below.refl _ _).alloc (Nat.le_refl _) _
  have hr := szCS_range cs 1048576 (by omega)
  have C1 := szCS_any cs A cap 0 w.heap.size 1048576 _ (hk.below hb0 (Nat.le_refl _)) hb0.size (by omega) (by omega)
  generalize szCS cs 1048576 = r at *
  have C2 := fun w1 (hb : Below w.heap.size w w1) (h0 : 0 ≤ r) => szT_any s f k n B capB 0 w.heap.size r w1 (hkb.below hb (Nat.le_refl _)) hb.size hf h0 (by omega)
  have hq0 := Blk.new w 24 #[.int .i64 k, .int .i64 n, .string s, .slice B f.len capB]
  have H1 := Lib.hid C1
  have H2 := Lib.hid C2
  have HK := Lib.hid hk
  have HKB := Lib.hid hkb
  have HT := Lib.hid ht
  have HO := Lib.hid ho
  have HPT := Lib.hid (Lib.tabBelow_of_tabIs hp)
  have HF := Lib.hid hf
  have HB0 := Lib.hid hb0
  have HQ0 := Lib.hid hq0
  have r1 := hr.1
  have r2 := hr.2.1
  clear C1 C2 hk hkb ht ho hf hb0 hq0 hp
  by_cases hneg : r < 0
  · clear hr
    go_enter Tryd.func4, Tryd.ntmps4
    go_wp2_with fail
    refine H1.out.mono ?_
    rintro e w2 ⟨rfl, hb⟩
    have HB := Lib.hid (HB0.out.trans (hb.mono HB0.out.size))
    clear hb
    go_wp2_with fail
    go_ret
    exact ⟨rfl, HB.out⟩
  · have hr2 := szT_range s f r (by omega)
    generalize szT s f r = r' at *
    have q1 := hr2.1
    have q2 := hr2.2.1
    by_cases hneg2 : r' < 0
    · clear hr hr2
      go_enter Tryd.func4, Tryd.ntmps4
      go_wp2_with fail
      refine H1.out.mono ?_
      rintro e w2 ⟨rfl, hb⟩
      have hq := HQ0.out.below hb HQ0.out.lt
      obtain ⟨a0, a1, a2, a3⟩ := cells4 hq
      have HB := Lib.hid (HB0.out.trans (hb.mono HB0.out.size))
      clear hb hq
      go_wp2_with fail
      refine (H2.out _ HB.out (by omega)).mono ?_
      rintro e w3 ⟨rfl, hb⟩
      have HB3 := Lib.hid (HB.out.trans (hb.mono HB.out.size))
      clear hb
      go_wp2_with fail
      go_ret
      exact ⟨rfl, HB3.out⟩
    · have hwt : cs.length + wtCs cs ≤ 1048576 := by have := hr.2.2 (by omega); omega
      have hwtf : s.size + f.len + wt f ≤ 1048576 := by have := hr2.2.2 (by omega); omega
      have hndf : nodes f ≤ 1048576 := by have := nodes_le_wt f; omega
      have hgn : (cdA cs k n s f).length ≤ 1048576 := by have := cdA_len cs k n s f; omega
      have hnc := ndCs_le cs
      have CT0 := fun w1 (hb : Below w.heap.size w w1) => toCS_any cs A cap 0 w.heap.size w1 (HK.out.below hb (Nat.le_refl _)) hb.size hwt
      have CT1 := fun w1 (hb : Below w.heap.size w w1) => toT_any k n s f B capB 0 w.heap.size w1 (HKB.out.below hb (Nat.le_refl _)) hb.size (by omega)
      have CS := fun w1 A1 lo hi A2 cap2 lo2 hi2 (h1 : ClS w1 lo hi cs A1 cs.length) hh (h2 : KidsAt w1 lo2 hi2 f A2 cap2) hh2 => specCd_any cs A1 cs.length lo hi k n s f A2 cap2 lo2 hi2 w1 h1 hh hwt h2 hh2 HF.out hndf
      have CI := fun w1 A1 lo hi A2 cap2 lo2 hi2 (h1 : ClS w1 lo hi cs A1 cs.length) hh (h2 : KidsAt w1 lo2 hi2 f A2 cap2) hh2 (hb : Below w.heap.size w w1) => implCd_any cs A1 cs.length lo hi k n s f A2 cap2 lo2 hi2 w1 h1 hh hwt h2 hh2 HF.out hndf (HT.out.below hb) (HO.out.below hb) (HPT.out _ hb)
      have CE0 := fun w1 A1 lo hi A2 lo2 hi2 (hk : ClS w1 lo hi cs A1 cs.length) hh (hk2 : ClS w1 lo2 hi2 cs A2 cs.length) hh2 => eqCS_any cs A1 A2 cs.length cs.length lo hi lo2 hi2 w1 hk hk2 hh hh2
      have CE1 := fun w1 A1 cap1 lo hi A2 cap2 lo2 hi2 (hk : KidsAt w1 lo hi f A1 cap1) hh (hk2 : KidsAt w1 lo2 hi2 f A2 cap2) hh2 => eqT_any s f s f k n k n A1 A2 cap1 cap2 lo hi lo2 hi2 w1 hk hk2 hh hh2
      rw [eqT_refl] at CE1
      generalize cdA cs k n s f = G at *
      have CG := eqI_any G
      have CM0 := fun (w1 : World) (A1 : Option Addr) (L : List Nat) (ho : OwnCS w1 cs A1 cs.length L) (hn : L.Nodup) => markCS_any cs A1 cs.length 1 L w1 ho hn (by omega) (by omega) (by omega)
      have CM1 := fun (w1 : World) (A1 : Option Addr) (cap1 kk : Nat) (L : List Nat) (ho : OwnS w1 f A1 cap1 L) (hn : L.Nodup) (h0 : 0 < kk) (h1 : kk ≤ 1 + 3 * ndCs cs) => markT_any k n s f A1 cap1 kk L w1 ho hn (by omega) h0
      have CMG : ∀ (v : Value) (base : Nat) (w1 : World), OwnI w1 base v G → Calls Tryd.prog 21 #[v, .int .i64 ((1 : Nat) : Int)] w1 fun e w' => e = .returned (.int .i64 ((1 + G.length : Nat) : Int)) ∧ OwnI w' base v (mkI 1 G.length) ∧ Wrote (ownV v) w1 w' :=
        fun v base w1 ho => markI_any G v base 1 w1 ho (by omega)
      have CHG : ∀ (v : Value) (base : Nat) (w1 : World), OwnI w1 base v (mkI 1 G.length) → Calls Tryd.prog 22 #[v, .int .i64 ((1 : Nat) : Int)] w1 fun e w' => e = .returned (.int .i64 ((1 + G.length : Nat) : Int)) ∧ Below w1.heap.size w1 w' :=
        fun v base w1 ho => heldI_any 1 G.length v base w1 ho (by omega)
      have hmd0 : ∀ w1 A1 w2, MadeC w1 cs A1 cs.length w2 → ClS w2 w1.heap.size w2.heap.size cs A1 cs.length ∧ Below w1.heap.size w1 w2 := fun _ _ _ h => clauses_of_made h
      have hrow : ∀ wk cs3 H8 cs8 lw hw h1 vw Ax Lx A1 cap1 L1 lg vg, Cf w cs3 H8 cs8 G lw hw h1 vw cs Ax Lx f A1 cap1 L1 lg vg wk → ClS wk 0 wk.heap.size cs Ax cs.length ∧ KidsAt wk 0 wk.heap.size f A1 cap1 := fun _ _ _ _ _ _ _ _ _ _ _ _ _ _ _ h => h.rows
      have HT0 := Lib.hid CT0
      have HT1 := Lib.hid CT1
      have HS := Lib.hid CS
      have HI := Lib.hid CI
      have HE0 := Lib.hid CE0
      have HE1 := Lib.hid CE1
      have HG := Lib.hid CG
      have HM0 := Lib.hid CM0
      have HM1 := Lib.hid CM1
      have HMG := Lib.hid CMG
      have HHG := Lib.hid CHG
      have HMD0 := Lib.hid hmd0
      have HROW := Lib.hid hrow
      have tq : ¬ (((1 + G.length : Nat) : Int) < 0) := by omega
      have tm : (((1 + G.length : Nat) : Int) != ((1 + G.length : Nat) : Int)) = false := by simp
      generalize ((1 + G.length : Nat) : Int) = kg at *
      clear CT0 CT1 CS CI CE0 CE1 CG CM0 CM1 CMG CHG hr hr2 hwt hwtf hndf hgn hnc hmd0 hrow
      generalize hn : cs.length = cl at *
      have HN := Lib.hid hn
      clear hn
      go_enter Tryd.func4, Tryd.ntmps4
      go_wp2_with fail
      refine H1.out.mono ?_
      rintro e w2 ⟨rfl, hb⟩
      have hq := HQ0.out.below hb HQ0.out.lt
      obtain ⟨a0, a1, a2, a3⟩ := cells4 hq
      have HQ2 := Lib.hid hq
      have HB2 := Lib.hid (HB0.out.trans (hb.mono HB0.out.size))
      clear hb hq
      go_wp2_with fail
      refine (H2.out _ HB2.out (by omega)).mono ?_
      rintro e w3 ⟨rfl, hb⟩
      have hq := HQ2.out.below hb HQ2.out.lt
      clear a0 a1 a2 a3
      obtain ⟨a0, a1, a2, a3⟩ := cells4 hq
      have HQ3 := Lib.hid hq
      have HB3 := Lib.hid (HB2.out.trans (hb.mono HB2.out.size))
      have hs3 := HQ3.out.lt
      clear hb hq HQ2 HB2 H1 H2
      go_wp2_with fail
      go_region_held3 (fun w' => w'.cell? ⟨w.heap.size, 0, none⟩ = some (.int .i64 k) ∧ w'.cell? ⟨w.heap.size, 1, none⟩ = some (.int .i64 n) ∧ w'.cell? ⟨w.heap.size, 2, none⟩ = some (.string s) ∧ w'.cell? ⟨w.heap.size, 3, none⟩ = some (.slice B f.len capB))
        (first | exact ⟨e0, e1, e2, e3⟩ | exact ⟨d0, d1, d2, d3⟩ | exact ⟨c0, c1, c2, c3⟩ | exact ⟨a0, a1, a2, a3⟩)
        (first
          | (go_at_call 15
             refine (HT0.out _ HB3.out.drew).mono ?_
             rintro e w4 ⟨Ap, rfl, hm⟩
             have hm4 := HMD0.out _ _ _ hm
             have hd4 : Below w3.heap.size w3 w4 := (Below.refl w3.heap.size w3).drew.trans hm4.2
             have hq4 := HQ3.out.below hd4 hs3
             obtain ⟨c0, c1, c2, c3⟩ := cells4 hq4
             have HP4 := Lib.hid hm4.1
             have HQ4 := Lib.hid hq4
             have HS4 := Lib.hid hd4.size
             have HB4 := Lib.hid (HB3.out.trans (hd4.mono HB3.out.size))
             clear hm hm4 hd4 hq4)
          | (go_at_call 10
             refine (HT1.out _ HB4.out).mono ?_
             rintro e w5 ⟨At, capt, rfl, hm⟩
             have hm5 := kids_of_made hm
             have hq5 := HQ4.out.below hm5.2 HQ4.out.lt
             obtain ⟨d0, d1, d2, d3⟩ := cells4 hq5
             have HP5 := Lib.hid (HP4.out.below hm5.2 (Nat.le_refl _))
             have HS5 := Lib.hid hm5.2.size
             have HM5 := Lib.hid hm5.1
             have HQ5 := Lib.hid hq5
             have HB5 := Lib.hid (HB4.out.trans (hm5.2.mono HB4.out.size))
             clear hm hm5 hq5)
          | (go_at_call 14
             refine (HS.out _ _ _ _ _ _ _ _ HP5.out HS5.out HM5.out (Nat.le_refl _)).mono ?_
             rintro e w6 ⟨vw, rfl, how, hb⟩
             have hq6 := HQ5.out.below hb HQ5.out.lt
             obtain ⟨e0, e1, e2, e3⟩ := cells4 hq6
             have hs6 := how.lt
             have HW6 := Lib.hid how
             have HWL6 := Lib.hid hs6
             have HQ6 := Lib.hid hq6
             have HZ6 := Lib.hid hb.size
             have HB6 := Lib.hid (HB5.out.trans (hb.mono HB5.out.size))
             clear hb how hq6 hs6))
      have hs5 : w.heap.size < w5.heap.size := HQ5.out.lt
      clear a0 a1 a2 a3 c0 c1 c2 c3 d0 d1 d2 d3 HP4 HQ4 HS4 HB4 HP5 HS5 HM5 HQ5 HB5 HB3 HQ3
      go_wp2_with fail
      refine (HT0.out _ HB6.out).mono ?_
      rintro e w7 ⟨Ax, rfl, hmx⟩
      obtain ⟨Lx, hox, hnx, hlx, hbx⟩ := hmx
      have hq7 := HQ6.out.below hbx HQ6.out.lt
      clear e0 e1 e2 e3
      obtain ⟨a0, a1, a2, a3⟩ := cells4 hq7
      have HW7 := Lib.hid (HW6.out.below hbx)
      have HX7 := Lib.hid hox
      have HXN := Lib.hid hnx
      have HXL := Lib.hid hlx
      have HZ7 := Lib.hid hbx.size
      have HQ7 := Lib.hid hq7
      have HB7 := Lib.hid (HB6.out.trans (hbx.mono HB6.out.size))
      clear hox hnx hlx hbx hq7 HB6 HQ6 HW6
      go_wp2_with fail
      refine (HT1.out _ HB7.out).mono ?_
      rintro e w8 ⟨A1, cap1, rfl, hm1⟩
      obtain ⟨L1, ho1, hn1, hl1, hb1⟩ := hm1
      have hs8 : w.heap.size < w8.heap.size := by have := hb1.size; have := HQ7.out.lt; omega
      have hb9 : Below w8.heap.size w8 (w8.alloc (.cells #[.int .i64 k, .int .i64 n, .string s, .slice A1 f.len cap1] 29)) := (Below.refl _ _).alloc (Nat.le_refl _) _
      have hb79 : Below w7.heap.size w7 (w8.alloc (.cells #[.int .i64 k, .int .i64 n, .string s, .slice A1 f.len cap1] 29)) := hb1.trans (hb9.mono hb1.size)
      have hx9 := HX7.out.below hb79 HX7.out.lt
      have h19 := ho1.below hb9 ho1.lt
      have hbw9 := HB7.out.trans (hb79.mono HB7.out.size)
      have hcl9 : ClS (w8.alloc (.cells #[.int .i64 k, .int .i64 n, .string s, .slice A1 f.len cap1] 29)) 0 (w8.alloc (.cells #[.int .i64 k, .int .i64 n, .string s, .slice A1 f.len cap1] 29)).heap.size cs Ax cl := hx9.clauses fun x hx => ⟨Nat.zero_le _, hx9.lt x hx⟩
      have hkd9 : KidsAt (w8.alloc (.cells #[.int .i64 k, .int .i64 n, .string s, .slice A1 f.len cap1] 29)) 0 (w8.alloc (.cells #[.int .i64 k, .int .i64 n, .string s, .slice A1 f.len cap1] 29)).heap.size f A1 cap1 := h19.kids fun x hx => ⟨Nat.zero_le _, h19.lt x hx⟩
      have C3 := HI.out _ _ _ _ _ _ _ _ hcl9 (Nat.le_refl _) hkd9 (Nat.le_refl _) hbw9
      have hck0 : ∀ w9 lg vg, Below (w8.alloc (.cells #[.int .i64 k, .int .i64 n, .string s, .slice A1 f.len cap1] 29)).heap.size (w8.alloc (.cells #[.int .i64 k, .int .i64 n, .string s, .slice A1 f.len cap1] 29)) w9 → OwnI w9 lg vg G → lg = (w8.alloc (.cells #[.int .i64 k, .int .i64 n, .string s, .slice A1 f.len cap1] 29)).heap.size →
          Cf w #[.int .i64 k, .int .i64 n, .string s, .slice B f.len capB] w8.heap.size #[.int .i64 k, .int .i64 n, .string s, .slice A1 f.len cap1] G w5.heap.size w6.heap.size w7.heap.size vw cs Ax Lx f A1 cap1 L1 (w8.heap.size + 1) vg w9 := fun w9 lg vg hb hog hlg => by
        have e9 : (w8.alloc (.cells #[.int .i64 k, .int .i64 n, .string s, .slice A1 f.len cap1] 29)).heap.size = w8.heap.size + 1 := by simp
        have hz78 := hb1.size
        have hz6 := HZ6.out
        have hz7 := HZ7.out
        refine ⟨⟨(HQ7.out.below hb79 HQ7.out.lt).below hb (by rw [e9]; omega), (Blk.new w8 _ _).below hb (by simp), (HW7.out.below hb79).below hb, h19.below hb h19.lt, by rw [hlg, e9] at hog; exact hog, hbw9.trans (hb.mono hbw9.size), fun x hx => (HWL6.out x hx).2, fun x hx => ⟨by have := (hl1 x hx).1; omega, (hl1 x hx).2⟩, hn1, Nat.le_refl _, by omega, by omega, by omega, by omega⟩, by rw [HN.out]; exact hx9.below hb hx9.lt, HXN.out, HXL.out, fun x hx => (hl1 x hx).1, by omega⟩
      have HCK0 := Lib.hid hck0
      have HI3 := Lib.hid C3
      clear ho1 hn1 hl1 hb1 hb9 hb79 hx9 h19 hbw9 hcl9 hkd9 C3 hck0 HX7 HXN HXL HW7 HQ7 HB7 a0 a1 a2 a3
      go_wp2_with fail
      refine HI3.out.mono ?_
      rintro e w9 ⟨vg, rfl, hog, hbg⟩
      have hck := HCK0.out _ _ _ hbg hog rfl
      have HCK := Lib.hid hck
      clear hck hog hbg HCK0 HI3 HZ6 HZ7 HWL6
      go_wp2_with fail
      refine (HG.out _ _ _ _ _ HCK.out.1.2.2.2.2.1 HCK.out.1.2.2.1).mono ?_
      rintro e w10 ⟨rfl, hb⟩
      have HCK10 := Lib.hid (HCK.out.below hb)
      clear hb HCK
      go_wp2_with fail
      refine (HT0.out _ HCK10.out.1.2.2.2.2.2.1).mono ?_
      rintro e w11 ⟨A11, rfl, hm⟩
      have hm11 := HMD0.out _ _ _ hm
      have hck11 := HCK10.out.below hm11.2
      have hrw := HROW.out _ _ _ _ _ _ _ _ _ _ _ _ _ _ _ hck11
      have HCK11 := Lib.hid hck11
      have HM11 := Lib.hid hm11.1
      have HR11 := Lib.hid hrw
      clear hm hm11 hck11 HCK10 hrw
      go_wp2_with fail
      refine (HE0.out _ _ _ _ _ _ _ HR11.out.1 (Nat.le_refl _) HM11.out (Nat.le_refl _)).mono ?_
      rintro e w12 ⟨rfl, hb⟩
      have hck12 := HCK11.out.below hb
      obtain ⟨a0, a1, a2, a3⟩ := cells4 hck12.1.1
      obtain ⟨x0, x1, x2, x3⟩ := cells4 hck12.1.2.1
      have hsa := hck12.1.1.lt
      have hsb := hck12.1.2.1.lt
      have HCK12 := Lib.hid hck12
      clear hb hck12 HCK11 HM11 HR11
      go_wp2_with fail
      go_region_held3 (fun w' => w'.cell? ⟨w8.heap.size, 0, none⟩ = some (.int .i64 k) ∧ w'.cell? ⟨w8.heap.size, 1, none⟩ = some (.int .i64 n) ∧ w'.cell? ⟨w8.heap.size, 2, none⟩ = some (.string s) ∧ w'.cell? ⟨w8.heap.size, 3, none⟩ = some (.slice A1 f.len cap1) ∧ w'.cell? ⟨w.heap.size, 0, none⟩ = some (.int .i64 k) ∧ w'.cell? ⟨w.heap.size, 1, none⟩ = some (.int .i64 n) ∧ w'.cell? ⟨w.heap.size, 2, none⟩ = some (.string s) ∧ w'.cell? ⟨w.heap.size, 3, none⟩ = some (.slice B f.len capB))
        (first | exact ⟨z0, z1, z2, z3, z4, z5, z6, z7⟩ | exact ⟨y0, y1, y2, y3, y4, y5, y6, y7⟩ | exact ⟨x0, x1, x2, x3, a0, a1, a2, a3⟩)
        (first
          | (go_at_call 10
             refine (HT1.out _ HCK12.out.1.2.2.2.2.2.1.drew).mono ?_
             rintro e w13 ⟨A3, cap3, rfl, hm⟩
             have hm8 := kids_of_made hm
             have hd8 : Below w12.heap.size w12 w13 := (Below.refl w12.heap.size w12).drew.trans hm8.2
             have hck8 := HCK12.out.below hd8
             obtain ⟨y4, y5, y6, y7⟩ := cells4 hck8.1.1
             obtain ⟨y0, y1, y2, y3⟩ := cells4 hck8.1.2.1
             have HM8 := Lib.hid hm8.1
             have HK8 := Lib.hid (HROW.out _ _ _ _ _ _ _ _ _ _ _ _ _ _ _ hck8).2
             have HCK13 := Lib.hid hck8
             clear hm hm8 hck8 hd8)
          | (go_at_call 12
             refine (HE1.out _ _ _ _ _ _ _ _ _ HK8.out (Nat.le_refl _) HM8.out (Nat.le_refl _)).mono ?_
             rintro e w14 ⟨rfl, hb9⟩
             have hck9 := HCK13.out.below hb9
             obtain ⟨z4, z5, z6, z7⟩ := cells4 hck9.1.1
             obtain ⟨z0, z1, z2, z3⟩ := cells4 hck9.1.2.1
             have HCK14 := Lib.hid hck9
             clear hb9 hck9))
      clear a0 a1 a2 a3 x0 x1 x2 x3 y0 y1 y2 y3 y4 y5 y6 y7 HM8 HK8 HCK13 HCK12
      have hown14 := HCK14.out.2.1
      rw [HN.out] at hown14
      have HOWN14 := Lib.hid hown14
      clear hown14
      go_wp2_with fail
      refine (HM0.out _ _ _ HOWN14.out HCK14.out.2.2.1).mono ?_
      rintro e w15 ⟨⟨kk, rfl, hk0, hk1⟩, hwr⟩
      have hck15 := HCK14.out.mark hwr
      clear z0 z1 z2 z3 z4 z5 z6 z7
      obtain ⟨x0, x1, x2, x3⟩ := cells4 hck15.2.1
      have HCK15 := Lib.hid hck15
      clear hwr hck15 HCK14 HOWN14
      go_wp2_with fail
      refine (HM1.out _ _ _ _ _ HCK15.out.2.2.2.1 HCK15.out.2.2.2.2.2.2.2.2.1 hk0 hk1).mono ?_
      rintro e w16 ⟨rfl, hom, hwr⟩
      have HCK16 := Lib.hid (HCK15.out.mark hwr)
      have tk : ¬ (((kk + 3 * nodes f : Nat) : Int) < 0) := by omega
      generalize ((kk + 3 * nodes f : Nat) : Int) = kf at *
      clear hom hwr HCK15 x0 x1 x2 x3 hk0 hk1
      go_wp2_with fail
      refine (HG.out _ _ _ _ _ HCK16.out.2.2.1 HCK16.out.2.1).mono ?_
      rintro e w17 ⟨rfl, hb⟩
      have HCK17 := Lib.hid (HCK16.out.below hb)
      clear hb HCK16
      go_wp2_with fail
      refine (HMG.out _ _ _ HCK17.out.2.2.1).mono ?_
      rintro e w18 ⟨rfl, hom, hwr⟩
      have HCK18 := Lib.hid (HCK17.out.mark hwr hom)
      clear hom hwr HCK17
      go_wp2_with fail
      refine (HHG.out _ _ _ HCK18.out.2.2.1).mono ?_
      rintro e w19 ⟨rfl, hb⟩
      have hck19 := HCK18.out.below hb
      obtain ⟨a0, a1, a2, a3⟩ := cells4 hck19.1
      have HCK19 := Lib.hid hck19
      clear hb hck19 HCK18
      go_wp2_with fail
      go_region_held3 (fun w' => w'.cell? ⟨w.heap.size, 0, none⟩ = some (.int .i64 k) ∧ w'.cell? ⟨w.heap.size, 1, none⟩ = some (.int .i64 n) ∧ w'.cell? ⟨w.heap.size, 2, none⟩ = some (.string s) ∧ w'.cell? ⟨w.heap.size, 3, none⟩ = some (.slice B f.len capB))
        (first | exact ⟨e0, e1, e2, e3⟩ | exact ⟨d0, d1, d2, d3⟩ | exact ⟨c0, c1, c2, c3⟩ | exact ⟨a0, a1, a2, a3⟩)
        (first
          | (go_at_call 15
             refine (HT0.out _ HCK19.out.2.2.2.drew).mono ?_
             rintro e w20 ⟨Ap, rfl, hm⟩
             have hm4 := HMD0.out _ _ _ hm
             have hd4 : Below w19.heap.size w19 w20 := (Below.refl w19.heap.size w19).drew.trans hm4.2
             have hck20 := HCK19.out.below hd4
             obtain ⟨c0, c1, c2, c3⟩ := cells4 hck20.1
             have HP20 := Lib.hid hm4.1
             have HCK20 := Lib.hid hck20
             clear hm hm4 hd4 hck20)
          | (go_at_call 10
             refine (HT1.out _ HCK20.out.2.2.2).mono ?_
             rintro e w21 ⟨At, capt, rfl, hm⟩
             have hm5 := kids_of_made hm
             have hck21 := HCK20.out.below hm5.2
             obtain ⟨d0, d1, d2, d3⟩ := cells4 hck21.1
             have HP21 := Lib.hid (HP20.out.below hm5.2 (Nat.le_refl _))
             have HS21 := Lib.hid hm5.2.size
             have HM21 := Lib.hid hm5.1
             have HCK21 := Lib.hid hck21
             clear hm hm5 hck21)
          | (go_at_call 16
             refine (HI.out _ _ _ _ _ _ _ _ HP21.out HS21.out HM21.out (Nat.le_refl _) HCK21.out.2.2.2).mono ?_
             rintro e w22 ⟨vh, rfl, hoh, hb⟩
             have hck22 := HCK21.out.below hb
             obtain ⟨e0, e1, e2, e3⟩ := cells4 hck22.1
             have HH22 := Lib.hid hoh
             have HCK22 := Lib.hid hck22
             clear hb hoh hck22))
      clear a0 a1 a2 a3 c0 c1 c2 c3 d0 d1 d2 d3 e0 e1 e2 e3 HP20 HCK20 HP21 HS21 HM21 HCK21 HCK19
      go_wp2_with fail
      refine (HG.out _ _ _ _ _ HH22.out HCK22.out.2.1).mono ?_
      rintro e w23 ⟨rfl, hb⟩
      have HCK23 := Lib.hid (HCK22.out.below hb)
      clear hb HCK22 HH22
      go_wp2_with fail
      refine (HHG.out _ _ _ HCK23.out.2.2.1).mono ?_
      rintro e w24 ⟨rfl, hb⟩
      have HB24 := Lib.hid (HCK23.out.below hb).2.2.2
      clear hb HCK23
      go_wp2_with fail
      go_ret
      exact ⟨rfl, HB24.out⟩
end Go.Proofs.YtlapdnllncoomaaDoor
