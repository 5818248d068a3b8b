/- laws.eqClause, eqClauseS of equal clauses; markClause, heldClause; markClauseS. Condition: the clauses lie in memory (mark: the call owns them). -/
import Derived.Test.YtmgfndgmebignaaGreatDoorProg
import Derived.Test.YtmgfndgmebignaaGreatDoorZmFQ50
import Derived.Test.YtmgfndgmebignaaGreatDoorEq
import Derived.Test.YtmgfndgmebignaaGreatDoorZmFQ51
import Derived.Test.YtmgfndgmebignaaGreatDoorZmFQ49
namespace Go.Proofs.YtmgfndgmebignaaGreatDoor
open Go.RowKit

set_option maxRecDepth 100000 in
set_option maxHeartbeats 1000000 in
/-- laws.eqClause of equal clauses. -/
theorem eqC_any (c : Cl) (A B A' B' : Option Addr) (cap capB cap' capB' lo hi lo' hi' : Nat) (w : World) (hk : KidsAt w lo hi c.kids A cap) (hb : KidsAt w lo hi c.body B capB) (hk' : KidsAt w lo' hi' c.kids A' cap') (hb' : KidsAt w lo' hi' c.body B' capB') (hh : hi ≤ w.heap.size) (hh' : hi' ≤ w.heap.size) :
    Calls Tryz.prog 12 #[.agg #[.int .i64 c.k, .int .i64 c.n, .string c.s, .slice A c.kids.len cap, .slice B c.body.len capB], .agg #[.int .i64 c.k, .int .i64 c.n, .string c.s, .slice A' c.kids.len cap', .slice B' c.body.len capB']] w fun e w' => e = .returned (.bool true) ∧ Below w.heap.size w w' := by
  obtain ⟨k, n, s, f, g⟩ := c
  simp only at *
  have C1 := fun w1 (hb : Below w.heap.size w w1) => eqT_any s f s f k n k n A A' cap cap' lo hi lo' hi' w1 (hk.below hb hh) (hk'.below hb hh') (Nat.le_trans hh hb.size) (Nat.le_trans hh' hb.size)
  rw [eqT_refl] at C1
  have C2 := fun w1 (hq : Below w.heap.size w w1) => eqS_any g g B B' capB capB' lo hi lo' hi' w1 (hb.below hq hh) (hb'.below hq hh') (Nat.le_trans hh hq.size) (Nat.le_trans hh' hq.size)
  rw [eqF_refl] at C2
  have H1 := Lib.hid C1
  have H2 := Lib.hid C2
  have HT := Lib.hid (two_alloc w (.cells #[.int .i64 k, .int .i64 n, .string s, .slice A f.len cap, .slice B g.len capB] 33) (.cells #[.int .i64 k, .int .i64 n, .string s, .slice A' f.len cap', .slice B' g.len capB'] 33))
  have hq0 := (Blk.new w 33 #[.int .i64 k, .int .i64 n, .string s, .slice A f.len cap, .slice B g.len capB]).alloc (.cells #[.int .i64 k, .int .i64 n, .string s, .slice A' f.len cap', .slice B' g.len capB'] 33)
  have hq1 := Blk.new (w.alloc (.cells #[.int .i64 k, .int .i64 n, .string s, .slice A f.len cap, .slice B g.len capB] 33)) 33 #[.int .i64 k, .int .i64 n, .string s, .slice A' f.len cap', .slice B' g.len capB']
  have HQ0 := Lib.hid hq0
  have HQ1 := Lib.hid hq1
  clear C1 C2 hk hk' hb hb' hh hh' hq0 hq1
  generalize f.len = fl at *
  generalize g.len = gl at *
  go_enter Tryz.func12, Tryz.ntmps12
  go_wp2_with fail
  refine (H1.out _ HT.out).mono ?_
  rintro e w2 ⟨rfl, hb⟩
  have a4 := (HQ0.out.below hb HQ0.out.lt).cell 4
  have b4 := (HQ1.out.below hb HQ1.out.lt).cell 4
  have e9 : ∀ o : Obj, (w.alloc o).heap.size = w.heap.size + 1 := fun o => by simp
  rw [e9] at b4
  simp only [List.getElem?_toArray, List.getElem?_cons_zero, List.getElem?_cons_succ] at a4 b4
  clear e9
  have HB := Lib.hid (HT.out.trans (hb.mono HT.out.size))
  clear hb
  go_wp2_with fail
  refine (H2.out _ HB.out).mono ?_
  rintro e w3 ⟨rfl, hb⟩
  have HB3 := Lib.hid (HB.out.trans (hb.mono HB.out.size))
  clear hb
  go_wp2_with fail
  go_ret
  exact ⟨rfl, HB3.out⟩

set_option maxRecDepth 100000 in
set_option maxHeartbeats 2000000 in
/-- laws.eqClauseS of equal rows. -/
theorem eqCS_any (cs : List Cl) (A B : Option Addr) (cap cap' lo hi lo' hi' : Nat) (w : World) (hk : ClS w lo hi cs A cap) (hk' : ClS w lo' hi' cs B cap') (hh : hi ≤ w.heap.size) (hh' : hi' ≤ w.heap.size) :
    Calls Tryz.prog 17 #[.slice A cs.length cap, .slice B cs.length cap'] w fun e w' => e = .returned (.bool true) ∧ Below w.heap.size w w' := by
  have HK := Lib.hid hk
  have HK' := Lib.hid hk'
  have HHI := Lib.hid hh
  have HHI' := Lib.hid hh'
  have hl := hk.1
  have hm := hk.2.1
  unfold maxLen at hm
  clear hk hk' hh hh'
  generalize hn : cs.length = len at *
  have HN := Lib.hid hn
  clear hn
  have t0 : ((len : Int) != (len : Int)) = false := by simp
  go_enter Tryz.func17, Tryz.ntmps17
  go_wp2_with fail
  go_loopw [5] (fun i wr => ∃ (k : Nat), k ≤ len ∧ i = .int .i64 k ∧ Below w.heap.size w wr) (fun i _ => len - (intOf i).toNat)
  case atStart => exact ⟨0, Nat.zero_le _, rfl, Below.refl _ _⟩
  case round =>
    obtain ⟨k, hk, rfl, hb⟩ := hrel
    by_cases hlt : k < len
    · obtain ⟨c, hd⟩ := drop_cl cs k (by rw [HN.out]; exact hlt)
      obtain ⟨b, o, rfl, hlb, hbb, hrow⟩ := HK.out.2.2 (by rw [HN.out]; omega)
      obtain ⟨b', o', rfl, hlb', hbb', hrow'⟩ := HK'.out.2.2 (by rw [HN.out]; omega)
      obtain ⟨_, A', cp, A2, cp2, c0, c1, c2, c3, c4, hkid, hbd⟩ := ClAt.elem k cs b o hrow hd
      obtain ⟨_, B', cp', B2, cp2', c0', c1', c2', c3', c4', hkid', hbd'⟩ := ClAt.elem k cs b' o' hrow' hd
      have hlo : (⟨b, o, none⟩ : Addr).block < w.heap.size := Nat.lt_of_lt_of_le hbb HHI.out
      have hlo' : (⟨b', o', none⟩ : Addr).block < w.heap.size := Nat.lt_of_lt_of_le hbb' HHI'.out
      have k0 := (hb.cell (p := ⟨b, o + k * 5, none⟩) hlo).trans c0
      have k1 := (hb.cell (p := ⟨b, o + k * 5 + 1, none⟩) hlo).trans c1
      have k2 := (hb.cell (p := ⟨b, o + k * 5 + 2, none⟩) hlo).trans c2
      have k3 := (hb.cell (p := ⟨b, o + k * 5 + 3, none⟩) hlo).trans c3
      have k4 := (hb.cell (p := ⟨b, o + k * 5 + 4, none⟩) hlo).trans c4
      have j0 := (hb.cell (p := ⟨b', o' + k * 5, none⟩) hlo').trans c0'
      have j1 := (hb.cell (p := ⟨b', o' + k * 5 + 1, none⟩) hlo').trans c1'
      have j2 := (hb.cell (p := ⟨b', o' + k * 5 + 2, none⟩) hlo').trans c2'
      have j3 := (hb.cell (p := ⟨b', o' + k * 5 + 3, none⟩) hlo').trans c3'
      have j4 := (hb.cell (p := ⟨b', o' + k * 5 + 4, none⟩) hlo').trans c4'
      have C1 : ∀ w1, Below wr.heap.size wr w1 → _ := fun w1 hb1 =>
        have hb2 := hb.trans (hb1.mono hb.size)
        eqC_any c A' A2 B' B2 cp cp2 cp' cp2' lo hi lo' hi' w1 (hkid.below hb2 HHI.out) (hbd.below hb2 HHI.out) (hkid'.below hb2 HHI'.out) (hbd'.below hb2 HHI'.out) (Nat.le_trans HHI.out hb2.size) (Nat.le_trans HHI'.out hb2.size)
      have H1 := Lib.hid C1
      have HB := Lib.hid hb
      clear C1 hb c0 c1 c2 c3 c4 c0' c1' c2' c3' c4' hkid hkid' hbd hbd' hrow hrow' hd hlo hlo'
      obtain ⟨ck, cn, csx, ckids, cbody⟩ := c
      simp only at *
      go_wp2_with fail
      go_still_tail 8, (by kernel_rfl)
      change wpList _ _ _ _ _ wr.drew
      have hbd : Below wr.heap.size wr wr.drew := (Below.refl _ _).drew
      generalize wr.drew = w2 at hbd ⊢
      have HD := Lib.hid hbd
      clear hbd k0 k1 k2 k3 k4 j0 j1 j2 j3 j4
      go_wp2_with fail
      refine (H1.out _ HD.out).mono ?_
      rintro e w3 ⟨rfl, hb3⟩
      have HB3 := Lib.hid hb3
      clear hb3
      go_wp2_with fail
      go_roundw
      case rel => exact ⟨k + 1, by omega, by go_num, (HB.out.trans (HD.out.mono HB.out.size)).trans (HB3.out.mono (Nat.le_trans HB.out.size HD.out.size))⟩
      case measure => simp [intOf]; omega
    · obtain rfl : k = len := by omega
      have HB := Lib.hid hb
      clear hb
      go_wp2_with fail
      go_ret
      exact ⟨rfl, HB.out⟩

def ndC (c : Cl) : Nat := nodes c.kids + nodes c.body
def ndCs : List Cl → Nat
  | [] => 0
  | c :: cs => 1 + ndC c + ndCs cs
/-- The clause, its rows marked from k on: the head's row, then the body's. -/
def markC (c : Cl) (k : Nat) : Cl := ⟨c.k, c.n, c.s, markF c.kids k, markF c.body (k + 3 * nodes c.kids)⟩
/-- The blocks of a clause whose rows a call made. -/
def OwnCl (w : World) (c : Cl) (A : Option Addr) (cap : Nat) (B : Option Addr) (capB : Nat) (L1 L2 : List Nat) : Prop := OwnS w c.kids A cap L1 ∧ OwnS w c.body B capB L2 ∧ (L1 ++ L2).Nodup
set_option maxRecDepth 100000 in
set_option maxHeartbeats 1000000 in
/-- laws.markClause. -/
theorem markC_any (c : Cl) (A B : Option Addr) (cap capB k : Nat) (L1 L2 : List Nat) (w : World) (ho : OwnCl w c A cap B capB L1 L2) (hk : k + 3 * ndC c ≤ 1099511627776) (h0 : 0 < k) :
    Calls Tryz.prog 25 #[.agg #[.int .i64 c.k, .int .i64 c.n, .string c.s, .slice A c.kids.len cap, .slice B c.body.len capB], .int .i64 (k : Int)] w fun e w' => e = .returned (.int .i64 ((k + 3 * ndC c : Nat) : Int)) ∧ OwnCl w' (markC c k) A cap B capB L1 L2 ∧ Wrote (L1 ++ L2) w w' := by
  obtain ⟨kk, nn, s, f, g⟩ := c
  obtain ⟨o1, o2, hn⟩ := ho
  obtain ⟨n1, n2, n12⟩ := List.nodup_append.1 hn
  unfold ndC at *
  simp only at *
  have C1 := fun w1 (hb : Wrote [] w w1) => markT_any kk nn s f A cap k L1 w1 (o1.wrote hb fun x _ => by simp) n1 (by omega) h0
  have C2 := fun w1 (hb : Wrote L1 w w1) => markS_any g B capB (k + 3 * nodes f) L2 w1 (o2.wrote hb fun x hx h => n12 x h x hx rfl) n2 (by omega) (by omega)
  have e1 : k + 3 * nodes f + 3 * nodes g = k + 3 * (nodes f + nodes g) := by omega
  have hfin : ∀ w2 w3, OwnS w2 (markF f k) A cap L1 → Wrote L1 w w2 → OwnS w3 (markF g (k + 3 * nodes f)) B capB L2 → Wrote L2 w2 w3 → OwnCl w3 (markC ⟨kk, nn, s, f, g⟩ k) A cap B capB L1 L2 ∧ Wrote (L1 ++ L2) w w3 := fun w2 w3 a1 a2 a3 a4 =>
    ⟨⟨a1.wrote a4 fun x hx h => n12 x hx x h rfl, a3, hn⟩, (a2.more fun x hx => by simp [hx]).trans (a4.more fun x hx => by simp [hx])⟩
  have hq := fun w2 (h : Wrote L1 (w.alloc (.cells #[.int .i64 kk, .int .i64 nn, .string s, .slice A f.len cap, .slice B g.len capB] 33)) w2) => h.blk (Blk.new w 33 #[.int .i64 kk, .int .i64 nn, .string s, .slice A f.len cap, .slice B g.len capB]) (fun hx => by have := o1.lt _ hx; omega)
  have H1 := Lib.hid C1
  have H2 := Lib.hid C2
  have HF := Lib.hid hfin
  have HQ := Lib.hid hq
  have HE := Lib.hid e1
  have HW0 : Hid (Wrote [] w (w.alloc (.cells #[.int .i64 kk, .int .i64 nn, .string s, .slice A f.len cap, .slice B g.len capB] 33))) := Lib.hid ((Wrote.refl [] w).alloc _)
  clear C1 C2 hfin hq o1 o2 hn n1 n2 n12 e1 hk
  generalize f.len = fl at *
  generalize g.len = gl at *
  go_enter Tryz.func25, Tryz.ntmps25
  go_wp2_with fail
  refine (H1.out _ HW0.out).mono ?_
  rintro e w2 ⟨rfl, ho2, hw2⟩
  have a4 := (HQ.out _ hw2).cell 4
  simp only [List.getElem?_toArray, List.getElem?_cons_zero, List.getElem?_cons_succ] at a4
  have hw2' : Wrote L1 w w2 := (HW0.out.more (fun x hx => by simp at hx)).trans hw2
  have HO2 := Lib.hid ho2
  have HW2 := Lib.hid hw2'
  clear ho2 hw2 hw2'
  go_wp2_with fail
  refine (H2.out _ HW2.out).mono ?_
  rintro e w3 ⟨rfl, ho3, hw3⟩
  have h := HF.out _ _ HO2.out HW2.out ho3 hw3
  have HH := Lib.hid h
  clear h ho3 hw3
  rw [HE.out]
  go_wp2_with fail
  go_ret
  exact ⟨rfl, HH.out⟩

set_option maxRecDepth 100000 in
set_option maxHeartbeats 1000000 in
/-- laws.heldClause. -/
theorem heldC_any (c : Cl) (A B : Option Addr) (cap capB k lo hi : Nat) (w : World) (hk : KidsAt w lo hi (markC c k).kids A cap) (hkb : KidsAt w lo hi (markC c k).body B capB) (hh : hi ≤ w.heap.size) (hb : k + 3 * ndC c ≤ 1099511627776) (h0 : 0 < k) :
    Calls Tryz.prog 26 #[.agg #[.int .i64 c.k, .int .i64 c.n, .string c.s, .slice A c.kids.len cap, .slice B c.body.len capB], .int .i64 (k : Int)] w fun e w' => e = .returned (.int .i64 ((k + 3 * ndC c : Nat) : Int)) ∧ Below w.heap.size w w' := by
  obtain ⟨kk, nn, s, f, g⟩ := c
  unfold ndC markC at *
  simp only at *
  have C1 := fun w1 (hb1 : Below w.heap.size w w1) => heldT_any kk nn s f A cap k lo hi w1 (hk.below hb1 hh) (Nat.le_trans hh hb1.size) (by omega) h0
  have C2 := fun w1 (hb1 : Below w.heap.size w w1) => heldS_any g B capB (k + 3 * nodes f) lo hi w1 (hkb.below hb1 hh) (Nat.le_trans hh hb1.size) (by omega) (by omega)
  have e1 : k + 3 * nodes f + 3 * nodes g = k + 3 * (nodes f + nodes g) := by omega
  rw [e1] at C2
  have t0 : ¬ (((k + 3 * nodes f : Nat) : Int) < 0) := by omega
  have t1 : ¬ (((k + 3 * (nodes f + nodes g) : Nat) : Int) < 0) := by omega
  clear e1 hk hkb hh hb h0
  generalize ((k + 3 * nodes f : Nat) : Int) = r at *
  generalize ((k + 3 * (nodes f + nodes g) : Nat) : Int) = r2 at *
  have H1 := Lib.hid C1
  have H2 := Lib.hid C2
  have HB0 : Hid (Below w.heap.size w (w.alloc (.cells #[.int .i64 kk, .int .i64 nn, .string s, .slice A f.len cap, .slice B g.len capB] 33))) := Lib.hid ((Below.refl _ _).alloc (Nat.le_refl _) _)
  clear C1 C2
  generalize f.len = fl at *
  generalize g.len = gl at *
  go_enter Tryz.func26, Tryz.ntmps26
  go_wp2_with fail
  refine (H1.out _ HB0.out).mono ?_
  rintro e w2 ⟨rfl, hb2⟩
  have a4 := boxed hb2 4
  simp only [List.getElem?_toArray, List.getElem?_cons_zero, List.getElem?_cons_succ] at a4
  have HB : Hid (Below w.heap.size w w2) := Lib.hid (HB0.out.trans (hb2.mono (by simp)))
  clear hb2
  go_wp2_with fail
  refine (H2.out _ HB.out).mono ?_
  rintro e w3 ⟨rfl, hb3⟩
  have HB3 : Hid (Below w.heap.size w w3) := Lib.hid (HB.out.trans (hb3.mono HB.out.size))
  clear hb3
  go_wp2_with fail
  go_ret
  exact ⟨rfl, HB3.out⟩

/-- The loop's relation of markClauseS: the clauses from i on are as they were. -/
def McP (w : World) (cs : List Cl) (b cap : Nat) (L : List Nat) (i : Nat) (wr : World) : Prop :=
  ∃ Lb xs, (b :: Lb).Nodup ∧ (∀ x ∈ b :: Lb, x ∈ L) ∧ OwnC wr (cs.drop i) b (i * 5) Lb ∧ Blk wr b 33 xs ∧ xs.size = cap * 5 ∧ Wrote L w wr
/-- What a round meets. -/
def McOpen (w : World) (cs : List Cl) (b cap : Nat) (L : List Nat) (i kk : Nat) (kids body : Fr) (A' : Option Addr) (cap' : Nat) (B' : Option Addr) (capB' : Nat) (wr : World) : Prop :=
  (∃ v0 v1, wr.cell? ⟨b, i * 5, none⟩ = some v0 ∧ wr.cell? ⟨b, i * 5 + 1, none⟩ = some v1) ∧
  b < wr.heap.size ∧ (∀ j, wr.frozen? ⟨b, j, none⟩ = false) ∧
  ∃ K1 K2 : List Nat, K1.Nodup ∧ K2.Nodup ∧ ∀ w1 : World, Below wr.heap.size ((wr.setCell ⟨b, i * 5, none⟩ (.int .i64 (kk : Int))).setCell ⟨b, i * 5 + 1, none⟩ (.int .i64 ((kk : Int) + 1))) w1 →
    ((∃ v, w1.cell? ⟨b, i * 5 + 2, none⟩ = some v) ∧ w1.frozen? ⟨b, i * 5 + 2, none⟩ = false ∧ w1.cell? ⟨b, i * 5 + 3, none⟩ = some (.slice A' kids.len cap')) ∧
    OwnS (w1.setCell ⟨b, i * 5 + 2, none⟩ (.string (mtext (kk + 2)))) kids A' cap' K1 ∧
    ∀ w4, Wrote K1 (w1.setCell ⟨b, i * 5 + 2, none⟩ (.string (mtext (kk + 2)))) w4 → w4.cell? ⟨b, i * 5 + 4, none⟩ = some (.slice B' body.len capB') ∧ OwnS w4 body B' capB' K2 ∧ ∀ w5, Wrote K2 w4 w5 → McP w cs b cap L (i + 1) w5
theorem McP.open_ {w wr : World} {cs : List Cl} {b cap i : Nat} {L : List Nat} {c : Cl} {rest : List Cl} (h : McP w cs b cap L i wr) (hd : cs.drop i = c :: rest) (kk : Nat) :
    ∃ A' cap' B' capB', McOpen w cs b cap L i kk c.kids c.body A' cap' B' capB' wr := by
  obtain ⟨Lb, xs, hnd, hLL, hback, hblk, hsz, hwr⟩ := h
  have e1 : cs.drop (i + 1) = rest := by rw [← List.tail_drop, hd]; rfl
  rw [hd] at hback
  obtain ⟨A', cap', B', capB', L1, L2, L3, rfl, hfit, ⟨c0, c1, c2, c3, c4⟩, hown, hownb, hr⟩ := hback
  have hlt := hblk.lt
  obtain ⟨hb0, hnd'⟩ := List.nodup_cons.1 hnd
  obtain ⟨hn1', hn23, h123⟩ := List.nodup_append.1 hnd'
  obtain ⟨hn2', hn3', h23⟩ := List.nodup_append.1 hn23
  have hb1 : b ∉ L1 := fun h => hb0 (by simp [h])
  have hb2 : b ∉ L2 := fun h => hb0 (by simp [h])
  have hb3 : b ∉ L3 := fun h => hb0 (by simp [h])
  have l1 : ∀ x ∈ L1, x < wr.heap.size := fun x hx => hown.lt x hx
  have l2 : ∀ x ∈ L2, x < wr.heap.size := fun x hx => hownb.lt x hx
  have l3 : ∀ x ∈ L3, x < wr.heap.size := fun x hx => OwnC.lt _ b (i * 5 + 5) L3 hr x hx
  refine ⟨A', cap', B', capB', ⟨⟨_, _, c0, c1⟩, hlt, fun j => hblk.frozen j, L1, L2, hn1', hn2', fun w1 hw1 => ?_⟩⟩
  have q1 := ((hblk.set_ (i * 5) (.int .i64 (kk : Int))).set_ (i * 5 + 1) (.int .i64 ((kk : Int) + 1))).below hw1 hlt
  have q3 := q1.set_ (i * 5 + 2) (.string (mtext (kk + 2)))
  have d2 : ∃ v, w1.cell? ⟨b, i * 5 + 2, none⟩ = some v := by
    rw [q1.cell]
    simp only [Array.getElem?_setIfInBounds]
    rw [if_neg (by omega), if_neg (by omega), ← hblk.cell]
    exact ⟨_, c2⟩
  have d3 : w1.cell? ⟨b, i * 5 + 3, none⟩ = some (.slice A' c.kids.len cap') := by
    rw [q1.cell]
    simp only [Array.getElem?_setIfInBounds]
    rw [if_neg (by omega), if_neg (by omega), ← hblk.cell]
    exact c3
  have d5 : (w1.setCell ⟨b, i * 5 + 2, none⟩ (.string (mtext (kk + 2)))).cell? ⟨b, i * 5 + 4, none⟩ = some (.slice B' c.body.len capB') := by
    rw [q3.cell]
    simp only [Array.getElem?_setIfInBounds]
    rw [if_neg (by omega), if_neg (by omega), if_neg (by omega), ← hblk.cell]
    exact c4
  have d4 : w1.frozen? ⟨b, i * 5 + 2, none⟩ = false := q1.frozen _
  have far : ∀ x, x < wr.heap.size → x ≠ b → (w1.setCell ⟨b, i * 5 + 2, none⟩ (.string (mtext (kk + 2)))).heap[x]? = wr.heap[x]? := fun x hx hne => by
    rw [heap_setCell_other _ _ _ _ (show x ≠ b from hne), hw1.block x hx, heap_setCell_other _ _ _ _ (show x ≠ b from hne), heap_setCell_other _ _ _ _ (show x ≠ b from hne)]
  have hs3 : wr.heap.size ≤ (w1.setCell ⟨b, i * 5 + 2, none⟩ (.string (mtext (kk + 2)))).heap.size := by
    have := hw1.size; simpa [World.setCell] using this
  have hw3 : Wrote L w (w1.setCell ⟨b, i * 5 + 2, none⟩ (.string (mtext (kk + 2)))) :=
    hwr.trans ⟨hw1.os, hw1.tape, hw1.output, hs3, fun x hx hn => far x hx fun e => hn (hLL x (by simp [e]))⟩
  refine ⟨⟨d2, d4, d3⟩, ?_⟩
  generalize w1.setCell ⟨b, i * 5 + 2, none⟩ (.string (mtext (kk + 2))) = w3 at *
  refine ⟨hown.keep fun x hx => far x (l1 x hx) fun e => hb1 (e ▸ hx), fun w4 hw4 => ?_⟩
  have q4 := hw4.blk q3 hb1
  have hs34 := hw4.size
  refine ⟨(hw4.cell (p := ⟨b, i * 5 + 4, none⟩) q3.lt hb1).trans d5, hownb.keep fun x hx => ?_, fun w5 hw5 => ?_⟩
  · have := l2 x hx
    rw [hw4.block x (by omega) fun h => h123 x h x (by simp [hx]) rfl]
    exact far x (l2 x hx) fun e => hb2 (e ▸ hx)
  · have q5 := hw5.blk q4 hb2
    refine ⟨L3, _, List.nodup_cons.2 ⟨hb3, hn3'⟩, fun x hx => hLL x ?_, ?_, q5, by simpa using hsz, (hw3.trans (hw4.more fun x hx => hLL x (by simp [hx]))).trans (hw5.more fun x hx => hLL x (by simp [hx]))⟩
    · rcases List.mem_cons.1 hx with rfl | hx
      · simp
      · simp [hx]
    · rw [e1, show (i + 1) * 5 = i * 5 + 5 by omega]
      refine OwnC.keep rest b (i * 5 + 5) L3 hr (fun j hj => ?_) fun x hx => ?_
      · rw [q5.cell, hblk.cell]
        simp only [Array.getElem?_setIfInBounds]
        rw [if_neg (by omega), if_neg (by omega), if_neg (by omega)]
      · have := l3 x hx
        rw [hw5.block x (by omega) fun h => h23 x h x hx rfl, hw4.block x (by omega) fun h => h123 x h x (by simp [hx]) rfl]
        exact far x (l3 x hx) fun e => hb3 (e ▸ hx)

set_option maxRecDepth 100000 in
set_option maxHeartbeats 2000000 in
/-- laws.markClauseS. -/
theorem markCS_any (cs : List Cl) (A : Option Addr) (cap k0 : Nat) (L : List Nat) (w : World) (ho : OwnCS w cs A cap L) (hnd : L.Nodup) (hlen : cs.length ≤ 1048576) (hk : k0 + 3 * ndCs cs ≤ 1099511627776) (hk0 : 0 < k0) :
    Calls Tryz.prog 29 #[.slice A cs.length cap, .int .i64 (k0 : Int)] w fun e w' => (∃ k : Nat, e = .returned (.int .i64 (k : Int)) ∧ 0 < k ∧ k ≤ k0 + 3 * ndCs cs) ∧ Wrote L w w' := by
  obtain ⟨_, hmax, b, L', xs, rfl, rfl, hblk, hcs, hown⟩ := ho
  have h0 : McP w cs b cap (b :: L') 0 w := ⟨L', xs, hnd, fun x hx => hx, by simpa using hown, hblk, hcs, .refl _ _⟩
  have HST := Lib.hid h0
  have HK := Lib.hid hk
  clear h0 hown hnd hblk hcs hmax
  generalize hn : cs.length = len at *
  have HN := Lib.hid hn
  clear hn
  go_enter Tryz.func29, Tryz.ntmps29
  go_wp2_with fail
  go_loopw [5, 1] (fun i k wr => ∃ (j kk : Nat), j ≤ len ∧ i = .int .i64 j ∧ k = .int .i64 kk ∧ 0 < kk ∧ kk + 3 * ndCs (cs.drop j) ≤ k0 + 3 * ndCs cs ∧ McP w cs b cap (b :: L') j wr) (fun i _ _ => len - (intOf i).toNat)
  case atStart => exact ⟨0, k0, Nat.zero_le _, rfl, rfl, hk0, Nat.le_refl _, HST.out⟩
  case round =>
    obtain ⟨j, kk, hj, rfl, rfl, hk1, hkk, hp⟩ := hrel
    by_cases hlt : j < len
    · obtain ⟨c, hd⟩ := drop_cl cs j (by rw [HN.out]; exact hlt)
      obtain ⟨A', cap', B', capB', hopen⟩ := hp.open_ hd kk
      obtain ⟨⟨v0, v1, c0, c1⟩, hbw, hfz, K1, K2, hKn, hKn2, hgo⟩ := hopen
      have hn1 : ndCs (cs.drop j) = 1 + ndC c + ndCs (cs.drop (j + 1)) := by rw [hd]; rfl
      have hn2 : ndC c = nodes c.kids + nodes c.body := rfl
      have hkb : kk + 3 + 3 * nodes c.kids + 3 * nodes c.body ≤ 1099511627776 := by have := HK.out; omega
      have HKK : Hid (kk + 3 + 3 * nodes c.kids + 3 * nodes c.body + 3 * ndCs (cs.drop (j + 1)) ≤ k0 + 3 * ndCs cs) := Lib.hid (by omega)
      have C2 : ∀ w1, OwnS w1 c.kids A' cap' K1 → Calls Tryz.prog 47 #[.slice A' c.kids.len cap', .int .i64 ((kk : Int) + 1 + 1 + 1)] w1 fun e w' => MarkedS w1 c.kids A' cap' K1 (kk + 3) e w' := fun w1 ho => by
        have h := markS_any c.kids A' cap' (kk + 3) K1 w1 ho hKn (by omega) (by omega)
        rwa [show ((kk + 3 : Nat) : Int) = (kk : Int) + 1 + 1 + 1 by omega] at h
      have C3 : ∀ w1, OwnS w1 c.body B' capB' K2 → Calls Tryz.prog 47 #[.slice B' c.body.len capB', .int .i64 ((kk + 3 + 3 * nodes c.kids : Nat) : Int)] w1 fun e w' => MarkedS w1 c.body B' capB' K2 (kk + 3 + 3 * nodes c.kids) e w' := fun w1 ho =>
        markS_any c.body B' capB' (kk + 3 + 3 * nodes c.kids) K2 w1 ho hKn2 (by omega) (by omega)
      have C1 : ∀ w1, Calls Tryz.prog 57 #[.int .i64 ((kk : Int) + 1 + 1)] w1 fun e w' => e = .returned (.string (mtext (kk + 2))) ∧ Below w1.heap.size w1 w' := fun w1 => by
        have h := markText_any (kk + 2) w1 (by omega) (by omega)
        rwa [show ((kk + 2 : Nat) : Int) = (kk : Int) + 1 + 1 by omega] at h
      have hf0 := hfz (j * 5)
      have hf1 := hfz (j * 5 + 1)
      have HGO := Lib.hid hgo
      have H1 := Lib.hid C1
      have H2 := Lib.hid C2
      have H3 := Lib.hid C3
      clear hp hfz hgo C1 C2 C3 hKn hKn2 hkk hn1 hn2 hd
      obtain ⟨ck, cn, csx, ckids, cbody⟩ := c
      simp only at *
      go_wp2_with fail
      refine (H1.out _).mono ?_
      rintro e w1 ⟨rfl, hb1⟩
      obtain ⟨⟨⟨v3, d2⟩, d4, d3⟩, how, hgo⟩ := HGO.out w1 (hb1.mono (by simp [World.setCell]))
      have HO := Lib.hid how
      have HG2 := Lib.hid hgo
      clear hb1 how hgo HGO c0 c1 hf0 hf1
      go_wp2_with fail
      refine (H2.out _ HO.out).mono ?_
      rintro e w4 ⟨rfl, _, hw4⟩
      obtain ⟨d5, ho4, hgo4⟩ := HG2.out w4 hw4
      have HO4 := Lib.hid ho4
      have HG4 := Lib.hid hgo4
      clear hw4 HG2 HO ho4 hgo4 d2 d3 d4
      go_wp2_with fail
      refine (H3.out _ HO4.out).mono ?_
      rintro e w5 ⟨rfl, _, hw5⟩
      have hm := HG4.out w5 hw5
      have HM := Lib.hid hm
      clear hm hw5 HG4 HO4
      go_wp2_with fail
      go_roundw
      case rel => exact ⟨j + 1, kk + 3 + 3 * nodes ckids + 3 * nodes cbody, by omega, by go_num, rfl, by omega, HKK.out, HM.out⟩
      case measure => simp [intOf]; omega
    · obtain rfl : j = len := by omega
      obtain ⟨_, _, _, _, _, _, _, hw⟩ := hp
      have HW := Lib.hid hw
      have HE : Hid (kk ≤ k0 + 3 * ndCs cs) := Lib.hid (by omega)
      clear hw hkk
      go_wp2_with fail
      go_ret
      exact ⟨⟨kk, rfl, hk1, HE.out⟩, HW.out⟩
end Go.Proofs.YtmgfndgmebignaaGreatDoor

/- impl.ProgramValid; the law FnExactFormatProgram, walked. Condition: the argument lies in memory, the tables of signs, of operators and of powers of ten in their variables. -/
namespace Go.Proofs.YtmgfndgmebignaaGreatDoor
open Go.RowKit

set_option maxRecDepth 100000 in
set_option maxHeartbeats 4000000 in
theorem lawFPr_any (cs : List Cl) (A : Option Addr) (cap : Nat) (w : World) (hk : ClS w 0 w.heap.size cs A cap) (ht : nv.Tab w) (ho : op.OpTab w) (hp : Lib.TabIs Tryz.prog w "internal/strconv.uint64pow10" .u64 Lib.pow10Tab) :
    Calls Tryz.prog 4 #[.slice A cs.length cap] w fun e w' => e = .returned (.bool true) ∧ Below w.heap.size w w' := by
  have hr := szCS_range cs 1048576 (by omega)
  have C1 := szCS_any cs A cap 0 w.heap.size 1048576 w hk (Nat.le_refl _) (by omega) (by omega)
  generalize szCS cs 1048576 = r at *
  have H1 := Lib.hid C1
  have HK := Lib.hid hk
  have HT := Lib.hid ht
  have HO := Lib.hid ho
  have HPT := Lib.hid (Lib.tabBelow_of_tabIs hp)
  have r1 := hr.1
  have r2 := hr.2.1
  clear C1 hk ht ho hp
  by_cases hneg : r < 0
  · clear hr
    go_enter Tryz.func4, Tryz.ntmps4
    go_wp2_with fail
    refine H1.out.mono ?_
    rintro e w2 ⟨rfl, hb⟩
    have HB := Lib.hid hb
    clear hb
    go_wp2_with fail
    go_ret
    exact ⟨rfl, HB.out⟩
  · have hwt : cs.length + wtCs cs ≤ 1048576 := by have := hr.2.2 (by omega); omega
    have CT := fun w1 (hb : Below w.heap.size w w1) => toCS_any cs A cap 0 w.heap.size w1 (HK.out.below hb (Nat.le_refl _)) hb.size hwt
    have CS := fun w1 A1 lo hi (hk : ClS w1 lo hi cs A1 cs.length) hh => wr.specFP_any cs A1 cs.length lo hi w1 hk hh hwt
    have CI := fun w1 A1 lo hi (hk : ClS w1 lo hi cs A1 cs.length) hh (hb : Below w.heap.size w w1) => wr.implFP_any cs A1 cs.length lo hi w1 hk hh hwt (HT.out.below hb) (HO.out.below hb) (HPT.out _ hb)
    have CE := fun w1 A1 lo hi A2 lo2 hi2 (hk : ClS w1 lo hi cs A1 cs.length) hh (hk2 : ClS w1 lo2 hi2 cs A2 cs.length) hh2 => eqCS_any cs A1 A2 cs.length cs.length lo hi lo2 hi2 w1 hk hk2 hh hh2
    have hmd : ∀ w1 A1 w2, MadeC w1 cs A1 cs.length w2 → ClS w2 w1.heap.size w2.heap.size cs A1 cs.length ∧ Below w1.heap.size w1 w2 := fun _ _ _ h => clauses_of_made h
    generalize hv : (⟨(wr.fpB cs).toArray⟩ : ByteArray) = v at *
    have tv : (v.toList != v.toList) = false := by simp
    have HT' := Lib.hid CT
    have HS := Lib.hid CS
    have HI := Lib.hid CI
    have HE := Lib.hid CE
    have HMD := Lib.hid hmd
    clear CT CS CI CE hr hwt hv hmd
    go_enter Tryz.func4, Tryz.ntmps4
    go_wp2_with fail
    refine H1.out.mono ?_
    rintro e w2 ⟨rfl, hb⟩
    have HB2 := Lib.hid hb
    clear hb H1
    go_wp2_with fail
    refine (HT'.out _ HB2.out).mono ?_
    rintro e w3 ⟨A1, rfl, hm⟩
    have HM1 := Lib.hid (HMD.out _ _ _ hm)
    clear hm
    go_wp2_with fail
    refine (HS.out _ _ _ _ HM1.out.1 (Nat.le_refl _)).mono ?_
    rintro e w4 ⟨rfl, hb4⟩
    have HB4 := Lib.hid ((HB2.out.trans (HM1.out.2.mono HB2.out.size)).trans (hb4.mono (Nat.le_trans HB2.out.size HM1.out.2.size)))
    clear hb4 HM1 HB2
    go_wp2_with fail
    refine (HT'.out _ HB4.out).mono ?_
    rintro e w5 ⟨A2, rfl, hm⟩
    have hm2 := HMD.out _ _ _ hm
    have HK5 := Lib.hid hm2.1
    have HB5 := Lib.hid (HB4.out.trans (hm2.2.mono HB4.out.size))
    clear hm hm2 HB4
    go_wp2_with fail
    refine (HI.out _ _ _ _ HK5.out (Nat.le_refl _) HB5.out).mono ?_
    rintro e w6 ⟨rfl, hb6⟩
    have HK6 := Lib.hid (HK5.out.below hb6 (Nat.le_refl _))
    have HS6 := Lib.hid hb6.size
    have HB6 := Lib.hid (HB5.out.trans (hb6.mono HB5.out.size))
    clear hb6 HK5 HB5
    go_wp2_with fail
    refine (HT'.out _ HB6.out).mono ?_
    rintro e w7 ⟨A3, rfl, hm⟩
    have hm7 := HMD.out _ _ _ hm
    have HK7 := Lib.hid (HK6.out.below hm7.2 HS6.out)
    have HS7 := Lib.hid (Nat.le_trans HS6.out hm7.2.size)
    have HM7 := Lib.hid hm7.1
    have HB7 := Lib.hid (HB6.out.trans (hm7.2.mono HB6.out.size))
    clear hm hm7 HB6 HK6
    go_wp2_with fail
    refine (HE.out _ _ _ _ _ _ _ HK7.out HS7.out HM7.out (Nat.le_refl _)).mono ?_
    rintro e w8 ⟨rfl, hb8⟩
    have HB8 := Lib.hid (HB7.out.trans (hb8.mono HB7.out.size))
    clear hb8
    go_wp2_with fail
    go_ret
    exact ⟨rfl, HB8.out⟩
end Go.Proofs.YtmgfndgmebignaaGreatDoor
