/- laws.toClause, toClauseS. Condition: the clauses lie in memory; no more than the law's budget. -/
import Derived.Test.YtmgfndgmebignaaGreatDoorProg
import Derived.Test.YtmgfndgmebignaaGreatDoorZmFQ48
import Derived.OwnWalk
import Derived.Test.YtmgfndgmebignaaGreatDoorZmFQ49
import Derived.Deep.RegionHeld3
import Derived.Deep.AppendLies
namespace Go.Proofs.YtmgfndgmebignaaGreatDoor
open Go.RowKit

theorem cset5 {w : World} {g : Nat} {t : TypeId} {x0 x1 x2 x3 x4 : Value} (h : Blk w g t #[x0, x1, x2, x3, x4]) (a b c d e : Value) : Blk (((((w.setCell ⟨g, 0, none⟩ a).setCell ⟨g, 1, none⟩ b).setCell ⟨g, 2, none⟩ c).setCell ⟨g, 3, none⟩ d).setCell ⟨g, 4, none⟩ e) g t #[a, b, c, d, e] := ((((h.set_ 0 a).set_ 1 b).set_ 2 c).set_ 3 d).set_ 4 e
theorem ccells5 {w : World} {g : Nat} {t : TypeId} {a b c d e : Value} (h : Blk w g t #[a, b, c, d, e]) :
    w.cell? ⟨g, 0, none⟩ = some a ∧ w.cell? ⟨g, 1, none⟩ = some b ∧ w.cell? ⟨g, 2, none⟩ = some c ∧ w.cell? ⟨g, 3, none⟩ = some d ∧ w.cell? ⟨g, 4, none⟩ = some e := ⟨h.cell 0, h.cell 1, h.cell 2, h.cell 3, h.cell 4⟩
theorem cfrozen5 {w : World} {g : Nat} {t : TypeId} {cs : Array Value} (h : Blk w g t cs) :
    w.frozen? ⟨g, 0, none⟩ = false ∧ w.frozen? ⟨g, 1, none⟩ = false ∧ w.frozen? ⟨g, 2, none⟩ = false ∧ w.frozen? ⟨g, 3, none⟩ = false ∧ w.frozen? ⟨g, 4, none⟩ = false := ⟨h.frozen 0, h.frozen 1, h.frozen 2, h.frozen 3, h.frozen 4⟩
theorem madeCl_of {w w3 w2 w4 w5 w6 : World} {c : Cl} {A B : Option Addr} {cap capB : Nat} (hb0 : Below w.heap.size w w3) (hm : Made w3 c.kids A cap w2) (hs4 : w4.heap.size = w2.heap.size) (h4 : ∀ x, w3.heap.size ≤ x → w4.heap[x]? = w2.heap[x]?) (hb4 : Below w.heap.size w2 w4)
    (hm2 : Made w4 c.body B capB w5) (hs6 : w6.heap.size = w5.heap.size) (h6 : ∀ x, w3.heap.size ≤ x → w6.heap[x]? = w5.heap[x]?) (hb6 : Below w.heap.size w5 w6) : MadeCl w c A cap B capB w6 := by
  obtain ⟨L1, o1, n1, l1, b1⟩ := hm
  obtain ⟨L2, o2, n2, l2, b2⟩ := hm2
  have s1 := hb0.size
  have s2 := b1.size
  have s3 := b2.size
  refine ⟨L1, L2, o1.keep fun x hx => ?_, o2.keep fun x hx => h6 x ?_, List.nodup_append.2 ⟨n1, n2, fun a ha b hb => ?_⟩, fun x hx => ?_, ?_⟩
  · have := l1 x hx
    rw [h6 x this.1, b2.block x (by omega), h4 x this.1]
  · have := l2 x hx; omega
  · have := l1 a ha; have := l2 b hb; omega
  · rcases List.mem_append.1 hx with hx | hx
    · have := l1 x hx; omega
    · have := l2 x hx; omega
  · exact ((hb0.trans (b1.mono s1)).trans hb4).trans ((b2.mono (by omega)).trans hb6)

set_option maxRecDepth 100000 in
set_option maxHeartbeats 2000000 in
/-- laws.toClause. -/
theorem toC_any (c : Cl) (A B : Option Addr) (cap capB lo hi : Nat) (w : World) (hk : KidsAt w lo hi c.kids A cap) (hkb : KidsAt w lo hi c.body B capB) (hh : hi ≤ w.heap.size) (hwt : wtC c ≤ 1048576) :
    Calls Tryz.prog 10 #[.agg #[.int .i64 c.k, .int .i64 c.n, .string c.s, .slice A c.kids.len cap, .slice B c.body.len capB]] w fun e w' => ∃ A2 cap2 B2 capB2, e = .returned (.agg #[.int .i64 c.k, .int .i64 c.n, .string c.s, .slice A2 c.kids.len cap2, .slice B2 c.body.len capB2]) ∧ MadeCl w c A2 cap2 B2 capB2 w' := by
  obtain ⟨k, n, s, kids, body⟩ := c
  simp only at *
  unfold wtC at hwt
  have C1 := fun w1 (hb : Below w.heap.size w w1) => toT_any k n s kids A cap lo hi w1 (hk.below hb hh) (Nat.le_trans hh hb.size) (by simp only at hwt; omega)
  have C2 := fun w1 (hb : Below w.heap.size w w1) => toS_any body B capB lo hi w1 (hkb.below hb hh) (Nat.le_trans hh hb.size) (by simp only at hwt; omega)
  have H1 := Lib.hid C1
  have H2 := Lib.hid C2
  clear C1 C2 hk hkb hh hwt
  go_enter Tryz.func10, Tryz.ntmps10
  go_wp2_with fail
  have hb0 : Below w.heap.size w (((w.alloc (.cells #[.int .i64 k, .int .i64 n, .string s, .slice A kids.len cap, .slice B body.len capB] 26)).alloc (.cells #[.int .i64 0, .int .i64 0, .string ⟨#[]⟩, .slice none 0 0, .slice none 0 0] 33)).alloc (.cells #[.int .i64 0, .int .i64 0, .string ⟨#[]⟩, .slice none 0 0, .slice none 0 0] 33)) :=
    (((Below.refl _ _).alloc (Nat.le_refl _) _).alloc (by simp) _).alloc (by simp; omega) _
  have b0 : Blk (((w.alloc (.cells #[.int .i64 k, .int .i64 n, .string s, .slice A kids.len cap, .slice B body.len capB] 26)).alloc (.cells #[.int .i64 0, .int .i64 0, .string ⟨#[]⟩, .slice none 0 0, .slice none 0 0] 33)).alloc (.cells #[.int .i64 0, .int .i64 0, .string ⟨#[]⟩, .slice none 0 0, .slice none 0 0] 33)) w.heap.size 26 #[.int .i64 k, .int .i64 n, .string s, .slice A kids.len cap, .slice B body.len capB] :=
    ((Blk.new w 26 #[.int .i64 k, .int .i64 n, .string s, .slice A kids.len cap, .slice B body.len capB]).alloc _).alloc _
  have b1 : Blk (((w.alloc (.cells #[.int .i64 k, .int .i64 n, .string s, .slice A kids.len cap, .slice B body.len capB] 26)).alloc (.cells #[.int .i64 0, .int .i64 0, .string ⟨#[]⟩, .slice none 0 0, .slice none 0 0] 33)).alloc (.cells #[.int .i64 0, .int .i64 0, .string ⟨#[]⟩, .slice none 0 0, .slice none 0 0] 33)) (w.heap.size + 1) 33 #[.int .i64 0, .int .i64 0, .string ⟨#[]⟩, .slice none 0 0, .slice none 0 0] := by
    have h := (Blk.new (w.alloc (.cells #[.int .i64 k, .int .i64 n, .string s, .slice A kids.len cap, .slice B body.len capB] 26)) 33 #[.int .i64 0, .int .i64 0, .string ⟨#[]⟩, .slice none 0 0, .slice none 0 0]).alloc (.cells #[.int .i64 0, .int .i64 0, .string ⟨#[]⟩, .slice none 0 0, .slice none 0 0] 33)
    simpa using h
  have b2 : Blk (((w.alloc (.cells #[.int .i64 k, .int .i64 n, .string s, .slice A kids.len cap, .slice B body.len capB] 26)).alloc (.cells #[.int .i64 0, .int .i64 0, .string ⟨#[]⟩, .slice none 0 0, .slice none 0 0] 33)).alloc (.cells #[.int .i64 0, .int .i64 0, .string ⟨#[]⟩, .slice none 0 0, .slice none 0 0] 33)) (w.heap.size + 1 + 1) 33 #[.int .i64 0, .int .i64 0, .string ⟨#[]⟩, .slice none 0 0, .slice none 0 0] := by
    have h := Blk.new ((w.alloc (.cells #[.int .i64 k, .int .i64 n, .string s, .slice A kids.len cap, .slice B body.len capB] 26)).alloc (.cells #[.int .i64 0, .int .i64 0, .string ⟨#[]⟩, .slice none 0 0, .slice none 0 0] 33)) 33 #[.int .i64 0, .int .i64 0, .string ⟨#[]⟩, .slice none 0 0, .slice none 0 0]
    simpa using h
  have hsz : (((w.alloc (.cells #[.int .i64 k, .int .i64 n, .string s, .slice A kids.len cap, .slice B body.len capB] 26)).alloc (.cells #[.int .i64 0, .int .i64 0, .string ⟨#[]⟩, .slice none 0 0, .slice none 0 0] 33)).alloc (.cells #[.int .i64 0, .int .i64 0, .string ⟨#[]⟩, .slice none 0 0, .slice none 0 0] 33)).heap.size = w.heap.size + 1 + 1 + 1 := by simp
  generalize (((w.alloc (.cells #[.int .i64 k, .int .i64 n, .string s, .slice A kids.len cap, .slice B body.len capB] 26)).alloc (.cells #[.int .i64 0, .int .i64 0, .string ⟨#[]⟩, .slice none 0 0, .slice none 0 0] 33)).alloc (.cells #[.int .i64 0, .int .i64 0, .string ⟨#[]⟩, .slice none 0 0, .slice none 0 0] 33)) = w3 at *
  refine (H1.out _ hb0).mono ?_
  rintro e w2 ⟨A2, cap2, rfl, hm⟩
  have hb2 : Below w3.heap.size w3 w2 := by obtain ⟨L, _, _, _, h⟩ := hm; exact h
  have q0 := b0.below hb2 (by omega)
  have q1 := b1.below hb2 (by omega)
  have q2 := b2.below hb2 (by omega)
  obtain ⟨c0, c1, c2, c3, c4⟩ := ccells5 q2
  obtain ⟨f0, f1, f2, f3, f4⟩ := cfrozen5 q2
  have a4 := q0.cell 4
  simp only [List.getElem?_toArray, List.getElem?_cons_zero, List.getElem?_cons_succ] at a4
  have hl2 := hb2.size
  rw [hsz] at hl2
  have HQ1 := Lib.hid q1
  have HQ2 := Lib.hid q2
  have HM := Lib.hid hm
  have HB0 := Lib.hid hb0
  have HB2 := Lib.hid hb2
  have HSZ := Lib.hid hsz
  clear hm hb0 hb2 b0 b1 b2 q0 q1 q2 hsz
  go_wp2_with fail
  have hb4 : Below w.heap.size w2 ((((w2.setCell ⟨w.heap.size + 1 + 1, 0, none⟩ (.int .i64 k)).setCell ⟨w.heap.size + 1 + 1, 1, none⟩ (.int .i64 n)).setCell ⟨w.heap.size + 1 + 1, 2, none⟩ (.string s)).setCell ⟨w.heap.size + 1 + 1, 3, none⟩ (.slice A2 kids.len cap2)) :=
    ((((Below.refl _ _).setCell (by simp only; omega) _).setCell (by simp only; omega) _).setCell (by simp only; omega) _).setCell (by simp only; omega) _
  have far4 : ∀ x, x ≠ w.heap.size + 1 + 1 → ((((w2.setCell ⟨w.heap.size + 1 + 1, 0, none⟩ (.int .i64 k)).setCell ⟨w.heap.size + 1 + 1, 1, none⟩ (.int .i64 n)).setCell ⟨w.heap.size + 1 + 1, 2, none⟩ (.string s)).setCell ⟨w.heap.size + 1 + 1, 3, none⟩ (.slice A2 kids.len cap2)).heap[x]? = w2.heap[x]? := fun x hx => by
    rw [heap_setCell_other _ _ _ _ (show x ≠ w.heap.size + 1 + 1 from hx), heap_setCell_other _ _ _ _ (show x ≠ w.heap.size + 1 + 1 from hx), heap_setCell_other _ _ _ _ (show x ≠ w.heap.size + 1 + 1 from hx), heap_setCell_other _ _ _ _ (show x ≠ w.heap.size + 1 + 1 from hx)]
  have p2 : Blk ((((w2.setCell ⟨w.heap.size + 1 + 1, 0, none⟩ (.int .i64 k)).setCell ⟨w.heap.size + 1 + 1, 1, none⟩ (.int .i64 n)).setCell ⟨w.heap.size + 1 + 1, 2, none⟩ (.string s)).setCell ⟨w.heap.size + 1 + 1, 3, none⟩ (.slice A2 kids.len cap2)) (w.heap.size + 1 + 1) 33 #[.int .i64 k, .int .i64 n, .string s, .slice A2 kids.len cap2, .slice none 0 0] := (((HQ2.out.set_ 0 _).set_ 1 _).set_ 2 _).set_ 3 _
  have p1 : Blk ((((w2.setCell ⟨w.heap.size + 1 + 1, 0, none⟩ (.int .i64 k)).setCell ⟨w.heap.size + 1 + 1, 1, none⟩ (.int .i64 n)).setCell ⟨w.heap.size + 1 + 1, 2, none⟩ (.string s)).setCell ⟨w.heap.size + 1 + 1, 3, none⟩ (.slice A2 kids.len cap2)) (w.heap.size + 1) 33 #[.int .i64 0, .int .i64 0, .string ⟨#[]⟩, .slice none 0 0, .slice none 0 0] := HQ1.out.keep (far4 _ (by omega))
  have hs4 : ((((w2.setCell ⟨w.heap.size + 1 + 1, 0, none⟩ (.int .i64 k)).setCell ⟨w.heap.size + 1 + 1, 1, none⟩ (.int .i64 n)).setCell ⟨w.heap.size + 1 + 1, 2, none⟩ (.string s)).setCell ⟨w.heap.size + 1 + 1, 3, none⟩ (.slice A2 kids.len cap2)).heap.size = w2.heap.size := by simp [World.setCell]
  generalize ((((w2.setCell ⟨w.heap.size + 1 + 1, 0, none⟩ (.int .i64 k)).setCell ⟨w.heap.size + 1 + 1, 1, none⟩ (.int .i64 n)).setCell ⟨w.heap.size + 1 + 1, 2, none⟩ (.string s)).setCell ⟨w.heap.size + 1 + 1, 3, none⟩ (.slice A2 kids.len cap2)) = w4 at *
  have hb04 : Below w.heap.size w w4 := (HB0.out.trans (HB2.out.mono HB0.out.size)).trans hb4
  refine (H2.out _ hb04).mono ?_
  rintro e w5 ⟨B2, capB2, rfl, hm2⟩
  have hb5 : Below w4.heap.size w4 w5 := by obtain ⟨L, _, _, _, h⟩ := hm2; exact h
  have r1 := p1.below hb5 p1.lt
  have r2 := p2.below hb5 p2.lt
  obtain ⟨d0, d1, d2, d3, d4⟩ := ccells5 r2
  obtain ⟨g0, g1, g2, g3, g4⟩ := cfrozen5 r2
  obtain ⟨e0, e1, e2, e3, e4⟩ := ccells5 r1
  obtain ⟨i0, i1, i2, i3, i4⟩ := cfrozen5 r1
  have hl5 : w.heap.size + 1 + 1 + 1 ≤ w5.heap.size := by have := hb5.size; omega
  have HR1 := Lib.hid r1
  have HM2 := Lib.hid hm2
  have HB4 := Lib.hid hb4
  have HF4 := Lib.hid far4
  have HS4 := Lib.hid hs4
  clear hm2 hb5 p1 p2 r1 r2 hb4 far4 hs4 hb04 c0 c1 c2 c3 c4 f0 f1 f2 f3 f4 a4
  go_wp2_with fail
  have e0' := HR1.out.far (p := ⟨w.heap.size + 1 + 1, 4, none⟩) (by simp) (.slice B2 body.len capB2)
  have e1' := cset5 e0' (.int .i64 k) (.int .i64 n) (.string s) (.slice A2 kids.len cap2) (.slice B2 body.len capB2)
  refine bodyPost_ret (v := .agg #[.int .i64 k, .int .i64 n, .string s, .slice A2 kids.len cap2, .slice B2 body.len capB2]) ?_ rfl ⟨A2, cap2, B2, capB2, rfl, madeCl_of HB0.out HM.out HS4.out (fun x hx => HF4.out x ?_) HB4.out HM2.out ?_ (fun x hx => ?_) ?_⟩
  · exact results_cell_row Tryz.results10 _ _ (w.heap.size + 1) _ _ _ _ rfl e1' Tryz.underlying33 rfl (by kernel_rfl)
  · have := HSZ.out; omega
  · simp [World.setCell]
  · have := HSZ.out
    rw [heap_setCell_other _ _ _ _ (by show x ≠ w.heap.size + 1; omega), heap_setCell_other _ _ _ _ (by show x ≠ w.heap.size + 1; omega), heap_setCell_other _ _ _ _ (by show x ≠ w.heap.size + 1; omega), heap_setCell_other _ _ _ _ (by show x ≠ w.heap.size + 1; omega), heap_setCell_other _ _ _ _ (by show x ≠ w.heap.size + 1; omega), heap_setCell_other _ _ _ _ (by show x ≠ w.heap.size + 1 + 1; omega)]
  · exact ((((((Below.refl _ _).setCell (by simp only; omega) _).setCell (by simp only; omega) _).setCell (by simp only; omega) _).setCell (by simp only; omega) _).setCell (by simp only; omega) _).setCell (by simp only; omega) _

/-- The loop's relation: k clauses are made, in block g. -/
def PartC (w : World) (cs : List Cl) (g k : Nat) (wr : World) : Prop :=
  ∃ cur L, Blk wr g 33 cur ∧ cur.size = cs.length * 5 ∧ OwnC wr (cs.take k) g 0 L ∧ L.Nodup ∧ (∀ x ∈ L, g < x ∧ x < wr.heap.size) ∧ w.heap.size ≤ g ∧ Below w.heap.size w wr
theorem PartC.below {w wr : World} {cs : List Cl} {g k : Nat} (h : PartC w cs g k wr) : Below w.heap.size w wr := by
  obtain ⟨cur, L, _, _, _, _, _, _, hb⟩ := h; exact hb
/-- What the store into element k asks. -/
theorem PartC.cells {w wr w2 : World} {cs : List Cl} {g k : Nat} (h : PartC w cs g k wr) (hk : k < cs.length) (hb : Below wr.heap.size wr w2) (j : Nat) (hj : j < 5) :
    (∃ v, w2.cell? ⟨g, k * 5 + j, none⟩ = some v) ∧ w2.frozen? ⟨g, k * 5 + j, none⟩ = false := by
  obtain ⟨cur, L, hblk, hs, _⟩ := h
  have hb2 := hblk.below hb hblk.lt
  refine ⟨?_, hb2.frozen _⟩
  rw [hb2.cell]
  exact ⟨_, Array.getElem?_eq_getElem (by omega)⟩
theorem take_cl (cs : List Cl) (i : Nat) {c : Cl} {rest : List Cl} (h : cs.drop i = c :: rest) : cs.take (i + 1) = cs.take i ++ [c] := by
  have hi : cs[i]? = some c := by
    have := List.getElem?_drop (xs := cs) (i := i) (j := 0)
    rw [h] at this
    simpa using this.symm
  rw [List.take_add_one, hi]
  rfl
/-- One clause more. -/
theorem PartC.step {w wr w2 : World} {cs : List Cl} {g i : Nat} {c : Cl} {rest : List Cl} {A B : Option Addr} {cap capB : Nat} (h : PartC w cs g i wr) (hd : cs.drop i = c :: rest) (hi : i < cs.length) (hf : Fits c.k c.n c.s) (hm : MadeCl wr c A cap B capB w2) :
    PartC w cs g (i + 1) (((((w2.setCell ⟨g, i * 5, none⟩ (.int .i64 c.k)).setCell ⟨g, i * 5 + 1, none⟩ (.int .i64 c.n)).setCell ⟨g, i * 5 + 2, none⟩ (.string c.s)).setCell ⟨g, i * 5 + 3, none⟩ (.slice A c.kids.len cap)).setCell ⟨g, i * 5 + 4, none⟩ (.slice B c.body.len capB)) := by
  obtain ⟨cur, L, hblk, hs, ho, hn, hL, hg, hb⟩ := h
  obtain ⟨L1, L2, ho1, ho2, hn', hL', hb'⟩ := hm
  have hblk2 := hblk.below hb' hblk.lt
  have hlt := hblk.lt
  have b1 := ((((hblk2.set_ (i * 5) (.int .i64 c.k)).set_ (i * 5 + 1) (.int .i64 c.n)).set_ (i * 5 + 2) (.string c.s)).set_ (i * 5 + 3) (.slice A c.kids.len cap)).set_ (i * 5 + 4) (.slice B c.body.len capB)
  have far : ∀ x, x ≠ g → (((((w2.setCell ⟨g, i * 5, none⟩ (.int .i64 c.k)).setCell ⟨g, i * 5 + 1, none⟩ (.int .i64 c.n)).setCell ⟨g, i * 5 + 2, none⟩ (.string c.s)).setCell ⟨g, i * 5 + 3, none⟩ (.slice A c.kids.len cap)).setCell ⟨g, i * 5 + 4, none⟩ (.slice B c.body.len capB)).heap[x]? = w2.heap[x]? := fun x hx => by
    rw [heap_setCell_other _ _ _ _ (show x ≠ g from hx), heap_setCell_other _ _ _ _ (show x ≠ g from hx), heap_setCell_other _ _ _ _ (show x ≠ g from hx), heap_setCell_other _ _ _ _ (show x ≠ g from hx), heap_setCell_other _ _ _ _ (show x ≠ g from hx)]
  have hsz : (((((w2.setCell ⟨g, i * 5, none⟩ (.int .i64 c.k)).setCell ⟨g, i * 5 + 1, none⟩ (.int .i64 c.n)).setCell ⟨g, i * 5 + 2, none⟩ (.string c.s)).setCell ⟨g, i * 5 + 3, none⟩ (.slice A c.kids.len cap)).setCell ⟨g, i * 5 + 4, none⟩ (.slice B c.body.len capB)).heap.size = w2.heap.size := by simp [World.setCell]
  generalize hw3 : ((((w2.setCell ⟨g, i * 5, none⟩ (.int .i64 c.k)).setCell ⟨g, i * 5 + 1, none⟩ (.int .i64 c.n)).setCell ⟨g, i * 5 + 2, none⟩ (.string c.s)).setCell ⟨g, i * 5 + 3, none⟩ (.slice A c.kids.len cap)).setCell ⟨g, i * 5 + 4, none⟩ (.slice B c.body.len capB) = w3 at *
  have hb3 : Below w.heap.size w w3 := by
    subst hw3
    exact (((((hb.trans (hb'.mono hb.size)).setCell hg _).setCell hg _).setCell hg _).setCell hg _).setCell hg _
  have hlen : (cs.take i).length = i := by simp; omega
  have htk := take_cl cs i hd
  refine ⟨_, L ++ (L1 ++ L2), b1, by simpa using hs, ?_, ?_, ?_, hg, hb3⟩
  · rw [htk]
    have own1 : OwnS w3 c.kids A cap L1 := ho1.keep fun x hx => far x (by have := (hL' x (by simp [hx])).1; omega)
    have own2 : OwnS w3 c.body B capB L2 := ho2.keep fun x hx => far x (by have := (hL' x (by simp [hx])).1; omega)
    refine OwnC.snoc hf own1 own2 (cs.take i) g 0 L ?_ ?_ ?_ ?_ ?_ ?_
    · refine OwnC.keep (cs.take i) g 0 L ho (fun j hj => ?_) fun x hx => ?_
      · rw [hlen] at hj
        rw [b1.cell, hblk.cell]
        simp only [Array.getElem?_setIfInBounds]
        rw [if_neg (by omega), if_neg (by omega), if_neg (by omega), if_neg (by omega), if_neg (by omega)]
      · rw [far x (by have := (hL x hx).1; omega)]
        exact hb'.block x (hL x hx).2
    all_goals
      rw [hlen, b1.cell]
      simp [Array.getElem?_setIfInBounds]
      omega
  · refine List.nodup_append.2 ⟨hn, hn', fun a ha b hb => ?_⟩
    have := (hL a ha).2
    have := (hL' b hb).1
    omega
  · intro x hx
    rw [hsz]
    rcases List.mem_append.1 hx with hx | hx
    · have := (hL x hx); have := hb'.size; omega
    · have := hL' x hx; omega
theorem PartC.start {w w1 : World} {cs : List Cl} {base : Nat} {xs : List Value} (hown : w1.ownsRow base 33 5 (.slice (some ⟨w.heap.size, 0, none⟩) cs.length cs.length) cs.length xs) (hg : w.grownBy w1 none) : PartC w cs w.heap.size 0 w1 := by
  rcases hown.2 with ⟨h', _⟩ | ⟨g', cap', cur, h', _, hb, _, _, hs, _⟩
  · simp at h'
  · simp only [Value.slice.injEq, Option.some.injEq, Addr.mk.injEq, and_true, true_and] at h'
    obtain ⟨rfl, rfl⟩ := h'
    exact ⟨cur, [], hb, hs, rfl, List.nodup_nil, fun x hx => by simp at hx, Nat.le_refl _, (Below.refl _ _).grown hg (Nat.le_refl _) (fun k hk => by cases hk)⟩
theorem PartC.done {w wr : World} {cs : List Cl} {g : Nat} (h : PartC w cs g cs.length wr) (hl : cs.length ≤ maxLen) : MadeC w cs (some ⟨g, 0, none⟩) cs.length wr := by
  obtain ⟨cur, L, hblk, hs, ho, hn, hL, hg, hb⟩ := h
  rw [List.take_length] at ho
  refine ⟨g :: L, ⟨Nat.le_refl _, hl, g, L, cur, rfl, rfl, hblk, hs, ho⟩, List.nodup_cons.2 ⟨fun hx => ?_, hn⟩, fun x hx => ?_, hb⟩
  · have := (hL g hx).1; omega
  · rcases List.mem_cons.1 hx with rfl | hx
    · exact ⟨hg, hblk.lt⟩
    · have := hL x hx; omega

set_option maxRecDepth 100000 in
set_option maxHeartbeats 2000000 in
/-- laws.toClauseS. -/
theorem toCS_any (cs : List Cl) (A : Option Addr) (cap lo hi : Nat) (w : World) (hk : ClS w lo hi cs A cap) (hh : hi ≤ w.heap.size) (hwt : cs.length + wtCs cs ≤ 1048576) :
    Calls Tryz.prog 15 #[.slice A cs.length cap] w fun e w' => ∃ A2, e = .returned (.slice A2 cs.length cs.length) ∧ MadeC w cs A2 cs.length w' := by
  have HK := Lib.hid hk
  have HHI := Lib.hid hh
  have HWT := Lib.hid hwt
  have hl : cs.length ≤ 1048576 := by omega
  have hst := fun w1 base xs => PartC.start (w := w) (w1 := w1) (cs := cs) (base := base) (xs := xs)
  have hfin := fun wr => PartC.done (w := w) (wr := wr) (cs := cs) (g := w.heap.size)
  have HST := Lib.hid hst
  have HFIN := Lib.hid hfin
  clear hk hh hwt hst hfin
  generalize hn : cs.length = len at *
  have HN := Lib.hid hn
  clear hn
  obtain ⟨i0, hi0, hz0, hz1, hz2⟩ := info_parts infoC
  go_enter Tryz.func15, Tryz.ntmps15
  go_wp2_with (at_make; go_must (refine wpList_make_full _ rfl _ _ 40 rfl w.heap.size 33 i0 _ 5 Tryz.underlying40 hi0 hz0 hz1 .i64 .i64 _ _ len rfl rfl rfl rfl (by rw [hz2]; omega) (by unfold maxLen; omega) (Nat.le_refl _) ?_); intro w1 hown hgrow)
  have hp0 := HST.out _ _ _ hown hgrow
  have HP0 := Lib.hid hp0
  clear hp0 hown hgrow HST hi0 hz0 hz1 hz2
  go_loopw [4] (fun i wr => ∃ (k : Nat), k ≤ len ∧ i = .int .i64 k ∧ PartC w cs w.heap.size k wr) (fun i _ => len - (intOf i).toNat)
  case atStart => exact ⟨0, Nat.zero_le _, rfl, HP0.out⟩
  case round =>
    obtain ⟨k, hk, rfl, hpart⟩ := hrel
    have HPT := Lib.hid hpart
    clear hpart
    by_cases hlt : k < len
    · have hltf : k < cs.length := by rw [HN.out]; exact hlt
      obtain ⟨c, hd⟩ := drop_cl cs k hltf
      obtain ⟨b, o, rfl, hlb, hbb, hrow⟩ := HK.out.2.2 (by rw [HN.out]; omega)
      obtain ⟨hfit, A', cap', B', capB', c0, c1, c2, c3, c4, hkid, hbd⟩ := ClAt.elem k cs b o hrow hd
      have hb := HPT.out.below
      have hlo : (⟨b, o, none⟩ : Addr).block < w.heap.size := Nat.lt_of_lt_of_le hbb HHI.out
      have k0 := (hb.cell (p := ⟨b, o + k * 5, none⟩) hlo).trans c0
      have k1 := (hb.cell (p := ⟨b, o + k * 5 + 1, none⟩) hlo).trans c1
      have k2 := (hb.cell (p := ⟨b, o + k * 5 + 2, none⟩) hlo).trans c2
      have k3 := (hb.cell (p := ⟨b, o + k * 5 + 3, none⟩) hlo).trans c3
      have k4 := (hb.cell (p := ⟨b, o + k * 5 + 4, none⟩) hlo).trans c4
      have hwe := wtC_le cs k hd
      have C1 := toC_any c A' B' cap' capB' lo hi wr (hkid.below hb HHI.out) (hbd.below hb HHI.out) (Nat.le_trans HHI.out hb.size) (by have := HWT.out; omega)
      have cellsOf := fun w2 (hb : Below wr.heap.size wr w2) j hj => HPT.out.cells hltf hb j hj
      have stepOf := fun A cap B capB w2 (hm : MadeCl wr c A cap B capB w2) => HPT.out.step hd hltf hfit hm
      have below2 := fun A cap B capB w2 (hm : MadeCl wr c A cap B capB w2) => hm.at_.2.2
      have H1 := Lib.hid C1
      have HC := Lib.hid cellsOf
      have HS := Lib.hid stepOf
      have HBL := Lib.hid below2
      clear C1 hb c0 c1 c2 c3 c4 hkid hbd hrow hfit hd hlo hwe cellsOf stepOf hltf below2
      obtain ⟨ck, cn, csx, ckids, cbody⟩ := c
      simp only at *
      go_wp2_with fail
      refine H1.out.mono ?_
      rintro e w2 ⟨A2, cap2, B2, capB2, rfl, hm⟩
      have hb2 : Below wr.heap.size wr w2 := HBL.out _ _ _ _ _ hm
      obtain ⟨⟨v0, d0⟩, f0⟩ := HC.out w2 hb2 0 (by omega)
      obtain ⟨⟨v1, d1⟩, f1⟩ := HC.out w2 hb2 1 (by omega)
      obtain ⟨⟨v2, d2⟩, f2⟩ := HC.out w2 hb2 2 (by omega)
      obtain ⟨⟨v3, d3⟩, f3⟩ := HC.out w2 hb2 3 (by omega)
      obtain ⟨⟨v4, d4⟩, f4⟩ := HC.out w2 hb2 4 (by omega)
      rw [Nat.add_zero] at d0 f0
      have hstep := HS.out A2 cap2 B2 capB2 w2 hm
      have HST := Lib.hid hstep
      clear hm hb2 hstep k0 k1 k2 k3 k4
      go_wp2_with fail
      go_roundw
      case rel => exact ⟨k + 1, by omega, by go_num, HST.out⟩
      case measure => simp [intOf]; omega
    · obtain rfl : k = len := by omega
      have hfin := HFIN.out wr HPT.out (by unfold maxLen; omega)
      have HF := Lib.hid hfin
      clear hfin
      go_wp2_with fail
      go_ret
      exact ⟨_, rfl, HF.out⟩
end Go.Proofs.YtmgfndgmebignaaGreatDoor

/- impl.programOf: the clauses' index. Condition: the clauses lie in memory, both tables in their variables. -/
namespace Go.Proofs.YtmgfndgmebignaaGreatDoor
open Go.RowKit Go.WideMaps Go.Maps Go.ChangeShapes

theorem infoCl : (Tryz.prog.info? 65).map (fun i => (i.zero, i.size, i.bytes)) = some (some (.agg #[.string ByteArray.empty, .slice none 0 0, .slice none 0 0]), 3, 64) := by kernel_rfl
theorem infoIx : (Tryz.prog.info? 3).map (fun i => (i.zero, i.size, i.bytes)) = some (some (.int .i64 0), 1, 8) := by kernel_rfl
theorem zeroIx (w : World) : (zeroValue 120).run Tryz.prog w = .ok (.slice none 0 0) w := by kernel_rfl

set_option maxRecDepth 100000 in
/-- plainGoal.pred. -/
theorem pred_any (s : ByteArray) (A : Option Addr) (len cap : Nat) (w : World) :
    Calls Tryz.prog 66 #[.agg #[.string s, .slice A len cap]] w fun e w' => e = .returned (.agg #[.string s, .int .i64 (len : Int)]) ∧ Below w.heap.size w w' := by
  have HB : ∀ o o', Hid (Below w.heap.size w ((w.alloc o).alloc o')) := fun o o' => Lib.hid (two_alloc w o o')
  have hq := Blk.new (w.alloc (.cells #[.string s, .slice A len cap] 62)) 122 #[.string s, .int .i64 (len : Int)]
  rw [show (w.alloc (.cells #[.string s, .slice A len cap] 62)).heap.size = w.heap.size + 1 by simp] at hq
  have HQ := Lib.hid hq
  clear hq
  go_enter Tryz.func66, Tryz.ntmps66
  go_wp2_with fail
  refine bodyPost_ret (v := .agg #[.string s, .int .i64 (len : Int)]) ?_ rfl ⟨rfl, (HB _ _).out⟩
  exact results_cell_row Tryz.results66 _ _ (w.heap.size + 1) _ _ _ _ rfl HQ.out Tryz.underlying122 rfl (by kernel_rfl)

theorem bl_step {W x y : World} (hx : Below W.heap.size W x) (hb : Below x.heap.size x y) : Below W.heap.size W y := hx.trans (hb.mono hx.size)
theorem bl_alloc {W x : World} (h : Below W.heap.size W x) (o : Obj) : Below W.heap.size W (x.alloc o) := h.alloc h.size o
theorem grown_of_below {w x : World} (h : Below w.heap.size w x) : w.grownBy x none := ⟨h.os, h.tape, h.output, h.size, fun k hk _ => h.block k hk⟩
theorem grown_trans {w x y : World} {r : Option Nat} (h1 : w.grownBy x r) (h2 : x.grownBy y r) : w.grownBy y r := grownBy_trans h1 h2
theorem grown_none {w x : World} {r : Option Nat} (h : w.grownBy x none) : w.grownBy x r := ⟨h.os, h.tape, h.output, h.size, fun k hk _ => h.block k hk (by simp)⟩
/-- Groups over a world that wrote nothing old. -/
theorem groups_below {w x : World} {base b n : Nat} {D : DataW Unit} (h : w.ownsGroups Tryz.prog 122 base 3 .i64 b n D) (hb : Below w.heap.size w x) : x.ownsGroups Tryz.prog 122 base 3 .i64 b n D :=
  h.kept (grown_of_below hb) (by simp) fun es clock _ y _ => by cases y.val.ownBlock <;> simp

/-- 'index[k] = append(index[k], i)', from the append on: what the store will leave. -/
def IxDone (x : World) (M n : Nat) (D : DataW Unit) (key : Value) (kl : Lit) (v : Value) (zs : List Int) (j : Int) (v' : Value) (w4 : World) : Prop :=
  x.grownBy w4 v.ownBlock ∧ ∃ w5, (Instr.mapUpdate 81 (.map (some M)) key v').run Tryz.prog w4 = .ok () w5 ∧ w4.grownBy w5 (some M) ∧
    w5.ownsGroups Tryz.prog 122 (M + 1) 3 .i64 M (n + 1) (D.put kl (rowDatum .i64 v' (zs ++ [j]))) ∧ w4.ownsInts (M + 1) 3 .i64 v' (zs ++ [j]) ∧ (v'.ownBlock = v.ownBlock ∨ ∃ g, v'.ownBlock = some g ∧ x.heap.size ≤ g)
set_option maxRecDepth 100000 in
theorem step_idx {ops : Array Oper} {o : Oper} {a : Act} {K : Act → World → Prop} {Q : Exit → Act → World → Prop} {E : Prop} (hgd : o.guard = none) (s x : Operand)
    (ho : o.op = .call { callee := .builtin .append, args := #[s, x], argTypes := #[120, 120] })
    {y x1 : World} {M n : Nat} {D : DataW Unit} {key : Value} {kl : Lit} {v : Value} {zs : List Int} {j : Int} {ab : Nat}
    (hoi : x1.ownsInts (M + 1) 3 .i64 v zs) (hback : x1.groupBack Tryz.prog 81 122 (M + 1) 3 .i64 M n D key kl v) (hxy : x1.grownBy y none)
    (hz : zs.length ≤ n) (hn : n ≤ 1048576) (hj : (Lit.int .i64 j).wf = true) (hM : M + 1 ≤ x1.heap.size)
    (hs : a.eval s = v) (hx : a.eval x = .slice (some ⟨ab, 0, none⟩) 1 1) (hblk : Blk y ab 3 #[.int .i64 j])
    (h : ∀ v' w4, IxDone x1 M n D key kl v zs j v' w4 → K (a.put o.dst v') w4) :
    if Region.wanted o (yielded ops a.tmps) = true then Oper.wp Tryz.prog o a y K Q else E := by
  obtain ⟨i0, hi0, hz0, hz1, hz2⟩ := info_parts infoIx
  have hoy : y.ownsRow (M + 1) 3 1 v zs.length (zs.map (Value.int .i64)) := hoi.1.kept hxy (by cases v.ownBlock <;> simp)
  refine step_append_lies y hgd s x 120 ho (M + 1) 3 i0 (.int .i64 0) 1 8 Tryz.underlying120 hi0 hz0 hz1 hz2 rfl (by decide) v zs.length _ hs hoy ⟨ab, 0, none⟩ 1 1 [.int .i64 j] hx rfl (World.news_of_block (cs := #[.int .i64 j]) (fr := (0, 0)) hblk) (by simp [Value.oneCell']) (by decide) (by unfold maxLen; omega) (by omega) (Nat.le_trans hM hxy.size) y.heap.size rfl ?_
  intro g cap w4 hown4 hgrow hat hlt
  have hg1 : x1.grownBy w4 v.ownBlock := grownBy_trans (grown_none hxy) hgrow
  have hoi4 : w4.ownsInts (M + 1) 3 .i64 (.slice (some ⟨g, 0, none⟩) (zs.length + 1) cap) (zs ++ [j]) := by
    refine ⟨by simpa using hown4, fun z hzz => ?_⟩
    rcases List.mem_append.1 hzz with hzz | hzz
    · exact hoi.2 z hzz
    · simp at hzz; subst hzz; exact hj
  have hloc : (Value.slice (some ⟨g, 0, none⟩) (zs.length + 1) cap).ownBlock = v.ownBlock ∨ ∃ g', (Value.slice (some ⟨g, 0, none⟩) (zs.length + 1) cap).ownBlock = some g' ∧ x1.heap.size ≤ g' := by
    rcases hat with h | h
    · exact .inl (by rw [h]; rfl)
    · exact .inr ⟨g, rfl, by rw [h]; exact hxy.size⟩
  obtain ⟨w5, hrun, hg5, hgr⟩ := hback w4 _ (zs ++ [j]) hg1 hoi4 (by simp; omega) hloc
  exact h _ w4 ⟨hg1, w5, hrun, hgr, hg5, hoi4, hloc⟩

/-- The loop's relation: j clauses are read. -/
def PgP (w : World) (cs : List Cl) (M j : Nat) (wr : World) : Prop :=
  Below w.heap.size w wr ∧ w.heap.size + 1 < M ∧ M + 2 ≤ wr.heap.size ∧ Blk wr w.heap.size 83 #[.slice none 0 0, .map none] ∧
    (∃ cur, Blk wr (w.heap.size + 1) 65 cur ∧ cur.size = cs.length * 3) ∧
    Blk wr (M + 1) 83 #[.slice (some ⟨w.heap.size + 1, 0, none⟩) cs.length cs.length, .map (some M)] ∧
    ∃ D : DataW Unit, wr.ownsGroups Tryz.prog 122 (M + 1) 3 .i64 M j D ∧ IsMap D ∧ ∀ l, HoldsD D l (idxF (cs.take j) 0 l)
theorem PgP.next {w wr x : World} {cs : List Cl} {M j : Nat} (h : PgP w cs M j wr) (hb : Below wr.heap.size wr x) : PgP w cs M j x := by
  obtain ⟨h1, h2, h3, h4, ⟨cur, h5, h6⟩, h7, D, h8, h9, h10⟩ := h
  exact ⟨h1.trans (hb.mono h1.size), h2, Nat.le_trans h3 hb.size, h4.below hb h4.lt, ⟨cur, h5.below hb h5.lt, h6⟩, h7.below hb h7.lt, D, groups_below h8 hb, h9, h10⟩
theorem PgP.cell {w wr : World} {cs : List Cl} {M j : Nat} (h : PgP w cs M j wr) (hj : j < cs.length) (i : Nat) (hi : i < 3) : (∃ v, wr.cell? ⟨w.heap.size + 1, j * 3 + i, none⟩ = some v) ∧ wr.frozen? ⟨w.heap.size + 1, j * 3 + i, none⟩ = false := by
  obtain ⟨_, _, _, _, ⟨cur, h5, h6⟩, _⟩ := h
  refine ⟨?_, h5.frozen _⟩
  rw [h5.cell]
  exact ⟨_, Array.getElem?_eq_getElem (by omega)⟩
set_option maxHeartbeats 1000000 in
/-- The store of a clause into the row. -/
theorem PgP.store {w wr : World} {cs : List Cl} {M j : Nat} (h : PgP w cs M j wr) (i0 i1 i2 : Nat) (a b c : Value) : PgP w cs M j (((wr.setCell ⟨w.heap.size + 1, i0, none⟩ a).setCell ⟨w.heap.size + 1, i1, none⟩ b).setCell ⟨w.heap.size + 1, i2, none⟩ c) := by
  obtain ⟨h1, h2, h3, h4, ⟨cur, h5, h6⟩, h7, D, h8, h9, h10⟩ := h
  have hg : wr.grownBy (((wr.setCell ⟨w.heap.size + 1, i0, none⟩ a).setCell ⟨w.heap.size + 1, i1, none⟩ b).setCell ⟨w.heap.size + 1, i2, none⟩ c) (some (w.heap.size + 1)) :=
    grownBy_set (grownBy_set (grownBy_set (show wr.grownBy wr (some (w.heap.size + 1)) from ⟨rfl, rfl, rfl, Nat.le_refl _, fun _ _ _ => rfl⟩) (.inr rfl) _) (.inr rfl) _) (.inr rfl) _
  refine ⟨((h1.setCell (by simp) _).setCell (by simp) _).setCell (by simp) _, h2, by simpa [World.setCell] using h3, ((h4.far (by simp) _).far (by simp) _).far (by simp) _, ⟨_, ((h5.set_ i0 a).set_ i1 b).set_ i2 c, by simpa using h6⟩, ((h7.far (by simp; omega) _).far (by simp; omega) _).far (by simp; omega) _, D, h8.kept hg (by simp; omega) (h8.rowsAbove (fun j hj => by cases hj; omega)), h9, h10⟩
/-- The index has clause j. -/
theorem PgP.step {w wr x w4 w5 : World} {cs : List Cl} {M j : Nat} {c : Cl} {rest : List Cl} {D : DataW Unit} {v v' : Value} {zs : List Int} (h : PgP w cs M j wr) (hd : cs.drop j = c :: rest) (hj : j < cs.length) (hx : Below wr.heap.size wr x)
    (hM : IsMap D) (hH : ∀ l, HoldsD D l (idxF (cs.take j) 0 l))
    (hat : D.atKey (pk c.s c.kids.len) .nil = rowDatum .i64 v zs) (hoi : x.ownsInts (M + 1) 3 .i64 v zs) (hg4 : x.grownBy w4 v.ownBlock) (hg5 : w4.grownBy w5 (some M))
    (ho5 : w5.ownsGroups Tryz.prog 122 (M + 1) 3 .i64 M (j + 1) (D.put (pk c.s c.kids.len) (rowDatum .i64 v' (zs ++ [(j : Int)])))) (hoi4 : w4.ownsInts (M + 1) 3 .i64 v' (zs ++ [(j : Int)])) : PgP w cs M (j + 1) w5 := by
  obtain ⟨h1, h2, h3, h4, ⟨cur, h5, h6⟩, h7, _⟩ := h.next hx
  have hz := (hH (pk c.s c.kids.len)).eq hat hoi
  have hlen : (cs.take j).length = j := by simp; omega
  have hvb : ∀ g, v.ownBlock = some g → M + 1 ≤ g ∧ ∃ ys, Blk x g 3 ys := fun g hg => by
    refine ⟨(hoi.1.lt g hg).1, ?_⟩
    rcases hoi.1.2 with ⟨rfl, _⟩ | ⟨g', cap, cur, rfl, _, hh, _⟩
    · simp [Value.ownBlock] at hg
    · simp [Value.ownBlock] at hg
      subst hg
      exact ⟨cur, hh⟩
  have keep : ∀ g t ys, Blk x g t ys → t ≠ 3 → g ≠ M → Blk w5 g t ys := fun g t ys hb ht hgm => by
    have h1 := hb.lt
    refine (hb.keep (hg4.block g h1 fun e => ?_)).keep (hg5.block g (Nat.lt_of_lt_of_le h1 hg4.size) (by simpa using hgm))
    obtain ⟨_, ys', hy⟩ := hvb g e.symm
    have h2 := hb.symm.trans hy
    simp at h2
    exact ht h2.2
  have hb5 : Below w.heap.size w w5 := ⟨hg5.os.trans (hg4.os.trans h1.os), hg5.tape.trans (hg4.tape.trans h1.tape), hg5.output.trans (hg4.output.trans h1.output), Nat.le_trans h1.size (Nat.le_trans hg4.size hg5.size), fun k hk => by
    have := h1.size
    rw [hg5.block k (by have := hg4.size; omega) (by simp; omega), hg4.block k (by omega) (fun e => by have := (hvb k e.symm).1; omega)]
    exact h1.block k hk⟩
  refine ⟨hb5, h2, Nat.le_trans h3 (Nat.le_trans hg4.size hg5.size), keep _ _ _ h4 (by decide) (by omega), ⟨cur, keep _ _ _ h5 (by decide) (by omega), h6⟩, keep _ _ _ h7 (by decide) (by omega), _, ho5, hM.put _ _, ?_⟩
  rw [take_cl cs j hd]
  subst hz
  have hst := HoldsD.step (w := w4) (base := M + 1) (e := 3) (v' := v') (cs := cs.take j) (c := c) hH hM
  rw [hlen] at hst
  exact hst hoi4
end Go.Proofs.YtmgfndgmebignaaGreatDoor

/- impl.programOf: what the row of its clauses holds, beside the index. Condition: none of its own. -/
namespace Go.Proofs.YtmgfndgmebignaaGreatDoor
open Go.RowKit Go.WideMaps Go.Maps Go.ChangeShapes

/-- Clause i of the row in block R; what it leads to lies in blocks of which No holds. -/
def CtAt (w : World) (No : Nat → Prop) (R i : Nat) (c : Cl) : Prop :=
  ∃ (A : Option Addr) (cap : Nat) (G : Option Addr) (gcap lo hi : Nat), w.cell? ⟨R, i * 3, none⟩ = some (.string c.s) ∧ w.cell? ⟨R, i * 3 + 1, none⟩ = some (.slice A c.kids.len cap) ∧ w.cell? ⟨R, i * 3 + 2, none⟩ = some (.slice G c.body.len gcap) ∧
    (∀ b, lo ≤ b → b < hi → No b) ∧ NdS w lo hi c.kids A cap ∧ GlS w lo hi c.body G gcap
def Cts (w : World) (No : Nat → Prop) (R : Nat) : List Cl → Nat → Prop
  | [], _ => True
  | c :: cs, i => CtAt w No R i c ∧ Cts w No R cs (i + 1)
theorem CtAt.keep {w w' : World} {No No' : Nat → Prop} {R i : Nat} {c : Cl} (h : CtAt w No R i c) (hk : ∀ p : Addr, No p.block → w'.cell? p = w.cell? p) (hN : ∀ b, No b → No' b)
    (hR : ∀ j, i * 3 ≤ j → j < i * 3 + 3 → w'.cell? ⟨R, j, none⟩ = w.cell? ⟨R, j, none⟩) : CtAt w' No' R i c := by
  obtain ⟨A, cap, G, gcap, lo, hi, h0, h1, h2, h3, h4, h5⟩ := h
  exact ⟨A, cap, G, gcap, lo, hi, (hR _ (by omega) (by omega)).trans h0, (hR _ (by omega) (by omega)).trans h1, (hR _ (by omega) (by omega)).trans h2, fun b h h' => hN b (h3 b h h'),
    h4.keep (fun p hl hh => hk p (h3 _ hl hh)) (Nat.le_refl _) (Nat.le_refl _), h5.keep (fun p hl hh => hk p (h3 _ hl hh)) (Nat.le_refl _) (Nat.le_refl _)⟩
theorem Cts.keep {w w' : World} {No No' : Nat → Prop} {R : Nat} (hk : ∀ p : Addr, No p.block → w'.cell? p = w.cell? p) (hN : ∀ b, No b → No' b) : ∀ (cs : List Cl) (i : Nat), (∀ j, j < (i + cs.length) * 3 → w'.cell? ⟨R, j, none⟩ = w.cell? ⟨R, j, none⟩) → Cts w No R cs i → Cts w' No' R cs i
  | [], _, _, _ => trivial
  | c :: cs, i, hR, h => ⟨h.1.keep hk hN fun j _ hj => hR j (by simp only [List.length_cons]; omega), Cts.keep hk hN cs (i + 1) (fun j hj => hR j (by simp only [List.length_cons]; omega)) h.2⟩
theorem Cts.snoc {w : World} {No : Nat → Prop} {R n : Nat} {c : Cl} (hc : CtAt w No R n c) : ∀ (cs : List Cl) (i : Nat), i + cs.length = n → Cts w No R cs i → Cts w No R (cs ++ [c]) i
  | [], i, h, _ => by
    obtain rfl : i = n := by simpa using h
    exact ⟨hc, trivial⟩
  | c' :: cs, i, h, hcs => ⟨hcs.1, Cts.snoc hc cs (i + 1) (by simp only [List.length_cons] at h; omega) hcs.2⟩
theorem Cts.get {w : World} {No : Nat → Prop} {R : Nat} {c : Cl} {rest : List Cl} : ∀ (cs : List Cl) (i j : Nat), cs.drop j = c :: rest → Cts w No R cs i → CtAt w No R (i + j) c
  | [], _, _, h, _ => by simp at h
  | c' :: cs, i, 0, h, hcs => by
    simp at h
    obtain ⟨rfl, _⟩ := h
    exact hcs.1
  | c' :: cs, i, j + 1, h, hcs => by
    have := Cts.get cs (i + 1) j (by simpa using h) hcs.2
    rwa [show i + 1 + j = i + (j + 1) by omega] at this

section
variable {P : Program} {k e : TypeId} {base b n : Nat} {q : IntKind} {D : DataW Unit} {w w4 w5 : World} {key v v' : Value} {kl : Lit}
/-- What the look-up hands over avoids what the groups avoid. -/
theorem at_shuns {t E : TypeId} (h : w.ownsGroups P k base e q b n D) (K : Keyed P k) (ht : P.underlying t = some (.map k E)) (hz : (zeroValue E).run P w = .ok (.slice none 0 0) w) (hkey : keyOf P k key = some kl)
    (hrun : (Instr.lookup t (.map (some b)) key false).run P w = .ok v w) {No : Nat → Prop} (hs : w.Shuns b No) : ∀ g, v.ownBlock = some g → ¬ No g := by
  obtain ⟨es, clock, hb, F, _⟩ := h
  intro g hg
  rcases Maps.fit_look false K ht hz hb F hkey with ⟨r, _⟩ | ⟨x, y, hx, _, r, _⟩
  · have e1 : v = .slice none 0 0 := by
      have := hrun.symm.trans r
      simpa using this
    subst e1
    cases hg
  · have e1 : v = x.val := by
      have := hrun.symm.trans r
      simpa using this
    subst e1
    exact hs es clock hb x hx g hg
/-- Behind the store they avoid it still. -/
theorem back_shuns {t E : TypeId} {zs : List Int} (h : w.ownsGroups P k base e q b n D) (K : Keyed P k) (ht : P.underlying t = some (.map k E)) (hn : n < maxLen) (hkey : keyOf P k key = some kl) (hu : w.ownsInts base e q v zs)
    (hg : w.grownBy w4 v.ownBlock) (hrun : (Instr.mapUpdate t (.map (some b)) key v').run P w4 = .ok () w5) {No : Nat → Prop} (hs : w.Shuns b No) (hno : ∀ g, v'.ownBlock = some g → ¬ No g) : w5.Shuns b No := by
  obtain ⟨es, clock, hb, F, hsz, _, hbb, _⟩ := h
  have hlt : b < w.heap.size := (Array.getElem?_eq_some_iff.1 hb).1
  have hne : some b ≠ v.ownBlock := fun e1 => Nat.lt_irrefl _ (Nat.lt_of_lt_of_le hbb (hu.1.lt b e1.symm).1)
  obtain ⟨es2, clock2, hb2, who⟩ := stored_who K ht ((hg.block b hlt hne).trans hb) F (Nat.lt_of_le_of_lt hsz hn) hkey hrun
  intro es3 clock3 hb3 y hy g hyg
  have e3 : es3 = es2 := by
    have := hb3.symm.trans hb2
    simp at this
    exact this.1
  subst e3
  rcases who y hy with h1 | h1
  · exact hs es clock hb y h1.1 g hyg
  · exact hno g (h1.2 ▸ hyg)
end

/-- j clauses stand in the row. -/
def PgC (w : World) (cs : List Cl) (M j : Nat) (wr : World) : Prop :=
  ∃ No : Nat → Prop, wr.Shuns M No ∧ (∀ g, No g → M + 1 < g ∧ g < wr.heap.size) ∧ Cts wr No (w.heap.size + 1) (cs.take j) 0
def PgX (w : World) (cs : List Cl) (M j i : Nat) (wr : World) : Prop := PgP w cs M j wr ∧ PgC w cs M i wr
theorem PgX.next {w wr x : World} {cs : List Cl} {M j i : Nat} (h : PgX w cs M j i wr) (hb : Below wr.heap.size wr x) : PgX w cs M j i x := by
  obtain ⟨hp, No, h1, h2, h3⟩ := h
  have hM := hp.2.2.1
  have hR := hp.2.1
  exact ⟨hp.next hb, No, h1.kept (grown_of_below hb) (by omega) (by simp), fun g hg => ⟨(h2 g hg).1, Nat.lt_of_lt_of_le (h2 g hg).2 hb.size⟩,
    Cts.keep (fun p hp => hb.cell (h2 _ hp).2) (fun _ h => h) _ 0 (fun j _ => hb.cell (p := ⟨w.heap.size + 1, j, none⟩) (show w.heap.size + 1 < wr.heap.size by omega)) h3⟩
theorem grown3 (w2 : World) (R i0 i1 i2 : Nat) (a b c : Value) : w2.grownBy (((w2.setCell ⟨R, i0, none⟩ a).setCell ⟨R, i1, none⟩ b).setCell ⟨R, i2, none⟩ c) (some R) :=
  grownBy_set (grownBy_set (grownBy_set (show w2.grownBy w2 (some R) from ⟨rfl, rfl, rfl, Nat.le_refl _, fun _ _ _ => rfl⟩) (.inr rfl) _) (.inr rfl) _) (.inr rfl) _
set_option maxHeartbeats 1000000 in
/-- The store of clause j into the row. -/
theorem PgX.store {w wr w2 : World} {cs : List Cl} {M j : Nat} {c : Cl} {rest : List Cl} {A G : Option Addr} {cap gcap lo : Nat} (h : PgX w cs M j j wr) (hd : cs.drop j = c :: rest) (hj : j < cs.length) (hb : Below wr.heap.size wr w2) (hlo : wr.heap.size ≤ lo)
    (hn : NdS w2 lo w2.heap.size c.kids A cap) (hg : GlS w2 lo w2.heap.size c.body G gcap) :
    PgX w cs M j (j + 1) (((w2.setCell ⟨w.heap.size + 1, j * 3, none⟩ (.string c.s)).setCell ⟨w.heap.size + 1, j * 3 + 1, none⟩ (.slice A c.kids.len cap)).setCell ⟨w.heap.size + 1, j * 3 + 2, none⟩ (.slice G c.body.len gcap)) := by
  obtain ⟨hp, No, h1, h2, h3⟩ := h
  have hp2 := hp.next hb
  have hM := hp.2.2.1
  have hR := hp.2.1
  refine ⟨hp2.store _ _ _ _ _ _, ?_⟩
  obtain ⟨_, _, _, _, ⟨cur, h5, h6⟩, _⟩ := hp2
  obtain ⟨_, _, _, _, _, _, D, hD, _⟩ := hp
  have hgr := grown3 w2 (w.heap.size + 1) (j * 3) (j * 3 + 1) (j * 3 + 2) (.string c.s) (.slice A c.kids.len cap) (.slice G c.body.len gcap)
  have q := ((h5.set_ (j * 3) (.string c.s)).set_ (j * 3 + 1) (.slice A c.kids.len cap)).set_ (j * 3 + 2) (.slice G c.body.len gcap)
  have hsz := hb.size
  have hs3 := hgr.size
  have far : ∀ p : Addr, p.block ≠ w.heap.size + 1 → p.block < w2.heap.size → (((w2.setCell ⟨w.heap.size + 1, j * 3, none⟩ (.string c.s)).setCell ⟨w.heap.size + 1, j * 3 + 1, none⟩ (.slice A c.kids.len cap)).setCell ⟨w.heap.size + 1, j * 3 + 2, none⟩ (.slice G c.body.len gcap)).cell? p = w2.cell? p := fun p hne hlt =>
    World.cell?_of_block (hgr.block p.block hlt (by simpa using hne))
  have hlen : (cs.take j).length = j := by simp; omega
  generalize (((w2.setCell ⟨w.heap.size + 1, j * 3, none⟩ (.string c.s)).setCell ⟨w.heap.size + 1, j * 3 + 1, none⟩ (.slice A c.kids.len cap)).setCell ⟨w.heap.size + 1, j * 3 + 2, none⟩ (.slice G c.body.len gcap)) = w3 at *
  refine ⟨fun g => No g ∨ (wr.heap.size ≤ g ∧ g < w2.heap.size), ?_, ?_, ?_⟩
  · exact ((h1.reno hD fun g hg => hg.imp_right (·.1)).kept (grown_of_below hb) (by omega) (by simp)).kept hgr (by omega) (by simp; omega)
  · rintro g (hg | hg)
    · have := h2 g hg
      exact ⟨this.1, by omega⟩
    · exact ⟨by omega, by omega⟩
  · rw [take_cl cs j hd]
    refine Cts.snoc (n := j) ?_ _ _ (by rw [hlen]; omega) (Cts.keep (w := wr) (No := No) (fun p hp => ?_) (fun _ h => .inl h) _ 0 (fun i hi => ?_) h3)
    · refine ⟨A, cap, G, gcap, lo, w2.heap.size, ?_, ?_, ?_, fun b h h' => .inr ⟨by omega, h'⟩, hn.keep (fun p hl hh => far p (by omega) hh) (Nat.le_refl _) (Nat.le_refl _), hg.keep (fun p hl hh => far p (by omega) hh) (Nat.le_refl _) (Nat.le_refl _)⟩
      · rw [q.cell]
        simp [Array.getElem?_setIfInBounds]
        omega
      · rw [q.cell]
        simp [Array.getElem?_setIfInBounds]
        omega
      · rw [q.cell]
        simp [Array.getElem?_setIfInBounds]
        omega
    · have := h2 _ hp
      rw [far p (by omega) (by omega), hb.cell this.2]
    · rw [hlen] at hi
      rw [q.cell]
      simp only [Array.getElem?_setIfInBounds]
      rw [if_neg (by omega), if_neg (by omega), if_neg (by omega), ← h5.cell]
      exact hb.cell (p := ⟨w.heap.size + 1, i, none⟩) (show w.heap.size + 1 < wr.heap.size by omega)
/-- The index has clause j, too. -/
theorem PgC.back {w x w4 w5 : World} {cs : List Cl} {M i : Nat} {v v' : Value} (h : PgC w cs M i x) (hR : w.heap.size + 1 < M) (hM : M < x.heap.size) (hv : ∀ g, v.ownBlock = some g → M + 1 ≤ g) (hsv : ∀ No : Nat → Prop, x.Shuns M No → ∀ g, v.ownBlock = some g → ¬ No g)
    (hg4 : x.grownBy w4 v.ownBlock) (hg5 : w4.grownBy w5 (some M)) (hloc : v'.ownBlock = v.ownBlock ∨ ∃ g, v'.ownBlock = some g ∧ x.heap.size ≤ g)
    (hs5 : ∀ No : Nat → Prop, x.Shuns M No → (∀ g, v'.ownBlock = some g → ¬ No g) → w5.Shuns M No) : PgC w cs M i w5 := by
  obtain ⟨No, h1, h2, h3⟩ := h
  have hsz : x.heap.size ≤ w5.heap.size := Nat.le_trans hg4.size hg5.size
  have blk : ∀ b, b < x.heap.size → v.ownBlock ≠ some b → b ≠ M → w5.heap[b]? = x.heap[b]? := fun b hb hn hm =>
    (hg5.block b (Nat.lt_of_lt_of_le hb hg4.size) (by simpa using hm)).trans (hg4.block b hb fun e => hn e.symm)
  refine ⟨No, hs5 No h1 fun g hg hN => ?_, fun g hg => ⟨(h2 g hg).1, by have := (h2 g hg).2; omega⟩, Cts.keep (fun p hp => ?_) (fun _ h => h) _ 0 (fun j _ => ?_) h3⟩
  · rcases hloc with e | ⟨g', e, hg'⟩
    · exact hsv No h1 g (e ▸ hg) hN
    · rw [e] at hg
      cases hg
      have := (h2 g hN).2
      omega
  · have := h2 _ hp
    exact World.cell?_of_block (blk p.block this.2 (fun e => hsv No h1 _ e hp) (by omega))
  · refine World.cell?_of_block (a := ⟨w.heap.size + 1, j, none⟩) (blk (w.heap.size + 1) (by omega) (fun e => ?_) (by omega))
    have := hv _ e
    omega
theorem PgX.step {w wr x w4 : World} {cs : List Cl} {M j : Nat} {c : Cl} {rest : List Cl} {D : DataW Unit} {v v' : Value} {zs : List Int} (h : PgX w cs M j (j + 1) wr) (hd : cs.drop j = c :: rest) (hj : j < cs.length) (hx : Below wr.heap.size wr x)
    (hD : wr.ownsGroups Tryz.prog 122 (M + 1) 3 .i64 M j D) (hjl : j < maxLen) (hM : IsMap D) (hH : ∀ l, HoldsD D l (idxF (cs.take j) 0 l)) (hkey : keyOf Tryz.prog 122 (.agg #[.string c.s, .int .i64 (c.kids.len : Int)]) = some (pk c.s c.kids.len))
    (hrun : (Instr.lookup 81 (.map (some M)) (.agg #[.string c.s, .int .i64 (c.kids.len : Int)]) false).run Tryz.prog x = .ok v x)
    (hat : D.atKey (pk c.s c.kids.len) .nil = rowDatum .i64 v zs) (hoi : x.ownsInts (M + 1) 3 .i64 v zs) (hd1 : IxDone x M j D (.agg #[.string c.s, .int .i64 (c.kids.len : Int)]) (pk c.s c.kids.len) v zs j v' w4) :
    ∃ w5, (Instr.mapUpdate 81 (.map (some M)) (.agg #[.string c.s, .int .i64 (c.kids.len : Int)]) v').run Tryz.prog w4 = .ok () w5 ∧ w4.grownBy w5 (some M) ∧ PgX w cs M (j + 1) (j + 1) w5 := by
  obtain ⟨hg4, w5, hrun5, hg5, ho5, hoi4, hloc⟩ := hd1
  have hn := h.next hx
  refine ⟨w5, hrun5, hg5, h.1.step hd hj hx hM hH hat hoi hg4 hg5 ho5 hoi4, hn.2.back hn.1.2.1 (by have := hn.1.2.2.1; omega) (fun g hg => (hoi.1.lt g hg).1) (fun No hs => at_shuns (groups_below hD hx) lawK Tryz.underlying81 (zeroIx _) hkey hrun hs) hg4 hg5 hloc fun No hs hno => back_shuns (groups_below hD hx) lawK Tryz.underlying81 hjl hkey hoi hg4 hrun5 hs hno⟩
/-- What stands in the row in the end. -/
theorem PgC.done {w wr : World} {cs : List Cl} {M : Nat} (h : PgC w cs M cs.length wr) (hR : w.heap.size + 1 < M) : Cts wr (fun g => w.heap.size + 1 < g ∧ g < wr.heap.size) (w.heap.size + 1) cs 0 := by
  obtain ⟨No, _, h2, h3⟩ := h
  rw [List.take_length] at h3
  exact Cts.keep (fun _ _ => rfl) (fun b hb => by have := h2 b hb; exact ⟨by omega, this.2⟩) cs 0 (fun _ _ => rfl) h3
end Go.Proofs.YtmgfndgmebignaaGreatDoor
