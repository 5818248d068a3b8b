/- laws.toClause, toClauseS. Condition: the clauses lie in memory; no more than the law's budget. -/
import Derived.Test.YtlapdnllncoomaaDoorProg
import Derived.Test.YtlapdnllncoomaaDoorClZ
import Derived.OwnWalk
namespace Go.Proofs.YtlapdnllncoomaaDoor
open Go.RowKit

theorem cset5 {w : World} {g : Nat} {t : TypeId} {x0 x1 x2 x3 x4 : Value} (h : Blk w g t #[x0, x1, x2, x3, x4]) (a b c d e : Value) : Blk (((((w.setCell ⟨g, 0, none⟩ a).setCell ⟨g, 1, none⟩ b).setCell ⟨g, 2, none⟩ c).setCell ⟨g, 3, none⟩ d).setCell ⟨g, 4, none⟩ e) g t #[a, b, c, d, e] := ((((h.set_ 0 a).set_ 1 b).set_ 2 c).set_ 3 d).set_ 4 e
theorem ccells5 {w : World} {g : Nat} {t : TypeId} {a b c d e : Value} (h : Blk w g t #[a, b, c, d, e]) :
    w.cell? ⟨g, 0, none⟩ = some a ∧ w.cell? ⟨g, 1, none⟩ = some b ∧ w.cell? ⟨g, 2, none⟩ = some c ∧ w.cell? ⟨g, 3, none⟩ = some d ∧ w.cell? ⟨g, 4, none⟩ = some e := ⟨h.cell 0, h.cell 1, h.cell 2, h.cell 3, h.cell 4⟩
theorem cfrozen5 {w : World} {g : Nat} {t : TypeId} {cs : Array Value} (h : Blk w g t cs) :
    w.frozen? ⟨g, 0, none⟩ = false ∧ w.frozen? ⟨g, 1, none⟩ = false ∧ w.frozen? ⟨g, 2, none⟩ = false ∧ w.frozen? ⟨g, 3, none⟩ = false ∧ w.frozen? ⟨g, 4, none⟩ = false := ⟨h.frozen 0, h.frozen 1, h.frozen 2, h.frozen 3, h.frozen 4⟩
theorem madeCl_of {w w3 w2 w4 w5 w6 : World} {c : Cl} {A B : Option Addr} {cap capB : Nat} (hb0 : Below w.heap.size w w3) (hm : Made w3 c.kids A cap w2) (hs4 : w4.heap.size = w2.heap.size) (h4 : ∀ x, w3.heap.size ≤ x → w4.heap[x]? = w2.heap[x]?) (hb4 : Below w.heap.size w2 w4)
    (hm2 : Made w4 c.body B capB w5) (hs6 : w6.heap.size = w5.heap.size) (h6 : ∀ x, w3.heap.size ≤ x → w6.heap[x]? = w5.heap[x]?) (hb6 : Below w.heap.size w5 w6) : MadeCl w c A cap B capB w6 := by
  obtain ⟨L1, o1, n1, l1, b1⟩ := hm
  obtain ⟨L2, o2, n2, l2, b2⟩ := hm2
  have s1 := hb0.size
  have s2 := b1.size
  have s3 := b2.size
  refine ⟨L1, L2, o1.keep fun x hx => ?_, o2.keep fun x hx => h6 x ?_, List.nodup_append.2 ⟨n1, n2, fun a ha b hb => ?_⟩, fun x hx => ?_, ?_⟩
  · have := l1 x hx
    rw [h6 x this.1, b2.block x (by omega), h4 x this.1]
  · have := l2 x hx; omega
  · have := l1 a ha; have := l2 b hb; omega
  · rcases List.mem_append.1 hx with hx | hx
    · have := l1 x hx; omega
    · have := l2 x hx; omega
  · exact ((hb0.trans (b1.mono s1)).trans hb4).trans ((b2.mono (by omega)).trans hb6)

set_option maxRecDepth 100000 in
set_option maxHeartbeats 2000000 in
/-- laws.toClause. -/
theorem toC_any (c : Cl) (A B : Option Addr) (cap capB lo hi : Nat) (w : World) (hk : KidsAt w lo hi c.kids A cap) (hkb : KidsAt w lo hi c.body B capB) (hh : hi ≤ w.heap.size) (hwt : wtC c ≤ 1048576) :
    Calls Tryd.prog 42 #[.agg #[.int .i64 c.k, .int .i64 c.n, .string c.s, .slice A c.kids.len cap, .slice B c.body.len capB]] w fun e w' => ∃ A2 cap2 B2 capB2, e = .returned (.agg #[.int .i64 c.k, .int .i64 c.n, .string c.s, .slice A2 c.kids.len cap2, .slice B2 c.body.len capB2]) ∧ MadeCl w c A2 cap2 B2 capB2 w' := by
  obtain ⟨k, n, s, kids, body⟩ := c
  simp only at *
  unfold wtC at hwt
  have C1 := fun w1 (hb : Below w.heap.size w w1) => toT_any k n s kids A cap lo hi w1 (hk.below hb hh) (Nat.le_trans hh hb.size) (by simp only at hwt; omega)
  have C2 := fun w1 (hb : Below w.heap.size w w1) => toS_any body B capB lo hi w1 (hkb.below hb hh) (Nat.le_trans hh hb.size) (by simp only at hwt; omega)
  have H1 := Lib.hid C1
  have H2 := Lib.hid C2
  clear C1 C2 hk hkb hh hwt
  go_enter Tryd.func42, Tryd.ntmps42
  go_wp2_with fail
  have hb0 : Below w.heap.size w (((w.alloc (.cells #[.int .i64 k, .int .i64 n, .string s, .slice A kids.len cap, .slice B body.len capB] 65)).alloc (.cells #[.int .i64 0, .int .i64 0, .string ⟨#[]⟩, .slice none 0 0, .slice none 0 0] 68)).alloc (.cells #[.int .i64 0, .int .i64 0, .string ⟨#[]⟩, .slice none 0 0, .slice none 0 0] 68)) :=
    (((Below.refl _ _).alloc (Nat.le_refl _) _).alloc (by simp) _).alloc (by simp; omega) _
  have b0 : Blk (((w.alloc (.cells #[.int .i64 k, .int .i64 n, .string s, .slice A kids.len cap, .slice B body.len capB] 65)).alloc (.cells #[.int .i64 0, .int .i64 0, .string ⟨#[]⟩, .slice none 0 0, .slice none 0 0] 68)).alloc (.cells #[.int .i64 0, .int .i64 0, .string ⟨#[]⟩, .slice none 0 0, .slice none 0 0] 68)) w.heap.size 65 #[.int .i64 k, .int .i64 n, .string s, .slice A kids.len cap, .slice B body.len capB] :=
    ((Blk.new w 65 #[.int .i64 k, .int .i64 n, .string s, .slice A kids.len cap, .slice B body.len capB]).alloc _).alloc _
  have b1 : Blk (((w.alloc (.cells #[.int .i64 k, .int .i64 n, .string s, .slice A kids.len cap, .slice B body.len capB] 65)).alloc (.cells #[.int .i64 0, .int .i64 0, .string ⟨#[]⟩, .slice none 0 0, .slice none 0 0] 68)).alloc (.cells #[.int .i64 0, .int .i64 0, .string ⟨#[]⟩, .slice none 0 0, .slice none 0 0] 68)) (w.heap.size + 1) 68 #[.int .i64 0, .int .i64 0, .string ⟨#[]⟩, .slice none 0 0, .slice none 0 0] := by
    have h := (Blk.new (w.alloc (.cells #[.int .i64 k, .int .i64 n, .string s, .slice A kids.len cap, .slice B body.len capB] 65)) 68 #[.int .i64 0, .int .i64 0, .string ⟨#[]⟩, .slice none 0 0, .slice none 0 0]).alloc (.cells #[.int .i64 0, .int .i64 0, .string ⟨#[]⟩, .slice none 0 0, .slice none 0 0] 68)
    simpa using h
  have b2 : Blk (((w.alloc (.cells #[.int .i64 k, .int .i64 n, .string s, .slice A kids.len cap, .slice B body.len capB] 65)).alloc (.cells #[.int .i64 0, .int .i64 0, .string ⟨#[]⟩, .slice none 0 0, .slice none 0 0] 68)).alloc (.cells #[.int .i64 0, .int .i64 0, .string ⟨#[]⟩, .slice none 0 0, .slice none 0 0] 68)) (w.heap.size + 1 + 1) 68 #[.int .i64 0, .int .i64 0, .string ⟨#[]⟩, .slice none 0 0, .slice none 0 0] := by
    have h := Blk.new ((w.alloc (.cells #[.int .i64 k, .int .i64 n, .string s, .slice A kids.len cap, .slice B body.len capB] 65)).alloc (.cells #[.int .i64 0, .int .i64 0, .string ⟨#[]⟩, .slice none 0 0, .slice none 0 0] 68)) 68 #[.int .i64 0, .int .i64 0, .string ⟨#[]⟩, .slice none 0 0, .slice none 0 0]
    simpa using h
  have hsz : (((w.alloc (.cells #[.int .i64 k, .int .i64 n, .string s, .slice A kids.len cap, .slice B body.len capB] 65)).alloc (.cells #[.int .i64 0, .int .i64 0, .string ⟨#[]⟩, .slice none 0 0, .slice none 0 0] 68)).alloc (.cells #[.int .i64 0, .int .i64 0, .string ⟨#[]⟩, .slice none 0 0, .slice none 0 0] 68)).heap.size = w.heap.size + 1 + 1 + 1 := by simp
  generalize (((w.alloc (.cells #[.int .i64 k, .int .i64 n, .string s, .slice A kids.len cap, .slice B body.len capB] 65)).alloc (.cells #[.int .i64 0, .int .i64 0, .string ⟨#[]⟩, .slice none 0 0, .slice none 0 0] 68)).alloc (.cells #[.int .i64 0, .int .i64 0, .string ⟨#[]⟩, .slice none 0 0, .slice none 0 0] 68)) = w3 at *
  refine (H1.out _ hb0).mono ?_
  rintro e w2 ⟨A2, cap2, rfl, hm⟩
  have hb2 : Below w3.heap.size w3 w2 := by obtain ⟨L, _, _, _, h⟩ := hm; exact h
  have q0 := b0.below hb2 (by omega)
  have q1 := b1.below hb2 (by omega)
  have q2 := b2.below hb2 (by omega)
  obtain ⟨c0, c1, c2, c3, c4⟩ := ccells5 q2
  obtain ⟨f0, f1, f2, f3, f4⟩ := cfrozen5 q2
  have a4 := q0.cell 4
  simp only [List.getElem?_toArray, List.getElem?_cons_zero, List.getElem?_cons_succ] at a4
  have hl2 := hb2.size
  rw [hsz] at hl2
  have HQ1 := Lib.hid q1
  have HQ2 := Lib.hid q2
  have HM := Lib.hid hm
  have HB0 := Lib.hid hb0
  have HB2 := Lib.hid hb2
  have HSZ := Lib.hid hsz
  clear hm hb0 hb2 b0 b1 b2 q0 q1 q2 hsz
  go_wp2_with fail
  have hb4 : Below w.heap.size w2 ((((w2.setCell ⟨w.heap.size + 1 + 1, 0, none⟩ (.int .i64 k)).setCell ⟨w.heap.size + 1 + 1, 1, none⟩ (.int .i64 n)).setCell ⟨w.heap.size + 1 + 1, 2, none⟩ (.string s)).setCell ⟨w.heap.size + 1 + 1, 3, none⟩ (.slice A2 kids.len cap2)) :=
    ((((Below.refl _ _).setCell (by simp only; omega) _).setCell (by simp only; omega) _).setCell (by simp only; omega) _).setCell (by simp only; omega) _
  have far4 : ∀ x, x ≠ w.heap.size + 1 + 1 → ((((w2.setCell ⟨w.heap.size + 1 + 1, 0, none⟩ (.int .i64 k)).setCell ⟨w.heap.size + 1 + 1, 1, none⟩ (.int .i64 n)).setCell ⟨w.heap.size + 1 + 1, 2, none⟩ (.string s)).setCell ⟨w.heap.size + 1 + 1, 3, none⟩ (.slice A2 kids.len cap2)).heap[x]? = w2.heap[x]? := fun x hx => by
    rw [heap_setCell_other _ _ _ _ (show x ≠ w.heap.size + 1 + 1 from hx), heap_setCell_other _ _ _ _ (show x ≠ w.heap.size + 1 + 1 from hx), heap_setCell_other _ _ _ _ (show x ≠ w.heap.size + 1 + 1 from hx), heap_setCell_other _ _ _ _ (show x ≠ w.heap.size + 1 + 1 from hx)]
  have p2 : Blk ((((w2.setCell ⟨w.heap.size + 1 + 1, 0, none⟩ (.int .i64 k)).setCell ⟨w.heap.size + 1 + 1, 1, none⟩ (.int .i64 n)).setCell ⟨w.heap.size + 1 + 1, 2, none⟩ (.string s)).setCell ⟨w.heap.size + 1 + 1, 3, none⟩ (.slice A2 kids.len cap2)) (w.heap.size + 1 + 1) 68 #[.int .i64 k, .int .i64 n, .string s, .slice A2 kids.len cap2, .slice none 0 0] := (((HQ2.out.set_ 0 _).set_ 1 _).set_ 2 _).set_ 3 _
  have p1 : Blk ((((w2.setCell ⟨w.heap.size + 1 + 1, 0, none⟩ (.int .i64 k)).setCell ⟨w.heap.size + 1 + 1, 1, none⟩ (.int .i64 n)).setCell ⟨w.heap.size + 1 + 1, 2, none⟩ (.string s)).setCell ⟨w.heap.size + 1 + 1, 3, none⟩ (.slice A2 kids.len cap2)) (w.heap.size + 1) 68 #[.int .i64 0, .int .i64 0, .string ⟨#[]⟩, .slice none 0 0, .slice none 0 0] := HQ1.out.keep (far4 _ (by omega))
  have hs4 : ((((w2.setCell ⟨w.heap.size + 1 + 1, 0, none⟩ (.int .i64 k)).setCell ⟨w.heap.size + 1 + 1, 1, none⟩ (.int .i64 n)).setCell ⟨w.heap.size + 1 + 1, 2, none⟩ (.string s)).setCell ⟨w.heap.size + 1 + 1, 3, none⟩ (.slice A2 kids.len cap2)).heap.size = w2.heap.size := by simp [World.setCell]
  generalize ((((w2.setCell ⟨w.heap.size + 1 + 1, 0, none⟩ (.int .i64 k)).setCell ⟨w.heap.size + 1 + 1, 1, none⟩ (.int .i64 n)).setCell ⟨w.heap.size + 1 + 1, 2, none⟩ (.string s)).setCell ⟨w.heap.size + 1 + 1, 3, none⟩ (.slice A2 kids.len cap2)) = w4 at *
  have hb04 : Below w.heap.size w w4 := (HB0.out.trans (HB2.out.mono HB0.out.size)).trans hb4
  refine (H2.out _ hb04).mono ?_
  rintro e w5 ⟨B2, capB2, rfl, hm2⟩
  have hb5 : Below w4.heap.size w4 w5 := by obtain ⟨L, _, _, _, h⟩ := hm2; exact h
  have r1 := p1.below hb5 p1.lt
  have r2 := p2.below hb5 p2.lt
  obtain ⟨d0, d1, d2, d3, d4⟩ := ccells5 r2
  obtain ⟨g0, g1, g2, g3, g4⟩ := cfrozen5 r2
  obtain ⟨e0, e1, e2, e3, e4⟩ := ccells5 r1
  obtain ⟨i0, i1, i2, i3, i4⟩ := cfrozen5 r1
  have hl5 : w.heap.size + 1 + 1 + 1 ≤ w5.heap.size := by have := hb5.size; omega
  have HR1 := Lib.hid r1
  have HM2 := Lib.hid hm2
  have HB4 := Lib.hid hb4
  have HF4 := Lib.hid far4
  have HS4 := Lib.hid hs4
  clear hm2 hb5 p1 p2 r1 r2 hb4 far4 hs4 hb04 c0 c1 c2 c3 c4 f0 f1 f2 f3 f4 a4
  go_wp2_with fail
  have e0' := HR1.out.far (p := ⟨w.heap.size + 1 + 1, 4, none⟩) (by simp) (.slice B2 body.len capB2)
  have e1' := cset5 e0' (.int .i64 k) (.int .i64 n) (.string s) (.slice A2 kids.len cap2) (.slice B2 body.len capB2)
  refine bodyPost_ret (v := .agg #[.int .i64 k, .int .i64 n, .string s, .slice A2 kids.len cap2, .slice B2 body.len capB2]) ?_ rfl ⟨A2, cap2, B2, capB2, rfl, madeCl_of HB0.out HM.out HS4.out (fun x hx => HF4.out x ?_) HB4.out HM2.out ?_ (fun x hx => ?_) ?_⟩
  · exact results_cell_row Tryd.results42 _ _ (w.heap.size + 1) _ _ _ _ rfl e1' Tryd.underlying68 rfl (by kernel_rfl)
  · have := HSZ.out; omega
  · simp [World.setCell]
  · have := HSZ.out
    rw [heap_setCell_other _ _ _ _ (by show x ≠ w.heap.size + 1; omega), heap_setCell_other _ _ _ _ (by show x ≠ w.heap.size + 1; omega), heap_setCell_other _ _ _ _ (by show x ≠ w.heap.size + 1; omega), heap_setCell_other _ _ _ _ (by show x ≠ w.heap.size + 1; omega), heap_setCell_other _ _ _ _ (by show x ≠ w.heap.size + 1; omega), heap_setCell_other _ _ _ _ (by show x ≠ w.heap.size + 1 + 1; omega)]
  · exact ((((((Below.refl _ _).setCell (by simp only; omega) _).setCell (by simp only; omega) _).setCell (by simp only; omega) _).setCell (by simp only; omega) _).setCell (by simp only; omega) _).setCell (by simp only; omega) _

/-- The loop's relation: k clauses are made, in block g. -/
def PartC (w : World) (cs : List Cl) (g k : Nat) (wr : World) : Prop :=
  ∃ cur L, Blk wr g 68 cur ∧ cur.size = cs.length * 5 ∧ OwnC wr (cs.take k) g 0 L ∧ L.Nodup ∧ (∀ x ∈ L, g < x ∧ x < wr.heap.size) ∧ w.heap.size ≤ g ∧ Below w.heap.size w wr
theorem PartC.below {w wr : World} {cs : List Cl} {g k : Nat} (h : PartC w cs g k wr) : Below w.heap.size w wr := by
  obtain ⟨cur, L, _, _, _, _, _, _, hb⟩ := h; exact hb
/-- What the store into element k asks. -/
theorem PartC.cells {w wr w2 : World} {cs : List Cl} {g k : Nat} (h : PartC w cs g k wr) (hk : k < cs.length) (hb : Below wr.heap.size wr w2) (j : Nat) (hj : j < 5) :
    (∃ v, w2.cell? ⟨g, k * 5 + j, none⟩ = some v) ∧ w2.frozen? ⟨g, k * 5 + j, none⟩ = false := by
  obtain ⟨cur, L, hblk, hs, _⟩ := h
  have hb2 := hblk.below hb hblk.lt
  refine ⟨?_, hb2.frozen _⟩
  rw [hb2.cell]
  exact ⟨_, Array.getElem?_eq_getElem (by omega)⟩
theorem take_cl (cs : List Cl) (i : Nat) {c : Cl} {rest : List Cl} (h : cs.drop i = c :: rest) : cs.take (i + 1) = cs.take i ++ [c] := by
  have hi : cs[i]? = some c := by
    have := List.getElem?_drop (xs := cs) (i := i) (j := 0)
    rw [h] at this
    simpa using this.symm
  rw [List.take_add_one, hi]
  rfl
/-- One clause more. -/
theorem PartC.step {w wr w2 : World} {cs : List Cl} {g i : Nat} {c : Cl} {rest : List Cl} {A B : Option Addr} {cap capB : Nat} (h : PartC w cs g i wr) (hd : cs.drop i = c :: rest) (hi : i < cs.length) (hf : Fits c.k c.n c.s) (hm : MadeCl wr c A cap B capB w2) :
    PartC w cs g (i + 1) (((((w2.setCell ⟨g, i * 5, none⟩ (.int .i64 c.k)).setCell ⟨g, i * 5 + 1, none⟩ (.int .i64 c.n)).setCell ⟨g, i * 5 + 2, none⟩ (.string c.s)).setCell ⟨g, i * 5 + 3, none⟩ (.slice A c.kids.len cap)).setCell ⟨g, i * 5 + 4, none⟩ (.slice B c.body.len capB)) := by
  obtain ⟨cur, L, hblk, hs, ho, hn, hL, hg, hb⟩ := h
  obtain ⟨L1, L2, ho1, ho2, hn', hL', hb'⟩ := hm
  have hblk2 := hblk.below hb' hblk.lt
  have hlt := hblk.lt
  have b1 := ((((hblk2.set_ (i * 5) (.int .i64 c.k)).set_ (i * 5 + 1) (.int .i64 c.n)).set_ (i * 5 + 2) (.string c.s)).set_ (i * 5 + 3) (.slice A c.kids.len cap)).set_ (i * 5 + 4) (.slice B c.body.len capB)
  have far : ∀ x, x ≠ g → (((((w2.setCell ⟨g, i * 5, none⟩ (.int .i64 c.k)).setCell ⟨g, i * 5 + 1, none⟩ (.int .i64 c.n)).setCell ⟨g, i * 5 + 2, none⟩ (.string c.s)).setCell ⟨g, i * 5 + 3, none⟩ (.slice A c.kids.len cap)).setCell ⟨g, i * 5 + 4, none⟩ (.slice B c.body.len capB)).heap[x]? = w2.heap[x]? := fun x hx => by
    rw [heap_setCell_other _ _ _ _ (show x ≠ g from hx), heap_setCell_other _ _ _ _ (show x ≠ g from hx), heap_setCell_other _ _ _ _ (show x ≠ g from hx), heap_setCell_other _ _ _ _ (show x ≠ g from hx), heap_setCell_other _ _ _ _ (show x ≠ g from hx)]
  have hsz : (((((w2.setCell ⟨g, i * 5, none⟩ (.int .i64 c.k)).setCell ⟨g, i * 5 + 1, none⟩ (.int .i64 c.n)).setCell ⟨g, i * 5 + 2, none⟩ (.string c.s)).setCell ⟨g, i * 5 + 3, none⟩ (.slice A c.kids.len cap)).setCell ⟨g, i * 5 + 4, none⟩ (.slice B c.body.len capB)).heap.size = w2.heap.size := by simp [World.setCell]
  generalize hw3 : ((((w2.setCell ⟨g, i * 5, none⟩ (.int .i64 c.k)).setCell ⟨g, i * 5 + 1, none⟩ (.int .i64 c.n)).setCell ⟨g, i * 5 + 2, none⟩ (.string c.s)).setCell ⟨g, i * 5 + 3, none⟩ (.slice A c.kids.len cap)).setCell ⟨g, i * 5 + 4, none⟩ (.slice B c.body.len capB) = w3 at *
  have hb3 : Below w.heap.size w w3 := by
    subst hw3
    exact (((((hb.trans (hb'.mono hb.size)).setCell hg _).setCell hg _).setCell hg _).setCell hg _).setCell hg _
  have hlen : (cs.take i).length = i := by simp; omega
  have htk := take_cl cs i hd
  refine ⟨_, L ++ (L1 ++ L2), b1, by simpa using hs, ?_, ?_, ?_, hg, hb3⟩
  · rw [htk]
    have own1 : OwnS w3 c.kids A cap L1 := ho1.keep fun x hx => far x (by have := (hL' x (by simp [hx])).1; omega)
    have own2 : OwnS w3 c.body B capB L2 := ho2.keep fun x hx => far x (by have := (hL' x (by simp [hx])).1; omega)
    refine OwnC.snoc hf own1 own2 (cs.take i) g 0 L ?_ ?_ ?_ ?_ ?_ ?_
    · refine OwnC.keep (cs.take i) g 0 L ho (fun j hj => ?_) fun x hx => ?_
      · rw [hlen] at hj
        rw [b1.cell, hblk.cell]
        simp only [Array.getElem?_setIfInBounds]
        rw [if_neg (by omega), if_neg (by omega), if_neg (by omega), if_neg (by omega), if_neg (by omega)]
      · rw [far x (by have := (hL x hx).1; omega)]
        exact hb'.block x (hL x hx).2
    all_goals
      rw [hlen, b1.cell]
      simp [Array.getElem?_setIfInBounds]
      omega
  · refine List.nodup_append.2 ⟨hn, hn', fun a ha b hb => ?_⟩
    have := (hL a ha).2
    have := (hL' b hb).1
    omega
  · intro x hx
    rw [hsz]
    rcases List.mem_append.1 hx with hx | hx
    · have := (hL x hx); have := hb'.size; omega
    · have := hL' x hx; omega
theorem PartC.start {w w1 : World} {cs : List Cl} {base : Nat} {xs : List Value} (hown : w1.ownsRow base 68 5 (.slice (some ⟨w.heap.size, 0, none⟩) cs.length cs.length) cs.length xs) (hg : w.grownBy w1 none) : PartC w cs w.heap.size 0 w1 := by
  rcases hown.2 with ⟨h', _⟩ | ⟨g', cap', cur, h', _, hb, _, _, hs, _⟩
  · simp at h'
  · simp only [Value.slice.injEq, Option.some.injEq, Addr.mk.injEq, and_true, true_and] at h'
    obtain ⟨rfl, rfl⟩ := h'
    exact ⟨cur, [], hb, hs, rfl, List.nodup_nil, fun x hx => by simp at hx, Nat.le_refl _, (Below.refl _ _).grown hg (Nat.le_refl _) (fun k hk => by cases hk)⟩
theorem PartC.done {w wr : World} {cs : List Cl} {g : Nat} (h : PartC w cs g cs.length wr) (hl : cs.length ≤ maxLen) : MadeC w cs (some ⟨g, 0, none⟩) cs.length wr := by
  obtain ⟨cur, L, hblk, hs, ho, hn, hL, hg, hb⟩ := h
  rw [List.take_length] at ho
  refine ⟨g :: L, ⟨Nat.le_refl _, hl, g, L, cur, rfl, rfl, hblk, hs, ho⟩, List.nodup_cons.2 ⟨fun hx => ?_, hn⟩, fun x hx => ?_, hb⟩
  · have := (hL g hx).1; omega
  · rcases List.mem_cons.1 hx with rfl | hx
    · exact ⟨hg, hblk.lt⟩
    · have := hL x hx; omega

set_option maxRecDepth 100000 in
set_option maxHeartbeats 2000000 in
/-- laws.toClauseS. -/
theorem toCS_any (cs : List Cl) (A : Option Addr) (cap lo hi : Nat) (w : World) (hk : ClS w lo hi cs A cap) (hh : hi ≤ w.heap.size) (hwt : cs.length + wtCs cs ≤ 1048576) :
    Calls Tryd.prog 15 #[.slice A cs.length cap] w fun e w' => ∃ A2, e = .returned (.slice A2 cs.length cs.length) ∧ MadeC w cs A2 cs.length w' := by
  have HK := Lib.hid hk
  have HHI := Lib.hid hh
  have HWT := Lib.hid hwt
  have hl : cs.length ≤ 1048576 := by omega
  have hst := fun w1 base xs => PartC.start (w := w) (w1 := w1) (cs := cs) (base := base) (xs := xs)
  have hfin := fun wr => PartC.done (w := w) (wr := wr) (cs := cs) (g := w.heap.size)
  have HST := Lib.hid hst
  have HFIN := Lib.hid hfin
  clear hk hh hwt hst hfin
  generalize hn : cs.length = len at *
  have HN := Lib.hid hn
  clear hn
  obtain ⟨i0, hi0, hz0, hz1, hz2⟩ := info_parts infoC
  go_enter Tryd.func15, Tryd.ntmps15
  go_wp2_with (at_make; go_must (refine wpList_make_full _ rfl _ _ 37 rfl w.heap.size 68 i0 _ 5 Tryd.underlying37 hi0 hz0 hz1 .i64 .i64 _ _ len rfl rfl rfl rfl (by rw [hz2]; omega) (by unfold maxLen; omega) (Nat.le_refl _) ?_); intro w1 hown hgrow)
  have hp0 := HST.out _ _ _ hown hgrow
  have HP0 := Lib.hid hp0
  clear hp0 hown hgrow HST hi0 hz0 hz1 hz2
  go_loopw [4] (fun i wr => ∃ (k : Nat), k ≤ len ∧ i = .int .i64 k ∧ PartC w cs w.heap.size k wr) (fun i _ => len - (intOf i).toNat)
  case atStart => exact ⟨0, Nat.zero_le _, rfl, HP0.out⟩
  case round =>
    obtain ⟨k, hk, rfl, hpart⟩ := hrel
    have HPT := Lib.hid hpart
    clear hpart
    by_cases hlt : k < len
    · have hltf : k < cs.length := by rw [HN.out]; exact hlt
      obtain ⟨c, hd⟩ := drop_cl cs k hltf
      obtain ⟨b, o, rfl, hlb, hbb, hrow⟩ := HK.out.2.2 (by rw [HN.out]; omega)
      obtain ⟨hfit, A', cap', B', capB', c0, c1, c2, c3, c4, hkid, hbd⟩ := ClAt.elem k cs b o hrow hd
      have hb := HPT.out.below
      have hlo : (⟨b, o, none⟩ : Addr).block < w.heap.size := Nat.lt_of_lt_of_le hbb HHI.out
      have k0 := (hb.cell (p := ⟨b, o + k * 5, none⟩) hlo).trans c0
      have k1 := (hb.cell (p := ⟨b, o + k * 5 + 1, none⟩) hlo).trans c1
      have k2 := (hb.cell (p := ⟨b, o + k * 5 + 2, none⟩) hlo).trans c2
      have k3 := (hb.cell (p := ⟨b, o + k * 5 + 3, none⟩) hlo).trans c3
      have k4 := (hb.cell (p := ⟨b, o + k * 5 + 4, none⟩) hlo).trans c4
      have hwe := wtC_le cs k hd
      have C1 := toC_any c A' B' cap' capB' lo hi wr (hkid.below hb HHI.out) (hbd.below hb HHI.out) (Nat.le_trans HHI.out hb.size) (by have := HWT.out; omega)
      have cellsOf := fun w2 (hb : Below wr.heap.size wr w2) j hj => HPT.out.cells hltf hb j hj
      have stepOf := fun A cap B capB w2 (hm : MadeCl wr c A cap B capB w2) => HPT.out.step hd hltf hfit hm
      have below2 := fun A cap B capB w2 (hm : MadeCl wr c A cap B capB w2) => hm.at_.2.2
      have H1 := Lib.hid C1
      have HC := Lib.hid cellsOf
      have HS := Lib.hid stepOf
      have HBL := Lib.hid below2
      clear C1 hb c0 c1 c2 c3 c4 hkid hbd hrow hfit hd hlo hwe cellsOf stepOf hltf below2
      obtain ⟨ck, cn, csx, ckids, cbody⟩ := c
      simp only at *
      go_wp2_with fail
      refine H1.out.mono ?_
      rintro e w2 ⟨A2, cap2, B2, capB2, rfl, hm⟩
      have hb2 : Below wr.heap.size wr w2 := HBL.out _ _ _ _ _ hm
      obtain ⟨⟨v0, d0⟩, f0⟩ := HC.out w2 hb2 0 (by omega)
      obtain ⟨⟨v1, d1⟩, f1⟩ := HC.out w2 hb2 1 (by omega)
      obtain ⟨⟨v2, d2⟩, f2⟩ := HC.out w2 hb2 2 (by omega)
      obtain ⟨⟨v3, d3⟩, f3⟩ := HC.out w2 hb2 3 (by omega)
      obtain ⟨⟨v4, d4⟩, f4⟩ := HC.out w2 hb2 4 (by omega)
      rw [Nat.add_zero] at d0 f0
      have hstep := HS.out A2 cap2 B2 capB2 w2 hm
      have HST := Lib.hid hstep
      clear hm hb2 hstep k0 k1 k2 k3 k4
      go_wp2_with fail
      go_roundw
      case rel => exact ⟨k + 1, by omega, by go_num, HST.out⟩
      case measure => simp [intOf]; omega
    · obtain rfl : k = len := by omega
      have hfin := HFIN.out wr HPT.out (by unfold maxLen; omega)
      have HF := Lib.hid hfin
      clear hfin
      go_wp2_with fail
      go_ret
      exact ⟨_, rfl, HF.out⟩
end Go.Proofs.YtlapdnllncoomaaDoor
