/- opWriter.writeOperand, given the contract of writeWritten. Condition: the node lies in memory below the writer and is well-formed; the tables in their places. -/
import Derived.Test.YtmgfndgmebignaaGreatDoorProg
import Derived.Test.YtmgfndgmebignaaGreatDoorZmFQ43
import Derived.Test.YtmgfndgmebignaaGreatDoorZmFQ45
import Derived.Test.YtmgfndgmebignaaGreatDoorZmFQ46
namespace Go.Proofs.YtmgfndgmebignaaGreatDoor.wr
open Go.RowKit

theorem TF.rows {mb : Nat} {w w1 w6 : World} {tv : Value} {n : Nat} {xs : List Value} (hm : mb < w.heap.size) (ho : w.ownsRow (mb + 1) 5 1 tv n xs) (h1 : Below w.heap.size w w1) (hg : w1.grownBy w6 tv.ownBlock) : TF mb w w6 := by
  refine ⟨(h1.mono (Nat.le_of_lt hm)).grown hg (Nat.le_trans (Nat.le_of_lt hm) h1.size) fun k hk => by have := (ho.lt k hk).1; omega, ?_⟩
  refine (TF.below h1 (Nat.le_of_lt hm)).2.grown hg fun k hk => ?_
  obtain ⟨c, fz, hc⟩ := row_kind ho k hk
  exact ⟨c, fz, (h1.block k (ho.lt k hk).2).trans hc⟩
/-- Two calls that make the row grow, and the store of the new row. -/
theorem TW.two {ob mb n4 : Nat} {bs bs' : List UInt8} {xs4 : List Value} {w w1 w4 w5 w6 : World} {tv v4 v6 : Value} (hq : Blk w mb 77 #[tv, fW mb, .map (some ob)]) (ho : w.ownsRow (mb + 1) 5 1 tv bs.length (Lib.byteCells bs)) (h1 : Below w.heap.size w w1) (hg : w1.grownBy w4 tv.ownBlock)
    (ho4 : w4.ownsRow (mb + 1) 5 1 v4 n4 xs4) (h5 : Below w4.heap.size w4 w5) (hg6 : w5.grownBy w6 v4.ownBlock) (ho6 : w6.ownsRow (mb + 1) 5 1 v6 bs'.length (Lib.byteCells bs')) :
    TW ob mb bs' (w6.setCell ⟨mb, 0, none⟩ v6) ∧ TF mb w (w6.setCell ⟨mb, 0, none⟩ v6) ∧ Blk w6 mb 77 #[tv, fW mb, .map (some ob)] := by
  have hm := hq.lt
  have hs4 : w.heap.size ≤ w4.heap.size := Nat.le_trans h1.size hg.size
  have t1 := TF.rows hm ho h1 hg
  have t2 := TF.rows (Nat.lt_of_lt_of_le hm hs4) ho4 h5 hg6
  have hne : some mb ≠ tv.ownBlock := fun e => by have := (ho.lt mb e.symm).1; omega
  have hne4 : some mb ≠ v4.ownBlock := fun e => by have := (ho4.lt mb e.symm).1; omega
  have hq6 : Blk w6 mb 77 #[tv, fW mb, .map (some ob)] := by
    refine hq.keep ?_
    rw [hg6.block mb (Nat.lt_of_lt_of_le (Nat.lt_of_lt_of_le hm hs4) h5.size) hne4, h5.block mb (Nat.lt_of_lt_of_le hm hs4), hg.block mb (Nat.lt_of_lt_of_le hm h1.size) hne, h1.block mb hm]
  refine ⟨⟨v6, ?_, ?_⟩, (t1.trans t2).set_ 0 _, hq6⟩
  · have h := hq6.set_ 0 v6
    simpa using h
  · refine ho6.kept (row := some mb) ⟨rfl, rfl, rfl, by simp [World.setCell], fun k _ hk => ?_⟩ (.inr fun e => ?_)
    · exact heap_setCell_other _ _ _ _ fun e => hk (by rw [e])
    · have := (ho6.lt mb e).1
      omega
theorem row_some {w : World} {base : Nat} {e : TypeId} {A : Option Addr} {n c : Nat} {xs : List Value} (h : w.ownsRow base e 1 (.slice A n c) n xs) (hn : 0 < n) : ∃ g, A = some ⟨g, 0, none⟩ := by
  rcases h.2 with ⟨_, h0⟩ | ⟨g', cap, cur, hv, _⟩
  · omega
  · simp only [Value.slice.injEq] at hv
    exact ⟨g', hv.1⟩
/-- An operand's text. -/
def opT (right : Bool) (k n : Int) (s : ByteArray) (f : Fr) (l : Int) : List UInt8 := if right = true then rigT k n s f l else lefT k n s f l
theorem byteCells_at (a b : List UInt8) (c : UInt8) : (Lib.byteCells (a ++ c :: b))[a.length]? = some (.int .u8 (c.toNat : Int)) := by
  unfold Lib.byteCells
  simp
theorem one_bytes (a : List UInt8) : ∀ v ∈ Lib.byteCells a, v.oneCell' = true := by
  unfold Lib.byteCells
  intro v hv
  simp only [List.mem_map] at hv
  obtain ⟨c, _, rfl⟩ := hv
  rfl
theorem ins_bytes (bs T : List UInt8) : (Lib.byteCells (bs ++ T)).take bs.length ++ Value.int .u8 40 :: (Lib.byteCells (bs ++ T)).drop bs.length = Lib.byteCells (bs ++ 40 :: T) := by
  unfold Lib.byteCells
  rw [List.map_append, List.take_left' (by simp), List.drop_left' (by simp)]
  simp

set_option maxRecDepth 100000 in
set_option maxHeartbeats 4000000 in
/-- opWriter.writeOperand where no brackets are needed. -/
theorem opnd_plain (s : ByteArray) (f : Fr) (h : OwC s f) (k n d l : Int) (right : Bool) (v : Value) (lo hi ob mb : Nat) (bs : List UInt8) (w : World) (hs : shapeT k n s f d = true) (hsz : s.size ≤ maxLen) (hv : NdV w lo hi k n s f v) (hh : hi ≤ mb) (hw : TW ob mb bs w) (hl : bs.length + (txT k n s f).length ≤ 1073741824) (ht : Pow10 ob mb w) (hnd : nodes f ≤ 1048576)
    (h1 : ¬ l < olv k s f.len) (h2 : right = true → plB (txT k n s f) = true) :
    Calls Tryz.prog 91 #[.pointer (some ⟨mb, 0, none⟩), v, .int .i64 l, .bool right] w fun e w' => e = .returned (.tuple #[]) ∧ TW ob mb (bs ++ txT k n s f) w' ∧ TF mb w w' := by
  have hm0 : mb < w.heap.size := by obtain ⟨_, hq, _⟩ := hw; exact hq.lt
  have C1 := h k n d v lo hi ob mb bs w hs hv hh hw hl ht hnd
  have hfl : f.len ≤ maxLen := by have := len_le_nodes f; unfold maxLen; omega
  have C2 := fun (w2 : World) (htf : TF mb w w2) (tv : Value) (hq : Blk w2 mb 77 #[tv, fW mb, .map (some ob)]) => oplev_any k n s f v lo hi ob mb tv (fW mb) w2 (hv.keep (fun p _ hp => htf.1.cell (by omega)) (Nat.le_refl _) (Nat.le_refl _)) hsz hfl hq (OpM_keep ht.2.2 htf.1 ht.2.1)
  have hpos := txT_ne hs
  obtain ⟨c, T', hT⟩ : ∃ c T', txT k n s f = c :: T' := by
    cases hx : txT k n s f with
    | nil => rw [hx] at hpos; simp at hpos
    | cons c T' => exact ⟨c, T', rfl⟩
  have C3 := fun (w3 : World) => follow_any c w3
  have hplc : right = true → plC c = true := fun hr => by have := h2 hr; rw [hT] at this; exact this
  obtain ⟨T0, x0, rfl⟩ := hv.iface
  have H1 := Lib.hid C1
  have H2 := Lib.hid C2
  have H3 := Lib.hid C3
  have HW0 := Lib.hid hw
  have HT := Lib.hid hT
  have d1 : decide (l < olv k s f.len) = false := decide_eq_false h1
  clear C1 C2 C3 h hs hsz hv hh ht hnd h1 h2 hT hfl hpos
  generalize txT k n s f = T at *
  generalize olv k s f.len = ol at *
  obtain ⟨tv0, hq0, ho0⟩ := hw
  obtain ⟨A0, c0, rfl, _, _⟩ := row_form ho0
  have p00 := hq0.cell 0
  simp only [List.getElem?_toArray, List.getElem?_cons_zero] at p00
  have hbl : bs.length ≤ 1073741824 := by omega
  clear hq0 ho0
  go_enter Tryz.func91, Tryz.ntmps91
  go_wp2_with fail
  refine H1.out.mono ?_
  rintro e w2 ⟨rfl, hw2, htf2⟩
  obtain ⟨tv2, hq2, ho2⟩ := hw2
  have C4 := H2.out w2 htf2 tv2 hq2
  have H4 := Lib.hid C4
  have HTF2 := Lib.hid htf2
  have HW2 : Hid (TW ob mb (bs ++ T) w2) := Lib.hid ⟨tv2, hq2, ho2⟩
  have hm2 := hq2.lt
  clear C4 htf2 hq2 ho2 p00
  go_wp2_with fail
  refine H4.out.mono ?_
  rintro e w3 ⟨rfl, hb3⟩
  have HW3 := Lib.hid (HW2.out.below hb3)
  have HTF3 := Lib.hid (HTF2.out.trans (TF.below hb3 (Nat.le_of_lt hm2)))
  clear hb3
  cases right
  · clear hplc
    go_wp2_with fail
    go_end0
    exact ⟨rfl, HW3.out, HTF3.out⟩
  · have hpc := hplc rfl
    obtain ⟨tv3, hq3, ho3⟩ := HW3.out
    obtain ⟨A3, c3, rfl, hc3, hc4⟩ := row_form ho3
    obtain ⟨g, rfl⟩ := row_some ho3 (by rw [HT.out]; simp only [List.length_append, List.length_cons]; omega)
    have p03 := hq3.cell 0
    simp only [List.getElem?_toArray, List.getElem?_cons_zero] at p03
    have hy := ho3.cells (g := g) rfl bs.length (.int .u8 (c.toNat : Int)) (by rw [HT.out]; exact byteCells_at bs T' c)
    have e : (⟨g, 0, none⟩ : Addr).add bs.length = ⟨g, bs.length, none⟩ := by unfold Addr.add; split <;> simp_all
    rw [e] at hy
    have hlt : bs.length < (bs ++ T).length := by rw [HT.out]; simp only [List.length_append, List.length_cons]; omega
    have C5 := H3.out w3
    rw [hpc] at C5
    have H5 := Lib.hid C5
    have hNl : (bs ++ T).length ≤ 1073741824 := by rw [List.length_append]; exact hl
    unfold maxLen at hc4
    generalize (bs ++ T).length = N at *
    clear hplc hpc C5 hq3 ho3 e
    go_wp2_with (first
      | (go_at_call 120; refine H5.out.mono ?_; rintro e w3 ⟨rfl, rfl⟩)
      | fail)
    go_end0
    exact ⟨rfl, HW3.out, HTF3.out⟩
end Go.Proofs.YtmgfndgmebignaaGreatDoor.wr

/- opWriter.writeOperand where brackets are needed; at every operand. Condition: the node lies in memory below the writer and is well-formed; the tables in their places. -/
namespace Go.Proofs.YtmgfndgmebignaaGreatDoor.wr
open Go.RowKit

set_option maxRecDepth 100000 in
set_option maxHeartbeats 8000000 in
/-- opWriter.writeOperand where brackets are needed. -/
theorem opnd_bra (s : ByteArray) (f : Fr) (h : OwC s f) (k n d l : Int) (right : Bool) (v : Value) (lo hi ob mb : Nat) (bs : List UInt8) (w : World) (hs : shapeT k n s f d = true) (hsz : s.size ≤ maxLen) (hv : NdV w lo hi k n s f v) (hh : hi ≤ mb) (hw : TW ob mb bs w) (hl : bs.length + (txT k n s f).length + 2 ≤ 1073741824) (ht : Pow10 ob mb w) (hnd : nodes f ≤ 1048576)
    (hc : l < olv k s f.len ∨ ¬ l < olv k s f.len ∧ right = true ∧ plB (txT k n s f) = false) :
    Calls Tryz.prog 91 #[.pointer (some ⟨mb, 0, none⟩), v, .int .i64 l, .bool right] w fun e w' => e = .returned (.tuple #[]) ∧ TW ob mb (bs ++ braB (txT k n s f)) w' ∧ TF mb w w' := by
  obtain ⟨i0, hi0, hz0, hz1, hz2⟩ := info_parts infoU8
  have hm0 : mb < w.heap.size := by obtain ⟨_, hq, _⟩ := hw; exact hq.lt
  have C1 := h k n d v lo hi ob mb bs w hs hv hh hw (by omega) ht hnd
  have hfl : f.len ≤ maxLen := by have := len_le_nodes f; unfold maxLen; omega
  have C2 := fun (w2 : World) (htf : TF mb w w2) (tv : Value) (hq : Blk w2 mb 77 #[tv, fW mb, .map (some ob)]) => oplev_any k n s f v lo hi ob mb tv (fW mb) w2 (hv.keep (fun p _ hp => htf.1.cell (by omega)) (Nat.le_refl _) (Nat.le_refl _)) hsz hfl hq (OpM_keep ht.2.2 htf.1 ht.2.1)
  have hpos := txT_ne hs
  obtain ⟨c, T', hT⟩ : ∃ c T', txT k n s f = c :: T' := by
    cases hx : txT k n s f with
    | nil => rw [hx] at hpos; simp at hpos
    | cons c T' => exact ⟨c, T', rfl⟩
  have C3 := fun (w3 : World) => follow_any c w3
  have hc2 : l < olv k s f.len ∨ ¬ l < olv k s f.len ∧ right = true ∧ plC c = false := by
    rcases hc with h | ⟨h1, h2, h3⟩
    · exact .inl h
    · rw [hT] at h3
      exact .inr ⟨h1, h2, h3⟩
  obtain ⟨T0, x0, rfl⟩ := hv.iface
  have H1 := Lib.hid C1
  have H2 := Lib.hid C2
  have H3 := Lib.hid C3
  have HT := Lib.hid hT
  clear C1 C2 C3 h hs hsz hv hh ht hnd hc hT hfl hpos
  generalize txT k n s f = T at *
  generalize olv k s f.len = ol at *
  obtain ⟨tv0, hq0, ho0⟩ := hw
  obtain ⟨A0, c0, rfl, _, _⟩ := row_form ho0
  have p00 := hq0.cell 0
  simp only [List.getElem?_toArray, List.getElem?_cons_zero] at p00
  have hbl : bs.length ≤ 1073741824 := by omega
  clear hq0 ho0
  go_enter Tryz.func91, Tryz.ntmps91
  go_wp2_with fail
  refine H1.out.mono ?_
  rintro e w2 ⟨rfl, hw2, htf2⟩
  obtain ⟨tv2, hq2, ho2⟩ := hw2
  have C4 := H2.out w2 htf2 tv2 hq2
  have H4 := Lib.hid C4
  have HTF2 := Lib.hid htf2
  have HW2 : Hid (TW ob mb (bs ++ T) w2) := Lib.hid ⟨tv2, hq2, ho2⟩
  have hm2 := hq2.lt
  clear C4 htf2 hq2 ho2 p00
  go_wp2_with fail
  refine H4.out.mono ?_
  rintro e w3 ⟨rfl, hb3⟩
  have HW3 := Lib.hid (HW2.out.below hb3)
  have HTF3 := Lib.hid (HTF2.out.trans (TF.below hb3 (Nat.le_of_lt hm2)))
  clear hb3
  obtain ⟨tv3, hq3, ho3⟩ := HW3.out
  obtain ⟨A3, c3, rfl, hc3, hc4⟩ := row_form ho3
  obtain ⟨g, rfl⟩ := row_some ho3 (by rw [HT.out]; simp only [List.length_append, List.length_cons]; omega)
  have p03 := hq3.cell 0
  have pf3 := hq3.frozen 0
  simp only [List.getElem?_toArray, List.getElem?_cons_zero] at p03
  have hm3 := hq3.lt
  have hgl := (ho3.lt g rfl).2
  have hgm := (ho3.lt g rfl).1
  have hlt : bs.length < (bs ++ T).length := by rw [HT.out]; simp only [List.length_append, List.length_cons]; omega
  have hNl : (bs ++ T).length + 2 ≤ 1073741824 := by rw [List.length_append]; omega
  have C6 := ins_any (mb + 1) (bs ++ T).length bs.length w3.heap.size (.slice (some ⟨g, 0, none⟩) (bs ++ T).length c3) (.int .u8 40) (Lib.byteCells (bs ++ T)) (w3.alloc (.cells #[.int .u8 40] 5)) rfl (one_bytes _) hlt (by omega) (by simp; omega) (fun e => by simp [Value.ownBlock] at e; omega) (ho3.alloc _) (Blk.new w3 _ _)
  rw [ins_bytes] at C6
  have hins : (bs ++ 40 :: T).length = (bs ++ T).length + 1 := by simp only [List.length_append, List.length_cons]; omega
  have hfin : (bs ++ braB T).length = (bs ++ T).length + 2 := by unfold braB; simp only [List.length_append, List.length_cons, List.length_nil]; omega
  have hfc : Lib.byteCells (bs ++ 40 :: T) ++ [.int .u8 41] = Lib.byteCells (bs ++ braB T) := by unfold Lib.byteCells braB; simp
  have H6 := Lib.hid C6
  have HFL := Lib.hid hfin
  have HFC := Lib.hid hfc
  have HQ3 := Lib.hid hq3
  have HO3 := Lib.hid ho3
  unfold maxLen at hc4
  rcases hc2 with hc2 | ⟨hc2, rfl, hpc⟩
  · have d1 : decide (l < ol) = true := decide_eq_true hc2
    generalize hN : (bs ++ T).length = N at *
    have HO3N : Hid (w3.ownsRow (mb + 1) 5 1 (.slice (some ⟨g, 0, none⟩) N c3) (bs ++ T).length (Lib.byteCells (bs ++ T))) := Lib.hid (by rw [hN]; exact HO3.out)
    have HQ3 : Hid (Blk w3 mb 77 #[.slice (some ⟨g, 0, none⟩) N c3, fW mb, .map (some ob)]) := HQ3
    clear hN hc2 hq3 ho3 C6 hins hfin hfc
    go_wp2_with fail
    refine H6.out.mono ?_
    rintro e w4 ⟨g4, cap4, rfl, ho4, hg4⟩
    have hs4 : w3.heap.size < w4.heap.size := by have := hg4.size; simp at this; omega
    have HO4 := Lib.hid ho4
    have HG4 := Lib.hid hg4
    have hq4 : Blk w4 mb 77 #[.slice (some ⟨g, 0, none⟩) N c3, fW mb, .map (some ob)] := HQ3.out.keep ((hg4.block mb (by simp; omega) (fun e => by simp [Value.ownBlock] at e; omega)).trans (((Below.refl w3.heap.size w3).alloc (Nat.le_refl _) _).block mb hm3))
    have yf4 := hq4.frozen 0
    have y04 := hq4.cell 0
    simp only [List.getElem?_toArray, List.getElem?_cons_zero] at y04
    clear ho4 hg4 hq4 p03 pf3
    go_wp2_with (at_builtin; go_must (refine wpList_append_lies _ rfl _ _ _ rfl (mb + 1) 5 i0 _ 1 1 Tryz.underlying71 hi0 hz0 hz1 hz2 rfl (by omega) _ (N + 1) _ rfl (HO4.out.alloc _) ⟨w4.heap.size, 0, none⟩ 1 1 [.int .u8 41] rfl rfl (World.news_of_block (cs := #[.int .u8 41]) (t := 5) (fr := (0, 0)) (Blk.new w4 5 #[.int .u8 41])) (by simp [Value.oneCell']) (by omega) (by unfold maxLen; omega) (by omega) (by simp; omega) (w4.heap.size + 1) (by simp) ?_); intro g6 cap6 w6 hown6 hgrow6 _ _; rw [HFC.out] at hown6; have hst6 := TW.two (bs' := bs ++ braB T) (ob := ob) HQ3.out HO3N.out ((Below.refl _ _).alloc (Nat.le_refl _) _) HG4.out HO4.out ((Below.refl _ _).alloc (Nat.le_refl _) _) hgrow6 (by rw [HFL.out]; exact hown6); have y6 := hst6.2.2.cell 0; have yf6 := hst6.2.2.frozen 0; simp only [List.getElem?_toArray, List.getElem?_cons_zero] at y6; have HS6 := Lib.hid (And.intro hst6.1 hst6.2.1); clear hown6 hgrow6 hst6; refine Hid.out ?_)
    refine Lib.hid ?_
    go_wp2_with fail
    go_end0
    exact ⟨rfl, HS6.out.1, HTF3.out.trans HS6.out.2⟩
  · have d1 : decide (l < ol) = false := decide_eq_false (by omega)
    have hy := ho3.cells (g := g) rfl bs.length (.int .u8 (c.toNat : Int)) (by rw [HT.out]; exact byteCells_at bs T' c)
    have e : (⟨g, 0, none⟩ : Addr).add bs.length = ⟨g, bs.length, none⟩ := by unfold Addr.add; split <;> simp_all
    rw [e] at hy
    have C5 := H3.out w3
    rw [hpc] at C5
    have H5 := Lib.hid C5
    generalize hN : (bs ++ T).length = N at *
    have HO3N : Hid (w3.ownsRow (mb + 1) 5 1 (.slice (some ⟨g, 0, none⟩) N c3) (bs ++ T).length (Lib.byteCells (bs ++ T))) := Lib.hid (by rw [hN]; exact HO3.out)
    clear hN hc2 hpc hq3 ho3 C6 C5 hins hfin hfc e
    go_wp2_with (first
      | (go_at_call 120; refine H5.out.mono ?_; rintro e w3 ⟨rfl, rfl⟩)
      | fail)
    refine H6.out.mono ?_
    rintro e w4 ⟨g4, cap4, rfl, ho4, hg4⟩
    have hs4 : w3.heap.size < w4.heap.size := by have := hg4.size; simp at this; omega
    have HO4 := Lib.hid ho4
    have HG4 := Lib.hid hg4
    have hq4 : Blk w4 mb 77 #[.slice (some ⟨g, 0, none⟩) N c3, fW mb, .map (some ob)] := HQ3.out.keep ((hg4.block mb (by simp; omega) (fun e => by simp [Value.ownBlock] at e; omega)).trans (((Below.refl w3.heap.size w3).alloc (Nat.le_refl _) _).block mb hm3))
    have yf4 := hq4.frozen 0
    have y04 := hq4.cell 0
    simp only [List.getElem?_toArray, List.getElem?_cons_zero] at y04
    clear ho4 hg4 hq4 p03 pf3
    go_wp2_with (at_builtin; go_must (refine wpList_append_lies _ rfl _ _ _ rfl (mb + 1) 5 i0 _ 1 1 Tryz.underlying71 hi0 hz0 hz1 hz2 rfl (by omega) _ (N + 1) _ rfl (HO4.out.alloc _) ⟨w4.heap.size, 0, none⟩ 1 1 [.int .u8 41] rfl rfl (World.news_of_block (cs := #[.int .u8 41]) (t := 5) (fr := (0, 0)) (Blk.new w4 5 #[.int .u8 41])) (by simp [Value.oneCell']) (by omega) (by unfold maxLen; omega) (by omega) (by simp; omega) (w4.heap.size + 1) (by simp) ?_); intro g6 cap6 w6 hown6 hgrow6 _ _; rw [HFC.out] at hown6; have hst6 := TW.two (bs' := bs ++ braB T) (ob := ob) HQ3.out HO3N.out ((Below.refl _ _).alloc (Nat.le_refl _) _) HG4.out HO4.out ((Below.refl _ _).alloc (Nat.le_refl _) _) hgrow6 (by rw [HFL.out]; exact hown6); have y6 := hst6.2.2.cell 0; have yf6 := hst6.2.2.frozen 0; simp only [List.getElem?_toArray, List.getElem?_cons_zero] at y6; have HS6 := Lib.hid (And.intro hst6.1 hst6.2.1); clear hown6 hgrow6 hst6; refine Hid.out ?_)
    refine Lib.hid ?_
    go_wp2_with fail
    go_end0
    exact ⟨rfl, HS6.out.1, HTF3.out.trans HS6.out.2⟩
end Go.Proofs.YtmgfndgmebignaaGreatDoor.wr

/- opWriter.writeWritten where it hands on to writeTerm; writeOperand at every operand. Condition: the node lies in memory below the writer and is well-formed; the tables in their places. -/
namespace Go.Proofs.YtmgfndgmebignaaGreatDoor.wr
open Go.RowKit

theorem opT_eq (right : Bool) (k n : Int) (s : ByteArray) (f : Fr) (l : Int) : opT right k n s f l = if l < olv k s f.len ∨ right = true ∧ plB (txT k n s f) = false then braB (txT k n s f) else txT k n s f := by
  unfold opT rigT lefT
  cases right <;> simp
/-- opWriter.writeOperand. -/
theorem opnd_any (s : ByteArray) (f : Fr) (h : OwC s f) (k n d l : Int) (right : Bool) (v : Value) (lo hi ob mb : Nat) (bs : List UInt8) (w : World) (hs : shapeT k n s f d = true) (hsz : s.size ≤ maxLen) (hv : NdV w lo hi k n s f v) (hh : hi ≤ mb) (hw : TW ob mb bs w) (hl : bs.length + (opT right k n s f l).length ≤ 1073741824) (ht : Pow10 ob mb w) (hnd : nodes f ≤ 1048576) :
    Calls Tryz.prog 91 #[.pointer (some ⟨mb, 0, none⟩), v, .int .i64 l, .bool right] w fun e w' => e = .returned (.tuple #[]) ∧ TW ob mb (bs ++ opT right k n s f l) w' ∧ TF mb w w' := by
  rw [opT_eq] at hl ⊢
  by_cases h1 : l < olv k s f.len
  · rw [if_pos (.inl h1)] at hl ⊢
    have hl : bs.length + (txT k n s f).length + 2 ≤ 1073741824 := by unfold braB at hl; simp only [List.length_cons, List.length_append, List.length_nil] at hl; omega
    exact opnd_bra s f h k n d l right v lo hi ob mb bs w hs hsz hv hh hw hl ht hnd (.inl h1)
  · by_cases h2 : right = true ∧ plB (txT k n s f) = false
    · rw [if_pos (.inr h2)] at hl ⊢
      have hl : bs.length + (txT k n s f).length + 2 ≤ 1073741824 := by unfold braB at hl; simp only [List.length_cons, List.length_append, List.length_nil] at hl; omega
      exact opnd_bra s f h k n d l right v lo hi ob mb bs w hs hsz hv hh hw hl ht hnd (.inr ⟨h1, h2⟩)
    · rw [if_neg (by rintro (h | h); exact h1 h; exact h2 h)] at hl ⊢
      refine opnd_plain s f h k n d l right v lo hi ob mb bs w hs hsz hv hh hw (by omega) ht hnd h1 fun hr => ?_
      cases hp : plB (txT k n s f)
      · exact absurd ⟨hr, hp⟩ h2
      · rfl

set_option maxRecDepth 100000 in
set_option maxHeartbeats 4000000 in
/-- opWriter.writeWritten of what is no operator with two operands. -/
theorem written_plain (s : ByteArray) (f : Fr) (h : ∀ s' f', f'.size < f.size → OwC s' f') (k n d : Int) (v : Value) (lo hi ob mb : Nat) (bs : List UInt8) (w : World) (hi0 : infB k s f.len = false) (hs : shapeT k n s f d = true) (hsz : s.size ≤ maxLen) (hv : NdV w lo hi k n s f v) (hh : hi ≤ mb) (hw : TW ob mb bs w) (hl : bs.length + (txT k n s f).length ≤ 1073741824) (ht : Pow10 ob mb w) (hnd : nodes f ≤ 1048576) :
    Calls Tryz.prog 64 #[.pointer (some ⟨mb, 0, none⟩), v] w fun e w' => e = .returned (.tuple #[]) ∧ TW ob mb (bs ++ txT k n s f) w' ∧ TF mb w w' := by
  have hm0 : mb < w.heap.size := by obtain ⟨_, hq, _⟩ := hw; exact hq.lt
  have hw' := hw
  obtain ⟨tv0, hq0, _⟩ := hw'
  obtain ⟨A, cap, -, C1⟩ := named_any k n s f v lo hi ob mb tv0 (fW mb) w hv hsz hq0 ht.2.2
  have C2 := fun (w2 : World) (hb : Below w.heap.size w w2) => wterm_of s f h k n d v lo hi ob mb bs w2 hi0 hs (hv.keep (fun p _ hp => hb.cell (by omega)) (Nat.le_refl _) (Nat.le_refl _)) hh (hw.below hb) hl (ht.on (hb.mono (Nat.le_of_lt hm0))) hnd
  have hfl : f.len ≤ 1048576 := by have := len_le_nodes f; omega
  obtain ⟨T0, x0, rfl⟩ := hv.iface
  have HI : Hid (infB k s f.len = false) := Lib.hid hi0
  have HIE : Hid (infB k s f.len = (k == 3 && (f.len == 2 && decide (0 < op.level s.data.toList)))) := Lib.hid rfl
  have H1 := Lib.hid C1
  have H2 := Lib.hid C2
  clear C1 C2 h hi0 hs hsz hv hh hw hl ht hnd hq0
  generalize txT k n s f = T at *
  generalize f.len = len at *
  go_enter Tryz.func64, Tryz.ntmps64
  go_wp2_with fail
  refine H1.out.mono ?_
  rintro e w2 ⟨hb, hr⟩
  have HB := Lib.hid hb
  have HB2 : Hid (∀ o1 o2, Below w.heap.size w ((w2.alloc o1).alloc o2)) := Lib.hid fun o1 o2 => (HB.out.alloc HB.out.size _).alloc (by have := HB.out.size; simp; omega) _
  rcases hr with ⟨rfl, hpos, a, rfl⟩ | ⟨hz, x1, x2, x3, x4, y1, y2, y3, rfl⟩
  · have h2 : len ≠ 2 := fun e => by
      have := HIE.out
      rw [HI.out, e, decide_eq_true hpos] at this
      simp at this
    have t2 : ((len : Int) != 2) = true := by rw [bne_iff_ne]; omega
    clear hpos hb h2
    go_wp2_with fail
    refine (H2.out _ (HB2.out _ _)).mono ?_
    rintro e w3 ⟨rfl, hw3, htf3⟩
    have HFN := Lib.hid (And.intro hw3 ((TF.below (HB2.out _ _) (Nat.le_of_lt hm0)).trans htf3))
    clear hw3 htf3
    go_wp2_with fail
    first
      | (go_end0; exact ⟨rfl, HFN.out⟩)
      | ((try simp only [Exit.inBlock, Exit.then]); refine bodyPost_ret (results_none rfl _ _ _) rfl ?_; exact ⟨rfl, HFN.out⟩)
  · clear hz hb
    go_wp2_with fail
    refine (H2.out _ (HB2.out _ _)).mono ?_
    rintro e w3 ⟨rfl, hw3, htf3⟩
    have HFN := Lib.hid (And.intro hw3 ((TF.below (HB2.out _ _) (Nat.le_of_lt hm0)).trans htf3))
    clear hw3 htf3
    go_wp2_with fail
    first
      | (go_end0; exact ⟨rfl, HFN.out⟩)
      | ((try simp only [Exit.inBlock, Exit.then]); refine bodyPost_ret (results_none rfl _ _ _) rfl ?_; exact ⟨rfl, HFN.out⟩)
end Go.Proofs.YtmgfndgmebignaaGreatDoor.wr

/- opWriter.writeWritten of an operator and its operands; at every node; impl.WriteTerm. Condition: the node lies in memory below the writer and is well-formed; the tables in their places. -/
namespace Go.Proofs.YtmgfndgmebignaaGreatDoor.wr
open Go.RowKit

theorem spB_pos {s : ByteArray} (h : 0 < s.data.toList.length) : 0 < (spB s.data.toList).length := by
  unfold spB
  split
  · simp
  · exact h
set_option maxRecDepth 100000 in
set_option maxHeartbeats 8000000 in
/-- opWriter.writeWritten of an operator and its operands. -/
theorem written_inf (n : Int) (s : ByteArray) (f : Fr) (hpf : pairB 3 s f.len = false) (hif : infB 3 s f.len = true) (h : ∀ s' f', f'.size < f.size → OwC s' f') (d : Int) (v : Value) (lo hi ob mb : Nat) (bs : List UInt8) (w : World) (hs : shapeT 3 n s f d = true) (hv : NdV w lo hi 3 n s f v) (hh : hi ≤ mb) (hw : TW ob mb bs w) (hl : bs.length + (txT 3 n s f).length ≤ 1073741824) (ht : Pow10 ob mb w) (hnd : nodes f ≤ 1048576) :
    Calls Tryz.prog 64 #[.pointer (some ⟨mb, 0, none⟩), v] w fun e w' => e = .returned (.tuple #[]) ∧ TW ob mb (bs ++ txT 3 n s f) w' ∧ TF mb w w' := by
  obtain ⟨i0, hi0, hz0, hz1, hz2⟩ := info_parts infoU8
  have hm0 : mb < w.heap.size := by obtain ⟨_, hq, _⟩ := hw; exact hq.lt
  obtain ⟨_, hlv, k1, n1, s1, kd1, k2, n2, s2, kd2, rfl⟩ := inf_kids hif
  have hlr := op.level_range s.data.toList
  have hs3 := shapeT_struct hs
  have hs6 : s.size ≤ 6 := nameB_size hs3.2.1
  have hspos : 0 < s.data.toList.length := List.length_pos_iff.2 (name_pos3 hs3.2.1)
  have hbp := spB_pos hspos
  have hbl := spB_len s.data.toList
  have hssz : s.data.toList.length = s.size := rfl
  have hG := txT_inf (n := n) (k1 := k1) (n1 := n1) (s1 := s1) (kd1 := kd1) (k2 := k2) (n2 := n2) (s2 := s2) (kd2 := kd2) hpf hif
  have hsk := shapeT_kids hs
  rw [shapeF_cons, shapeF_cons, Bool.and_eq_true, Bool.and_eq_true] at hsk
  have hz1' : kd1.size < (Fr.cons k1 n1 s1 kd1 (.cons k2 n2 s2 kd2 .nil)).size := by simp only [Fr.size]; omega
  have hz2' : kd2.size < (Fr.cons k1 n1 s1 kd1 (.cons k2 n2 s2 kd2 .nil)).size := by simp only [Fr.size]; omega
  have hnd1 : nodes kd1 ≤ 1048576 ∧ nodes kd2 ≤ 1048576 := by simp only [nodes] at hnd; omega
  have hsmall : ∀ {k n : Int} {s : ByteArray} {f : Fr} {d : Int}, shapeT k n s f d = true → s.size ≤ maxLen := fun {k n s f d} h => by
    have := (smF_shape (.cons k n s f .nil) d (by rw [shapeF_cons, h]; rfl)).1.1
    unfold maxLen; omega
  have hG' : txT 3 n s (.cons k1 n1 s1 kd1 (.cons k2 n2 s2 kd2 .nil)) = opT false k1 n1 s1 kd1 (lfl (op.level s.data.toList)) ++ (spB s.data.toList ++ opT true k2 n2 s2 kd2 (op.level s.data.toList - 1)) := hG
  rw [hG'] at hl ⊢
  simp only [List.length_append] at hl
  have hw' := hw
  obtain ⟨tv0, hq0, _⟩ := hw'
  obtain ⟨A, cap, hst, C1⟩ := named_any 3 n s _ v lo hi ob mb tv0 (fW mb) w hv (by unfold maxLen; omega) hq0 ht.2.2
  obtain ⟨hnds, rfl⟩ := hst rfl
  have hcap := hnds.2.1
  have hcap1 := hnds.1
  obtain ⟨b, rfl, hb1, hb2, hrow⟩ := hnds.2.2 (by simp [Fr.len])
  obtain ⟨v1, hc1, hv1⟩ := hrow.elem (i := 0) rfl
  obtain ⟨v2, hc2, hv2⟩ := hrow.elem (i := 1) rfl
  simp only [Nat.zero_add] at hc1 hc2
  have C2 := fun (w2 : World) (htf : TF mb w w2) (hw2 : TW ob mb bs w2) => opnd_any s1 kd1 (h s1 kd1 hz1') k1 n1 (d - 1) (lfl (op.level s.data.toList)) false v1 lo hi ob mb bs w2 hsk.1 (hsmall hsk.1) (hv1.keep (fun p _ hp => htf.1.cell (by omega)) (Nat.le_refl _) (Nat.le_refl _)) hh hw2 (by omega) (ht.on htf.1) hnd1.1
  have C3 := fun (w2 : World) (bs2 : List UInt8) (hb2 : bs2.length + (opT true k2 n2 s2 kd2 (op.level s.data.toList - 1)).length ≤ 1073741824) (htf : TF mb w w2) (hw2 : TW ob mb bs2 w2) => opnd_any s2 kd2 (h s2 kd2 hz2') k2 n2 (d - 1) (op.level s.data.toList - 1) true v2 lo hi ob mb bs2 w2 hsk.2.1 (hsmall hsk.2.1) (hv2.keep (fun p _ hp => htf.1.cell (by omega)) (Nat.le_refl _) (Nat.le_refl _)) hh hw2 (by omega) (ht.on htf.1) hnd1.2
  have C4 := fun (a b : ByteArray) (w2 : World) => op.left_any a b (op.level s.data.toList) w2
  have C5 := fun (a b : ByteArray) (w2 : World) => rightLv_any a b (op.level s.data.toList) (by omega) w2
  rw [lmin_lfl _ (by omega)] at C4
  obtain ⟨T1, x1, rfl⟩ := hv1.iface
  obtain ⟨T2, x2, rfl⟩ := hv2.iface
  have HW0 := Lib.hid hw
  have H1 := Lib.hid C1
  have H2 := Lib.hid C2
  have H3 := Lib.hid C3
  have H4 := Lib.hid C4
  have H5 := Lib.hid C5
  have hbm : b < mb := by omega
  have HC1 := Lib.hid hc1
  have HC2 := Lib.hid hc2
  have hln : (Fr.cons k1 n1 s1 kd1 (.cons k2 n2 s2 kd2 .nil)).len = 2 := rfl
  rw [hln] at H1
  have HLV := Lib.hid hlv
  unfold maxLen at hcap
  simp only [Fr.len] at hcap1
  clear C1 C2 C3 C4 C5 h hs hv hh hw ht hnd hq0 hpf hif hs3 hG hG' hsk hz1' hz2' hnd1 hnds hrow hv1 hv2 hst hc1 hc2 hln hsmall hs6 hspos hb1 hb2 hlv
  have hb0p : 0 < (⟨(spB s.data.toList).toArray⟩ : ByteArray).size := hbp
  have hb0l : (⟨(spB s.data.toList).toArray⟩ : ByteArray).size ≤ 2 + s.size := by show (spB s.data.toList).length ≤ _; omega
  have HBS : Hid (∀ b : ByteArray, b = ⟨(spB s.data.toList).toArray⟩ → b.data.toList = spB s.data.toList) := Lib.hid (by rintro b rfl; rfl)
  have hbl2 : (⟨(spB s.data.toList).toArray⟩ : ByteArray).size = (spB s.data.toList).length := rfl
  have HBL2 := Lib.hid hbl2
  clear hbl2
  generalize opT false k1 n1 s1 kd1 (lfl (op.level s.data.toList)) = TL at *
  generalize opT true k2 n2 s2 kd2 (op.level s.data.toList - 1) = TR at *
  go_enter Tryz.func64, Tryz.ntmps64
  go_wp2_with fail
  refine H1.out.mono ?_
  rintro e w2 ⟨hb, hr⟩
  rcases hr with ⟨-, -, a, rfl⟩ | ⟨hz, -⟩
  · generalize (⟨(spB s.data.toList).toArray⟩ : ByteArray) = b0 at *
    have hb3 : ∀ (lv : Int), Below w.heap.size w ((w2.alloc (.cells #[.string s, .slice (some ⟨b, 0, none⟩) (2 : Nat) cap] 116)).alloc (.cells #[.string a, .string b0, .int .i64 lv] 149)) := fun lv => (hb.alloc hb.size _).alloc (by have := hb.size; simp; omega) _
    have q4 : ∀ (lv : Int), Blk ((w2.alloc (.cells #[.string s, .slice (some ⟨b, 0, none⟩) (2 : Nat) cap] 116)).alloc (.cells #[.string a, .string b0, .int .i64 lv] 149)) w2.heap.size 116 #[.string s, .slice (some ⟨b, 0, none⟩) (2 : Nat) cap] := fun lv => (Blk.new w2 _ _).alloc _
    have q5 : ∀ (lv : Int), Blk ((w2.alloc (.cells #[.string s, .slice (some ⟨b, 0, none⟩) (2 : Nat) cap] 116)).alloc (.cells #[.string a, .string b0, .int .i64 lv] 149)) (w2.heap.size + 1) 149 #[.string a, .string b0, .int .i64 lv] := fun lv => by
      have h := Blk.new (w2.alloc (.cells #[.string s, .slice (some ⟨b, 0, none⟩) (2 : Nat) cap] 116)) 149 #[.string a, .string b0, .int .i64 lv]
      simpa using h
    have hw2s := hb.size
    generalize op.level s.data.toList = lv at *
    have HB3 := Lib.hid (hb3 lv)
    have HQ4 := Lib.hid (q4 lv)
    have HQ5 := Lib.hid (q5 lv)
    clear hb3 q4 q5 hb
    go_wp2_with fail
    generalize ((w2.alloc (.cells #[.string s, .slice (some ⟨b, 0, none⟩) (2 : Nat) cap] 116)).alloc (.cells #[.string a, .string b0, .int .i64 lv] 149)) = W3 at *
    have htf3 : TF mb w W3 := TF.below HB3.out (Nat.le_of_lt hm0)
    have HTF3 := Lib.hid htf3
    have HW3 := Lib.hid (HW0.out.below HB3.out)
    have hal4 := HQ4.out.lt
    have hal5 := HQ5.out.lt
    have hm3 : mb < W3.heap.size := Nat.lt_of_lt_of_le hm0 HB3.out.size
    have hn4 : w2.heap.size ≠ mb := by omega
    have hn5 : w2.heap.size + 1 ≠ mb := by omega
    have HS : Hid (∀ (x : World), TF mb W3 x → (x.cell? ⟨w2.heap.size, 0, none⟩ = some (.string s) ∧ x.cell? ⟨w2.heap.size, 1, none⟩ = some (.slice (some ⟨b, 0, none⟩) (2 : Nat) cap) ∧ x.cell? ⟨w2.heap.size + 1, 0, none⟩ = some (.string a) ∧ x.cell? ⟨w2.heap.size + 1, 1, none⟩ = some (.string b0) ∧ x.cell? ⟨w2.heap.size + 1, 2, none⟩ = some (.int .i64 lv)) ∧ x.cell? ⟨b, 0, none⟩ = some (.iface T1 x1) ∧ x.cell? ⟨b, 1, none⟩ = some (.iface T2 x2)) := Lib.hid fun x hx => by
      have p4 := hx.blk HQ4.out hn4 (by decide)
      have p5 := hx.blk HQ5.out hn5 (by decide)
      have t := HTF3.out.trans hx
      exact ⟨⟨p4.cell 0, p4.cell 1, p5.cell 0, p5.cell 1, p5.cell 2⟩, (t.1.cell (p := ⟨b, 0, none⟩) hbm).trans HC1.out, (t.1.cell (p := ⟨b, 1, none⟩) hbm).trans HC2.out⟩
    obtain ⟨⟨y0, y1, y2, y3, y4⟩, y5, y6⟩ := HS.out W3 (TF.refl _ _)
    clear htf3
    go_region_held3 (fun x => x.cell? ⟨w2.heap.size, 0, none⟩ = some (.string s) ∧ x.cell? ⟨w2.heap.size, 1, none⟩ = some (.slice (some ⟨b, 0, none⟩) (2 : Nat) cap) ∧ x.cell? ⟨w2.heap.size + 1, 0, none⟩ = some (.string a) ∧ x.cell? ⟨w2.heap.size + 1, 1, none⟩ = some (.string b0) ∧ x.cell? ⟨w2.heap.size + 1, 2, none⟩ = some (.int .i64 lv) ∧ x.cell? ⟨b, 0, none⟩ = some (.iface T1 x1) ∧ x.cell? ⟨b, 1, none⟩ = some (.iface T2 x2))
      (first | exact ⟨q0, q1, q2, q3, q4, q5, q6⟩ | exact ⟨z0, z1, z2, z3, z4, z5, z6⟩ | exact ⟨y0, y1, y2, y3, y4, y5, y6⟩)
      (first
        | (go_at_call 92
           refine (H4.out _ _ _).mono ?_
           rintro e w4 ⟨rfl, hb4⟩
           have hd4 : Below W3.heap.size W3 w4 := (Below.refl W3.heap.size W3).drew.trans hb4
           have htf4 : TF mb W3 w4 := TF.below hd4 (Nat.le_of_lt hm3)
           obtain ⟨⟨z0, z1, z2, z3, z4⟩, z5, z6⟩ := HS.out w4 htf4
           have HTF4 := Lib.hid htf4
           have HW4 := Lib.hid (HW3.out.below hd4)
           clear hb4 hd4 htf4)
        | (go_at_call 91
           refine (H2.out _ (HTF3.out.trans HTF4.out) HW4.out).mono ?_
           rintro e w5 ⟨rfl, hw5, htf5⟩
           obtain ⟨⟨q0, q1, q2, q3, q4⟩, q5, q6⟩ := HS.out w5 (HTF4.out.trans htf5)
           have HTF5 := Lib.hid (HTF4.out.trans htf5)
           have HW5 := Lib.hid hw5
           clear hw5 htf5))
    have hbsl : (bs ++ TL).length + b0.size ≤ 1073741824 := by rw [List.length_append, HBL2.out]; omega
    have hb0e : b0.data.toList = spB s.data.toList := HBS.out b0 rfl
    have HBE := Lib.hid hb0e
    generalize hB1 : bs ++ TL = B1 at *
    have HB1 := Lib.hid hB1
    have hm5 : mb < w5.heap.size := Nat.lt_of_lt_of_le hm3 HTF5.out.1.size
    have hl4 : w2.heap.size < w5.heap.size := Nat.lt_of_lt_of_le hal4 HTF5.out.1.size
    have hl5 : w2.heap.size + 1 < w5.heap.size := Nat.lt_of_lt_of_le hal5 HTF5.out.1.size
    obtain ⟨tv5, hq5, ho5⟩ := HW5.out
    obtain ⟨A5, c5, rfl, _, _⟩ := row_form ho5
    have p05 := hq5.cell 0
    have pf5 := hq5.frozen 0
    simp only [List.getElem?_toArray, List.getElem?_cons_zero] at p05
    have HO5 := Lib.hid ho5
    have HQ5' := Lib.hid hq5
    clear hq5 ho5 hB1 hb0e z0 z1 z2 z3 z4 z5 z6 y0 y1 y2 y3 y4 y5 y6
    go_wp2_with fail
    go_region_law
      (first
        | (refine step_append_str (w5.drew) (by rfl) _ _ _ _ (by rfl) (mb + 1) 5 i0 Tryz.underlying71 Tryz.underlying9 hi0 hz0 hz1 hz2 _ B1.length (Lib.byteCells B1) (by rfl) HO5.out.drew b0 (by rfl) hb0p (by unfold maxLen; omega) (by omega) (by show mb + 1 ≤ w5.heap.size; omega) ?_
           intro g6 cap6 w6 hown6 hgrow6
           have hst6 := TW.step (add := b0.data.toList) HQ5'.out HO5.out (Below.refl w5.heap.size w5).drew hgrow6 hown6
           have y6 := hst6.2.2.cell 0
           have yf6 := hst6.2.2.frozen 0
           simp only [List.getElem?_toArray, List.getElem?_cons_zero] at y6
           have HS6 := Lib.hid (And.intro hst6.1 hst6.2.1)
           clear hown6 hgrow6 hst6))
    all_goals
      have HX6 : Hid (TW ob mb (B1 ++ b0.data.toList) (w6.setCell ⟨mb, 0, none⟩ (.slice (some ⟨g6, 0, none⟩) (B1.length + b0.size) cap6)) ∧ TF mb w5 (w6.setCell ⟨mb, 0, none⟩ (.slice (some ⟨g6, 0, none⟩) (B1.length + b0.size) cap6))) := HS6
      clear HS6 y6 yf6 p05 pf5 q0 q1 q2 q3 q4 q5 q6
      generalize w6.setCell ⟨mb, 0, none⟩ (.slice (some ⟨g6, 0, none⟩) (B1.length + b0.size) cap6) = W6 at *
      have htf6 : TF mb W3 W6 := HTF5.out.trans HX6.out.2
      obtain ⟨⟨y0, y1, y2, y3, y4⟩, y5, y6⟩ := HS.out W6 htf6
      have HTF6 := Lib.hid htf6
      have hm6 : mb < W6.heap.size := Nat.lt_of_lt_of_le hm3 htf6.1.size
      have hk4 : w2.heap.size < W6.heap.size := Nat.lt_of_lt_of_le hal4 htf6.1.size
      have hk5 : w2.heap.size + 1 < W6.heap.size := Nat.lt_of_lt_of_le hal5 htf6.1.size
      have hb6l : (B1 ++ b0.data.toList).length + TR.length ≤ 1073741824 := by
        have h1 : b0.data.toList.length = b0.size := rfl
        rw [List.length_append, h1, HBL2.out, ← HB1.out, List.length_append]; omega
      have HL6 := Lib.hid hb6l
      clear htf6 hb6l
      go_wp2_with fail
      go_region_held3 (fun x => x.cell? ⟨w2.heap.size, 0, none⟩ = some (.string s) ∧ x.cell? ⟨w2.heap.size, 1, none⟩ = some (.slice (some ⟨b, 0, none⟩) (2 : Nat) cap) ∧ x.cell? ⟨w2.heap.size + 1, 0, none⟩ = some (.string a) ∧ x.cell? ⟨w2.heap.size + 1, 1, none⟩ = some (.string b0) ∧ x.cell? ⟨w2.heap.size + 1, 2, none⟩ = some (.int .i64 lv) ∧ x.cell? ⟨b, 0, none⟩ = some (.iface T1 x1) ∧ x.cell? ⟨b, 1, none⟩ = some (.iface T2 x2))
        (first | exact ⟨q0, q1, q2, q3, q4, q5, q6⟩ | exact ⟨z0, z1, z2, z3, z4, z5, z6⟩ | exact ⟨y0, y1, y2, y3, y4, y5, y6⟩)
        (first
          | (go_at_call 93
             refine (H5.out _ _ _).mono ?_
             rintro e w7 ⟨rfl, hb7⟩
             have hd7 : Below W6.heap.size W6 w7 := (Below.refl W6.heap.size W6).drew.trans hb7
             have htf7 : TF mb W6 w7 := TF.below hd7 (Nat.le_of_lt hm6)
             obtain ⟨⟨z0, z1, z2, z3, z4⟩, z5, z6⟩ := HS.out w7 (HTF6.out.trans htf7)
             have HTF7 := Lib.hid (HTF6.out.trans htf7)
             have HW7 := Lib.hid (HX6.out.1.below hd7)
             clear hb7 hd7 htf7)
          | (go_at_call 91
             refine (H3.out _ (B1 ++ b0.data.toList) HL6.out (HTF3.out.trans HTF7.out) HW7.out).mono ?_
             rintro e w8 ⟨rfl, hw8, htf8⟩
             obtain ⟨⟨q0, q1, q2, q3, q4⟩, q5, q6⟩ := HS.out w8 (HTF7.out.trans htf8)
             have HTF8 := Lib.hid (HTF7.out.trans htf8)
             have HW8 := Lib.hid hw8
             clear hw8 htf8))
      have HFN : Hid (TW ob mb (bs ++ (TL ++ (spB s.data.toList ++ TR))) w8 ∧ TF mb w w8) := Lib.hid ⟨by
        have e : bs ++ (TL ++ (spB s.data.toList ++ TR)) = B1 ++ b0.data.toList ++ TR := by rw [HBE.out, ← HB1.out]; simp
        rw [e]; exact HW8.out, HTF3.out.trans HTF8.out⟩
      go_wp2_with fail
      go_end0
      exact ⟨rfl, HFN.out⟩
  · exact absurd (hz rfl) (by have := HLV.out; omega)

theorem written_of (s : ByteArray) (f : Fr) (h : ∀ s' f', f'.size < f.size → OwC s' f') : OwC s f := by
  intro k n d v lo hi ob mb bs w hs hv hh hw hl ht hnd
  have hsz : s.size ≤ maxLen := by
    have := (smF_shape (.cons k n s f .nil) d (by rw [shapeF_cons, hs]; rfl)).1.1
    unfold maxLen; omega
  cases hi0 : infB k s f.len
  · exact written_plain s f h k n d v lo hi ob mb bs w hi0 hs hsz hv hh hw (by omega) ht hnd
  · obtain ⟨rfl, hlv, _⟩ := inf_kids hi0
    have hp : pairB 3 s f.len = false := by
      cases hp : pairB 3 s f.len
      · rfl
      · have hd := (pairB_len hp).2.2
        unfold dotB at hd
        rw [beq_iff_eq] at hd
        rw [hd] at hlv
        exact absurd hlv (by decide)
    exact written_inf n s f hp hi0 h d v lo hi ob mb bs w hs hv hh hw hl ht hnd
theorem ow_all (N : Nat) : ∀ (s : ByteArray) (f : Fr), f.size ≤ N → OwC s f := by
  induction N with
  | zero => exact fun s f hf => written_of s f fun s' f' h => by omega
  | succ N ih => exact fun s f hf => written_of s f fun s' f' h => ih s' f' (by omega)
end Go.Proofs.YtmgfndgmebignaaGreatDoor.wr

/- The model's texts with operators: spec.l2Text at every term; spec.WriteTerm. Condition: the term lies in memory. -/
namespace Go.Proofs.YtmgfndgmebignaaGreatDoor.wr
open Go.RowKit

set_option maxRecDepth 100000 in
set_option maxHeartbeats 4000000 in
/-- spec.l2Text of a structure with arguments. -/
theorem txt_str (n : Int) (s : ByteArray) (f : Fr) (hpf : pairB 3 s f.len = false) (hif : infB 3 s f.len = false) (hpos : 0 < f.len) (h : ∀ s' f', f'.size < f.size → TxC s' f') (A : Option Addr) (cap lo hi : Nat) (d : Int) (w : World) (hk : KidsAt w lo hi f A cap) (hh : hi ≤ w.heap.size) (hs : shapeT 3 n s f d = true) (hnd : nodes f ≤ 1048576) :
    Calls Tryz.prog 60 #[.agg #[.int .i64 3, .int .i64 n, .string s, .slice A f.len cap]] w fun e w' => e = .returned (.string ⟨(txT 3 n s f).toArray⟩) ∧ Below w.heap.size w w' := by
  have hGl := (txT_shape hs).1
  have hG2 : (txT 3 n s f).length ≤ 67108864 := by omega
  have hG : txT 3 n s f = s.data.toList ++ (40 :: (remB 0 f ++ [41])) := by rw [txT_str hpf hif, argsB_rem, if_neg (by omega)]
  rw [hG] at hG2
  simp only [List.length_append, List.length_cons] at hG2
  have hsz : s.data.toList.length = s.size := rfl
  rw [hG]
  have hb0 : Below w.heap.size w (w.alloc (.cells #[.int .i64 3, .int .i64 n, .string s, .slice A f.len cap] 31)) := (Below.refl _ _).alloc (Nat.le_refl _) _
  have hq0 := Blk.new w 31 #[.int .i64 3, .int .i64 n, .string s, .slice A f.len cap]
  obtain ⟨x0, x1, x2, x3⟩ := cells4i hq0
  have C1 := fun w1 => pair_any 3 n s A f.len cap w1
  have C2 := fun w1 => infix_any 3 n s A f.len cap w1
  have C3 := fun w1 (hb : Below w.heap.size w w1) => args_of f (fun j k n s kids rest hd => h s kids (by have h1 := Fr.size_drop j f; rw [hd] at h1; simp only [Fr.size] at h1; omega)) (d - 1) A cap lo hi w1 (hk.below hb hh) (Nat.le_trans hh hb.size) (shapeT_kids hs) hnd (by omega)
  rw [hpf] at C1
  rw [hif] at C2
  have HQ := Lib.hid hq0
  have HB0 := Lib.hid hb0
  have H1 := Lib.hid C1
  have H2 := Lib.hid C2
  have H3 := Lib.hid C3
  have HSTR := Lib.hid (str_args s (remB 0 f))
  have t0 : (0 : Int) < (f.len : Int) := by omega
  have t1 : ¬ 9223372036854775807 < s.size + 1 := by omega
  have t2 : ¬ 9223372036854775807 < s.size + 1 + (remB 0 f).length := by omega
  have t3 : ¬ 9223372036854775807 < s.size + 1 + (remB 0 f).length + 1 := by omega
  clear h C1 C2 C3 hk hs hnd hb0 hq0 hh hpf hif hG hGl hsz hpos
  generalize remB 0 f = RB at *
  generalize f.len = len at *
  have back : ∀ w2, Below (w.alloc (.cells #[.int .i64 3, .int .i64 n, .string s, .slice A len cap] 31)).heap.size (w.alloc (.cells #[.int .i64 3, .int .i64 n, .string s, .slice A len cap] 31)) w2 → Below w.heap.size w w2 ∧ Blk w2 w.heap.size 31 #[.int .i64 3, .int .i64 n, .string s, .slice A len cap] := fun w2 hb => ⟨HB0.out.trans (hb.mono HB0.out.size), HQ.out.below hb HQ.out.lt⟩
  have HBK := Lib.hid back
  clear back
  go_enter Tryz.func60, Tryz.ntmps60
  go_wp2_with fail
  refine (H1.out _).mono ?_
  rintro e w2 ⟨rfl, hb⟩
  obtain ⟨hbw, hq⟩ := HBK.out w2 hb
  clear x0 x1 x2 x3 hb
  obtain ⟨x0, x1, x2, x3⟩ := cells4i hq
  have HB2 := Lib.hid hbw
  have HQ2 := Lib.hid hq
  have hs2 := hq.lt
  clear hq hbw
  go_wp2_with fail
  refine (H2.out _).mono ?_
  rintro e w3 ⟨rfl, hb⟩
  have HB3 := Lib.hid (HB2.out.trans (hb.mono HB2.out.size))
  have hq := HQ2.out.below hb hs2
  have HQ3 := Lib.hid hq
  have hs3 := hq.lt
  clear x0 x1 x2 x3 hb
  obtain ⟨x0, x1, x2, x3⟩ := cells4i hq
  clear hq
  go_wp2_with fail
  go_region_held3 (fun w' => w'.cell? ⟨w.heap.size, 0, none⟩ = some (.int .i64 3) ∧ w'.cell? ⟨w.heap.size, 1, none⟩ = some (.int .i64 n) ∧ w'.cell? ⟨w.heap.size, 2, none⟩ = some (.string s) ∧ w'.cell? ⟨w.heap.size, 3, none⟩ = some (.slice A len cap))
    (first | exact ⟨z0, z1, z2, z3⟩ | exact ⟨x0, x1, x2, x3⟩)
    (first
      | (go_at_call 86
         refine (H3.out _ HB3.out.drew).mono ?_
         rintro e w5 ⟨rfl, hb5⟩
         have hd5 : Below w3.heap.size w3 w5 := (Below.refl w3.heap.size w3).drew.trans hb5
         obtain ⟨z0, z1, z2, z3⟩ := cells4i (HQ3.out.below hd5 hs3)
         have HB5 := Lib.hid (HB3.out.trans (hd5.mono HB3.out.size))
         clear hb5 hd5))
  go_wp2_with fail
  go_ret
  exact ⟨congrArg Ending.returned HSTR.out, HB5.out⟩

set_option maxRecDepth 100000 in
set_option maxHeartbeats 4000000 in
/-- spec.l2Text of a list. -/
theorem txt_list (n : Int) (s : ByteArray) (f : Fr) (hpf : pairB 3 s f.len = true) (h : ∀ s' f', f'.size < f.size → TxC s' f') (A : Option Addr) (cap lo hi : Nat) (d : Int) (w : World) (hk : KidsAt w lo hi f A cap) (hh : hi ≤ w.heap.size) (hs : shapeT 3 n s f d = true) (hnd : nodes f ≤ 1048576) :
    Calls Tryz.prog 60 #[.agg #[.int .i64 3, .int .i64 n, .string s, .slice A f.len cap]] w fun e w' => e = .returned (.string ⟨(txT 3 n s f).toArray⟩) ∧ Below w.heap.size w w' := by
  have hb0 : Below w.heap.size w (w.alloc (.cells #[.int .i64 3, .int .i64 n, .string s, .slice A f.len cap] 31)) := (Below.refl _ _).alloc (Nat.le_refl _) _
  have hq0 := Blk.new w 31 #[.int .i64 3, .int .i64 n, .string s, .slice A f.len cap]
  obtain ⟨x0, x1, x2, x3⟩ := cells4i hq0
  have hlo : lo ≤ w.heap.size := by
    obtain ⟨b, o, _, h1, h2, _⟩ := hk.2.2 (by have := (pairB_len hpf).1; omega)
    omega
  have C1 := fun w1 => pair_any 3 n s A f.len cap w1
  have C3 := fun w1 (hb : Below w.heap.size w w1) => list_of s f h 3 n A cap lo hi d w1 (hk.below hb hh) (Nat.le_trans hh hb.size) (Nat.le_trans hlo hb.size) hpf hs hnd
  rw [hpf] at C1
  have HQ := Lib.hid hq0
  have HB0 := Lib.hid hb0
  have H1 := Lib.hid C1
  have H3 := Lib.hid C3
  clear h C1 C3 hk hs hnd hb0 hq0 hh hpf hlo
  generalize txT 3 n s f = T at *
  generalize f.len = len at *
  have back : ∀ w2, Below (w.alloc (.cells #[.int .i64 3, .int .i64 n, .string s, .slice A len cap] 31)).heap.size (w.alloc (.cells #[.int .i64 3, .int .i64 n, .string s, .slice A len cap] 31)) w2 → Below w.heap.size w w2 ∧ Blk w2 w.heap.size 31 #[.int .i64 3, .int .i64 n, .string s, .slice A len cap] := fun w2 hb => ⟨HB0.out.trans (hb.mono HB0.out.size), HQ.out.below hb HQ.out.lt⟩
  have HBK := Lib.hid back
  clear back
  go_enter Tryz.func60, Tryz.ntmps60
  go_wp2_with fail
  refine (H1.out _).mono ?_
  rintro e w2 ⟨rfl, hb⟩
  obtain ⟨hbw, hq⟩ := HBK.out w2 hb
  clear x0 x1 x2 x3 hb
  obtain ⟨x0, x1, x2, x3⟩ := cells4i hq
  have HB2 := Lib.hid hbw
  clear hq hbw
  go_wp2_with fail
  refine (H3.out _ HB2.out).mono ?_
  rintro e w3 ⟨rfl, hb⟩
  have HB3 := Lib.hid (HB2.out.trans (hb.mono HB2.out.size))
  clear hb
  go_wp2_with fail
  go_ret
  exact ⟨rfl, HB3.out⟩

theorem txt_of (s : ByteArray) (f : Fr) (h : ∀ s' f', f'.size < f.size → TxC s' f') : TxC s f := by
  intro k n A cap lo hi d w hk hh hs hnd
  rcases shapeT_kind3 hs with ⟨rfl, _⟩ | ⟨rfl, _⟩ | rfl
  · exact txt_leaf 1 n s f (.inl rfl) A cap lo hi d w hk hh hs hnd
  · exact txt_leaf 2 n s f (.inr (.inl rfl)) A cap lo hi d w hk hh hs hnd
  · cases hp : pairB 3 s f.len
    · cases hi1 : infB 3 s f.len
      · by_cases h0 : f.len = 0
        · have hf : f = .nil := by
            cases f with
            | nil => rfl
            | cons _ _ _ _ _ => simp [Fr.len] at h0
          exact txt_leaf 3 n s f (.inr (.inr ⟨rfl, hf⟩)) A cap lo hi d w hk hh hs hnd
        · exact txt_str n s f hp hi1 (by omega) h A cap lo hi d w hk hh hs hnd
      · exact txt_inf n s f hp hi1 h A cap lo hi d w hk hh hs hnd
    · exact txt_list n s f hp h A cap lo hi d w hk hh hs hnd
theorem tx_all (N : Nat) : ∀ (s : ByteArray) (f : Fr), f.size ≤ N → TxC s f := by
  induction N with
  | zero => exact fun s f hf => txt_of s f fun s' f' h => by omega
  | succ N ih => exact fun s f hf => txt_of s f fun s' f' h => ih s' f' (by omega)

/-- What both WriteTerm answer. -/
def wrB (k n : Int) (s : ByteArray) (f : Fr) : List UInt8 := if validT k n s f = true then txT k n s f else []
end Go.Proofs.YtmgfndgmebignaaGreatDoor.wr
