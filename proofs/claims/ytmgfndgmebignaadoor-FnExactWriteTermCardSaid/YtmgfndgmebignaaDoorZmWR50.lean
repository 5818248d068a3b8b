/- opWriter.writeOperand, given the contract of writeWritten. Condition: the node lies in memory below the writer and is well-formed; the tables in their places. -/
import Derived.Test.YtmgfndgmebignaaDoorProg
import Derived.Test.YtmgfndgmebignaaDoorZmWR41
import Derived.Test.YtmgfndgmebignaaDoorZmWR46
import Derived.Test.YtmgfndgmebignaaDoorZmWR49
namespace Go.Proofs.YtmgfndgmebignaaDoor.wr
open Go.RowKit

theorem TF.rows {mb : Nat} {w w1 w6 : World} {tv : Value} {n : Nat} {xs : List Value} (hm : mb < w.heap.size) (ho : w.ownsRow (mb + 1) 5 1 tv n xs) (h1 : Below w.heap.size w w1) (hg : w1.grownBy w6 tv.ownBlock) : TF mb w w6 := by
  refine ⟨(h1.mono (Nat.le_of_lt hm)).grown hg (Nat.le_trans (Nat.le_of_lt hm) h1.size) fun k hk => by have := (ho.lt k hk).1; omega, ?_⟩
  refine (TF.below h1 (Nat.le_of_lt hm)).2.grown hg fun k hk => ?_
  obtain ⟨c, fz, hc⟩ := row_kind ho k hk
  exact ⟨c, fz, (h1.block k (ho.lt k hk).2).trans hc⟩
/-- Two calls that make the row grow, and the store of the new row. -/
theorem TW.two {ob mb n4 : Nat} {bs bs' : List UInt8} {xs4 : List Value} {w w1 w4 w5 w6 : World} {tv v4 v6 : Value} (hq : Blk w mb 48 #[tv, fW mb, .map (some ob)]) (ho : w.ownsRow (mb + 1) 5 1 tv bs.length (Lib.byteCells bs)) (h1 : Below w.heap.size w w1) (hg : w1.grownBy w4 tv.ownBlock)
    (ho4 : w4.ownsRow (mb + 1) 5 1 v4 n4 xs4) (h5 : Below w4.heap.size w4 w5) (hg6 : w5.grownBy w6 v4.ownBlock) (ho6 : w6.ownsRow (mb + 1) 5 1 v6 bs'.length (Lib.byteCells bs')) :
    TW ob mb bs' (w6.setCell ⟨mb, 0, none⟩ v6) ∧ TF mb w (w6.setCell ⟨mb, 0, none⟩ v6) ∧ Blk w6 mb 48 #[tv, fW mb, .map (some ob)] := by
  have hm := hq.lt
  have hs4 : w.heap.size ≤ w4.heap.size := Nat.le_trans h1.size hg.size
  have t1 := TF.rows hm ho h1 hg
  have t2 := TF.rows (Nat.lt_of_lt_of_le hm hs4) ho4 h5 hg6
  have hne : some mb ≠ tv.ownBlock := fun e => by have := (ho.lt mb e.symm).1; omega
  have hne4 : some mb ≠ v4.ownBlock := fun e => by have := (ho4.lt mb e.symm).1; omega
  have hq6 : Blk w6 mb 48 #[tv, fW mb, .map (some ob)] := by
    refine hq.keep ?_
    rw [hg6.block mb (Nat.lt_of_lt_of_le (Nat.lt_of_lt_of_le hm hs4) h5.size) hne4, h5.block mb (Nat.lt_of_lt_of_le hm hs4), hg.block mb (Nat.lt_of_lt_of_le hm h1.size) hne, h1.block mb hm]
  refine ⟨⟨v6, ?_, ?_⟩, (t1.trans t2).set_ 0 _, hq6⟩
  · have h := hq6.set_ 0 v6
    simpa using h
  · refine ho6.kept (row := some mb) ⟨rfl, rfl, rfl, by simp [World.setCell], fun k _ hk => ?_⟩ (.inr fun e => ?_)
    · exact heap_setCell_other _ _ _ _ fun e => hk (by rw [e])
    · have := (ho6.lt mb e).1
      omega
theorem row_some {w : World} {base : Nat} {e : TypeId} {A : Option Addr} {n c : Nat} {xs : List Value} (h : w.ownsRow base e 1 (.slice A n c) n xs) (hn : 0 < n) : ∃ g, A = some ⟨g, 0, none⟩ := by
  rcases h.2 with ⟨_, h0⟩ | ⟨g', cap, cur, hv, _⟩
  · omega
  · simp only [Value.slice.injEq] at hv
    exact ⟨g', hv.1⟩
/-- An operand's text. -/
def opT (right : Bool) (k n : Int) (s : ByteArray) (f : Fr) (l : Int) : List UInt8 := if right = true then rigT k n s f l else lefT k n s f l
theorem byteCells_at (a b : List UInt8) (c : UInt8) : (Lib.byteCells (a ++ c :: b))[a.length]? = some (.int .u8 (c.toNat : Int)) := by
  unfold Lib.byteCells
  simp
theorem one_bytes (a : List UInt8) : ∀ v ∈ Lib.byteCells a, v.oneCell' = true := by
  unfold Lib.byteCells
  intro v hv
  simp only [List.mem_map] at hv
  obtain ⟨c, _, rfl⟩ := hv
  rfl
theorem ins_bytes (bs T : List UInt8) : (Lib.byteCells (bs ++ T)).take bs.length ++ Value.int .u8 40 :: (Lib.byteCells (bs ++ T)).drop bs.length = Lib.byteCells (bs ++ 40 :: T) := by
  unfold Lib.byteCells
  rw [List.map_append, List.take_left' (by simp), List.drop_left' (by simp)]
  simp

set_option maxRecDepth 100000 in
set_option maxHeartbeats 4000000 in
/-- opWriter.writeOperand where no brackets are needed. -/
theorem opnd_plain (s : ByteArray) (f : Fr) (h : OwC s f) (k n d l : Int) (right : Bool) (v : Value) (lo hi ob mb : Nat) (bs : List UInt8) (w : World) (hs : shapeT k n s f d = true) (hsz : s.size ≤ maxLen) (hv : NdV w lo hi k n s f v) (hh : hi ≤ mb) (hw : TW ob mb bs w) (hl : bs.length + (txT k n s f).length ≤ 1073741824) (ht : Pow10 ob mb w) (hnd : nodes f ≤ 1048576)
    (h1 : ¬ l < olv k s f.len) (h2 : right = true → plB (txT k n s f) = true) :
    Calls Tryd.prog 32 #[.pointer (some ⟨mb, 0, none⟩), v, .int .i64 l, .bool right] w fun e w' => e = .returned (.tuple #[]) ∧ TW ob mb (bs ++ txT k n s f) w' ∧ TF mb w w' := by
  have hm0 : mb < w.heap.size := by obtain ⟨_, hq, _⟩ := hw; exact hq.lt
  have C1 := h k n d v lo hi ob mb bs w hs hv hh hw hl ht hnd
  have hfl : f.len ≤ maxLen := by have := len_le_nodes f; unfold maxLen; omega
  have C2 := fun (w2 : World) (htf : TF mb w w2) (tv : Value) (hq : Blk w2 mb 48 #[tv, fW mb, .map (some ob)]) => oplev_any k n s f v lo hi ob mb tv (fW mb) w2 (hv.keep (fun p _ hp => htf.1.cell (by omega)) (Nat.le_refl _) (Nat.le_refl _)) hsz hfl hq (OpM_keep ht.2.2 htf.1 ht.2.1)
  have hpos := txT_ne hs
  obtain ⟨c, T', hT⟩ : ∃ c T', txT k n s f = c :: T' := by
    cases hx : txT k n s f with
    | nil => rw [hx] at hpos; simp at hpos
    | cons c T' => exact ⟨c, T', rfl⟩
  have C3 := fun (w3 : World) => follow_any c w3
  have hplc : right = true → plC c = true := fun hr => by have := h2 hr; rw [hT] at this; exact this
  obtain ⟨T0, x0, rfl⟩ := hv.iface
  have H1 := Lib.hid C1
  have H2 := Lib.hid C2
  have H3 := Lib.hid C3
  have HW0 := Lib.hid hw
  have HT := Lib.hid hT
  have d1 : decide (l < olv k s f.len) = false := decide_eq_false h1
  clear C1 C2 C3 h hs hsz hv hh ht hnd h1 h2 hT hfl hpos
  generalize txT k n s f = T at *
  generalize olv k s f.len = ol at *
  obtain ⟨tv0, hq0, ho0⟩ := hw
  obtain ⟨A0, c0, rfl, _, _⟩ := row_form ho0
  have p00 := hq0.cell 0
  simp only [List.getElem?_toArray, List.getElem?_cons_zero] at p00
  have hbl : bs.length ≤ 1073741824 := by omega
  clear hq0 ho0
  go_enter Tryd.func32, Tryd.ntmps32
  go_wp2_with fail
  refine H1.out.mono ?_
  rintro e w2 ⟨rfl, hw2, htf2⟩
  obtain ⟨tv2, hq2, ho2⟩ := hw2
  have C4 := H2.out w2 htf2 tv2 hq2
  have H4 := Lib.hid C4
  have HTF2 := Lib.hid htf2
  have HW2 : Hid (TW ob mb (bs ++ T) w2) := Lib.hid ⟨tv2, hq2, ho2⟩
  have hm2 := hq2.lt
  clear C4 htf2 hq2 ho2 p00
  go_wp2_with fail
  refine H4.out.mono ?_
  rintro e w3 ⟨rfl, hb3⟩
  have HW3 := Lib.hid (HW2.out.below hb3)
  have HTF3 := Lib.hid (HTF2.out.trans (TF.below hb3 (Nat.le_of_lt hm2)))
  clear hb3
  cases right
  · clear hplc
    go_wp2_with fail
    go_end0
    exact ⟨rfl, HW3.out, HTF3.out⟩
  · have hpc := hplc rfl
    obtain ⟨tv3, hq3, ho3⟩ := HW3.out
    obtain ⟨A3, c3, rfl, hc3, hc4⟩ := row_form ho3
    obtain ⟨g, rfl⟩ := row_some ho3 (by rw [HT.out]; simp only [List.length_append, List.length_cons]; omega)
    have p03 := hq3.cell 0
    simp only [List.getElem?_toArray, List.getElem?_cons_zero] at p03
    have hy := ho3.cells (g := g) rfl bs.length (.int .u8 (c.toNat : Int)) (by rw [HT.out]; exact byteCells_at bs T' c)
    have e : (⟨g, 0, none⟩ : Addr).add bs.length = ⟨g, bs.length, none⟩ := by unfold Addr.add; split <;> simp_all
    rw [e] at hy
    have hlt : bs.length < (bs ++ T).length := by rw [HT.out]; simp only [List.length_append, List.length_cons]; omega
    have C5 := H3.out w3
    rw [hpc] at C5
    have H5 := Lib.hid C5
    have hNl : (bs ++ T).length ≤ 1073741824 := by rw [List.length_append]; exact hl
    unfold maxLen at hc4
    generalize (bs ++ T).length = N at *
    clear hplc hpc C5 hq3 ho3 e
    go_wp2_with (first
      | (go_at_call 50; refine H5.out.mono ?_; rintro e w3 ⟨rfl, rfl⟩)
      | fail)
    go_end0
    exact ⟨rfl, HW3.out, HTF3.out⟩
end Go.Proofs.YtmgfndgmebignaaDoor.wr

/- opWriter.writeOperand where brackets are needed; at every operand. Condition: the node lies in memory below the writer and is well-formed; the tables in their places. -/
namespace Go.Proofs.YtmgfndgmebignaaDoor.wr
open Go.RowKit

set_option maxRecDepth 100000 in
set_option maxHeartbeats 8000000 in
/-- opWriter.writeOperand where brackets are needed. -/
theorem opnd_bra (s : ByteArray) (f : Fr) (h : OwC s f) (k n d l : Int) (right : Bool) (v : Value) (lo hi ob mb : Nat) (bs : List UInt8) (w : World) (hs : shapeT k n s f d = true) (hsz : s.size ≤ maxLen) (hv : NdV w lo hi k n s f v) (hh : hi ≤ mb) (hw : TW ob mb bs w) (hl : bs.length + (txT k n s f).length + 2 ≤ 1073741824) (ht : Pow10 ob mb w) (hnd : nodes f ≤ 1048576)
    (hc : l < olv k s f.len ∨ ¬ l < olv k s f.len ∧ right = true ∧ plB (txT k n s f) = false) :
    Calls Tryd.prog 32 #[.pointer (some ⟨mb, 0, none⟩), v, .int .i64 l, .bool right] w fun e w' => e = .returned (.tuple #[]) ∧ TW ob mb (bs ++ braB (txT k n s f)) w' ∧ TF mb w w' := by
  obtain ⟨i0, hi0, hz0, hz1, hz2⟩ := info_parts infoU8
  have hm0 : mb < w.heap.size := by obtain ⟨_, hq, _⟩ := hw; exact hq.lt
  have C1 := h k n d v lo hi ob mb bs w hs hv hh hw (by omega) ht hnd
  have hfl : f.len ≤ maxLen := by have := len_le_nodes f; unfold maxLen; omega
  have C2 := fun (w2 : World) (htf : TF mb w w2) (tv : Value) (hq : Blk w2 mb 48 #[tv, fW mb, .map (some ob)]) => oplev_any k n s f v lo hi ob mb tv (fW mb) w2 (hv.keep (fun p _ hp => htf.1.cell (by omega)) (Nat.le_refl _) (Nat.le_refl _)) hsz hfl hq (OpM_keep ht.2.2 htf.1 ht.2.1)
  have hpos := txT_ne hs
  obtain ⟨c, T', hT⟩ : ∃ c T', txT k n s f = c :: T' := by
    cases hx : txT k n s f with
    | nil => rw [hx] at hpos; simp at hpos
    | cons c T' => exact ⟨c, T', rfl⟩
  have C3 := fun (w3 : World) => follow_any c w3
  have hc2 : l < olv k s f.len ∨ ¬ l < olv k s f.len ∧ right = true ∧ plC c = false := by
    rcases hc with h | ⟨h1, h2, h3⟩
    · exact .inl h
    · rw [hT] at h3
      exact .inr ⟨h1, h2, h3⟩
  obtain ⟨T0, x0, rfl⟩ := hv.iface
  have H1 := Lib.hid C1
  have H2 := Lib.hid C2
  have H3 := Lib.hid C3
  have HT := Lib.hid hT
  clear C1 C2 C3 h hs hsz hv hh ht hnd hc hT hfl hpos
  generalize txT k n s f = T at *
  generalize olv k s f.len = ol at *
  obtain ⟨tv0, hq0, ho0⟩ := hw
  obtain ⟨A0, c0, rfl, _, _⟩ := row_form ho0
  have p00 := hq0.cell 0
  simp only [List.getElem?_toArray, List.getElem?_cons_zero] at p00
  have hbl : bs.length ≤ 1073741824 := by omega
  clear hq0 ho0
  go_enter Tryd.func32, Tryd.ntmps32
  go_wp2_with fail
  refine H1.out.mono ?_
  rintro e w2 ⟨rfl, hw2, htf2⟩
  obtain ⟨tv2, hq2, ho2⟩ := hw2
  have C4 := H2.out w2 htf2 tv2 hq2
  have H4 := Lib.hid C4
  have HTF2 := Lib.hid htf2
  have HW2 : Hid (TW ob mb (bs ++ T) w2) := Lib.hid ⟨tv2, hq2, ho2⟩
  have hm2 := hq2.lt
  clear C4 htf2 hq2 ho2 p00
  go_wp2_with fail
  refine H4.out.mono ?_
  rintro e w3 ⟨rfl, hb3⟩
  have HW3 := Lib.hid (HW2.out.below hb3)
  have HTF3 := Lib.hid (HTF2.out.trans (TF.below hb3 (Nat.le_of_lt hm2)))
  clear hb3
  obtain ⟨tv3, hq3, ho3⟩ := HW3.out
  obtain ⟨A3, c3, rfl, hc3, hc4⟩ := row_form ho3
  obtain ⟨g, rfl⟩ := row_some ho3 (by rw [HT.out]; simp only [List.length_append, List.length_cons]; omega)
  have p03 := hq3.cell 0
  have pf3 := hq3.frozen 0
  simp only [List.getElem?_toArray, List.getElem?_cons_zero] at p03
  have hm3 := hq3.lt
  have hgl := (ho3.lt g rfl).2
  have hgm := (ho3.lt g rfl).1
  have hlt : bs.length < (bs ++ T).length := by rw [HT.out]; simp only [List.length_append, List.length_cons]; omega
  have hNl : (bs ++ T).length + 2 ≤ 1073741824 := by rw [List.length_append]; omega
  have C6 := ins_any (mb + 1) (bs ++ T).length bs.length w3.heap.size (.slice (some ⟨g, 0, none⟩) (bs ++ T).length c3) (.int .u8 40) (Lib.byteCells (bs ++ T)) (w3.alloc (.cells #[.int .u8 40] 5)) rfl (one_bytes _) hlt (by omega) (by simp; omega) (fun e => by simp [Value.ownBlock] at e; omega) (ho3.alloc _) (Blk.new w3 _ _)
  rw [ins_bytes] at C6
  have hins : (bs ++ 40 :: T).length = (bs ++ T).length + 1 := by simp only [List.length_append, List.length_cons]; omega
  have hfin : (bs ++ braB T).length = (bs ++ T).length + 2 := by unfold braB; simp only [List.length_append, List.length_cons, List.length_nil]; omega
  have hfc : Lib.byteCells (bs ++ 40 :: T) ++ [.int .u8 41] = Lib.byteCells (bs ++ braB T) := by unfold Lib.byteCells braB; simp
  have H6 := Lib.hid C6
  have HFL := Lib.hid hfin
  have HFC := Lib.hid hfc
  have HQ3 := Lib.hid hq3
  have HO3 := Lib.hid ho3
  unfold maxLen at hc4
  rcases hc2 with hc2 | ⟨hc2, rfl, hpc⟩
  · have d1 : decide (l < ol) = true := decide_eq_true hc2
    generalize hN : (bs ++ T).length = N at *
    have HO3N : Hid (w3.ownsRow (mb + 1) 5 1 (.slice (some ⟨g, 0, none⟩) N c3) (bs ++ T).length (Lib.byteCells (bs ++ T))) := Lib.hid (by rw [hN]; exact HO3.out)
    have HQ3 : Hid (Blk w3 mb 48 #[.slice (some ⟨g, 0, none⟩) N c3, fW mb, .map (some ob)]) := HQ3
    clear hN hc2 hq3 ho3 C6 hins hfin hfc
    go_wp2_with fail
    refine H6.out.mono ?_
    rintro e w4 ⟨g4, cap4, rfl, ho4, hg4⟩
    have hs4 : w3.heap.size < w4.heap.size := by have := hg4.size; simp at this; omega
    have HO4 := Lib.hid ho4
    have HG4 := Lib.hid hg4
    have hq4 : Blk w4 mb 48 #[.slice (some ⟨g, 0, none⟩) N c3, fW mb, .map (some ob)] := HQ3.out.keep ((hg4.block mb (by simp; omega) (fun e => by simp [Value.ownBlock] at e; omega)).trans (((Below.refl w3.heap.size w3).alloc (Nat.le_refl _) _).block mb hm3))
    have yf4 := hq4.frozen 0
    have y04 := hq4.cell 0
    simp only [List.getElem?_toArray, List.getElem?_cons_zero] at y04
    clear ho4 hg4 hq4 p03 pf3
    go_wp2_with (at_builtin; go_must (refine wpList_append_lies _ rfl _ _ _ rfl (mb + 1) 5 i0 _ 1 1 Tryd.underlying43 hi0 hz0 hz1 hz2 rfl (by omega) _ (N + 1) _ rfl (HO4.out.alloc _) ⟨w4.heap.size, 0, none⟩ 1 1 [.int .u8 41] rfl rfl (World.news_of_block (cs := #[.int .u8 41]) (t := 5) (fr := (0, 0)) (Blk.new w4 5 #[.int .u8 41])) (by simp [Value.oneCell']) (by omega) (by unfold maxLen; omega) (by omega) (by simp; omega) (w4.heap.size + 1) (by simp) ?_); intro g6 cap6 w6 hown6 hgrow6 _ _; rw [HFC.out] at hown6; have hst6 := TW.two (bs' := bs ++ braB T) (ob := ob) HQ3.out HO3N.out ((Below.refl _ _).alloc (Nat.le_refl _) _) HG4.out HO4.out ((Below.refl _ _).alloc (Nat.le_refl _) _) hgrow6 (by rw [HFL.out]; exact hown6); have y6 := hst6.2.2.cell 0; have yf6 := hst6.2.2.frozen 0; simp only [List.getElem?_toArray, List.getElem?_cons_zero] at y6; have HS6 := Lib.hid (And.intro hst6.1 hst6.2.1); clear hown6 hgrow6 hst6; refine Hid.out ?_)
    refine Lib.hid ?_
    go_wp2_with fail
    go_end0
    exact ⟨rfl, HS6.out.1, HTF3.out.trans HS6.out.2⟩
  · have d1 : decide (l < ol) = false := decide_eq_false (by omega)
    have hy := ho3.cells (g := g) rfl bs.length (.int .u8 (c.toNat : Int)) (by rw [HT.out]; exact byteCells_at bs T' c)
    have e : (⟨g, 0, none⟩ : Addr).add bs.length = ⟨g, bs.length, none⟩ := by unfold Addr.add; split <;> simp_all
    rw [e] at hy
    have C5 := H3.out w3
    rw [hpc] at C5
    have H5 := Lib.hid C5
    generalize hN : (bs ++ T).length = N at *
    have HO3N : Hid (w3.ownsRow (mb + 1) 5 1 (.slice (some ⟨g, 0, none⟩) N c3) (bs ++ T).length (Lib.byteCells (bs ++ T))) := Lib.hid (by rw [hN]; exact HO3.out)
    clear hN hc2 hpc hq3 ho3 C6 C5 hins hfin hfc e
    go_wp2_with (first
      | (go_at_call 50; refine H5.out.mono ?_; rintro e w3 ⟨rfl, rfl⟩)
      | fail)
    refine H6.out.mono ?_
    rintro e w4 ⟨g4, cap4, rfl, ho4, hg4⟩
    have hs4 : w3.heap.size < w4.heap.size := by have := hg4.size; simp at this; omega
    have HO4 := Lib.hid ho4
    have HG4 := Lib.hid hg4
    have hq4 : Blk w4 mb 48 #[.slice (some ⟨g, 0, none⟩) N c3, fW mb, .map (some ob)] := HQ3.out.keep ((hg4.block mb (by simp; omega) (fun e => by simp [Value.ownBlock] at e; omega)).trans (((Below.refl w3.heap.size w3).alloc (Nat.le_refl _) _).block mb hm3))
    have yf4 := hq4.frozen 0
    have y04 := hq4.cell 0
    simp only [List.getElem?_toArray, List.getElem?_cons_zero] at y04
    clear ho4 hg4 hq4 p03 pf3
    go_wp2_with (at_builtin; go_must (refine wpList_append_lies _ rfl _ _ _ rfl (mb + 1) 5 i0 _ 1 1 Tryd.underlying43 hi0 hz0 hz1 hz2 rfl (by omega) _ (N + 1) _ rfl (HO4.out.alloc _) ⟨w4.heap.size, 0, none⟩ 1 1 [.int .u8 41] rfl rfl (World.news_of_block (cs := #[.int .u8 41]) (t := 5) (fr := (0, 0)) (Blk.new w4 5 #[.int .u8 41])) (by simp [Value.oneCell']) (by omega) (by unfold maxLen; omega) (by omega) (by simp; omega) (w4.heap.size + 1) (by simp) ?_); intro g6 cap6 w6 hown6 hgrow6 _ _; rw [HFC.out] at hown6; have hst6 := TW.two (bs' := bs ++ braB T) (ob := ob) HQ3.out HO3N.out ((Below.refl _ _).alloc (Nat.le_refl _) _) HG4.out HO4.out ((Below.refl _ _).alloc (Nat.le_refl _) _) hgrow6 (by rw [HFL.out]; exact hown6); have y6 := hst6.2.2.cell 0; have yf6 := hst6.2.2.frozen 0; simp only [List.getElem?_toArray, List.getElem?_cons_zero] at y6; have HS6 := Lib.hid (And.intro hst6.1 hst6.2.1); clear hown6 hgrow6 hst6; refine Hid.out ?_)
    refine Lib.hid ?_
    go_wp2_with fail
    go_end0
    exact ⟨rfl, HS6.out.1, HTF3.out.trans HS6.out.2⟩
end Go.Proofs.YtmgfndgmebignaaDoor.wr

/- opWriter.writeWritten where it hands on to writeTerm; writeOperand at every operand. Condition: the node lies in memory below the writer and is well-formed; the tables in their places. -/
namespace Go.Proofs.YtmgfndgmebignaaDoor.wr
open Go.RowKit

theorem opT_eq (right : Bool) (k n : Int) (s : ByteArray) (f : Fr) (l : Int) : opT right k n s f l = if l < olv k s f.len ∨ right = true ∧ plB (txT k n s f) = false then braB (txT k n s f) else txT k n s f := by
  unfold opT rigT lefT
  cases right <;> simp
/-- opWriter.writeOperand. -/
theorem opnd_any (s : ByteArray) (f : Fr) (h : OwC s f) (k n d l : Int) (right : Bool) (v : Value) (lo hi ob mb : Nat) (bs : List UInt8) (w : World) (hs : shapeT k n s f d = true) (hsz : s.size ≤ maxLen) (hv : NdV w lo hi k n s f v) (hh : hi ≤ mb) (hw : TW ob mb bs w) (hl : bs.length + (opT right k n s f l).length ≤ 1073741824) (ht : Pow10 ob mb w) (hnd : nodes f ≤ 1048576) :
    Calls Tryd.prog 32 #[.pointer (some ⟨mb, 0, none⟩), v, .int .i64 l, .bool right] w fun e w' => e = .returned (.tuple #[]) ∧ TW ob mb (bs ++ opT right k n s f l) w' ∧ TF mb w w' := by
  rw [opT_eq] at hl ⊢
  by_cases h1 : l < olv k s f.len
  · rw [if_pos (.inl h1)] at hl ⊢
    have hl : bs.length + (txT k n s f).length + 2 ≤ 1073741824 := by unfold braB at hl; simp only [List.length_cons, List.length_append, List.length_nil] at hl; omega
    exact opnd_bra s f h k n d l right v lo hi ob mb bs w hs hsz hv hh hw hl ht hnd (.inl h1)
  · by_cases h2 : right = true ∧ plB (txT k n s f) = false
    · rw [if_pos (.inr h2)] at hl ⊢
      have hl : bs.length + (txT k n s f).length + 2 ≤ 1073741824 := by unfold braB at hl; simp only [List.length_cons, List.length_append, List.length_nil] at hl; omega
      exact opnd_bra s f h k n d l right v lo hi ob mb bs w hs hsz hv hh hw hl ht hnd (.inr ⟨h1, h2⟩)
    · rw [if_neg (by rintro (h | h); exact h1 h; exact h2 h)] at hl ⊢
      refine opnd_plain s f h k n d l right v lo hi ob mb bs w hs hsz hv hh hw (by omega) ht hnd h1 fun hr => ?_
      cases hp : plB (txT k n s f)
      · exact absurd ⟨hr, hp⟩ h2
      · rfl

set_option maxRecDepth 100000 in
set_option maxHeartbeats 4000000 in
/-- opWriter.writeWritten of what is no operator with two operands. -/
theorem written_plain (s : ByteArray) (f : Fr) (h : ∀ s' f', f'.size < f.size → OwC s' f') (k n d : Int) (v : Value) (lo hi ob mb : Nat) (bs : List UInt8) (w : World) (hi0 : infB k s f.len = false) (hs : shapeT k n s f d = true) (hsz : s.size ≤ maxLen) (hv : NdV w lo hi k n s f v) (hh : hi ≤ mb) (hw : TW ob mb bs w) (hl : bs.length + (txT k n s f).length ≤ 1073741824) (ht : Pow10 ob mb w) (hnd : nodes f ≤ 1048576) :
    Calls Tryd.prog 15 #[.pointer (some ⟨mb, 0, none⟩), v] w fun e w' => e = .returned (.tuple #[]) ∧ TW ob mb (bs ++ txT k n s f) w' ∧ TF mb w w' := by
  have hm0 : mb < w.heap.size := by obtain ⟨_, hq, _⟩ := hw; exact hq.lt
  have hw' := hw
  obtain ⟨tv0, hq0, _⟩ := hw'
  obtain ⟨A, cap, -, C1⟩ := named_any k n s f v lo hi ob mb tv0 (fW mb) w hv hsz hq0 ht.2.2
  have C2 := fun (w2 : World) (hb : Below w.heap.size w w2) => wterm_of s f h k n d v lo hi ob mb bs w2 hi0 hs (hv.keep (fun p _ hp => hb.cell (by omega)) (Nat.le_refl _) (Nat.le_refl _)) hh (hw.below hb) hl (ht.on (hb.mono (Nat.le_of_lt hm0))) hnd
  have hfl : f.len ≤ 1048576 := by have := len_le_nodes f; omega
  obtain ⟨T0, x0, rfl⟩ := hv.iface
  have HI : Hid (infB k s f.len = false) := Lib.hid hi0
  have HIE : Hid (infB k s f.len = (k == 3 && (f.len == 2 && decide (0 < op.level s.data.toList)))) := Lib.hid rfl
  have H1 := Lib.hid C1
  have H2 := Lib.hid C2
  clear C1 C2 h hi0 hs hsz hv hh hw hl ht hnd hq0
  generalize txT k n s f = T at *
  generalize f.len = len at *
  go_enter Tryd.func15, Tryd.ntmps15
  go_wp2_with fail
  refine H1.out.mono ?_
  rintro e w2 ⟨hb, hr⟩
  have HB := Lib.hid hb
  have HB2 : Hid (∀ o1 o2, Below w.heap.size w ((w2.alloc o1).alloc o2)) := Lib.hid fun o1 o2 => (HB.out.alloc HB.out.size _).alloc (by have := HB.out.size; simp; omega) _
  rcases hr with ⟨rfl, hpos, a, rfl⟩ | ⟨hz, x1, x2, x3, x4, y1, y2, y3, rfl⟩
  · have h2 : len ≠ 2 := fun e => by
      have := HIE.out
      rw [HI.out, e, decide_eq_true hpos] at this
      simp at this
    have t2 : ((len : Int) != 2) = true := by rw [bne_iff_ne]; omega
    clear hpos hb h2
    go_wp2_with fail
    refine (H2.out _ (HB2.out _ _)).mono ?_
    rintro e w3 ⟨rfl, hw3, htf3⟩
    have HFN := Lib.hid (And.intro hw3 ((TF.below (HB2.out _ _) (Nat.le_of_lt hm0)).trans htf3))
    clear hw3 htf3
    go_wp2_with fail
    first
      | (go_end0; exact ⟨rfl, HFN.out⟩)
      | ((try simp only [Exit.inBlock, Exit.then]); refine bodyPost_ret (results_none rfl _ _ _) rfl ?_; exact ⟨rfl, HFN.out⟩)
  · clear hz hb
    go_wp2_with fail
    refine (H2.out _ (HB2.out _ _)).mono ?_
    rintro e w3 ⟨rfl, hw3, htf3⟩
    have HFN := Lib.hid (And.intro hw3 ((TF.below (HB2.out _ _) (Nat.le_of_lt hm0)).trans htf3))
    clear hw3 htf3
    go_wp2_with fail
    first
      | (go_end0; exact ⟨rfl, HFN.out⟩)
      | ((try simp only [Exit.inBlock, Exit.then]); refine bodyPost_ret (results_none rfl _ _ _) rfl ?_; exact ⟨rfl, HFN.out⟩)
end Go.Proofs.YtmgfndgmebignaaDoor.wr
