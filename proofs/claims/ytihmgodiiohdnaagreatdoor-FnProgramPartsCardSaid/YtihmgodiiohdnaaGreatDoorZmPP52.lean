/- opWriter.writeOperand where brackets are needed; at every operand. Condition: the node lies in memory below the writer and is well-formed; the tables in their places. -/
import Derived.Test.YtihmgodiiohdnaaGreatDoorProg
import Derived.Test.YtihmgodiiohdnaaGreatDoorZmPP51
import Derived.Test.YtihmgodiiohdnaaGreatDoorZmPP49
import Derived.Test.YtihmgodiiohdnaaGreatDoorTermOf
import Derived.Test.YtihmgodiiohdnaaGreatDoorZmPP47
import Derived.Test.YtihmgodiiohdnaaGreatDoorImplV
import Derived.Laws.EntriesVeiled
import Derived.Test.YtihmgodiiohdnaaGreatDoorZmPP50
import Derived.Deep.RegionHeld3
namespace Go.Proofs.YtihmgodiiohdnaaGreatDoor.wr
open Go.RowKit

set_option maxRecDepth 100000 in
set_option maxHeartbeats 8000000 in
/-- opWriter.writeOperand where brackets are needed. -/
theorem opnd_bra (s : ByteArray) (f : Fr) (h : OwC s f) (k n d l : Int) (right : Bool) (v : Value) (lo hi ob mb : Nat) (bs : List UInt8) (w : World) (hs : shapeT k n s f d = true) (hsz : s.size ≤ maxLen) (hv : NdV w lo hi k n s f v) (hh : hi ≤ mb) (hw : TW ob mb bs w) (hl : bs.length + (txT k n s f).length + 2 ≤ 1073741824) (ht : Pow10 ob mb w) (hnd : nodes f ≤ 1048576)
    (hc : l < olv k s f.len ∨ ¬ l < olv k s f.len ∧ right = true ∧ plB (txT k n s f) = false) :
    Calls Tryz.prog 54 #[.pointer (some ⟨mb, 0, none⟩), v, .int .i64 l, .bool right] w fun e w' => e = .returned (.tuple #[]) ∧ TW ob mb (bs ++ braB (txT k n s f)) w' ∧ TF mb w w' := by
  obtain ⟨i0, hi0, hz0, hz1, hz2⟩ := info_parts infoU8
  have hm0 : mb < w.heap.size := by obtain ⟨_, hq, _⟩ := hw; exact hq.lt
  have C1 := h k n d v lo hi ob mb bs w hs hv hh hw (by omega) ht hnd
  have hfl : f.len ≤ maxLen := by have := len_le_nodes f; unfold maxLen; omega
  have C2 := fun (w2 : World) (htf : TF mb w w2) (tv : Value) (hq : Blk w2 mb 63 #[tv, fW mb, .map (some ob)]) => oplev_any k n s f v lo hi ob mb tv (fW mb) w2 (hv.keep (fun p _ hp => htf.1.cell (by omega)) (Nat.le_refl _) (Nat.le_refl _)) hsz hfl hq (OpM_keep ht.2.2 htf.1 ht.2.1)
  have hpos := txT_ne hs
  obtain ⟨c, T', hT⟩ : ∃ c T', txT k n s f = c :: T' := by
    cases hx : txT k n s f with
    | nil => rw [hx] at hpos; simp at hpos
    | cons c T' => exact ⟨c, T', rfl⟩
  have C3 := fun (w3 : World) => follow_any c w3
  have hc2 : l < olv k s f.len ∨ ¬ l < olv k s f.len ∧ right = true ∧ plC c = false := by
    rcases hc with h | ⟨h1, h2, h3⟩
    · exact .inl h
    · rw [hT] at h3
      exact .inr ⟨h1, h2, h3⟩
  obtain ⟨T0, x0, rfl⟩ := hv.iface
  have H1 := Lib.hid C1
  have H2 := Lib.hid C2
  have H3 := Lib.hid C3
  have HT := Lib.hid hT
  clear C1 C2 C3 h hs hsz hv hh ht hnd hc hT hfl hpos
  generalize txT k n s f = T at *
  generalize olv k s f.len = ol at *
  obtain ⟨tv0, hq0, ho0⟩ := hw
  obtain ⟨A0, c0, rfl, _, _⟩ := row_form ho0
  have p00 := hq0.cell 0
  simp only [List.getElem?_toArray, List.getElem?_cons_zero] at p00
  have hbl : bs.length ≤ 1073741824 := by omega
  clear hq0 ho0
  go_enter Tryz.func54, Tryz.ntmps54
  go_wp2_with fail
  refine H1.out.mono ?_
  rintro e w2 ⟨rfl, hw2, htf2⟩
  obtain ⟨tv2, hq2, ho2⟩ := hw2
  have C4 := H2.out w2 htf2 tv2 hq2
  have H4 := Lib.hid C4
  have HTF2 := Lib.hid htf2
  have HW2 : Hid (TW ob mb (bs ++ T) w2) := Lib.hid ⟨tv2, hq2, ho2⟩
  have hm2 := hq2.lt
  clear C4 htf2 hq2 ho2 p00
  go_wp2_with fail
  refine H4.out.mono ?_
  rintro e w3 ⟨rfl, hb3⟩
  have HW3 := Lib.hid (HW2.out.below hb3)
  have HTF3 := Lib.hid (HTF2.out.trans (TF.below hb3 (Nat.le_of_lt hm2)))
  clear hb3
  obtain ⟨tv3, hq3, ho3⟩ := HW3.out
  obtain ⟨A3, c3, rfl, hc3, hc4⟩ := row_form ho3
  obtain ⟨g, rfl⟩ := row_some ho3 (by rw [HT.out]; simp only [List.length_append, List.length_cons]; omega)
  have p03 := hq3.cell 0
  have pf3 := hq3.frozen 0
  simp only [List.getElem?_toArray, List.getElem?_cons_zero] at p03
  have hm3 := hq3.lt
  have hgl := (ho3.lt g rfl).2
  have hgm := (ho3.lt g rfl).1
  have hlt : bs.length < (bs ++ T).length := by rw [HT.out]; simp only [List.length_append, List.length_cons]; omega
  have hNl : (bs ++ T).length + 2 ≤ 1073741824 := by rw [List.length_append]; omega
  have C6 := ins_any (mb + 1) (bs ++ T).length bs.length w3.heap.size (.slice (some ⟨g, 0, none⟩) (bs ++ T).length c3) (.int .u8 40) (Lib.byteCells (bs ++ T)) (w3.alloc (.cells #[.int .u8 40] 5)) rfl (one_bytes _) hlt (by omega) (by simp; omega) (fun e => by simp [Value.ownBlock] at e; omega) (ho3.alloc _) (Blk.new w3 _ _)
  rw [ins_bytes] at C6
  have hins : (bs ++ 40 :: T).length = (bs ++ T).length + 1 := by simp only [List.length_append, List.length_cons]; omega
  have hfin : (bs ++ braB T).length = (bs ++ T).length + 2 := by unfold braB; simp only [List.length_append, List.length_cons, List.length_nil]; omega
  have hfc : Lib.byteCells (bs ++ 40 :: T) ++ [.int .u8 41] = Lib.byteCells (bs ++ braB T) := by unfold Lib.byteCells braB; simp
  have H6 := Lib.hid C6
  have HFL := Lib.hid hfin
  have HFC := Lib.hid hfc
  have HQ3 := Lib.hid hq3
  have HO3 := Lib.hid ho3
  unfold maxLen at hc4
  rcases hc2 with hc2 | ⟨hc2, rfl, hpc⟩
  · have d1 : decide (l < ol) = true := decide_eq_true hc2
    generalize hN : (bs ++ T).length = N at *
    have HO3N : Hid (w3.ownsRow (mb + 1) 5 1 (.slice (some ⟨g, 0, none⟩) N c3) (bs ++ T).length (Lib.byteCells (bs ++ T))) := Lib.hid (by rw [hN]; exact HO3.out)
    have HQ3 : Hid (Blk w3 mb 63 #[.slice (some ⟨g, 0, none⟩) N c3, fW mb, .map (some ob)]) := HQ3
    clear hN hc2 hq3 ho3 C6 hins hfin hfc
    go_wp2_with fail
    refine H6.out.mono ?_
    rintro e w4 ⟨g4, cap4, rfl, ho4, hg4⟩
    have hs4 : w3.heap.size < w4.heap.size := by have := hg4.size; simp at this; omega
    have HO4 := Lib.hid ho4
    have HG4 := Lib.hid hg4
    have hq4 : Blk w4 mb 63 #[.slice (some ⟨g, 0, none⟩) N c3, fW mb, .map (some ob)] := HQ3.out.keep ((hg4.block mb (by simp; omega) (fun e => by simp [Value.ownBlock] at e; omega)).trans (((Below.refl w3.heap.size w3).alloc (Nat.le_refl _) _).block mb hm3))
    have yf4 := hq4.frozen 0
    have y04 := hq4.cell 0
    simp only [List.getElem?_toArray, List.getElem?_cons_zero] at y04
    clear ho4 hg4 hq4 p03 pf3
    go_wp2_with (at_builtin; go_must (refine wpList_append_lies _ rfl _ _ _ rfl (mb + 1) 5 i0 _ 1 1 Tryz.underlying22 hi0 hz0 hz1 hz2 rfl (by omega) _ (N + 1) _ rfl (HO4.out.alloc _) ⟨w4.heap.size, 0, none⟩ 1 1 [.int .u8 41] rfl rfl (World.news_of_block (cs := #[.int .u8 41]) (t := 5) (fr := (0, 0)) (Blk.new w4 5 #[.int .u8 41])) (by simp [Value.oneCell']) (by omega) (by unfold maxLen; omega) (by omega) (by simp; omega) (w4.heap.size + 1) (by simp) ?_); intro g6 cap6 w6 hown6 hgrow6 _ _; rw [HFC.out] at hown6; have hst6 := TW.two (bs' := bs ++ braB T) (ob := ob) HQ3.out HO3N.out ((Below.refl _ _).alloc (Nat.le_refl _) _) HG4.out HO4.out ((Below.refl _ _).alloc (Nat.le_refl _) _) hgrow6 (by rw [HFL.out]; exact hown6); have y6 := hst6.2.2.cell 0; have yf6 := hst6.2.2.frozen 0; simp only [List.getElem?_toArray, List.getElem?_cons_zero] at y6; have HS6 := Lib.hid (And.intro hst6.1 hst6.2.1); clear hown6 hgrow6 hst6; refine Hid.out ?_)
    refine Lib.hid ?_
    go_wp2_with fail
    go_end0
    exact ⟨rfl, HS6.out.1, HTF3.out.trans HS6.out.2⟩
  · have d1 : decide (l < ol) = false := decide_eq_false (by omega)
    have hy := ho3.cells (g := g) rfl bs.length (.int .u8 (c.toNat : Int)) (by rw [HT.out]; exact byteCells_at bs T' c)
    have e : (⟨g, 0, none⟩ : Addr).add bs.length = ⟨g, bs.length, none⟩ := by unfold Addr.add; split <;> simp_all
    rw [e] at hy
    have C5 := H3.out w3
    rw [hpc] at C5
    have H5 := Lib.hid C5
    generalize hN : (bs ++ T).length = N at *
    have HO3N : Hid (w3.ownsRow (mb + 1) 5 1 (.slice (some ⟨g, 0, none⟩) N c3) (bs ++ T).length (Lib.byteCells (bs ++ T))) := Lib.hid (by rw [hN]; exact HO3.out)
    clear hN hc2 hpc hq3 ho3 C6 C5 hins hfin hfc e
    go_wp2_with (first
      | (go_at_call 73; refine H5.out.mono ?_; rintro e w3 ⟨rfl, rfl⟩)
      | fail)
    refine H6.out.mono ?_
    rintro e w4 ⟨g4, cap4, rfl, ho4, hg4⟩
    have hs4 : w3.heap.size < w4.heap.size := by have := hg4.size; simp at this; omega
    have HO4 := Lib.hid ho4
    have HG4 := Lib.hid hg4
    have hq4 : Blk w4 mb 63 #[.slice (some ⟨g, 0, none⟩) N c3, fW mb, .map (some ob)] := HQ3.out.keep ((hg4.block mb (by simp; omega) (fun e => by simp [Value.ownBlock] at e; omega)).trans (((Below.refl w3.heap.size w3).alloc (Nat.le_refl _) _).block mb hm3))
    have yf4 := hq4.frozen 0
    have y04 := hq4.cell 0
    simp only [List.getElem?_toArray, List.getElem?_cons_zero] at y04
    clear ho4 hg4 hq4 p03 pf3
    go_wp2_with (at_builtin; go_must (refine wpList_append_lies _ rfl _ _ _ rfl (mb + 1) 5 i0 _ 1 1 Tryz.underlying22 hi0 hz0 hz1 hz2 rfl (by omega) _ (N + 1) _ rfl (HO4.out.alloc _) ⟨w4.heap.size, 0, none⟩ 1 1 [.int .u8 41] rfl rfl (World.news_of_block (cs := #[.int .u8 41]) (t := 5) (fr := (0, 0)) (Blk.new w4 5 #[.int .u8 41])) (by simp [Value.oneCell']) (by omega) (by unfold maxLen; omega) (by omega) (by simp; omega) (w4.heap.size + 1) (by simp) ?_); intro g6 cap6 w6 hown6 hgrow6 _ _; rw [HFC.out] at hown6; have hst6 := TW.two (bs' := bs ++ braB T) (ob := ob) HQ3.out HO3N.out ((Below.refl _ _).alloc (Nat.le_refl _) _) HG4.out HO4.out ((Below.refl _ _).alloc (Nat.le_refl _) _) hgrow6 (by rw [HFL.out]; exact hown6); have y6 := hst6.2.2.cell 0; have yf6 := hst6.2.2.frozen 0; simp only [List.getElem?_toArray, List.getElem?_cons_zero] at y6; have HS6 := Lib.hid (And.intro hst6.1 hst6.2.1); clear hown6 hgrow6 hst6; refine Hid.out ?_)
    refine Lib.hid ?_
    go_wp2_with fail
    go_end0
    exact ⟨rfl, HS6.out.1, HTF3.out.trans HS6.out.2⟩
end Go.Proofs.YtihmgodiiohdnaaGreatDoor.wr

/- opWriter.writeWritten where it hands on to writeTerm; writeOperand at every operand. Condition: the node lies in memory below the writer and is well-formed; the tables in their places. -/
namespace Go.Proofs.YtihmgodiiohdnaaGreatDoor.wr
open Go.RowKit

theorem opT_eq (right : Bool) (k n : Int) (s : ByteArray) (f : Fr) (l : Int) : opT right k n s f l = if l < olv k s f.len ∨ right = true ∧ plB (txT k n s f) = false then braB (txT k n s f) else txT k n s f := by
  unfold opT rigT lefT
  cases right <;> simp
/-- opWriter.writeOperand. -/
theorem opnd_any (s : ByteArray) (f : Fr) (h : OwC s f) (k n d l : Int) (right : Bool) (v : Value) (lo hi ob mb : Nat) (bs : List UInt8) (w : World) (hs : shapeT k n s f d = true) (hsz : s.size ≤ maxLen) (hv : NdV w lo hi k n s f v) (hh : hi ≤ mb) (hw : TW ob mb bs w) (hl : bs.length + (opT right k n s f l).length ≤ 1073741824) (ht : Pow10 ob mb w) (hnd : nodes f ≤ 1048576) :
    Calls Tryz.prog 54 #[.pointer (some ⟨mb, 0, none⟩), v, .int .i64 l, .bool right] w fun e w' => e = .returned (.tuple #[]) ∧ TW ob mb (bs ++ opT right k n s f l) w' ∧ TF mb w w' := by
  rw [opT_eq] at hl ⊢
  by_cases h1 : l < olv k s f.len
  · rw [if_pos (.inl h1)] at hl ⊢
    have hl : bs.length + (txT k n s f).length + 2 ≤ 1073741824 := by unfold braB at hl; simp only [List.length_cons, List.length_append, List.length_nil] at hl; omega
    exact opnd_bra s f h k n d l right v lo hi ob mb bs w hs hsz hv hh hw hl ht hnd (.inl h1)
  · by_cases h2 : right = true ∧ plB (txT k n s f) = false
    · rw [if_pos (.inr h2)] at hl ⊢
      have hl : bs.length + (txT k n s f).length + 2 ≤ 1073741824 := by unfold braB at hl; simp only [List.length_cons, List.length_append, List.length_nil] at hl; omega
      exact opnd_bra s f h k n d l right v lo hi ob mb bs w hs hsz hv hh hw hl ht hnd (.inr ⟨h1, h2⟩)
    · rw [if_neg (by rintro (h | h); exact h1 h; exact h2 h)] at hl ⊢
      refine opnd_plain s f h k n d l right v lo hi ob mb bs w hs hsz hv hh hw (by omega) ht hnd h1 fun hr => ?_
      cases hp : plB (txT k n s f)
      · exact absurd ⟨hr, hp⟩ h2
      · rfl

set_option maxRecDepth 100000 in
set_option maxHeartbeats 4000000 in
/-- opWriter.writeWritten of what is no operator with two operands. -/
theorem written_plain (s : ByteArray) (f : Fr) (h : ∀ s' f', f'.size < f.size → OwC s' f') (k n d : Int) (v : Value) (lo hi ob mb : Nat) (bs : List UInt8) (w : World) (hi0 : infB k s f.len = false) (hs : shapeT k n s f d = true) (hsz : s.size ≤ maxLen) (hv : NdV w lo hi k n s f v) (hh : hi ≤ mb) (hw : TW ob mb bs w) (hl : bs.length + (txT k n s f).length ≤ 1073741824) (ht : Pow10 ob mb w) (hnd : nodes f ≤ 1048576) :
    Calls Tryz.prog 35 #[.pointer (some ⟨mb, 0, none⟩), v] w fun e w' => e = .returned (.tuple #[]) ∧ TW ob mb (bs ++ txT k n s f) w' ∧ TF mb w w' := by
  have hm0 : mb < w.heap.size := by obtain ⟨_, hq, _⟩ := hw; exact hq.lt
  have hw' := hw
  obtain ⟨tv0, hq0, _⟩ := hw'
  obtain ⟨A, cap, -, C1⟩ := named_any k n s f v lo hi ob mb tv0 (fW mb) w hv hsz hq0 ht.2.2
  have C2 := fun (w2 : World) (hb : Below w.heap.size w w2) => wterm_of s f h k n d v lo hi ob mb bs w2 hi0 hs (hv.keep (fun p _ hp => hb.cell (by omega)) (Nat.le_refl _) (Nat.le_refl _)) hh (hw.below hb) hl (ht.on (hb.mono (Nat.le_of_lt hm0))) hnd
  have hfl : f.len ≤ 1048576 := by have := len_le_nodes f; omega
  obtain ⟨T0, x0, rfl⟩ := hv.iface
  have HI : Hid (infB k s f.len = false) := Lib.hid hi0
  have HIE : Hid (infB k s f.len = (k == 3 && (f.len == 2 && decide (0 < op.level s.data.toList)))) := Lib.hid rfl
  have H1 := Lib.hid C1
  have H2 := Lib.hid C2
  clear C1 C2 h hi0 hs hsz hv hh hw hl ht hnd hq0
  generalize txT k n s f = T at *
  generalize f.len = len at *
  go_enter Tryz.func35, Tryz.ntmps35
  go_wp2_with fail
  refine H1.out.mono ?_
  rintro e w2 ⟨hb, hr⟩
  have HB := Lib.hid hb
  have HB2 : Hid (∀ o1 o2, Below w.heap.size w ((w2.alloc o1).alloc o2)) := Lib.hid fun o1 o2 => (HB.out.alloc HB.out.size _).alloc (by have := HB.out.size; simp; omega) _
  rcases hr with ⟨rfl, hpos, a, rfl⟩ | ⟨hz, x1, x2, x3, x4, y1, y2, y3, rfl⟩
  · have h2 : len ≠ 2 := fun e => by
      have := HIE.out
      rw [HI.out, e, decide_eq_true hpos] at this
      simp at this
    have t2 : ((len : Int) != 2) = true := by rw [bne_iff_ne]; omega
    clear hpos hb h2
    go_wp2_with fail
    refine (H2.out _ (HB2.out _ _)).mono ?_
    rintro e w3 ⟨rfl, hw3, htf3⟩
    have HFN := Lib.hid (And.intro hw3 ((TF.below (HB2.out _ _) (Nat.le_of_lt hm0)).trans htf3))
    clear hw3 htf3
    go_wp2_with fail
    first
      | (go_end0; exact ⟨rfl, HFN.out⟩)
      | ((try simp only [Exit.inBlock, Exit.then]); refine bodyPost_ret (results_none rfl _ _ _) rfl ?_; exact ⟨rfl, HFN.out⟩)
  · clear hz hb
    go_wp2_with fail
    refine (H2.out _ (HB2.out _ _)).mono ?_
    rintro e w3 ⟨rfl, hw3, htf3⟩
    have HFN := Lib.hid (And.intro hw3 ((TF.below (HB2.out _ _) (Nat.le_of_lt hm0)).trans htf3))
    clear hw3 htf3
    go_wp2_with fail
    first
      | (go_end0; exact ⟨rfl, HFN.out⟩)
      | ((try simp only [Exit.inBlock, Exit.then]); refine bodyPost_ret (results_none rfl _ _ _) rfl ?_; exact ⟨rfl, HFN.out⟩)
end Go.Proofs.YtihmgodiiohdnaaGreatDoor.wr

/- opWriter.writeWritten of an operator and its operands; at every node; impl.WriteTerm. Condition: the node lies in memory below the writer and is well-formed; the tables in their places. -/
namespace Go.Proofs.YtihmgodiiohdnaaGreatDoor.wr
open Go.RowKit

theorem spB_pos {s : ByteArray} (h : 0 < s.data.toList.length) : 0 < (spB s.data.toList).length := by
  unfold spB
  split
  · simp
  · exact h
set_option maxRecDepth 100000 in
set_option maxHeartbeats 8000000 in
/-- opWriter.writeWritten of an operator and its operands. -/
theorem written_inf (n : Int) (s : ByteArray) (f : Fr) (hpf : pairB 3 s f.len = false) (hif : infB 3 s f.len = true) (h : ∀ s' f', f'.size < f.size → OwC s' f') (d : Int) (v : Value) (lo hi ob mb : Nat) (bs : List UInt8) (w : World) (hs : shapeT 3 n s f d = true) (hv : NdV w lo hi 3 n s f v) (hh : hi ≤ mb) (hw : TW ob mb bs w) (hl : bs.length + (txT 3 n s f).length ≤ 1073741824) (ht : Pow10 ob mb w) (hnd : nodes f ≤ 1048576) :
    Calls Tryz.prog 35 #[.pointer (some ⟨mb, 0, none⟩), v] w fun e w' => e = .returned (.tuple #[]) ∧ TW ob mb (bs ++ txT 3 n s f) w' ∧ TF mb w w' := by
  obtain ⟨i0, hi0, hz0, hz1, hz2⟩ := info_parts infoU8
  have hm0 : mb < w.heap.size := by obtain ⟨_, hq, _⟩ := hw; exact hq.lt
  obtain ⟨_, hlv, k1, n1, s1, kd1, k2, n2, s2, kd2, rfl⟩ := inf_kids hif
  have hlr := op.level_range s.data.toList
  have hs3 := shapeT_struct hs
  have hs6 : s.size ≤ 6 := nameB_size hs3.2.1
  have hspos : 0 < s.data.toList.length := List.length_pos_iff.2 (name_pos3 hs3.2.1)
  have hbp := spB_pos hspos
  have hbl := spB_len s.data.toList
  have hssz : s.data.toList.length = s.size := rfl
  have hG := txT_inf (n := n) (k1 := k1) (n1 := n1) (s1 := s1) (kd1 := kd1) (k2 := k2) (n2 := n2) (s2 := s2) (kd2 := kd2) hpf hif
  have hsk := shapeT_kids hs
  rw [shapeF_cons, shapeF_cons, Bool.and_eq_true, Bool.and_eq_true] at hsk
  have hz1' : kd1.size < (Fr.cons k1 n1 s1 kd1 (.cons k2 n2 s2 kd2 .nil)).size := by simp only [Fr.size]; omega
  have hz2' : kd2.size < (Fr.cons k1 n1 s1 kd1 (.cons k2 n2 s2 kd2 .nil)).size := by simp only [Fr.size]; omega
  have hnd1 : nodes kd1 ≤ 1048576 ∧ nodes kd2 ≤ 1048576 := by simp only [nodes] at hnd; omega
  have hsmall : ∀ {k n : Int} {s : ByteArray} {f : Fr} {d : Int}, shapeT k n s f d = true → s.size ≤ maxLen := fun {k n s f d} h => by
    have := (smF_shape (.cons k n s f .nil) d (by rw [shapeF_cons, h]; rfl)).1.1
    unfold maxLen; omega
  have hG' : txT 3 n s (.cons k1 n1 s1 kd1 (.cons k2 n2 s2 kd2 .nil)) = opT false k1 n1 s1 kd1 (lfl (op.level s.data.toList)) ++ (spB s.data.toList ++ opT true k2 n2 s2 kd2 (op.level s.data.toList - 1)) := hG
  rw [hG'] at hl ⊢
  simp only [List.length_append] at hl
  have hw' := hw
  obtain ⟨tv0, hq0, _⟩ := hw'
  obtain ⟨A, cap, hst, C1⟩ := named_any 3 n s _ v lo hi ob mb tv0 (fW mb) w hv (by unfold maxLen; omega) hq0 ht.2.2
  obtain ⟨hnds, rfl⟩ := hst rfl
  have hcap := hnds.2.1
  have hcap1 := hnds.1
  obtain ⟨b, rfl, hb1, hb2, hrow⟩ := hnds.2.2 (by simp [Fr.len])
  obtain ⟨v1, hc1, hv1⟩ := hrow.elem (i := 0) rfl
  obtain ⟨v2, hc2, hv2⟩ := hrow.elem (i := 1) rfl
  simp only [Nat.zero_add] at hc1 hc2
  have C2 := fun (w2 : World) (htf : TF mb w w2) (hw2 : TW ob mb bs w2) => opnd_any s1 kd1 (h s1 kd1 hz1') k1 n1 (d - 1) (lfl (op.level s.data.toList)) false v1 lo hi ob mb bs w2 hsk.1 (hsmall hsk.1) (hv1.keep (fun p _ hp => htf.1.cell (by omega)) (Nat.le_refl _) (Nat.le_refl _)) hh hw2 (by omega) (ht.on htf.1) hnd1.1
  have C3 := fun (w2 : World) (bs2 : List UInt8) (hb2 : bs2.length + (opT true k2 n2 s2 kd2 (op.level s.data.toList - 1)).length ≤ 1073741824) (htf : TF mb w w2) (hw2 : TW ob mb bs2 w2) => opnd_any s2 kd2 (h s2 kd2 hz2') k2 n2 (d - 1) (op.level s.data.toList - 1) true v2 lo hi ob mb bs2 w2 hsk.2.1 (hsmall hsk.2.1) (hv2.keep (fun p _ hp => htf.1.cell (by omega)) (Nat.le_refl _) (Nat.le_refl _)) hh hw2 (by omega) (ht.on htf.1) hnd1.2
  have C4 := fun (a b : ByteArray) (w2 : World) => op.left_any a b (op.level s.data.toList) w2
  have C5 := fun (a b : ByteArray) (w2 : World) => rightLv_any a b (op.level s.data.toList) (by omega) w2
  rw [lmin_lfl _ (by omega)] at C4
  obtain ⟨T1, x1, rfl⟩ := hv1.iface
  obtain ⟨T2, x2, rfl⟩ := hv2.iface
  have HW0 := Lib.hid hw
  have H1 := Lib.hid C1
  have H2 := Lib.hid C2
  have H3 := Lib.hid C3
  have H4 := Lib.hid C4
  have H5 := Lib.hid C5
  have hbm : b < mb := by omega
  have HC1 := Lib.hid hc1
  have HC2 := Lib.hid hc2
  have hln : (Fr.cons k1 n1 s1 kd1 (.cons k2 n2 s2 kd2 .nil)).len = 2 := rfl
  rw [hln] at H1
  have HLV := Lib.hid hlv
  unfold maxLen at hcap
  simp only [Fr.len] at hcap1
  clear C1 C2 C3 C4 C5 h hs hv hh hw ht hnd hq0 hpf hif hs3 hG hG' hsk hz1' hz2' hnd1 hnds hrow hv1 hv2 hst hc1 hc2 hln hsmall hs6 hspos hb1 hb2 hlv
  have hb0p : 0 < (⟨(spB s.data.toList).toArray⟩ : ByteArray).size := hbp
  have hb0l : (⟨(spB s.data.toList).toArray⟩ : ByteArray).size ≤ 2 + s.size := by show (spB s.data.toList).length ≤ _; omega
  have HBS : Hid (∀ b : ByteArray, b = ⟨(spB s.data.toList).toArray⟩ → b.data.toList = spB s.data.toList) := Lib.hid (by rintro b rfl; rfl)
  have hbl2 : (⟨(spB s.data.toList).toArray⟩ : ByteArray).size = (spB s.data.toList).length := rfl
  have HBL2 := Lib.hid hbl2
  clear hbl2
  generalize opT false k1 n1 s1 kd1 (lfl (op.level s.data.toList)) = TL at *
  generalize opT true k2 n2 s2 kd2 (op.level s.data.toList - 1) = TR at *
  go_enter Tryz.func35, Tryz.ntmps35
  go_wp2_with fail
  refine H1.out.mono ?_
  rintro e w2 ⟨hb, hr⟩
  rcases hr with ⟨-, -, a, rfl⟩ | ⟨hz, -⟩
  · generalize (⟨(spB s.data.toList).toArray⟩ : ByteArray) = b0 at *
    have hb3 : ∀ (lv : Int), Below w.heap.size w ((w2.alloc (.cells #[.string s, .slice (some ⟨b, 0, none⟩) (2 : Nat) cap] 84)).alloc (.cells #[.string a, .string b0, .int .i64 lv] 112)) := fun lv => (hb.alloc hb.size _).alloc (by have := hb.size; simp; omega) _
    have q4 : ∀ (lv : Int), Blk ((w2.alloc (.cells #[.string s, .slice (some ⟨b, 0, none⟩) (2 : Nat) cap] 84)).alloc (.cells #[.string a, .string b0, .int .i64 lv] 112)) w2.heap.size 84 #[.string s, .slice (some ⟨b, 0, none⟩) (2 : Nat) cap] := fun lv => (Blk.new w2 _ _).alloc _
    have q5 : ∀ (lv : Int), Blk ((w2.alloc (.cells #[.string s, .slice (some ⟨b, 0, none⟩) (2 : Nat) cap] 84)).alloc (.cells #[.string a, .string b0, .int .i64 lv] 112)) (w2.heap.size + 1) 112 #[.string a, .string b0, .int .i64 lv] := fun lv => by
      have h := Blk.new (w2.alloc (.cells #[.string s, .slice (some ⟨b, 0, none⟩) (2 : Nat) cap] 84)) 112 #[.string a, .string b0, .int .i64 lv]
      simpa using h
    have hw2s := hb.size
    generalize op.level s.data.toList = lv at *
    have HB3 := Lib.hid (hb3 lv)
    have HQ4 := Lib.hid (q4 lv)
    have HQ5 := Lib.hid (q5 lv)
    clear hb3 q4 q5 hb
    go_wp2_with fail
    generalize ((w2.alloc (.cells #[.string s, .slice (some ⟨b, 0, none⟩) (2 : Nat) cap] 84)).alloc (.cells #[.string a, .string b0, .int .i64 lv] 112)) = W3 at *
    have htf3 : TF mb w W3 := TF.below HB3.out (Nat.le_of_lt hm0)
    have HTF3 := Lib.hid htf3
    have HW3 := Lib.hid (HW0.out.below HB3.out)
    have hal4 := HQ4.out.lt
    have hal5 := HQ5.out.lt
    have hm3 : mb < W3.heap.size := Nat.lt_of_lt_of_le hm0 HB3.out.size
    have hn4 : w2.heap.size ≠ mb := by omega
    have hn5 : w2.heap.size + 1 ≠ mb := by omega
    have HS : Hid (∀ (x : World), TF mb W3 x → (x.cell? ⟨w2.heap.size, 0, none⟩ = some (.string s) ∧ x.cell? ⟨w2.heap.size, 1, none⟩ = some (.slice (some ⟨b, 0, none⟩) (2 : Nat) cap) ∧ x.cell? ⟨w2.heap.size + 1, 0, none⟩ = some (.string a) ∧ x.cell? ⟨w2.heap.size + 1, 1, none⟩ = some (.string b0) ∧ x.cell? ⟨w2.heap.size + 1, 2, none⟩ = some (.int .i64 lv)) ∧ x.cell? ⟨b, 0, none⟩ = some (.iface T1 x1) ∧ x.cell? ⟨b, 1, none⟩ = some (.iface T2 x2)) := Lib.hid fun x hx => by
      have p4 := hx.blk HQ4.out hn4 (by decide)
      have p5 := hx.blk HQ5.out hn5 (by decide)
      have t := HTF3.out.trans hx
      exact ⟨⟨p4.cell 0, p4.cell 1, p5.cell 0, p5.cell 1, p5.cell 2⟩, (t.1.cell (p := ⟨b, 0, none⟩) hbm).trans HC1.out, (t.1.cell (p := ⟨b, 1, none⟩) hbm).trans HC2.out⟩
    obtain ⟨⟨y0, y1, y2, y3, y4⟩, y5, y6⟩ := HS.out W3 (TF.refl _ _)
    clear htf3
    go_region_held3 (fun x => x.cell? ⟨w2.heap.size, 0, none⟩ = some (.string s) ∧ x.cell? ⟨w2.heap.size, 1, none⟩ = some (.slice (some ⟨b, 0, none⟩) (2 : Nat) cap) ∧ x.cell? ⟨w2.heap.size + 1, 0, none⟩ = some (.string a) ∧ x.cell? ⟨w2.heap.size + 1, 1, none⟩ = some (.string b0) ∧ x.cell? ⟨w2.heap.size + 1, 2, none⟩ = some (.int .i64 lv) ∧ x.cell? ⟨b, 0, none⟩ = some (.iface T1 x1) ∧ x.cell? ⟨b, 1, none⟩ = some (.iface T2 x2))
      (first | exact ⟨q0, q1, q2, q3, q4, q5, q6⟩ | exact ⟨z0, z1, z2, z3, z4, z5, z6⟩ | exact ⟨y0, y1, y2, y3, y4, y5, y6⟩)
      (first
        | (go_at_call 55
           refine (H4.out _ _ _).mono ?_
           rintro e w4 ⟨rfl, hb4⟩
           have hd4 : Below W3.heap.size W3 w4 := (Below.refl W3.heap.size W3).drew.trans hb4
           have htf4 : TF mb W3 w4 := TF.below hd4 (Nat.le_of_lt hm3)
           obtain ⟨⟨z0, z1, z2, z3, z4⟩, z5, z6⟩ := HS.out w4 htf4
           have HTF4 := Lib.hid htf4
           have HW4 := Lib.hid (HW3.out.below hd4)
           clear hb4 hd4 htf4)
        | (go_at_call 54
           refine (H2.out _ (HTF3.out.trans HTF4.out) HW4.out).mono ?_
           rintro e w5 ⟨rfl, hw5, htf5⟩
           obtain ⟨⟨q0, q1, q2, q3, q4⟩, q5, q6⟩ := HS.out w5 (HTF4.out.trans htf5)
           have HTF5 := Lib.hid (HTF4.out.trans htf5)
           have HW5 := Lib.hid hw5
           clear hw5 htf5))
    have hbsl : (bs ++ TL).length + b0.size ≤ 1073741824 := by rw [List.length_append, HBL2.out]; omega
    have hb0e : b0.data.toList = spB s.data.toList := HBS.out b0 rfl
    have HBE := Lib.hid hb0e
    generalize hB1 : bs ++ TL = B1 at *
    have HB1 := Lib.hid hB1
    have hm5 : mb < w5.heap.size := Nat.lt_of_lt_of_le hm3 HTF5.out.1.size
    have hl4 : w2.heap.size < w5.heap.size := Nat.lt_of_lt_of_le hal4 HTF5.out.1.size
    have hl5 : w2.heap.size + 1 < w5.heap.size := Nat.lt_of_lt_of_le hal5 HTF5.out.1.size
    obtain ⟨tv5, hq5, ho5⟩ := HW5.out
    obtain ⟨A5, c5, rfl, _, _⟩ := row_form ho5
    have p05 := hq5.cell 0
    have pf5 := hq5.frozen 0
    simp only [List.getElem?_toArray, List.getElem?_cons_zero] at p05
    have HO5 := Lib.hid ho5
    have HQ5' := Lib.hid hq5
    clear hq5 ho5 hB1 hb0e z0 z1 z2 z3 z4 z5 z6 y0 y1 y2 y3 y4 y5 y6
    go_wp2_with fail
    go_region_law
      (first
        | (refine step_append_str (w5.drew) (by rfl) _ _ _ _ (by rfl) (mb + 1) 5 i0 Tryz.underlying22 Tryz.underlying9 hi0 hz0 hz1 hz2 _ B1.length (Lib.byteCells B1) (by rfl) HO5.out.drew b0 (by rfl) hb0p (by unfold maxLen; omega) (by omega) (by show mb + 1 ≤ w5.heap.size; omega) ?_
           intro g6 cap6 w6 hown6 hgrow6
           have hst6 := TW.step (add := b0.data.toList) HQ5'.out HO5.out (Below.refl w5.heap.size w5).drew hgrow6 hown6
           have y6 := hst6.2.2.cell 0
           have yf6 := hst6.2.2.frozen 0
           simp only [List.getElem?_toArray, List.getElem?_cons_zero] at y6
           have HS6 := Lib.hid (And.intro hst6.1 hst6.2.1)
           clear hown6 hgrow6 hst6))
    all_goals
      have HX6 : Hid (TW ob mb (B1 ++ b0.data.toList) (w6.setCell ⟨mb, 0, none⟩ (.slice (some ⟨g6, 0, none⟩) (B1.length + b0.size) cap6)) ∧ TF mb w5 (w6.setCell ⟨mb, 0, none⟩ (.slice (some ⟨g6, 0, none⟩) (B1.length + b0.size) cap6))) := HS6
      clear HS6 y6 yf6 p05 pf5 q0 q1 q2 q3 q4 q5 q6
      generalize w6.setCell ⟨mb, 0, none⟩ (.slice (some ⟨g6, 0, none⟩) (B1.length + b0.size) cap6) = W6 at *
      have htf6 : TF mb W3 W6 := HTF5.out.trans HX6.out.2
      obtain ⟨⟨y0, y1, y2, y3, y4⟩, y5, y6⟩ := HS.out W6 htf6
      have HTF6 := Lib.hid htf6
      have hm6 : mb < W6.heap.size := Nat.lt_of_lt_of_le hm3 htf6.1.size
      have hk4 : w2.heap.size < W6.heap.size := Nat.lt_of_lt_of_le hal4 htf6.1.size
      have hk5 : w2.heap.size + 1 < W6.heap.size := Nat.lt_of_lt_of_le hal5 htf6.1.size
      have hb6l : (B1 ++ b0.data.toList).length + TR.length ≤ 1073741824 := by
        have h1 : b0.data.toList.length = b0.size := rfl
        rw [List.length_append, h1, HBL2.out, ← HB1.out, List.length_append]; omega
      have HL6 := Lib.hid hb6l
      clear htf6 hb6l
      go_wp2_with fail
      go_region_held3 (fun x => x.cell? ⟨w2.heap.size, 0, none⟩ = some (.string s) ∧ x.cell? ⟨w2.heap.size, 1, none⟩ = some (.slice (some ⟨b, 0, none⟩) (2 : Nat) cap) ∧ x.cell? ⟨w2.heap.size + 1, 0, none⟩ = some (.string a) ∧ x.cell? ⟨w2.heap.size + 1, 1, none⟩ = some (.string b0) ∧ x.cell? ⟨w2.heap.size + 1, 2, none⟩ = some (.int .i64 lv) ∧ x.cell? ⟨b, 0, none⟩ = some (.iface T1 x1) ∧ x.cell? ⟨b, 1, none⟩ = some (.iface T2 x2))
        (first | exact ⟨q0, q1, q2, q3, q4, q5, q6⟩ | exact ⟨z0, z1, z2, z3, z4, z5, z6⟩ | exact ⟨y0, y1, y2, y3, y4, y5, y6⟩)
        (first
          | (go_at_call 56
             refine (H5.out _ _ _).mono ?_
             rintro e w7 ⟨rfl, hb7⟩
             have hd7 : Below W6.heap.size W6 w7 := (Below.refl W6.heap.size W6).drew.trans hb7
             have htf7 : TF mb W6 w7 := TF.below hd7 (Nat.le_of_lt hm6)
             obtain ⟨⟨z0, z1, z2, z3, z4⟩, z5, z6⟩ := HS.out w7 (HTF6.out.trans htf7)
             have HTF7 := Lib.hid (HTF6.out.trans htf7)
             have HW7 := Lib.hid (HX6.out.1.below hd7)
             clear hb7 hd7 htf7)
          | (go_at_call 54
             refine (H3.out _ (B1 ++ b0.data.toList) HL6.out (HTF3.out.trans HTF7.out) HW7.out).mono ?_
             rintro e w8 ⟨rfl, hw8, htf8⟩
             obtain ⟨⟨q0, q1, q2, q3, q4⟩, q5, q6⟩ := HS.out w8 (HTF7.out.trans htf8)
             have HTF8 := Lib.hid (HTF7.out.trans htf8)
             have HW8 := Lib.hid hw8
             clear hw8 htf8))
      have HFN : Hid (TW ob mb (bs ++ (TL ++ (spB s.data.toList ++ TR))) w8 ∧ TF mb w w8) := Lib.hid ⟨by
        have e : bs ++ (TL ++ (spB s.data.toList ++ TR)) = B1 ++ b0.data.toList ++ TR := by rw [HBE.out, ← HB1.out]; simp
        rw [e]; exact HW8.out, HTF3.out.trans HTF8.out⟩
      go_wp2_with fail
      go_end0
      exact ⟨rfl, HFN.out⟩
  · exact absurd (hz rfl) (by have := HLV.out; omega)

theorem written_of (s : ByteArray) (f : Fr) (h : ∀ s' f', f'.size < f.size → OwC s' f') : OwC s f := by
  intro k n d v lo hi ob mb bs w hs hv hh hw hl ht hnd
  have hsz : s.size ≤ maxLen := by
    have := (smF_shape (.cons k n s f .nil) d (by rw [shapeF_cons, hs]; rfl)).1.1
    unfold maxLen; omega
  cases hi0 : infB k s f.len
  · exact written_plain s f h k n d v lo hi ob mb bs w hi0 hs hsz hv hh hw (by omega) ht hnd
  · obtain ⟨rfl, hlv, _⟩ := inf_kids hi0
    have hp : pairB 3 s f.len = false := by
      cases hp : pairB 3 s f.len
      · rfl
      · have hd := (pairB_len hp).2.2
        unfold dotB at hd
        rw [beq_iff_eq] at hd
        rw [hd] at hlv
        exact absurd hlv (by decide)
    exact written_inf n s f hp hi0 h d v lo hi ob mb bs w hs hv hh hw hl ht hnd
theorem ow_all (N : Nat) : ∀ (s : ByteArray) (f : Fr), f.size ≤ N → OwC s f := by
  induction N with
  | zero => exact fun s f hf => written_of s f fun s' f' h => by omega
  | succ N ih => exact fun s f hf => written_of s f fun s' f' h => ih s' f' (by omega)
end Go.Proofs.YtihmgodiiohdnaaGreatDoor.wr

/- Goals in memory: their forms, elements of a row of goals. Condition: the goals lie in memory. -/
namespace Go.Proofs.YtihmgodiiohdnaaGreatDoor
open Go.RowKit Go.ChangeShapes

@[go_sem] theorem mth_pf (d : Nat) (x : Value) (w : World) : (method (d + 3) 53 x "loop.example/prologserver/impl.form").run Tryz.prog w = .ok (36, x) w := by kernel_rfl
set_option maxRecDepth 100000 in
/-- plainGoal.form. -/
theorem formP_any (s : ByteArray) (A : Option Addr) (len cap : Nat) (w : World) :
    Calls Tryz.prog 36 #[.agg #[.string s, .slice A len cap]] w fun e w' => e = .returned (.agg #[.string s, .slice A len cap]) ∧ Below w.heap.size w w' := by
  have HB : ∀ o o', Hid (Below w.heap.size w ((w.alloc o).alloc o')) := fun o o' => Lib.hid (two_alloc w o o')
  have hq := Blk.new (w.alloc (.cells #[.string s, .slice A len cap] 53)) 84 #[.string s, .slice A len cap]
  rw [show (w.alloc (.cells #[.string s, .slice A len cap] 53)).heap.size = w.heap.size + 1 by simp] at hq
  have HQ := Lib.hid hq
  clear hq
  go_enter Tryz.func36, Tryz.ntmps36
  go_wp2_with fail
  refine bodyPost_ret (v := .agg #[.string s, .slice A len cap]) ?_ rfl ⟨rfl, (HB _ _).out⟩
  exact results_cell_row Tryz.results36 _ _ (w.heap.size + 1) _ _ _ _ rfl HQ.out Tryz.underlying84 rfl (by kernel_rfl)

theorem GlRow.at_ {w : World} {lo hi : Nat} : ∀ (f : Fr) (i b o : Nat), GlRow w lo hi f b o → GlRow w lo hi (f.drop i) b (o + i)
  | .nil, i, _, _, _ => by cases i <;> trivial
  | .cons _ _ _ _ _, 0, _, _, h => h
  | .cons _ _ _ _ rest, i + 1, b, o, h => by
    have := GlRow.at_ rest i b (o + 1) h.2
    rw [show o + 1 + i = o + (i + 1) by omega] at this
    exact this
theorem GlRow.elem {w : World} {lo hi i b o : Nat} {f rest kids : Fr} {k n : Int} {s : ByteArray} (h : GlRow w lo hi f b o) (hd : f.drop i = .cons k n s kids rest) :
    ∃ v A cap, w.cell? ⟨b, o + i, none⟩ = some v ∧ GIs (gk s kids.len) s A kids.len cap v ∧ NdS w lo hi kids A cap := by
  have := GlRow.at_ f i b o h
  rw [hd] at this
  exact this.1
theorem allG_elem {k n : Int} {s : ByteArray} {kids rest : Fr} : ∀ (f : Fr) (i : Nat), f.drop i = .cons k n s kids rest → allG f = true → goalV k n s kids = true
  | .nil, i, h, _ => by cases i <;> cases h
  | .cons _ _ _ _ _, 0, h, ha => by
    injection h with h1 h2 h3 h4 h5
    subst h1 h2 h3 h4
    exact (Bool.and_eq_true _ _ ▸ ha).1
  | .cons _ _ _ _ rest, i + 1, h, ha => allG_elem rest i h (Bool.and_eq_true _ _ ▸ ha).2
theorem valid_shape2 {k n : Int} {s : ByteArray} {f : Fr} (h : validT k n s f = true) : shapeT k n s f 30 = true ∧ nodes f ≤ 119 := by
  unfold validT at h
  rw [Bool.and_eq_true, decide_eq_true_iff] at h
  exact ⟨h.1, by omega⟩
/-- A goal in memory: whether it is plain, and what then. -/
theorem goal_plain {k n : Int} {s : ByteArray} {kids : Fr} (h : goalV k n s kids = true) (hg : gk s kids.len = 3) : plainK k s kids.len = true ∧ k = 3 ∧ n = 0 ∧ validT 3 0 s kids = true := by
  have hp : plainV k n s kids = true := by rw [plainV_goal, h, hg]; rfl
  unfold plainV at hp
  rw [Bool.and_eq_true] at hp
  have h3 := hp.2
  unfold plainK at h3
  rw [Bool.and_eq_true, beq_iff_eq] at h3
  obtain ⟨rfl, _⟩ := h3
  have hv := hp.1
  have hs := (valid_shape2 hv).1
  obtain ⟨rfl, _⟩ := shapeT_struct hs
  exact ⟨hp.2, rfl, rfl, hv⟩
theorem goal_other {k n : Int} {s : ByteArray} {kids : Fr} (h : goalV k n s kids = true) (hg : gk s kids.len ≠ 3) : plainK k s kids.len = false := by
  have hp : plainV k n s kids = false := by rw [plainV_goal, h]; simpa using hg
  have hv : validT k n s kids = true := by
    unfold goalV at h
    rw [Bool.and_eq_true] at h
    exact h.1
  unfold plainV at hp
  rw [hv] at hp
  exact hp

@[go_sem] theorem mth_bf (d : Nat) (x : Value) (w : World) : (method (d + 3) 156 x "loop.example/prologserver/impl.form").run Tryz.prog w = .ok (159, x) w := by kernel_rfl
@[go_sem] theorem mth_cf (d : Nat) (x : Value) (w : World) : (method (d + 3) 155 x "loop.example/prologserver/impl.form").run Tryz.prog w = .ok (158, x) w := by kernel_rfl
set_option maxRecDepth 100000 in
/-- builtinGoal.form. -/
theorem formB_any (s : ByteArray) (A : Option Addr) (len cap : Nat) (w : World) :
    Calls Tryz.prog 159 #[.agg #[.string s, .slice A len cap]] w fun e w' => e = .returned (.agg #[.string s, .slice A len cap]) ∧ Below w.heap.size w w' := by
  have HB : ∀ o o', Hid (Below w.heap.size w ((w.alloc o).alloc o')) := fun o o' => Lib.hid (two_alloc w o o')
  have hq := Blk.new (w.alloc (.cells #[.string s, .slice A len cap] 156)) 84 #[.string s, .slice A len cap]
  rw [show (w.alloc (.cells #[.string s, .slice A len cap] 156)).heap.size = w.heap.size + 1 by simp] at hq
  have HQ := Lib.hid hq
  clear hq
  go_enter Tryz.func159, Tryz.ntmps159
  go_wp2_with fail
  refine bodyPost_ret (v := .agg #[.string s, .slice A len cap]) ?_ rfl ⟨rfl, (HB _ _).out⟩
  exact results_cell_row Tryz.results159 _ _ (w.heap.size + 1) _ _ _ _ rfl HQ.out Tryz.underlying84 rfl (by kernel_rfl)
set_option maxRecDepth 100000 in
/-- cutGoal.form. -/
theorem formC_any (w : World) :
    Calls Tryz.prog 158 #[.agg #[]] w fun e w' => e = .returned (.agg #[.string ⟨#[33]⟩, .slice none 0 0]) ∧ Below w.heap.size w w' := by
  have HB : ∀ o o', Hid (Below w.heap.size w ((w.alloc o).alloc o')) := fun o o' => Lib.hid (two_alloc w o o')
  have hq := Blk.new (w.alloc (.cells #[] 155)) 84 #[.string ⟨#[33]⟩, .slice none 0 0]
  rw [show (w.alloc (.cells #[] 155)).heap.size = w.heap.size + 1 by simp] at hq
  have HQ := Lib.hid hq
  clear hq
  go_enter Tryz.func158, Tryz.ntmps158
  go_wp2_with fail
  refine bodyPost_ret (v := .agg #[.string ⟨#[33]⟩, .slice none 0 0]) ?_ rfl ⟨rfl, (HB _ _).out⟩
  exact results_cell_row Tryz.results158 _ _ (w.heap.size + 1) _ _ _ _ rfl HQ.out Tryz.underlying84 rfl (by kernel_rfl)
/-- The form of a goal, as a node. -/
theorem GIs.node {w : World} {lo hi : Nat} {k n : Int} {s : ByteArray} {kids : Fr} {v : Value} {A : Option Addr} {cap : Nat} (hv : goalV k n s kids = true) (hg : GIs (gk s kids.len) s A kids.len cap v) (hn : NdS w lo hi kids A cap) :
    k = 3 ∧ shapeT k n s kids 30 = true ∧ ((v = .iface 155 (.agg #[]) ∧ s = ⟨#[33]⟩ ∧ kids = .nil) ∨ v = .iface 156 (.agg #[.string s, .slice A kids.len cap]) ∨ v = .iface 53 (.agg #[.string s, .slice A kids.len cap])) := by
  have hval : validT k n s kids = true := by
    unfold goalV at hv
    rw [Bool.and_eq_true] at hv
    exact hv.1
  have hk : k = 3 := by
    by_cases h : k = 3
    · exact h
    · rw [goalV_other h] at hv; cases hv
  refine ⟨hk, (valid_shape2 hval).1, ?_⟩
  rcases hg with ⟨h, rfl⟩ | ⟨_, rfl⟩ | ⟨_, rfl⟩
  · refine .inl ⟨rfl, ?_⟩
    unfold gk at h
    have hc : cutB s kids.len = true := by
      by_cases hc : cutB s kids.len = true
      · exact hc
      · rw [if_neg hc] at h
        split at h
        · omega
        · split at h <;> omega
    unfold cutB at hc
    simp only [Bool.and_eq_true, beq_iff_eq] at hc
    refine ⟨?_, ?_⟩
    · have h1 := hc.1
      cases s
      rename_i d
      simp only at h1
      congr 1
      exact Array.toList_inj.1 (by simpa using h1)
    · cases kids with
      | nil => rfl
      | cons _ _ _ _ _ => simp [Fr.len] at hc
  · exact .inr (.inl rfl)
  · exact .inr (.inr rfl)
theorem nd_form {w : World} {lo hi : Nat} {n : Int} {s : ByteArray} {kids : Fr} {A : Option Addr} {cap : Nat} (hn : NdS w lo hi kids A cap) : NdV w lo hi 3 n s kids (.iface 84 (.agg #[.string s, .slice A kids.len cap])) := .inr (.inr ⟨rfl, A, cap, rfl, hn⟩)
theorem nd_cut (w : World) (lo hi : Nat) (n : Int) : NdV w lo hi 3 n ⟨#[33]⟩ .nil (.iface 84 (.agg #[.string ⟨#[33]⟩, .slice none 0 0])) := .inr (.inr ⟨rfl, none, 0, rfl, Nat.le_refl _, by unfold maxLen; omega, fun h => absurd h (Nat.lt_irrefl _)⟩)
end Go.Proofs.YtihmgodiiohdnaaGreatDoor

/- opWriter.writeClause. Condition: the clause lies in memory below the writer and is valid; the tables in their places. -/
namespace Go.Proofs.YtihmgodiiohdnaaGreatDoor.wr
open Go.RowKit

/-- The text ahead of goal j. -/
def bfB (j : Nat) : ByteArray := if j = 0 then ⟨#[58, 45]⟩ else ⟨#[44]⟩
theorem bfB_size (j : Nat) : 0 < (bfB j).size ∧ (bfB j).size ≤ 2 := by unfold bfB; split <;> decide
theorem bfB_next (j : Nat) : bfB (j + 1) = ⟨#[44]⟩ := by unfold bfB; rw [if_neg (by omega)]
theorem bdB_bf (j : Nat) (k n : Int) (s : ByteArray) (kids rest : Fr) : bdB j (.cons k n s kids rest) = (bfB j).data.toList ++ (txT k n s kids ++ bdB (j + 1) rest) := by
  unfold bfB
  by_cases h : j = 0
  · subst h; rw [bdB_zero, if_pos rfl]; rfl
  · rw [bdB_step j h, if_neg h]; rfl
theorem own_some {w : World} {base : Nat} {e : TypeId} {v : Value} {n : Nat} {xs : List Value} (h : w.ownsRow base e 1 v n xs) (hn : 0 < n) : ∃ g c, v = .slice (some ⟨g, 0, none⟩) n c := by
  rcases h.2 with ⟨_, h0⟩ | ⟨g', cap, cur, hv, _⟩
  · omega
  · exact ⟨g', cap, hv⟩

set_option maxRecDepth 100000 in
set_option maxHeartbeats 8000000 in
/-- opWriter.writeClause. -/
theorem wclause_any (c : Cl) (hv : clauseV c = true) (A G : Option Addr) (cap gcap lo hi ob mb : Nat) (bs : List UInt8) (w : World) (hk : NdS w lo hi c.kids A cap) (hg : GlS w lo hi c.body G gcap) (hh : hi ≤ mb) (hw : TW ob mb bs w) (hl : bs.length + (clT c).length ≤ 1073741824) (ht : Pow10 ob mb w) :
    Calls Tryz.prog 19 #[.pointer (some ⟨mb, 0, none⟩), .agg #[.string c.s, .slice A c.kids.len cap, .slice G c.body.len gcap]] w fun e w' => e = .returned (.tuple #[]) ∧ TW ob mb (bs ++ clT c) w' ∧ TF mb w w' := by
  obtain ⟨i0, hi0, hz0, hz1, hz2⟩ := info_parts infoU8
  have hm0 : mb < w.heap.size := by obtain ⟨_, hq, _⟩ := hw; exact hq.lt
  obtain ⟨h1, h2, h3⟩ := clause_two hv
  obtain ⟨hs1, hn1, hl1⟩ := valid_two h1
  have hk3 : c.k = 3 := by
    unfold clauseV plainV plainK at hv
    simp only [Bool.and_eq_true, beq_iff_eq] at hv
    exact hv.1.2.1
  have hlb := bdB_len c.body 0 h2
  have HCT : Hid (clT c = txT c.k c.n c.s c.kids ++ (bdB 0 c.body ++ [46])) := Lib.hid rfl
  have hll : bs.length + ((txT c.k c.n c.s c.kids).length + ((bdB 0 c.body).length + 1)) ≤ 1073741824 := by rw [HCT.out] at hl; simpa using hl
  have hb0 : Below w.heap.size w (w.alloc (.cells #[.string c.s, .slice A c.kids.len cap, .slice G c.body.len gcap] 56)) := (Below.refl _ _).alloc (Nat.le_refl _) _
  have hq0 := Blk.new w 56 #[.string c.s, .slice A c.kids.len cap, .slice G c.body.len gcap]
  have x0 := hq0.cell 0
  have x1 := hq0.cell 1
  have x2 := hq0.cell 2
  simp only [List.getElem?_toArray, List.getElem?_cons_zero, List.getElem?_cons_succ] at x0 x1 x2
  have C1 := fun (w2 : World) (hb : Below w.heap.size w w2) => ow_all c.kids.size c.s c.kids (Nat.le_refl _) c.k c.n 30 _ lo hi ob mb bs w2 hs1 (by rw [hk3]; exact nd_form (hk.keep (fun p _ hp => hb.cell (by omega)) (Nat.le_refl _) (Nat.le_refl _))) hh (hw.below hb) (by omega) (ht.on (hb.mono (Nat.le_of_lt hm0))) (by omega)
  have HG := Lib.hid hg
  have HHI := Lib.hid hh
  have HALL := Lib.hid h2
  have HT := Lib.hid ht
  have HB0 := Lib.hid hb0
  have HQ0 := Lib.hid hq0
  have H1 := Lib.hid C1
  clear C1 hk hg hh h1 h2 hs1 hn1 hb0 hq0 hv hw ht hl hk3
  generalize txT c.k c.n c.s c.kids = T at *
  generalize clT c = R at *
  generalize c.s = s at *
  generalize c.kids.len = kl at *
  generalize c.body = f at *
  generalize hn : f.len = len at *
  have HN := Lib.hid hn
  clear hn
  go_enter Tryz.func19, Tryz.ntmps19
  go_wp2_with fail
  refine (formP_any _ _ _ _ _).mono ?_
  rintro e w2 ⟨rfl, hb⟩
  have hb2 := HB0.out.trans (hb.mono HB0.out.size)
  have hq2 := HQ0.out.below hb HQ0.out.lt
  have C2 := H1.out w2 hb2
  have H2 := Lib.hid C2
  have HB2 := Lib.hid hb2
  have HQ2 := Lib.hid hq2
  clear hb hb2 hq2 x0 x1 x2 C2
  go_wp2_with fail
  refine H2.out.mono ?_
  rintro e w3 ⟨rfl, hw3, htf3⟩
  have hn0 : w.heap.size ≠ mb := by omega
  have hq3 := htf3.blk HQ2.out hn0 (by decide)
  have x2 := hq3.cell 2
  simp only [List.getElem?_toArray, List.getElem?_cons_zero, List.getElem?_cons_succ] at x2
  have HW3 := Lib.hid hw3
  have HTF3 := Lib.hid ((TF.below HB2.out (Nat.le_of_lt hm0)).trans htf3)
  clear hw3 htf3 hq3
  go_wp2_with fail
  go_loopw [4, 16] (fun bv i wr => ∃ (j : Nat) (b2 : List UInt8), j ≤ len ∧ i = .int .i64 j ∧ bv = .string (bfB j) ∧ TW ob mb b2 wr ∧ TF mb w wr ∧ b2 ++ bdB j (f.drop j) = (bs ++ T) ++ bdB 0 f) (fun _ i _ => len - (intOf i).toNat)
  case atStart => exact ⟨0, bs ++ T, Nat.zero_le _, rfl, rfl, HW3.out, HTF3.out, rfl⟩
  case round =>
    obtain ⟨j, b2, hj, rfl, rfl, hw, htf, hb⟩ := hrel
    have hb2l : b2.length + (bdB j (f.drop j)).length + 1 ≤ 1073741824 := by have := congrArg List.length hb; simp only [List.length_append] at this; omega
    obtain ⟨tv, hq, ho⟩ := hw
    obtain ⟨A0, c0, rfl, _, _⟩ := row_form ho
    have y0 := hq.cell 0
    have yf := hq.frozen 0
    simp only [List.getElem?_toArray, List.getElem?_cons_zero] at y0
    have hmw := hq.lt
    have HTF := Lib.hid htf
    have HBB := Lib.hid hb
    have HQ := Lib.hid hq
    have HO := Lib.hid ho
    clear hb htf hq ho
    by_cases hlt : j < len
    · obtain ⟨kk, nn, ss, kids, hd⟩ := Fr.drop_cons j f (by rw [HN.out]; exact hlt)
      obtain ⟨gb, rfl, hgb1, hgb2, hrow⟩ := HG.out.2.2 (by rw [HN.out]; omega)
      obtain ⟨gv, A3, cp3, hcell, hgi, hnd⟩ := hrow.elem hd
      rw [Nat.zero_add] at hcell
      have hgbm : gb < mb := Nat.lt_of_lt_of_le hgb2 HHI.out
      have k3 := (HTF.out.1.cell (p := ⟨gb, j, none⟩) hgbm).trans hcell
      have hgo := allG_elem f j hd HALL.out
      obtain ⟨rfl, hsh, hfm⟩ := GIs.node (w := w) (lo := lo) (hi := hi) hgo hgi hnd
      have hvt := valid_two (goal_valid hgo)
      have hb3 := HBB.out
      rw [hd, bdB_bf] at hb3
      have hb3l : b2.length + ((bfB j).size + ((txT 3 nn ss kids).length + (bdB (j + 1) (f.drop (j + 1))).length)) + 1 ≤ 1073741824 := by
        rw [hd, bdB_bf] at hb2l
        have h1 : (bfB j).data.toList.length = (bfB j).size := rfl
        simp only [List.length_append, h1] at hb2l
        omega
      have hbp := (bfB_size j).1
      have hbq := (bfB_size j).2
      have HB3 := Lib.hid hb3
      have HND := Lib.hid hnd
      have C3 := fun (vn : Value) (wx : World) (hnv : NdV wx lo hi 3 nn ss kids vn) (htf : TF mb w wx) (hw : TW ob mb (b2 ++ (bfB j).data.toList) wx) => ow_all kids.size ss kids (Nat.le_refl _) 3 nn 30 vn lo hi ob mb (b2 ++ (bfB j).data.toList) wx hsh hnv HHI.out hw (by have h1 : (bfB j).data.toList.length = (bfB j).size := rfl; rw [List.length_append, h1]; omega) (HT.out.on htf.1) (by omega)
      have H3 := Lib.hid C3
      have HBN := Lib.hid (bfB_next j)
      have HEX : Hid (((b2 ++ (bfB j).data.toList) ++ txT 3 nn ss kids) ++ bdB (j + 1) (f.drop (j + 1)) = (bs ++ T) ++ bdB 0 f) := Lib.hid (by rw [← HB3.out]; simp)
      clear C3 hb3 hd hgo hgi hcell hrow hsh hnd hvt hb2l
      generalize hbf : bfB j = bf at *
      clear hbf
      go_wp2_with (first
        | (at_builtin; go_must (refine Lib.wpList_append_own_string _ rfl _ _ _ _ rfl (mb + 1) 5 i0 Tryz.underlying22 Tryz.underlying9 hi0 hz0 hz1 hz2 _ b2.length (Lib.byteCells b2) rfl HO.out bf rfl (by unfold maxLen; omega) (by omega) (by omega) ?_); intro v9 w9 hown9 hgrow9 _; obtain ⟨g9, cap9, rfl⟩ := own_some hown9 (by omega); have hst9 := TW.step (add := bf.data.toList) HQ.out HO.out (Below.refl _ _) hgrow9 hown9; have y9 := hst9.2.2.cell 0; have yf9 := hst9.2.2.frozen 0; simp only [List.getElem?_toArray, List.getElem?_cons_zero] at y9; have HS9 := Lib.hid (And.intro hst9.1 hst9.2.1); clear hown9 hgrow9 hst9; refine Hid.out ?_)
        | fail)
      refine Lib.hid ?_
      have HTF9 := Lib.hid (HTF.out.trans HS9.out.2)
      have HX9 : Hid (TW ob mb (b2 ++ bf.data.toList) (w9.setCell ⟨mb, 0, none⟩ (.slice (some ⟨g9, 0, none⟩) (b2.length + bf.size) cap9))) := Lib.hid HS9.out.1
      clear y0 yf
      rcases hfm with ⟨rfl, rfl, rfl⟩ | rfl | rfl
      · go_wp2_with fail
        refine (formC_any _).mono ?_
        rintro e w5 ⟨rfl, hb5⟩
        have htf5 := HTF9.out.trans (TF.below hb5 (Nat.le_of_lt (by obtain ⟨_, hq, _⟩ := HX9.out; exact hq.lt)))
        have C4 := H3.out _ w5 (nd_cut w5 _ _ _) htf5 (HX9.out.below hb5)
        have H4 := Lib.hid C4
        have HTF5 := Lib.hid htf5
        clear hb5 htf5 C4
        go_wp2_with fail
        refine H4.out.mono ?_
        rintro e w6 ⟨rfl, hw6, htf6⟩
        have HW6 := Lib.hid hw6
        have HTF6 := Lib.hid (HTF5.out.trans htf6)
        clear hw6 htf6
        go_wp2_with fail
        go_roundw
        case rel => exact ⟨j + 1, _, by omega, by go_num, by rw [HBN.out], HW6.out, HTF6.out, HEX.out⟩
        case measure => simp [intOf]; omega
      · go_wp2_with fail
        refine (formB_any _ _ _ _ _).mono ?_
        rintro e w5 ⟨rfl, hb5⟩
        have htf5 := HTF9.out.trans (TF.below hb5 (Nat.le_of_lt (by obtain ⟨_, hq, _⟩ := HX9.out; exact hq.lt)))
        have C4 := H3.out _ w5 (nd_form (HND.out.keep (fun p _ hp => htf5.1.cell (by have := HHI.out; omega)) (Nat.le_refl _) (Nat.le_refl _))) htf5 (HX9.out.below hb5)
        have H4 := Lib.hid C4
        have HTF5 := Lib.hid htf5
        clear hb5 htf5 C4
        go_wp2_with fail
        refine H4.out.mono ?_
        rintro e w6 ⟨rfl, hw6, htf6⟩
        have HW6 := Lib.hid hw6
        have HTF6 := Lib.hid (HTF5.out.trans htf6)
        clear hw6 htf6
        go_wp2_with fail
        go_roundw
        case rel => exact ⟨j + 1, _, by omega, by go_num, by rw [HBN.out], HW6.out, HTF6.out, HEX.out⟩
        case measure => simp [intOf]; omega
      · go_wp2_with fail
        refine (formP_any _ _ _ _ _).mono ?_
        rintro e w5 ⟨rfl, hb5⟩
        have htf5 := HTF9.out.trans (TF.below hb5 (Nat.le_of_lt (by obtain ⟨_, hq, _⟩ := HX9.out; exact hq.lt)))
        have C4 := H3.out _ w5 (nd_form (HND.out.keep (fun p _ hp => htf5.1.cell (by have := HHI.out; omega)) (Nat.le_refl _) (Nat.le_refl _))) htf5 (HX9.out.below hb5)
        have H4 := Lib.hid C4
        have HTF5 := Lib.hid htf5
        clear hb5 htf5 C4
        go_wp2_with fail
        refine H4.out.mono ?_
        rintro e w6 ⟨rfl, hw6, htf6⟩
        have HW6 := Lib.hid hw6
        have HTF6 := Lib.hid (HTF5.out.trans htf6)
        clear hw6 htf6
        go_wp2_with fail
        go_roundw
        case rel => exact ⟨j + 1, _, by omega, by go_num, by rw [HBN.out], HW6.out, HTF6.out, HEX.out⟩
        case measure => simp [intOf]; omega
    · obtain rfl : j = len := by omega
      have hfin : b2 ++ [46] = bs ++ R := by
        have h1 := Fr.drop_len f
        rw [HN.out] at h1
        have h2 := HBB.out
        rw [h1, bdB_nil, List.append_nil] at h2
        rw [HCT.out, h2]
        simp
      have HFN := Lib.hid hfin
      clear hfin
      go_wp2_with (at_builtin; go_must (refine wpList_append_lies _ rfl _ _ _ rfl (mb + 1) 5 i0 _ 1 1 Tryz.underlying22 hi0 hz0 hz1 hz2 rfl (by omega) _ (b2).length (Lib.byteCells (b2)) rfl (HO.out.alloc _) ⟨wr.heap.size, 0, none⟩ 1 1 [.int .u8 46] rfl rfl (World.news_of_block (cs := #[.int .u8 46]) (t := 5) (fr := (0, 0)) (Blk.new wr 5 #[.int .u8 46])) (by simp [Value.oneCell']) (by omega) (by unfold maxLen; omega) (by omega) (by simp; omega) (wr.heap.size + 1) (by simp) ?_); intro g9 cap9 w9 hown9 hgrow9 _ _; have hst9 := TW.step1 (c := 46) HQ.out HO.out rfl hgrow9 hown9; have y9 := hst9.2.2.cell 0; have yf9 := hst9.2.2.frozen 0; simp only [List.getElem?_toArray, List.getElem?_cons_zero] at y9; have HS9 := Lib.hid (And.intro hst9.1 hst9.2.1); clear hown9 hgrow9 hst9; refine Hid.out ?_)
      refine Lib.hid ?_
      have HEND : Hid (TW ob mb (bs ++ R) _ ∧ TF mb w _) := Lib.hid ⟨by rw [← HFN.out]; exact HS9.out.1, HTF.out.trans HS9.out.2⟩
      go_wp2_with fail
      go_end0
      exact ⟨rfl, HEND.out⟩
end Go.Proofs.YtihmgodiiohdnaaGreatDoor.wr

/- impl.newOpWriter, impl.WriteTerm. Condition: the term lies in memory, the tables of signs, of operators and of powers of ten in their variables. -/
namespace Go.Proofs.YtihmgodiiohdnaaGreatDoor.wr
open Go.RowKit

set_option maxRecDepth 100000 in
set_option maxHeartbeats 2000000 in
/-- impl.newOpWriter. -/
theorem newW_any (w : World) (ho : op.OpTab w) :
    Calls Tryz.prog 18 #[] w fun e w' => ∃ mb, e = .returned (.pointer (some ⟨mb, 0, none⟩)) ∧ w.heap.size < mb ∧ Blk w' mb 63 #[.slice none 0 0, fW mb, .map (some w.heap.size)] ∧ op.OpM w' w.heap.size ∧ Below w.heap.size w w' := by
  have C1 := op.table2_any w ho
  have H1 := Lib.hid C1
  have hmf : ∀ (fn : Fn) (first cap : Array Value) (w : World), (Instr.makeFunc fn first cap).run Tryz.prog w = .ok (.func fn first cap) w := fun _ _ _ _ => rfl
  clear C1 ho
  go_enter Tryz.func18, Tryz.ntmps18
  go_wp2_with fail
  refine H1.out.mono ?_
  rintro e w2 ⟨rfl, hm, hb⟩
  have hl2 : w.heap.size < w2.heap.size := World.ownsMap.lt hm
  have HM := Lib.hid hm
  have HB := Lib.hid hb
  clear hm hb
  go_wp2_with fail
  go_ret
  refine ⟨w2.heap.size, rfl, hl2, ?_, ?_, ?_⟩
  · first
      | exact Blk.new w2 _ _
      | (have h := (Blk.new w2 63 #[.slice none 0 0, .nilFunc, .map (some w.heap.size)]).set_ 1 (fW w2.heap.size)
         simpa using h)
  · first
      | exact HM.out.alloc _
      | exact OpM_keep (HM.out.alloc _) (((Below.refl _ _).setCell (Nat.le_refl _) _).mono (Nat.le_refl _)) hl2
  · first
      | exact HB.out.alloc HB.out.size _
      | exact (HB.out.alloc HB.out.size _).setCell HB.out.size _

end Go.Proofs.YtihmgodiiohdnaaGreatDoor.wr

/- impl.FormatClause, FormatProgram. Condition: the clauses lie in memory, the tables of signs, of operators and of powers of ten in their variables. -/
namespace Go.Proofs.YtihmgodiiohdnaaGreatDoor.wr
open Go.RowKit

theorem clT_pos (c : Cl) : 0 < (clT c).length := by unfold clT; simp only [List.length_append, List.length_cons, List.length_nil]; omega
set_option maxRecDepth 100000 in
set_option maxHeartbeats 2000000 in
/-- impl.FormatClause. -/
theorem implFC_any (c : Cl) (A B : Option Addr) (cap capB lo hi : Nat) (w : World) (hk : KidsAt w lo hi c.kids A cap) (hkb : KidsAt w lo hi c.body B capB) (hh : hi ≤ w.heap.size) (hf : Fits c.k c.n c.s) (hnd : nodes c.kids ≤ 1048576) (hndb : nodes c.body ≤ 1048576) (ht : nv.Tab w) (ho : op.OpTab w) (hp : Lib.TabIs Tryz.prog w "internal/strconv.uint64pow10" .u64 Lib.pow10Tab) :
    Calls Tryz.prog 12 #[.agg #[.int .i64 c.k, .int .i64 c.n, .string c.s, .slice A c.kids.len cap, .slice B c.body.len capB]] w fun e w' => e = .returned (.string ⟨(fcB c).toArray⟩) ∧ Below w.heap.size w w' := by
  have hb0 : Below w.heap.size w (w.alloc (.cells #[.int .i64 c.k, .int .i64 c.n, .string c.s, .slice A c.kids.len cap, .slice B c.body.len capB] 32)) := (Below.refl _ _).alloc (Nat.le_refl _) _
  have C1 := clauseOf_any c A B cap capB lo hi _ (hk.below hb0 hh) (hkb.below hb0 hh) (Nat.le_trans hh hb0.size) hf hnd hndb (ht.below hb0) (ho.below hb0)
  have HE : Hid (fcB c = if clauseV c = true then clT c else []) := Lib.hid rfl
  have H1 := Lib.hid C1
  have HB0 := Lib.hid hb0
  have HP := Lib.hid (Lib.tabBelow_of_tabIs hp)
  have HO := Lib.hid ho
  clear C1 hk hkb hf hnd hndb ht hb0 hp hh ho
  have hpos := clT_pos c
  have C9 := fun (hv : clauseV c = true) (A G : Option Addr) (cap gcap lo hi ob mb : Nat) (w2 : World) (hk : NdS w2 lo hi c.kids A cap) (hg : GlS w2 lo hi c.body G gcap) (hh : hi ≤ mb) (hw : TW ob mb [] w2) (ht : Pow10 ob mb w2) =>
    wclause_any c hv A G cap gcap lo hi ob mb [] w2 hk hg hh hw (by have := clT_len hv; simp; omega) ht
  have hlen : clauseV c = true → (clT c).length ≤ 30000 := clT_len
  have H9 := Lib.hid C9
  have HLEN := Lib.hid hlen
  have HPOS := Lib.hid hpos
  have HND := Lib.hid (fun (w w' : World) (lo hi lo' hi' : Nat) (A : Option Addr) (cap : Nat) (h : NdS w lo hi c.kids A cap) (hk : ∀ p : Addr, lo ≤ p.block → p.block < hi → w'.cell? p = w.cell? p) (h1 : lo' ≤ lo) (h2 : hi ≤ hi') => h.keep hk h1 h2)
  have HGL := Lib.hid (fun (w w' : World) (lo hi lo' hi' : Nat) (A : Option Addr) (cap : Nat) (h : GlS w lo hi c.body A cap) (hk : ∀ p : Addr, lo ≤ p.block → p.block < hi → w'.cell? p = w.cell? p) (h1 : lo' ≤ lo) (h2 : hi ≤ hi') => h.keep hk h1 h2)
  clear hpos C9 hlen
  generalize clT c = T at *
  generalize fcB c = R at *
  go_enter Tryz.func12, Tryz.ntmps12
  go_wp2_with fail
  refine H1.out.mono ?_
  rintro e w2 ⟨hb, hr⟩
  have hb2 := HB0.out.trans (hb.mono HB0.out.size)
  rcases hr with ⟨hv, rfl⟩ | ⟨hv, A2, cap2, G, gcap, rfl, hnk, hgl⟩
  · have HV : Hid (R = []) := Lib.hid (by rw [HE.out, hv]; rfl)
    have HB2 := Lib.hid hb2
    clear hv hb hb2
    go_wp2_with fail
    go_ret
    rw [HV.out]; exact ⟨rfl, HB2.out.alloc HB2.out.size _⟩
  · have HV : Hid (R = T) := Lib.hid (by rw [HE.out, hv]; rfl)
    have HVV := Lib.hid hv
    have C2 := fun o => newW_any (w2.alloc o) (HO.out.below (hb2.alloc hb2.size o))
    have H2 := Lib.hid C2
    have HB2 := Lib.hid hb2
    have HNK := Lib.hid hnk
    have HGK := Lib.hid hgl
    have hs2 := hb2.size
    clear hv hb hb2 hnk hgl C2 H1 HE
    generalize c.s = s at *
    generalize c.kids.len = kl at *
    generalize c.body.len = bl at *
    go_wp2_with fail
    refine (H2.out _).mono ?_
    rintro e w3 ⟨mb, rfl, hm, hq, hom, hb3⟩
    have hbx := ((Below.refl w2.heap.size w2).alloc (Nat.le_refl _) (.cells #[.string s, .slice A2 kl cap2, .slice G bl gcap] 56)).trans (hb3.mono (by simp))
    have hqc : Blk w3 w2.heap.size 56 #[.string s, .slice A2 kl cap2, .slice G bl gcap] := (Blk.new w2 _ _).below hb3 (by simp)
    have hm2 : w2.heap.size + 1 < mb := by simpa using hm
    have hbw := HB2.out.trans (hbx.mono HB2.out.size)
    rw [show (w2.alloc (.cells #[.string s, .slice A2 kl cap2, .slice G bl gcap] 56)).heap.size = w2.heap.size + 1 by simp] at hq hom
    have C4 := H9.out HVV.out A2 G cap2 gcap _ _ (w2.heap.size + 1) mb w3 (HND.out w2 w3 _ _ _ _ A2 cap2 HNK.out (fun p _ hp => hbx.cell hp) (Nat.le_refl _) (Nat.le_refl _)) (HGL.out w2 w3 _ _ _ _ G gcap HGK.out (fun p _ hp => hbx.cell hp) (Nat.le_refl _) (Nat.le_refl _)) (by omega) ⟨_, hq, World.ownsRow_nil _ _ _ _⟩
      ⟨fun w' hb' => HP.out w' (hbw.trans (hb'.mono (by omega))), hm2, hom⟩
    have x0 := hqc.cell 0
    have x1 := hqc.cell 1
    have x2 := hqc.cell 2
    simp only [List.getElem?_toArray, List.getElem?_cons_zero, List.getElem?_cons_succ] at x0 x1 x2
    have H4 := Lib.hid C4
    have HB3 := Lib.hid hbw
    have hmw : w.heap.size ≤ mb := by omega
    clear hm hq hom hb3 hbx hqc hbw C4
    go_wp2_with fail
    refine H4.out.mono ?_
    rintro e w4 ⟨rfl, hw4, htf4⟩
    obtain ⟨tv, hq4, ho4⟩ := hw4
    rw [List.nil_append] at ho4
    have HFB : Hid (Below w.heap.size w w4) := Lib.hid (HB3.out.trans (htf4.1.mono hmw))
    have y0 := hq4.cell 0
    simp only [List.getElem?_toArray, List.getElem?_cons_zero] at y0
    clear hq4 htf4 x0 x1 x2
    have hl4 := HLEN.out HVV.out
    rcases ho4.2 with ⟨rfl, h0⟩ | ⟨g, cap4, cur, rfl, _⟩
    · exact absurd h0 (by have := HPOS.out; omega)
    · have hcv := run_convert_bytes_back (P := Tryz.prog) w4 22 9 5 ⟨g, 0, none⟩ cap4 T Tryz.underlying22 Tryz.underlying5 Tryz.underlying9 (fun j hj => ho4.cells (g := g) rfl j _ (by simp [Lib.byteCells, hj]))
      clear ho4
      go_wp2_with fail
      go_ret
      rw [HV.out]; exact ⟨rfl, HFB.out⟩
end Go.Proofs.YtihmgodiiohdnaaGreatDoor.wr

/- impl.FormatProgram. Condition: the clauses lie in memory, the tables of signs, of operators and of powers of ten in their variables. -/
namespace Go.Proofs.YtihmgodiiohdnaaGreatDoor.wr
open Go.RowKit

theorem nds_cut {w : World} {lo hi n : Nat} {f : Fr} {A : Option Addr} {cap : Nat} (h : NdS w lo hi f A cap) (hno : ∀ b, lo ≤ b → b < hi → b < n) : NdS w lo n f A cap := by
  by_cases hl : lo < hi
  · exact h.keep (fun _ _ _ => rfl) (Nat.le_refl _) (by have := hno (hi - 1) (by omega) (by omega); omega)
  · refine ⟨h.1, h.2.1, fun h0 => ?_⟩
    obtain ⟨b, _, h1, h2, _⟩ := h.2.2 h0
    omega
theorem gls_cut {w : World} {lo hi n : Nat} {f : Fr} {A : Option Addr} {cap : Nat} (h : GlS w lo hi f A cap) (hno : ∀ b, lo ≤ b → b < hi → b < n) : GlS w lo n f A cap := by
  by_cases hl : lo < hi
  · exact h.keep (fun _ _ _ => rfl) (Nat.le_refl _) (by have := hno (hi - 1) (by omega) (by omega); omega)
  · refine ⟨h.1, h.2.1, fun h0 => ?_⟩
    obtain ⟨b, _, h1, h2, _⟩ := h.2.2 h0
    omega

set_option maxRecDepth 100000 in
set_option maxHeartbeats 4000000 in
/-- impl.FormatProgram. -/
theorem implFPn_any (cs : List Cl) (A : Option Addr) (cap lo hi : Nat) (w : World) (hk : ClS w lo hi cs A cap) (hh : hi ≤ w.heap.size) (hnd : cs.length + ndQs cs ≤ 1048576) (ht : nv.Tab w) (ho : op.OpTab w) (hp : Lib.TabIs Tryz.prog w "internal/strconv.uint64pow10" .u64 Lib.pow10Tab) :
    Calls Tryz.prog 8 #[.slice A cs.length cap] w fun e w' => e = .returned (.string ⟨(fpB cs).toArray⟩) ∧ Below w.heap.size w w' := by
  obtain ⟨i0, hi0, hz0, hz1, hz2⟩ := info_parts infoU8
  have C1 := progOfn_any cs A cap lo hi w hk hh hnd ht ho
  have HE : Hid (fpB cs = if progV cs = true then pgT cs else []) := Lib.hid rfl
  have HPV : Hid (progV cs = (decide (cs.length ≤ 20) && allC cs)) := Lib.hid rfl
  have HPL := Lib.hid (pgT_len cs)
  have H1 := Lib.hid C1
  have HP := Lib.hid (Lib.tabBelow_of_tabIs hp)
  have HO := Lib.hid ho
  clear C1 hk hh hnd ht ho hp
  generalize fpB cs = R at *
  generalize hn : cs.length = len at *
  have HN := Lib.hid hn
  clear hn
  go_enter Tryz.func8, Tryz.ntmps8
  go_wp2_with fail
  refine H1.out.mono ?_
  rintro e w2 ⟨hb2, hr⟩
  have HB2 := Lib.hid hb2
  clear hb2 H1
  rcases hr with ⟨hok, rfl⟩ | ⟨hok, R', M, rfl, hM1, hM2, D, hD, hH, r, rfl, hr1, hr2, hct⟩
  · have HV : Hid (R = []) := Lib.hid (by rw [HE.out, hok]; rfl)
    clear hok
    go_wp2_with fail
    go_ret
    rw [HV.out]
    exact ⟨rfl, HB2.out.alloc HB2.out.size _⟩
  · have HV : Hid (R = pgT cs) := Lib.hid (by rw [HE.out, hok]; rfl)
    have hall : allC cs = true := by
      have h := HPV.out
      rw [hok] at h
      exact (Bool.and_eq_true _ _ ▸ h.symm).2
    have hl20 : len ≤ 20 := by
      have h := HPV.out
      rw [hok] at h
      have h2 := (Bool.and_eq_true _ _ ▸ h.symm).1
      rw [decide_eq_true_iff] at h2
      exact h2
    have hpl : (pgT cs).length ≤ 700000 := by have := HPL.out hall; omega
    have C2 := fun o => newW_any (w2.alloc o) (HO.out.below (HB2.out.alloc HB2.out.size o))
    have H2 := Lib.hid C2
    have HALL := Lib.hid hall
    have HCT0 := Lib.hid hct
    clear hok hM1 hM2 hD hH hr1 hct hall C2 HE HPV HPL
    rw [HN.out]
    go_wp2_with fail
    refine (H2.out _).mono ?_
    rintro e w3 ⟨mb, rfl, hm, hqm, hom, hb3⟩
    have hbx := ((Below.refl w2.heap.size w2).alloc (Nat.le_refl _) (.cells #[.slice (some ⟨r, 0, none⟩) len len, .map (some M)] 45)).trans (hb3.mono (by simp))
    have hqp : Blk w3 w2.heap.size 45 #[.slice (some ⟨r, 0, none⟩) len len, .map (some M)] := (Blk.new w2 _ _).below hb3 (by simp)
    have hm2 : w2.heap.size + 1 < mb := by simpa using hm
    have hbw := HB2.out.trans (hbx.mono HB2.out.size)
    rw [show (w2.alloc (.cells #[.slice (some ⟨r, 0, none⟩) len len, .map (some M)] 45)).heap.size = w2.heap.size + 1 by simp] at hqm hom
    have HCT : Hid (Cts w3 (fun g => g < w2.heap.size) r cs 0) := Lib.hid (Cts.keep (fun p hp => hbx.cell hp.2) (fun g hg => hg.2) cs 0 (fun j _ => hbx.cell (p := ⟨r, j, none⟩) hr2) HCT0.out)
    have HPW : Hid (Pow10 (w2.heap.size + 1) mb w3) := Lib.hid ⟨fun w' hb' => HP.out w' (hbw.trans (hb'.mono (by have := HB2.out.size; omega))), hm2, hom⟩
    have HTW : Hid (TW (w2.heap.size + 1) mb [] w3) := Lib.hid ⟨_, hqm, World.ownsRow_nil _ _ _ _⟩
    have HBW := Lib.hid hbw
    have hmw : w.heap.size ≤ mb := by have := HB2.out.size; omega
    have p0 := hqp.cell 0
    simp only [List.getElem?_toArray, List.getElem?_cons_zero] at p0
    clear hm hqm hom hb3 hbx hqp hbw H2 HCT0 HP HO HB2
    go_wp2_with fail
    generalize w2.heap.size = pg at *
    go_loopw [19] (fun i wr => ∃ (j : Nat) (b2 : List UInt8), j ≤ len ∧ i = .int .i64 j ∧ b2 ++ pgT (cs.drop j) = pgT cs ∧ TW (pg + 1) mb b2 wr ∧ TF mb w3 wr) (fun i _ => len - (intOf i).toNat)
    case atStart => exact ⟨0, [], Nat.zero_le _, rfl, rfl, HTW.out, TF.refl _ _⟩
    case round =>
      obtain ⟨j, b2, hj, rfl, hL, hw, htf⟩ := hrel
      have hbl : b2.length + (pgT (cs.drop j)).length ≤ 700000 := by have := congrArg List.length hL; simp only [List.length_append] at this; omega
      have HL := Lib.hid hL
      have HTF := Lib.hid htf
      have HW := Lib.hid hw
      by_cases hlt : j < len
      · obtain ⟨c, hd⟩ := drop_cl cs j (by rw [HN.out]; exact hlt)
        obtain ⟨A', cp, G, gcap, lo2, hi2, e0, e1, e2, hno, hnk, hgl⟩ := Cts.get cs 0 j hd HCT.out
        rw [Nat.zero_add] at e0 e1 e2
        have hrm : r < mb := by omega
        have k0 := (htf.1.cell (p := ⟨r, j * 3, none⟩) hrm).trans e0
        have k1 := (htf.1.cell (p := ⟨r, j * 3 + 1, none⟩) hrm).trans e1
        have k2 := (htf.1.cell (p := ⟨r, j * 3 + 2, none⟩) hrm).trans e2
        have hmr : mb < wr.heap.size := by obtain ⟨_, hq, _⟩ := hw; exact hq.lt
        have hb7 : Below wr.heap.size wr (wr.alloc (.cells #[.string c.s, .slice A' c.kids.len cp, .slice G c.body.len gcap] 56)) := (Below.refl _ _).alloc (Nat.le_refl _) _
        have hq7 := Blk.new wr 56 #[.string c.s, .slice A' c.kids.len cp, .slice G c.body.len gcap]
        have x0 := hq7.cell 0
        have x1 := hq7.cell 1
        have x2 := hq7.cell 2
        simp only [List.getElem?_toArray, List.getElem?_cons_zero, List.getElem?_cons_succ] at x0 x1 x2
        have htf7 := htf.trans (TF.below hb7 (Nat.le_of_lt hmr))
        rw [hd, pgT_cons] at hL hbl
        have hbl2 : b2.length + ((clT c).length + 1) ≤ 700000 := by simp only [List.length_append, List.length_cons] at hbl; omega
        have C3 := wclause_any c (allC_at cs j hd HALL.out) A' G cp gcap lo2 pg (pg + 1) mb b2 _ ((nds_cut hnk hno).keep (fun p _ hp => htf7.1.cell (by omega)) (Nat.le_refl _) (Nat.le_refl _)) ((gls_cut hgl hno).keep (fun p _ hp => htf7.1.cell (by omega)) (Nat.le_refl _) (Nat.le_refl _)) (by omega) (hw.below hb7) (by omega) (HPW.out.on htf7.1)
        have HX : Hid (((b2 ++ clT c) ++ [10]) ++ pgT (cs.drop (j + 1)) = pgT cs) := Lib.hid (by rw [← hL]; simp)
        have H3 := Lib.hid C3
        have HTF7 := Lib.hid htf7
        clear C3 htf7 hb7 hq7 hw htf hL hbl hnk hgl hno hd e0 e1 e2 HL HW HTF
        generalize clT c = T at *
        generalize c.s = s at *
        generalize c.kids.len = kl at *
        generalize c.body.len = bl at *
        go_wp2_with fail
        refine H3.out.mono ?_
        rintro e w5 ⟨rfl, hw5, htf5⟩
        obtain ⟨tv, hq, ho⟩ := hw5
        obtain ⟨A0, c0, rfl, _, _⟩ := row_form ho
        have y0 := hq.cell 0
        have yf := hq.frozen 0
        simp only [List.getElem?_toArray, List.getElem?_cons_zero] at y0
        have hmw5 := hq.lt
        have HT5 := Lib.hid (HTF7.out.trans htf5)
        have HQ := Lib.hid hq
        have HO := Lib.hid ho
        have hbl5 : (b2 ++ T).length + 1 ≤ 700000 := by simp only [List.length_append]; omega
        clear htf5 hq ho x0 x1 x2 k0 k1 k2 HTF7 H3
        generalize b2 ++ T = b5 at *
        go_wp2_with (at_builtin; go_must (refine wpList_append_lies _ rfl _ _ _ rfl (mb + 1) 5 i0 _ 1 1 Tryz.underlying22 hi0 hz0 hz1 hz2 rfl (by omega) _ (b5).length (Lib.byteCells (b5)) rfl (HO.out.alloc _) ⟨w5.heap.size, 0, none⟩ 1 1 [.int .u8 10] rfl rfl (World.news_of_block (cs := #[.int .u8 10]) (t := 5) (fr := (0, 0)) (Blk.new w5 5 #[.int .u8 10])) (by simp [Value.oneCell']) (by omega) (by unfold maxLen; omega) (by omega) (by simp; omega) (w5.heap.size + 1) (by simp) ?_); intro g9 cap9 w9 hown9 hgrow9 _ _; have hst9 := TW.step1 (c := 10) HQ.out HO.out rfl hgrow9 hown9; have y9 := hst9.2.2.cell 0; have yf9 := hst9.2.2.frozen 0; simp only [List.getElem?_toArray, List.getElem?_cons_zero] at y9; have HS9 := Lib.hid (And.intro hst9.1 hst9.2.1); clear hown9 hgrow9 hst9; refine Hid.out ?_)
        refine Lib.hid ?_
        have HEND : Hid (TW (pg + 1) mb (b5 ++ [10]) _ ∧ TF mb w3 _) := Lib.hid ⟨HS9.out.1, HT5.out.trans HS9.out.2⟩
        go_wp2_with fail
        go_roundw
        case rel => exact ⟨j + 1, b5 ++ [10], by omega, by go_num, HX.out, HEND.out.1, HEND.out.2⟩
        case measure => simp [intOf]; omega
      · obtain rfl : j = len := by omega
        have hLL : b2 = pgT cs := by
          have h1 : cs.drop j = [] := by rw [List.drop_eq_nil_iff]; rw [HN.out]; exact Nat.le_refl _
          rw [← hL, h1]
          unfold pgT
          simp
        have HS : Hid (R = b2) := Lib.hid (by rw [HV.out, hLL])
        obtain ⟨tv, hq, hown⟩ := hw
        have y0 := hq.cell 0
        simp only [List.getElem?_toArray, List.getElem?_cons_zero] at y0
        have HB : Hid (Below w.heap.size w wr) := Lib.hid (HBW.out.trans (htf.1.mono hmw))
        clear hLL hL hbl htf hq HW HTF HL
        by_cases hl0 : b2 = []
        · subst hl0
          rcases hown.2 with ⟨rfl, _⟩ | ⟨g, cap3, cur, rfl, _⟩
          · have hcv : (convert 22 9 (.slice none 0 0)).run Tryz.prog wr = .ok (.string ⟨#[]⟩) wr := by kernel_rfl
            clear hown
            go_wp2_with fail
            go_ret
            rw [HS.out]; exact ⟨rfl, HB.out⟩
          · have hcv : (convert 22 9 (.slice (some ⟨g, 0, none⟩) 0 cap3)).run Tryz.prog wr = .ok (.string ⟨#[]⟩) wr := run_convert_bytes_back (P := Tryz.prog) wr 22 9 5 ⟨g, 0, none⟩ cap3 [] Tryz.underlying22 Tryz.underlying5 Tryz.underlying9 (fun j hj => absurd hj (Nat.not_lt_zero _))
            clear hown
            go_wp2_with fail
            go_ret
            rw [HS.out]; exact ⟨rfl, HB.out⟩
        · obtain ⟨g, cap3, rfl, _, _⟩ := hown.form (List.length_pos_iff.2 hl0)
          have hcv := run_convert_bytes_back (P := Tryz.prog) wr 22 9 5 ⟨g, 0, none⟩ cap3 b2 Tryz.underlying22 Tryz.underlying5 Tryz.underlying9 (fun j hj => hown.cells (g := g) rfl j _ (by unfold Lib.byteCells; rw [List.getElem?_map, List.getElem?_eq_getElem hj]; rfl))
          clear hown hl0
          go_wp2_with fail
          go_ret
          rw [HS.out]; exact ⟨rfl, HB.out⟩
/-- As before. -/
theorem implFP_any (cs : List Cl) (A : Option Addr) (cap lo hi : Nat) (w : World) (hk : ClS w lo hi cs A cap) (hh : hi ≤ w.heap.size) (hnd : cs.length + wtCs cs ≤ 1048576) (ht : nv.Tab w) (ho : op.OpTab w) (hp : Lib.TabIs Tryz.prog w "internal/strconv.uint64pow10" .u64 Lib.pow10Tab) :
    Calls Tryz.prog 8 #[.slice A cs.length cap] w fun e w' => e = .returned (.string ⟨(fpB cs).toArray⟩) ∧ Below w.heap.size w w' := implFPn_any cs A cap lo hi w hk hh (by have := nd_of_wt cs; omega) ht ho hp
end Go.Proofs.YtihmgodiiohdnaaGreatDoor.wr

/- The law FnProgramParts, walked. Condition: the codes lie in memory, the tables of signs, of operators and of powers of ten in their variables. -/
namespace Go.Proofs.YtihmgodiiohdnaaGreatDoor.rdr
open Go.RowKit

theorem nd_ok : ∀ cs : List Cl, (∀ c ∈ cs, okC c) → ndQs cs ≤ cs.length * 1200
  | [], _ => Nat.zero_le _
  | c :: cs, h => by
    have h1 := nd_ok cs fun c hc => h c (by simp [hc])
    have h2 := h c (by simp)
    simp only [ndQs, List.length_cons]
    unfold okC at h2
    omega
theorem allC_mem : ∀ cs : List Cl, allC cs = true ↔ ∀ c ∈ cs, clauseV c = true
  | [] => by simp [allC]
  | c :: cs => by
    have := allC_mem cs
    simp only [allC, Bool.and_eq_true, this, List.mem_cons]
    exact ⟨fun h x hx => hx.elim (fun e => e ▸ h.1) (h.2 x), fun h => ⟨h c (.inl rfl), fun x hx => h x (.inr hx)⟩⟩
theorem progV_sub {cs ds : List Cl} (h : progV cs = true) (hl : ds.length ≤ cs.length) (hs : ∀ c ∈ ds, c ∈ cs) : progV ds = true := by
  unfold progV at h ⊢
  rw [Bool.and_eq_true] at h ⊢
  have h1 := of_decide_eq_true h.1
  exact ⟨decide_eq_true (by omega), (allC_mem ds).2 fun c hc => (allC_mem cs).1 h.2 c (hs c hc)⟩
/-- The two parts of a program are programs, whose texts follow each other. -/
theorem parts_say {cs : List Cl} (h : progV cs = true) (k : Nat) : progV (cs.take k) = true ∧ progV (cs.drop k) = true ∧ wr.fpB (cs.take k) ++ wr.fpB (cs.drop k) = wr.fpB cs := by
  have h1 := progV_sub (ds := cs.take k) h (by rw [List.length_take]; omega) fun c hc => List.mem_of_mem_take hc
  have h2 := progV_sub (ds := cs.drop k) h (by rw [List.length_drop]; omega) fun c hc => List.mem_of_mem_drop hc
  refine ⟨h1, h2, ?_⟩
  unfold wr.fpB
  rw [if_pos h1, if_pos h2, if_pos h]
  unfold wr.pgT
  rw [← List.flatMap_append, List.take_append_drop]
set_option maxRecDepth 100000 in
set_option maxHeartbeats 8000000 in
theorem lawPPP_any (A : Option Addr) (len cap : Nat) (A2 : Option Addr) (len2 cap2 : Nat) (w : World) (hb : Bts w w.heap.size A len) (hc : len ≤ cap) (hm : cap ≤ maxLen) (hb2 : Bts w w.heap.size A2 len2) (hc2 : len2 ≤ cap2) (hm2 : cap2 ≤ maxLen) (ht : nv.Tab w) (ho : op.OpTab w) (hp : Lib.TabIs Tryz.prog w "internal/strconv.uint64pow10" .u64 Lib.pow10Tab) :
    Calls Tryz.prog 3 #[.slice A len cap, .slice A2 len2 cap2] w fun e w' => e = .returned (.bool true) ∧ Below w.heap.size w w' := by
  have hu := And.intro hb2 (And.intro hc2 hm2)
  clear hu
  by_cases h2 : len ≤ 1048576
  · have t0 : ¬ (len : Int) > 1048576 := by omega
    by_cases h3 : len2 ≤ 1048576
    · have t1 : ¬ (len2 : Int) > 1048576 := by omega
      have C1 := drawPV_any A len cap w hb hc hm
      have H1 := Lib.hid C1
      have HT := Lib.hid ht
      have HO := Lib.hid ho
      have HPT := Lib.hid (Lib.tabBelow_of_tabIs hp)
      clear C1 hb hc hm hb2 hc2 hm2 ht ho hp h2
      go_enter Tryz.func3, Tryz.ntmps3
      go_wp2_with fail
      refine H1.out.mono ?_
      rintro e w2 ⟨cs, b, o, cap', rfl, h21, hok, hcl, hb⟩
      have hnd : cs.length + ndQs cs ≤ 1048576 := by have := nd_ok cs hok; omega
      obtain ⟨kk, hkk, hkl⟩ : ∃ kk : Nat, kk = len2 % (cs.length + 1) ∧ kk ≤ cs.length := ⟨len2 % (cs.length + 1), rfl, Nat.le_of_lt_succ (Nat.mod_lt len2 (Nat.succ_pos cs.length))⟩
      have hrem : (len2 : Int) % ((cs.length : Int) + 1) = (kk : Int) := by rw [hkk]; simp
      have hndt : (cs.take kk).length + ndQs (cs.take kk) ≤ 1048576 := by have := nd_ok (cs.take kk) fun c hc => hok c (List.mem_of_mem_take hc); rw [List.length_take] at this ⊢; omega
      have hndd : (cs.drop kk).length + ndQs (cs.drop kk) ≤ 1048576 := by have := nd_ok (cs.drop kk) fun c hc => hok c (List.mem_of_mem_drop hc); rw [List.length_drop] at this ⊢; omega
      have hct := ClS.take hcl kk
      have hcd := ClS.drop hcl kk hkl
      have hlt : (cs.take kk).length = kk := by rw [List.length_take]; omega
      have hld : (cs.drop kk).length = cs.length - kk := List.length_drop
      have CI := fun wX (hX : Below w2.heap.size w2 wX) => implPVn_any cs _ cap' _ _ wX (hcl.below hX (Nat.le_refl _)) hX.size hnd (HT.out.below (hb.trans (hX.mono hb.size))) (HO.out.below (hb.trans (hX.mono hb.size)))
      have CS := fun wX (hX : Below w2.heap.size w2 wX) => specPVn_any cs _ cap' _ _ wX (hcl.below hX (Nat.le_refl _)) hX.size hnd
      have CIT := fun wX (hX : Below w2.heap.size w2 wX) => implPVn_any (cs.take kk) _ cap' _ _ wX (hct.below hX (Nat.le_refl _)) hX.size hndt (HT.out.below (hb.trans (hX.mono hb.size))) (HO.out.below (hb.trans (hX.mono hb.size)))
      have CFT := fun wX (hX : Below w2.heap.size w2 wX) => wr.implFPn_any (cs.take kk) _ cap' _ _ wX (hct.below hX (Nat.le_refl _)) hX.size hndt (HT.out.below (hb.trans (hX.mono hb.size))) (HO.out.below (hb.trans (hX.mono hb.size))) (HPT.out _ (hb.trans (hX.mono hb.size)))
      have CF := fun wX (hX : Below w2.heap.size w2 wX) => wr.implFPn_any cs _ cap' _ _ wX (hcl.below hX (Nat.le_refl _)) hX.size hnd (HT.out.below (hb.trans (hX.mono hb.size))) (HO.out.below (hb.trans (hX.mono hb.size))) (HPT.out _ (hb.trans (hX.mono hb.size)))
      have KD : ∀ wX, Below w2.heap.size w2 wX → ClS wX w.heap.size w2.heap.size (cs.drop kk) (if cap' = kk then some ⟨b, o, none⟩ else some ⟨b, o + kk * 5, none⟩) (cap' - kk) := fun wX hX => by
        split
        · next h0 =>
          have hz : (cs.drop kk).length = 0 := by have := hcl.1; omega
          exact ⟨by omega, by have := hcl.2.1; omega, fun hp => by omega⟩
        · exact hcd.below hX (Nat.le_refl _)
      have CID := fun wX (hX : Below w2.heap.size w2 wX) => implPVn_any (cs.drop kk) (if cap' = kk then some ⟨b, o, none⟩ else some ⟨b, o + kk * 5, none⟩) (cap' - kk) _ _ wX (KD wX hX) hX.size hndd (HT.out.below (hb.trans (hX.mono hb.size))) (HO.out.below (hb.trans (hX.mono hb.size)))
      have CFD := fun wX (hX : Below w2.heap.size w2 wX) => wr.implFPn_any (cs.drop kk) (if cap' = kk then some ⟨b, o, none⟩ else some ⟨b, o + kk * 5, none⟩) (cap' - kk) _ _ wX (KD wX hX) hX.size hndd (HT.out.below (hb.trans (hX.mono hb.size))) (HO.out.below (hb.trans (hX.mono hb.size))) (HPT.out _ (hb.trans (hX.mono hb.size)))
      rw [hlt] at CIT CFT
      rw [hld] at CID CFD
      have hcap := hcl.1
      have hcap2 := hcl.2.1
      have HSAY : Hid (progV cs = true → progV (cs.take kk) = true ∧ progV (cs.drop kk) = true ∧ wr.fpB (cs.take kk) ++ wr.fpB (cs.drop kk) = wr.fpB cs) := Lib.hid fun h => parts_say h kk
      obtain ⟨X, hX, hX2⟩ : ∃ X : ByteArray, (⟨(wr.fpB (cs.take kk)).toArray⟩ : ByteArray) = X ∧ X.toList = wr.fpB (cs.take kk) := ⟨_, rfl, by rw [ByteArray.toList_eq]⟩
      obtain ⟨Y, hY, hY2⟩ : ∃ X : ByteArray, (⟨(wr.fpB (cs.drop kk)).toArray⟩ : ByteArray) = X ∧ X.toList = wr.fpB (cs.drop kk) := ⟨_, rfl, by rw [ByteArray.toList_eq]⟩
      obtain ⟨Z, hZ, hZ2⟩ : ∃ X : ByteArray, (⟨(wr.fpB cs).toArray⟩ : ByteArray) = X ∧ X.toList = wr.fpB cs := ⟨_, rfl, by rw [ByteArray.toList_eq]⟩
      rw [hX] at CFT
      rw [hY] at CFD
      rw [hZ] at CF
      have HXYZ : Hid (progV cs = true → ((X ++ Y).toList == Z.toList) = true) := Lib.hid fun h => by
        rw [beq_iff_eq, hZ2, ← (HSAY.out h).2.2, ← hX2, ← hY2]
        simp [ByteArray.toList_eq]
      have HSZ : Hid (progV cs = true → X.size + Y.size ≤ 2000000) := Lib.hid fun h => by
        obtain ⟨p1, p2, -⟩ := HSAY.out h
        have e1 : X.size = (wr.fpB (cs.take kk)).length := by rw [← hX]; exact List.size_toArray
        have e2 : Y.size = (wr.fpB (cs.drop kk)).length := by rw [← hY]; exact List.size_toArray
        have l1 : (wr.fpB (cs.take kk)).length ≤ 30001 * (cs.take kk).length := by
          unfold wr.fpB; rw [if_pos p1]; unfold progV at p1; rw [Bool.and_eq_true] at p1; exact wr.pgT_len _ p1.2
        have l2 : (wr.fpB (cs.drop kk)).length ≤ 30001 * (cs.drop kk).length := by
          unfold wr.fpB; rw [if_pos p2]; unfold progV at p2; rw [Bool.and_eq_true] at p2; exact wr.pgT_len _ p2.2
        omega
      generalize progV cs = pv at *
      generalize progV (cs.take kk) = pt at *
      generalize progV (cs.drop kk) = pd at *
      have HB2 := Lib.hid hb
      have HCI := Lib.hid CI
      have HCS := Lib.hid CS
      have HCIT := Lib.hid CIT
      have HCFT := Lib.hid CFT
      have HCF := Lib.hid CF
      have HCID := Lib.hid CID
      have HCFD := Lib.hid CFD
      clear CI CS CIT CFT CF KD CID CFD hok hcl hct hcd hnd hndt hndd hb hlt hld hX hX2 hY hY2 hZ hZ2 H1 HT HO HPT
      unfold maxLen at hcap2
      generalize cs.length = n at *
      have hkk2 : kk < n + 1 := by omega
      clear hkk
      have hmod0 : ((n : Int) + 1 == 0) = false := by rw [beq_eq_false_iff_ne]; omega
      go_wp2_with fail
      refine (HCI.out w2 (Below.refl _ _)).mono ?_
      rintro e w3 ⟨rfl, hb3⟩
      have HB3 := Lib.hid hb3
      clear hb3
      go_wp2_with fail
      refine (HCS.out w3 HB3.out).mono ?_
      rintro e w4 ⟨rfl, hb4⟩
      have HB4 := Lib.hid (HB3.out.trans (hb4.mono HB3.out.size))
      clear hb4
      have tv : (pv != pv) = false := by cases pv <;> rfl
      have tv2 : (pv == pv) = true := by cases pv <;> rfl
      cases pv with
      | false =>
        go_wp2_with fail
        refine (HCS.out w4 HB4.out).mono ?_
        rintro e w5 ⟨rfl, hb5⟩
        have HB5 := Lib.hid (HB2.out.trans ((HB4.out.trans (hb5.mono HB4.out.size)).mono HB2.out.size))
        clear hb5
        go_wp2_with fail
        go_ret
        exact ⟨rfl, HB5.out⟩
      | true =>
        obtain ⟨rfl, rfl, -⟩ := HSAY.out rfl
        have hxyz := HXYZ.out rfl
        have hsz := HSZ.out rfl
        have hsum : ¬ 9223372036854775807 < X.size + Y.size := by omega
        have hsum2 : X.size + Y.size ≤ 9223372036854775807 := by omega
        have HB4D := Lib.hid (HB4.out.trans ((Below.refl w4.heap.size w4).drew.mono HB4.out.size))
        have i0 : (0 : Int) ≤ (kk : Int) := Int.natCast_nonneg _
        have i1 : (kk : Int) ≤ (n : Int) := by omega
        have i2 : (kk : Int) ≤ (cap' : Int) := by omega
        have i3 : (n : Int) ≤ (cap' : Int) := by omega
        clear HSAY HXYZ HSZ HCI HCS HB3 HB4
        by_cases hck : cap' = kk
        · obtain rfl : n = kk := by omega
          subst hck
          have HCID2 := HCID.out
          have HCFD2 := HCFD.out
          simp only [if_true, Nat.sub_self] at HCID2 HCFD2
          have HCIDX := Lib.hid HCID2
          have HCFDX := Lib.hid HCFD2
          clear HCID2 HCFD2 HCID HCFD
          go_wp2_with fail
          go_region_held3 (fun _ => True) (first | exact trivial)
            (first
              | (go_at_call 8; refine (HCF.out _ HB8.out).mono ?_; rintro e w9 ⟨rfl, hbz⟩; have HB9 := Lib.hid (HB8.out.trans (hbz.mono HB8.out.size)); clear hbz HCF)
              | (go_at_call 8; refine (HCFDX.out _ HB7.out).mono ?_; rintro e w8 ⟨rfl, hbz⟩; have HB8 := Lib.hid (HB7.out.trans (hbz.mono HB7.out.size)); clear hbz HCFDX)
              | (go_at_call 8; refine (HCFT.out _ HB6.out).mono ?_; rintro e w7 ⟨rfl, hbz⟩; have HB7 := Lib.hid (HB6.out.trans (hbz.mono HB6.out.size)); clear hbz HCFT)
              | (go_at_call 6; refine (HCIDX.out _ HB5.out).mono ?_; rintro e w6 ⟨rfl, hbz⟩; have HB6 := Lib.hid (HB5.out.trans (hbz.mono HB5.out.size)); clear hbz HCIDX)
              | (go_at_call 6; refine (HCIT.out _ HB4D.out).mono ?_; rintro e w5 ⟨rfl, hbz⟩; have HB5 := Lib.hid (HB4D.out.trans (hbz.mono HB4D.out.size)); clear hbz HCIT)
              | fail)
          have HB10 := Lib.hid (HB2.out.trans (HB9.out.mono HB2.out.size))
          go_wp2_with fail
          go_ret
          exact ⟨rfl, HB10.out⟩
        · have HCID2 := HCID.out
          have HCFD2 := HCFD.out
          simp only [if_neg hck] at HCID2 HCFD2
          have HCIDX := Lib.hid HCID2
          have HCFDX := Lib.hid HCFD2
          clear HCID2 HCFD2 HCID HCFD
          go_wp2_with fail
          go_region_held3 (fun _ => True) (first | exact trivial)
            (first
              | (go_at_call 8; refine (HCF.out _ HB8.out).mono ?_; rintro e w9 ⟨rfl, hbz⟩; have HB9 := Lib.hid (HB8.out.trans (hbz.mono HB8.out.size)); clear hbz HCF)
              | (go_at_call 8; refine (HCFDX.out _ HB7.out).mono ?_; rintro e w8 ⟨rfl, hbz⟩; have HB8 := Lib.hid (HB7.out.trans (hbz.mono HB7.out.size)); clear hbz HCFDX)
              | (go_at_call 8; refine (HCFT.out _ HB6.out).mono ?_; rintro e w7 ⟨rfl, hbz⟩; have HB7 := Lib.hid (HB6.out.trans (hbz.mono HB6.out.size)); clear hbz HCFT)
              | (go_at_call 6; refine (HCIDX.out _ HB5.out).mono ?_; rintro e w6 ⟨rfl, hbz⟩; have HB6 := Lib.hid (HB5.out.trans (hbz.mono HB5.out.size)); clear hbz HCIDX)
              | (go_at_call 6; refine (HCIT.out _ HB4D.out).mono ?_; rintro e w5 ⟨rfl, hbz⟩; have HB5 := Lib.hid (HB4D.out.trans (hbz.mono HB4D.out.size)); clear hbz HCIT)
              | fail)
          have HB10 := Lib.hid (HB2.out.trans (HB9.out.mono HB2.out.size))
          go_wp2_with fail
          go_ret
          exact ⟨rfl, HB10.out⟩
    · have t1 : (len2 : Int) > 1048576 := by omega
      clear hb hc hm hb2 hc2 hm2 ht ho hp
      go_enter Tryz.func3, Tryz.ntmps3
      go_wp2_with fail
      go_ret
      exact ⟨rfl, Below.refl _ _⟩
  · have t0 : (len : Int) > 1048576 := by omega
    clear hb hc hm hb2 hc2 hm2 ht ho hp
    go_enter Tryz.func3, Tryz.ntmps3
    go_wp2_with fail
    go_ret
    exact ⟨rfl, Below.refl _ _⟩
end Go.Proofs.YtihmgodiiohdnaaGreatDoor.rdr
