/- opWriter.writeOperand where brackets are needed; at every operand. Condition: the node lies in memory below the writer and is well-formed; the tables in their places. -/
import Derived.Test.YtkgapidhoeegmaaDoorProg
import Derived.Test.YtkgapidhoeegmaaDoorZmWS49
import Derived.Test.YtkgapidhoeegmaaDoorZmWS46
import Derived.Test.YtkgapidhoeegmaaDoorImplV
import Derived.Laws.EntriesVeiled
import Derived.Test.YtkgapidhoeegmaaDoorZmWS47
import Derived.Test.YtkgapidhoeegmaaDoorZmWS44
import Derived.Test.YtkgapidhoeegmaaDoorTo
import Derived.Test.YtkgapidhoeegmaaDoorZmWS43
namespace Go.Proofs.YtkgapidhoeegmaaDoor.wr
open Go.RowKit

set_option maxRecDepth 100000 in
set_option maxHeartbeats 8000000 in
/-- opWriter.writeOperand where brackets are needed. -/
theorem opnd_bra (s : ByteArray) (f : Fr) (h : OwC s f) (k n d l : Int) (right : Bool) (v : Value) (lo hi ob mb : Nat) (bs : List UInt8) (w : World) (hs : shapeT k n s f d = true) (hsz : s.size ≤ maxLen) (hv : NdV w lo hi k n s f v) (hh : hi ≤ mb) (hw : TW ob mb bs w) (hl : bs.length + (txT k n s f).length + 2 ≤ 1073741824) (ht : Pow10 ob mb w) (hnd : nodes f ≤ 1048576)
    (hc : l < olv k s f.len ∨ ¬ l < olv k s f.len ∧ right = true ∧ plB (txT k n s f) = false) :
    Calls Tryd.prog 30 #[.pointer (some ⟨mb, 0, none⟩), v, .int .i64 l, .bool right] w fun e w' => e = .returned (.tuple #[]) ∧ TW ob mb (bs ++ braB (txT k n s f)) w' ∧ TF mb w w' := by
  obtain ⟨i0, hi0, hz0, hz1, hz2⟩ := info_parts infoU8
  have hm0 : mb < w.heap.size := by obtain ⟨_, hq, _⟩ := hw; exact hq.lt
  have C1 := h k n d v lo hi ob mb bs w hs hv hh hw (by omega) ht hnd
  have hfl : f.len ≤ maxLen := by have := len_le_nodes f; unfold maxLen; omega
  have C2 := fun (w2 : World) (htf : TF mb w w2) (tv : Value) (hq : Blk w2 mb 54 #[tv, fW mb, .map (some ob)]) => oplev_any k n s f v lo hi ob mb tv (fW mb) w2 (hv.keep (fun p _ hp => htf.1.cell (by omega)) (Nat.le_refl _) (Nat.le_refl _)) hsz hfl hq (OpM_keep ht.2.2 htf.1 ht.2.1)
  have hpos := txT_ne hs
  obtain ⟨c, T', hT⟩ : ∃ c T', txT k n s f = c :: T' := by
    cases hx : txT k n s f with
    | nil => rw [hx] at hpos; simp at hpos
    | cons c T' => exact ⟨c, T', rfl⟩
  have C3 := fun (w3 : World) => follow_any c w3
  have hc2 : l < olv k s f.len ∨ ¬ l < olv k s f.len ∧ right = true ∧ plC c = false := by
    rcases hc with h | ⟨h1, h2, h3⟩
    · exact .inl h
    · rw [hT] at h3
      exact .inr ⟨h1, h2, h3⟩
  obtain ⟨T0, x0, rfl⟩ := hv.iface
  have H1 := Lib.hid C1
  have H2 := Lib.hid C2
  have H3 := Lib.hid C3
  have HT := Lib.hid hT
  clear C1 C2 C3 h hs hsz hv hh ht hnd hc hT hfl hpos
  generalize txT k n s f = T at *
  generalize olv k s f.len = ol at *
  obtain ⟨tv0, hq0, ho0⟩ := hw
  obtain ⟨A0, c0, rfl, _, _⟩ := row_form ho0
  have p00 := hq0.cell 0
  simp only [List.getElem?_toArray, List.getElem?_cons_zero] at p00
  have hbl : bs.length ≤ 1073741824 := by omega
  clear hq0 ho0
  go_enter Tryd.func30, Tryd.ntmps30
  go_wp2_with fail
  refine H1.out.mono ?_
  rintro e w2 ⟨rfl, hw2, htf2⟩
  obtain ⟨tv2, hq2, ho2⟩ := hw2
  have C4 := H2.out w2 htf2 tv2 hq2
  have H4 := Lib.hid C4
  have HTF2 := Lib.hid htf2
  have HW2 : Hid (TW ob mb (bs ++ T) w2) := Lib.hid ⟨tv2, hq2, ho2⟩
  have hm2 := hq2.lt
  clear C4 htf2 hq2 ho2 p00
  go_wp2_with fail
  refine H4.out.mono ?_
  rintro e w3 ⟨rfl, hb3⟩
  have HW3 := Lib.hid (HW2.out.below hb3)
  have HTF3 := Lib.hid (HTF2.out.trans (TF.below hb3 (Nat.le_of_lt hm2)))
  clear hb3
  obtain ⟨tv3, hq3, ho3⟩ := HW3.out
  obtain ⟨A3, c3, rfl, hc3, hc4⟩ := row_form ho3
  obtain ⟨g, rfl⟩ := row_some ho3 (by rw [HT.out]; simp only [List.length_append, List.length_cons]; omega)
  have p03 := hq3.cell 0
  have pf3 := hq3.frozen 0
  simp only [List.getElem?_toArray, List.getElem?_cons_zero] at p03
  have hm3 := hq3.lt
  have hgl := (ho3.lt g rfl).2
  have hgm := (ho3.lt g rfl).1
  have hlt : bs.length < (bs ++ T).length := by rw [HT.out]; simp only [List.length_append, List.length_cons]; omega
  have hNl : (bs ++ T).length + 2 ≤ 1073741824 := by rw [List.length_append]; omega
  have C6 := ins_any (mb + 1) (bs ++ T).length bs.length w3.heap.size (.slice (some ⟨g, 0, none⟩) (bs ++ T).length c3) (.int .u8 40) (Lib.byteCells (bs ++ T)) (w3.alloc (.cells #[.int .u8 40] 5)) rfl (one_bytes _) hlt (by omega) (by simp; omega) (fun e => by simp [Value.ownBlock] at e; omega) (ho3.alloc _) (Blk.new w3 _ _)
  rw [ins_bytes] at C6
  have hins : (bs ++ 40 :: T).length = (bs ++ T).length + 1 := by simp only [List.length_append, List.length_cons]; omega
  have hfin : (bs ++ braB T).length = (bs ++ T).length + 2 := by unfold braB; simp only [List.length_append, List.length_cons, List.length_nil]; omega
  have hfc : Lib.byteCells (bs ++ 40 :: T) ++ [.int .u8 41] = Lib.byteCells (bs ++ braB T) := by unfold Lib.byteCells braB; simp
  have H6 := Lib.hid C6
  have HFL := Lib.hid hfin
  have HFC := Lib.hid hfc
  have HQ3 := Lib.hid hq3
  have HO3 := Lib.hid ho3
  unfold maxLen at hc4
  rcases hc2 with hc2 | ⟨hc2, rfl, hpc⟩
  · have d1 : decide (l < ol) = true := decide_eq_true hc2
    generalize hN : (bs ++ T).length = N at *
    have HO3N : Hid (w3.ownsRow (mb + 1) 5 1 (.slice (some ⟨g, 0, none⟩) N c3) (bs ++ T).length (Lib.byteCells (bs ++ T))) := Lib.hid (by rw [hN]; exact HO3.out)
    have HQ3 : Hid (Blk w3 mb 54 #[.slice (some ⟨g, 0, none⟩) N c3, fW mb, .map (some ob)]) := HQ3
    clear hN hc2 hq3 ho3 C6 hins hfin hfc
    go_wp2_with fail
    refine H6.out.mono ?_
    rintro e w4 ⟨g4, cap4, rfl, ho4, hg4⟩
    have hs4 : w3.heap.size < w4.heap.size := by have := hg4.size; simp at this; omega
    have HO4 := Lib.hid ho4
    have HG4 := Lib.hid hg4
    have hq4 : Blk w4 mb 54 #[.slice (some ⟨g, 0, none⟩) N c3, fW mb, .map (some ob)] := HQ3.out.keep ((hg4.block mb (by simp; omega) (fun e => by simp [Value.ownBlock] at e; omega)).trans (((Below.refl w3.heap.size w3).alloc (Nat.le_refl _) _).block mb hm3))
    have yf4 := hq4.frozen 0
    have y04 := hq4.cell 0
    simp only [List.getElem?_toArray, List.getElem?_cons_zero] at y04
    clear ho4 hg4 hq4 p03 pf3
    go_wp2_with (at_builtin; go_must (refine wpList_append_lies _ rfl _ _ _ rfl (mb + 1) 5 i0 _ 1 1 Tryd.underlying22 hi0 hz0 hz1 hz2 rfl (by omega) _ (N + 1) _ rfl (HO4.out.alloc _) ⟨w4.heap.size, 0, none⟩ 1 1 [.int .u8 41] rfl rfl (World.news_of_block (cs := #[.int .u8 41]) (t := 5) (fr := (0, 0)) (Blk.new w4 5 #[.int .u8 41])) (by simp [Value.oneCell']) (by omega) (by unfold maxLen; omega) (by omega) (by simp; omega) (w4.heap.size + 1) (by simp) ?_); intro g6 cap6 w6 hown6 hgrow6 _ _; rw [HFC.out] at hown6; have hst6 := TW.two (bs' := bs ++ braB T) (ob := ob) HQ3.out HO3N.out ((Below.refl _ _).alloc (Nat.le_refl _) _) HG4.out HO4.out ((Below.refl _ _).alloc (Nat.le_refl _) _) hgrow6 (by rw [HFL.out]; exact hown6); have y6 := hst6.2.2.cell 0; have yf6 := hst6.2.2.frozen 0; simp only [List.getElem?_toArray, List.getElem?_cons_zero] at y6; have HS6 := Lib.hid (And.intro hst6.1 hst6.2.1); clear hown6 hgrow6 hst6; refine Hid.out ?_)
    refine Lib.hid ?_
    go_wp2_with fail
    go_end0
    exact ⟨rfl, HS6.out.1, HTF3.out.trans HS6.out.2⟩
  · have d1 : decide (l < ol) = false := decide_eq_false (by omega)
    have hy := ho3.cells (g := g) rfl bs.length (.int .u8 (c.toNat : Int)) (by rw [HT.out]; exact byteCells_at bs T' c)
    have e : (⟨g, 0, none⟩ : Addr).add bs.length = ⟨g, bs.length, none⟩ := by unfold Addr.add; split <;> simp_all
    rw [e] at hy
    have C5 := H3.out w3
    rw [hpc] at C5
    have H5 := Lib.hid C5
    generalize hN : (bs ++ T).length = N at *
    have HO3N : Hid (w3.ownsRow (mb + 1) 5 1 (.slice (some ⟨g, 0, none⟩) N c3) (bs ++ T).length (Lib.byteCells (bs ++ T))) := Lib.hid (by rw [hN]; exact HO3.out)
    clear hN hc2 hpc hq3 ho3 C6 C5 hins hfin hfc e
    go_wp2_with (first
      | (go_at_call 53; refine H5.out.mono ?_; rintro e w3 ⟨rfl, rfl⟩)
      | fail)
    refine H6.out.mono ?_
    rintro e w4 ⟨g4, cap4, rfl, ho4, hg4⟩
    have hs4 : w3.heap.size < w4.heap.size := by have := hg4.size; simp at this; omega
    have HO4 := Lib.hid ho4
    have HG4 := Lib.hid hg4
    have hq4 : Blk w4 mb 54 #[.slice (some ⟨g, 0, none⟩) N c3, fW mb, .map (some ob)] := HQ3.out.keep ((hg4.block mb (by simp; omega) (fun e => by simp [Value.ownBlock] at e; omega)).trans (((Below.refl w3.heap.size w3).alloc (Nat.le_refl _) _).block mb hm3))
    have yf4 := hq4.frozen 0
    have y04 := hq4.cell 0
    simp only [List.getElem?_toArray, List.getElem?_cons_zero] at y04
    clear ho4 hg4 hq4 p03 pf3
    go_wp2_with (at_builtin; go_must (refine wpList_append_lies _ rfl _ _ _ rfl (mb + 1) 5 i0 _ 1 1 Tryd.underlying22 hi0 hz0 hz1 hz2 rfl (by omega) _ (N + 1) _ rfl (HO4.out.alloc _) ⟨w4.heap.size, 0, none⟩ 1 1 [.int .u8 41] rfl rfl (World.news_of_block (cs := #[.int .u8 41]) (t := 5) (fr := (0, 0)) (Blk.new w4 5 #[.int .u8 41])) (by simp [Value.oneCell']) (by omega) (by unfold maxLen; omega) (by omega) (by simp; omega) (w4.heap.size + 1) (by simp) ?_); intro g6 cap6 w6 hown6 hgrow6 _ _; rw [HFC.out] at hown6; have hst6 := TW.two (bs' := bs ++ braB T) (ob := ob) HQ3.out HO3N.out ((Below.refl _ _).alloc (Nat.le_refl _) _) HG4.out HO4.out ((Below.refl _ _).alloc (Nat.le_refl _) _) hgrow6 (by rw [HFL.out]; exact hown6); have y6 := hst6.2.2.cell 0; have yf6 := hst6.2.2.frozen 0; simp only [List.getElem?_toArray, List.getElem?_cons_zero] at y6; have HS6 := Lib.hid (And.intro hst6.1 hst6.2.1); clear hown6 hgrow6 hst6; refine Hid.out ?_)
    refine Lib.hid ?_
    go_wp2_with fail
    go_end0
    exact ⟨rfl, HS6.out.1, HTF3.out.trans HS6.out.2⟩
end Go.Proofs.YtkgapidhoeegmaaDoor.wr

/- opWriter.writeWritten where it hands on to writeTerm; writeOperand at every operand. Condition: the node lies in memory below the writer and is well-formed; the tables in their places. -/
namespace Go.Proofs.YtkgapidhoeegmaaDoor.wr
open Go.RowKit

theorem opT_eq (right : Bool) (k n : Int) (s : ByteArray) (f : Fr) (l : Int) : opT right k n s f l = if l < olv k s f.len ∨ right = true ∧ plB (txT k n s f) = false then braB (txT k n s f) else txT k n s f := by
  unfold opT rigT lefT
  cases right <;> simp
/-- opWriter.writeOperand. -/
theorem opnd_any (s : ByteArray) (f : Fr) (h : OwC s f) (k n d l : Int) (right : Bool) (v : Value) (lo hi ob mb : Nat) (bs : List UInt8) (w : World) (hs : shapeT k n s f d = true) (hsz : s.size ≤ maxLen) (hv : NdV w lo hi k n s f v) (hh : hi ≤ mb) (hw : TW ob mb bs w) (hl : bs.length + (opT right k n s f l).length ≤ 1073741824) (ht : Pow10 ob mb w) (hnd : nodes f ≤ 1048576) :
    Calls Tryd.prog 30 #[.pointer (some ⟨mb, 0, none⟩), v, .int .i64 l, .bool right] w fun e w' => e = .returned (.tuple #[]) ∧ TW ob mb (bs ++ opT right k n s f l) w' ∧ TF mb w w' := by
  rw [opT_eq] at hl ⊢
  by_cases h1 : l < olv k s f.len
  · rw [if_pos (.inl h1)] at hl ⊢
    have hl : bs.length + (txT k n s f).length + 2 ≤ 1073741824 := by unfold braB at hl; simp only [List.length_cons, List.length_append, List.length_nil] at hl; omega
    exact opnd_bra s f h k n d l right v lo hi ob mb bs w hs hsz hv hh hw hl ht hnd (.inl h1)
  · by_cases h2 : right = true ∧ plB (txT k n s f) = false
    · rw [if_pos (.inr h2)] at hl ⊢
      have hl : bs.length + (txT k n s f).length + 2 ≤ 1073741824 := by unfold braB at hl; simp only [List.length_cons, List.length_append, List.length_nil] at hl; omega
      exact opnd_bra s f h k n d l right v lo hi ob mb bs w hs hsz hv hh hw hl ht hnd (.inr ⟨h1, h2⟩)
    · rw [if_neg (by rintro (h | h); exact h1 h; exact h2 h)] at hl ⊢
      refine opnd_plain s f h k n d l right v lo hi ob mb bs w hs hsz hv hh hw (by omega) ht hnd h1 fun hr => ?_
      cases hp : plB (txT k n s f)
      · exact absurd ⟨hr, hp⟩ h2
      · rfl

set_option maxRecDepth 100000 in
set_option maxHeartbeats 4000000 in
/-- opWriter.writeWritten of what is no operator with two operands. -/
theorem written_plain (s : ByteArray) (f : Fr) (h : ∀ s' f', f'.size < f.size → OwC s' f') (k n d : Int) (v : Value) (lo hi ob mb : Nat) (bs : List UInt8) (w : World) (hi0 : infB k s f.len = false) (hs : shapeT k n s f d = true) (hsz : s.size ≤ maxLen) (hv : NdV w lo hi k n s f v) (hh : hi ≤ mb) (hw : TW ob mb bs w) (hl : bs.length + (txT k n s f).length ≤ 1073741824) (ht : Pow10 ob mb w) (hnd : nodes f ≤ 1048576) :
    Calls Tryd.prog 20 #[.pointer (some ⟨mb, 0, none⟩), v] w fun e w' => e = .returned (.tuple #[]) ∧ TW ob mb (bs ++ txT k n s f) w' ∧ TF mb w w' := by
  have hm0 : mb < w.heap.size := by obtain ⟨_, hq, _⟩ := hw; exact hq.lt
  have hw' := hw
  obtain ⟨tv0, hq0, _⟩ := hw'
  obtain ⟨A, cap, -, C1⟩ := named_any k n s f v lo hi ob mb tv0 (fW mb) w hv hsz hq0 ht.2.2
  have C2 := fun (w2 : World) (hb : Below w.heap.size w w2) => wterm_of s f h k n d v lo hi ob mb bs w2 hi0 hs (hv.keep (fun p _ hp => hb.cell (by omega)) (Nat.le_refl _) (Nat.le_refl _)) hh (hw.below hb) hl (ht.on (hb.mono (Nat.le_of_lt hm0))) hnd
  have hfl : f.len ≤ 1048576 := by have := len_le_nodes f; omega
  obtain ⟨T0, x0, rfl⟩ := hv.iface
  have HI : Hid (infB k s f.len = false) := Lib.hid hi0
  have HIE : Hid (infB k s f.len = (k == 3 && (f.len == 2 && decide (0 < op.level s.data.toList)))) := Lib.hid rfl
  have H1 := Lib.hid C1
  have H2 := Lib.hid C2
  clear C1 C2 h hi0 hs hsz hv hh hw hl ht hnd hq0
  generalize txT k n s f = T at *
  generalize f.len = len at *
  go_enter Tryd.func20, Tryd.ntmps20
  go_wp2_with fail
  refine H1.out.mono ?_
  rintro e w2 ⟨hb, hr⟩
  have HB := Lib.hid hb
  have HB2 : Hid (∀ o1 o2, Below w.heap.size w ((w2.alloc o1).alloc o2)) := Lib.hid fun o1 o2 => (HB.out.alloc HB.out.size _).alloc (by have := HB.out.size; simp; omega) _
  rcases hr with ⟨rfl, hpos, a, rfl⟩ | ⟨hz, x1, x2, x3, x4, y1, y2, y3, rfl⟩
  · have h2 : len ≠ 2 := fun e => by
      have := HIE.out
      rw [HI.out, e, decide_eq_true hpos] at this
      simp at this
    have t2 : ((len : Int) != 2) = true := by rw [bne_iff_ne]; omega
    clear hpos hb h2
    go_wp2_with fail
    refine (H2.out _ (HB2.out _ _)).mono ?_
    rintro e w3 ⟨rfl, hw3, htf3⟩
    have HFN := Lib.hid (And.intro hw3 ((TF.below (HB2.out _ _) (Nat.le_of_lt hm0)).trans htf3))
    clear hw3 htf3
    go_wp2_with fail
    first
      | (go_end0; exact ⟨rfl, HFN.out⟩)
      | ((try simp only [Exit.inBlock, Exit.then]); refine bodyPost_ret (results_none rfl _ _ _) rfl ?_; exact ⟨rfl, HFN.out⟩)
  · clear hz hb
    go_wp2_with fail
    refine (H2.out _ (HB2.out _ _)).mono ?_
    rintro e w3 ⟨rfl, hw3, htf3⟩
    have HFN := Lib.hid (And.intro hw3 ((TF.below (HB2.out _ _) (Nat.le_of_lt hm0)).trans htf3))
    clear hw3 htf3
    go_wp2_with fail
    first
      | (go_end0; exact ⟨rfl, HFN.out⟩)
      | ((try simp only [Exit.inBlock, Exit.then]); refine bodyPost_ret (results_none rfl _ _ _) rfl ?_; exact ⟨rfl, HFN.out⟩)
end Go.Proofs.YtkgapidhoeegmaaDoor.wr

/- opWriter.writeWritten of an operator and its operands; at every node; impl.WriteTerm. Condition: the node lies in memory below the writer and is well-formed; the tables in their places. -/
namespace Go.Proofs.YtkgapidhoeegmaaDoor.wr
open Go.RowKit

theorem spB_pos {s : ByteArray} (h : 0 < s.data.toList.length) : 0 < (spB s.data.toList).length := by
  unfold spB
  split
  · simp
  · exact h
set_option maxRecDepth 100000 in
set_option maxHeartbeats 8000000 in
/-- opWriter.writeWritten of an operator and its operands. -/
theorem written_inf (n : Int) (s : ByteArray) (f : Fr) (hpf : pairB 3 s f.len = false) (hif : infB 3 s f.len = true) (h : ∀ s' f', f'.size < f.size → OwC s' f') (d : Int) (v : Value) (lo hi ob mb : Nat) (bs : List UInt8) (w : World) (hs : shapeT 3 n s f d = true) (hv : NdV w lo hi 3 n s f v) (hh : hi ≤ mb) (hw : TW ob mb bs w) (hl : bs.length + (txT 3 n s f).length ≤ 1073741824) (ht : Pow10 ob mb w) (hnd : nodes f ≤ 1048576) :
    Calls Tryd.prog 20 #[.pointer (some ⟨mb, 0, none⟩), v] w fun e w' => e = .returned (.tuple #[]) ∧ TW ob mb (bs ++ txT 3 n s f) w' ∧ TF mb w w' := by
  obtain ⟨i0, hi0, hz0, hz1, hz2⟩ := info_parts infoU8
  have hm0 : mb < w.heap.size := by obtain ⟨_, hq, _⟩ := hw; exact hq.lt
  obtain ⟨_, hlv, k1, n1, s1, kd1, k2, n2, s2, kd2, rfl⟩ := inf_kids hif
  have hlr := op.level_range s.data.toList
  have hs3 := shapeT_struct hs
  have hs6 : s.size ≤ 6 := nameB_size hs3.2.1
  have hspos : 0 < s.data.toList.length := List.length_pos_iff.2 (name_pos3 hs3.2.1)
  have hbp := spB_pos hspos
  have hbl := spB_len s.data.toList
  have hssz : s.data.toList.length = s.size := rfl
  have hG := txT_inf (n := n) (k1 := k1) (n1 := n1) (s1 := s1) (kd1 := kd1) (k2 := k2) (n2 := n2) (s2 := s2) (kd2 := kd2) hpf hif
  have hsk := shapeT_kids hs
  rw [shapeF_cons, shapeF_cons, Bool.and_eq_true, Bool.and_eq_true] at hsk
  have hz1' : kd1.size < (Fr.cons k1 n1 s1 kd1 (.cons k2 n2 s2 kd2 .nil)).size := by simp only [Fr.size]; omega
  have hz2' : kd2.size < (Fr.cons k1 n1 s1 kd1 (.cons k2 n2 s2 kd2 .nil)).size := by simp only [Fr.size]; omega
  have hnd1 : nodes kd1 ≤ 1048576 ∧ nodes kd2 ≤ 1048576 := by simp only [nodes] at hnd; omega
  have hsmall : ∀ {k n : Int} {s : ByteArray} {f : Fr} {d : Int}, shapeT k n s f d = true → s.size ≤ maxLen := fun {k n s f d} h => by
    have := (smF_shape (.cons k n s f .nil) d (by rw [shapeF_cons, h]; rfl)).1.1
    unfold maxLen; omega
  have hG' : txT 3 n s (.cons k1 n1 s1 kd1 (.cons k2 n2 s2 kd2 .nil)) = opT false k1 n1 s1 kd1 (lfl (op.level s.data.toList)) ++ (spB s.data.toList ++ opT true k2 n2 s2 kd2 (op.level s.data.toList - 1)) := hG
  rw [hG'] at hl ⊢
  simp only [List.length_append] at hl
  have hw' := hw
  obtain ⟨tv0, hq0, _⟩ := hw'
  obtain ⟨A, cap, hst, C1⟩ := named_any 3 n s _ v lo hi ob mb tv0 (fW mb) w hv (by unfold maxLen; omega) hq0 ht.2.2
  obtain ⟨hnds, rfl⟩ := hst rfl
  have hcap := hnds.2.1
  have hcap1 := hnds.1
  obtain ⟨b, rfl, hb1, hb2, hrow⟩ := hnds.2.2 (by simp [Fr.len])
  obtain ⟨v1, hc1, hv1⟩ := hrow.elem (i := 0) rfl
  obtain ⟨v2, hc2, hv2⟩ := hrow.elem (i := 1) rfl
  simp only [Nat.zero_add] at hc1 hc2
  have C2 := fun (w2 : World) (htf : TF mb w w2) (hw2 : TW ob mb bs w2) => opnd_any s1 kd1 (h s1 kd1 hz1') k1 n1 (d - 1) (lfl (op.level s.data.toList)) false v1 lo hi ob mb bs w2 hsk.1 (hsmall hsk.1) (hv1.keep (fun p _ hp => htf.1.cell (by omega)) (Nat.le_refl _) (Nat.le_refl _)) hh hw2 (by omega) (ht.on htf.1) hnd1.1
  have C3 := fun (w2 : World) (bs2 : List UInt8) (hb2 : bs2.length + (opT true k2 n2 s2 kd2 (op.level s.data.toList - 1)).length ≤ 1073741824) (htf : TF mb w w2) (hw2 : TW ob mb bs2 w2) => opnd_any s2 kd2 (h s2 kd2 hz2') k2 n2 (d - 1) (op.level s.data.toList - 1) true v2 lo hi ob mb bs2 w2 hsk.2.1 (hsmall hsk.2.1) (hv2.keep (fun p _ hp => htf.1.cell (by omega)) (Nat.le_refl _) (Nat.le_refl _)) hh hw2 (by omega) (ht.on htf.1) hnd1.2
  have C4 := fun (a b : ByteArray) (w2 : World) => op.left_any a b (op.level s.data.toList) w2
  have C5 := fun (a b : ByteArray) (w2 : World) => rightLv_any a b (op.level s.data.toList) (by omega) w2
  rw [lmin_lfl _ (by omega)] at C4
  obtain ⟨T1, x1, rfl⟩ := hv1.iface
  obtain ⟨T2, x2, rfl⟩ := hv2.iface
  have HW0 := Lib.hid hw
  have H1 := Lib.hid C1
  have H2 := Lib.hid C2
  have H3 := Lib.hid C3
  have H4 := Lib.hid C4
  have H5 := Lib.hid C5
  have hbm : b < mb := by omega
  have HC1 := Lib.hid hc1
  have HC2 := Lib.hid hc2
  have hln : (Fr.cons k1 n1 s1 kd1 (.cons k2 n2 s2 kd2 .nil)).len = 2 := rfl
  rw [hln] at H1
  have HLV := Lib.hid hlv
  unfold maxLen at hcap
  simp only [Fr.len] at hcap1
  clear C1 C2 C3 C4 C5 h hs hv hh hw ht hnd hq0 hpf hif hs3 hG hG' hsk hz1' hz2' hnd1 hnds hrow hv1 hv2 hst hc1 hc2 hln hsmall hs6 hspos hb1 hb2 hlv
  have hb0p : 0 < (⟨(spB s.data.toList).toArray⟩ : ByteArray).size := hbp
  have hb0l : (⟨(spB s.data.toList).toArray⟩ : ByteArray).size ≤ 2 + s.size := by show (spB s.data.toList).length ≤ _; omega
  have HBS : Hid (∀ b : ByteArray, b = ⟨(spB s.data.toList).toArray⟩ → b.data.toList = spB s.data.toList) := Lib.hid (by rintro b rfl; rfl)
  have hbl2 : (⟨(spB s.data.toList).toArray⟩ : ByteArray).size = (spB s.data.toList).length := rfl
  have HBL2 := Lib.hid hbl2
  clear hbl2
  generalize opT false k1 n1 s1 kd1 (lfl (op.level s.data.toList)) = TL at *
  generalize opT true k2 n2 s2 kd2 (op.level s.data.toList - 1) = TR at *
  go_enter Tryd.func20, Tryd.ntmps20
  go_wp2_with fail
  refine H1.out.mono ?_
  rintro e w2 ⟨hb, hr⟩
  rcases hr with ⟨-, -, a, rfl⟩ | ⟨hz, -⟩
  · generalize (⟨(spB s.data.toList).toArray⟩ : ByteArray) = b0 at *
    have hb3 : ∀ (lv : Int), Below w.heap.size w ((w2.alloc (.cells #[.string s, .slice (some ⟨b, 0, none⟩) (2 : Nat) cap] 69)).alloc (.cells #[.string a, .string b0, .int .i64 lv] 38)) := fun lv => (hb.alloc hb.size _).alloc (by have := hb.size; simp; omega) _
    have q4 : ∀ (lv : Int), Blk ((w2.alloc (.cells #[.string s, .slice (some ⟨b, 0, none⟩) (2 : Nat) cap] 69)).alloc (.cells #[.string a, .string b0, .int .i64 lv] 38)) w2.heap.size 69 #[.string s, .slice (some ⟨b, 0, none⟩) (2 : Nat) cap] := fun lv => (Blk.new w2 _ _).alloc _
    have q5 : ∀ (lv : Int), Blk ((w2.alloc (.cells #[.string s, .slice (some ⟨b, 0, none⟩) (2 : Nat) cap] 69)).alloc (.cells #[.string a, .string b0, .int .i64 lv] 38)) (w2.heap.size + 1) 38 #[.string a, .string b0, .int .i64 lv] := fun lv => by
      have h := Blk.new (w2.alloc (.cells #[.string s, .slice (some ⟨b, 0, none⟩) (2 : Nat) cap] 69)) 38 #[.string a, .string b0, .int .i64 lv]
      simpa using h
    have hw2s := hb.size
    generalize op.level s.data.toList = lv at *
    have HB3 := Lib.hid (hb3 lv)
    have HQ4 := Lib.hid (q4 lv)
    have HQ5 := Lib.hid (q5 lv)
    clear hb3 q4 q5 hb
    go_wp2_with fail
    generalize ((w2.alloc (.cells #[.string s, .slice (some ⟨b, 0, none⟩) (2 : Nat) cap] 69)).alloc (.cells #[.string a, .string b0, .int .i64 lv] 38)) = W3 at *
    have htf3 : TF mb w W3 := TF.below HB3.out (Nat.le_of_lt hm0)
    have HTF3 := Lib.hid htf3
    have HW3 := Lib.hid (HW0.out.below HB3.out)
    have hal4 := HQ4.out.lt
    have hal5 := HQ5.out.lt
    have hm3 : mb < W3.heap.size := Nat.lt_of_lt_of_le hm0 HB3.out.size
    have hn4 : w2.heap.size ≠ mb := by omega
    have hn5 : w2.heap.size + 1 ≠ mb := by omega
    have HS : Hid (∀ (x : World), TF mb W3 x → (x.cell? ⟨w2.heap.size, 0, none⟩ = some (.string s) ∧ x.cell? ⟨w2.heap.size, 1, none⟩ = some (.slice (some ⟨b, 0, none⟩) (2 : Nat) cap) ∧ x.cell? ⟨w2.heap.size + 1, 0, none⟩ = some (.string a) ∧ x.cell? ⟨w2.heap.size + 1, 1, none⟩ = some (.string b0) ∧ x.cell? ⟨w2.heap.size + 1, 2, none⟩ = some (.int .i64 lv)) ∧ x.cell? ⟨b, 0, none⟩ = some (.iface T1 x1) ∧ x.cell? ⟨b, 1, none⟩ = some (.iface T2 x2)) := Lib.hid fun x hx => by
      have p4 := hx.blk HQ4.out hn4 (by decide)
      have p5 := hx.blk HQ5.out hn5 (by decide)
      have t := HTF3.out.trans hx
      exact ⟨⟨p4.cell 0, p4.cell 1, p5.cell 0, p5.cell 1, p5.cell 2⟩, (t.1.cell (p := ⟨b, 0, none⟩) hbm).trans HC1.out, (t.1.cell (p := ⟨b, 1, none⟩) hbm).trans HC2.out⟩
    obtain ⟨⟨y0, y1, y2, y3, y4⟩, y5, y6⟩ := HS.out W3 (TF.refl _ _)
    clear htf3
    go_region_held3 (fun x => x.cell? ⟨w2.heap.size, 0, none⟩ = some (.string s) ∧ x.cell? ⟨w2.heap.size, 1, none⟩ = some (.slice (some ⟨b, 0, none⟩) (2 : Nat) cap) ∧ x.cell? ⟨w2.heap.size + 1, 0, none⟩ = some (.string a) ∧ x.cell? ⟨w2.heap.size + 1, 1, none⟩ = some (.string b0) ∧ x.cell? ⟨w2.heap.size + 1, 2, none⟩ = some (.int .i64 lv) ∧ x.cell? ⟨b, 0, none⟩ = some (.iface T1 x1) ∧ x.cell? ⟨b, 1, none⟩ = some (.iface T2 x2))
      (first | exact ⟨q0, q1, q2, q3, q4, q5, q6⟩ | exact ⟨z0, z1, z2, z3, z4, z5, z6⟩ | exact ⟨y0, y1, y2, y3, y4, y5, y6⟩)
      (first
        | (go_at_call 16
           refine (H4.out _ _ _).mono ?_
           rintro e w4 ⟨rfl, hb4⟩
           have hd4 : Below W3.heap.size W3 w4 := (Below.refl W3.heap.size W3).drew.trans hb4
           have htf4 : TF mb W3 w4 := TF.below hd4 (Nat.le_of_lt hm3)
           obtain ⟨⟨z0, z1, z2, z3, z4⟩, z5, z6⟩ := HS.out w4 htf4
           have HTF4 := Lib.hid htf4
           have HW4 := Lib.hid (HW3.out.below hd4)
           clear hb4 hd4 htf4)
        | (go_at_call 30
           refine (H2.out _ (HTF3.out.trans HTF4.out) HW4.out).mono ?_
           rintro e w5 ⟨rfl, hw5, htf5⟩
           obtain ⟨⟨q0, q1, q2, q3, q4⟩, q5, q6⟩ := HS.out w5 (HTF4.out.trans htf5)
           have HTF5 := Lib.hid (HTF4.out.trans htf5)
           have HW5 := Lib.hid hw5
           clear hw5 htf5))
    have hbsl : (bs ++ TL).length + b0.size ≤ 1073741824 := by rw [List.length_append, HBL2.out]; omega
    have hb0e : b0.data.toList = spB s.data.toList := HBS.out b0 rfl
    have HBE := Lib.hid hb0e
    generalize hB1 : bs ++ TL = B1 at *
    have HB1 := Lib.hid hB1
    have hm5 : mb < w5.heap.size := Nat.lt_of_lt_of_le hm3 HTF5.out.1.size
    have hl4 : w2.heap.size < w5.heap.size := Nat.lt_of_lt_of_le hal4 HTF5.out.1.size
    have hl5 : w2.heap.size + 1 < w5.heap.size := Nat.lt_of_lt_of_le hal5 HTF5.out.1.size
    obtain ⟨tv5, hq5, ho5⟩ := HW5.out
    obtain ⟨A5, c5, rfl, _, _⟩ := row_form ho5
    have p05 := hq5.cell 0
    have pf5 := hq5.frozen 0
    simp only [List.getElem?_toArray, List.getElem?_cons_zero] at p05
    have HO5 := Lib.hid ho5
    have HQ5' := Lib.hid hq5
    clear hq5 ho5 hB1 hb0e z0 z1 z2 z3 z4 z5 z6 y0 y1 y2 y3 y4 y5 y6
    go_wp2_with fail
    go_region_law
      (first
        | (refine step_append_str (w5.drew) (by rfl) _ _ _ _ (by rfl) (mb + 1) 5 i0 Tryd.underlying22 Tryd.underlying9 hi0 hz0 hz1 hz2 _ B1.length (Lib.byteCells B1) (by rfl) HO5.out.drew b0 (by rfl) hb0p (by unfold maxLen; omega) (by omega) (by show mb + 1 ≤ w5.heap.size; omega) ?_
           intro g6 cap6 w6 hown6 hgrow6
           have hst6 := TW.step (add := b0.data.toList) HQ5'.out HO5.out (Below.refl w5.heap.size w5).drew hgrow6 hown6
           have y6 := hst6.2.2.cell 0
           have yf6 := hst6.2.2.frozen 0
           simp only [List.getElem?_toArray, List.getElem?_cons_zero] at y6
           have HS6 := Lib.hid (And.intro hst6.1 hst6.2.1)
           clear hown6 hgrow6 hst6))
    all_goals
      have HX6 : Hid (TW ob mb (B1 ++ b0.data.toList) (w6.setCell ⟨mb, 0, none⟩ (.slice (some ⟨g6, 0, none⟩) (B1.length + b0.size) cap6)) ∧ TF mb w5 (w6.setCell ⟨mb, 0, none⟩ (.slice (some ⟨g6, 0, none⟩) (B1.length + b0.size) cap6))) := HS6
      clear HS6 y6 yf6 p05 pf5 q0 q1 q2 q3 q4 q5 q6
      generalize w6.setCell ⟨mb, 0, none⟩ (.slice (some ⟨g6, 0, none⟩) (B1.length + b0.size) cap6) = W6 at *
      have htf6 : TF mb W3 W6 := HTF5.out.trans HX6.out.2
      obtain ⟨⟨y0, y1, y2, y3, y4⟩, y5, y6⟩ := HS.out W6 htf6
      have HTF6 := Lib.hid htf6
      have hm6 : mb < W6.heap.size := Nat.lt_of_lt_of_le hm3 htf6.1.size
      have hk4 : w2.heap.size < W6.heap.size := Nat.lt_of_lt_of_le hal4 htf6.1.size
      have hk5 : w2.heap.size + 1 < W6.heap.size := Nat.lt_of_lt_of_le hal5 htf6.1.size
      have hb6l : (B1 ++ b0.data.toList).length + TR.length ≤ 1073741824 := by
        have h1 : b0.data.toList.length = b0.size := rfl
        rw [List.length_append, h1, HBL2.out, ← HB1.out, List.length_append]; omega
      have HL6 := Lib.hid hb6l
      clear htf6 hb6l
      go_wp2_with fail
      go_region_held3 (fun x => x.cell? ⟨w2.heap.size, 0, none⟩ = some (.string s) ∧ x.cell? ⟨w2.heap.size, 1, none⟩ = some (.slice (some ⟨b, 0, none⟩) (2 : Nat) cap) ∧ x.cell? ⟨w2.heap.size + 1, 0, none⟩ = some (.string a) ∧ x.cell? ⟨w2.heap.size + 1, 1, none⟩ = some (.string b0) ∧ x.cell? ⟨w2.heap.size + 1, 2, none⟩ = some (.int .i64 lv) ∧ x.cell? ⟨b, 0, none⟩ = some (.iface T1 x1) ∧ x.cell? ⟨b, 1, none⟩ = some (.iface T2 x2))
        (first | exact ⟨q0, q1, q2, q3, q4, q5, q6⟩ | exact ⟨z0, z1, z2, z3, z4, z5, z6⟩ | exact ⟨y0, y1, y2, y3, y4, y5, y6⟩)
        (first
          | (go_at_call 31
             refine (H5.out _ _ _).mono ?_
             rintro e w7 ⟨rfl, hb7⟩
             have hd7 : Below W6.heap.size W6 w7 := (Below.refl W6.heap.size W6).drew.trans hb7
             have htf7 : TF mb W6 w7 := TF.below hd7 (Nat.le_of_lt hm6)
             obtain ⟨⟨z0, z1, z2, z3, z4⟩, z5, z6⟩ := HS.out w7 (HTF6.out.trans htf7)
             have HTF7 := Lib.hid (HTF6.out.trans htf7)
             have HW7 := Lib.hid (HX6.out.1.below hd7)
             clear hb7 hd7 htf7)
          | (go_at_call 30
             refine (H3.out _ (B1 ++ b0.data.toList) HL6.out (HTF3.out.trans HTF7.out) HW7.out).mono ?_
             rintro e w8 ⟨rfl, hw8, htf8⟩
             obtain ⟨⟨q0, q1, q2, q3, q4⟩, q5, q6⟩ := HS.out w8 (HTF7.out.trans htf8)
             have HTF8 := Lib.hid (HTF7.out.trans htf8)
             have HW8 := Lib.hid hw8
             clear hw8 htf8))
      have HFN : Hid (TW ob mb (bs ++ (TL ++ (spB s.data.toList ++ TR))) w8 ∧ TF mb w w8) := Lib.hid ⟨by
        have e : bs ++ (TL ++ (spB s.data.toList ++ TR)) = B1 ++ b0.data.toList ++ TR := by rw [HBE.out, ← HB1.out]; simp
        rw [e]; exact HW8.out, HTF3.out.trans HTF8.out⟩
      go_wp2_with fail
      go_end0
      exact ⟨rfl, HFN.out⟩
  · exact absurd (hz rfl) (by have := HLV.out; omega)

theorem written_of (s : ByteArray) (f : Fr) (h : ∀ s' f', f'.size < f.size → OwC s' f') : OwC s f := by
  intro k n d v lo hi ob mb bs w hs hv hh hw hl ht hnd
  have hsz : s.size ≤ maxLen := by
    have := (smF_shape (.cons k n s f .nil) d (by rw [shapeF_cons, hs]; rfl)).1.1
    unfold maxLen; omega
  cases hi0 : infB k s f.len
  · exact written_plain s f h k n d v lo hi ob mb bs w hi0 hs hsz hv hh hw (by omega) ht hnd
  · obtain ⟨rfl, hlv, _⟩ := inf_kids hi0
    have hp : pairB 3 s f.len = false := by
      cases hp : pairB 3 s f.len
      · rfl
      · have hd := (pairB_len hp).2.2
        unfold dotB at hd
        rw [beq_iff_eq] at hd
        rw [hd] at hlv
        exact absurd hlv (by decide)
    exact written_inf n s f hp hi0 h d v lo hi ob mb bs w hs hv hh hw hl ht hnd
theorem ow_all (N : Nat) : ∀ (s : ByteArray) (f : Fr), f.size ≤ N → OwC s f := by
  induction N with
  | zero => exact fun s f hf => written_of s f fun s' f' h => by omega
  | succ N ih => exact fun s f hf => written_of s f fun s' f' h => ih s' f' (by omega)
end Go.Proofs.YtkgapidhoeegmaaDoor.wr

/- impl.newOpWriter, impl.WriteTerm. Condition: the term lies in memory, the tables of signs, of operators and of powers of ten in their variables. -/
namespace Go.Proofs.YtkgapidhoeegmaaDoor.wr
open Go.RowKit

set_option maxRecDepth 100000 in
set_option maxHeartbeats 2000000 in
/-- impl.newOpWriter. -/
theorem newW_any (w : World) (ho : op.OpTab w) :
    Calls Tryd.prog 19 #[] w fun e w' => ∃ mb, e = .returned (.pointer (some ⟨mb, 0, none⟩)) ∧ w.heap.size < mb ∧ Blk w' mb 54 #[.slice none 0 0, fW mb, .map (some w.heap.size)] ∧ op.OpM w' w.heap.size ∧ Below w.heap.size w w' := by
  have C1 := op.table2_any w ho
  have H1 := Lib.hid C1
  have hmf : ∀ (fn : Fn) (first cap : Array Value) (w : World), (Instr.makeFunc fn first cap).run Tryd.prog w = .ok (.func fn first cap) w := fun _ _ _ _ => rfl
  clear C1 ho
  go_enter Tryd.func19, Tryd.ntmps19
  go_wp2_with fail
  refine H1.out.mono ?_
  rintro e w2 ⟨rfl, hm, hb⟩
  have hl2 : w.heap.size < w2.heap.size := World.ownsMap.lt hm
  have HM := Lib.hid hm
  have HB := Lib.hid hb
  clear hm hb
  go_wp2_with fail
  go_ret
  refine ⟨w2.heap.size, rfl, hl2, ?_, ?_, ?_⟩
  · first
      | exact Blk.new w2 _ _
      | (have h := (Blk.new w2 54 #[.slice none 0 0, .nilFunc, .map (some w.heap.size)]).set_ 1 (fW w2.heap.size)
         simpa using h)
  · first
      | exact HM.out.alloc _
      | exact OpM_keep (HM.out.alloc _) (((Below.refl _ _).setCell (Nat.le_refl _) _).mono (Nat.le_refl _)) hl2
  · first
      | exact HB.out.alloc HB.out.size _
      | exact (HB.out.alloc HB.out.size _).setCell HB.out.size _

set_option maxRecDepth 100000 in
set_option maxHeartbeats 2000000 in
/-- impl.WriteTerm. -/
theorem implWr_any (k n : Int) (s : ByteArray) (f : Fr) (A : Option Addr) (cap lo hi : Nat) (w : World) (hk : KidsAt w lo hi f A cap) (hh : hi ≤ w.heap.size) (hf : Fits k n s) (hnd : nodes f ≤ 1048576) (ht : nv.Tab w) (ho : op.OpTab w) (hp : Lib.TabIs Tryd.prog w "internal/strconv.uint64pow10" .u64 Lib.pow10Tab) :
    Calls Tryd.prog 8 #[.agg #[.int .i64 k, .int .i64 n, .string s, .slice A f.len cap]] w fun e w' => e = .returned (.string ⟨(wrB k n s f).toArray⟩) ∧ Below w.heap.size w w' := by
  have hb0 : Below w.heap.size w (w.alloc (.cells #[.int .i64 k, .int .i64 n, .string s, .slice A f.len cap] 28)) := (Below.refl _ _).alloc (Nat.le_refl _) _
  have C1 := nodeOf_any k n s f A cap lo hi _ (hk.below hb0 hh) (Nat.le_trans hh hb0.size) hf hnd (ht.below hb0)
  have HE : Hid (wrB k n s f = if validT k n s f = true then txT k n s f else []) := Lib.hid rfl
  have H1 := Lib.hid C1
  have HB0 := Lib.hid hb0
  have HP := Lib.hid (Lib.tabBelow_of_tabIs hp)
  have HO := Lib.hid ho
  have HND := Lib.hid hnd
  clear C1 hk hf hnd ht hb0 hp hh ho
  go_enter Tryd.func8, Tryd.ntmps8
  go_wp2_with fail
  refine H1.out.mono ?_
  rintro e w2 ⟨hb, hr⟩
  have hb2 := HB0.out.trans (hb.mono HB0.out.size)
  rcases hr with ⟨hok, v, rfl, hv⟩ | ⟨hok, rfl⟩
  · have hs : shapeT k n s f 30 = true := by unfold validT at hok; rw [Bool.and_eq_true] at hok; exact hok.1
    have HV : Hid (wrB k n s f = txT k n s f) := Lib.hid (by rw [HE.out, hok]; rfl)
    have hl := (txT_shape hs).1
    have hlt : (txT k n s f).length ≤ 1073741824 := by have := HND.out; omega
    have hpos := txT_ne hs
    have C2 := newW_any w2 (HO.out.below hb2)
    have C3 := fun (mb : Nat) (W : World) (hm : w2.heap.size < mb) (hq : Blk W mb 54 #[.slice none 0 0, fW mb, .map (some w2.heap.size)]) (hom : op.OpM W w2.heap.size) (hb : Below w2.heap.size w2 W) =>
      ow_all f.size s f (Nat.le_refl _) k n 30 v _ w2.heap.size w2.heap.size mb [] W hs (hv.keep (fun p _ hp => hb.cell hp) (Nat.le_refl _) (Nat.le_refl _)) (Nat.le_of_lt hm) ⟨_, hq, World.ownsRow_nil _ _ _ _⟩ (by simpa using hlt) ⟨fun w' hb' => HP.out w' ((hb2.trans (hb.mono hb2.size)).trans (hb'.mono (by have := hb2.size; omega))), hm, hom⟩ HND.out
    obtain ⟨T0, x0, rfl⟩ := hv.iface
    have H2 := Lib.hid C2
    have H3 := Lib.hid C3
    have HB2 := Lib.hid hb2
    have HPOS := Lib.hid hpos
    clear hok hs hl hv hb hb2 C2 C3 H1 hpos
    go_wp2_with fail
    refine H2.out.mono ?_
    rintro e w3 ⟨mb, rfl, hm, hq, hom, hb3⟩
    have C4 := H3.out mb w3 hm hq hom hb3
    have H4 := Lib.hid C4
    have HB3 := Lib.hid (HB2.out.trans (hb3.mono HB2.out.size))
    have hmw : w.heap.size ≤ mb := by have := HB2.out.size; omega
    clear hm hq hom hb3 C4
    go_wp2_with fail
    refine H4.out.mono ?_
    rintro e w4 ⟨rfl, hw4, htf4⟩
    obtain ⟨tv, hq4, ho4⟩ := hw4
    rw [List.nil_append] at ho4
    have HFB : Hid (Below w.heap.size w w4) := Lib.hid (HB3.out.trans (htf4.1.mono hmw))
    have y0 := hq4.cell 0
    simp only [List.getElem?_toArray, List.getElem?_cons_zero] at y0
    clear hq4 htf4
    generalize txT k n s f = L at *
    rcases ho4.2 with ⟨rfl, h0⟩ | ⟨g, cap4, cur, rfl, _⟩
    · exact absurd h0 (by have := HPOS.out; omega)
    · have hcv := run_convert_bytes_back (P := Tryd.prog) w4 22 9 5 ⟨g, 0, none⟩ cap4 L Tryd.underlying22 Tryd.underlying5 Tryd.underlying9 (fun j hj => ho4.cells (g := g) rfl j _ (by simp [Lib.byteCells, hj]))
      clear ho4
      go_wp2_with fail
      go_ret
      rw [HV.out]; exact ⟨rfl, HFB.out⟩
  · have HV : Hid (wrB k n s f = []) := Lib.hid (by rw [HE.out, hok]; rfl)
    have HB2 := Lib.hid hb2
    clear hok hb hb2
    go_wp2_with fail
    go_ret
    rw [HV.out]; exact ⟨rfl, HB2.out⟩
end Go.Proofs.YtkgapidhoeegmaaDoor.wr

/- impl.FormatTerm. Condition: the term lies in memory, the tables of signs and of powers of ten in their variables. -/
namespace Go.Proofs.YtkgapidhoeegmaaDoor
open Go.RowKit

theorem dec_ne (u : Nat) : Lib.decDigits u ≠ [] := by
  by_cases h : u < 10
  · rw [Lib.decDigits_one h]; simp
  · rw [Lib.decDigits.eq_def, dif_neg h]; simp
theorem itoa_ne (n : Int) : Lib.itoa n ≠ [] := by
  unfold Lib.itoa
  split
  · simp
  · exact dec_ne _
theorem txT_ne {k n : Int} {s : ByteArray} {f : Fr} {d : Int} (h : shapeT k n s f d = true) : 0 < (txT k n s f).length := by
  refine List.length_pos_iff.2 ?_
  rcases shapeT_kind3 h with ⟨rfl, _⟩ | ⟨rfl, _⟩ | rfl
  · rw [txT_var]; unfold letB; simp
  · rw [txT_int]; exact itoa_ne n
  · cases hp : pairB 3 s f.len
    · rw [txT_str hp]
      have := name_pos3 (shapeT_struct h).2.1
      simp [this]
    · obtain ⟨k1, n1, s1, kd1, k2, n2, s2, kd2, rfl, _, _⟩ := pair_yes n hp
      rw [txT_pair n hp]; simp

set_option maxRecDepth 100000 in
set_option maxHeartbeats 2000000 in
/-- impl.FormatTerm. -/
theorem implFm_any (k n : Int) (s : ByteArray) (f : Fr) (A : Option Addr) (cap lo hi : Nat) (w : World) (hk : KidsAt w lo hi f A cap) (hh : hi ≤ w.heap.size) (hf : Fits k n s) (hnd : nodes f ≤ 1048576) (ht : nv.Tab w) (hp : Lib.TabIs Tryd.prog w "internal/strconv.uint64pow10" .u64 Lib.pow10Tab) :
    Calls Tryd.prog 12 #[.agg #[.int .i64 k, .int .i64 n, .string s, .slice A f.len cap]] w fun e w' => e = .returned (.string ⟨(fmB k n s f).toArray⟩) ∧ Below w.heap.size w w' := by
  have hb0 : Below w.heap.size w (w.alloc (.cells #[.int .i64 k, .int .i64 n, .string s, .slice A f.len cap] 28)) := (Below.refl _ _).alloc (Nat.le_refl _) _
  have C1 := nodeOf_any k n s f A cap lo hi _ (hk.below hb0 hh) (Nat.le_trans hh hb0.size) hf hnd (ht.below hb0)
  have HE : Hid (fmB k n s f = if validT k n s f = true then txT k n s f else []) := Lib.hid rfl
  have H1 := Lib.hid C1
  have HB0 := Lib.hid hb0
  have HP := Lib.hid (Lib.tabBelow_of_tabIs hp)
  have HND := Lib.hid hnd
  have hmf : ∀ (fn : Fn) (first cap : Array Value) (w : World), (Instr.makeFunc fn first cap).run Tryd.prog w = .ok (.func fn first cap) w := fun _ _ _ _ => rfl
  clear C1 hk hf hnd ht hb0 hp hh
  go_enter Tryd.func12, Tryd.ntmps12
  go_wp2_with fail
  refine H1.out.mono ?_
  rintro e w2 ⟨hb, hr⟩
  have hb2 := HB0.out.trans (hb.mono HB0.out.size)
  rcases hr with ⟨hok, v, rfl, hv⟩ | ⟨hok, rfl⟩
  · have hs : shapeT k n s f 30 = true := by unfold validT at hok; rw [Bool.and_eq_true] at hok; exact hok.1
    have HV : Hid (fmB k n s f = txT k n s f) := Lib.hid (by rw [HE.out, hok]; rfl)
    have hl := (txT_shape hs).1
    have hlt : (txT k n s f).length ≤ 1073741824 := by have := HND.out; omega
    have hpos := txT_ne hs
    have C2 := fun W (hq : Blk W w2.heap.size 52 #[.slice none 0 0, fW w2.heap.size]) (hb : Below w2.heap.size w2 W) => tw_all f.size s f (Nat.le_refl _) k n 30 v _ w2.heap.size w2.heap.size [] W hs (hv.keep (fun p _ hp => hb.cell hp) (Nat.le_refl _) (Nat.le_refl _)) (Nat.le_refl _) ⟨_, hq, World.ownsRow_nil _ _ _ _⟩ (by simpa using hlt) (fun w' hb' => HP.out w' ((hb2.trans (hb.mono hb2.size)).trans (hb'.mono hb2.size))) HND.out
    obtain ⟨T0, x0, rfl⟩ := hv.iface
    have H2 := Lib.hid C2
    have HB2 := Lib.hid hb2
    have HPOS := Lib.hid hpos
    have hnew := Blk.new w2 52 #[.slice none 0 0, fW w2.heap.size]
    have hbn : Below w2.heap.size w2 (w2.alloc (.cells #[.slice none 0 0, fW w2.heap.size] 52)) := (Below.refl _ _).alloc (Nat.le_refl _) _
    have C3 := H2.out _ hnew hbn
    unfold fW at C3 hbn
    have H3 := Lib.hid C3
    have HBN := Lib.hid hbn
    clear hok hs hl hv hb hb2 C2 C3 hnew hbn H1 hpos
    go_wp2_with fail
    refine H3.out.mono ?_
    rintro e w3 ⟨rfl, hw3, htf3⟩
    obtain ⟨tv, hq3, ho3⟩ := hw3
    rw [List.nil_append] at ho3
    have HFB : Hid (Below w.heap.size w w3) := Lib.hid ((HB2.out.trans (HBN.out.mono HB2.out.size)).trans (htf3.1.mono HB2.out.size))
    have y0 := hq3.cell 0
    simp only [List.getElem?_toArray, List.getElem?_cons_zero] at y0
    clear hq3 htf3
    generalize txT k n s f = L at *
    rcases ho3.2 with ⟨rfl, h0⟩ | ⟨g, cap3, cur, rfl, _⟩
    · exact absurd h0 (by have := HPOS.out; omega)
    · have hcv := run_convert_bytes_back (P := Tryd.prog) w3 22 9 5 ⟨g, 0, none⟩ cap3 L Tryd.underlying22 Tryd.underlying5 Tryd.underlying9 (fun j hj => ho3.cells (g := g) rfl j _ (by simp [Lib.byteCells, hj]))
      clear ho3
      go_wp2_with fail
      go_ret
      rw [HV.out]; exact ⟨rfl, HFB.out⟩
  · have HV : Hid (fmB k n s f = []) := Lib.hid (by rw [HE.out, hok]; rfl)
    have HB2 := Lib.hid hb2
    clear hok hb hb2
    go_wp2_with fail
    go_ret
    rw [HV.out]; exact ⟨rfl, HB2.out⟩
end Go.Proofs.YtkgapidhoeegmaaDoor

/- What every law's walk shares. No condition. -/
namespace Go.Proofs.YtkgapidhoeegmaaDoor
open Go.RowKit

theorem nodes_le_wt (f : Fr) : nodes f ≤ f.len + wt f := by
  induction f with
  | nil => exact Nat.le_refl _
  | cons k n s kids rest h1 h2 => simp only [nodes, Fr.len, wt]; omega
theorem kids_of_made {w w' : World} {f : Fr} {A : Option Addr} {cap : Nat} (h : Made w f A cap w') : KidsAt w' w.heap.size w'.heap.size f A cap ∧ Below w.heap.size w w' := by
  obtain ⟨L, ho, _, hL, hb⟩ := h
  exact ⟨ho.kids hL, hb⟩

end Go.Proofs.YtkgapidhoeegmaaDoor

/- The law FnWriteShort, walked. Condition: the code lies in memory, the tables of signs, of operators and of powers of ten in their variables. -/
namespace Go.Proofs.YtkgapidhoeegmaaDoor
open Go.RowKit

set_option maxRecDepth 100000 in
set_option maxHeartbeats 8000000 in
theorem lawPWS_any (A : Option Addr) (len cap : Nat) (w : World) (hb : Bts w w.heap.size A len) (hc : len ≤ cap) (hm : cap ≤ maxLen) (ht : nv.Tab w) (ho : op.OpTab w) (hp : Lib.TabIs Tryd.prog w "internal/strconv.uint64pow10" .u64 Lib.pow10Tab) :
    Calls Tryd.prog 4 #[.slice A len cap] w fun e w' => e = .returned (.bool true) ∧ Below w.heap.size w w' := by
  by_cases h2 : len ≤ 1048576
  · have t0 : ¬ (len : Int) > 1048576 := by omega
    have hlt := tab_lt ht
    have C1 := drawWT_any A len cap w hb hc hm
    have H1 := Lib.hid C1
    have HT := Lib.hid ht
    have HLT := Lib.hid hlt
    have HO := Lib.hid ho
    have HPT := Lib.hid (Lib.tabBelow_of_tabIs hp)
    clear C1 hb hc hm ht hp hlt ho
    go_enter Tryd.func4, Tryd.ntmps4
    go_wp2_with fail
    refine H1.out.mono ?_
    rintro e w2 ⟨k, n, s, f, A1, c1, rfl, hf, hn, ⟨L, o1, hnd, hlm⟩, hb⟩
    have hb0 : Below w2.heap.size w2 (w2.alloc (.cells #[.int .i64 k, .int .i64 n, .string s, .slice A1 f.len c1] 28)) := (Below.refl _ _).alloc (Nat.le_refl _) _
    have q1 := Blk.new w2 28 #[.int .i64 k, .int .i64 n, .string s, .slice A1 f.len c1]
    have HO1 := Lib.hid (o1.below hb0 o1.lt)
    have HB0 := Lib.hid (hb.trans (hb0.mono hb.size))
    have HQ1 := Lib.hid q1
    have HNF := Lib.hid hn
    have HF := Lib.hid hf
    have HSM := Lib.hid (wrB_same k n s f)
    clear hf hn o1 hnd hlm hb hb0 q1 H1
    go_wp2_with fail
    generalize w2.alloc (.cells #[.int .i64 k, .int .i64 n, .string s, .slice A1 f.len c1] 28) = w3 at *
    generalize w2.heap.size = H at *
    have KX := fun wX (hX : Below w3.heap.size w3 wX) => (HO1.out.kids fun x hx => ⟨Nat.zero_le _, HO1.out.lt x hx⟩).below hX (Nat.le_refl _)
    have BX := fun wX (hX : Below w3.heap.size w3 wX) => HB0.out.trans (hX.mono HB0.out.size)
    have C1 := fun wX (hX : Below w3.heap.size w3 wX) => wr.implWr_any k n s f A1 c1 0 w3.heap.size wX (KX wX hX) hX.size HF.out (by have := HNF.out; omega) (tab_below HT.out (BX wX hX) HLT.out) (HO.out.below (BX wX hX)) (HPT.out _ (BX wX hX))
    have C2 := fun wX (hX : Below w3.heap.size w3 wX) => wr.specWr_any k n s f A1 c1 0 w3.heap.size wX (KX wX hX) hX.size HF.out (by have := HNF.out; omega)
    have C3 := fun wX (hX : Below w3.heap.size w3 wX) => pgT_any s f k n A1 c1 0 w3.heap.size wX (KX wX hX) hX.size HF.out (HO.out.below (BX wX hX))
    have C4 := fun wX (hX : Below w3.heap.size w3 wX) => implFm_any k n s f A1 c1 0 w3.heap.size wX (KX wX hX) hX.size HF.out (by have := HNF.out; omega) (tab_below HT.out (BX wX hX) HLT.out) (HPT.out _ (BX wX hX))
    have CELLS : ∀ wX, Below w3.heap.size w3 wX → (wX.cell? ⟨H, 0, none⟩ = some (.int .i64 k) ∧ wX.cell? ⟨H, 1, none⟩ = some (.int .i64 n) ∧ wX.cell? ⟨H, 2, none⟩ = some (.string s) ∧ wX.cell? ⟨H, 3, none⟩ = some (.slice A1 f.len c1)) := fun wX hX => cells4i (HQ1.out.below hX HQ1.out.lt)
    have hsm := HSM.out
    have h1 : ∀ a : List UInt8, ∃ b : ByteArray, b = ⟨a.toArray⟩ ∧ b.toList = a := fun a => ⟨_, rfl, by rw [ByteArray.toList_eq]⟩
    obtain ⟨b1, e1, f1⟩ := h1 (wr.wrB k n s f)
    obtain ⟨b2, e2, f2⟩ := h1 (fmB k n s f)
    rw [← f1, ← f2] at hsm
    rw [← e1] at C1 C2
    rw [← e2] at C4
    generalize opT s f = ov at *
    have HSAY := Lib.hid hsm
    have HC1 := Lib.hid C1
    have HC2 := Lib.hid C2
    have HC3 := Lib.hid C3
    have HC4 := Lib.hid C4
    have HCE := Lib.hid CELLS
    have tv : (b1.toList != b1.toList) = false := by simp
    have tv2 : (b1.toList == b1.toList) = true := by simp
    clear C1 C2 C3 C4 CELLS KX BX h1 e1 e2 f1 f2 hsm HSM HF HNF HO1 HQ1 HPT HT HLT
    generalize f.len = fl at *
    obtain ⟨x0, x1, x2, x3⟩ := HCE.out w3 (Below.refl _ _)
    refine (HC1.out w3 (Below.refl _ _)).mono ?_
    rintro e w4 ⟨rfl, hb⟩
    have HB4 := Lib.hid hb
    clear hb x0 x1 x2 x3
    obtain ⟨x0, x1, x2, x3⟩ := HCE.out w4 HB4.out
    go_wp2_with fail
    refine (HC2.out w4 HB4.out).mono ?_
    rintro e w5 ⟨rfl, hb⟩
    have HB5 := Lib.hid (HB4.out.trans (hb.mono HB4.out.size))
    clear hb x0 x1 x2 x3
    obtain ⟨x0, x1, x2, x3⟩ := HCE.out w5 HB5.out
    by_cases z1 : b1.toList = []
    · have t1 : (b1.toList == []) = true := by rw [z1]; rfl
      clear z1
      go_wp2_with fail
      refine (HC2.out w5 HB5.out).mono ?_
      rintro e w6 ⟨rfl, hb⟩
      have HB6 := Lib.hid (HB0.out.trans ((HB5.out.trans (hb.mono HB5.out.size)).mono HB0.out.size))
      clear hb x0 x1 x2 x3
      go_wp2_with fail
      go_ret
      exact ⟨rfl, HB6.out⟩
    · have t1 : (b1.toList == []) = false := by rw [beq_eq_false_iff_ne]; exact z1
      clear z1
      go_wp2_with fail
      refine (HC3.out w5 HB5.out).mono ?_
      rintro e w6 ⟨rfl, hb⟩
      have HB6 := Lib.hid (HB5.out.trans (hb.mono HB5.out.size))
      clear hb x0 x1 x2 x3
      obtain ⟨x0, x1, x2, x3⟩ := HCE.out w6 HB6.out
      cases ov
      · have t3 : (b1.toList == b2.toList) = true := by rw [HSAY.out rfl]; simp
        go_wp2_with fail
        refine (HC4.out w6 HB6.out).mono ?_
        rintro e w7 ⟨rfl, hb⟩
        have HB7 := Lib.hid (HB0.out.trans ((HB6.out.trans (hb.mono HB6.out.size)).mono HB0.out.size))
        clear hb x0 x1 x2 x3
        go_wp2_with fail
        go_ret
        exact ⟨rfl, HB7.out⟩
      · go_wp2_with fail
        refine (HC2.out w6 HB6.out).mono ?_
        rintro e w7 ⟨rfl, hb⟩
        have HB7 := Lib.hid (HB0.out.trans ((HB6.out.trans (hb.mono HB6.out.size)).mono HB0.out.size))
        clear hb x0 x1 x2 x3
        go_wp2_with fail
        go_ret
        exact ⟨rfl, HB7.out⟩
  · have t0 : (len : Int) > 1048576 := by omega
    clear hb hc hm
    go_enter Tryd.func4, Tryd.ntmps4
    go_wp2_with fail
    go_ret
    exact ⟨rfl, Below.refl _ _⟩
end Go.Proofs.YtkgapidhoeegmaaDoor
