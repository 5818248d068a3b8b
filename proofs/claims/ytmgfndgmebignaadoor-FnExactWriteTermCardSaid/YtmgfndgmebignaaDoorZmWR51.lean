/- opWriter.writeWritten of an operator and its operands; at every node; impl.WriteTerm. Condition: the node lies in memory below the writer and is well-formed; the tables in their places. -/
import Derived.Test.YtmgfndgmebignaaDoorProg
import Derived.Test.YtmgfndgmebignaaDoorZmWR50
namespace Go.Proofs.YtmgfndgmebignaaDoor.wr
open Go.RowKit

theorem spB_pos {s : ByteArray} (h : 0 < s.data.toList.length) : 0 < (spB s.data.toList).length := by
  unfold spB
  split
  · simp
  · exact h
set_option maxRecDepth 100000 in
set_option maxHeartbeats 8000000 in
/-- opWriter.writeWritten of an operator and its operands. -/
theorem written_inf (n : Int) (s : ByteArray) (f : Fr) (hpf : pairB 3 s f.len = false) (hif : infB 3 s f.len = true) (h : ∀ s' f', f'.size < f.size → OwC s' f') (d : Int) (v : Value) (lo hi ob mb : Nat) (bs : List UInt8) (w : World) (hs : shapeT 3 n s f d = true) (hv : NdV w lo hi 3 n s f v) (hh : hi ≤ mb) (hw : TW ob mb bs w) (hl : bs.length + (txT 3 n s f).length ≤ 1073741824) (ht : Pow10 ob mb w) (hnd : nodes f ≤ 1048576) :
    Calls Tryd.prog 15 #[.pointer (some ⟨mb, 0, none⟩), v] w fun e w' => e = .returned (.tuple #[]) ∧ TW ob mb (bs ++ txT 3 n s f) w' ∧ TF mb w w' := by
  obtain ⟨i0, hi0, hz0, hz1, hz2⟩ := info_parts infoU8
  have hm0 : mb < w.heap.size := by obtain ⟨_, hq, _⟩ := hw; exact hq.lt
  obtain ⟨_, hlv, k1, n1, s1, kd1, k2, n2, s2, kd2, rfl⟩ := inf_kids hif
  have hlr := op.level_range s.data.toList
  have hs3 := shapeT_struct hs
  have hs6 : s.size ≤ 6 := nameB_size hs3.2.1
  have hspos : 0 < s.data.toList.length := List.length_pos_iff.2 (name_pos3 hs3.2.1)
  have hbp := spB_pos hspos
  have hbl := spB_len s.data.toList
  have hssz : s.data.toList.length = s.size := rfl
  have hG := txT_inf (n := n) (k1 := k1) (n1 := n1) (s1 := s1) (kd1 := kd1) (k2 := k2) (n2 := n2) (s2 := s2) (kd2 := kd2) hpf hif
  have hsk := shapeT_kids hs
  rw [shapeF_cons, shapeF_cons, Bool.and_eq_true, Bool.and_eq_true] at hsk
  have hz1' : kd1.size < (Fr.cons k1 n1 s1 kd1 (.cons k2 n2 s2 kd2 .nil)).size := by simp only [Fr.size]; omega
  have hz2' : kd2.size < (Fr.cons k1 n1 s1 kd1 (.cons k2 n2 s2 kd2 .nil)).size := by simp only [Fr.size]; omega
  have hnd1 : nodes kd1 ≤ 1048576 ∧ nodes kd2 ≤ 1048576 := by simp only [nodes] at hnd; omega
  have hsmall : ∀ {k n : Int} {s : ByteArray} {f : Fr} {d : Int}, shapeT k n s f d = true → s.size ≤ maxLen := fun {k n s f d} h => by
    have := (smF_shape (.cons k n s f .nil) d (by rw [shapeF_cons, h]; rfl)).1.1
    unfold maxLen; omega
  have hG' : txT 3 n s (.cons k1 n1 s1 kd1 (.cons k2 n2 s2 kd2 .nil)) = opT false k1 n1 s1 kd1 (lfl (op.level s.data.toList)) ++ (spB s.data.toList ++ opT true k2 n2 s2 kd2 (op.level s.data.toList - 1)) := hG
  rw [hG'] at hl ⊢
  simp only [List.length_append] at hl
  have hw' := hw
  obtain ⟨tv0, hq0, _⟩ := hw'
  obtain ⟨A, cap, hst, C1⟩ := named_any 3 n s _ v lo hi ob mb tv0 (fW mb) w hv (by unfold maxLen; omega) hq0 ht.2.2
  obtain ⟨hnds, rfl⟩ := hst rfl
  have hcap := hnds.2.1
  have hcap1 := hnds.1
  obtain ⟨b, rfl, hb1, hb2, hrow⟩ := hnds.2.2 (by simp [Fr.len])
  obtain ⟨v1, hc1, hv1⟩ := hrow.elem (i := 0) rfl
  obtain ⟨v2, hc2, hv2⟩ := hrow.elem (i := 1) rfl
  simp only [Nat.zero_add] at hc1 hc2
  have C2 := fun (w2 : World) (htf : TF mb w w2) (hw2 : TW ob mb bs w2) => opnd_any s1 kd1 (h s1 kd1 hz1') k1 n1 (d - 1) (lfl (op.level s.data.toList)) false v1 lo hi ob mb bs w2 hsk.1 (hsmall hsk.1) (hv1.keep (fun p _ hp => htf.1.cell (by omega)) (Nat.le_refl _) (Nat.le_refl _)) hh hw2 (by omega) (ht.on htf.1) hnd1.1
  have C3 := fun (w2 : World) (bs2 : List UInt8) (hb2 : bs2.length + (opT true k2 n2 s2 kd2 (op.level s.data.toList - 1)).length ≤ 1073741824) (htf : TF mb w w2) (hw2 : TW ob mb bs2 w2) => opnd_any s2 kd2 (h s2 kd2 hz2') k2 n2 (d - 1) (op.level s.data.toList - 1) true v2 lo hi ob mb bs2 w2 hsk.2.1 (hsmall hsk.2.1) (hv2.keep (fun p _ hp => htf.1.cell (by omega)) (Nat.le_refl _) (Nat.le_refl _)) hh hw2 (by omega) (ht.on htf.1) hnd1.2
  have C4 := fun (a b : ByteArray) (w2 : World) => op.left_any a b (op.level s.data.toList) w2
  have C5 := fun (a b : ByteArray) (w2 : World) => rightLv_any a b (op.level s.data.toList) (by omega) w2
  rw [lmin_lfl _ (by omega)] at C4
  obtain ⟨T1, x1, rfl⟩ := hv1.iface
  obtain ⟨T2, x2, rfl⟩ := hv2.iface
  have HW0 := Lib.hid hw
  have H1 := Lib.hid C1
  have H2 := Lib.hid C2
  have H3 := Lib.hid C3
  have H4 := Lib.hid C4
  have H5 := Lib.hid C5
  have hbm : b < mb := by omega
  have HC1 := Lib.hid hc1
  have HC2 := Lib.hid hc2
  have hln : (Fr.cons k1 n1 s1 kd1 (.cons k2 n2 s2 kd2 .nil)).len = 2 := rfl
  rw [hln] at H1
  have HLV := Lib.hid hlv
  unfold maxLen at hcap
  simp only [Fr.len] at hcap1
  clear C1 C2 C3 C4 C5 h hs hv hh hw ht hnd hq0 hpf hif hs3 hG hG' hsk hz1' hz2' hnd1 hnds hrow hv1 hv2 hst hc1 hc2 hln hsmall hs6 hspos hb1 hb2 hlv
  have hb0p : 0 < (⟨(spB s.data.toList).toArray⟩ : ByteArray).size := hbp
  have hb0l : (⟨(spB s.data.toList).toArray⟩ : ByteArray).size ≤ 2 + s.size := by show (spB s.data.toList).length ≤ _; omega
  have HBS : Hid (∀ b : ByteArray, b = ⟨(spB s.data.toList).toArray⟩ → b.data.toList = spB s.data.toList) := Lib.hid (by rintro b rfl; rfl)
  have hbl2 : (⟨(spB s.data.toList).toArray⟩ : ByteArray).size = (spB s.data.toList).length := rfl
  have HBL2 := Lib.hid hbl2
  clear hbl2
  generalize opT false k1 n1 s1 kd1 (lfl (op.level s.data.toList)) = TL at *
  generalize opT true k2 n2 s2 kd2 (op.level s.data.toList - 1) = TR at *
  go_enter Tryd.func15, Tryd.ntmps15
  go_wp2_with fail
  refine H1.out.mono ?_
  rintro e w2 ⟨hb, hr⟩
  rcases hr with ⟨-, -, a, rfl⟩ | ⟨hz, -⟩
  · generalize (⟨(spB s.data.toList).toArray⟩ : ByteArray) = b0 at *
    have hb3 : ∀ (lv : Int), Below w.heap.size w ((w2.alloc (.cells #[.string s, .slice (some ⟨b, 0, none⟩) (2 : Nat) cap] 62)).alloc (.cells #[.string a, .string b0, .int .i64 lv] 64)) := fun lv => (hb.alloc hb.size _).alloc (by have := hb.size; simp; omega) _
    have q4 : ∀ (lv : Int), Blk ((w2.alloc (.cells #[.string s, .slice (some ⟨b, 0, none⟩) (2 : Nat) cap] 62)).alloc (.cells #[.string a, .string b0, .int .i64 lv] 64)) w2.heap.size 62 #[.string s, .slice (some ⟨b, 0, none⟩) (2 : Nat) cap] := fun lv => (Blk.new w2 _ _).alloc _
    have q5 : ∀ (lv : Int), Blk ((w2.alloc (.cells #[.string s, .slice (some ⟨b, 0, none⟩) (2 : Nat) cap] 62)).alloc (.cells #[.string a, .string b0, .int .i64 lv] 64)) (w2.heap.size + 1) 64 #[.string a, .string b0, .int .i64 lv] := fun lv => by
      have h := Blk.new (w2.alloc (.cells #[.string s, .slice (some ⟨b, 0, none⟩) (2 : Nat) cap] 62)) 64 #[.string a, .string b0, .int .i64 lv]
      simpa using h
    have hw2s := hb.size
    generalize op.level s.data.toList = lv at *
    have HB3 := Lib.hid (hb3 lv)
    have HQ4 := Lib.hid (q4 lv)
    have HQ5 := Lib.hid (q5 lv)
    clear hb3 q4 q5 hb
    go_wp2_with fail
    generalize ((w2.alloc (.cells #[.string s, .slice (some ⟨b, 0, none⟩) (2 : Nat) cap] 62)).alloc (.cells #[.string a, .string b0, .int .i64 lv] 64)) = W3 at *
    have htf3 : TF mb w W3 := TF.below HB3.out (Nat.le_of_lt hm0)
    have HTF3 := Lib.hid htf3
    have HW3 := Lib.hid (HW0.out.below HB3.out)
    have hal4 := HQ4.out.lt
    have hal5 := HQ5.out.lt
    have hm3 : mb < W3.heap.size := Nat.lt_of_lt_of_le hm0 HB3.out.size
    have hn4 : w2.heap.size ≠ mb := by omega
    have hn5 : w2.heap.size + 1 ≠ mb := by omega
    have HS : Hid (∀ (x : World), TF mb W3 x → (x.cell? ⟨w2.heap.size, 0, none⟩ = some (.string s) ∧ x.cell? ⟨w2.heap.size, 1, none⟩ = some (.slice (some ⟨b, 0, none⟩) (2 : Nat) cap) ∧ x.cell? ⟨w2.heap.size + 1, 0, none⟩ = some (.string a) ∧ x.cell? ⟨w2.heap.size + 1, 1, none⟩ = some (.string b0) ∧ x.cell? ⟨w2.heap.size + 1, 2, none⟩ = some (.int .i64 lv)) ∧ x.cell? ⟨b, 0, none⟩ = some (.iface T1 x1) ∧ x.cell? ⟨b, 1, none⟩ = some (.iface T2 x2)) := Lib.hid fun x hx => by
      have p4 := hx.blk HQ4.out hn4 (by decide)
      have p5 := hx.blk HQ5.out hn5 (by decide)
      have t := HTF3.out.trans hx
      exact ⟨⟨p4.cell 0, p4.cell 1, p5.cell 0, p5.cell 1, p5.cell 2⟩, (t.1.cell (p := ⟨b, 0, none⟩) hbm).trans HC1.out, (t.1.cell (p := ⟨b, 1, none⟩) hbm).trans HC2.out⟩
    obtain ⟨⟨y0, y1, y2, y3, y4⟩, y5, y6⟩ := HS.out W3 (TF.refl _ _)
    clear htf3
    go_region_held3 (fun x => x.cell? ⟨w2.heap.size, 0, none⟩ = some (.string s) ∧ x.cell? ⟨w2.heap.size, 1, none⟩ = some (.slice (some ⟨b, 0, none⟩) (2 : Nat) cap) ∧ x.cell? ⟨w2.heap.size + 1, 0, none⟩ = some (.string a) ∧ x.cell? ⟨w2.heap.size + 1, 1, none⟩ = some (.string b0) ∧ x.cell? ⟨w2.heap.size + 1, 2, none⟩ = some (.int .i64 lv) ∧ x.cell? ⟨b, 0, none⟩ = some (.iface T1 x1) ∧ x.cell? ⟨b, 1, none⟩ = some (.iface T2 x2))
      (first | exact ⟨q0, q1, q2, q3, q4, q5, q6⟩ | exact ⟨z0, z1, z2, z3, z4, z5, z6⟩ | exact ⟨y0, y1, y2, y3, y4, y5, y6⟩)
      (first
        | (go_at_call 33
           refine (H4.out _ _ _).mono ?_
           rintro e w4 ⟨rfl, hb4⟩
           have hd4 : Below W3.heap.size W3 w4 := (Below.refl W3.heap.size W3).drew.trans hb4
           have htf4 : TF mb W3 w4 := TF.below hd4 (Nat.le_of_lt hm3)
           obtain ⟨⟨z0, z1, z2, z3, z4⟩, z5, z6⟩ := HS.out w4 htf4
           have HTF4 := Lib.hid htf4
           have HW4 := Lib.hid (HW3.out.below hd4)
           clear hb4 hd4 htf4)
        | (go_at_call 32
           refine (H2.out _ (HTF3.out.trans HTF4.out) HW4.out).mono ?_
           rintro e w5 ⟨rfl, hw5, htf5⟩
           obtain ⟨⟨q0, q1, q2, q3, q4⟩, q5, q6⟩ := HS.out w5 (HTF4.out.trans htf5)
           have HTF5 := Lib.hid (HTF4.out.trans htf5)
           have HW5 := Lib.hid hw5
           clear hw5 htf5))
    have hbsl : (bs ++ TL).length + b0.size ≤ 1073741824 := by rw [List.length_append, HBL2.out]; omega
    have hb0e : b0.data.toList = spB s.data.toList := HBS.out b0 rfl
    have HBE := Lib.hid hb0e
    generalize hB1 : bs ++ TL = B1 at *
    have HB1 := Lib.hid hB1
    have hm5 : mb < w5.heap.size := Nat.lt_of_lt_of_le hm3 HTF5.out.1.size
    have hl4 : w2.heap.size < w5.heap.size := Nat.lt_of_lt_of_le hal4 HTF5.out.1.size
    have hl5 : w2.heap.size + 1 < w5.heap.size := Nat.lt_of_lt_of_le hal5 HTF5.out.1.size
    obtain ⟨tv5, hq5, ho5⟩ := HW5.out
    obtain ⟨A5, c5, rfl, _, _⟩ := row_form ho5
    have p05 := hq5.cell 0
    have pf5 := hq5.frozen 0
    simp only [List.getElem?_toArray, List.getElem?_cons_zero] at p05
    have HO5 := Lib.hid ho5
    have HQ5' := Lib.hid hq5
    clear hq5 ho5 hB1 hb0e z0 z1 z2 z3 z4 z5 z6 y0 y1 y2 y3 y4 y5 y6
    go_wp2_with fail
    go_region_law
      (first
        | (refine step_append_str (w5.drew) (by rfl) _ _ _ _ (by rfl) (mb + 1) 5 i0 Tryd.underlying43 Tryd.underlying9 hi0 hz0 hz1 hz2 _ B1.length (Lib.byteCells B1) (by rfl) HO5.out.drew b0 (by rfl) hb0p (by unfold maxLen; omega) (by omega) (by show mb + 1 ≤ w5.heap.size; omega) ?_
           intro g6 cap6 w6 hown6 hgrow6
           have hst6 := TW.step (add := b0.data.toList) HQ5'.out HO5.out (Below.refl w5.heap.size w5).drew hgrow6 hown6
           have y6 := hst6.2.2.cell 0
           have yf6 := hst6.2.2.frozen 0
           simp only [List.getElem?_toArray, List.getElem?_cons_zero] at y6
           have HS6 := Lib.hid (And.intro hst6.1 hst6.2.1)
           clear hown6 hgrow6 hst6))
    all_goals
      have HX6 : Hid (TW ob mb (B1 ++ b0.data.toList) (w6.setCell ⟨mb, 0, none⟩ (.slice (some ⟨g6, 0, none⟩) (B1.length + b0.size) cap6)) ∧ TF mb w5 (w6.setCell ⟨mb, 0, none⟩ (.slice (some ⟨g6, 0, none⟩) (B1.length + b0.size) cap6))) := HS6
      clear HS6 y6 yf6 p05 pf5 q0 q1 q2 q3 q4 q5 q6
      generalize w6.setCell ⟨mb, 0, none⟩ (.slice (some ⟨g6, 0, none⟩) (B1.length + b0.size) cap6) = W6 at *
      have htf6 : TF mb W3 W6 := HTF5.out.trans HX6.out.2
      obtain ⟨⟨y0, y1, y2, y3, y4⟩, y5, y6⟩ := HS.out W6 htf6
      have HTF6 := Lib.hid htf6
      have hm6 : mb < W6.heap.size := Nat.lt_of_lt_of_le hm3 htf6.1.size
      have hk4 : w2.heap.size < W6.heap.size := Nat.lt_of_lt_of_le hal4 htf6.1.size
      have hk5 : w2.heap.size + 1 < W6.heap.size := Nat.lt_of_lt_of_le hal5 htf6.1.size
      have hb6l : (B1 ++ b0.data.toList).length + TR.length ≤ 1073741824 := by
        have h1 : b0.data.toList.length = b0.size := rfl
        rw [List.length_append, h1, HBL2.out, ← HB1.out, List.length_append]; omega
      have HL6 := Lib.hid hb6l
      clear htf6 hb6l
      go_wp2_with fail
      go_region_held3 (fun x => x.cell? ⟨w2.heap.size, 0, none⟩ = some (.string s) ∧ x.cell? ⟨w2.heap.size, 1, none⟩ = some (.slice (some ⟨b, 0, none⟩) (2 : Nat) cap) ∧ x.cell? ⟨w2.heap.size + 1, 0, none⟩ = some (.string a) ∧ x.cell? ⟨w2.heap.size + 1, 1, none⟩ = some (.string b0) ∧ x.cell? ⟨w2.heap.size + 1, 2, none⟩ = some (.int .i64 lv) ∧ x.cell? ⟨b, 0, none⟩ = some (.iface T1 x1) ∧ x.cell? ⟨b, 1, none⟩ = some (.iface T2 x2))
        (first | exact ⟨q0, q1, q2, q3, q4, q5, q6⟩ | exact ⟨z0, z1, z2, z3, z4, z5, z6⟩ | exact ⟨y0, y1, y2, y3, y4, y5, y6⟩)
        (first
          | (go_at_call 34
             refine (H5.out _ _ _).mono ?_
             rintro e w7 ⟨rfl, hb7⟩
             have hd7 : Below W6.heap.size W6 w7 := (Below.refl W6.heap.size W6).drew.trans hb7
             have htf7 : TF mb W6 w7 := TF.below hd7 (Nat.le_of_lt hm6)
             obtain ⟨⟨z0, z1, z2, z3, z4⟩, z5, z6⟩ := HS.out w7 (HTF6.out.trans htf7)
             have HTF7 := Lib.hid (HTF6.out.trans htf7)
             have HW7 := Lib.hid (HX6.out.1.below hd7)
             clear hb7 hd7 htf7)
          | (go_at_call 32
             refine (H3.out _ (B1 ++ b0.data.toList) HL6.out (HTF3.out.trans HTF7.out) HW7.out).mono ?_
             rintro e w8 ⟨rfl, hw8, htf8⟩
             obtain ⟨⟨q0, q1, q2, q3, q4⟩, q5, q6⟩ := HS.out w8 (HTF7.out.trans htf8)
             have HTF8 := Lib.hid (HTF7.out.trans htf8)
             have HW8 := Lib.hid hw8
             clear hw8 htf8))
      have HFN : Hid (TW ob mb (bs ++ (TL ++ (spB s.data.toList ++ TR))) w8 ∧ TF mb w w8) := Lib.hid ⟨by
        have e : bs ++ (TL ++ (spB s.data.toList ++ TR)) = B1 ++ b0.data.toList ++ TR := by rw [HBE.out, ← HB1.out]; simp
        rw [e]; exact HW8.out, HTF3.out.trans HTF8.out⟩
      go_wp2_with fail
      go_end0
      exact ⟨rfl, HFN.out⟩
  · exact absurd (hz rfl) (by have := HLV.out; omega)

theorem written_of (s : ByteArray) (f : Fr) (h : ∀ s' f', f'.size < f.size → OwC s' f') : OwC s f := by
  intro k n d v lo hi ob mb bs w hs hv hh hw hl ht hnd
  have hsz : s.size ≤ maxLen := by
    have := (smF_shape (.cons k n s f .nil) d (by rw [shapeF_cons, hs]; rfl)).1.1
    unfold maxLen; omega
  cases hi0 : infB k s f.len
  · exact written_plain s f h k n d v lo hi ob mb bs w hi0 hs hsz hv hh hw (by omega) ht hnd
  · obtain ⟨rfl, hlv, _⟩ := inf_kids hi0
    have hp : pairB 3 s f.len = false := by
      cases hp : pairB 3 s f.len
      · rfl
      · have hd := (pairB_len hp).2.2
        unfold dotB at hd
        rw [beq_iff_eq] at hd
        rw [hd] at hlv
        exact absurd hlv (by decide)
    exact written_inf n s f hp hi0 h d v lo hi ob mb bs w hs hv hh hw hl ht hnd
theorem ow_all (N : Nat) : ∀ (s : ByteArray) (f : Fr), f.size ≤ N → OwC s f := by
  induction N with
  | zero => exact fun s f hf => written_of s f fun s' f' h => by omega
  | succ N ih => exact fun s f hf => written_of s f fun s' f' h => ih s' f' (by omega)
end Go.Proofs.YtmgfndgmebignaaDoor.wr
