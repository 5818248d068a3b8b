/- The model's texts with operators: spec.l2Text at every term; spec.WriteTerm. Condition: the term lies in memory. -/
import Derived.Test.YtmgfndgmebignaaDoorProg
import Derived.Test.YtmgfndgmebignaaDoorZmWR48
namespace Go.Proofs.YtmgfndgmebignaaDoor.wr
open Go.RowKit

theorem name_pos3 {l : List UInt8} (h : nv.nameB l = true) : l ≠ [] := fun e => by subst e; exact absurd h (by decide)
theorem dec_ne (u : Nat) : Lib.decDigits u ≠ [] := by
  by_cases h : u < 10
  · rw [Lib.decDigits_one h]; simp
  · rw [Lib.decDigits.eq_def, dif_neg h]; simp
theorem itoa_ne (n : Int) : Lib.itoa n ≠ [] := by
  unfold Lib.itoa
  split
  · simp
  · exact dec_ne _
theorem txT_ne {k n : Int} {s : ByteArray} {f : Fr} {d : Int} (h : shapeT k n s f d = true) : 0 < (txT k n s f).length := by
  refine List.length_pos_iff.2 ?_
  rcases shapeT_kind3 h with ⟨rfl, _⟩ | ⟨rfl, _⟩ | rfl
  · rw [txT_var]; unfold letB; simp
  · rw [txT_int]; exact itoa_ne n
  · cases hp : pairB 3 s f.len
    · cases hi : infB 3 s f.len
      · rw [txT_str hp hi]
        have := name_pos3 (shapeT_struct h).2.1
        simp [this]
      · obtain ⟨_, _, k1, n1, s1, kd1, k2, n2, s2, kd2, rfl⟩ := inf_kids hi
        rw [txT_inf hp hi]
        have hs : s.data.toList ≠ [] := name_pos3 (shapeT_struct h).2.1
        have : spB s.data.toList ≠ [] := by
          unfold spB
          split
          · simp
          · exact hs
        simp [this]
    · obtain ⟨k1, n1, s1, kd1, k2, n2, s2, kd2, rfl, _, _⟩ := pair_yes n hp
      rw [txT_pair n hp]; simp
theorem txT_leaf {k n : Int} {s : ByteArray} {f : Fr} (h : k = 1 ∨ k = 2 ∨ k = 3 ∧ f = .nil) : txT k n s f = Go.Proofs.YtmgfndgmebignaaDoor.txT k n s f := by
  rcases h with rfl | rfl | ⟨rfl, rfl⟩
  · rw [txT_var, Go.Proofs.YtmgfndgmebignaaDoor.txT_var]
  · rw [txT_int, Go.Proofs.YtmgfndgmebignaaDoor.txT_int]
  · have h1 : pairB 3 s Fr.nil.len = false := by simp [pairB, Fr.len]
    have h2 : infB 3 s Fr.nil.len = false := by simp [infB, Fr.len]
    rw [txT_str h1 h2, Go.Proofs.YtmgfndgmebignaaDoor.txT_str h1]
    rfl

set_option maxRecDepth 100000 in
set_option maxHeartbeats 4000000 in
/-- spec.l2Text where it hands on to spec.l1Text. -/
theorem txt_leaf (k n : Int) (s : ByteArray) (f : Fr) (h0 : k = 1 ∨ k = 2 ∨ k = 3 ∧ f = .nil) (A : Option Addr) (cap lo hi : Nat) (d : Int) (w : World) (hk : KidsAt w lo hi f A cap) (hh : hi ≤ w.heap.size) (hs : shapeT k n s f d = true) (hnd : nodes f ≤ 1048576) :
    Calls Tryd.prog 11 #[.agg #[.int .i64 k, .int .i64 n, .string s, .slice A f.len cap]] w fun e w' => e = .returned (.string ⟨(txT k n s f).toArray⟩) ∧ Below w.heap.size w w' := by
  have hb0 : Below w.heap.size w (w.alloc (.cells #[.int .i64 k, .int .i64 n, .string s, .slice A f.len cap] 29)) := (Below.refl _ _).alloc (Nat.le_refl _) _
  have hq0 := Blk.new w 29 #[.int .i64 k, .int .i64 n, .string s, .slice A f.len cap]
  obtain ⟨x0, x1, x2, x3⟩ := cells4i hq0
  have hp : pairB k s f.len = false := by
    rcases h0 with rfl | rfl | ⟨rfl, rfl⟩ <;> simp [pairB, Fr.len]
  have hi0 : infB k s f.len = false := by
    rcases h0 with rfl | rfl | ⟨rfl, rfl⟩ <;> simp [infB, Fr.len]
  have C1 := fun w1 => pair_any k n s A f.len cap w1
  have C2 := fun w1 => infix_any k n s A f.len cap w1
  have C3 := fun w1 (hb : Below w.heap.size w w1) => tx_all f.size s f (Nat.le_refl _) k n A cap lo hi d w1 (hk.below hb hh) (Nat.le_trans hh hb.size) hs hnd
  rw [hp] at C1
  rw [hi0] at C2
  rw [txT_leaf h0]
  have HQ := Lib.hid hq0
  have HB0 := Lib.hid hb0
  have H1 := Lib.hid C1
  have H2 := Lib.hid C2
  have H3 := Lib.hid C3
  have h9 : (k == 3) = false ∨ k = 3 ∧ f.len = 0 := by
    rcases h0 with rfl | rfl | ⟨rfl, rfl⟩
    · exact .inl rfl
    · exact .inl rfl
    · exact .inr ⟨rfl, rfl⟩
  clear h0 C1 C2 C3 hk hs hnd hb0 hq0 hh hp hi0
  generalize Go.Proofs.YtmgfndgmebignaaDoor.txT k n s f = T at *
  generalize f.len = len at *
  have back : ∀ w2, Below (w.alloc (.cells #[.int .i64 k, .int .i64 n, .string s, .slice A len cap] 29)).heap.size (w.alloc (.cells #[.int .i64 k, .int .i64 n, .string s, .slice A len cap] 29)) w2 → Below w.heap.size w w2 ∧ Blk w2 w.heap.size 29 #[.int .i64 k, .int .i64 n, .string s, .slice A len cap] := fun w2 hb => ⟨HB0.out.trans (hb.mono HB0.out.size), HQ.out.below hb HQ.out.lt⟩
  have HBK := Lib.hid back
  clear back
  rcases h9 with t0 | ⟨rfl, rfl⟩
  · go_enter Tryd.func11, Tryd.ntmps11
    go_wp2_with fail
    refine (H1.out _).mono ?_
    rintro e w2 ⟨rfl, hb⟩
    obtain ⟨hbw, hq⟩ := HBK.out w2 hb
    clear x0 x1 x2 x3 hb
    obtain ⟨x0, x1, x2, x3⟩ := cells4i hq
    have HB2 := Lib.hid hbw
    have HQ2 := Lib.hid hq
    have hs2 := hq.lt
    clear hq hbw
    go_wp2_with fail
    refine (H2.out _).mono ?_
    rintro e w3 ⟨rfl, hb⟩
    have HB3 := Lib.hid (HB2.out.trans (hb.mono HB2.out.size))
    have hq := HQ2.out.below hb hs2
    clear x0 x1 x2 x3 hb
    obtain ⟨x0, x1, x2, x3⟩ := cells4i hq
    clear hq
    go_wp2_with fail
    refine (H3.out w3 HB3.out).mono ?_
    rintro e w4 ⟨rfl, hb⟩
    have HB4 := Lib.hid (HB3.out.trans (hb.mono HB3.out.size))
    clear hb
    go_wp2_with fail
    go_ret
    exact ⟨rfl, HB4.out⟩
  · go_enter Tryd.func11, Tryd.ntmps11
    go_wp2_with fail
    refine (H1.out _).mono ?_
    rintro e w2 ⟨rfl, hb⟩
    obtain ⟨hbw, hq⟩ := HBK.out w2 hb
    clear x0 x1 x2 x3 hb
    obtain ⟨x0, x1, x2, x3⟩ := cells4i hq
    have HB2 := Lib.hid hbw
    have HQ2 := Lib.hid hq
    have hs2 := hq.lt
    clear hq hbw
    go_wp2_with fail
    refine (H2.out _).mono ?_
    rintro e w3 ⟨rfl, hb⟩
    have HB3 := Lib.hid (HB2.out.trans (hb.mono HB2.out.size))
    have hq := HQ2.out.below hb hs2
    clear x0 x1 x2 x3 hb
    obtain ⟨x0, x1, x2, x3⟩ := cells4i hq
    clear hq
    have t0 : ¬ (0 : Int) < ((0 : Nat) : Int) := by decide
    go_wp2_with fail
    refine (H3.out w3 HB3.out).mono ?_
    rintro e w4 ⟨rfl, hb⟩
    have HB4 := Lib.hid (HB3.out.trans (hb.mono HB3.out.size))
    clear hb
    go_wp2_with fail
    go_ret
    exact ⟨rfl, HB4.out⟩

set_option maxRecDepth 100000 in
set_option maxHeartbeats 8000000 in
/-- spec.l2Text of an operator and its operands. -/
theorem txt_inf (n : Int) (s : ByteArray) (f : Fr) (hpf : pairB 3 s f.len = false) (hif : infB 3 s f.len = true) (h : ∀ s' f', f'.size < f.size → TxC s' f') (A : Option Addr) (cap lo hi : Nat) (d : Int) (w : World) (hk : KidsAt w lo hi f A cap) (hh : hi ≤ w.heap.size) (hs : shapeT 3 n s f d = true) (hnd : nodes f ≤ 1048576) :
    Calls Tryd.prog 11 #[.agg #[.int .i64 3, .int .i64 n, .string s, .slice A f.len cap]] w fun e w' => e = .returned (.string ⟨(txT 3 n s f).toArray⟩) ∧ Below w.heap.size w w' := by
  obtain ⟨_, hlv, k1, n1, s1, kd1, k2, n2, s2, kd2, rfl⟩ := inf_kids hif
  have hG := txT_inf (n := n) (k1 := k1) (n1 := n1) (s1 := s1) (kd1 := kd1) (k2 := k2) (n2 := n2) (s2 := s2) (kd2 := kd2) hpf hif
  have hGl := (txT_shape hs).1
  have hG2 : (txT 3 n s (.cons k1 n1 s1 kd1 (.cons k2 n2 s2 kd2 .nil))).length ≤ 67108864 := by omega
  rw [hG] at hG2
  simp only [List.length_append] at hG2
  rw [hG]
  have hsk := shapeT_kids hs
  rw [shapeF_cons, shapeF_cons, Bool.and_eq_true, Bool.and_eq_true] at hsk
  have hlr := op.level_range s.data.toList
  have hs6 : s.size ≤ 6 := nameB_size (shapeT_struct hs).2.1
  have hz1 : kd1.size < (Fr.cons k1 n1 s1 kd1 (.cons k2 n2 s2 kd2 .nil)).size := by simp only [Fr.size]; omega
  have hz2 : kd2.size < (Fr.cons k1 n1 s1 kd1 (.cons k2 n2 s2 kd2 .nil)).size := by simp only [Fr.size]; omega
  have hnd1 : nodes kd1 ≤ 1048576 ∧ nodes kd2 ≤ 1048576 := by simp only [nodes] at hnd; omega
  obtain ⟨b, o, rfl, hlb, hbb, hrow⟩ := hk.2.2 (by simp [Fr.len])
  obtain ⟨hfit1, A1, cp1, c0, c1, c2, c3, hkid1⟩ := hrow.elem (i := 0) rfl
  obtain ⟨hfit2, A2, cp2, e0, e1, e2, e3, hkid2⟩ := hrow.elem (i := 1) rfl
  simp only [Nat.zero_mul, Nat.one_mul, Nat.add_zero] at c0 c1 c2 c3 e0 e1 e2 e3
  have hlo : b < w.heap.size := Nat.lt_of_lt_of_le hbb hh
  have hcap := hk.2.1
  have hcap2 : 2 ≤ cap := hk.1
  unfold maxLen at hcap
  have hln : (Fr.cons k1 n1 s1 kd1 (.cons k2 n2 s2 kd2 .nil)).len = 2 := rfl
  rw [hln] at hpf hif ⊢
  have hb0 : Below w.heap.size w (w.alloc (.cells #[.int .i64 3, .int .i64 n, .string s, .slice (some ⟨b, o, none⟩) (2 : Nat) cap] 29)) := (Below.refl _ _).alloc (Nat.le_refl _) _
  have hq0 := Blk.new w 29 #[.int .i64 3, .int .i64 n, .string s, .slice (some ⟨b, o, none⟩) (2 : Nat) cap]
  obtain ⟨x0, x1, x2, x3⟩ := cells4i hq0
  have HC : Hid (∀ x, Below w.heap.size w x → x.cell? ⟨b, o, none⟩ = some (.int .i64 k1) ∧ x.cell? ⟨b, o + 1, none⟩ = some (.int .i64 n1) ∧ x.cell? ⟨b, o + 2, none⟩ = some (.string s1) ∧ x.cell? ⟨b, o + 3, none⟩ = some (.slice A1 kd1.len cp1) ∧
      x.cell? ⟨b, o + 4, none⟩ = some (.int .i64 k2) ∧ x.cell? ⟨b, o + 4 + 1, none⟩ = some (.int .i64 n2) ∧ x.cell? ⟨b, o + 4 + 2, none⟩ = some (.string s2) ∧ x.cell? ⟨b, o + 4 + 3, none⟩ = some (.slice A2 kd2.len cp2)) := Lib.hid fun x hb => by
    have all : ∀ i, x.cell? ⟨b, i, none⟩ = w.cell? ⟨b, i, none⟩ := fun i => hb.cell (p := ⟨b, i, none⟩) hlo
    exact ⟨(all _).trans c0, (all _).trans c1, (all _).trans c2, (all _).trans c3, (all _).trans e0, (all _).trans e1, (all _).trans e2, (all _).trans e3⟩
  have C1 := fun w1 => pair_any 3 n s (some ⟨b, o, none⟩) 2 cap w1
  have C2 := fun w1 => infix_any 3 n s (some ⟨b, o, none⟩) 2 cap w1
  have C3 := fun w1 => op.l2_any s w1
  have hlf : 0 ≤ lfl (op.level s.data.toList) ∧ lfl (op.level s.data.toList) ≤ 3 := by unfold lfl; split <;> omega
  have C4 := fun w1 (hb : Below w.heap.size w w1) => left_of s1 kd1 (h s1 kd1 hz1) k1 n1 (lfl (op.level s.data.toList)) hlf A1 cp1 lo hi (d - 1) w1 (hkid1.below hb hh) (Nat.le_trans hh hb.size) hsk.1 hnd1.1
  have C5 := fun w1 (hb : Below w.heap.size w w1) => right_of s2 kd2 (h s2 kd2 hz2) k2 n2 (op.level s.data.toList - 1) (by omega) (txT_ne hsk.2.1) A2 cp2 lo hi (d - 1) w1 (hkid2.below hb hh) (Nat.le_trans hh hb.size) hsk.2.1 hnd1.2
  have C6 := fun w1 => spaced_any s w1 hs6
  rw [hpf] at C1
  rw [hif] at C2
  have HLF : Hid (lfl (op.level s.data.toList) = if op.level s.data.toList = 3 then 2 else op.level s.data.toList) := Lib.hid rfl
  have HQ := Lib.hid hq0
  have HB0 := Lib.hid hb0
  have H1 := Lib.hid C1
  have H2 := Lib.hid C2
  have H3 := Lib.hid C3
  have H4 := Lib.hid C4
  have H5 := Lib.hid C5
  have H6 := Lib.hid C6
  have HSTR := Lib.hid (inf_str (lefT k1 n1 s1 kd1 (lfl (op.level s.data.toList))) (spB s.data.toList) (rigT k2 n2 s2 kd2 (op.level s.data.toList - 1)))
  have hal := hlo
  clear h C1 C2 C3 C4 C5 C6 hk hs hnd hb0 hq0 hh hpf hif hG hGl hsk hz1 hz2 hnd1 hrow hfit1 hfit2 hkid1 hkid2 c0 c1 c2 c3 e0 e1 e2 e3 hlb hbb hln hlf hs6
  generalize lefT k1 n1 s1 kd1 (lfl (op.level s.data.toList)) = TL at *
  generalize spB s.data.toList = TS at *
  generalize rigT k2 n2 s2 kd2 (op.level s.data.toList - 1) = TR at *
  generalize op.level s.data.toList = lv at *
  generalize kd1.len = len1 at *
  generalize kd2.len = len2 at *
  have back : ∀ w2, Below (w.alloc (.cells #[.int .i64 3, .int .i64 n, .string s, .slice (some ⟨b, o, none⟩) (2 : Nat) cap] 29)).heap.size (w.alloc (.cells #[.int .i64 3, .int .i64 n, .string s, .slice (some ⟨b, o, none⟩) (2 : Nat) cap] 29)) w2 → Below w.heap.size w w2 ∧ Blk w2 w.heap.size 29 #[.int .i64 3, .int .i64 n, .string s, .slice (some ⟨b, o, none⟩) (2 : Nat) cap] := fun w2 hb => ⟨HB0.out.trans (hb.mono HB0.out.size), HQ.out.below hb HQ.out.lt⟩
  have HBK := Lib.hid back
  clear back
  have t1 : ¬ 9223372036854775807 < TL.length + TS.length := by omega
  have t2 : ¬ 9223372036854775807 < TL.length + TS.length + TR.length := by omega
  have t3 : IntKind.i64.wrap (lv - 1) = lv - 1 := IntWalk.i64_in _ (by omega)
  have HT3 := Lib.hid t3
  clear t3
  go_enter Tryd.func11, Tryd.ntmps11
  go_wp2_with fail
  refine (H1.out _).mono ?_
  rintro e w2 ⟨rfl, hb⟩
  obtain ⟨hbw, hq⟩ := HBK.out w2 hb
  clear x0 x1 x2 x3 hb
  obtain ⟨x0, x1, x2, x3⟩ := cells4i hq
  have HB2 := Lib.hid hbw
  have HQ2 := Lib.hid hq
  have hs2 := hq.lt
  clear hq hbw
  go_wp2_with fail
  refine (H2.out _).mono ?_
  rintro e w3 ⟨rfl, hb⟩
  have HB3 := Lib.hid (HB2.out.trans (hb.mono HB2.out.size))
  have hq := HQ2.out.below hb hs2
  have HQ3 := Lib.hid hq
  have hs3 := hq.lt
  clear x0 x1 x2 x3 hb
  obtain ⟨x0, x1, x2, x3⟩ := cells4i hq
  obtain ⟨y0, y1, y2, y3, y4, y5, y6, y7⟩ := HC.out w3 HB3.out
  clear hq
  have hal3 : b < w3.heap.size := Nat.lt_trans hal hs3
  have hl3 : lv = 3 ∨ lv ≠ 3 := by omega
  rcases hl3 with rfl | hne
  · rw [if_pos rfl] at HLF
    rw [HLF.out] at H4
    have t4 : ((3 : Int) == 3) = true := rfl
    have t3 := HT3.out
    go_wp2_with (first | (go_at_call 22; refine (H3.out _).mono ?_; rintro e w3 ⟨rfl, rfl⟩) | fail)
    go_region_held3 (fun w' => w'.cell? ⟨w.heap.size, 0, none⟩ = some (.int .i64 3) ∧ w'.cell? ⟨w.heap.size, 1, none⟩ = some (.int .i64 n) ∧ w'.cell? ⟨w.heap.size, 2, none⟩ = some (.string s) ∧ w'.cell? ⟨w.heap.size, 3, none⟩ = some (.slice (some ⟨b, o, none⟩) (2 : Nat) cap) ∧
        w'.cell? ⟨b, o, none⟩ = some (.int .i64 k1) ∧ w'.cell? ⟨b, o + 1, none⟩ = some (.int .i64 n1) ∧ w'.cell? ⟨b, o + 2, none⟩ = some (.string s1) ∧ w'.cell? ⟨b, o + 3, none⟩ = some (.slice A1 len1 cp1) ∧
        w'.cell? ⟨b, o + 4, none⟩ = some (.int .i64 k2) ∧ w'.cell? ⟨b, o + 4 + 1, none⟩ = some (.int .i64 n2) ∧ w'.cell? ⟨b, o + 4 + 2, none⟩ = some (.string s2) ∧ w'.cell? ⟨b, o + 4 + 3, none⟩ = some (.slice A2 len2 cp2))
      (first | exact ⟨q0, q1, q2, q3, q4, q5, q6, q7, q8, q9, q10, q11⟩ | exact ⟨z0, z1, z2, z3, z4, z5, z6, z7, z8, z9, z10, z11⟩ | exact ⟨x0, x1, x2, x3, y0, y1, y2, y3, y4, y5, y6, y7⟩)
      (first
        | (go_at_call 23
           refine (H4.out _ HB3.out.drew).mono ?_
           rintro e w5 ⟨rfl, hb5⟩
           have hd5 : Below w3.heap.size w3 w5 := (Below.refl w3.heap.size w3).drew.trans hb5
           have hb5w : Below w.heap.size w w5 := HB3.out.trans (hd5.mono HB3.out.size)
           obtain ⟨z0, z1, z2, z3⟩ := cells4i (HQ3.out.below hd5 hs3)
           obtain ⟨z4, z5, z6, z7, z8, z9, z10, z11⟩ := HC.out w5 hb5w
           have HB5 := Lib.hid hb5w
           have HQ5 := Lib.hid (HQ3.out.below hd5 hs3)
           have hs5 : w.heap.size < w5.heap.size := Nat.lt_of_lt_of_le hs3 hd5.size
           clear hb5 hd5 hb5w)
        | (go_at_call 24
           refine (H6.out _).mono ?_
           rintro e w5 ⟨rfl, rfl⟩)
        | (go_at_call 25
           refine (H5.out _ HB5.out).mono ?_
           rintro e w6 ⟨rfl, hb6⟩
           have hb6w : Below w.heap.size w w6 := HB5.out.trans (hb6.mono HB5.out.size)
           obtain ⟨q0, q1, q2, q3⟩ := cells4i (HQ5.out.below hb6 hs5)
           obtain ⟨q4, q5, q6, q7, q8, q9, q10, q11⟩ := HC.out w6 hb6w
           have HB6 := Lib.hid hb6w
           clear hb6 hb6w))
    go_wp2_with fail
    go_ret
    exact ⟨congrArg Ending.returned HSTR.out, HB6.out⟩
  · rw [if_neg hne] at HLF
    rw [HLF.out] at H4
    have t4 : (lv == 3) = false := by rw [beq_eq_false_iff_ne]; exact hne
    have t3 := HT3.out
    clear hne
    go_wp2_with (first | (go_at_call 22; refine (H3.out _).mono ?_; rintro e w3 ⟨rfl, rfl⟩) | fail)
    go_region_held3 (fun w' => w'.cell? ⟨w.heap.size, 0, none⟩ = some (.int .i64 3) ∧ w'.cell? ⟨w.heap.size, 1, none⟩ = some (.int .i64 n) ∧ w'.cell? ⟨w.heap.size, 2, none⟩ = some (.string s) ∧ w'.cell? ⟨w.heap.size, 3, none⟩ = some (.slice (some ⟨b, o, none⟩) (2 : Nat) cap) ∧
        w'.cell? ⟨b, o, none⟩ = some (.int .i64 k1) ∧ w'.cell? ⟨b, o + 1, none⟩ = some (.int .i64 n1) ∧ w'.cell? ⟨b, o + 2, none⟩ = some (.string s1) ∧ w'.cell? ⟨b, o + 3, none⟩ = some (.slice A1 len1 cp1) ∧
        w'.cell? ⟨b, o + 4, none⟩ = some (.int .i64 k2) ∧ w'.cell? ⟨b, o + 4 + 1, none⟩ = some (.int .i64 n2) ∧ w'.cell? ⟨b, o + 4 + 2, none⟩ = some (.string s2) ∧ w'.cell? ⟨b, o + 4 + 3, none⟩ = some (.slice A2 len2 cp2))
      (first | exact ⟨q0, q1, q2, q3, q4, q5, q6, q7, q8, q9, q10, q11⟩ | exact ⟨z0, z1, z2, z3, z4, z5, z6, z7, z8, z9, z10, z11⟩ | exact ⟨x0, x1, x2, x3, y0, y1, y2, y3, y4, y5, y6, y7⟩)
      (first
        | (go_at_call 23
           refine (H4.out _ HB3.out.drew).mono ?_
           rintro e w5 ⟨rfl, hb5⟩
           have hd5 : Below w3.heap.size w3 w5 := (Below.refl w3.heap.size w3).drew.trans hb5
           have hb5w : Below w.heap.size w w5 := HB3.out.trans (hd5.mono HB3.out.size)
           obtain ⟨z0, z1, z2, z3⟩ := cells4i (HQ3.out.below hd5 hs3)
           obtain ⟨z4, z5, z6, z7, z8, z9, z10, z11⟩ := HC.out w5 hb5w
           have HB5 := Lib.hid hb5w
           have HQ5 := Lib.hid (HQ3.out.below hd5 hs3)
           have hs5 : w.heap.size < w5.heap.size := Nat.lt_of_lt_of_le hs3 hd5.size
           clear hb5 hd5 hb5w)
        | (go_at_call 24
           refine (H6.out _).mono ?_
           rintro e w5 ⟨rfl, rfl⟩)
        | (go_at_call 25
           refine (H5.out _ HB5.out).mono ?_
           rintro e w6 ⟨rfl, hb6⟩
           have hb6w : Below w.heap.size w w6 := HB5.out.trans (hb6.mono HB5.out.size)
           obtain ⟨q0, q1, q2, q3⟩ := cells4i (HQ5.out.below hb6 hs5)
           obtain ⟨q4, q5, q6, q7, q8, q9, q10, q11⟩ := HC.out w6 hb6w
           have HB6 := Lib.hid hb6w
           clear hb6 hb6w))
    go_wp2_with fail
    go_ret
    exact ⟨congrArg Ending.returned HSTR.out, HB6.out⟩
end Go.Proofs.YtmgfndgmebignaaDoor.wr
