/- The model's texts with operators: spec.l2Text at every term; spec.WriteTerm. Condition: the term lies in memory. -/
import Derived.Test.YtihmgodiiohdnaaGreatDoorProg
import Derived.Test.YtihmgodiiohdnaaGreatDoorZmPP46
import Derived.Test.YtihmgodiiohdnaaGreatDoorOpA
import Derived.Test.YtihmgodiiohdnaaGreatDoorNvWalks
import Derived.Test.YtihmgodiiohdnaaGreatDoorSpecV
import Derived.Test.YtihmgodiiohdnaaGreatDoorSpecC
import Derived.Test.YtihmgodiiohdnaaGreatDoorImplV
import Derived.Test.YtihmgodiiohdnaaGreatDoorTb
import Derived.Test.YtihmgodiiohdnaaGreatDoorAs
import Derived.Test.YtihmgodiiohdnaaGreatDoorZmPP45
import Derived.Test.YtihmgodiiohdnaaGreatDoorSz
import Derived.OwnWalk
import Derived.Test.YtihmgodiiohdnaaGreatDoorAll
namespace Go.Proofs.YtihmgodiiohdnaaGreatDoor.wr
open Go.RowKit

theorem name_pos3 {l : List UInt8} (h : nv.nameB l = true) : l ≠ [] := fun e => by subst e; exact absurd h (by decide)
theorem dec_ne (u : Nat) : Lib.decDigits u ≠ [] := by
  by_cases h : u < 10
  · rw [Lib.decDigits_one h]; simp
  · rw [Lib.decDigits.eq_def, dif_neg h]; simp
theorem itoa_ne (n : Int) : Lib.itoa n ≠ [] := by
  unfold Lib.itoa
  split
  · simp
  · exact dec_ne _
theorem txT_ne {k n : Int} {s : ByteArray} {f : Fr} {d : Int} (h : shapeT k n s f d = true) : 0 < (txT k n s f).length := by
  refine List.length_pos_iff.2 ?_
  rcases shapeT_kind3 h with ⟨rfl, _⟩ | ⟨rfl, _⟩ | rfl
  · rw [txT_var]; unfold letB; simp
  · rw [txT_int]; exact itoa_ne n
  · cases hp : pairB 3 s f.len
    · cases hi : infB 3 s f.len
      · rw [txT_str hp hi]
        have := name_pos3 (shapeT_struct h).2.1
        simp [this]
      · obtain ⟨_, _, k1, n1, s1, kd1, k2, n2, s2, kd2, rfl⟩ := inf_kids hi
        rw [txT_inf hp hi]
        have hs : s.data.toList ≠ [] := name_pos3 (shapeT_struct h).2.1
        have : spB s.data.toList ≠ [] := by
          unfold spB
          split
          · simp
          · exact hs
        simp [this]
    · obtain ⟨k1, n1, s1, kd1, k2, n2, s2, kd2, rfl, _, _⟩ := pair_yes n hp
      rw [txT_pair n hp]; simp
theorem txT_leaf {k n : Int} {s : ByteArray} {f : Fr} (h : k = 1 ∨ k = 2 ∨ k = 3 ∧ f = .nil) : txT k n s f = Go.Proofs.YtihmgodiiohdnaaGreatDoor.txT k n s f := by
  rcases h with rfl | rfl | ⟨rfl, rfl⟩
  · rw [txT_var, Go.Proofs.YtihmgodiiohdnaaGreatDoor.txT_var]
  · rw [txT_int, Go.Proofs.YtihmgodiiohdnaaGreatDoor.txT_int]
  · have h1 : pairB 3 s Fr.nil.len = false := by simp [pairB, Fr.len]
    have h2 : infB 3 s Fr.nil.len = false := by simp [infB, Fr.len]
    rw [txT_str h1 h2, Go.Proofs.YtihmgodiiohdnaaGreatDoor.txT_str h1]
    rfl

set_option maxRecDepth 100000 in
set_option maxHeartbeats 4000000 in
/-- spec.l2Text where it hands on to spec.l1Text. -/
theorem txt_leaf (k n : Int) (s : ByteArray) (f : Fr) (h0 : k = 1 ∨ k = 2 ∨ k = 3 ∧ f = .nil) (A : Option Addr) (cap lo hi : Nat) (d : Int) (w : World) (hk : KidsAt w lo hi f A cap) (hh : hi ≤ w.heap.size) (hs : shapeT k n s f d = true) (hnd : nodes f ≤ 1048576) :
    Calls Tryz.prog 96 #[.agg #[.int .i64 k, .int .i64 n, .string s, .slice A f.len cap]] w fun e w' => e = .returned (.string ⟨(txT k n s f).toArray⟩) ∧ Below w.heap.size w w' := by
  have hb0 : Below w.heap.size w (w.alloc (.cells #[.int .i64 k, .int .i64 n, .string s, .slice A f.len cap] 30)) := (Below.refl _ _).alloc (Nat.le_refl _) _
  have hq0 := Blk.new w 30 #[.int .i64 k, .int .i64 n, .string s, .slice A f.len cap]
  obtain ⟨x0, x1, x2, x3⟩ := cells4i hq0
  have hp : pairB k s f.len = false := by
    rcases h0 with rfl | rfl | ⟨rfl, rfl⟩ <;> simp [pairB, Fr.len]
  have hi0 : infB k s f.len = false := by
    rcases h0 with rfl | rfl | ⟨rfl, rfl⟩ <;> simp [infB, Fr.len]
  have C1 := fun w1 => pair_any k n s A f.len cap w1
  have C2 := fun w1 => infix_any k n s A f.len cap w1
  have C3 := fun w1 (hb : Below w.heap.size w w1) => tx_all f.size s f (Nat.le_refl _) k n A cap lo hi d w1 (hk.below hb hh) (Nat.le_trans hh hb.size) hs hnd
  rw [hp] at C1
  rw [hi0] at C2
  rw [txT_leaf h0]
  have HQ := Lib.hid hq0
  have HB0 := Lib.hid hb0
  have H1 := Lib.hid C1
  have H2 := Lib.hid C2
  have H3 := Lib.hid C3
  have h9 : (k == 3) = false ∨ k = 3 ∧ f.len = 0 := by
    rcases h0 with rfl | rfl | ⟨rfl, rfl⟩
    · exact .inl rfl
    · exact .inl rfl
    · exact .inr ⟨rfl, rfl⟩
  clear h0 C1 C2 C3 hk hs hnd hb0 hq0 hh hp hi0
  generalize Go.Proofs.YtihmgodiiohdnaaGreatDoor.txT k n s f = T at *
  generalize f.len = len at *
  have back : ∀ w2, Below (w.alloc (.cells #[.int .i64 k, .int .i64 n, .string s, .slice A len cap] 30)).heap.size (w.alloc (.cells #[.int .i64 k, .int .i64 n, .string s, .slice A len cap] 30)) w2 → Below w.heap.size w w2 ∧ Blk w2 w.heap.size 30 #[.int .i64 k, .int .i64 n, .string s, .slice A len cap] := fun w2 hb => ⟨HB0.out.trans (hb.mono HB0.out.size), HQ.out.below hb HQ.out.lt⟩
  have HBK := Lib.hid back
  clear back
  rcases h9 with t0 | ⟨rfl, rfl⟩
  · go_enter Tryz.func96, Tryz.ntmps96
    go_wp2_with fail
    refine (H1.out _).mono ?_
    rintro e w2 ⟨rfl, hb⟩
    obtain ⟨hbw, hq⟩ := HBK.out w2 hb
    clear x0 x1 x2 x3 hb
    obtain ⟨x0, x1, x2, x3⟩ := cells4i hq
    have HB2 := Lib.hid hbw
    have HQ2 := Lib.hid hq
    have hs2 := hq.lt
    clear hq hbw
    go_wp2_with fail
    refine (H2.out _).mono ?_
    rintro e w3 ⟨rfl, hb⟩
    have HB3 := Lib.hid (HB2.out.trans (hb.mono HB2.out.size))
    have hq := HQ2.out.below hb hs2
    clear x0 x1 x2 x3 hb
    obtain ⟨x0, x1, x2, x3⟩ := cells4i hq
    clear hq
    go_wp2_with fail
    refine (H3.out w3 HB3.out).mono ?_
    rintro e w4 ⟨rfl, hb⟩
    have HB4 := Lib.hid (HB3.out.trans (hb.mono HB3.out.size))
    clear hb
    go_wp2_with fail
    go_ret
    exact ⟨rfl, HB4.out⟩
  · go_enter Tryz.func96, Tryz.ntmps96
    go_wp2_with fail
    refine (H1.out _).mono ?_
    rintro e w2 ⟨rfl, hb⟩
    obtain ⟨hbw, hq⟩ := HBK.out w2 hb
    clear x0 x1 x2 x3 hb
    obtain ⟨x0, x1, x2, x3⟩ := cells4i hq
    have HB2 := Lib.hid hbw
    have HQ2 := Lib.hid hq
    have hs2 := hq.lt
    clear hq hbw
    go_wp2_with fail
    refine (H2.out _).mono ?_
    rintro e w3 ⟨rfl, hb⟩
    have HB3 := Lib.hid (HB2.out.trans (hb.mono HB2.out.size))
    have hq := HQ2.out.below hb hs2
    clear x0 x1 x2 x3 hb
    obtain ⟨x0, x1, x2, x3⟩ := cells4i hq
    clear hq
    have t0 : ¬ (0 : Int) < ((0 : Nat) : Int) := by decide
    go_wp2_with fail
    refine (H3.out w3 HB3.out).mono ?_
    rintro e w4 ⟨rfl, hb⟩
    have HB4 := Lib.hid (HB3.out.trans (hb.mono HB3.out.size))
    clear hb
    go_wp2_with fail
    go_ret
    exact ⟨rfl, HB4.out⟩

set_option maxRecDepth 100000 in
set_option maxHeartbeats 8000000 in
/-- spec.l2Text of an operator and its operands. -/
theorem txt_inf (n : Int) (s : ByteArray) (f : Fr) (hpf : pairB 3 s f.len = false) (hif : infB 3 s f.len = true) (h : ∀ s' f', f'.size < f.size → TxC s' f') (A : Option Addr) (cap lo hi : Nat) (d : Int) (w : World) (hk : KidsAt w lo hi f A cap) (hh : hi ≤ w.heap.size) (hs : shapeT 3 n s f d = true) (hnd : nodes f ≤ 1048576) :
    Calls Tryz.prog 96 #[.agg #[.int .i64 3, .int .i64 n, .string s, .slice A f.len cap]] w fun e w' => e = .returned (.string ⟨(txT 3 n s f).toArray⟩) ∧ Below w.heap.size w w' := by
  obtain ⟨_, hlv, k1, n1, s1, kd1, k2, n2, s2, kd2, rfl⟩ := inf_kids hif
  have hG := txT_inf (n := n) (k1 := k1) (n1 := n1) (s1 := s1) (kd1 := kd1) (k2 := k2) (n2 := n2) (s2 := s2) (kd2 := kd2) hpf hif
  have hGl := (txT_shape hs).1
  have hG2 : (txT 3 n s (.cons k1 n1 s1 kd1 (.cons k2 n2 s2 kd2 .nil))).length ≤ 67108864 := by omega
  rw [hG] at hG2
  simp only [List.length_append] at hG2
  rw [hG]
  have hsk := shapeT_kids hs
  rw [shapeF_cons, shapeF_cons, Bool.and_eq_true, Bool.and_eq_true] at hsk
  have hlr := op.level_range s.data.toList
  have hs6 : s.size ≤ 6 := nameB_size (shapeT_struct hs).2.1
  have hz1 : kd1.size < (Fr.cons k1 n1 s1 kd1 (.cons k2 n2 s2 kd2 .nil)).size := by simp only [Fr.size]; omega
  have hz2 : kd2.size < (Fr.cons k1 n1 s1 kd1 (.cons k2 n2 s2 kd2 .nil)).size := by simp only [Fr.size]; omega
  have hnd1 : nodes kd1 ≤ 1048576 ∧ nodes kd2 ≤ 1048576 := by simp only [nodes] at hnd; omega
  obtain ⟨b, o, rfl, hlb, hbb, hrow⟩ := hk.2.2 (by simp [Fr.len])
  obtain ⟨hfit1, A1, cp1, c0, c1, c2, c3, hkid1⟩ := hrow.elem (i := 0) rfl
  obtain ⟨hfit2, A2, cp2, e0, e1, e2, e3, hkid2⟩ := hrow.elem (i := 1) rfl
  simp only [Nat.zero_mul, Nat.one_mul, Nat.add_zero] at c0 c1 c2 c3 e0 e1 e2 e3
  have hlo : b < w.heap.size := Nat.lt_of_lt_of_le hbb hh
  have hcap := hk.2.1
  have hcap2 : 2 ≤ cap := hk.1
  unfold maxLen at hcap
  have hln : (Fr.cons k1 n1 s1 kd1 (.cons k2 n2 s2 kd2 .nil)).len = 2 := rfl
  rw [hln] at hpf hif ⊢
  have hb0 : Below w.heap.size w (w.alloc (.cells #[.int .i64 3, .int .i64 n, .string s, .slice (some ⟨b, o, none⟩) (2 : Nat) cap] 30)) := (Below.refl _ _).alloc (Nat.le_refl _) _
  have hq0 := Blk.new w 30 #[.int .i64 3, .int .i64 n, .string s, .slice (some ⟨b, o, none⟩) (2 : Nat) cap]
  obtain ⟨x0, x1, x2, x3⟩ := cells4i hq0
  have HC : Hid (∀ x, Below w.heap.size w x → x.cell? ⟨b, o, none⟩ = some (.int .i64 k1) ∧ x.cell? ⟨b, o + 1, none⟩ = some (.int .i64 n1) ∧ x.cell? ⟨b, o + 2, none⟩ = some (.string s1) ∧ x.cell? ⟨b, o + 3, none⟩ = some (.slice A1 kd1.len cp1) ∧
      x.cell? ⟨b, o + 4, none⟩ = some (.int .i64 k2) ∧ x.cell? ⟨b, o + 4 + 1, none⟩ = some (.int .i64 n2) ∧ x.cell? ⟨b, o + 4 + 2, none⟩ = some (.string s2) ∧ x.cell? ⟨b, o + 4 + 3, none⟩ = some (.slice A2 kd2.len cp2)) := Lib.hid fun x hb => by
    have all : ∀ i, x.cell? ⟨b, i, none⟩ = w.cell? ⟨b, i, none⟩ := fun i => hb.cell (p := ⟨b, i, none⟩) hlo
    exact ⟨(all _).trans c0, (all _).trans c1, (all _).trans c2, (all _).trans c3, (all _).trans e0, (all _).trans e1, (all _).trans e2, (all _).trans e3⟩
  have C1 := fun w1 => pair_any 3 n s (some ⟨b, o, none⟩) 2 cap w1
  have C2 := fun w1 => infix_any 3 n s (some ⟨b, o, none⟩) 2 cap w1
  have C3 := fun w1 => op.l2_any s w1
  have hlf : 0 ≤ lfl (op.level s.data.toList) ∧ lfl (op.level s.data.toList) ≤ 3 := by unfold lfl; split <;> omega
  have C4 := fun w1 (hb : Below w.heap.size w w1) => left_of s1 kd1 (h s1 kd1 hz1) k1 n1 (lfl (op.level s.data.toList)) hlf A1 cp1 lo hi (d - 1) w1 (hkid1.below hb hh) (Nat.le_trans hh hb.size) hsk.1 hnd1.1
  have C5 := fun w1 (hb : Below w.heap.size w w1) => right_of s2 kd2 (h s2 kd2 hz2) k2 n2 (op.level s.data.toList - 1) (by omega) (txT_ne hsk.2.1) A2 cp2 lo hi (d - 1) w1 (hkid2.below hb hh) (Nat.le_trans hh hb.size) hsk.2.1 hnd1.2
  have C6 := fun w1 => spaced_any s w1 hs6
  rw [hpf] at C1
  rw [hif] at C2
  have HLF : Hid (lfl (op.level s.data.toList) = if op.level s.data.toList = 3 then 2 else op.level s.data.toList) := Lib.hid rfl
  have HQ := Lib.hid hq0
  have HB0 := Lib.hid hb0
  have H1 := Lib.hid C1
  have H2 := Lib.hid C2
  have H3 := Lib.hid C3
  have H4 := Lib.hid C4
  have H5 := Lib.hid C5
  have H6 := Lib.hid C6
  have HSTR := Lib.hid (inf_str (lefT k1 n1 s1 kd1 (lfl (op.level s.data.toList))) (spB s.data.toList) (rigT k2 n2 s2 kd2 (op.level s.data.toList - 1)))
  have hal := hlo
  clear h C1 C2 C3 C4 C5 C6 hk hs hnd hb0 hq0 hh hpf hif hG hGl hsk hz1 hz2 hnd1 hrow hfit1 hfit2 hkid1 hkid2 c0 c1 c2 c3 e0 e1 e2 e3 hlb hbb hln hlf hs6
  generalize lefT k1 n1 s1 kd1 (lfl (op.level s.data.toList)) = TL at *
  generalize spB s.data.toList = TS at *
  generalize rigT k2 n2 s2 kd2 (op.level s.data.toList - 1) = TR at *
  generalize op.level s.data.toList = lv at *
  generalize kd1.len = len1 at *
  generalize kd2.len = len2 at *
  have back : ∀ w2, Below (w.alloc (.cells #[.int .i64 3, .int .i64 n, .string s, .slice (some ⟨b, o, none⟩) (2 : Nat) cap] 30)).heap.size (w.alloc (.cells #[.int .i64 3, .int .i64 n, .string s, .slice (some ⟨b, o, none⟩) (2 : Nat) cap] 30)) w2 → Below w.heap.size w w2 ∧ Blk w2 w.heap.size 30 #[.int .i64 3, .int .i64 n, .string s, .slice (some ⟨b, o, none⟩) (2 : Nat) cap] := fun w2 hb => ⟨HB0.out.trans (hb.mono HB0.out.size), HQ.out.below hb HQ.out.lt⟩
  have HBK := Lib.hid back
  clear back
  have t1 : ¬ 9223372036854775807 < TL.length + TS.length := by omega
  have t2 : ¬ 9223372036854775807 < TL.length + TS.length + TR.length := by omega
  have t3 : IntKind.i64.wrap (lv - 1) = lv - 1 := IntWalk.i64_in _ (by omega)
  have HT3 := Lib.hid t3
  clear t3
  go_enter Tryz.func96, Tryz.ntmps96
  go_wp2_with fail
  refine (H1.out _).mono ?_
  rintro e w2 ⟨rfl, hb⟩
  obtain ⟨hbw, hq⟩ := HBK.out w2 hb
  clear x0 x1 x2 x3 hb
  obtain ⟨x0, x1, x2, x3⟩ := cells4i hq
  have HB2 := Lib.hid hbw
  have HQ2 := Lib.hid hq
  have hs2 := hq.lt
  clear hq hbw
  go_wp2_with fail
  refine (H2.out _).mono ?_
  rintro e w3 ⟨rfl, hb⟩
  have HB3 := Lib.hid (HB2.out.trans (hb.mono HB2.out.size))
  have hq := HQ2.out.below hb hs2
  have HQ3 := Lib.hid hq
  have hs3 := hq.lt
  clear x0 x1 x2 x3 hb
  obtain ⟨x0, x1, x2, x3⟩ := cells4i hq
  obtain ⟨y0, y1, y2, y3, y4, y5, y6, y7⟩ := HC.out w3 HB3.out
  clear hq
  have hal3 : b < w3.heap.size := Nat.lt_trans hal hs3
  have hl3 : lv = 3 ∨ lv ≠ 3 := by omega
  rcases hl3 with rfl | hne
  · rw [if_pos rfl] at HLF
    rw [HLF.out] at H4
    have t4 : ((3 : Int) == 3) = true := rfl
    have t3 := HT3.out
    go_wp2_with (first | (go_at_call 51; refine (H3.out _).mono ?_; rintro e w3 ⟨rfl, rfl⟩) | fail)
    go_region_held3 (fun w' => w'.cell? ⟨w.heap.size, 0, none⟩ = some (.int .i64 3) ∧ w'.cell? ⟨w.heap.size, 1, none⟩ = some (.int .i64 n) ∧ w'.cell? ⟨w.heap.size, 2, none⟩ = some (.string s) ∧ w'.cell? ⟨w.heap.size, 3, none⟩ = some (.slice (some ⟨b, o, none⟩) (2 : Nat) cap) ∧
        w'.cell? ⟨b, o, none⟩ = some (.int .i64 k1) ∧ w'.cell? ⟨b, o + 1, none⟩ = some (.int .i64 n1) ∧ w'.cell? ⟨b, o + 2, none⟩ = some (.string s1) ∧ w'.cell? ⟨b, o + 3, none⟩ = some (.slice A1 len1 cp1) ∧
        w'.cell? ⟨b, o + 4, none⟩ = some (.int .i64 k2) ∧ w'.cell? ⟨b, o + 4 + 1, none⟩ = some (.int .i64 n2) ∧ w'.cell? ⟨b, o + 4 + 2, none⟩ = some (.string s2) ∧ w'.cell? ⟨b, o + 4 + 3, none⟩ = some (.slice A2 len2 cp2))
      (first | exact ⟨q0, q1, q2, q3, q4, q5, q6, q7, q8, q9, q10, q11⟩ | exact ⟨z0, z1, z2, z3, z4, z5, z6, z7, z8, z9, z10, z11⟩ | exact ⟨x0, x1, x2, x3, y0, y1, y2, y3, y4, y5, y6, y7⟩)
      (first
        | (go_at_call 109
           refine (H4.out _ HB3.out.drew).mono ?_
           rintro e w5 ⟨rfl, hb5⟩
           have hd5 : Below w3.heap.size w3 w5 := (Below.refl w3.heap.size w3).drew.trans hb5
           have hb5w : Below w.heap.size w w5 := HB3.out.trans (hd5.mono HB3.out.size)
           obtain ⟨z0, z1, z2, z3⟩ := cells4i (HQ3.out.below hd5 hs3)
           obtain ⟨z4, z5, z6, z7, z8, z9, z10, z11⟩ := HC.out w5 hb5w
           have HB5 := Lib.hid hb5w
           have HQ5 := Lib.hid (HQ3.out.below hd5 hs3)
           have hs5 : w.heap.size < w5.heap.size := Nat.lt_of_lt_of_le hs3 hd5.size
           clear hb5 hd5 hb5w)
        | (go_at_call 110
           refine (H6.out _).mono ?_
           rintro e w5 ⟨rfl, rfl⟩)
        | (go_at_call 111
           refine (H5.out _ HB5.out).mono ?_
           rintro e w6 ⟨rfl, hb6⟩
           have hb6w : Below w.heap.size w w6 := HB5.out.trans (hb6.mono HB5.out.size)
           obtain ⟨q0, q1, q2, q3⟩ := cells4i (HQ5.out.below hb6 hs5)
           obtain ⟨q4, q5, q6, q7, q8, q9, q10, q11⟩ := HC.out w6 hb6w
           have HB6 := Lib.hid hb6w
           clear hb6 hb6w))
    go_wp2_with fail
    go_ret
    exact ⟨congrArg Ending.returned HSTR.out, HB6.out⟩
  · rw [if_neg hne] at HLF
    rw [HLF.out] at H4
    have t4 : (lv == 3) = false := by rw [beq_eq_false_iff_ne]; exact hne
    have t3 := HT3.out
    clear hne
    go_wp2_with (first | (go_at_call 51; refine (H3.out _).mono ?_; rintro e w3 ⟨rfl, rfl⟩) | fail)
    go_region_held3 (fun w' => w'.cell? ⟨w.heap.size, 0, none⟩ = some (.int .i64 3) ∧ w'.cell? ⟨w.heap.size, 1, none⟩ = some (.int .i64 n) ∧ w'.cell? ⟨w.heap.size, 2, none⟩ = some (.string s) ∧ w'.cell? ⟨w.heap.size, 3, none⟩ = some (.slice (some ⟨b, o, none⟩) (2 : Nat) cap) ∧
        w'.cell? ⟨b, o, none⟩ = some (.int .i64 k1) ∧ w'.cell? ⟨b, o + 1, none⟩ = some (.int .i64 n1) ∧ w'.cell? ⟨b, o + 2, none⟩ = some (.string s1) ∧ w'.cell? ⟨b, o + 3, none⟩ = some (.slice A1 len1 cp1) ∧
        w'.cell? ⟨b, o + 4, none⟩ = some (.int .i64 k2) ∧ w'.cell? ⟨b, o + 4 + 1, none⟩ = some (.int .i64 n2) ∧ w'.cell? ⟨b, o + 4 + 2, none⟩ = some (.string s2) ∧ w'.cell? ⟨b, o + 4 + 3, none⟩ = some (.slice A2 len2 cp2))
      (first | exact ⟨q0, q1, q2, q3, q4, q5, q6, q7, q8, q9, q10, q11⟩ | exact ⟨z0, z1, z2, z3, z4, z5, z6, z7, z8, z9, z10, z11⟩ | exact ⟨x0, x1, x2, x3, y0, y1, y2, y3, y4, y5, y6, y7⟩)
      (first
        | (go_at_call 109
           refine (H4.out _ HB3.out.drew).mono ?_
           rintro e w5 ⟨rfl, hb5⟩
           have hd5 : Below w3.heap.size w3 w5 := (Below.refl w3.heap.size w3).drew.trans hb5
           have hb5w : Below w.heap.size w w5 := HB3.out.trans (hd5.mono HB3.out.size)
           obtain ⟨z0, z1, z2, z3⟩ := cells4i (HQ3.out.below hd5 hs3)
           obtain ⟨z4, z5, z6, z7, z8, z9, z10, z11⟩ := HC.out w5 hb5w
           have HB5 := Lib.hid hb5w
           have HQ5 := Lib.hid (HQ3.out.below hd5 hs3)
           have hs5 : w.heap.size < w5.heap.size := Nat.lt_of_lt_of_le hs3 hd5.size
           clear hb5 hd5 hb5w)
        | (go_at_call 110
           refine (H6.out _).mono ?_
           rintro e w5 ⟨rfl, rfl⟩)
        | (go_at_call 111
           refine (H5.out _ HB5.out).mono ?_
           rintro e w6 ⟨rfl, hb6⟩
           have hb6w : Below w.heap.size w w6 := HB5.out.trans (hb6.mono HB5.out.size)
           obtain ⟨q0, q1, q2, q3⟩ := cells4i (HQ5.out.below hb6 hs5)
           obtain ⟨q4, q5, q6, q7, q8, q9, q10, q11⟩ := HC.out w6 hb6w
           have HB6 := Lib.hid hb6w
           clear hb6 hb6w))
    go_wp2_with fail
    go_ret
    exact ⟨congrArg Ending.returned HSTR.out, HB6.out⟩
end Go.Proofs.YtihmgodiiohdnaaGreatDoor.wr

/- The model's texts with operators: spec.l2Text at every term; spec.WriteTerm. Condition: the term lies in memory. -/
namespace Go.Proofs.YtihmgodiiohdnaaGreatDoor.wr
open Go.RowKit

set_option maxRecDepth 100000 in
set_option maxHeartbeats 4000000 in
/-- spec.l2Text of a structure with arguments. -/
theorem txt_str (n : Int) (s : ByteArray) (f : Fr) (hpf : pairB 3 s f.len = false) (hif : infB 3 s f.len = false) (hpos : 0 < f.len) (h : ∀ s' f', f'.size < f.size → TxC s' f') (A : Option Addr) (cap lo hi : Nat) (d : Int) (w : World) (hk : KidsAt w lo hi f A cap) (hh : hi ≤ w.heap.size) (hs : shapeT 3 n s f d = true) (hnd : nodes f ≤ 1048576) :
    Calls Tryz.prog 96 #[.agg #[.int .i64 3, .int .i64 n, .string s, .slice A f.len cap]] w fun e w' => e = .returned (.string ⟨(txT 3 n s f).toArray⟩) ∧ Below w.heap.size w w' := by
  have hGl := (txT_shape hs).1
  have hG2 : (txT 3 n s f).length ≤ 67108864 := by omega
  have hG : txT 3 n s f = s.data.toList ++ (40 :: (remB 0 f ++ [41])) := by rw [txT_str hpf hif, argsB_rem, if_neg (by omega)]
  rw [hG] at hG2
  simp only [List.length_append, List.length_cons] at hG2
  have hsz : s.data.toList.length = s.size := rfl
  rw [hG]
  have hb0 : Below w.heap.size w (w.alloc (.cells #[.int .i64 3, .int .i64 n, .string s, .slice A f.len cap] 30)) := (Below.refl _ _).alloc (Nat.le_refl _) _
  have hq0 := Blk.new w 30 #[.int .i64 3, .int .i64 n, .string s, .slice A f.len cap]
  obtain ⟨x0, x1, x2, x3⟩ := cells4i hq0
  have C1 := fun w1 => pair_any 3 n s A f.len cap w1
  have C2 := fun w1 => infix_any 3 n s A f.len cap w1
  have C3 := fun w1 (hb : Below w.heap.size w w1) => args_of f (fun j k n s kids rest hd => h s kids (by have h1 := Fr.size_drop j f; rw [hd] at h1; simp only [Fr.size] at h1; omega)) (d - 1) A cap lo hi w1 (hk.below hb hh) (Nat.le_trans hh hb.size) (shapeT_kids hs) hnd (by omega)
  rw [hpf] at C1
  rw [hif] at C2
  have HQ := Lib.hid hq0
  have HB0 := Lib.hid hb0
  have H1 := Lib.hid C1
  have H2 := Lib.hid C2
  have H3 := Lib.hid C3
  have HSTR := Lib.hid (str_args s (remB 0 f))
  have t0 : (0 : Int) < (f.len : Int) := by omega
  have t1 : ¬ 9223372036854775807 < s.size + 1 := by omega
  have t2 : ¬ 9223372036854775807 < s.size + 1 + (remB 0 f).length := by omega
  have t3 : ¬ 9223372036854775807 < s.size + 1 + (remB 0 f).length + 1 := by omega
  clear h C1 C2 C3 hk hs hnd hb0 hq0 hh hpf hif hG hGl hsz hpos
  generalize remB 0 f = RB at *
  generalize f.len = len at *
  have back : ∀ w2, Below (w.alloc (.cells #[.int .i64 3, .int .i64 n, .string s, .slice A len cap] 30)).heap.size (w.alloc (.cells #[.int .i64 3, .int .i64 n, .string s, .slice A len cap] 30)) w2 → Below w.heap.size w w2 ∧ Blk w2 w.heap.size 30 #[.int .i64 3, .int .i64 n, .string s, .slice A len cap] := fun w2 hb => ⟨HB0.out.trans (hb.mono HB0.out.size), HQ.out.below hb HQ.out.lt⟩
  have HBK := Lib.hid back
  clear back
  go_enter Tryz.func96, Tryz.ntmps96
  go_wp2_with fail
  refine (H1.out _).mono ?_
  rintro e w2 ⟨rfl, hb⟩
  obtain ⟨hbw, hq⟩ := HBK.out w2 hb
  clear x0 x1 x2 x3 hb
  obtain ⟨x0, x1, x2, x3⟩ := cells4i hq
  have HB2 := Lib.hid hbw
  have HQ2 := Lib.hid hq
  have hs2 := hq.lt
  clear hq hbw
  go_wp2_with fail
  refine (H2.out _).mono ?_
  rintro e w3 ⟨rfl, hb⟩
  have HB3 := Lib.hid (HB2.out.trans (hb.mono HB2.out.size))
  have hq := HQ2.out.below hb hs2
  have HQ3 := Lib.hid hq
  have hs3 := hq.lt
  clear x0 x1 x2 x3 hb
  obtain ⟨x0, x1, x2, x3⟩ := cells4i hq
  clear hq
  go_wp2_with fail
  go_region_held3 (fun w' => w'.cell? ⟨w.heap.size, 0, none⟩ = some (.int .i64 3) ∧ w'.cell? ⟨w.heap.size, 1, none⟩ = some (.int .i64 n) ∧ w'.cell? ⟨w.heap.size, 2, none⟩ = some (.string s) ∧ w'.cell? ⟨w.heap.size, 3, none⟩ = some (.slice A len cap))
    (first | exact ⟨z0, z1, z2, z3⟩ | exact ⟨x0, x1, x2, x3⟩)
    (first
      | (go_at_call 112
         refine (H3.out _ HB3.out.drew).mono ?_
         rintro e w5 ⟨rfl, hb5⟩
         have hd5 : Below w3.heap.size w3 w5 := (Below.refl w3.heap.size w3).drew.trans hb5
         obtain ⟨z0, z1, z2, z3⟩ := cells4i (HQ3.out.below hd5 hs3)
         have HB5 := Lib.hid (HB3.out.trans (hd5.mono HB3.out.size))
         clear hb5 hd5))
  go_wp2_with fail
  go_ret
  exact ⟨congrArg Ending.returned HSTR.out, HB5.out⟩

set_option maxRecDepth 100000 in
set_option maxHeartbeats 4000000 in
/-- spec.l2Text of a list. -/
theorem txt_list (n : Int) (s : ByteArray) (f : Fr) (hpf : pairB 3 s f.len = true) (h : ∀ s' f', f'.size < f.size → TxC s' f') (A : Option Addr) (cap lo hi : Nat) (d : Int) (w : World) (hk : KidsAt w lo hi f A cap) (hh : hi ≤ w.heap.size) (hs : shapeT 3 n s f d = true) (hnd : nodes f ≤ 1048576) :
    Calls Tryz.prog 96 #[.agg #[.int .i64 3, .int .i64 n, .string s, .slice A f.len cap]] w fun e w' => e = .returned (.string ⟨(txT 3 n s f).toArray⟩) ∧ Below w.heap.size w w' := by
  have hb0 : Below w.heap.size w (w.alloc (.cells #[.int .i64 3, .int .i64 n, .string s, .slice A f.len cap] 30)) := (Below.refl _ _).alloc (Nat.le_refl _) _
  have hq0 := Blk.new w 30 #[.int .i64 3, .int .i64 n, .string s, .slice A f.len cap]
  obtain ⟨x0, x1, x2, x3⟩ := cells4i hq0
  have hlo : lo ≤ w.heap.size := by
    obtain ⟨b, o, _, h1, h2, _⟩ := hk.2.2 (by have := (pairB_len hpf).1; omega)
    omega
  have C1 := fun w1 => pair_any 3 n s A f.len cap w1
  have C3 := fun w1 (hb : Below w.heap.size w w1) => list_of s f h 3 n A cap lo hi d w1 (hk.below hb hh) (Nat.le_trans hh hb.size) (Nat.le_trans hlo hb.size) hpf hs hnd
  rw [hpf] at C1
  have HQ := Lib.hid hq0
  have HB0 := Lib.hid hb0
  have H1 := Lib.hid C1
  have H3 := Lib.hid C3
  clear h C1 C3 hk hs hnd hb0 hq0 hh hpf hlo
  generalize txT 3 n s f = T at *
  generalize f.len = len at *
  have back : ∀ w2, Below (w.alloc (.cells #[.int .i64 3, .int .i64 n, .string s, .slice A len cap] 30)).heap.size (w.alloc (.cells #[.int .i64 3, .int .i64 n, .string s, .slice A len cap] 30)) w2 → Below w.heap.size w w2 ∧ Blk w2 w.heap.size 30 #[.int .i64 3, .int .i64 n, .string s, .slice A len cap] := fun w2 hb => ⟨HB0.out.trans (hb.mono HB0.out.size), HQ.out.below hb HQ.out.lt⟩
  have HBK := Lib.hid back
  clear back
  go_enter Tryz.func96, Tryz.ntmps96
  go_wp2_with fail
  refine (H1.out _).mono ?_
  rintro e w2 ⟨rfl, hb⟩
  obtain ⟨hbw, hq⟩ := HBK.out w2 hb
  clear x0 x1 x2 x3 hb
  obtain ⟨x0, x1, x2, x3⟩ := cells4i hq
  have HB2 := Lib.hid hbw
  clear hq hbw
  go_wp2_with fail
  refine (H3.out _ HB2.out).mono ?_
  rintro e w3 ⟨rfl, hb⟩
  have HB3 := Lib.hid (HB2.out.trans (hb.mono HB2.out.size))
  clear hb
  go_wp2_with fail
  go_ret
  exact ⟨rfl, HB3.out⟩

theorem txt_of (s : ByteArray) (f : Fr) (h : ∀ s' f', f'.size < f.size → TxC s' f') : TxC s f := by
  intro k n A cap lo hi d w hk hh hs hnd
  rcases shapeT_kind3 hs with ⟨rfl, _⟩ | ⟨rfl, _⟩ | rfl
  · exact txt_leaf 1 n s f (.inl rfl) A cap lo hi d w hk hh hs hnd
  · exact txt_leaf 2 n s f (.inr (.inl rfl)) A cap lo hi d w hk hh hs hnd
  · cases hp : pairB 3 s f.len
    · cases hi1 : infB 3 s f.len
      · by_cases h0 : f.len = 0
        · have hf : f = .nil := by
            cases f with
            | nil => rfl
            | cons _ _ _ _ _ => simp [Fr.len] at h0
          exact txt_leaf 3 n s f (.inr (.inr ⟨rfl, hf⟩)) A cap lo hi d w hk hh hs hnd
        · exact txt_str n s f hp hi1 (by omega) h A cap lo hi d w hk hh hs hnd
      · exact txt_inf n s f hp hi1 h A cap lo hi d w hk hh hs hnd
    · exact txt_list n s f hp h A cap lo hi d w hk hh hs hnd
theorem tx_all (N : Nat) : ∀ (s : ByteArray) (f : Fr), f.size ≤ N → TxC s f := by
  induction N with
  | zero => exact fun s f hf => txt_of s f fun s' f' h => by omega
  | succ N ih => exact fun s f hf => txt_of s f fun s' f' h => ih s' f' (by omega)

/-- What both WriteTerm answer. -/
def wrB (k n : Int) (s : ByteArray) (f : Fr) : List UInt8 := if validT k n s f = true then txT k n s f else []
end Go.Proofs.YtihmgodiiohdnaaGreatDoor.wr

/- IsBuiltin: the model's and the program's; impl.isOperator. Condition: the table of operators lies in its variable. -/
namespace Go.Proofs.YtihmgodiiohdnaaGreatDoor
open Go.RowKit

/-- The goals that are built in: name, number of arguments. -/
def biTab : List (List UInt8 × Int) := [([61], 2), ([92, 61], 2), ([61, 61], 2), ([60], 2), ([62], 2), ([61, 60], 2), ([62, 61], 2), ([61, 58, 61], 2), ([105, 115], 2), ([116, 114, 117, 101], 0), ([102, 97, 105, 108], 0), ([118, 97, 114], 1), ([110, 111, 110, 118, 97, 114], 1), ([97, 116, 111, 109], 1), ([105, 110, 116], 1), ([97, 114, 103], 3)]
def biB (l : List UInt8) (a : Int) : Bool := match biTab.find? (fun r => r.1 == l) with
  | some r => a == r.2
  | none => false
theorem biB_at (r : List UInt8 × Int) (hr : r ∈ biTab) (a : Int) : biB r.1 a = (a == r.2) := by
  simp only [biTab, List.mem_cons, List.not_mem_nil, or_false] at hr
  rcases hr with rfl | rfl | rfl | rfl | rfl | rfl | rfl | rfl | rfl | rfl | rfl | rfl | rfl | rfl | rfl | rfl <;> rfl
theorem biB_no (l : List UInt8) (h : ∀ r ∈ biTab, r.1 ≠ l) (a : Int) : biB l a = false := by
  unfold biB
  rw [List.find?_eq_none.2 (fun r hr => by simpa using h r hr)]

set_option maxRecDepth 100000 in
set_option maxHeartbeats 1000000 in
/-- spec.IsBuiltin. -/
theorem specBi_any (s : ByteArray) (a : Int) (w : World) :
    Calls Tryz.prog 50 #[.string s, .int .i64 a] w fun e w' => e = .returned (.bool (biB s.data.toList a)) ∧ w = w' := by
  have hl := ByteArray.toList_eq s
  by_cases h : ∃ r ∈ biTab, r.1 = s.data.toList
  · obtain ⟨r, hr, hs⟩ := h
    have HV : Hid (biB s.data.toList a = (a == r.2)) := Lib.hid (by rw [← hs]; exact biB_at r hr a)
    rw [← hs] at hl
    clear hs
    simp only [biTab, List.mem_cons, List.not_mem_nil, or_false] at hr
    rcases hr with rfl | rfl | rfl | rfl | rfl | rfl | rfl | rfl | rfl | rfl | rfl | rfl | rfl | rfl | rfl | rfl
    all_goals
      have HL := Lib.hid hl
      clear hl
      have t0 : (s.toList == [61]) = _ := congrArg (fun l => l == ([61] : List UInt8)) HL.out
      have t1 : (s.toList == [92, 61]) = _ := congrArg (fun l => l == ([92, 61] : List UInt8)) HL.out
      have t2 : (s.toList == [61, 61]) = _ := congrArg (fun l => l == ([61, 61] : List UInt8)) HL.out
      have t3 : (s.toList == [60]) = _ := congrArg (fun l => l == ([60] : List UInt8)) HL.out
      have t4 : (s.toList == [62]) = _ := congrArg (fun l => l == ([62] : List UInt8)) HL.out
      have t5 : (s.toList == [61, 60]) = _ := congrArg (fun l => l == ([61, 60] : List UInt8)) HL.out
      have t6 : (s.toList == [62, 61]) = _ := congrArg (fun l => l == ([62, 61] : List UInt8)) HL.out
      have t7 : (s.toList == [61, 58, 61]) = _ := congrArg (fun l => l == ([61, 58, 61] : List UInt8)) HL.out
      have t8 : (s.toList == [105, 115]) = _ := congrArg (fun l => l == ([105, 115] : List UInt8)) HL.out
      have t9 : (s.toList == [116, 114, 117, 101]) = _ := congrArg (fun l => l == ([116, 114, 117, 101] : List UInt8)) HL.out
      have t10 : (s.toList == [102, 97, 105, 108]) = _ := congrArg (fun l => l == ([102, 97, 105, 108] : List UInt8)) HL.out
      have t11 : (s.toList == [118, 97, 114]) = _ := congrArg (fun l => l == ([118, 97, 114] : List UInt8)) HL.out
      have t12 : (s.toList == [110, 111, 110, 118, 97, 114]) = _ := congrArg (fun l => l == ([110, 111, 110, 118, 97, 114] : List UInt8)) HL.out
      have t13 : (s.toList == [97, 116, 111, 109]) = _ := congrArg (fun l => l == ([97, 116, 111, 109] : List UInt8)) HL.out
      have t14 : (s.toList == [105, 110, 116]) = _ := congrArg (fun l => l == ([105, 110, 116] : List UInt8)) HL.out
      have t15 : (s.toList == [97, 114, 103]) = _ := congrArg (fun l => l == ([97, 114, 103] : List UInt8)) HL.out
      go_enter Tryz.func50, Tryz.ntmps50
      go_wp2_with fail
      go_ret
      rw [HV.out]; exact ⟨rfl, rfl⟩
  · have HV : Hid (biB s.data.toList a = false) := Lib.hid (biB_no _ (fun r hr e => h ⟨r, hr, e⟩) a)
    have t0 : (s.toList == [61]) = false := by rw [hl, beq_eq_false_iff_ne]; exact fun e => h ⟨([61], 2), by simp [biTab], e.symm⟩
    have t1 : (s.toList == [92, 61]) = false := by rw [hl, beq_eq_false_iff_ne]; exact fun e => h ⟨([92, 61], 2), by simp [biTab], e.symm⟩
    have t2 : (s.toList == [61, 61]) = false := by rw [hl, beq_eq_false_iff_ne]; exact fun e => h ⟨([61, 61], 2), by simp [biTab], e.symm⟩
    have t3 : (s.toList == [60]) = false := by rw [hl, beq_eq_false_iff_ne]; exact fun e => h ⟨([60], 2), by simp [biTab], e.symm⟩
    have t4 : (s.toList == [62]) = false := by rw [hl, beq_eq_false_iff_ne]; exact fun e => h ⟨([62], 2), by simp [biTab], e.symm⟩
    have t5 : (s.toList == [61, 60]) = false := by rw [hl, beq_eq_false_iff_ne]; exact fun e => h ⟨([61, 60], 2), by simp [biTab], e.symm⟩
    have t6 : (s.toList == [62, 61]) = false := by rw [hl, beq_eq_false_iff_ne]; exact fun e => h ⟨([62, 61], 2), by simp [biTab], e.symm⟩
    have t7 : (s.toList == [61, 58, 61]) = false := by rw [hl, beq_eq_false_iff_ne]; exact fun e => h ⟨([61, 58, 61], 2), by simp [biTab], e.symm⟩
    have t8 : (s.toList == [105, 115]) = false := by rw [hl, beq_eq_false_iff_ne]; exact fun e => h ⟨([105, 115], 2), by simp [biTab], e.symm⟩
    have t9 : (s.toList == [116, 114, 117, 101]) = false := by rw [hl, beq_eq_false_iff_ne]; exact fun e => h ⟨([116, 114, 117, 101], 0), by simp [biTab], e.symm⟩
    have t10 : (s.toList == [102, 97, 105, 108]) = false := by rw [hl, beq_eq_false_iff_ne]; exact fun e => h ⟨([102, 97, 105, 108], 0), by simp [biTab], e.symm⟩
    have t11 : (s.toList == [118, 97, 114]) = false := by rw [hl, beq_eq_false_iff_ne]; exact fun e => h ⟨([118, 97, 114], 1), by simp [biTab], e.symm⟩
    have t12 : (s.toList == [110, 111, 110, 118, 97, 114]) = false := by rw [hl, beq_eq_false_iff_ne]; exact fun e => h ⟨([110, 111, 110, 118, 97, 114], 1), by simp [biTab], e.symm⟩
    have t13 : (s.toList == [97, 116, 111, 109]) = false := by rw [hl, beq_eq_false_iff_ne]; exact fun e => h ⟨([97, 116, 111, 109], 1), by simp [biTab], e.symm⟩
    have t14 : (s.toList == [105, 110, 116]) = false := by rw [hl, beq_eq_false_iff_ne]; exact fun e => h ⟨([105, 110, 116], 1), by simp [biTab], e.symm⟩
    have t15 : (s.toList == [97, 114, 103]) = false := by rw [hl, beq_eq_false_iff_ne]; exact fun e => h ⟨([97, 114, 103], 3), by simp [biTab], e.symm⟩
    clear hl h
    go_enter Tryz.func50, Tryz.ntmps50
    go_wp2_with fail
    go_ret
    rw [HV.out]; exact ⟨rfl, rfl⟩

set_option maxRecDepth 100000 in
set_option maxHeartbeats 1000000 in
/-- impl.IsBuiltin. -/
theorem implBi_any (s : ByteArray) (a : Int) (w : World) :
    Calls Tryz.prog 88 #[.string s, .int .i64 a] w fun e w' => e = .returned (.bool (biB s.data.toList a)) ∧ w = w' := by
  have hl := ByteArray.toList_eq s
  by_cases h : ∃ r ∈ biTab, r.1 = s.data.toList
  · obtain ⟨r, hr, hs⟩ := h
    have HV : Hid (biB s.data.toList a = (a == r.2)) := Lib.hid (by rw [← hs]; exact biB_at r hr a)
    rw [← hs] at hl
    clear hs
    simp only [biTab, List.mem_cons, List.not_mem_nil, or_false] at hr
    rcases hr with rfl | rfl | rfl | rfl | rfl | rfl | rfl | rfl | rfl | rfl | rfl | rfl | rfl | rfl | rfl | rfl
    all_goals
      have HL := Lib.hid hl
      clear hl
      have t0 : (s.toList == [61]) = _ := congrArg (fun l => l == ([61] : List UInt8)) HL.out
      have t1 : (s.toList == [92, 61]) = _ := congrArg (fun l => l == ([92, 61] : List UInt8)) HL.out
      have t2 : (s.toList == [61, 61]) = _ := congrArg (fun l => l == ([61, 61] : List UInt8)) HL.out
      have t3 : (s.toList == [60]) = _ := congrArg (fun l => l == ([60] : List UInt8)) HL.out
      have t4 : (s.toList == [62]) = _ := congrArg (fun l => l == ([62] : List UInt8)) HL.out
      have t5 : (s.toList == [61, 60]) = _ := congrArg (fun l => l == ([61, 60] : List UInt8)) HL.out
      have t6 : (s.toList == [62, 61]) = _ := congrArg (fun l => l == ([62, 61] : List UInt8)) HL.out
      have t7 : (s.toList == [61, 58, 61]) = _ := congrArg (fun l => l == ([61, 58, 61] : List UInt8)) HL.out
      have t8 : (s.toList == [105, 115]) = _ := congrArg (fun l => l == ([105, 115] : List UInt8)) HL.out
      have t9 : (s.toList == [116, 114, 117, 101]) = _ := congrArg (fun l => l == ([116, 114, 117, 101] : List UInt8)) HL.out
      have t10 : (s.toList == [102, 97, 105, 108]) = _ := congrArg (fun l => l == ([102, 97, 105, 108] : List UInt8)) HL.out
      have t11 : (s.toList == [118, 97, 114]) = _ := congrArg (fun l => l == ([118, 97, 114] : List UInt8)) HL.out
      have t12 : (s.toList == [110, 111, 110, 118, 97, 114]) = _ := congrArg (fun l => l == ([110, 111, 110, 118, 97, 114] : List UInt8)) HL.out
      have t13 : (s.toList == [97, 116, 111, 109]) = _ := congrArg (fun l => l == ([97, 116, 111, 109] : List UInt8)) HL.out
      have t14 : (s.toList == [105, 110, 116]) = _ := congrArg (fun l => l == ([105, 110, 116] : List UInt8)) HL.out
      have t15 : (s.toList == [97, 114, 103]) = _ := congrArg (fun l => l == ([97, 114, 103] : List UInt8)) HL.out
      go_enter Tryz.func88, Tryz.ntmps88
      go_wp2_with fail
      go_ret
      rw [HV.out]; exact ⟨rfl, rfl⟩
  · have HV : Hid (biB s.data.toList a = false) := Lib.hid (biB_no _ (fun r hr e => h ⟨r, hr, e⟩) a)
    have t0 : (s.toList == [61]) = false := by rw [hl, beq_eq_false_iff_ne]; exact fun e => h ⟨([61], 2), by simp [biTab], e.symm⟩
    have t1 : (s.toList == [92, 61]) = false := by rw [hl, beq_eq_false_iff_ne]; exact fun e => h ⟨([92, 61], 2), by simp [biTab], e.symm⟩
    have t2 : (s.toList == [61, 61]) = false := by rw [hl, beq_eq_false_iff_ne]; exact fun e => h ⟨([61, 61], 2), by simp [biTab], e.symm⟩
    have t3 : (s.toList == [60]) = false := by rw [hl, beq_eq_false_iff_ne]; exact fun e => h ⟨([60], 2), by simp [biTab], e.symm⟩
    have t4 : (s.toList == [62]) = false := by rw [hl, beq_eq_false_iff_ne]; exact fun e => h ⟨([62], 2), by simp [biTab], e.symm⟩
    have t5 : (s.toList == [61, 60]) = false := by rw [hl, beq_eq_false_iff_ne]; exact fun e => h ⟨([61, 60], 2), by simp [biTab], e.symm⟩
    have t6 : (s.toList == [62, 61]) = false := by rw [hl, beq_eq_false_iff_ne]; exact fun e => h ⟨([62, 61], 2), by simp [biTab], e.symm⟩
    have t7 : (s.toList == [61, 58, 61]) = false := by rw [hl, beq_eq_false_iff_ne]; exact fun e => h ⟨([61, 58, 61], 2), by simp [biTab], e.symm⟩
    have t8 : (s.toList == [105, 115]) = false := by rw [hl, beq_eq_false_iff_ne]; exact fun e => h ⟨([105, 115], 2), by simp [biTab], e.symm⟩
    have t9 : (s.toList == [116, 114, 117, 101]) = false := by rw [hl, beq_eq_false_iff_ne]; exact fun e => h ⟨([116, 114, 117, 101], 0), by simp [biTab], e.symm⟩
    have t10 : (s.toList == [102, 97, 105, 108]) = false := by rw [hl, beq_eq_false_iff_ne]; exact fun e => h ⟨([102, 97, 105, 108], 0), by simp [biTab], e.symm⟩
    have t11 : (s.toList == [118, 97, 114]) = false := by rw [hl, beq_eq_false_iff_ne]; exact fun e => h ⟨([118, 97, 114], 1), by simp [biTab], e.symm⟩
    have t12 : (s.toList == [110, 111, 110, 118, 97, 114]) = false := by rw [hl, beq_eq_false_iff_ne]; exact fun e => h ⟨([110, 111, 110, 118, 97, 114], 1), by simp [biTab], e.symm⟩
    have t13 : (s.toList == [97, 116, 111, 109]) = false := by rw [hl, beq_eq_false_iff_ne]; exact fun e => h ⟨([97, 116, 111, 109], 1), by simp [biTab], e.symm⟩
    have t14 : (s.toList == [105, 110, 116]) = false := by rw [hl, beq_eq_false_iff_ne]; exact fun e => h ⟨([105, 110, 116], 1), by simp [biTab], e.symm⟩
    have t15 : (s.toList == [97, 114, 103]) = false := by rw [hl, beq_eq_false_iff_ne]; exact fun e => h ⟨([97, 114, 103], 3), by simp [biTab], e.symm⟩
    clear hl h
    go_enter Tryz.func88, Tryz.ntmps88
    go_wp2_with fail
    go_ret
    rw [HV.out]; exact ⟨rfl, rfl⟩

/-- An operator's name. -/
def opB (l : List UInt8) : Bool := op.tab.any fun r => r.1 == l
theorem opB_level (l : List UInt8) : opB l = !(op.level l == 0) := by
  unfold opB
  by_cases h : ∃ r ∈ op.tab, r.1 = l
  · obtain ⟨r, hr, rfl⟩ := h
    have h1 : op.level r.1 ≠ 0 := by
      rw [op.level_at r hr]
      have all : ∀ r ∈ op.tab, r.2.2 ≠ 0 := by decide
      exact all r hr
    rw [List.any_eq_true.2 ⟨r, hr, by simp⟩]
    simp [h1]
  · have hn : ∀ r ∈ op.tab, r.1 ≠ l := fun r hr e => h ⟨r, hr, e⟩
    rw [op.level_no l hn]
    rw [show (op.tab.any fun r => r.1 == l) = false by rw [← Bool.not_eq_true, List.any_eq_true]; rintro ⟨r, hr, e⟩; exact hn r hr (by simpa using e)]
    rfl
theorem opB_no (l : List UInt8) (h : ∀ j, j < 14 → (op.nm j).data.toList ≠ l) : opB l = false := by
  unfold opB
  rw [← Bool.not_eq_true, List.any_eq_true]
  rintro ⟨r, hr, e⟩
  obtain ⟨j, hj, rfl⟩ := List.mem_iff_getElem.1 hr
  refine h j hj ?_
  have e' : op.tab[j].1 = l := by simpa using e
  rw [← e']
  simp [op.nm, List.getD, hj]
theorem opB_yes (l : List UInt8) (j : Nat) (hj : j < 14) (h : (op.nm j).data.toList = l) : opB l = true := by
  unfold opB
  have hj' : j < op.tab.length := hj
  refine List.any_eq_true.2 ⟨op.tab[j], List.getElem_mem _, ?_⟩
  rw [← h]
  simp [op.nm, List.getD, hj']

set_option maxRecDepth 100000 in
/-- impl.isOperator. -/
theorem isOp_any (s : ByteArray) (w : World) (ht : op.OpTab w) :
    Calls Tryz.prog 89 #[.string s] w fun e w' => e = .returned (.bool (opB s.data.toList)) ∧ Below w.heap.size w w' := by
  obtain ⟨tt, fr, htab⟩ := ht
  have HT := Lib.hid htab
  have hl := ByteArray.toList_eq s
  have HL := Lib.hid hl
  clear htab hl
  go_enter Tryz.func89, Tryz.ntmps89
  go_wp2_with (refine wpList_load_row rfl 113 _ rfl 0 rfl tt _ fr _ HT.out Tryz.underlying113 rfl (by kernel_rfl) ?_)
  go_loopw [6] (fun i wr => ∃ k : Nat, k ≤ 14 ∧ i = .int .i64 k ∧ (∀ j, j < k → (op.nm j).data.toList ≠ s.data.toList) ∧ Below w.heap.size w wr) (fun i _ => 14 - (intOf i).toNat)
  case atStart => exact ⟨0, Nat.zero_le _, rfl, fun j h => absurd h (Nat.not_lt_zero j), Below.refl _ _⟩
  case round =>
    obtain ⟨k, hk, rfl, hno, hbw⟩ := hrel
    have HN := Lib.hid hno
    have HB := Lib.hid hbw
    clear hno hbw
    by_cases h14 : k < 14
    · have hx := fun w => op.index_op k h14 w
      have hy := opB_yes s.data.toList k h14
      have HY := Lib.hid hy
      have hnx : (op.nm k).data.toList ≠ s.data.toList → ∀ j, j < k + 1 → (op.nm j).data.toList ≠ s.data.toList := fun h j hj => by
        rcases Nat.lt_succ_iff_lt_or_eq.1 hj with h1 | h1
        · exact HN.out j h1
        · subst h1; exact h
      have HNX := Lib.hid hnx
      have hla := ByteArray.toList_eq (op.nm k)
      have HLA := Lib.hid hla
      have him : (k : Int) < 14 := by omega
      clear hy hnx hla
      generalize op.nm k = a at *
      generalize op.tx k = b at *
      generalize op.lv k = l at *
      by_cases heq : a.data.toList = s.data.toList
      · have t1 : (a.toList == s.toList) = true := by rw [HLA.out, HL.out, heq, beq_self_eq_true]
        have HV : Hid (opB s.data.toList = true) := Lib.hid (HY.out heq)
        clear heq
        go_wp2_with fail
        go_ret
        rw [HV.out]
        exact ⟨rfl, by first | exact HB.out | exact HB.out.alloc HB.out.size _⟩
      · have t1 : (a.toList == s.toList) = false := by rw [HLA.out, HL.out, beq_eq_false_iff_ne]; exact heq
        have HNX2 := Lib.hid (HNX.out heq)
        clear heq
        go_wp2_with fail
        go_roundw
        case rel => exact ⟨k + 1, by omega, by go_num, HNX2.out, by first | exact HB.out | exact HB.out.alloc HB.out.size _⟩
        case measure => simp [intOf]; omega
    · obtain rfl : k = 14 := by omega
      have HV : Hid (opB s.data.toList = false) := Lib.hid (opB_no _ HN.out)
      go_wp2_with fail
      go_ret
      rw [HV.out]
      exact ⟨rfl, HB.out⟩
end Go.Proofs.YtihmgodiiohdnaaGreatDoor

/- Goals: the plain mathematics, and the model's l4Cut, l4Plain, l4Goal, GoalValid. Condition: the term lies in memory. -/
namespace Go.Proofs.YtihmgodiiohdnaaGreatDoor
open Go.RowKit

def cutB (s : ByteArray) (len : Nat) : Bool := (s.data.toList == [33]) && (len == 0)
def plainB (s : ByteArray) (len : Nat) : Bool := nv.wordB s.data.toList && (!biB s.data.toList len && (op.level s.data.toList == 0))
def cutK (k : Int) (s : ByteArray) (len : Nat) : Bool := (k == 3) && cutB s len
def plainK (k : Int) (s : ByteArray) (len : Nat) : Bool := (k == 3) && plainB s len
def goalK (k : Int) (s : ByteArray) (len : Nat) : Bool := cutK k s len || (plainK k s len || ((k == 3) && biB s.data.toList len))
/-- The term is a goal. -/
def goalV (k n : Int) (s : ByteArray) (f : Fr) : Bool := validT k n s f && goalK k s f.len

set_option maxRecDepth 100000 in
/-- spec.l4Cut. -/
theorem cut_any (k n : Int) (s : ByteArray) (A : Option Addr) (len cap : Nat) (w : World) :
    Calls Tryz.prog 66 #[.agg #[.int .i64 k, .int .i64 n, .string s, .slice A len cap]] w fun e w' => e = .returned (.bool (cutK k s len)) ∧ Below w.heap.size w w' := by
  have HB : Hid (Below w.heap.size w (w.alloc (.cells #[.int .i64 k, .int .i64 n, .string s, .slice A len cap] 30))) := Lib.hid ((Below.refl _ _).alloc (Nat.le_refl _) _)
  have hl := ByteArray.toList_eq s
  have HL := Lib.hid hl
  clear hl
  by_cases h3 : k = 3
  · subst h3
    by_cases hs : s.data.toList = [33]
    · have t1 : (s.toList == [33]) = true := by rw [HL.out, hs]; rfl
      by_cases h0 : len = 0
      · subst h0
        have HV : Hid (cutK 3 s 0 = true) := Lib.hid (by unfold cutK cutB; rw [hs]; rfl)
        clear hs
        go_enter Tryz.func66, Tryz.ntmps66
        go_wp2_with fail
        go_ret
        rw [HV.out]; exact ⟨rfl, HB.out⟩
      · have t2 : ((len : Int) == 0) = false := by rw [beq_eq_false_iff_ne]; omega
        have HV : Hid (cutK 3 s len = false) := Lib.hid (by unfold cutK cutB; rw [hs]; simpa using h0)
        clear hs h0
        go_enter Tryz.func66, Tryz.ntmps66
        go_wp2_with fail
        go_ret
        rw [HV.out]; exact ⟨rfl, HB.out⟩
    · have t1 : (s.toList == [33]) = false := by rw [HL.out, beq_eq_false_iff_ne]; exact hs
      have HV : Hid (cutK 3 s len = false) := Lib.hid (by unfold cutK cutB; rw [show (s.data.toList == [33]) = false by rw [beq_eq_false_iff_ne]; exact hs]; rfl)
      clear hs
      go_enter Tryz.func66, Tryz.ntmps66
      go_wp2_with fail
      go_ret
      rw [HV.out]; exact ⟨rfl, HB.out⟩
  · have t0 : (k == 3) = false := by rw [beq_eq_false_iff_ne]; exact h3
    have HV : Hid (cutK k s len = false) := Lib.hid (by unfold cutK; rw [t0]; rfl)
    clear h3
    go_enter Tryz.func66, Tryz.ntmps66
    go_wp2_with fail
    go_ret
    rw [HV.out]; exact ⟨rfl, HB.out⟩

set_option maxRecDepth 100000 in
/-- spec.l4Plain. -/
theorem plain_any (k n : Int) (s : ByteArray) (A : Option Addr) (len cap : Nat) (w : World) (hs : s.size ≤ maxLen) :
    Calls Tryz.prog 33 #[.agg #[.int .i64 k, .int .i64 n, .string s, .slice A len cap]] w fun e w' => e = .returned (.bool (plainK k s len)) ∧ Below w.heap.size w w' := by
  have HB : Hid (Below w.heap.size w (w.alloc (.cells #[.int .i64 k, .int .i64 n, .string s, .slice A len cap] 30))) := Lib.hid ((Below.refl _ _).alloc (Nat.le_refl _) _)
  by_cases h3 : k = 3
  · subst h3
    have C1 := fun w1 => nv.word_any s w1 hs
    have C2 := fun w1 => specBi_any s (len : Int) w1
    have C3 := fun w1 => op.l2_any s w1
    have HE : Hid (plainK 3 s len = (nv.wordB s.data.toList && (!biB s.data.toList len && (op.level s.data.toList == 0)))) := Lib.hid rfl
    generalize nv.wordB s.data.toList = v1 at *
    generalize biB s.data.toList (len : Int) = v2 at *
    generalize op.level s.data.toList = v3 at *
    have H1 := Lib.hid C1
    have H2 := Lib.hid C2
    have H3 := Lib.hid C3
    clear C1 C2 C3 hs
    cases v1
    · have HV : Hid (plainK 3 s len = false) := Lib.hid (by rw [HE.out]; rfl)
      go_enter Tryz.func33, Tryz.ntmps33
      go_wp2_with (go_at_call 49; refine (H1.out _).mono ?_; rintro e w' ⟨rfl, rfl⟩)
      go_ret
      rw [HV.out]; exact ⟨rfl, HB.out⟩
    · cases v2
      · by_cases h0 : v3 = 0
        · subst h0
          have HV : Hid (plainK 3 s len = true) := Lib.hid (by rw [HE.out]; rfl)
          go_enter Tryz.func33, Tryz.ntmps33
          go_wp2_with (first | (go_at_call 49; refine (H1.out _).mono ?_; rintro e w' ⟨rfl, rfl⟩) | (go_at_call 50; refine (H2.out _).mono ?_; rintro e w' ⟨rfl, rfl⟩) | (go_at_call 51; refine (H3.out _).mono ?_; rintro e w' ⟨rfl, rfl⟩))
          go_ret
          rw [HV.out]; exact ⟨rfl, HB.out⟩
        · have t0 : (v3 == 0) = false := by rw [beq_eq_false_iff_ne]; exact h0
          have HV : Hid (plainK 3 s len = false) := Lib.hid (by rw [HE.out, t0]; rfl)
          clear h0
          go_enter Tryz.func33, Tryz.ntmps33
          go_wp2_with (first | (go_at_call 49; refine (H1.out _).mono ?_; rintro e w' ⟨rfl, rfl⟩) | (go_at_call 50; refine (H2.out _).mono ?_; rintro e w' ⟨rfl, rfl⟩) | (go_at_call 51; refine (H3.out _).mono ?_; rintro e w' ⟨rfl, rfl⟩))
          go_ret
          rw [HV.out]; exact ⟨rfl, HB.out⟩
      · have HV : Hid (plainK 3 s len = false) := Lib.hid (by rw [HE.out]; rfl)
        go_enter Tryz.func33, Tryz.ntmps33
        go_wp2_with (first | (go_at_call 49; refine (H1.out _).mono ?_; rintro e w' ⟨rfl, rfl⟩) | (go_at_call 50; refine (H2.out _).mono ?_; rintro e w' ⟨rfl, rfl⟩))
        go_ret
        rw [HV.out]; exact ⟨rfl, HB.out⟩
  · have t0 : (k == 3) = false := by rw [beq_eq_false_iff_ne]; exact h3
    have HV : Hid (plainK k s len = false) := Lib.hid (by unfold plainK; rw [t0]; rfl)
    clear h3
    go_enter Tryz.func33, Tryz.ntmps33
    go_wp2_with fail
    go_ret
    rw [HV.out]; exact ⟨rfl, HB.out⟩

set_option maxRecDepth 100000 in
/-- spec.l4Goal. -/
theorem goal_any (k n : Int) (s : ByteArray) (A : Option Addr) (len cap : Nat) (w : World) (hs : s.size ≤ maxLen) :
    Calls Tryz.prog 46 #[.agg #[.int .i64 k, .int .i64 n, .string s, .slice A len cap]] w fun e w' => e = .returned (.bool (goalK k s len)) ∧ Below w.heap.size w w' := by
  have HB0 : Hid (Below w.heap.size w (w.alloc (.cells #[.int .i64 k, .int .i64 n, .string s, .slice A len cap] 30))) := Lib.hid ((Below.refl _ _).alloc (Nat.le_refl _) _)
  have C1 := fun w1 => cut_any k n s A len cap w1
  have C2 := fun w1 => plain_any k n s A len cap w1 hs
  have C3 := fun w1 => specBi_any s (len : Int) w1
  have HE : Hid (goalK k s len = (cutK k s len || (plainK k s len || ((k == 3) && biB s.data.toList len)))) := Lib.hid rfl
  generalize cutK k s len = v1 at *
  generalize plainK k s len = v2 at *
  generalize biB s.data.toList (len : Int) = v3 at *
  have H1 := Lib.hid C1
  have H2 := Lib.hid C2
  have H3 := Lib.hid C3
  clear C1 C2 C3 hs
  cases v1
  · go_enter Tryz.func46, Tryz.ntmps46
    go_wp2_with fail
    refine (H1.out _).mono ?_
    rintro e w2 ⟨rfl, hb⟩
    have hq := (Blk.new w 30 #[.int .i64 k, .int .i64 n, .string s, .slice A len cap]).below hb (by simp)
    obtain ⟨a0, a1, a2, a3⟩ := cells4 hq
    have HQ := Lib.hid hq
    have HB := Lib.hid (HB0.out.trans (hb.mono (by simp)))
    clear hb hq
    go_wp2_with fail
    refine (H2.out _).mono ?_
    rintro e w3 ⟨rfl, hb⟩
    have hq := HQ.out.below hb HQ.out.lt
    have HB3 := Lib.hid (HB.out.trans (hb.mono HB.out.size))
    clear hb a0 a1 a2 a3
    cases v2
    · obtain ⟨a0, a1, a2, a3⟩ := cells4 hq
      clear hq
      by_cases h3 : k = 3
      · subst h3
        have HV : Hid (goalK 3 s len = v3) := Lib.hid (by rw [HE.out]; rfl)
        go_wp2_with (go_at_call 50; refine (H3.out _).mono ?_; rintro e w' ⟨rfl, rfl⟩)
        go_ret
        rw [HV.out]; exact ⟨rfl, HB3.out⟩
      · have t0 : (k == 3) = false := by rw [beq_eq_false_iff_ne]; exact h3
        have HV : Hid (goalK k s len = false) := Lib.hid (by rw [HE.out, t0]; rfl)
        clear h3
        go_wp2_with fail
        go_ret
        rw [HV.out]; exact ⟨rfl, HB3.out⟩
    · have HV : Hid (goalK k s len = true) := Lib.hid (by rw [HE.out]; rfl)
      clear hq
      go_wp2_with fail
      go_ret
      rw [HV.out]; exact ⟨rfl, HB3.out⟩
  · have HV : Hid (goalK k s len = true) := Lib.hid (by rw [HE.out]; rfl)
    go_enter Tryz.func46, Tryz.ntmps46
    go_wp2_with fail
    refine (H1.out _).mono ?_
    rintro e w2 ⟨rfl, hb⟩
    have HB := Lib.hid (HB0.out.trans (hb.mono (by simp)))
    clear hb
    go_wp2_with fail
    go_ret
    rw [HV.out]; exact ⟨rfl, HB.out⟩

set_option maxRecDepth 100000 in
/-- spec.GoalValid. -/
theorem specGoal_any (k n : Int) (s : ByteArray) (f : Fr) (A : Option Addr) (cap lo hi : Nat) (w : World) (hk : KidsAt w lo hi f A cap) (hh : hi ≤ w.heap.size) (hf : Fits k n s) (hnd : nodes f ≤ 1048576) :
    Calls Tryz.prog 31 #[.agg #[.int .i64 k, .int .i64 n, .string s, .slice A f.len cap]] w fun e w' => e = .returned (.bool (goalV k n s f)) ∧ Below w.heap.size w w' := by
  have HB0 : Hid (Below w.heap.size w (w.alloc (.cells #[.int .i64 k, .int .i64 n, .string s, .slice A f.len cap] 30))) := Lib.hid ((Below.refl _ _).alloc (Nat.le_refl _) _)
  have C1 := fun w1 (hb : Below w.heap.size w w1) => specValid_any k n s f A cap lo hi w1 (hk.below hb hh) (Nat.le_trans hh hb.size) hf hnd
  have C2 := fun w1 => goal_any k n s A f.len cap w1 hf.2.2
  have HE : Hid (goalV k n s f = (validT k n s f && goalK k s f.len)) := Lib.hid rfl
  generalize validT k n s f = v1 at *
  generalize goalK k s f.len = v2 at *
  have H1 := Lib.hid C1
  have H2 := Lib.hid C2
  clear C1 C2 hk hf hnd
  cases v1
  · have HV : Hid (goalV k n s f = false) := Lib.hid (by rw [HE.out]; rfl)
    go_enter Tryz.func31, Tryz.ntmps31
    go_wp2_with fail
    refine (H1.out _ HB0.out).mono ?_
    rintro e w2 ⟨rfl, hb⟩
    have HB := Lib.hid (HB0.out.trans (hb.mono (by simp)))
    clear hb
    go_wp2_with fail
    go_ret
    rw [HV.out]; exact ⟨rfl, HB.out⟩
  · have HV : Hid (goalV k n s f = v2) := Lib.hid (by rw [HE.out]; rfl)
    go_enter Tryz.func31, Tryz.ntmps31
    go_wp2_with fail
    refine (H1.out _ HB0.out).mono ?_
    rintro e w2 ⟨rfl, hb⟩
    have hq := (Blk.new w 30 #[.int .i64 k, .int .i64 n, .string s, .slice A f.len cap]).below hb (by simp)
    obtain ⟨a0, a1, a2, a3⟩ := cells4 hq
    have HB := Lib.hid (HB0.out.trans (hb.mono (by simp)))
    clear hb hq
    go_wp2_with fail
    refine (H2.out _).mono ?_
    rintro e w3 ⟨rfl, hb⟩
    have HB3 := Lib.hid (HB.out.trans (hb.mono HB.out.size))
    clear hb
    go_wp2_with fail
    go_ret
    rw [HV.out]; exact ⟨rfl, HB3.out⟩
end Go.Proofs.YtihmgodiiohdnaaGreatDoor

/- Goals: impl.goalFrom, goalOf, plainGoalOf, GoalValid. Condition: the term lies in memory, both tables in their variables. -/
namespace Go.Proofs.YtihmgodiiohdnaaGreatDoor
open Go.RowKit

/-- The name begins with a letter. -/
def headB (l : List UInt8) : Bool := match l with
  | [] => false
  | c :: _ => nv.lowB c
theorem head_agree (l : List UInt8) (h : nv.nameB l = true) : (headB l && !opB l) = (nv.wordB l && (op.level l == 0)) := by
  have ho : (!opB l) = (op.level l == 0) := by rw [opB_level, Bool.not_not]
  rw [ho]
  have hh : headB l = nv.wordB l := by
    unfold nv.nameB at h
    cases hw : nv.wordB l
    · rw [hw, Bool.false_or] at h
      have hm : l ∈ nv.signs := by simpa using h
      have all : ∀ x ∈ nv.signs, headB x = false := by decide
      exact all l hm
    · unfold nv.wordB at hw
      cases l with
      | nil => simp at hw
      | cons c cs =>
        simp only [List.all_cons, Bool.and_eq_true] at hw
        exact hw.1.1.1
  rw [hh]
/-- Which goal: 0 none, 1 the cut, 2 built in, 3 plain. -/
def gk (s : ByteArray) (len : Nat) : Nat := if cutB s len = true then 1 else if biB s.data.toList len = true then 2 else if plainB s len = true then 3 else 0
theorem cut_plain (s : ByteArray) (len : Nat) (h : cutB s len = true) : plainB s len = false := by
  unfold cutB at h
  rw [Bool.and_eq_true, beq_iff_eq] at h
  unfold plainB
  rw [h.1]
  rfl
theorem gk_goal (s : ByteArray) (len : Nat) : goalK 3 s len = !(gk s len == 0) := by
  unfold goalK gk cutK plainK
  cases h1 : cutB s len
  · cases h2 : biB s.data.toList len
    · cases h3 : plainB s len <;> rfl
    · simp
  · rfl
theorem gk_plain (s : ByteArray) (len : Nat) : plainK 3 s len = (gk s len == 3) := by
  unfold gk plainK
  cases h1 : cutB s len
  · cases h2 : biB s.data.toList len
    · cases h3 : plainB s len <;> rfl
    · have h3 : plainB s len = false := by unfold plainB; rw [h2]; simp
      rw [h3]
      rfl
  · rw [cut_plain s len h1]
    rfl
/-- A goal in memory. -/
def GIs (t : Nat) (s : ByteArray) (A : Option Addr) (len cap : Nat) (v : Value) : Prop :=
  (t = 1 ∧ v = .iface 155 (.agg #[])) ∨ (t = 2 ∧ v = .iface 156 (.agg #[.string s, .slice A len cap])) ∨ (t = 3 ∧ v = .iface 53 (.agg #[.string s, .slice A len cap]))
def GRes (w : World) (s : ByteArray) (A : Option Addr) (len cap : Nat) (e : Ending) (w' : World) : Prop :=
  Below w.heap.size w w' ∧ ((gk s len = 0 ∧ e = .returned (.tuple #[.nilIface, .bool false])) ∨ (gk s len ≠ 0 ∧ ∃ v, e = .returned (.tuple #[v, .bool true]) ∧ GIs (gk s len) s A len cap v))
theorem name_of_valid {n : Int} {s : ByteArray} {f : Fr} (h : validT 3 n s f = true) : nv.nameB s.data.toList = true := by
  unfold validT shapeT ownB at h
  simp only [Bool.and_eq_true] at h
  have h1 := h.1.2.1
  simp at h1
  exact h1.1.2
theorem name_pos {l : List UInt8} (h : nv.nameB l = true) : ∃ c cs, l = c :: cs := by
  cases l with
  | nil => exact absurd h (by decide)
  | cons c cs => exact ⟨c, cs, rfl⟩
set_option maxRecDepth 100000 in
set_option maxHeartbeats 1000000 in
/-- impl.goalFrom at a structure. -/
theorem from3_any (s : ByteArray) (A : Option Addr) (len cap : Nat) (w : World) (hn : nv.nameB s.data.toList = true) (hlen : len ≤ maxLen) (ht : op.OpTab w) :
    Calls Tryz.prog 76 #[.iface 84 (.agg #[.string s, .slice A len cap])] w fun e w' => GRes w s A len cap e w' := by
  have hl := ByteArray.toList_eq s
  have HL := Lib.hid hl
  have hag := head_agree _ hn
  have hpos : 0 < s.size := by
    obtain ⟨c, cs, hc⟩ := name_pos hn
    have h1 : s.data.toList.length = s.size := rfl
    rw [hc] at h1
    simp at h1
    omega
  have hhd : headB s.data.toList = nv.lowB s[0] := by
    have h1 : s.data.toList[0]? = some s[0] := Lib.data_getElem? s 0 hpos
    obtain ⟨c, cs, hc⟩ := name_pos hn
    rw [hc] at h1 ⊢
    simp at h1
    rw [← h1]; rfl
  have hb0 : Below w.heap.size w (w.alloc (.cells #[.string s, .slice A len cap] 84)) := (Below.refl _ _).alloc (Nat.le_refl _) _
  have C1 := fun w1 => implBi_any s (len : Int) w1
  have C2 := fun w1 => nv.letter_any s[0] w1
  have C3 := isOp_any s (w.alloc (.cells #[.string s, .slice A len cap] 84)) (ht.below hb0)
  rw [hhd] at hag
  have HE : Hid (plainB s len = (nv.wordB s.data.toList && (!biB s.data.toList len && (op.level s.data.toList == 0)))) := Lib.hid rfl
  have HG : Hid (gk s len = if cutB s len = true then 1 else if biB s.data.toList len = true then 2 else if plainB s len = true then 3 else 0) := Lib.hid rfl
  have HCU : Hid (cutB s len = ((s.data.toList == [33]) && (len == 0))) := Lib.hid rfl
  have HB0 := Lib.hid hb0
  have HAG := Lib.hid hag
  generalize biB s.data.toList (len : Int) = v1 at *
  generalize nv.lowB s[0] = v2 at *
  generalize opB s.data.toList = v3 at *
  have H1 := Lib.hid C1
  have H2 := Lib.hid C2
  have H3 := Lib.hid C3
  clear hl hag hb0 C1 C2 C3 hhd hn ht
  unfold maxLen at hlen
  by_cases hcut : s.data.toList = [33] ∧ len = 0
  · obtain ⟨h33, rfl⟩ := hcut
    have t1 : (s.toList == [33]) = true := by rw [HL.out, h33]; rfl
    have HV : Hid (gk s 0 = 1) := Lib.hid (by rw [HG.out, HCU.out, h33]; rfl)
    clear h33
    go_enter Tryz.func76, Tryz.ntmps76
    go_wp2_with fail
    go_ret2
    exact ⟨HB0.out, .inr ⟨by rw [HV.out]; decide, _, rfl, .inl ⟨HV.out, rfl⟩⟩⟩
  · have HC : Hid (cutB s len = false) := Lib.hid (by
      rw [HCU.out, ← Bool.not_eq_true, Bool.and_eq_true, beq_iff_eq, beq_iff_eq]; exact hcut)
    have hway : (s.toList == [33]) = false ∨ ((s.toList == [33]) = true ∧ ((len : Int) == 0) = false) := by
      by_cases h33 : s.data.toList = [33]
      · exact .inr ⟨by rw [HL.out, h33]; rfl, by rw [beq_eq_false_iff_ne]; intro h; exact hcut ⟨h33, by omega⟩⟩
      · exact .inl (by rw [HL.out, beq_eq_false_iff_ne]; exact h33)
    clear hcut
    cases v1
    · have HP : Hid (plainB s len = (v2 && !v3)) := Lib.hid (by rw [HE.out, HAG.out]; rfl)
      cases v2
      · have HV : Hid (gk s len = 0) := Lib.hid (by rw [HG.out, HC.out, HP.out]; rfl)
        rcases hway with t1 | ⟨t1, t2⟩
        all_goals
          go_enter Tryz.func76, Tryz.ntmps76
          go_wp2_with (first | (go_at_call 88; refine (H1.out _).mono ?_; rintro e w' ⟨rfl, rfl⟩) | (go_at_call 83; refine (H2.out _).mono ?_; rintro e w' ⟨rfl, rfl⟩))
          go_ret2
          exact ⟨HB0.out, .inl ⟨HV.out, rfl⟩⟩
      · cases v3
        · have HV : Hid (gk s len = 3) := Lib.hid (by rw [HG.out, HC.out, HP.out]; rfl)
          rcases hway with t1 | ⟨t1, t2⟩
          all_goals
            go_enter Tryz.func76, Tryz.ntmps76
            go_wp2_with (first | (go_at_call 88; refine (H1.out _).mono ?_; rintro e w' ⟨rfl, rfl⟩) | (go_at_call 83; refine (H2.out _).mono ?_; rintro e w' ⟨rfl, rfl⟩) | (go_at_call 89; refine H3.out.mono ?_; rintro e w2 ⟨rfl, hb⟩; have hq := (Blk.new w 84 #[.string s, .slice A len cap]).below hb (by simp); have a0 := hq.cell 0; have a1 := hq.cell 1; simp only [List.getElem?_toArray, List.getElem?_cons_zero, List.getElem?_cons_succ] at a0 a1; have HB2 := Lib.hid (HB0.out.trans (hb.mono (by simp))); clear hb hq))
            go_ret2
            exact ⟨HB2.out, .inr ⟨by rw [HV.out]; decide, _, rfl, .inr (.inr ⟨HV.out, rfl⟩)⟩⟩
        · have HV : Hid (gk s len = 0) := Lib.hid (by rw [HG.out, HC.out, HP.out]; rfl)
          rcases hway with t1 | ⟨t1, t2⟩
          all_goals
            go_enter Tryz.func76, Tryz.ntmps76
            go_wp2_with (first | (go_at_call 88; refine (H1.out _).mono ?_; rintro e w' ⟨rfl, rfl⟩) | (go_at_call 83; refine (H2.out _).mono ?_; rintro e w' ⟨rfl, rfl⟩) | (go_at_call 89; refine H3.out.mono ?_; rintro e w2 ⟨rfl, hb⟩; have HB2 := Lib.hid (HB0.out.trans (hb.mono (by simp))); clear hb))
            go_ret2
            exact ⟨HB2.out, .inl ⟨HV.out, rfl⟩⟩
    · have HV : Hid (gk s len = 2) := Lib.hid (by rw [HG.out, HC.out]; rfl)
      rcases hway with t1 | ⟨t1, t2⟩
      all_goals
        go_enter Tryz.func76, Tryz.ntmps76
        go_wp2_with (go_at_call 88; refine (H1.out _).mono ?_; rintro e w' ⟨rfl, rfl⟩)
        go_ret2
        exact ⟨HB0.out, .inr ⟨by rw [HV.out]; decide, _, rfl, .inr (.inl ⟨HV.out, rfl⟩)⟩⟩

set_option maxRecDepth 100000 in
/-- impl.goalFrom at a variable or a number. -/
theorem from12_any (v : Value) (n : Int) (hv : v = .iface 133 (.int .i64 n) ∨ v = .iface 134 (.int .i64 n)) (w : World) :
    Calls Tryz.prog 76 #[v] w fun e w' => e = .returned (.tuple #[.nilIface, .bool false]) ∧ Below w.heap.size w w' := by
  have HB0 : ∀ o, Hid (Below w.heap.size w (w.alloc o)) := fun o => Lib.hid ((Below.refl _ _).alloc (Nat.le_refl _) _)
  rcases hv with rfl | rfl
  all_goals
    go_enter Tryz.func76, Tryz.ntmps76
    go_wp2_with fail
    go_ret2
    exact ⟨rfl, (HB0 _).out⟩

/-- What impl.goalOf leaves. -/
def GOf (w : World) (k n : Int) (s : ByteArray) (f : Fr) (e : Ending) (w' : World) : Prop :=
  Below w.heap.size w w' ∧ ((goalV k n s f = false ∧ e = .returned (.tuple #[.nilIface, .bool false])) ∨
    (goalV k n s f = true ∧ ∃ v A cap, e = .returned (.tuple #[v, .bool true]) ∧ GIs (gk s f.len) s A f.len cap v ∧ NdS w' w.heap.size w'.heap.size f A cap))
theorem goalV_three {k n : Int} {s : ByteArray} {f : Fr} (hv : validT k n s f = true) (h3 : k = 3) : goalV k n s f = !(gk s f.len == 0) := by
  subst h3
  unfold goalV
  rw [hv, gk_goal]
  rfl
theorem goalV_other {k n : Int} {s : ByteArray} {f : Fr} (h3 : k ≠ 3) : goalV k n s f = false := by
  have h : (k == 3) = false := by rw [beq_eq_false_iff_ne]; exact h3
  unfold goalV goalK cutK plainK
  rw [h]
  simp

set_option maxRecDepth 100000 in
set_option maxHeartbeats 1000000 in
/-- impl.goalOf. -/
theorem goalOf_any (k n : Int) (s : ByteArray) (f : Fr) (A : Option Addr) (cap lo hi : Nat) (w : World) (hk : KidsAt w lo hi f A cap) (hh : hi ≤ w.heap.size) (hf : Fits k n s) (hnd : nodes f ≤ 1048576) (ht : nv.Tab w) (ho : op.OpTab w) :
    Calls Tryz.prog 61 #[.agg #[.int .i64 k, .int .i64 n, .string s, .slice A f.len cap]] w fun e w' => GOf w k n s f e w' := by
  have hb0 : Below w.heap.size w (w.alloc (.cells #[.int .i64 k, .int .i64 n, .string s, .slice A f.len cap] 30)) := (Below.refl _ _).alloc (Nat.le_refl _) _
  have C1 := nodeOf_any k n s f A cap lo hi _ (hk.below hb0 hh) (Nat.le_trans hh hb0.size) hf hnd (ht.below hb0)
  have H1 := Lib.hid C1
  have HO := Lib.hid ho
  have HB0 := Lib.hid hb0
  clear C1 hk hf hnd ht ho hb0
  go_enter Tryz.func61, Tryz.ntmps61
  go_wp2_with fail
  refine H1.out.mono ?_
  rintro e w2 ⟨hb, hr⟩
  have hb2 := HB0.out.trans (hb.mono HB0.out.size)
  rcases hr with ⟨hok, v, rfl, hv⟩ | ⟨hok, rfl⟩
  · have HB2 := Lib.hid hb2
    have HOK := Lib.hid hok
    have hs0 := hb.size
    have hiface := hv.iface
    obtain ⟨T, x, rfl⟩ := hiface
    have hv' := hv.keep (fun _ _ _ => rfl) HB0.out.size (Nat.le_refl _)
    have HV := Lib.hid hv'
    clear hb hb2 hok hv hv' hs0
    go_wp2_with fail
    rcases HV.out with ⟨h1, hx⟩ | ⟨h1, hx⟩ | ⟨h1, A2, cap2, hx, hnds⟩
    · rw [hx]
      refine (from12_any _ n (.inl rfl) w2).mono ?_
      rintro e w3 ⟨rfl, hb⟩
      have R : Hid (GOf w k n s f (.returned (.tuple #[.nilIface, .bool false])) w3) := Lib.hid ⟨HB2.out.trans (hb.mono HB2.out.size), .inl ⟨goalV_other (by omega), rfl⟩⟩
      clear hb hx
      go_wp2_with fail
      go_ret2
      exact R.out
    · rw [hx]
      refine (from12_any _ n (.inr rfl) w2).mono ?_
      rintro e w3 ⟨rfl, hb⟩
      have R : Hid (GOf w k n s f (.returned (.tuple #[.nilIface, .bool false])) w3) := Lib.hid ⟨HB2.out.trans (hb.mono HB2.out.size), .inl ⟨goalV_other (by omega), rfl⟩⟩
      clear hb hx
      go_wp2_with fail
      go_ret2
      exact R.out
    · subst h1
      rw [hx]
      refine (from3_any s A2 f.len cap2 w2 (name_of_valid HOK.out) (Nat.le_trans hnds.1 hnds.2.1) (HO.out.below HB2.out)).mono ?_
      rintro e w3 ⟨hb, hr⟩
      have hg := goalV_three HOK.out rfl
      rcases hr with ⟨h0, rfl⟩ | ⟨h0, v, rfl, hgi⟩
      · have R : Hid (GOf w 3 n s f (.returned (.tuple #[.nilIface, .bool false])) w3) := Lib.hid ⟨HB2.out.trans (hb.mono HB2.out.size), .inl ⟨by rw [hg, h0]; rfl, rfl⟩⟩
        clear hb hx hg h0 hnds
        go_wp2_with fail
        go_ret2
        exact R.out
      · have R : Hid (GOf w 3 n s f (.returned (.tuple #[v, .bool true])) w3) := Lib.hid ⟨HB2.out.trans (hb.mono HB2.out.size), .inr ⟨by rw [hg]; simpa using h0, v, A2, cap2, rfl, hgi, hnds.keep (fun p _ hp => hb.cell hp) (Nat.le_refl _) hb.size⟩⟩
        clear hb hx hg h0 hnds hgi
        go_wp2_with fail
        go_ret2
        exact R.out
  · have R : Hid (GOf w k n s f (.returned (.tuple #[.nilIface, .bool false])) w2) := Lib.hid ⟨hb2, .inl ⟨by unfold goalV; rw [hok]; rfl, rfl⟩⟩
    clear hb hb2 hok
    go_wp2_with fail
    go_ret2
    exact R.out

@[go_sem] theorem as_c_p (v : Value) (w : World) : (Instr.typeAssert (.iface 155 v) 87 53 true).run Tryz.prog w = .ok (.tuple #[.agg #[.string ⟨#[]⟩, .slice none 0 0], .bool false]) w := by kernel_rfl
@[go_sem] theorem as_b_p (v : Value) (w : World) : (Instr.typeAssert (.iface 156 v) 87 53 true).run Tryz.prog w = .ok (.tuple #[.agg #[.string ⟨#[]⟩, .slice none 0 0], .bool false]) w := by kernel_rfl
@[go_sem] theorem as_p_p (v : Value) (w : World) : (Instr.typeAssert (.iface 53 v) 87 53 true).run Tryz.prog w = .ok (.tuple #[v, .bool true]) w := by kernel_rfl

/-- The term is a plain goal. -/
def plainV (k n : Int) (s : ByteArray) (f : Fr) : Bool := validT k n s f && plainK k s f.len
theorem plainV_goal {k n : Int} {s : ByteArray} {f : Fr} : plainV k n s f = (goalV k n s f && (gk s f.len == 3)) := by
  unfold plainV goalV
  by_cases h3 : k = 3
  · subst h3
    rw [gk_plain, gk_goal]
    cases validT 3 n s f
    · rfl
    · by_cases h : gk s f.len = 3
      · rw [h]; rfl
      · have h' : (gk s f.len == 3) = false := by rw [beq_eq_false_iff_ne]; exact h
        rw [h']; simp
  · have h : (k == 3) = false := by rw [beq_eq_false_iff_ne]; exact h3
    unfold goalK cutK plainK
    rw [h]
    simp
/-- What impl.plainGoalOf leaves. -/
def POf (w : World) (k n : Int) (s : ByteArray) (f : Fr) (e : Ending) (w' : World) : Prop :=
  Below w.heap.size w w' ∧ ((plainV k n s f = false ∧ ∃ s' A len cap, e = .returned (.tuple #[.agg #[.string s', .slice A len cap], .bool false])) ∨
    (plainV k n s f = true ∧ ∃ A cap, e = .returned (.tuple #[.agg #[.string s, .slice A f.len cap], .bool true]) ∧ NdS w' w.heap.size w'.heap.size f A cap))

set_option maxRecDepth 100000 in
set_option maxHeartbeats 1000000 in
/-- impl.plainGoalOf. -/
theorem plainOf_any (k n : Int) (s : ByteArray) (f : Fr) (A : Option Addr) (cap lo hi : Nat) (w : World) (hk : KidsAt w lo hi f A cap) (hh : hi ≤ w.heap.size) (hf : Fits k n s) (hnd : nodes f ≤ 1048576) (ht : nv.Tab w) (ho : op.OpTab w) :
    Calls Tryz.prog 42 #[.agg #[.int .i64 k, .int .i64 n, .string s, .slice A f.len cap]] w fun e w' => POf w k n s f e w' := by
  have hb0 : Below w.heap.size w ((w.alloc (.cells #[.int .i64 k, .int .i64 n, .string s, .slice A f.len cap] 30)).alloc (.cells #[.string ⟨#[]⟩, .slice none 0 0] 53)) := ((Below.refl _ _).alloc (Nat.le_refl _) _).alloc (by simp) _
  have C1 := goalOf_any k n s f A cap lo hi _ (hk.below hb0 hh) (Nat.le_trans hh hb0.size) hf hnd (ht.below hb0) (ho.below hb0)
  have hq0 : Blk ((w.alloc (.cells #[.int .i64 k, .int .i64 n, .string s, .slice A f.len cap] 30)).alloc (.cells #[.string ⟨#[]⟩, .slice none 0 0] 53)) (w.heap.size + 1) 53 #[.string ⟨#[]⟩, .slice none 0 0] := by
    have h := Blk.new (w.alloc (.cells #[.int .i64 k, .int .i64 n, .string s, .slice A f.len cap] 30)) 53 #[.string ⟨#[]⟩, .slice none 0 0]
    simpa using h
  have HPG : Hid (plainV k n s f = (goalV k n s f && (gk s f.len == 3))) := Lib.hid plainV_goal
  have H1 := Lib.hid C1
  have HB0 := Lib.hid hb0
  have HQ0 := Lib.hid hq0
  clear C1 hk hf hnd ht ho hb0 hq0
  go_enter Tryz.func42, Tryz.ntmps42
  go_wp2_with fail
  refine H1.out.mono ?_
  rintro e w2 ⟨hb, hr⟩
  have hq2 := HQ0.out.below hb HQ0.out.lt
  have a0 := hq2.cell 0
  have a1 := hq2.cell 1
  have f0 := hq2.frozen 0
  have f1 := hq2.frozen 1
  simp only [List.getElem?_toArray, List.getElem?_cons_zero, List.getElem?_cons_succ] at a0 a1
  have hb2 := HB0.out.trans (hb.mono HB0.out.size)
  have hw2 : w.heap.size + 1 < w2.heap.size := hq2.lt
  have HQ2 := Lib.hid hq2
  have HB2 := Lib.hid hb2
  have HSB := Lib.hid HB0.out.size
  clear hb2 hq2
  rcases hr with ⟨hok, rfl⟩ | ⟨hok, v, A2, cap2, rfl, hgi, hnds⟩
  · have HP : Hid (plainV k n s f = false) := Lib.hid (by rw [HPG.out, hok]; rfl)
    clear hb hok
    go_wp2_with fail
    refine bodyPost_ret (v := .tuple #[.agg #[.string ⟨#[]⟩, .slice none 0 0], .bool false]) ?_ rfl ⟨?_, .inl ⟨HP.out, _, _, _, _, rfl⟩⟩
    · exact results_cell_row2 Tryz.results42 _ _ (w.heap.size + 1) _ _ _ _ rfl ((HQ2.out.set_ 0 _).set_ 1 _) Tryz.underlying53 rfl (by kernel_rfl)
    · exact ((HB2.out.setCell (by simp) _).setCell (by simp) _)
  · have e9 : ((w.alloc (.cells #[.int .i64 k, .int .i64 n, .string s, .slice A f.len cap] 30)).alloc (.cells #[.string ⟨#[]⟩, .slice none 0 0] 53)).heap.size = w.heap.size + 1 + 1 := by simp
    rw [e9] at hnds
    have HNS := Lib.hid hnds
    clear hb hnds e9
    rcases hgi with ⟨hg, rfl⟩ | ⟨hg, rfl⟩ | ⟨hg, rfl⟩
    · have HP : Hid (plainV k n s f = false) := Lib.hid (by rw [HPG.out, hg]; simp)
      clear hok hg
      go_wp2_with fail
      refine bodyPost_ret (v := .tuple #[.agg #[.string ⟨#[]⟩, .slice none 0 0], .bool false]) ?_ rfl ⟨?_, .inl ⟨HP.out, _, _, _, _, rfl⟩⟩
      · exact results_cell_row2 Tryz.results42 _ _ (w.heap.size + 1) _ _ _ _ rfl (((HQ2.out.set_ 0 _).set_ 1 _).alloc _) Tryz.underlying53 rfl (by kernel_rfl)
      · exact (((HB2.out.setCell (by simp) _).setCell (by simp) _).alloc (by simpa [World.setCell] using HB2.out.size) _)
    · have HP : Hid (plainV k n s f = false) := Lib.hid (by rw [HPG.out, hg]; simp)
      clear hok hg
      go_wp2_with fail
      refine bodyPost_ret (v := .tuple #[.agg #[.string ⟨#[]⟩, .slice none 0 0], .bool false]) ?_ rfl ⟨?_, .inl ⟨HP.out, _, _, _, _, rfl⟩⟩
      · exact results_cell_row2 Tryz.results42 _ _ (w.heap.size + 1) _ _ _ _ rfl (((HQ2.out.set_ 0 _).set_ 1 _).alloc _) Tryz.underlying53 rfl (by kernel_rfl)
      · exact (((HB2.out.setCell (by simp) _).setCell (by simp) _).alloc (by simpa [World.setCell] using HB2.out.size) _)
    · have HP : Hid (plainV k n s f = true) := Lib.hid (by rw [HPG.out, hok, hg]; rfl)
      clear hok hg
      have hfin : ∀ a b : Value, POf w k n s f (.returned (.tuple #[.agg #[.string s, .slice A2 f.len cap2], .bool true])) (((w2.setCell ⟨w.heap.size + 1, 0, none⟩ a).setCell ⟨w.heap.size + 1, 1, none⟩ b).alloc (.cells #[.string s, .slice A2 f.len cap2] 53)) := fun a b =>
        ⟨((HB2.out.setCell (by simp) _).setCell (by simp) _).alloc (by simpa [World.setCell] using HB2.out.size) _, .inr ⟨HP.out, A2, cap2, rfl, HNS.out.keep (fun p hl hp => by
          have hs : ((w2.setCell ⟨w.heap.size + 1, 0, none⟩ a).setCell ⟨w.heap.size + 1, 1, none⟩ b).heap.size = w2.heap.size := by simp [World.setCell]
          have e1 := World.cell?_of_block (a := p) (Below.heap_alloc ((w2.setCell ⟨w.heap.size + 1, 0, none⟩ a).setCell ⟨w.heap.size + 1, 1, none⟩ b) (.cells #[.string s, .slice A2 f.len cap2] 53) p.block (by rw [hs]; exact hp))
          have e2 := World.cell?_of_block (a := p) (heap_setCell_other (w2.setCell ⟨w.heap.size + 1, 0, none⟩ a) ⟨w.heap.size + 1, 1, none⟩ p.block b (by show p.block ≠ w.heap.size + 1; omega))
          have e3 := World.cell?_of_block (a := p) (heap_setCell_other w2 ⟨w.heap.size + 1, 0, none⟩ p.block a (by show p.block ≠ w.heap.size + 1; omega))
          exact e1.trans (e2.trans e3)) (by omega) (by simp [World.setCell])⟩⟩
      have HF := Lib.hid hfin
      clear hfin
      generalize f.len = fl at *
      go_wp2_with fail
      refine bodyPost_ret (v := .tuple #[.agg #[.string s, .slice A2 fl cap2], .bool true]) ?_ rfl (HF.out _ _)
      exact results_cell_row2 Tryz.results42 _ _ (w.heap.size + 1) _ _ _ _ rfl (((HQ2.out.set_ 0 _).set_ 1 _).alloc _) Tryz.underlying53 rfl (by kernel_rfl)
end Go.Proofs.YtihmgodiiohdnaaGreatDoor

/- laws.szClause, szClauseS, toClause, toClauseS. Condition: the clauses lie in memory; no more than the law's budget. -/
namespace Go.Proofs.YtihmgodiiohdnaaGreatDoor
open Go.RowKit

def szC (c : Cl) (l : Int) : Int := if szT c.s c.kids l < 0 then -1 else szS c.body (szT c.s c.kids l)
def wtC (c : Cl) : Nat := c.s.size + c.kids.len + wt c.kids + c.body.len + wt c.body
theorem szC_range (c : Cl) (l : Int) (h : 0 ≤ l) : -1 ≤ szC c l ∧ szC c l ≤ l ∧ (0 ≤ szC c l → szC c l = l - wtC c) := by
  have h1 := szT_range c.s c.kids l h
  unfold szC
  split
  · exact ⟨by omega, by omega, fun h => absurd h (by omega)⟩
  · have h2 := szS_range c.body (szT c.s c.kids l) (by omega)
    refine ⟨h2.1, by omega, fun h0 => ?_⟩
    have a := h1.2.2 (by omega)
    have b := h2.2.2 h0
    unfold wtC
    omega
def szCF : List Cl → Int → Int
  | [], l => l
  | c :: cs, l => if szC c l < 0 then -1 else szCF cs (szC c l)
def szCS (cs : List Cl) (l : Int) : Int := if l - cs.length < 0 then -1 else szCF cs (l - cs.length)
def wtCs : List Cl → Nat
  | [] => 0
  | c :: cs => wtC c + wtCs cs
theorem szCF_range : ∀ (cs : List Cl) (l : Int), 0 ≤ l → -1 ≤ szCF cs l ∧ szCF cs l ≤ l ∧ (0 ≤ szCF cs l → szCF cs l = l - wtCs cs)
  | [], l, h => ⟨by unfold szCF; omega, Int.le_refl _, fun _ => by simp [szCF, wtCs]⟩
  | c :: cs, l, h => by
    have h1 := szC_range c l h
    unfold szCF
    split
    · exact ⟨by omega, by omega, fun h => absurd h (by omega)⟩
    · have h2 := szCF_range cs (szC c l) (by omega)
      refine ⟨h2.1, by omega, fun h0 => ?_⟩
      have a := h1.2.2 (by omega)
      have b := h2.2.2 h0
      simp only [wtCs]
      omega
theorem szCS_range (cs : List Cl) (l : Int) (h : 0 ≤ l) : -1 ≤ szCS cs l ∧ szCS cs l ≤ l ∧ (0 ≤ szCS cs l → szCS cs l = l - cs.length - wtCs cs) := by
  unfold szCS
  split
  · exact ⟨by omega, by omega, fun h => absurd h (by omega)⟩
  · have := szCF_range cs (l - cs.length) (by omega)
    omega
theorem wtC_le : ∀ (cs : List Cl) (i : Nat) {c : Cl} {rest : List Cl}, cs.drop i = c :: rest → wtC c ≤ wtCs cs
  | [], i, _, _, h => by simp at h
  | c' :: cs, 0, _, _, h => by
    injection h with e1 e2
    subst e1
    simp only [wtCs]; omega
  | c' :: cs, i + 1, _, _, h => by
    have := wtC_le cs i h
    simp only [wtCs]; omega
theorem drop_cl (cs : List Cl) (i : Nat) (h : i < cs.length) : ∃ c, cs.drop i = c :: cs.drop (i + 1) := ⟨cs[i], List.drop_eq_getElem_cons h⟩

theorem infoC : (Tryz.prog.info? 32).map (fun i => (i.zero, i.size, i.bytes)) = some (some (.agg #[.int .i64 0, .int .i64 0, .string ByteArray.empty, .slice none 0 0, .slice none 0 0]), 5, 80) := by kernel_rfl

end Go.Proofs.YtihmgodiiohdnaaGreatDoor

/- Clauses and programs: what is valid, and the model's ClauseValid, ProgramValid. Condition: the clauses lie in memory. -/
namespace Go.Proofs.YtihmgodiiohdnaaGreatDoor
open Go.RowKit

theorem nodes_wt_le (f : Fr) : nodes f ≤ f.len + wt f := by
  induction f with
  | nil => exact Nat.le_refl _
  | cons k n s kids rest h1 h2 => simp only [nodes, Fr.len, wt]; omega
def allG : Fr → Bool
  | .nil => true
  | .cons k n s kids rest => goalV k n s kids && allG rest
def goalsV (f : Fr) : Bool := decide (f.len ≤ 6) && allG f
def clauseV (c : Cl) : Bool := plainV c.k c.n c.s c.kids && goalsV c.body
def allC : List Cl → Bool
  | [] => true
  | c :: cs => clauseV c && allC cs
def progV (cs : List Cl) : Bool := decide (cs.length ≤ 20) && allC cs

theorem wtC_nodes (c : Cl) : nodes c.kids + nodes c.body ≤ wtC c := by
  have h1 := nodes_wt_le c.kids
  have h2 := nodes_wt_le c.body
  unfold wtC
  omega
/-- The nodes of clauses. -/
def ndQs : List Cl → Nat
  | [] => 0
  | c :: cs => nodes c.kids + nodes c.body + ndQs cs
theorem ndQs_le : ∀ (cs : List Cl) (i : Nat) {c : Cl} {rest : List Cl}, cs.drop i = c :: rest → nodes c.kids + nodes c.body ≤ ndQs cs
  | [], i, _, _, h => by simp at h
  | c0 :: cs, 0, _, _, h => by
    injection h with h1 h2
    subst h1
    simp only [ndQs]; omega
  | c0 :: cs, i + 1, _, _, h => by
    have := ndQs_le cs i h
    simp only [ndQs]; omega
theorem nd_of_wt : ∀ cs : List Cl, ndQs cs ≤ wtCs cs
  | [] => Nat.le_refl _
  | c :: cs => by
    have h1 := nd_of_wt cs
    have h2 := wtC_nodes c
    simp only [ndQs, wtCs]; omega

set_option maxRecDepth 100000 in
set_option maxHeartbeats 2000000 in
/-- spec.ClauseValid. -/
theorem specCV_any (c : Cl) (A B : Option Addr) (cap capB lo hi : Nat) (w : World) (hk : KidsAt w lo hi c.kids A cap) (hkb : KidsAt w lo hi c.body B capB) (hh : hi ≤ w.heap.size) (hf : Fits c.k c.n c.s) (hnd : nodes c.kids ≤ 1048576) (hndb : nodes c.body ≤ 1048576) :
    Calls Tryz.prog 17 #[.agg #[.int .i64 c.k, .int .i64 c.n, .string c.s, .slice A c.kids.len cap, .slice B c.body.len capB]] w fun e w' => e = .returned (.bool (clauseV c)) ∧ Below w.heap.size w w' := by
  obtain ⟨k, n, s, kids, f⟩ := c
  simp only at *
  have hl : f.len ≤ 1048576 := by have := len_le_nodes f; omega
  have hb0 : Below w.heap.size w (w.alloc (.cells #[.int .i64 k, .int .i64 n, .string s, .slice A kids.len cap, .slice B f.len capB] 32)) := (Below.refl _ _).alloc (Nat.le_refl _) _
  have hq0 := Blk.new w 32 #[.int .i64 k, .int .i64 n, .string s, .slice A kids.len cap, .slice B f.len capB]
  have C1 := fun w1 (hb : Below w.heap.size w w1) => specValid_any k n s kids A cap lo hi w1 (hk.below hb hh) (Nat.le_trans hh hb.size) hf hnd
  have C2 := fun w1 => plain_any k n s A kids.len cap w1 hf.2.2
  have HE : Hid (clauseV ⟨k, n, s, kids, f⟩ = ((validT k n s kids && plainK k s kids.len) && (decide (f.len ≤ 6) && allG f))) := Lib.hid rfl
  generalize validT k n s kids = v1 at *
  generalize plainK k s kids.len = v2 at *
  have HKB := Lib.hid hkb
  have HHI := Lib.hid hh
  have HND := Lib.hid hndb
  have H1 := Lib.hid C1
  have H2 := Lib.hid C2
  have HB0 := Lib.hid hb0
  have HQ0 := Lib.hid hq0
  clear C1 C2 hk hkb hh hf hnd hndb hb0 hq0
  generalize kids.len = kl at *
  generalize hn : f.len = len at *
  have HN := Lib.hid hn
  clear hn
  go_enter Tryz.func17, Tryz.ntmps17
  go_wp2_with fail
  go_loopw [3] (fun i wr => ∃ (j : Nat), j ≤ len ∧ j ≤ 7 ∧ i = .int .i64 j ∧ allG (f.drop j) = allG f ∧ Below (w.alloc (.cells #[.int .i64 k, .int .i64 n, .string s, .slice A kl cap, .slice B len capB] 32)).heap.size (w.alloc (.cells #[.int .i64 k, .int .i64 n, .string s, .slice A kl cap, .slice B len capB] 32)) wr) (fun i _ => 8 - (intOf i).toNat)
  case atStart => exact ⟨0, Nat.zero_le _, by omega, rfl, rfl, Below.refl _ _⟩
  case round =>
    obtain ⟨j, hj, hj7, rfl, hall, hb⟩ := hrel
    have hq := HQ0.out.below hb HQ0.out.lt
    have a0 := hq.cell 0
    have a1 := hq.cell 1
    have a2 := hq.cell 2
    have a3 := hq.cell 3
    have a4 := hq.cell 4
    simp only [List.getElem?_toArray, List.getElem?_cons_zero, List.getElem?_cons_succ] at a0 a1 a2 a3 a4
    have hbw := HB0.out.trans (hb.mono HB0.out.size)
    have HB := Lib.hid hb
    have HBW := Lib.hid hbw
    have HA := Lib.hid hall
    have HQ := Lib.hid hq
    clear hb hall hq
    by_cases hlt : j < len
    · by_cases h6 : j ≤ 6
      · obtain ⟨kk, nn, s', kids', hd⟩ := Fr.drop_cons j f (by rw [HN.out]; exact hlt)
        obtain ⟨b, o, rfl, hlb, hbb, hrow⟩ := HKB.out.2.2 (by rw [HN.out]; omega)
        obtain ⟨hfit, A', cp, c0, c1, c2, c3, hkid⟩ := hrow.elem hd
        have hlo : (⟨b, o, none⟩ : Addr).block < w.heap.size := Nat.lt_of_lt_of_le hbb HHI.out
        have k0 := (hbw.cell (p := ⟨b, o + j * 4, none⟩) hlo).trans c0
        have k1 := (hbw.cell (p := ⟨b, o + j * 4 + 1, none⟩) hlo).trans c1
        have k2 := (hbw.cell (p := ⟨b, o + j * 4 + 2, none⟩) hlo).trans c2
        have k3 := (hbw.cell (p := ⟨b, o + j * 4 + 3, none⟩) hlo).trans c3
        have C3 := specGoal_any kk nn s' kids' A' cp lo hi wr (hkid.below hbw HHI.out) (Nat.le_trans HHI.out hbw.size) hfit (Nat.le_trans (nodes_drop_elem j f hd) HND.out)
        have hA2 := HA.out
        rw [hd] at hA2
        have hA3 : (goalV kk nn s' kids' && allG (f.drop (j + 1))) = allG f := hA2
        generalize goalV kk nn s' kids' = v at *
        have HA3 := Lib.hid hA3
        have H3 := Lib.hid C3
        clear C3 c0 c1 c2 c3 hkid hrow hfit hd hlo hA2 hA3 hbw
        cases v
        · have HV : Hid (clauseV ⟨k, n, s, kids, f⟩ = false) := Lib.hid (by rw [HE.out, ← HA3.out]; simp)
          go_wp2_with fail
          refine H3.out.mono ?_
          rintro e w3 ⟨rfl, hb3⟩
          have HB3 := Lib.hid (HBW.out.trans (hb3.mono HBW.out.size))
          clear hb3
          go_wp2_with fail
          go_ret
          rw [HV.out]; exact ⟨rfl, HB3.out⟩
        · have HA4 : Hid (allG (f.drop (j + 1)) = allG f) := Lib.hid (by rw [← HA3.out]; simp)
          go_wp2_with fail
          refine H3.out.mono ?_
          rintro e w3 ⟨rfl, hb3⟩
          have HB3 := Lib.hid (HB.out.trans (hb3.mono HB.out.size))
          clear hb3
          go_wp2_with fail
          go_roundw
          case rel => exact ⟨j + 1, by omega, by omega, by go_num, HA4.out, HB3.out⟩
          case measure => simp [intOf]; omega
      · have hlen6 : 6 < len := by omega
        have HV : Hid (clauseV ⟨k, n, s, kids, f⟩ = false) := Lib.hid (by rw [HE.out, decide_eq_false (by omega)]; simp)
        have d6 : decide ((len : Int) ≤ 6) = false := decide_eq_false (by omega)
        have e6 : decide ((j : Int) ≤ 6) = false := decide_eq_false (by omega)
        clear hbw
        go_wp2_with fail
        go_ret
        rw [HV.out]; exact ⟨rfl, HBW.out⟩
    · obtain rfl : j = len := by omega
      clear hbw
      by_cases h6 : j ≤ 6
      · have HAL : Hid (allG f = true) := Lib.hid (by
          have h1 := Fr.drop_len f
          rw [HN.out] at h1
          rw [← HA.out, h1]; rfl)
        have d6 : decide ((j : Int) ≤ 6) = true := decide_eq_true (by omega)
        cases v1
        · have HV : Hid (clauseV ⟨k, n, s, kids, f⟩ = false) := Lib.hid (by rw [HE.out]; rfl)
          go_wp2_with fail
          refine (H1.out _ HBW.out).mono ?_
          rintro e w3 ⟨rfl, hb3⟩
          have HB3 := Lib.hid (HBW.out.trans (hb3.mono HBW.out.size))
          clear hb3
          go_wp2_with fail
          go_ret
          rw [HV.out]; exact ⟨rfl, HB3.out⟩
        · have HV : Hid (clauseV ⟨k, n, s, kids, f⟩ = v2) := Lib.hid (by rw [HE.out, HAL.out, decide_eq_true h6]; simp)
          go_wp2_with fail
          refine (H1.out _ HBW.out).mono ?_
          rintro e w3 ⟨rfl, hb3⟩
          have hq3 := HQ.out.below hb3 HQ.out.lt
          have HB3 := Lib.hid (HBW.out.trans (hb3.mono HBW.out.size))
          clear hb3 a0 a1 a2 a3 a4
          have a0 := hq3.cell 0
          have a1 := hq3.cell 1
          have a2 := hq3.cell 2
          have a3 := hq3.cell 3
          simp only [List.getElem?_toArray, List.getElem?_cons_zero, List.getElem?_cons_succ] at a0 a1 a2 a3
          clear hq3
          go_wp2_with fail
          refine (H2.out _).mono ?_
          rintro e w4 ⟨rfl, hb4⟩
          have HB4 := Lib.hid (HB3.out.trans (hb4.mono HB3.out.size))
          clear hb4
          go_wp2_with fail
          go_ret
          rw [HV.out]; exact ⟨rfl, HB4.out⟩
      · have HV : Hid (clauseV ⟨k, n, s, kids, f⟩ = false) := Lib.hid (by rw [HE.out, decide_eq_false h6]; simp)
        have d6 : decide ((j : Int) ≤ 6) = false := decide_eq_false (by omega)
        go_wp2_with fail
        go_ret
        rw [HV.out]; exact ⟨rfl, HBW.out⟩

set_option maxRecDepth 100000 in
set_option maxHeartbeats 2000000 in
/-- spec.ProgramValid. -/
theorem specPVn_any (cs : List Cl) (A : Option Addr) (cap lo hi : Nat) (w : World) (hk : ClS w lo hi cs A cap) (hh : hi ≤ w.heap.size) (hnd : cs.length + ndQs cs ≤ 1048576) :
    Calls Tryz.prog 7 #[.slice A cs.length cap] w fun e w' => e = .returned (.bool (progV cs)) ∧ Below w.heap.size w w' := by
  have hl : cs.length ≤ 1048576 := by omega
  have HE : Hid (progV cs = (decide (cs.length ≤ 20) && allC cs)) := Lib.hid rfl
  have HK := Lib.hid hk
  have HHI := Lib.hid hh
  have HND := Lib.hid hnd
  clear hk hh hnd
  generalize hn : cs.length = len at *
  have HN := Lib.hid hn
  clear hn
  go_enter Tryz.func7, Tryz.ntmps7
  go_wp2_with fail
  go_loopw [3] (fun i wr => ∃ (j : Nat), j ≤ len ∧ j ≤ 21 ∧ i = .int .i64 j ∧ allC (cs.drop j) = allC cs ∧ Below w.heap.size w wr) (fun i _ => 22 - (intOf i).toNat)
  case atStart => exact ⟨0, Nat.zero_le _, by omega, rfl, rfl, Below.refl _ _⟩
  case round =>
    obtain ⟨j, hj, hj7, rfl, hall, hbw⟩ := hrel
    have HBW := Lib.hid hbw
    have HA := Lib.hid hall
    clear hall
    by_cases hlt : j < len
    · by_cases h6 : j ≤ 20
      · obtain ⟨c, hd⟩ := drop_cl cs j (by rw [HN.out]; exact hlt)
        obtain ⟨b, o, rfl, hlb, hbb, hrow⟩ := HK.out.2.2 (by rw [HN.out]; omega)
        obtain ⟨hfit, A', cap', B', capB', c0, c1, c2, c3, c4, hkid, hbd⟩ := ClAt.elem j cs b o hrow hd
        have hlo : (⟨b, o, none⟩ : Addr).block < w.heap.size := Nat.lt_of_lt_of_le hbb HHI.out
        have k0 := (hbw.cell (p := ⟨b, o + j * 5, none⟩) hlo).trans c0
        have k1 := (hbw.cell (p := ⟨b, o + j * 5 + 1, none⟩) hlo).trans c1
        have k2 := (hbw.cell (p := ⟨b, o + j * 5 + 2, none⟩) hlo).trans c2
        have k3 := (hbw.cell (p := ⟨b, o + j * 5 + 3, none⟩) hlo).trans c3
        have k4 := (hbw.cell (p := ⟨b, o + j * 5 + 4, none⟩) hlo).trans c4
        have hwe := ndQs_le cs j hd
        have hw1 := hwe
        have C3 := specCV_any c A' B' cap' capB' lo hi wr (hkid.below hbw HHI.out) (hbd.below hbw HHI.out) (Nat.le_trans HHI.out hbw.size) hfit (by have := HND.out; omega) (by have := HND.out; omega)
        have hA2 := HA.out
        rw [hd] at hA2
        have hA3 : (clauseV c && allC (cs.drop (j + 1))) = allC cs := hA2
        generalize clauseV c = v at *
        have HA3 := Lib.hid hA3
        have H3 := Lib.hid C3
        clear C3 c0 c1 c2 c3 c4 hkid hbd hrow hfit hd hlo hA2 hA3 hbw hwe hw1
        obtain ⟨ck, cn, csx, ckids, cbody⟩ := c
        simp only at *
        cases v
        · have HV : Hid (progV cs = false) := Lib.hid (by rw [HE.out, ← HA3.out]; simp)
          go_wp2_with fail
          refine H3.out.mono ?_
          rintro e w3 ⟨rfl, hb3⟩
          have HB3 := Lib.hid (HBW.out.trans (hb3.mono HBW.out.size))
          clear hb3
          go_wp2_with fail
          go_ret
          rw [HV.out]; exact ⟨rfl, HB3.out⟩
        · have HA4 : Hid (allC (cs.drop (j + 1)) = allC cs) := Lib.hid (by rw [← HA3.out]; simp)
          go_wp2_with fail
          refine H3.out.mono ?_
          rintro e w3 ⟨rfl, hb3⟩
          have HB3 := Lib.hid (HBW.out.trans (hb3.mono HBW.out.size))
          clear hb3
          go_wp2_with fail
          go_roundw
          case rel => exact ⟨j + 1, by omega, by omega, by go_num, HA4.out, HB3.out⟩
          case measure => simp [intOf]; omega
      · have HV : Hid (progV cs = false) := Lib.hid (by rw [HE.out, decide_eq_false (by omega)]; simp)
        have d6 : decide ((len : Int) ≤ 20) = false := decide_eq_false (by omega)
        have e6 : decide ((j : Int) ≤ 20) = false := decide_eq_false (by omega)
        clear hbw
        go_wp2_with fail
        go_ret
        rw [HV.out]; exact ⟨rfl, HBW.out⟩
    · obtain rfl : j = len := by omega
      clear hbw
      have HAL : Hid (allC cs = true) := Lib.hid (by
        rw [← HA.out, List.drop_eq_nil_of_le (by rw [HN.out]; exact Nat.le_refl _)]; rfl)
      by_cases h6 : j ≤ 20
      · have HV : Hid (progV cs = true) := Lib.hid (by rw [HE.out, HAL.out, decide_eq_true h6]; rfl)
        have d6 : decide ((j : Int) ≤ 20) = true := decide_eq_true (by omega)
        go_wp2_with fail
        go_ret
        rw [HV.out]; exact ⟨rfl, HBW.out⟩
      · have HV : Hid (progV cs = false) := Lib.hid (by rw [HE.out, decide_eq_false h6]; rfl)
        have d6 : decide ((j : Int) ≤ 20) = false := decide_eq_false (by omega)
        go_wp2_with fail
        go_ret
        rw [HV.out]; exact ⟨rfl, HBW.out⟩
/-- As before. -/
theorem specPV_any (cs : List Cl) (A : Option Addr) (cap lo hi : Nat) (w : World) (hk : ClS w lo hi cs A cap) (hh : hi ≤ w.heap.size) (hnd : cs.length + wtCs cs ≤ 1048576) :
    Calls Tryz.prog 7 #[.slice A cs.length cap] w fun e w' => e = .returned (.bool (progV cs)) ∧ Below w.heap.size w w' := specPVn_any cs A cap lo hi w hk hh (by have := nd_of_wt cs; omega)
end Go.Proofs.YtihmgodiiohdnaaGreatDoor

/- The texts of clauses and programs, as plain data; spec.l4Text, FormatClause, FormatProgram. Condition: the clauses lie in memory. -/
namespace Go.Proofs.YtihmgodiiohdnaaGreatDoor.wr
open Go.RowKit

/-- What is still to be written of a body, from goal j on. -/
def bdB (j : Nat) (f : Fr) : List UInt8 := if j = 0 then (match txs f with | [] => [] | t :: ts => 58 :: 45 :: (t ++ ts.flatMap (fun x => 44 :: x))) else (txs f).flatMap (fun x => 44 :: x)
theorem bdB_zero (k n : Int) (s : ByteArray) (kids rest : Fr) : bdB 0 (.cons k n s kids rest) = 58 :: 45 :: (txT k n s kids ++ bdB 1 rest) := by
  unfold bdB
  rw [if_pos rfl, if_neg (by decide), txs_cons]
theorem bdB_step (j : Nat) (hj : j ≠ 0) (k n : Int) (s : ByteArray) (kids rest : Fr) : bdB j (.cons k n s kids rest) = 44 :: (txT k n s kids ++ bdB (j + 1) rest) := by
  unfold bdB
  rw [if_neg hj, if_neg (by omega), txs_cons, List.flatMap_cons]
  rfl
theorem bdB_nil (j : Nat) : bdB j .nil = [] := by unfold bdB; split <;> rfl
/-- The text of a clause. -/
def clT (c : Cl) : List UInt8 := txT c.k c.n c.s c.kids ++ (bdB 0 c.body ++ [46])
def fcB (c : Cl) : List UInt8 := if clauseV c = true then clT c else []
/-- The text of a program. -/
def pgT (cs : List Cl) : List UInt8 := cs.flatMap fun c => clT c ++ [10]
def fpB (cs : List Cl) : List UInt8 := if progV cs = true then pgT cs else []
theorem goal_valid {k n : Int} {s : ByteArray} {kids : Fr} (h : goalV k n s kids = true) : validT k n s kids = true := by
  unfold goalV at h
  rw [Bool.and_eq_true] at h
  exact h.1
theorem plain_valid {k n : Int} {s : ByteArray} {kids : Fr} (h : plainV k n s kids = true) : validT k n s kids = true := by
  unfold plainV at h
  rw [Bool.and_eq_true] at h
  exact h.1
theorem valid_two {k n : Int} {s : ByteArray} {f : Fr} (h : validT k n s f = true) : shapeT k n s f 30 = true ∧ nodes f ≤ 119 ∧ (txT k n s f).length ≤ 4000 := by
  unfold validT at h
  rw [Bool.and_eq_true, decide_eq_true_iff] at h
  have := (txT_shape h.1).1
  exact ⟨h.1, by omega, by omega⟩
theorem goal_at {k n : Int} {s : ByteArray} {kids rest : Fr} : ∀ (f : Fr) (i : Nat), f.drop i = .cons k n s kids rest → allG f = true → goalV k n s kids = true
  | .nil, i, h, _ => by cases i <;> cases h
  | .cons _ _ _ _ _, 0, h, ha => by
    injection h with h1 h2 h3 h4 h5
    subst h1 h2 h3 h4
    exact (Bool.and_eq_true _ _ ▸ ha).1
  | .cons _ _ _ _ rest, i + 1, h, ha => goal_at rest i h (Bool.and_eq_true _ _ ▸ ha).2
theorem bdB_len (f : Fr) : ∀ j, allG f = true → (bdB j f).length ≤ 4002 * f.len := by
  induction f with
  | nil => intro j _; rw [bdB_nil]; simp
  | cons k n s kids rest _ ih =>
    intro j h
    have hb := Bool.and_eq_true _ _ ▸ h
    have h1 := (valid_two (goal_valid hb.1)).2.2
    have h2 := ih (j + 1) hb.2
    simp only [Fr.len]
    by_cases hj : j = 0
    · subst hj
      rw [bdB_zero]
      simp only [List.length_cons, List.length_append]
      rw [Nat.zero_add] at h2
      omega
    · rw [bdB_step j hj]
      simp only [List.length_cons, List.length_append]
      omega
theorem clause_two {c : Cl} (h : clauseV c = true) : validT c.k c.n c.s c.kids = true ∧ allG c.body = true ∧ c.body.len ≤ 6 := by
  unfold clauseV goalsV at h
  simp only [Bool.and_eq_true, decide_eq_true_eq] at h
  exact ⟨plain_valid h.1, h.2.2, h.2.1⟩
theorem clT_len {c : Cl} (h : clauseV c = true) : (clT c).length ≤ 30000 := by
  obtain ⟨h1, h2, h3⟩ := clause_two h
  have a := (valid_two h1).2.2
  have b := bdB_len c.body 0 h2
  unfold clT
  simp only [List.length_append, List.length_cons, List.length_nil]
  omega

set_option maxRecDepth 100000 in
set_option maxHeartbeats 4000000 in
/-- spec.l4Text. -/
theorem l4Text_any (c : Cl) (hv : clauseV c = true) (A B : Option Addr) (cap capB lo hi : Nat) (w : World) (hk : KidsAt w lo hi c.kids A cap) (hkb : KidsAt w lo hi c.body B capB) (hh : hi ≤ w.heap.size) :
    Calls Tryz.prog 79 #[.agg #[.int .i64 c.k, .int .i64 c.n, .string c.s, .slice A c.kids.len cap, .slice B c.body.len capB]] w fun e w' => e = .returned (.string ⟨(clT c).toArray⟩) ∧ Below w.heap.size w w' := by
  obtain ⟨h1, h2, h3⟩ := clause_two hv
  obtain ⟨hs1, hn1, hl1⟩ := valid_two h1
  have hlb := bdB_len c.body 0 h2
  have HCT : Hid (clT c = txT c.k c.n c.s c.kids ++ (bdB 0 c.body ++ [46])) := Lib.hid rfl
  have hb0 : Below w.heap.size w (w.alloc (.cells #[.int .i64 c.k, .int .i64 c.n, .string c.s, .slice A c.kids.len cap, .slice B c.body.len capB] 32)) := (Below.refl _ _).alloc (Nat.le_refl _) _
  have hq0 := Blk.new w 32 #[.int .i64 c.k, .int .i64 c.n, .string c.s, .slice A c.kids.len cap, .slice B c.body.len capB]
  have x0 := hq0.cell 0
  have x1 := hq0.cell 1
  have x2 := hq0.cell 2
  have x3 := hq0.cell 3
  simp only [List.getElem?_toArray, List.getElem?_cons_zero, List.getElem?_cons_succ] at x0 x1 x2 x3
  have C1 := tx_all c.kids.size c.s c.kids (Nat.le_refl _) c.k c.n A cap lo hi 30 _ (hk.below hb0 hh) (Nat.le_trans hh hb0.size) hs1 (by omega)
  have HB := Lib.hid hkb
  have HHI := Lib.hid hh
  have HALL := Lib.hid h2
  have HQ0 := Lib.hid hq0
  have HB0 := Lib.hid hb0
  have H1 := Lib.hid C1
  clear C1 hk hkb hh h1 h2 hs1 hn1 hb0 hq0 hv
  generalize txT c.k c.n c.s c.kids = T at *
  generalize clT c = R at *
  generalize c.k = k at *
  generalize c.n = n at *
  generalize c.s = s at *
  generalize c.kids.len = kl at *
  generalize c.body = f at *
  generalize hn : f.len = len at *
  have HN := Lib.hid hn
  clear hn
  go_enter Tryz.func79, Tryz.ntmps79
  go_wp2_with fail
  refine H1.out.mono ?_
  rintro e w2 ⟨rfl, hb⟩
  have HQ2 := Lib.hid (HQ0.out.below hb HQ0.out.lt)
  have HB2 := Lib.hid (HB0.out.trans (hb.mono HB0.out.size))
  clear hb x0 x1 x2 x3
  go_wp2_with fail
  go_loopw [3, 4] (fun ov i wr => ∃ (j : Nat) (L : List UInt8), j ≤ len ∧ i = .int .i64 j ∧ ov = .string ⟨L.toArray⟩ ∧ L ++ bdB j (f.drop j) = T ++ bdB 0 f ∧ Below w2.heap.size w2 wr) (fun _ i _ => len - (intOf i).toNat)
  case atStart => exact ⟨0, T, Nat.zero_le _, rfl, rfl, rfl, Below.refl _ _⟩
  case round =>
    obtain ⟨j, L, hj, rfl, rfl, hL, hb⟩ := hrel
    have hbw := HB2.out.trans (hb.mono HB2.out.size)
    have hq := HQ2.out.below hb HQ2.out.lt
    have x4 := hq.cell 4
    simp only [List.getElem?_toArray, List.getElem?_cons_zero, List.getElem?_cons_succ] at x4
    have HLE := Lib.hid hL
    have HBR := Lib.hid hb
    have HBW := Lib.hid hbw
    have hLl : L.length + (bdB j (f.drop j)).length ≤ 29000 := by have := congrArg List.length hL; simp only [List.length_append] at this; omega
    clear hL hq
    by_cases hlt : j < len
    · obtain ⟨kk, nn, ss, kids, hd⟩ := Fr.drop_cons j f (by rw [HN.out]; exact hlt)
      obtain ⟨b, o, rfl, hlb, hbb, hrow⟩ := HB.out.2.2 (by rw [HN.out]; omega)
      obtain ⟨hfit, A', cp, c0, c1, c2, c3, hkid⟩ := hrow.elem hd
      have hlo : (⟨b, o, none⟩ : Addr).block < w.heap.size := Nat.lt_of_lt_of_le hbb HHI.out
      have k0 := (hbw.cell (p := ⟨b, o + j * 4, none⟩) hlo).trans c0
      have k1 := (hbw.cell (p := ⟨b, o + j * 4 + 1, none⟩) hlo).trans c1
      have k2 := (hbw.cell (p := ⟨b, o + j * 4 + 2, none⟩) hlo).trans c2
      have k3 := (hbw.cell (p := ⟨b, o + j * 4 + 3, none⟩) hlo).trans c3
      obtain ⟨hs9, hn9, hl9⟩ := valid_two (goal_valid (goal_at f j hd HALL.out))
      have C3 := tx_all kids.size ss kids (Nat.le_refl _) kk nn A' cp lo hi 30 wr (hkid.below hbw HHI.out) (Nat.le_trans HHI.out hbw.size) hs9 (by omega)
      have hL2 := HLE.out
      have H3 := Lib.hid C3
      by_cases hj0 : j = 0
      · subst hj0
        have t0 : (((0 : Nat) : Int) == 0) = true := rfl
        rw [hd, bdB_zero] at hL2
        have HL2 := Lib.hid hL2
        clear C3 c0 c1 c2 c3 hkid hrow hfit hd hlo hL2 hb hbw hs9 hn9
        generalize txT kk nn ss kids = T3 at *
        have HSTR : Hid ((.string ((⟨L.toArray⟩ ++ ⟨#[58, 45]⟩) ++ ⟨T3.toArray⟩) : Value) = .string ⟨(L ++ 58 :: 45 :: T3).toArray⟩) := Lib.hid (by
          rw [show (⟨#[58, 45]⟩ : ByteArray) = ⟨[58, 45].toArray⟩ from rfl, ByteArray.mk_append_mk, ByteArray.mk_append_mk]
          simp)
        have HL3 : Hid ((L ++ 58 :: 45 :: T3) ++ bdB (0 + 1) (f.drop (0 + 1)) = T ++ bdB 0 f) := Lib.hid (by rw [← HL2.out]; simp)
        simp only [Nat.zero_mul, Nat.add_zero] at k0 k1 k2 k3
        go_wp2_with fail
        refine H3.out.mono ?_
        rintro e w3 ⟨rfl, hb3⟩
        have HB3 := Lib.hid (HBR.out.trans (hb3.mono HBR.out.size))
        clear hb3
        go_wp2_with fail
        go_roundw
        case rel => exact ⟨0 + 1, L ++ 58 :: 45 :: T3, by omega, by go_num, HSTR.out, HL3.out, HB3.out⟩
        case measure => simp [intOf]; omega
      · have t0 : ((j : Int) == 0) = false := by rw [beq_eq_false_iff_ne]; omega
        rw [hd, bdB_step j hj0] at hL2
        have HL2 := Lib.hid hL2
        clear C3 c0 c1 c2 c3 hkid hrow hfit hd hlo hL2 hb hbw hs9 hn9 hj0
        generalize txT kk nn ss kids = T3 at *
        have HSTR : Hid ((.string ((⟨L.toArray⟩ ++ ⟨#[44]⟩) ++ ⟨T3.toArray⟩) : Value) = .string ⟨(L ++ 44 :: T3).toArray⟩) := Lib.hid (by
          rw [show (⟨#[44]⟩ : ByteArray) = ⟨[44].toArray⟩ from rfl, ByteArray.mk_append_mk, ByteArray.mk_append_mk]
          simp)
        have HL3 : Hid ((L ++ 44 :: T3) ++ bdB (j + 1) (f.drop (j + 1)) = T ++ bdB 0 f) := Lib.hid (by rw [← HL2.out]; simp)
        go_wp2_with fail
        refine H3.out.mono ?_
        rintro e w3 ⟨rfl, hb3⟩
        have HB3 := Lib.hid (HBR.out.trans (hb3.mono HBR.out.size))
        clear hb3
        go_wp2_with fail
        go_roundw
        case rel => exact ⟨j + 1, L ++ 44 :: T3, by omega, by go_num, HSTR.out, HL3.out, HB3.out⟩
        case measure => simp [intOf]; omega
    · obtain rfl : j = len := by omega
      have hLL : L ++ [46] = R := by
        have h1 := Fr.drop_len f
        rw [HN.out] at h1
        have h2 := HLE.out
        rw [h1, bdB_nil, List.append_nil] at h2
        rw [HCT.out, h2, List.append_assoc]
      have HLL := Lib.hid hLL
      have HSTR : Hid ((.string (⟨L.toArray⟩ ++ ⟨#[46]⟩) : Value) = .string ⟨(L ++ [46]).toArray⟩) := Lib.hid (str_app L [46])
      clear hb hbw hLL
      go_wp2_with fail
      go_ret
      rw [← HLL.out]
      exact ⟨congrArg Ending.returned HSTR.out, HBW.out⟩
end Go.Proofs.YtihmgodiiohdnaaGreatDoor.wr

/- spec.FormatClause, FormatProgram. Condition: the clauses lie in memory. -/
namespace Go.Proofs.YtihmgodiiohdnaaGreatDoor.wr
open Go.RowKit

set_option maxRecDepth 100000 in
set_option maxHeartbeats 2000000 in
/-- spec.FormatClause. -/
theorem specFC_any (c : Cl) (A B : Option Addr) (cap capB lo hi : Nat) (w : World) (hk : KidsAt w lo hi c.kids A cap) (hkb : KidsAt w lo hi c.body B capB) (hh : hi ≤ w.heap.size) (hf : Fits c.k c.n c.s) (hnd : nodes c.kids ≤ 1048576) (hndb : nodes c.body ≤ 1048576) :
    Calls Tryz.prog 65 #[.agg #[.int .i64 c.k, .int .i64 c.n, .string c.s, .slice A c.kids.len cap, .slice B c.body.len capB]] w fun e w' => e = .returned (.string ⟨(fcB c).toArray⟩) ∧ Below w.heap.size w w' := by
  have hb0 : Below w.heap.size w (w.alloc (.cells #[.int .i64 c.k, .int .i64 c.n, .string c.s, .slice A c.kids.len cap, .slice B c.body.len capB] 32)) := (Below.refl _ _).alloc (Nat.le_refl _) _
  have hq0 := Blk.new w 32 #[.int .i64 c.k, .int .i64 c.n, .string c.s, .slice A c.kids.len cap, .slice B c.body.len capB]
  have C1 := specCV_any c A B cap capB lo hi _ (hk.below hb0 hh) (hkb.below hb0 hh) (Nat.le_trans hh hb0.size) hf hnd hndb
  have C2 := fun w1 (hb : Below w.heap.size w w1) (hv : clauseV c = true) => l4Text_any c hv A B cap capB lo hi w1 (hk.below hb hh) (hkb.below hb hh) (Nat.le_trans hh hb.size)
  have HE : Hid (fcB c = if clauseV c = true then clT c else []) := Lib.hid rfl
  have H1 := Lib.hid C1
  have H2 := Lib.hid C2
  have HB0 := Lib.hid hb0
  have HQ0 := Lib.hid hq0
  clear C1 C2 hk hkb hf hnd hndb hb0 hq0 hh
  generalize clT c = T at *
  generalize fcB c = R at *
  generalize clauseV c = cv at *
  generalize c.k = k at *
  generalize c.n = n at *
  generalize c.s = s at *
  generalize c.kids.len = kl at *
  generalize c.body.len = bl at *
  have back : ∀ w2, Below (w.alloc (.cells #[.int .i64 k, .int .i64 n, .string s, .slice A kl cap, .slice B bl capB] 32)).heap.size (w.alloc (.cells #[.int .i64 k, .int .i64 n, .string s, .slice A kl cap, .slice B bl capB] 32)) w2 → Below w.heap.size w w2 ∧ Blk w2 w.heap.size 32 #[.int .i64 k, .int .i64 n, .string s, .slice A kl cap, .slice B bl capB] := fun w2 hb => ⟨HB0.out.trans (hb.mono HB0.out.size), HQ0.out.below hb HQ0.out.lt⟩
  have HBK := Lib.hid back
  have x0 := HQ0.out.cell 0
  have x1 := HQ0.out.cell 1
  have x2 := HQ0.out.cell 2
  have x3 := HQ0.out.cell 3
  have x4 := HQ0.out.cell 4
  simp only [List.getElem?_toArray, List.getElem?_cons_zero, List.getElem?_cons_succ] at x0 x1 x2 x3 x4
  clear back
  cases cv
  · have HV : Hid (R = []) := Lib.hid (by rw [HE.out]; rfl)
    go_enter Tryz.func65, Tryz.ntmps65
    go_wp2_with fail
    refine H1.out.mono ?_
    rintro e w2 ⟨rfl, hb⟩
    obtain ⟨hbw, -⟩ := HBK.out w2 hb
    have HB2 := Lib.hid hbw
    clear hb hbw x0 x1 x2 x3 x4
    go_wp2_with fail
    go_ret
    rw [HV.out]; exact ⟨rfl, HB2.out⟩
  · have HV : Hid (R = T) := Lib.hid (by rw [HE.out]; rfl)
    go_enter Tryz.func65, Tryz.ntmps65
    go_wp2_with fail
    refine H1.out.mono ?_
    rintro e w2 ⟨rfl, hb⟩
    obtain ⟨hbw, hq⟩ := HBK.out w2 hb
    have HB2 := Lib.hid hbw
    clear hb hbw x0 x1 x2 x3 x4
    have x0 := hq.cell 0
    have x1 := hq.cell 1
    have x2 := hq.cell 2
    have x3 := hq.cell 3
    have x4 := hq.cell 4
    simp only [List.getElem?_toArray, List.getElem?_cons_zero, List.getElem?_cons_succ] at x0 x1 x2 x3 x4
    clear hq
    go_wp2_with fail
    refine (H2.out w2 HB2.out (by trivial)).mono ?_
    rintro e w3 ⟨rfl, hb⟩
    have HB3 := Lib.hid (HB2.out.trans (hb.mono HB2.out.size))
    clear hb
    go_wp2_with fail
    go_ret
    rw [HV.out]; exact ⟨rfl, HB3.out⟩

theorem allC_at {c : Cl} {rest : List Cl} : ∀ (cs : List Cl) (i : Nat), cs.drop i = c :: rest → allC cs = true → clauseV c = true
  | [], i, h, _ => by simp at h
  | c' :: cs, 0, h, ha => by
    injection h with h1 h2
    subst h1
    exact (Bool.and_eq_true _ _ ▸ ha).1
  | c' :: cs, i + 1, h, ha => allC_at cs i (by simpa using h) (Bool.and_eq_true _ _ ▸ ha).2
theorem pgT_cons (c : Cl) (cs : List Cl) : pgT (c :: cs) = clT c ++ 10 :: pgT cs := by unfold pgT; simp
theorem pgT_len : ∀ cs : List Cl, allC cs = true → (pgT cs).length ≤ 30001 * cs.length
  | [], _ => Nat.le_refl _
  | c :: cs, h => by
    have hb := Bool.and_eq_true _ _ ▸ h
    have h1 := clT_len hb.1
    have h2 := pgT_len cs hb.2
    rw [pgT_cons]
    simp only [List.length_append, List.length_cons]
    omega
theorem prog_two {cs : List Cl} (h : progV cs = true) : allC cs = true ∧ cs.length ≤ 20 := by
  unfold progV at h
  simp only [Bool.and_eq_true, decide_eq_true_eq] at h
  exact ⟨h.2, h.1⟩

end Go.Proofs.YtihmgodiiohdnaaGreatDoor.wr

/- spec.ParseClause. Condition: the text is no longer than a string can be. -/
namespace Go.Proofs.YtihmgodiiohdnaaGreatDoor.rdr
open Go.RowKit

theorem rdE_nodes {s : ByteArray} {a : Nat} {t : Tm} {e : Nat} (h : rdE s a = some (t, e)) : 1 + nodes t.2.2.2 + a ≤ e := (rd_nodes _).1 _ _ _ _ _ _ h
theorem rdG_nodes (n : Nat) : ∀ s a acc f e, rdG n s a acc = some (f, e) → nodes f + f.len + a ≤ nodes acc + acc.len + e + 1 := by
  induction n with
  | zero => intro s a acc f e h; rw [rdG] at h; cases h
  | succ n ih =>
    intro s a acc f e h
    rw [rdG] at h
    split at h
    · cases h
    · cases hq : rdE s a with
      | none => rw [hq] at h; cases h
      | some r =>
        obtain ⟨t, e1⟩ := r
        rw [hq] at h
        have h1 := rdE_nodes hq
        have h2 : nodes (acc.app (t.fr .nil)) = nodes acc + nodes t.2.2.2 + 1 := by rw [nodes_app, nodes_fr]; simp only [nodes]; omega
        have h3 : (acc.app (t.fr .nil)).len = acc.len + 1 := by rw [Fr.len_app]; rfl
        simp only at h
        split at h
        · injection h with h
          injection h with h4 h5
          subst h4 h5
          omega
        · have := ih _ _ _ _ _ h
          omega
/-- Whether what is read is a clause. -/
def pcF (s : ByteArray) (c : Cl) (q : Nat) : Option Cl := if q + 1 = s.size ∧ bA s q 46 = true ∧ wr.fcB c = s.data.toList then some c else none
/-- spec.ParseClause. -/
def pcR (s : ByteArray) : Option Cl :=
  if 1000 < s.size then none else match rdE s 0 with
  | none => none
  | some (t, p) => if bA s p 58 = true ∧ bA s (p + 1) 45 = true then (match rdG 8 s (p + 2) .nil with
      | none => none
      | some (g, q) => pcF s ⟨t.1, t.2.1, t.2.2.1, t.2.2.2, g⟩ q)
    else pcF s ⟨t.1, t.2.1, t.2.2.1, t.2.2.2, .nil⟩ p
theorem pcF_nodes {s : ByteArray} {c c' : Cl} {q : Nat} (h : pcF s c q = some c') : c' = c := by
  unfold pcF at h
  split at h
  · injection h with h; exact h.symm
  · cases h
/-- A clause that is read has few nodes. -/
theorem pcR_nodes {s : ByteArray} {c : Cl} (h : pcR s = some c) : nodes c.kids ≤ 1000 ∧ nodes c.body + c.body.len ≤ 1010 ∧ c.body.len ≤ 7 := by
  unfold pcR at h
  split at h
  · cases h
  · rename_i hs
    cases hq : rdE s 0 with
    | none => rw [hq] at h; cases h
    | some r =>
      obtain ⟨t, p⟩ := r
      rw [hq] at h
      have h1 := rdE_nodes hq
      have h2 := rdE_prog hq
      simp only at h
      split at h
      · cases hg : rdG 8 s (p + 2) .nil with
        | none => rw [hg] at h; cases h
        | some r2 =>
          obtain ⟨g, q⟩ := r2
          rw [hg] at h
          have h3 := rdG_nodes _ _ _ _ _ _ hg
          have h4 := rdG_prog _ _ _ _ _ _ hg
          obtain rfl := pcF_nodes h
          simp only [nodes, Fr.len] at h3 ⊢
          omega
      · obtain rfl := pcF_nodes h
        simp only [nodes, Fr.len]
        omega
def PcR (w : World) (r : Option Cl) (e : Ending) (w' : World) : Prop :=
  match r with
  | none => e = .returned (.tuple #[.agg #[.int .i64 0, .int .i64 0, .string ⟨#[]⟩, .slice none 0 0, .slice none 0 0], .bool false]) ∧ Below w.heap.size w w'
  | some c => ∃ A cap B capB, e = .returned (.tuple #[.agg #[.int .i64 c.k, .int .i64 c.n, .string c.s, .slice A c.kids.len cap, .slice B c.body.len capB], .bool true]) ∧ Fits c.k c.n c.s ∧ MadeCl w c A cap B capB w'
theorem PcR.fin0 {w w3 : World} (hb : Below w.heap.size w w3) (a b c d e : Value) : PcR w none (.returned (.tuple #[.agg #[.int .i64 0, .int .i64 0, .string ⟨#[]⟩, .slice none 0 0, .slice none 0 0], .bool false])) (((((w3.setCell ⟨w.heap.size, 0, none⟩ a).setCell ⟨w.heap.size, 1, none⟩ b).setCell ⟨w.heap.size, 2, none⟩ c).setCell ⟨w.heap.size, 3, none⟩ d).setCell ⟨w.heap.size, 4, none⟩ e) :=
  ⟨rfl, ((((hb.setCell (p := ⟨w.heap.size, 0, none⟩) (Nat.le_refl _) _).setCell (p := ⟨w.heap.size, 1, none⟩) (Nat.le_refl _) _).setCell (p := ⟨w.heap.size, 2, none⟩) (Nat.le_refl _) _).setCell (p := ⟨w.heap.size, 3, none⟩) (Nat.le_refl _) _).setCell (p := ⟨w.heap.size, 4, none⟩) (Nat.le_refl _) _⟩
theorem PcR.fin0a {w w3 : World} (hb : Below w.heap.size w w3) (a b c d e : Value) (o : Obj) : PcR w none (.returned (.tuple #[.agg #[.int .i64 0, .int .i64 0, .string ⟨#[]⟩, .slice none 0 0, .slice none 0 0], .bool false])) ((((((w3.setCell ⟨w.heap.size, 0, none⟩ a).setCell ⟨w.heap.size, 1, none⟩ b).setCell ⟨w.heap.size, 2, none⟩ c).setCell ⟨w.heap.size, 3, none⟩ d).setCell ⟨w.heap.size, 4, none⟩ e).alloc o) := by
  have h := (PcR.fin0 hb a b c d e).2
  exact ⟨rfl, h.trans (((Below.refl _ _).alloc (Nat.le_refl _) _).mono h.size)⟩
theorem PcR.fin {w w2 w3 : World} {c : Cl} {A B : Option Addr} {cap capB : Nat} (hb : Below w.heap.size w w2) (h2 : w.heap.size < w2.heap.size) (hf : Fits c.k c.n c.s) (hm : MadeCl w2 c A cap B capB w3) (x0 x1 x2 x3 x4 : Value) :
    PcR w (some c) (.returned (.tuple #[.agg #[.int .i64 c.k, .int .i64 c.n, .string c.s, .slice A c.kids.len cap, .slice B c.body.len capB], .bool true])) (((((w3.setCell ⟨w.heap.size, 0, none⟩ x0).setCell ⟨w.heap.size, 1, none⟩ x1).setCell ⟨w.heap.size, 2, none⟩ x2).setCell ⟨w.heap.size, 3, none⟩ x3).setCell ⟨w.heap.size, 4, none⟩ x4) := by
  obtain ⟨L1, L2, o1, o2, hn, hL, hb3⟩ := hm
  have hne : ∀ x, x ≠ w.heap.size → (((((w3.setCell ⟨w.heap.size, 0, none⟩ x0).setCell ⟨w.heap.size, 1, none⟩ x1).setCell ⟨w.heap.size, 2, none⟩ x2).setCell ⟨w.heap.size, 3, none⟩ x3).setCell ⟨w.heap.size, 4, none⟩ x4).heap[x]? = w3.heap[x]? := fun x hx => by
    rw [heap_setCell_other _ _ _ _ hx, heap_setCell_other _ _ _ _ hx, heap_setCell_other _ _ _ _ hx, heap_setCell_other _ _ _ _ hx, heap_setCell_other _ _ _ _ hx]
  have hsz : (((((w3.setCell ⟨w.heap.size, 0, none⟩ x0).setCell ⟨w.heap.size, 1, none⟩ x1).setCell ⟨w.heap.size, 2, none⟩ x2).setCell ⟨w.heap.size, 3, none⟩ x3).setCell ⟨w.heap.size, 4, none⟩ x4).heap.size = w3.heap.size := by simp [World.setCell]
  have hbw := hb.trans (hb3.mono hb.size)
  refine ⟨A, cap, B, capB, rfl, hf, L1, L2, o1.keep fun x hx => hne x (by have := hL x (by simp [hx]); omega), o2.keep fun x hx => hne x (by have := hL x (by simp [hx]); omega), hn, fun x hx => by rw [hsz]; have := hL x hx; omega, (PcR.fin0 hbw x0 x1 x2 x3 x4).2⟩
set_option maxRecDepth 100000 in
set_option maxHeartbeats 8000000 in
/-- From the test of the dot on. -/
theorem pcF_yes {s : ByteArray} {c : Cl} {q : Nat} (h1 : q + 1 = s.size) (h2 : bA s q 46 = true) (h3 : wr.fcB c = s.data.toList) : pcF s c q = some c := by unfold pcF; rw [if_pos ⟨h1, h2, h3⟩]
theorem pcF_no {s : ByteArray} {c : Cl} {q : Nat} (h : ¬ (q + 1 = s.size ∧ bA s q 46 = true ∧ wr.fcB c = s.data.toList)) : pcF s c q = none := by unfold pcF; rw [if_neg h]
set_option maxRecDepth 100000 in
set_option maxHeartbeats 8000000 in
theorem pc_zero (s : ByteArray) (w : World) (hm0 : s.size ≤ maxLen) (h : 1000 < s.size ∨ rdE s 0 = none) : Calls Tryz.prog 45 #[.string s] w fun e w' => PcR w none e w' := by
  unfold maxLen at hm0
  have hb0 : Below w.heap.size w (w.alloc (.cells #[.int .i64 0, .int .i64 0, .string ⟨#[]⟩, .slice none 0 0, .slice none 0 0] 32)) := (Below.refl _ _).alloc (Nat.le_refl _) _
  have hq0 := Blk.new w 32 #[.int .i64 0, .int .i64 0, .string ⟨#[]⟩, .slice none 0 0, .slice none 0 0]
  have HB0 := Lib.hid hb0
  have HQ0 := Lib.hid hq0
  clear hb0 hq0
  by_cases hs : 1000 < s.size
  · have t0 : (s.size : Int) > 1000 := by omega
    clear hs h
    have HB2 := HB0
    have HQ2 := HQ0
    obtain ⟨d0, d1, d2, d3, d4⟩ := dcells5 HQ2.out
    obtain ⟨f0, f1, f2, f3, f4⟩ := dfrozen5 HQ2.out
    go_enter Tryz.func45, Tryz.ntmps45
    go_wp2_with fail
    refine bodyPost_ret (v := .tuple #[.agg #[.int .i64 0, .int .i64 0, .string ⟨#[]⟩, .slice none 0 0, .slice none 0 0], .bool false]) ?_ rfl ⟨rfl, HB2.out⟩
    exact results_cell_row2 Tryz.results45 _ _ w.heap.size _ _ _ _ rfl HQ2.out Tryz.underlying32 rfl (by kernel_rfl)
  · have hq : rdE s 0 = none := h.resolve_left hs
    have t0 : ¬ (s.size : Int) > 1000 := by omega
    have C1 := read_any s 0 (w.alloc (.cells #[.int .i64 0, .int .i64 0, .string ⟨#[]⟩, .slice none 0 0, .slice none 0 0] 32)) (by omega) (by omega)
    rw [show ((0 : Nat) : Int) = 0 from rfl, hq] at C1
    have H1 := Lib.hid C1
    clear C1 hq h
    go_enter Tryz.func45, Tryz.ntmps45
    go_wp2_with fail
    refine H1.out.mono ?_
    intro e w2 hr2
    obtain ⟨hb, z, hz, rfl⟩ := hr2.none_
    have hzl := hz.2
    have HB2 := Lib.hid (HB0.out.trans (hb.mono HB0.out.size))
    have HQ2 := Lib.hid (HQ0.out.below hb HQ0.out.lt)
    have hl2 := HQ2.out.lt
    clear hb hz hr2
    obtain ⟨d0, d1, d2, d3, d4⟩ := dcells5 HQ2.out
    obtain ⟨f0, f1, f2, f3, f4⟩ := dfrozen5 HQ2.out
    go_wp2_with fail
    refine bodyPost_ret (v := .tuple #[.agg #[.int .i64 0, .int .i64 0, .string ⟨#[]⟩, .slice none 0 0, .slice none 0 0], .bool false]) ?_ rfl (PcR.fin0a HB2.out _ _ _ _ _ _)
    exact results_cell_row2 Tryz.results45 _ _ w.heap.size _ _ _ _ rfl ((dset5 HQ2.out _ _ _ _ _).alloc _) Tryz.underlying32 rfl (by kernel_rfl)
end Go.Proofs.YtihmgodiiohdnaaGreatDoor.rdr

/- spec.ParseClause: a fact. Condition: the text is no longer than a string can be. -/
namespace Go.Proofs.YtihmgodiiohdnaaGreatDoor.rdr
open Go.RowKit

set_option maxRecDepth 100000 in
set_option maxHeartbeats 8000000 in
theorem pc_fact (s : ByteArray) (w : World) (hs : s.size ≤ 1000) (k m : Int) (s0 : ByteArray) (f : Fr) (p : Nat) (hq : rdE s 0 = some ((k, m, s0, f), p)) (h58 : bA s p 58 = false) :
    Calls Tryz.prog 45 #[.string s] w fun e w' => PcR w (pcF s ⟨k, m, s0, f, .nil⟩ p) e w' := by
  have hb0 : Below w.heap.size w (w.alloc (.cells #[.int .i64 0, .int .i64 0, .string ⟨#[]⟩, .slice none 0 0, .slice none 0 0] 32)) := (Below.refl _ _).alloc (Nat.le_refl _) _
  have hq0 := Blk.new w 32 #[.int .i64 0, .int .i64 0, .string ⟨#[]⟩, .slice none 0 0, .slice none 0 0]
  have HB0 := Lib.hid hb0
  have HQ0 := Lib.hid hq0
  clear hb0 hq0
  have t0 : ¬ (s.size : Int) > 1000 := by omega
  have C1 := read_any s 0 (w.alloc (.cells #[.int .i64 0, .int .i64 0, .string ⟨#[]⟩, .slice none 0 0, .slice none 0 0] 32)) (by omega) (by omega)
  rw [show ((0 : Nat) : Int) = 0 from rfl, hq] at C1
  have hp := rdE_prog hq
  have hnd := rdE_nodes hq
  have t8 : ¬ (p : Int) < 0 := by omega
  have hp1 : p ≤ 1000 := by omega
  have H1 := Lib.hid C1
  have HNA : Hid (nodes f ≤ 1048576) := Lib.hid (by simp only at hnd; omega)
  have C58 := fun w1 => sign_any s p 58 w1 (by unfold maxLen; omega) (by unfold maxLen; omega)
  have C45 := fun w1 => sign_any s (p + 1) 45 w1 (by unfold maxLen; omega) (by unfold maxLen; omega)
  rw [show ((p + 1 : Nat) : Int) = (p : Int) + 1 by omega] at C45
  change ∀ w1, Calls _ _ _ _ fun e w' => e = .returned (.bool (bA s p 58)) ∧ w' = w1 at C58
  change ∀ w1, Calls _ _ _ _ fun e w' => e = .returned (.bool (bA s (p + 1) 45)) ∧ w' = w1 at C45
  rw [h58] at C58
  have H58 := Lib.hid C58
  clear C1 hq hnd C58 h58
  clear C45
  go_enter Tryz.func45, Tryz.ntmps45
  go_wp2_with fail
  refine H1.out.mono ?_
  intro e w2 hr2
  obtain ⟨hb, A, cap, rfl, hf, hk⟩ := hr2.some_
  have hb3 : Below w2.heap.size w2 ((w2.alloc (.cells #[.int .i64 k, .int .i64 m, .string s0, .slice A f.len cap] 30)).alloc (.cells #[.int .i64 k, .int .i64 m, .string s0, .slice A f.len cap, .slice none 0 0] 32)) := two_alloc _ _ _
  have hb23 := hb.trans (hb3.mono hb.size)
  have HB3 := Lib.hid (HB0.out.trans (hb23.mono HB0.out.size))
  have HQ3 := Lib.hid (HQ0.out.below hb23 HQ0.out.lt)
  have HC3 : Hid (Blk ((w2.alloc (.cells #[.int .i64 k, .int .i64 m, .string s0, .slice A f.len cap] 30)).alloc (.cells #[.int .i64 k, .int .i64 m, .string s0, .slice A f.len cap, .slice none 0 0] 32)) (w2.heap.size + 1) 32 #[.int .i64 k, .int .i64 m, .string s0, .slice A f.len cap, .slice none 0 0]) := Lib.hid (by
    have h := Blk.new (w2.alloc (.cells #[.int .i64 k, .int .i64 m, .string s0, .slice A f.len cap] 30)) 32 #[.int .i64 k, .int .i64 m, .string s0, .slice A f.len cap, .slice none 0 0]
    simpa using h)
  have HF := Lib.hid hf
  have HK3 := Lib.hid ((hk.below hb3 (Nat.le_refl _)).more (hi' := w2.heap.size + 1) (Nat.zero_le _) (Nat.le_succ _))
  have HWG : Hid (w.heap.size < w2.heap.size + 1) := Lib.hid (by have := hb.size; simp at this; omega)
  clear hb hf hk hb3 hb23 hr2
  go_wp2_with fail
  generalize (w2.alloc (.cells #[.int .i64 k, .int .i64 m, .string s0, .slice A f.len cap] 30)).alloc (.cells #[.int .i64 k, .int .i64 m, .string s0, .slice A f.len cap, .slice none 0 0] 32) = w3 at *
  generalize w2.heap.size + 1 = G at *
  refine (H58.out _).mono ?_
  rintro e w9 ⟨rfl, hw⟩
  rw [hw]
  clear hw
  have HB5 := HB3
  have HQ5 := HQ3
  have HC5 := HC3
  have HKA : Hid (KidsAt w3 0 w3.heap.size f A cap) := Lib.hid (HK3.out.more (Nat.zero_le _) (Nat.le_of_lt HC3.out.lt))
  have HKB : Hid (KidsAt w3 0 w3.heap.size .nil none 0) := Lib.hid (KidsAt.nil _ _ _ _ _ (Nat.zero_le _))
  have HNB : Hid (nodes Fr.nil ≤ 1048576) := Lib.hid (by decide)
  have C46 := fun w1 => sign_any s p 46 w1 (by unfold maxLen; omega) (by unfold maxLen; omega)
  have CF := wr.specFC_any ⟨k, m, s0, f, .nil⟩ A none cap 0 0 w3.heap.size w3 HKA.out HKB.out (Nat.le_refl _) HF.out HNA.out HNB.out
  have CC4 := fun w1 (hb : Below w3.heap.size w3 w1) => cpC_any ⟨k, m, s0, f, .nil⟩ A none cap 0 0 w3.heap.size w1 (HKA.out.below hb (Nat.le_refl _)) (HKB.out.below hb (Nat.le_refl _)) hb.size HF.out HNA.out HNB.out
  change ∀ w1, Calls _ _ _ _ fun e w' => e = .returned (.bool (bA s p 46)) ∧ w' = w1 at C46
  have hstr : (⟨(wr.fcB ⟨k, m, s0, f, .nil⟩).toArray⟩ : ByteArray).toList = wr.fcB ⟨k, m, s0, f, .nil⟩ := by rw [ByteArray.toList_eq]
  have hss : s.toList = s.data.toList := by rw [ByteArray.toList_eq]
  obtain ⟨a0, a1, a2, a3, a4⟩ := dcells5 HC5.out
  by_cases z1 : p + 1 = s.size
  · have t1 : (p : Int) = (s.size : Int) - 1 := by omega
    have eq1 : (p : Int) = (s.size : Int) - 1 := by omega
    rw [eq1] at C46
    clear eq1
    cases z2 : bA s p 46 with
    | false =>
      rw [z2] at C46
      have H46 := Lib.hid C46
      have HR : Hid (pcF s ⟨k, m, s0, f, .nil⟩ p = none) := Lib.hid (pcF_no fun h => by rw [z2] at h; cases h.2.1)
      have HB2 := HB5
      have HQ2 := HQ5
      obtain ⟨d0, d1, d2, d3, d4⟩ := dcells5 HQ2.out
      obtain ⟨f0, f1, f2, f3, f4⟩ := dfrozen5 HQ2.out
      clear C46 CF CC4 z1 z2 hstr hss a0 a1 a2 a3 a4
      go_wp2_with fail
      refine (H46.out _).mono ?_
      rintro e w9 ⟨rfl, hw⟩
      rw [hw]
      clear hw
      go_wp2_with fail
      refine bodyPost_ret (v := .tuple #[.agg #[.int .i64 0, .int .i64 0, .string ⟨#[]⟩, .slice none 0 0, .slice none 0 0], .bool false]) ?_ rfl (by rw [HR.out]; exact PcR.fin0 HB2.out _ _ _ _ _)
      exact results_cell_row2 Tryz.results45 _ _ w.heap.size _ _ _ _ rfl (dset5 HQ2.out _ _ _ _ _) Tryz.underlying32 rfl (by kernel_rfl)
    | true =>
      rw [z2] at C46
      have H46 := Lib.hid C46
      by_cases z3 : wr.fcB ⟨k, m, s0, f, .nil⟩ = s.data.toList
      · have HR : Hid (pcF s ⟨k, m, s0, f, .nil⟩ p = some ⟨k, m, s0, f, .nil⟩) := Lib.hid (pcF_yes z1 z2 z3)
        have t3 : ((⟨(wr.fcB ⟨k, m, s0, f, .nil⟩).toArray⟩ : ByteArray).toList == s.toList) = true := by rw [beq_iff_eq, hstr, hss]; exact z3
        generalize (⟨(wr.fcB ⟨k, m, s0, f, .nil⟩).toArray⟩ : ByteArray) = bs at *
        have HCF := Lib.hid CF
        have HCC := Lib.hid CC4
        clear C46 CF CC4 z1 z2 z3 hstr hss
        go_wp2_with fail
        refine (H46.out _).mono ?_
        rintro e w9 ⟨rfl, hw⟩
        rw [hw]
        clear hw
        go_wp2_with fail
        refine HCF.out.mono ?_
        rintro e w6 ⟨rfl, hb⟩
        have HB56 := Lib.hid hb
        clear hb a0 a1 a2 a3 a4
        obtain ⟨a0, a1, a2, a3, a4⟩ := dcells5 (HC5.out.below HB56.out HC5.out.lt)
        go_wp2_with fail
        refine (HCC.out _ HB56.out).mono ?_
        rintro e w7 ⟨A9, c9, B9, cb9, rfl, hm⟩
        have hb67 := hm.at_.2.2
        have hb57 := HB56.out.trans (hb67.mono HB56.out.size)
        have HQ2 := Lib.hid (HQ5.out.below hb57 HQ5.out.lt)
        have HM := Lib.hid hm
        clear hm hb67 hb57 a0 a1 a2 a3 a4
        obtain ⟨d0, d1, d2, d3, d4⟩ := dcells5 HQ2.out
        obtain ⟨f0, f1, f2, f3, f4⟩ := dfrozen5 HQ2.out
        go_wp2_with fail
        refine bodyPost_ret (v := .tuple #[.agg #[.int .i64 k, .int .i64 m, .string s0, .slice A9 f.len c9, .slice B9 0 cb9], .bool true]) ?_ rfl (by rw [HR.out]; exact PcR.fin (c := ⟨k, m, s0, f, .nil⟩) (HB5.out.trans (HB56.out.mono HB5.out.size)) (by have := HQ5.out.lt; have := HB56.out.size; omega) HF.out HM.out _ _ _ _ _)
        exact results_cell_row2 Tryz.results45 _ _ w.heap.size _ _ _ _ rfl (dset5 HQ2.out _ _ _ _ _) Tryz.underlying32 rfl (by kernel_rfl)
      · have HR : Hid (pcF s ⟨k, m, s0, f, .nil⟩ p = none) := Lib.hid (pcF_no fun h => z3 h.2.2)
        have t3 : ((⟨(wr.fcB ⟨k, m, s0, f, .nil⟩).toArray⟩ : ByteArray).toList == s.toList) = false := by rw [beq_eq_false_iff_ne, hstr, hss]; exact z3
        generalize (⟨(wr.fcB ⟨k, m, s0, f, .nil⟩).toArray⟩ : ByteArray) = bs at *
        have HCF := Lib.hid CF
        clear C46 CF CC4 z1 z2 z3 hstr hss
        go_wp2_with fail
        refine (H46.out _).mono ?_
        rintro e w9 ⟨rfl, hw⟩
        rw [hw]
        clear hw
        go_wp2_with fail
        refine HCF.out.mono ?_
        rintro e w6 ⟨rfl, hb⟩
        have HB2 := Lib.hid (HB5.out.trans (hb.mono HB5.out.size))
        have HQ2 := Lib.hid (HQ5.out.below hb HQ5.out.lt)
        clear hb a0 a1 a2 a3 a4
        obtain ⟨d0, d1, d2, d3, d4⟩ := dcells5 HQ2.out
        obtain ⟨f0, f1, f2, f3, f4⟩ := dfrozen5 HQ2.out
        go_wp2_with fail
        refine bodyPost_ret (v := .tuple #[.agg #[.int .i64 0, .int .i64 0, .string ⟨#[]⟩, .slice none 0 0, .slice none 0 0], .bool false]) ?_ rfl (by rw [HR.out]; exact PcR.fin0 HB2.out _ _ _ _ _)
        exact results_cell_row2 Tryz.results45 _ _ w.heap.size _ _ _ _ rfl (dset5 HQ2.out _ _ _ _ _) Tryz.underlying32 rfl (by kernel_rfl)
  · have t1 : ¬ (p : Int) = (s.size : Int) - 1 := by omega
    have HR : Hid (pcF s ⟨k, m, s0, f, .nil⟩ p = none) := Lib.hid (pcF_no fun h => z1 h.1)
    have HB2 := HB5
    have HQ2 := HQ5
    obtain ⟨d0, d1, d2, d3, d4⟩ := dcells5 HQ2.out
    obtain ⟨f0, f1, f2, f3, f4⟩ := dfrozen5 HQ2.out
    clear C46 CF CC4 z1 hstr hss a0 a1 a2 a3 a4
    go_wp2_with fail
    refine bodyPost_ret (v := .tuple #[.agg #[.int .i64 0, .int .i64 0, .string ⟨#[]⟩, .slice none 0 0, .slice none 0 0], .bool false]) ?_ rfl (by rw [HR.out]; exact PcR.fin0 HB2.out _ _ _ _ _)
    exact results_cell_row2 Tryz.results45 _ _ w.heap.size _ _ _ _ rfl (dset5 HQ2.out _ _ _ _ _) Tryz.underlying32 rfl (by kernel_rfl)
end Go.Proofs.YtihmgodiiohdnaaGreatDoor.rdr
