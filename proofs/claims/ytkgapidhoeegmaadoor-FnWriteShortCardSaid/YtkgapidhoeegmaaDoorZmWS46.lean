/- The model's texts with operators: spec.l2Text at every term; spec.WriteTerm. Condition: the term lies in memory. -/
import Derived.Test.YtkgapidhoeegmaaDoorProg
import Derived.Test.YtkgapidhoeegmaaDoorZmWS45
import Derived.Test.YtkgapidhoeegmaaDoorZmWS44
import Derived.Test.YtkgapidhoeegmaaDoorOwn
import Derived.Test.YtkgapidhoeegmaaDoorOpA
import Derived.WalkKit
import Derived.WalkSpells
import Derived.Outline
import Derived.Laws.Rows
import Derived.Below
import Derived.Lib.Hide
import Derived.Maps.Own
import Derived.Maps.OwnOps
import Derived.Maps.OwnSet
import Derived.StringKeys
import Derived.Deep.RegionHeld3
import Derived.Deep.QuietTactic
import Derived.BigQuiet
namespace Go.Proofs.YtkgapidhoeegmaaDoor.wr
open Go.RowKit

theorem name_pos3 {l : List UInt8} (h : nv.nameB l = true) : l ≠ [] := fun e => by subst e; exact absurd h (by decide)
theorem dec_ne (u : Nat) : Lib.decDigits u ≠ [] := by
  by_cases h : u < 10
  · rw [Lib.decDigits_one h]; simp
  · rw [Lib.decDigits.eq_def, dif_neg h]; simp
theorem itoa_ne (n : Int) : Lib.itoa n ≠ [] := by
  unfold Lib.itoa
  split
  · simp
  · exact dec_ne _
theorem txT_ne {k n : Int} {s : ByteArray} {f : Fr} {d : Int} (h : shapeT k n s f d = true) : 0 < (txT k n s f).length := by
  refine List.length_pos_iff.2 ?_
  rcases shapeT_kind3 h with ⟨rfl, _⟩ | ⟨rfl, _⟩ | rfl
  · rw [txT_var]; unfold letB; simp
  · rw [txT_int]; exact itoa_ne n
  · cases hp : pairB 3 s f.len
    · cases hi : infB 3 s f.len
      · rw [txT_str hp hi]
        have := name_pos3 (shapeT_struct h).2.1
        simp [this]
      · obtain ⟨_, _, k1, n1, s1, kd1, k2, n2, s2, kd2, rfl⟩ := inf_kids hi
        rw [txT_inf hp hi]
        have hs : s.data.toList ≠ [] := name_pos3 (shapeT_struct h).2.1
        have : spB s.data.toList ≠ [] := by
          unfold spB
          split
          · simp
          · exact hs
        simp [this]
    · obtain ⟨k1, n1, s1, kd1, k2, n2, s2, kd2, rfl, _, _⟩ := pair_yes n hp
      rw [txT_pair n hp]; simp
theorem txT_leaf {k n : Int} {s : ByteArray} {f : Fr} (h : k = 1 ∨ k = 2 ∨ k = 3 ∧ f = .nil) : txT k n s f = Go.Proofs.YtkgapidhoeegmaaDoor.txT k n s f := by
  rcases h with rfl | rfl | ⟨rfl, rfl⟩
  · rw [txT_var, Go.Proofs.YtkgapidhoeegmaaDoor.txT_var]
  · rw [txT_int, Go.Proofs.YtkgapidhoeegmaaDoor.txT_int]
  · have h1 : pairB 3 s Fr.nil.len = false := by simp [pairB, Fr.len]
    have h2 : infB 3 s Fr.nil.len = false := by simp [infB, Fr.len]
    rw [txT_str h1 h2, Go.Proofs.YtkgapidhoeegmaaDoor.txT_str h1]
    rfl

set_option maxRecDepth 100000 in
set_option maxHeartbeats 4000000 in
/-- spec.l2Text where it hands on to spec.l1Text. -/
theorem txt_leaf (k n : Int) (s : ByteArray) (f : Fr) (h0 : k = 1 ∨ k = 2 ∨ k = 3 ∧ f = .nil) (A : Option Addr) (cap lo hi : Nat) (d : Int) (w : World) (hk : KidsAt w lo hi f A cap) (hh : hi ≤ w.heap.size) (hs : shapeT k n s f d = true) (hnd : nodes f ≤ 1048576) :
    Calls Tryd.prog 25 #[.agg #[.int .i64 k, .int .i64 n, .string s, .slice A f.len cap]] w fun e w' => e = .returned (.string ⟨(txT k n s f).toArray⟩) ∧ Below w.heap.size w w' := by
  have hb0 : Below w.heap.size w (w.alloc (.cells #[.int .i64 k, .int .i64 n, .string s, .slice A f.len cap] 28)) := (Below.refl _ _).alloc (Nat.le_refl _) _
  have hq0 := Blk.new w 28 #[.int .i64 k, .int .i64 n, .string s, .slice A f.len cap]
  obtain ⟨x0, x1, x2, x3⟩ := cells4i hq0
  have hp : pairB k s f.len = false := by
    rcases h0 with rfl | rfl | ⟨rfl, rfl⟩ <;> simp [pairB, Fr.len]
  have hi0 : infB k s f.len = false := by
    rcases h0 with rfl | rfl | ⟨rfl, rfl⟩ <;> simp [infB, Fr.len]
  have C1 := fun w1 => pair_any k n s A f.len cap w1
  have C2 := fun w1 => infix_any k n s A f.len cap w1
  have C3 := fun w1 (hb : Below w.heap.size w w1) => tx_all f.size s f (Nat.le_refl _) k n A cap lo hi d w1 (hk.below hb hh) (Nat.le_trans hh hb.size) hs hnd
  rw [hp] at C1
  rw [hi0] at C2
  rw [txT_leaf h0]
  have HQ := Lib.hid hq0
  have HB0 := Lib.hid hb0
  have H1 := Lib.hid C1
  have H2 := Lib.hid C2
  have H3 := Lib.hid C3
  have h9 : (k == 3) = false ∨ k = 3 ∧ f.len = 0 := by
    rcases h0 with rfl | rfl | ⟨rfl, rfl⟩
    · exact .inl rfl
    · exact .inl rfl
    · exact .inr ⟨rfl, rfl⟩
  clear h0 C1 C2 C3 hk hs hnd hb0 hq0 hh hp hi0
  generalize Go.Proofs.YtkgapidhoeegmaaDoor.txT k n s f = T at *
  generalize f.len = len at *
  have back : ∀ w2, Below (w.alloc (.cells #[.int .i64 k, .int .i64 n, .string s, .slice A len cap] 28)).heap.size (w.alloc (.cells #[.int .i64 k, .int .i64 n, .string s, .slice A len cap] 28)) w2 → Below w.heap.size w w2 ∧ Blk w2 w.heap.size 28 #[.int .i64 k, .int .i64 n, .string s, .slice A len cap] := fun w2 hb => ⟨HB0.out.trans (hb.mono HB0.out.size), HQ.out.below hb HQ.out.lt⟩
  have HBK := Lib.hid back
  clear back
  rcases h9 with t0 | ⟨rfl, rfl⟩
  · go_enter Tryd.func25, Tryd.ntmps25
    go_wp2_with fail
    refine (H1.out _).mono ?_
    rintro e w2 ⟨rfl, hb⟩
    obtain ⟨hbw, hq⟩ := HBK.out w2 hb
    clear x0 x1 x2 x3 hb
    obtain ⟨x0, x1, x2, x3⟩ := cells4i hq
    have HB2 := Lib.hid hbw
    have HQ2 := Lib.hid hq
    have hs2 := hq.lt
    clear hq hbw
    go_wp2_with fail
    refine (H2.out _).mono ?_
    rintro e w3 ⟨rfl, hb⟩
    have HB3 := Lib.hid (HB2.out.trans (hb.mono HB2.out.size))
    have hq := HQ2.out.below hb hs2
    clear x0 x1 x2 x3 hb
    obtain ⟨x0, x1, x2, x3⟩ := cells4i hq
    clear hq
    go_wp2_with fail
    refine (H3.out w3 HB3.out).mono ?_
    rintro e w4 ⟨rfl, hb⟩
    have HB4 := Lib.hid (HB3.out.trans (hb.mono HB3.out.size))
    clear hb
    go_wp2_with fail
    go_ret
    exact ⟨rfl, HB4.out⟩
  · go_enter Tryd.func25, Tryd.ntmps25
    go_wp2_with fail
    refine (H1.out _).mono ?_
    rintro e w2 ⟨rfl, hb⟩
    obtain ⟨hbw, hq⟩ := HBK.out w2 hb
    clear x0 x1 x2 x3 hb
    obtain ⟨x0, x1, x2, x3⟩ := cells4i hq
    have HB2 := Lib.hid hbw
    have HQ2 := Lib.hid hq
    have hs2 := hq.lt
    clear hq hbw
    go_wp2_with fail
    refine (H2.out _).mono ?_
    rintro e w3 ⟨rfl, hb⟩
    have HB3 := Lib.hid (HB2.out.trans (hb.mono HB2.out.size))
    have hq := HQ2.out.below hb hs2
    clear x0 x1 x2 x3 hb
    obtain ⟨x0, x1, x2, x3⟩ := cells4i hq
    clear hq
    have t0 : ¬ (0 : Int) < ((0 : Nat) : Int) := by decide
    go_wp2_with fail
    refine (H3.out w3 HB3.out).mono ?_
    rintro e w4 ⟨rfl, hb⟩
    have HB4 := Lib.hid (HB3.out.trans (hb.mono HB3.out.size))
    clear hb
    go_wp2_with fail
    go_ret
    exact ⟨rfl, HB4.out⟩

set_option maxRecDepth 100000 in
set_option maxHeartbeats 8000000 in
/-- spec.l2Text of an operator and its operands. -/
theorem txt_inf (n : Int) (s : ByteArray) (f : Fr) (hpf : pairB 3 s f.len = false) (hif : infB 3 s f.len = true) (h : ∀ s' f', f'.size < f.size → TxC s' f') (A : Option Addr) (cap lo hi : Nat) (d : Int) (w : World) (hk : KidsAt w lo hi f A cap) (hh : hi ≤ w.heap.size) (hs : shapeT 3 n s f d = true) (hnd : nodes f ≤ 1048576) :
    Calls Tryd.prog 25 #[.agg #[.int .i64 3, .int .i64 n, .string s, .slice A f.len cap]] w fun e w' => e = .returned (.string ⟨(txT 3 n s f).toArray⟩) ∧ Below w.heap.size w w' := by
  obtain ⟨_, hlv, k1, n1, s1, kd1, k2, n2, s2, kd2, rfl⟩ := inf_kids hif
  have hG := txT_inf (n := n) (k1 := k1) (n1 := n1) (s1 := s1) (kd1 := kd1) (k2 := k2) (n2 := n2) (s2 := s2) (kd2 := kd2) hpf hif
  have hGl := (txT_shape hs).1
  have hG2 : (txT 3 n s (.cons k1 n1 s1 kd1 (.cons k2 n2 s2 kd2 .nil))).length ≤ 67108864 := by omega
  rw [hG] at hG2
  simp only [List.length_append] at hG2
  rw [hG]
  have hsk := shapeT_kids hs
  rw [shapeF_cons, shapeF_cons, Bool.and_eq_true, Bool.and_eq_true] at hsk
  have hlr := op.level_range s.data.toList
  have hs6 : s.size ≤ 6 := nameB_size (shapeT_struct hs).2.1
  have hz1 : kd1.size < (Fr.cons k1 n1 s1 kd1 (.cons k2 n2 s2 kd2 .nil)).size := by simp only [Fr.size]; omega
  have hz2 : kd2.size < (Fr.cons k1 n1 s1 kd1 (.cons k2 n2 s2 kd2 .nil)).size := by simp only [Fr.size]; omega
  have hnd1 : nodes kd1 ≤ 1048576 ∧ nodes kd2 ≤ 1048576 := by simp only [nodes] at hnd; omega
  obtain ⟨b, o, rfl, hlb, hbb, hrow⟩ := hk.2.2 (by simp [Fr.len])
  obtain ⟨hfit1, A1, cp1, c0, c1, c2, c3, hkid1⟩ := hrow.elem (i := 0) rfl
  obtain ⟨hfit2, A2, cp2, e0, e1, e2, e3, hkid2⟩ := hrow.elem (i := 1) rfl
  simp only [Nat.zero_mul, Nat.one_mul, Nat.add_zero] at c0 c1 c2 c3 e0 e1 e2 e3
  have hlo : b < w.heap.size := Nat.lt_of_lt_of_le hbb hh
  have hcap := hk.2.1
  have hcap2 : 2 ≤ cap := hk.1
  unfold maxLen at hcap
  have hln : (Fr.cons k1 n1 s1 kd1 (.cons k2 n2 s2 kd2 .nil)).len = 2 := rfl
  rw [hln] at hpf hif ⊢
  have hb0 : Below w.heap.size w (w.alloc (.cells #[.int .i64 3, .int .i64 n, .string s, .slice (some ⟨b, o, none⟩) (2 : Nat) cap] 28)) := (Below.refl _ _).alloc (Nat.le_refl _) _
  have hq0 := Blk.new w 28 #[.int .i64 3, .int .i64 n, .string s, .slice (some ⟨b, o, none⟩) (2 : Nat) cap]
  obtain ⟨x0, x1, x2, x3⟩ := cells4i hq0
  have HC : Hid (∀ x, Below w.heap.size w x → x.cell? ⟨b, o, none⟩ = some (.int .i64 k1) ∧ x.cell? ⟨b, o + 1, none⟩ = some (.int .i64 n1) ∧ x.cell? ⟨b, o + 2, none⟩ = some (.string s1) ∧ x.cell? ⟨b, o + 3, none⟩ = some (.slice A1 kd1.len cp1) ∧
      x.cell? ⟨b, o + 4, none⟩ = some (.int .i64 k2) ∧ x.cell? ⟨b, o + 4 + 1, none⟩ = some (.int .i64 n2) ∧ x.cell? ⟨b, o + 4 + 2, none⟩ = some (.string s2) ∧ x.cell? ⟨b, o + 4 + 3, none⟩ = some (.slice A2 kd2.len cp2)) := Lib.hid fun x hb => by
    have all : ∀ i, x.cell? ⟨b, i, none⟩ = w.cell? ⟨b, i, none⟩ := fun i => hb.cell (p := ⟨b, i, none⟩) hlo
    exact ⟨(all _).trans c0, (all _).trans c1, (all _).trans c2, (all _).trans c3, (all _).trans e0, (all _).trans e1, (all _).trans e2, (all _).trans e3⟩
  have C1 := fun w1 => pair_any 3 n s (some ⟨b, o, none⟩) 2 cap w1
  have C2 := fun w1 => infix_any 3 n s (some ⟨b, o, none⟩) 2 cap w1
  have C3 := fun w1 => op.l2_any s w1
  have hlf : 0 ≤ lfl (op.level s.data.toList) ∧ lfl (op.level s.data.toList) ≤ 3 := by unfold lfl; split <;> omega
  have C4 := fun w1 (hb : Below w.heap.size w w1) => left_of s1 kd1 (h s1 kd1 hz1) k1 n1 (lfl (op.level s.data.toList)) hlf A1 cp1 lo hi (d - 1) w1 (hkid1.below hb hh) (Nat.le_trans hh hb.size) hsk.1 hnd1.1
  have C5 := fun w1 (hb : Below w.heap.size w w1) => right_of s2 kd2 (h s2 kd2 hz2) k2 n2 (op.level s.data.toList - 1) (by omega) (txT_ne hsk.2.1) A2 cp2 lo hi (d - 1) w1 (hkid2.below hb hh) (Nat.le_trans hh hb.size) hsk.2.1 hnd1.2
  have C6 := fun w1 => spaced_any s w1 hs6
  rw [hpf] at C1
  rw [hif] at C2
  have HLF : Hid (lfl (op.level s.data.toList) = if op.level s.data.toList = 3 then 2 else op.level s.data.toList) := Lib.hid rfl
  have HQ := Lib.hid hq0
  have HB0 := Lib.hid hb0
  have H1 := Lib.hid C1
  have H2 := Lib.hid C2
  have H3 := Lib.hid C3
  have H4 := Lib.hid C4
  have H5 := Lib.hid C5
  have H6 := Lib.hid C6
  have HSTR := Lib.hid (inf_str (lefT k1 n1 s1 kd1 (lfl (op.level s.data.toList))) (spB s.data.toList) (rigT k2 n2 s2 kd2 (op.level s.data.toList - 1)))
  have hal := hlo
  clear h C1 C2 C3 C4 C5 C6 hk hs hnd hb0 hq0 hh hpf hif hG hGl hsk hz1 hz2 hnd1 hrow hfit1 hfit2 hkid1 hkid2 c0 c1 c2 c3 e0 e1 e2 e3 hlb hbb hln hlf hs6
  generalize lefT k1 n1 s1 kd1 (lfl (op.level s.data.toList)) = TL at *
  generalize spB s.data.toList = TS at *
  generalize rigT k2 n2 s2 kd2 (op.level s.data.toList - 1) = TR at *
  generalize op.level s.data.toList = lv at *
  generalize kd1.len = len1 at *
  generalize kd2.len = len2 at *
  have back : ∀ w2, Below (w.alloc (.cells #[.int .i64 3, .int .i64 n, .string s, .slice (some ⟨b, o, none⟩) (2 : Nat) cap] 28)).heap.size (w.alloc (.cells #[.int .i64 3, .int .i64 n, .string s, .slice (some ⟨b, o, none⟩) (2 : Nat) cap] 28)) w2 → Below w.heap.size w w2 ∧ Blk w2 w.heap.size 28 #[.int .i64 3, .int .i64 n, .string s, .slice (some ⟨b, o, none⟩) (2 : Nat) cap] := fun w2 hb => ⟨HB0.out.trans (hb.mono HB0.out.size), HQ.out.below hb HQ.out.lt⟩
  have HBK := Lib.hid back
  clear back
  have t1 : ¬ 9223372036854775807 < TL.length + TS.length := by omega
  have t2 : ¬ 9223372036854775807 < TL.length + TS.length + TR.length := by omega
  have t3 : IntKind.i64.wrap (lv - 1) = lv - 1 := IntWalk.i64_in _ (by omega)
  have HT3 := Lib.hid t3
  clear t3
  go_enter Tryd.func25, Tryd.ntmps25
  go_wp2_with fail
  refine (H1.out _).mono ?_
  rintro e w2 ⟨rfl, hb⟩
  obtain ⟨hbw, hq⟩ := HBK.out w2 hb
  clear x0 x1 x2 x3 hb
  obtain ⟨x0, x1, x2, x3⟩ := cells4i hq
  have HB2 := Lib.hid hbw
  have HQ2 := Lib.hid hq
  have hs2 := hq.lt
  clear hq hbw
  go_wp2_with fail
  refine (H2.out _).mono ?_
  rintro e w3 ⟨rfl, hb⟩
  have HB3 := Lib.hid (HB2.out.trans (hb.mono HB2.out.size))
  have hq := HQ2.out.below hb hs2
  have HQ3 := Lib.hid hq
  have hs3 := hq.lt
  clear x0 x1 x2 x3 hb
  obtain ⟨x0, x1, x2, x3⟩ := cells4i hq
  obtain ⟨y0, y1, y2, y3, y4, y5, y6, y7⟩ := HC.out w3 HB3.out
  clear hq
  have hal3 : b < w3.heap.size := Nat.lt_trans hal hs3
  have hl3 : lv = 3 ∨ lv ≠ 3 := by omega
  rcases hl3 with rfl | hne
  · rw [if_pos rfl] at HLF
    rw [HLF.out] at H4
    have t4 : ((3 : Int) == 3) = true := rfl
    have t3 := HT3.out
    go_wp2_with (first | (go_at_call 17; refine (H3.out _).mono ?_; rintro e w3 ⟨rfl, rfl⟩) | fail)
    go_region_held3 (fun w' => w'.cell? ⟨w.heap.size, 0, none⟩ = some (.int .i64 3) ∧ w'.cell? ⟨w.heap.size, 1, none⟩ = some (.int .i64 n) ∧ w'.cell? ⟨w.heap.size, 2, none⟩ = some (.string s) ∧ w'.cell? ⟨w.heap.size, 3, none⟩ = some (.slice (some ⟨b, o, none⟩) (2 : Nat) cap) ∧
        w'.cell? ⟨b, o, none⟩ = some (.int .i64 k1) ∧ w'.cell? ⟨b, o + 1, none⟩ = some (.int .i64 n1) ∧ w'.cell? ⟨b, o + 2, none⟩ = some (.string s1) ∧ w'.cell? ⟨b, o + 3, none⟩ = some (.slice A1 len1 cp1) ∧
        w'.cell? ⟨b, o + 4, none⟩ = some (.int .i64 k2) ∧ w'.cell? ⟨b, o + 4 + 1, none⟩ = some (.int .i64 n2) ∧ w'.cell? ⟨b, o + 4 + 2, none⟩ = some (.string s2) ∧ w'.cell? ⟨b, o + 4 + 3, none⟩ = some (.slice A2 len2 cp2))
      (first | exact ⟨q0, q1, q2, q3, q4, q5, q6, q7, q8, q9, q10, q11⟩ | exact ⟨z0, z1, z2, z3, z4, z5, z6, z7, z8, z9, z10, z11⟩ | exact ⟨x0, x1, x2, x3, y0, y1, y2, y3, y4, y5, y6, y7⟩)
      (first
        | (go_at_call 41
           refine (H4.out _ HB3.out.drew).mono ?_
           rintro e w5 ⟨rfl, hb5⟩
           have hd5 : Below w3.heap.size w3 w5 := (Below.refl w3.heap.size w3).drew.trans hb5
           have hb5w : Below w.heap.size w w5 := HB3.out.trans (hd5.mono HB3.out.size)
           obtain ⟨z0, z1, z2, z3⟩ := cells4i (HQ3.out.below hd5 hs3)
           obtain ⟨z4, z5, z6, z7, z8, z9, z10, z11⟩ := HC.out w5 hb5w
           have HB5 := Lib.hid hb5w
           have HQ5 := Lib.hid (HQ3.out.below hd5 hs3)
           have hs5 : w.heap.size < w5.heap.size := Nat.lt_of_lt_of_le hs3 hd5.size
           clear hb5 hd5 hb5w)
        | (go_at_call 42
           refine (H6.out _).mono ?_
           rintro e w5 ⟨rfl, rfl⟩)
        | (go_at_call 43
           refine (H5.out _ HB5.out).mono ?_
           rintro e w6 ⟨rfl, hb6⟩
           have hb6w : Below w.heap.size w w6 := HB5.out.trans (hb6.mono HB5.out.size)
           obtain ⟨q0, q1, q2, q3⟩ := cells4i (HQ5.out.below hb6 hs5)
           obtain ⟨q4, q5, q6, q7, q8, q9, q10, q11⟩ := HC.out w6 hb6w
           have HB6 := Lib.hid hb6w
           clear hb6 hb6w))
    go_wp2_with fail
    go_ret
    exact ⟨congrArg Ending.returned HSTR.out, HB6.out⟩
  · rw [if_neg hne] at HLF
    rw [HLF.out] at H4
    have t4 : (lv == 3) = false := by rw [beq_eq_false_iff_ne]; exact hne
    have t3 := HT3.out
    clear hne
    go_wp2_with (first | (go_at_call 17; refine (H3.out _).mono ?_; rintro e w3 ⟨rfl, rfl⟩) | fail)
    go_region_held3 (fun w' => w'.cell? ⟨w.heap.size, 0, none⟩ = some (.int .i64 3) ∧ w'.cell? ⟨w.heap.size, 1, none⟩ = some (.int .i64 n) ∧ w'.cell? ⟨w.heap.size, 2, none⟩ = some (.string s) ∧ w'.cell? ⟨w.heap.size, 3, none⟩ = some (.slice (some ⟨b, o, none⟩) (2 : Nat) cap) ∧
        w'.cell? ⟨b, o, none⟩ = some (.int .i64 k1) ∧ w'.cell? ⟨b, o + 1, none⟩ = some (.int .i64 n1) ∧ w'.cell? ⟨b, o + 2, none⟩ = some (.string s1) ∧ w'.cell? ⟨b, o + 3, none⟩ = some (.slice A1 len1 cp1) ∧
        w'.cell? ⟨b, o + 4, none⟩ = some (.int .i64 k2) ∧ w'.cell? ⟨b, o + 4 + 1, none⟩ = some (.int .i64 n2) ∧ w'.cell? ⟨b, o + 4 + 2, none⟩ = some (.string s2) ∧ w'.cell? ⟨b, o + 4 + 3, none⟩ = some (.slice A2 len2 cp2))
      (first | exact ⟨q0, q1, q2, q3, q4, q5, q6, q7, q8, q9, q10, q11⟩ | exact ⟨z0, z1, z2, z3, z4, z5, z6, z7, z8, z9, z10, z11⟩ | exact ⟨x0, x1, x2, x3, y0, y1, y2, y3, y4, y5, y6, y7⟩)
      (first
        | (go_at_call 41
           refine (H4.out _ HB3.out.drew).mono ?_
           rintro e w5 ⟨rfl, hb5⟩
           have hd5 : Below w3.heap.size w3 w5 := (Below.refl w3.heap.size w3).drew.trans hb5
           have hb5w : Below w.heap.size w w5 := HB3.out.trans (hd5.mono HB3.out.size)
           obtain ⟨z0, z1, z2, z3⟩ := cells4i (HQ3.out.below hd5 hs3)
           obtain ⟨z4, z5, z6, z7, z8, z9, z10, z11⟩ := HC.out w5 hb5w
           have HB5 := Lib.hid hb5w
           have HQ5 := Lib.hid (HQ3.out.below hd5 hs3)
           have hs5 : w.heap.size < w5.heap.size := Nat.lt_of_lt_of_le hs3 hd5.size
           clear hb5 hd5 hb5w)
        | (go_at_call 42
           refine (H6.out _).mono ?_
           rintro e w5 ⟨rfl, rfl⟩)
        | (go_at_call 43
           refine (H5.out _ HB5.out).mono ?_
           rintro e w6 ⟨rfl, hb6⟩
           have hb6w : Below w.heap.size w w6 := HB5.out.trans (hb6.mono HB5.out.size)
           obtain ⟨q0, q1, q2, q3⟩ := cells4i (HQ5.out.below hb6 hs5)
           obtain ⟨q4, q5, q6, q7, q8, q9, q10, q11⟩ := HC.out w6 hb6w
           have HB6 := Lib.hid hb6w
           clear hb6 hb6w))
    go_wp2_with fail
    go_ret
    exact ⟨congrArg Ending.returned HSTR.out, HB6.out⟩
end Go.Proofs.YtkgapidhoeegmaaDoor.wr

/- The model's texts with operators: spec.l2Text at every term; spec.WriteTerm. Condition: the term lies in memory. -/
namespace Go.Proofs.YtkgapidhoeegmaaDoor.wr
open Go.RowKit

set_option maxRecDepth 100000 in
set_option maxHeartbeats 4000000 in
/-- spec.l2Text of a structure with arguments. -/
theorem txt_str (n : Int) (s : ByteArray) (f : Fr) (hpf : pairB 3 s f.len = false) (hif : infB 3 s f.len = false) (hpos : 0 < f.len) (h : ∀ s' f', f'.size < f.size → TxC s' f') (A : Option Addr) (cap lo hi : Nat) (d : Int) (w : World) (hk : KidsAt w lo hi f A cap) (hh : hi ≤ w.heap.size) (hs : shapeT 3 n s f d = true) (hnd : nodes f ≤ 1048576) :
    Calls Tryd.prog 25 #[.agg #[.int .i64 3, .int .i64 n, .string s, .slice A f.len cap]] w fun e w' => e = .returned (.string ⟨(txT 3 n s f).toArray⟩) ∧ Below w.heap.size w w' := by
  have hGl := (txT_shape hs).1
  have hG2 : (txT 3 n s f).length ≤ 67108864 := by omega
  have hG : txT 3 n s f = s.data.toList ++ (40 :: (remB 0 f ++ [41])) := by rw [txT_str hpf hif, argsB_rem, if_neg (by omega)]
  rw [hG] at hG2
  simp only [List.length_append, List.length_cons] at hG2
  have hsz : s.data.toList.length = s.size := rfl
  rw [hG]
  have hb0 : Below w.heap.size w (w.alloc (.cells #[.int .i64 3, .int .i64 n, .string s, .slice A f.len cap] 28)) := (Below.refl _ _).alloc (Nat.le_refl _) _
  have hq0 := Blk.new w 28 #[.int .i64 3, .int .i64 n, .string s, .slice A f.len cap]
  obtain ⟨x0, x1, x2, x3⟩ := cells4i hq0
  have C1 := fun w1 => pair_any 3 n s A f.len cap w1
  have C2 := fun w1 => infix_any 3 n s A f.len cap w1
  have C3 := fun w1 (hb : Below w.heap.size w w1) => args_of f (fun j k n s kids rest hd => h s kids (by have h1 := Fr.size_drop j f; rw [hd] at h1; simp only [Fr.size] at h1; omega)) (d - 1) A cap lo hi w1 (hk.below hb hh) (Nat.le_trans hh hb.size) (shapeT_kids hs) hnd (by omega)
  rw [hpf] at C1
  rw [hif] at C2
  have HQ := Lib.hid hq0
  have HB0 := Lib.hid hb0
  have H1 := Lib.hid C1
  have H2 := Lib.hid C2
  have H3 := Lib.hid C3
  have HSTR := Lib.hid (str_args s (remB 0 f))
  have t0 : (0 : Int) < (f.len : Int) := by omega
  have t1 : ¬ 9223372036854775807 < s.size + 1 := by omega
  have t2 : ¬ 9223372036854775807 < s.size + 1 + (remB 0 f).length := by omega
  have t3 : ¬ 9223372036854775807 < s.size + 1 + (remB 0 f).length + 1 := by omega
  clear h C1 C2 C3 hk hs hnd hb0 hq0 hh hpf hif hG hGl hsz hpos
  generalize remB 0 f = RB at *
  generalize f.len = len at *
  have back : ∀ w2, Below (w.alloc (.cells #[.int .i64 3, .int .i64 n, .string s, .slice A len cap] 28)).heap.size (w.alloc (.cells #[.int .i64 3, .int .i64 n, .string s, .slice A len cap] 28)) w2 → Below w.heap.size w w2 ∧ Blk w2 w.heap.size 28 #[.int .i64 3, .int .i64 n, .string s, .slice A len cap] := fun w2 hb => ⟨HB0.out.trans (hb.mono HB0.out.size), HQ.out.below hb HQ.out.lt⟩
  have HBK := Lib.hid back
  clear back
  go_enter Tryd.func25, Tryd.ntmps25
  go_wp2_with fail
  refine (H1.out _).mono ?_
  rintro e w2 ⟨rfl, hb⟩
  obtain ⟨hbw, hq⟩ := HBK.out w2 hb
  clear x0 x1 x2 x3 hb
  obtain ⟨x0, x1, x2, x3⟩ := cells4i hq
  have HB2 := Lib.hid hbw
  have HQ2 := Lib.hid hq
  have hs2 := hq.lt
  clear hq hbw
  go_wp2_with fail
  refine (H2.out _).mono ?_
  rintro e w3 ⟨rfl, hb⟩
  have HB3 := Lib.hid (HB2.out.trans (hb.mono HB2.out.size))
  have hq := HQ2.out.below hb hs2
  have HQ3 := Lib.hid hq
  have hs3 := hq.lt
  clear x0 x1 x2 x3 hb
  obtain ⟨x0, x1, x2, x3⟩ := cells4i hq
  clear hq
  go_wp2_with fail
  go_region_held3 (fun w' => w'.cell? ⟨w.heap.size, 0, none⟩ = some (.int .i64 3) ∧ w'.cell? ⟨w.heap.size, 1, none⟩ = some (.int .i64 n) ∧ w'.cell? ⟨w.heap.size, 2, none⟩ = some (.string s) ∧ w'.cell? ⟨w.heap.size, 3, none⟩ = some (.slice A len cap))
    (first | exact ⟨z0, z1, z2, z3⟩ | exact ⟨x0, x1, x2, x3⟩)
    (first
      | (go_at_call 44
         refine (H3.out _ HB3.out.drew).mono ?_
         rintro e w5 ⟨rfl, hb5⟩
         have hd5 : Below w3.heap.size w3 w5 := (Below.refl w3.heap.size w3).drew.trans hb5
         obtain ⟨z0, z1, z2, z3⟩ := cells4i (HQ3.out.below hd5 hs3)
         have HB5 := Lib.hid (HB3.out.trans (hd5.mono HB3.out.size))
         clear hb5 hd5))
  go_wp2_with fail
  go_ret
  exact ⟨congrArg Ending.returned HSTR.out, HB5.out⟩

set_option maxRecDepth 100000 in
set_option maxHeartbeats 4000000 in
/-- spec.l2Text of a list. -/
theorem txt_list (n : Int) (s : ByteArray) (f : Fr) (hpf : pairB 3 s f.len = true) (h : ∀ s' f', f'.size < f.size → TxC s' f') (A : Option Addr) (cap lo hi : Nat) (d : Int) (w : World) (hk : KidsAt w lo hi f A cap) (hh : hi ≤ w.heap.size) (hs : shapeT 3 n s f d = true) (hnd : nodes f ≤ 1048576) :
    Calls Tryd.prog 25 #[.agg #[.int .i64 3, .int .i64 n, .string s, .slice A f.len cap]] w fun e w' => e = .returned (.string ⟨(txT 3 n s f).toArray⟩) ∧ Below w.heap.size w w' := by
  have hb0 : Below w.heap.size w (w.alloc (.cells #[.int .i64 3, .int .i64 n, .string s, .slice A f.len cap] 28)) := (Below.refl _ _).alloc (Nat.le_refl _) _
  have hq0 := Blk.new w 28 #[.int .i64 3, .int .i64 n, .string s, .slice A f.len cap]
  obtain ⟨x0, x1, x2, x3⟩ := cells4i hq0
  have hlo : lo ≤ w.heap.size := by
    obtain ⟨b, o, _, h1, h2, _⟩ := hk.2.2 (by have := (pairB_len hpf).1; omega)
    omega
  have C1 := fun w1 => pair_any 3 n s A f.len cap w1
  have C3 := fun w1 (hb : Below w.heap.size w w1) => list_of s f h 3 n A cap lo hi d w1 (hk.below hb hh) (Nat.le_trans hh hb.size) (Nat.le_trans hlo hb.size) hpf hs hnd
  rw [hpf] at C1
  have HQ := Lib.hid hq0
  have HB0 := Lib.hid hb0
  have H1 := Lib.hid C1
  have H3 := Lib.hid C3
  clear h C1 C3 hk hs hnd hb0 hq0 hh hpf hlo
  generalize txT 3 n s f = T at *
  generalize f.len = len at *
  have back : ∀ w2, Below (w.alloc (.cells #[.int .i64 3, .int .i64 n, .string s, .slice A len cap] 28)).heap.size (w.alloc (.cells #[.int .i64 3, .int .i64 n, .string s, .slice A len cap] 28)) w2 → Below w.heap.size w w2 ∧ Blk w2 w.heap.size 28 #[.int .i64 3, .int .i64 n, .string s, .slice A len cap] := fun w2 hb => ⟨HB0.out.trans (hb.mono HB0.out.size), HQ.out.below hb HQ.out.lt⟩
  have HBK := Lib.hid back
  clear back
  go_enter Tryd.func25, Tryd.ntmps25
  go_wp2_with fail
  refine (H1.out _).mono ?_
  rintro e w2 ⟨rfl, hb⟩
  obtain ⟨hbw, hq⟩ := HBK.out w2 hb
  clear x0 x1 x2 x3 hb
  obtain ⟨x0, x1, x2, x3⟩ := cells4i hq
  have HB2 := Lib.hid hbw
  clear hq hbw
  go_wp2_with fail
  refine (H3.out _ HB2.out).mono ?_
  rintro e w3 ⟨rfl, hb⟩
  have HB3 := Lib.hid (HB2.out.trans (hb.mono HB2.out.size))
  clear hb
  go_wp2_with fail
  go_ret
  exact ⟨rfl, HB3.out⟩

theorem txt_of (s : ByteArray) (f : Fr) (h : ∀ s' f', f'.size < f.size → TxC s' f') : TxC s f := by
  intro k n A cap lo hi d w hk hh hs hnd
  rcases shapeT_kind3 hs with ⟨rfl, _⟩ | ⟨rfl, _⟩ | rfl
  · exact txt_leaf 1 n s f (.inl rfl) A cap lo hi d w hk hh hs hnd
  · exact txt_leaf 2 n s f (.inr (.inl rfl)) A cap lo hi d w hk hh hs hnd
  · cases hp : pairB 3 s f.len
    · cases hi1 : infB 3 s f.len
      · by_cases h0 : f.len = 0
        · have hf : f = .nil := by
            cases f with
            | nil => rfl
            | cons _ _ _ _ _ => simp [Fr.len] at h0
          exact txt_leaf 3 n s f (.inr (.inr ⟨rfl, hf⟩)) A cap lo hi d w hk hh hs hnd
        · exact txt_str n s f hp hi1 (by omega) h A cap lo hi d w hk hh hs hnd
      · exact txt_inf n s f hp hi1 h A cap lo hi d w hk hh hs hnd
    · exact txt_list n s f hp h A cap lo hi d w hk hh hs hnd
theorem tx_all (N : Nat) : ∀ (s : ByteArray) (f : Fr), f.size ≤ N → TxC s f := by
  induction N with
  | zero => exact fun s f hf => txt_of s f fun s' f' h => by omega
  | succ N ih => exact fun s f hf => txt_of s f fun s' f' h => ih s' f' (by omega)

/-- What both WriteTerm answer. -/
def wrB (k n : Int) (s : ByteArray) (f : Fr) : List UInt8 := if validT k n s f = true then txT k n s f else []
set_option maxRecDepth 100000 in
/-- spec.WriteTerm. -/
theorem specWr_any (k n : Int) (s : ByteArray) (f : Fr) (A : Option Addr) (cap lo hi : Nat) (w : World) (hk : KidsAt w lo hi f A cap) (hh : hi ≤ w.heap.size) (hf : Fits k n s) (hnd : nodes f ≤ 1048576) :
    Calls Tryd.prog 10 #[.agg #[.int .i64 k, .int .i64 n, .string s, .slice A f.len cap]] w fun e w' => e = .returned (.string ⟨(wrB k n s f).toArray⟩) ∧ Below w.heap.size w w' := by
  have hb0 : Below w.heap.size w (w.alloc (.cells #[.int .i64 k, .int .i64 n, .string s, .slice A f.len cap] 28)) := (Below.refl _ _).alloc (Nat.le_refl _) _
  have hq0 := Blk.new w 28 #[.int .i64 k, .int .i64 n, .string s, .slice A f.len cap]
  obtain ⟨x0, x1, x2, x3⟩ : _ := (⟨hq0.cell 0, hq0.cell 1, hq0.cell 2, hq0.cell 3⟩ : _ ∧ _ ∧ _ ∧ _)
  simp only [List.getElem?_toArray, List.getElem?_cons_zero, List.getElem?_cons_succ] at x0 x1 x2 x3
  have C1 := specValid_any k n s f A cap lo hi _ (hk.below hb0 hh) (Nat.le_trans hh hb0.size) hf hnd
  have C2 := fun w1 (hb : Below w.heap.size w w1) (hs : shapeT k n s f 30 = true) => tx_all f.size s f (Nat.le_refl _) k n A cap lo hi 30 w1 (hk.below hb hh) (Nat.le_trans hh hb.size) hs hnd
  have HE : Hid (wrB k n s f = if validT k n s f = true then txT k n s f else []) := Lib.hid rfl
  have H2 := Lib.hid C2
  have HB0 := Lib.hid hb0
  have HQ0 := Lib.hid hq0
  clear C2 hk hf hnd hb0 hq0 hh
  generalize f.len = len at *
  cases hv : validT k n s f
  · have HV : Hid (wrB k n s f = []) := Lib.hid (by rw [HE.out, hv]; rfl)
    rw [hv] at C1
    have H1 := Lib.hid C1
    clear C1 hv
    go_enter Tryd.func10, Tryd.ntmps10
    go_wp2_with fail
    refine H1.out.mono ?_
    rintro e w2 ⟨rfl, hb⟩
    have HB2 := Lib.hid (HB0.out.trans (hb.mono HB0.out.size))
    clear hb
    go_wp2_with fail
    go_ret
    rw [HV.out]; exact ⟨rfl, HB2.out⟩
  · have HV : Hid (wrB k n s f = txT k n s f) := Lib.hid (by rw [HE.out, hv]; rfl)
    have HS : Hid (shapeT k n s f 30 = true) := Lib.hid (by unfold validT at hv; rw [Bool.and_eq_true] at hv; exact hv.1)
    rw [hv] at C1
    have H1 := Lib.hid C1
    clear C1 hv
    go_enter Tryd.func10, Tryd.ntmps10
    go_wp2_with fail
    refine H1.out.mono ?_
    rintro e w2 ⟨rfl, hb⟩
    have hq := HQ0.out.below hb HQ0.out.lt
    have HB2 := Lib.hid (HB0.out.trans (hb.mono HB0.out.size))
    clear x0 x1 x2 x3 hb
    obtain ⟨x0, x1, x2, x3⟩ : _ := (⟨hq.cell 0, hq.cell 1, hq.cell 2, hq.cell 3⟩ : _ ∧ _ ∧ _ ∧ _)
    simp only [List.getElem?_toArray, List.getElem?_cons_zero, List.getElem?_cons_succ] at x0 x1 x2 x3
    clear hq
    go_wp2_with fail
    refine (H2.out w2 HB2.out HS.out).mono ?_
    rintro e w3 ⟨rfl, hb⟩
    have HB3 := Lib.hid (HB2.out.trans (hb.mono HB2.out.size))
    clear hb
    go_wp2_with fail
    go_ret
    rw [HV.out]; exact ⟨rfl, HB3.out⟩
end Go.Proofs.YtkgapidhoeegmaaDoor.wr

/- The text of a term without operators is the same in both writings. No condition. -/
namespace Go.Proofs.YtkgapidhoeegmaaDoor
open Go.RowKit

/-- A row of terms has a structure that is written with an operator. -/
def opF : Fr → Bool
  | .nil => false
  | .cons _ _ s kids rest => (decide (0 < op.level s.data.toList) && kids.len == 2) || (opF kids || opF rest)
def opT (s : ByteArray) (f : Fr) : Bool := (decide (0 < op.level s.data.toList) && f.len == 2) || opF f
def w2 (r : wr.W3) : TT := (r.1, r.2.1)
theorem elt_same (k n : Int) (s : ByteArray) (len : Nat) (r : List wr.W3) (h : wr.infB k s len = false) : w2 (wr.elt k n s len r) = elt k n s len (r.map w2) := by
  have h0 : ∀ i, ((r.map w2).getD i ([], [])) = w2 (r.getD i wr.none3) := fun i => by
    rw [List.getD_eq_getElem?_getD, List.getD_eq_getElem?_getD, List.getElem?_map]
    cases r[i]? <;> rfl
  have h1 : (r.map w2).map Prod.fst = r.map Prod.fst := by rw [List.map_map]; rfl
  have hb : wr.bodyB k n s len r = bodyB k n s len (r.map w2) := by
    unfold wr.bodyB bodyB
    rw [h, h0, h0, h1]
    rfl
  unfold wr.elt elt
  rw [← hb, h0, h0]
  rfl
theorem tx_same : ∀ f, opF f = false → (wr.txL f).map w2 = txL f
  | .nil, _ => rfl
  | .cons k n s kids rest, h => by
    unfold opF at h
    simp only [Bool.or_eq_false_iff] at h
    obtain ⟨h1, h2, h3⟩ := h
    have hi : wr.infB k s kids.len = false := by
      unfold wr.infB
      rw [show (kids.len == 2 && decide (0 < op.level s.data.toList)) = false by rw [Bool.and_comm]; exact h1, Bool.and_false]
    show w2 (wr.elt k n s kids.len (wr.txL kids)) :: (wr.txL rest).map w2 = elt k n s kids.len (txL kids) :: txL rest
    rw [elt_same k n s kids.len _ hi, tx_same kids h2, tx_same rest h3]
theorem txT_same' (k n : Int) (s : ByteArray) (f : Fr) (h : opT s f = false) : wr.txT k n s f = txT k n s f := by
  unfold opT at h
  simp only [Bool.or_eq_false_iff] at h
  have h1 := tx_same (.cons k n s f .nil) (by rw [opF, h.1, h.2]; rfl)
  have h2 : w2 (wr.elt k n s f.len (wr.txL f)) = elt k n s f.len (txL f) := by
    have : [w2 (wr.elt k n s f.len (wr.txL f))] = [elt k n s f.len (txL f)] := h1
    injection this
  exact congrArg Prod.fst h2
theorem wrB_same (k n : Int) (s : ByteArray) (f : Fr) (h : opT s f = false) : wr.wrB k n s f = fmB k n s f := by
  unfold wr.wrB fmB
  rw [txT_same' k n s f h]
end Go.Proofs.YtkgapidhoeegmaaDoor

/- OpLevel: spec.l2Level, spec.OpLevel; impl.operatorTable, operator.leftLevel, impl.OpLevel; the law FnExactOpLevel walked. Condition: the table of operators lies in its variable. -/
namespace Go.Proofs.YtkgapidhoeegmaaDoor.op
open Go.RowKit Go.WideMaps Go.Maps

/-- An operator reads as its level. -/
def opR : Value → Option (DataW Unit × List MemPlace)
  | .agg ⟨[.string _, .string _, .int .i64 l]⟩ => some (.lit (.int .i64 l), [])
  | _ => none
theorem opR_inv {v : Value} {z : DataW Unit × List MemPlace} (h : opR v = some z) : ∃ a b l, v = .agg #[.string a, .string b, .int .i64 l] ∧ z = (.lit (.int .i64 l), []) := by
  unfold opR at h
  split at h
  · cases h; exact ⟨_, _, _, rfl, rfl⟩
  · cases h

def opD (k : Nat) : DataW Unit := (tab.take k).foldl (fun D r => D.put (.string r.1) (.lit (.int .i64 r.2.2))) (.map [])
theorem opD_succ (k : Nat) (h : k < 14) : opD (k + 1) = (opD k).put (.string (nm k).data.toList) (.lit (.int .i64 (lv k))) := by
  have hl : k < tab.length := h
  have e : tab.take (k + 1) = tab.take k ++ [tab.getD k ([], [], 0)] := by
    rw [List.take_add_one, List.getElem?_eq_getElem hl]
    simp [List.getD, List.getElem?_eq_getElem hl]
  unfold opD
  rw [e, List.foldl_append]
  rfl
theorem fold_no (l : List UInt8) (z : DataW Unit) : ∀ (rs : List (List UInt8 × List UInt8 × Int)) (D : DataW Unit), (∀ r ∈ rs, r.1 ≠ l) →
    (rs.foldl (fun D r => D.put (.string r.1) (.lit (.int .i64 r.2.2))) D).atKey (.string l) z = D.atKey (.string l) z ∧
    has (rs.foldl (fun D r => D.put (.string r.1) (.lit (.int .i64 r.2.2))) D) (.string l) = has D (.string l)
  | [], D, _ => ⟨rfl, rfl⟩
  | r :: rs, D, h => by
    have h1 : r.1 ≠ l := h r (by simp)
    have hne : (Lit.string l) ≠ Lit.string r.1 := fun e => h1 (by injection e with e; exact e.symm)
    obtain ⟨h2, h3⟩ := fold_no l z rs (D.put (.string r.1) (.lit (.int .i64 r.2.2))) fun x hx => h x (by simp [hx])
    exact ⟨h2.trans (atKey_put_other hne _ _), h3.trans (has_put_other hne _)⟩
theorem at_no (l : List UInt8) (h : ∀ r ∈ tab, r.1 ≠ l) : (opD 14).atKey (.string l) (.lit (.int .i64 0)) = .lit (.int .i64 0) ∧ has (opD 14) (.string l) = false := by
  have h1 := fold_no l (.lit (.int .i64 0)) tab (.map []) h
  exact ⟨h1.1.trans rfl, h1.2.trans rfl⟩
theorem at_yes : ∀ r ∈ tab, (opD 14).atKey (.string r.1) (.lit (.int .i64 0)) = .lit (.int .i64 r.2.2) ∧ has (opD 14) (.string r.1) = true := by
  intro r hr
  simp only [tab, List.mem_cons, List.not_mem_nil, or_false] at hr
  rcases hr with rfl | rfl | rfl | rfl | rfl | rfl | rfl | rfl | rfl | rfl | rfl | rfl | rfl | rfl <;> exact ⟨by kernel_rfl, by kernel_rfl⟩
/-- What the full table answers. -/
theorem at_all (l : List UInt8) : ∃ ok : Bool, (opD 14).atKey (.string l) (.lit (.int .i64 0)) = .lit (.int .i64 (level l)) ∧ has (opD 14) (.string l) = ok ∧ (ok = true → 1 ≤ level l) ∧ (ok = false → level l = 0) := by
  by_cases h : ∃ r ∈ tab, r.1 = l
  · obtain ⟨r, hr, rfl⟩ := h
    obtain ⟨h1, h2⟩ := at_yes r hr
    refine ⟨true, by rw [h1, level_at r hr], h2, fun _ => ?_, fun e => by cases e⟩
    rw [level_at r hr]
    have all : ∀ r ∈ tab, 1 ≤ r.2.2 := by decide
    exact all r hr
  · have hn : ∀ r ∈ tab, r.1 ≠ l := fun r hr e => h ⟨r, hr, e⟩
    obtain ⟨h1, h2⟩ := at_no l hn
    exact ⟨false, by rw [h1, level_no l hn], h2, (fun e => by cases e), fun _ => level_no l hn⟩

theorem make_hint (t k e : TypeId) (kd : IntKind) (n : Int) (ht : Tryd.prog.underlying t = some (.map k e)) (w : World) :
    (Instr.makeMap t (some (.int kd n))).run Tryd.prog w = .ok (.map (some w.heap.size)) (w.alloc (.map #[] 0)) := by
  simp [Instr.makeMap, run_underlying ht]; rfl

theorem law : Keyed Tryd.prog 9 := string_keyed Tryd.underlying9
theorem key_ok (s : ByteArray) (hs : s.size ≤ maxLen) : keyOf Tryd.prog 9 (.string s) = some (.string s.data.toList) := keyOf_string_mk Tryd.underlying9 hs
theorem zero_op (w : World) : (zeroValue 38).run Tryd.prog w = .ok (.agg #[.string ⟨#[]⟩, .string ⟨#[]⟩, .int .i64 0]) w := by kernel_rfl
theorem nm_size (k : Nat) : (nm k).size ≤ maxLen := by
  rcases Nat.lt_or_ge k 14 with h | h
  · have all : ∀ j : Fin 14, (nm j.val).size ≤ 3 := by decide
    have := all ⟨k, h⟩
    simp only at this
    unfold maxLen; omega
  · unfold nm
    rw [List.getD, List.getElem?_eq_none (by exact h)]
    exact Nat.zero_le _

set_option maxRecDepth 100000 in
/-- impl.operatorTable. -/
theorem table_any (w : World) (ht : OpTab w) :
    Calls Tryd.prog 15 #[] w fun e w' => e = .returned (.map (some w.heap.size)) ∧ w'.ownsMap Tryd.prog 9 opR w.heap.size 14 (opD 14) ∧ Below w.heap.size w w' := by
  have hm := make_hint 40 9 38
  have HM := fun kd n w => hm kd n Tryd.underlying40 w
  clear hm
  have hb0 : Below w.heap.size w (w.alloc (.map #[] 0)) := (Below.refl _ _).alloc (Nat.le_refl _) _
  have ht1 := ht.below hb0
  obtain ⟨tt, fr, htab⟩ := ht1
  have HT := Lib.hid htab
  have HB0 := Lib.hid hb0
  clear htab hb0 ht
  go_enter Tryd.func15, Tryd.ntmps15
  go_wp2_with (refine wpList_load_row rfl 63 _ rfl 0 rfl tt _ fr _ HT.out Tryd.underlying63 rfl (by kernel_rfl) ?_)
  go_loopw [6] (fun i wr => ∃ k : Nat, k ≤ 14 ∧ i = .int .i64 k ∧ wr.ownsMap Tryd.prog 9 opR w.heap.size k (opD k) ∧ Below w.heap.size w wr) (fun i _ => 14 - (intOf i).toNat)
  case atStart => exact ⟨0, Nat.zero_le _, rfl, World.ownsMap_made _ _ _ _, HB0.out⟩
  case round =>
    obtain ⟨k, hk, rfl, hown, hbw⟩ := hrel
    by_cases h14 : k < 14
    · have hx := fun w => index_op k h14 w
      have hkey := key_ok (nm k) (nm_size k)
      have hs := opD_succ k h14
      have HS := Lib.hid hs
      have HB := Lib.hid hbw
      have hown1 := hown.alloc (.cells #[.string (nm k), .string (tx k), .int .i64 (lv k)] 38)
      have HO := Lib.hid hown1
      have him : (k : Int) < 14 := by omega
      clear hs hbw hown hown1
      generalize nm k = a at *
      generalize tx k = b at *
      generalize lv k = l at *
      go_wp2_with (first
        | (at_mapUpdate; refine wpList_mapUpdate_own _ rfl _ _ _ 40 rfl 9 38 law Tryd.underlying40 opR w.heap.size k _ rfl HO.out (by unfold maxLen; omega) _ _ _ rfl rfl hkey (.lit (.int .i64 l)) [] rfl ?_; intro w1 hown2 hgrow1)
        | fail)
      have R1 := HS.out.symm ▸ hown2
      have R2 := (HB.out.alloc HB.out.size (.cells #[.string a, .string b, .int .i64 l] 38)).grown hgrow1 (by simpa using Nat.le_succ_of_le HB.out.size) (fun j hj => by cases hj; exact Nat.le_refl _)
      have H1 := Lib.hid R1
      have H2 := Lib.hid R2
      clear R1 R2 hown2 hgrow1 hkey hx
      go_wp2_with fail
      go_roundw
      case rel => exact ⟨k + 1, by omega, by go_num, H1.out, H2.out⟩
      case measure => simp [intOf]; omega
    · obtain rfl : k = 14 := by omega
      have HO := Lib.hid hown
      have HB := Lib.hid hbw
      clear hown hbw
      go_wp2_with fail
      go_ret
      exact ⟨rfl, HO.out, HB.out⟩

def lmin (l : Int) : Int := if l ≤ 2 then l else 2
/-- operator.leftLevel. -/
theorem left_any (a b : ByteArray) (l : Int) (w : World) :
    Calls Tryd.prog 16 #[.agg #[.string a, .string b, .int .i64 l]] w fun e w' => e = .returned (.int .i64 (lmin l)) ∧ Below w.heap.size w w' := by
  have hb0 : ∀ o, Below w.heap.size w (w.alloc o) := fun o => (Below.refl _ _).alloc (Nat.le_refl _) _
  have HB := Lib.hid hb0
  clear hb0
  by_cases h : l ≤ 2
  · have HV : Hid (lmin l = l) := Lib.hid (if_pos h)
    go_enter Tryd.func16, Tryd.ntmps16
    go_wp2_with fail
    go_ret
    rw [HV.out]
    first | exact ⟨rfl, HB.out _⟩ | exact ⟨congrArg (fun x => Ending.returned (.int .i64 x)) (Int.min_eq_left h), HB.out _⟩
  · have HV : Hid (lmin l = 2) := Lib.hid (if_neg h)
    go_enter Tryd.func16, Tryd.ntmps16
    go_wp2_with fail
    go_ret
    rw [HV.out]
    first | exact ⟨rfl, HB.out _⟩ | exact ⟨congrArg (fun x => Ending.returned (.int .i64 x)) (Int.min_eq_right (by omega)), HB.out _⟩

/-- impl.OpLevel. -/
theorem impl_any (s : ByteArray) (w : World) (hs : s.size ≤ maxLen) (ht : OpTab w) :
    Calls Tryd.prog 6 #[.string s] w fun e w' => e = .returned (.tuple #[.int .i64 (level s.data.toList), .bool (decide (level s.data.toList = 1 ∨ level s.data.toList = 2))]) ∧ Below w.heap.size w w' := by
  obtain ⟨ok, hat, hhas, hy, hn⟩ := at_all s.data.toList
  have hkey := key_ok s hs
  have C1 := table_any w ht
  have H1 := Lib.hid C1
  have hr := level_range s.data.toList
  generalize s.data.toList = l at *
  generalize hl : level l = n at *
  clear hl ht C1
  have HAT := Lib.hid hat
  have HH := Lib.hid hhas
  clear hat hhas
  cases ok
  · have hz := hn rfl
    subst hz
    have HV : Hid (decide ((0 : Int) = 1 ∨ (0 : Int) = 2) = false) := Lib.hid rfl
    clear hy hn hr
    go_enter Tryd.func6, Tryd.ntmps6
    go_wp2_with fail
    refine H1.out.mono ?_
    rintro e w1 ⟨rfl, hown, hb1⟩
    have HO := Lib.hid hown
    have HB1 := Lib.hid hb1
    clear hown hb1
    go_wp2_with (at_lookup; refine wpList_lookup_own_ok _ rfl _ _ 40 rfl 9 38 law Tryd.underlying40 opR (zero_op _) (.lit (.int .i64 0)) [] rfl w.heap.size 14 _ rfl HO.out _ _ rfl hkey ?_; intro v ps hv; obtain ⟨a, b, l', rfl, he⟩ := opR_inv hv; rw [HAT.out] at he; cases he; rw [HH.out]; clear hv)
    have b0 := Blk.new w1 38 #[.string a, .string b, .int .i64 0]
    have hb2 := HB1.out.alloc HB1.out.size (.cells #[.string a, .string b, .int .i64 0] 38)
    generalize (w1.alloc (.cells #[.string a, .string b, .int .i64 0] 38)) = w2 at *
    have c0 := b0.cell 0
    have c1 := b0.cell 1
    have c2 := b0.cell 2
    simp only [List.getElem?_toArray, List.getElem?_cons_zero, List.getElem?_cons_succ] at c0 c1 c2
    have HB2 := Lib.hid hb2
    clear b0 hb2 hkey
    go_quiet (fail)
    go_wp2_with fail
    go_ret2
    rw [HV.out]
    exact ⟨rfl, HB2.out.trans ⟨rfl, rfl, rfl, Nat.le_refl _, fun _ _ => rfl⟩⟩
  · have hy1 := hy rfl
    have HV : Hid ((lmin n == n) = decide (n = 1 ∨ n = 2)) := Lib.hid (by
      unfold lmin
      rw [Bool.eq_iff_iff, beq_iff_eq, decide_eq_true_iff]
      split <;> omega)
    have C2 := left_any
    have H2 := Lib.hid C2
    clear hy hn hr hy1 C2
    go_enter Tryd.func6, Tryd.ntmps6
    go_wp2_with fail
    refine H1.out.mono ?_
    rintro e w1 ⟨rfl, hown, hb1⟩
    have HO := Lib.hid hown
    have HB1 := Lib.hid hb1
    clear hown hb1
    go_wp2_with (at_lookup; refine wpList_lookup_own_ok _ rfl _ _ 40 rfl 9 38 law Tryd.underlying40 opR (zero_op _) (.lit (.int .i64 0)) [] rfl w.heap.size 14 _ rfl HO.out _ _ rfl hkey ?_; intro v ps hv; obtain ⟨a, b, l', rfl, he⟩ := opR_inv hv; rw [HAT.out] at he; cases he; rw [HH.out]; clear hv)
    have b0 := Blk.new w1 38 #[.string a, .string b, .int .i64 n]
    have hb2 := HB1.out.alloc HB1.out.size (.cells #[.string a, .string b, .int .i64 n] 38)
    generalize (w1.alloc (.cells #[.string a, .string b, .int .i64 n] 38)) = w2 at *
    have c0 := b0.cell 0
    have c1 := b0.cell 1
    have c2 := b0.cell 2
    simp only [List.getElem?_toArray, List.getElem?_cons_zero, List.getElem?_cons_succ] at c0 c1 c2
    have hlt := b0.lt
    have HB0 := Lib.hid b0
    have HB2 := Lib.hid hb2
    clear b0 hb2 hkey
    go_region_held3 (fun w' => w'.cell? ⟨w1.heap.size, 0, none⟩ = some (.string a) ∧ w'.cell? ⟨w1.heap.size, 1, none⟩ = some (.string b) ∧ w'.cell? ⟨w1.heap.size, 2, none⟩ = some (.int .i64 n))
      (first | exact ⟨c0, c1, c2⟩ | exact ⟨y0, y1, y2⟩)
      (first
        | (go_at_call 16
           refine (H2.out _ _ _ _).mono ?_
           rintro e w3 ⟨rfl, hb3⟩
           have hd3 : Below w2.heap.size w2 w3 := (Below.refl w2.heap.size w2).drew.trans hb3
           have y0 := (hd3.cell (p := ⟨w1.heap.size, 0, none⟩) hlt).trans c0
           have y1 := (hd3.cell (p := ⟨w1.heap.size, 1, none⟩) hlt).trans c1
           have y2 := (hd3.cell (p := ⟨w1.heap.size, 2, none⟩) hlt).trans c2
           have HB3 := Lib.hid (HB2.out.trans (hd3.mono HB2.out.size))
           clear hb3 hd3))
    go_wp2_with fail
    go_ret2
    rw [← HV.out]
    exact ⟨rfl, HB3.out⟩

/-- spec.OpLevel. -/
theorem spec_any (s : ByteArray) (w : World) :
    Calls Tryd.prog 7 #[.string s] w fun e w' => e = .returned (.tuple #[.int .i64 (level s.data.toList), .bool (decide (level s.data.toList = 1 ∨ level s.data.toList = 2))]) ∧ w' = w := by
  have C1 := l2_any s
  generalize level s.data.toList = n at *
  have H1 := Lib.hid C1
  clear C1
  by_cases h1 : n = 1
  · subst h1
    go_enter Tryd.func7, Tryd.ntmps7
    go_wp2_with (go_at_call 17; refine (H1.out _).mono ?_; rintro e w' ⟨rfl, rfl⟩)
    go_ret2
    exact ⟨rfl, rfl⟩
  · have t1 : (n == 1) = false := by rw [beq_eq_false_iff_ne]; exact h1
    have HV : Hid ((n == 2) = decide (n = 1 ∨ n = 2)) := Lib.hid (by
      rw [Bool.eq_iff_iff, beq_iff_eq, decide_eq_true_iff]
      omega)
    clear h1
    go_enter Tryd.func7, Tryd.ntmps7
    go_wp2_with (go_at_call 17; refine (H1.out _).mono ?_; rintro e w' ⟨rfl, rfl⟩)
    go_ret2
    rw [← HV.out]
    exact ⟨rfl, rfl⟩

end Go.Proofs.YtkgapidhoeegmaaDoor.op
