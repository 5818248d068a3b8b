/- spec.l5Arithmetic, DrawEvalArith. Condition: the bytes lie in memory. -/
import Derived.Test.YtabkoofmfhbmhaaDoorProg
import Derived.Test.YtabkoofmfhbmhaaDoorDrL
namespace Go.Proofs.YtabkoofmfhbmhaaDoor
open Go.RowKit

def arN (d : Nat) : Nat := 64 * 3 ^ d
def arM (d : Nat) : Nat := 8 * 3 ^ d
def ArT (d : Nat) : Prop := ∀ (rb N : Nat) (x : Int) (w : World), Rd w rb N → N + arN d ≤ 1000000 → x = (d : Int) →
  Calls Tryd.prog 50 #[.pointer (some ⟨rb, 0, none⟩), .int .i64 x] w fun e w' => DrR rb (N + arN d) (arM d) w e w'
theorem arN_succ (d : Nat) : arN (d + 1) = 3 * arN d := by unfold arN; rw [Nat.pow_succ]; omega
theorem arM_succ (d : Nat) : arM (d + 1) = 3 * arM d := by unfold arM; rw [Nat.pow_succ]; omega
theorem arN_pos (d : Nat) : 64 ≤ arN d := by unfold arN; have : 0 < 3 ^ d := Nat.pow_pos (by decide); omega
theorem arM_pos (d : Nat) : 8 ≤ arM d := by unfold arM; have : 0 < 3 ^ d := Nat.pow_pos (by decide); omega
theorem names5a (s : ByteArray) (h : s ∈ ([⟨#[43]⟩, ⟨#[45]⟩, ⟨#[42]⟩, ⟨#[47, 47]⟩, ⟨#[109, 111, 100]⟩] : List ByteArray)) : s.size ≤ maxLen := by
  have : ∀ s ∈ ([⟨#[43]⟩, ⟨#[45]⟩, ⟨#[42]⟩, ⟨#[47, 47]⟩, ⟨#[109, 111, 100]⟩] : List ByteArray), s.size ≤ 100 := by decide
  have := this s h
  unfold maxLen; omega
theorem drN_one : drN 1 = 32 := by decide
theorem drM_one : drM 1 = 4 := by decide

set_option maxRecDepth 100000 in
set_option maxHeartbeats 8000000 in
theorem arT_low (d : Nat) (h : d < 2) : ArT d := by
  intro rb N x w hr hN hx
  have t0 : x < 2 := by omega
  have hp := arN_pos d
  have hpm := arM_pos d
  have HQ := Lib.hid (DqI.start hr)
  clear hr hx h
  generalize arN d = D at *
  generalize arM d = M at *
  go_enter Tryd.func50, Tryd.ntmps50
  go_wp2_with fail
  refine (pick_any rb _ 8 _ HQ.out.1 (by omega) (by omega) (by omega)).mono ?_
  rintro e w1 ⟨k1, rfl, hk0, hk1, hr, hw⟩
  have HQ1 := Lib.hid (HQ.out.step hr hw)
  clear hr hw HQ
  by_cases c1 : k1 = 0
  · subst c1
    have hd1 := drN_one
    have hm1 := drM_one
    go_wp2_with fail
    refine (drT_any 1 rb _ _ _ HQ1.out.1 (by omega) rfl).mono ?_
    rintro e w3 ⟨k, n, s, f, A, cap, rfl, hf, hm, hn, hr⟩
    have HQ3 := Lib.hid (HQ1.out.step hr hm.wrote)
    have hl := HQ1.out.2.2.1.lt
    have HF := Lib.hid hf
    have HNF := Lib.hid hn
    have HO : Hid (∃ L, OwnS w3 f A cap L ∧ L.Nodup ∧ ∀ x ∈ L, w.heap.size < x) := Lib.hid (by
      obtain ⟨L, h1, h2, h3, _⟩ := hm
      exact ⟨L, h1, h2, fun x hx => by have := (h3 x hx).1; omega⟩)
    clear hf hm hn hr HQ1
    obtain ⟨d0, d1, d2, d3⟩ := cells4i HQ3.out.2.2.1
    obtain ⟨f0, f1, f2, f3⟩ := frozen4 HQ3.out.2.2.1
    go_wp2_with fail
    refine bodyPost_ret (v := .agg #[.int .i64 k, .int .i64 n, .string s, .slice A f.len cap]) ?_ rfl (HQ3.out.ret HF.out HO.out (by have := HNF.out; omega) (by omega) _ _ _ _)
    exact results_cell_row Tryd.results50 _ _ w.heap.size _ _ _ _ rfl (set4 HQ3.out.2.2.1 _ _ _ _) Tryd.underlying31 rfl (by kernel_rfl)
  · have tk1 : (k1 == 0) = false := by rw [beq_eq_false_iff_ne]; exact c1
    have hb := (Below.refl w1.heap.size w1).alloc (Nat.le_refl _) (.cells #[.int .i64 0, .int .i64 1, .int .i64 2, .int .i64 7, .int .i64 (-3), .int .i64 40, .int .i64 999, .int .i64 (-5)] 3)
    have HQb := Lib.hid (HQ1.out.below hb)
    have HI : Hid (IntsAt (w1.alloc (.cells #[.int .i64 0, .int .i64 1, .int .i64 2, .int .i64 7, .int .i64 (-3), .int .i64 40, .int .i64 999, .int .i64 (-5)] 3)) (rb + 1) (some ⟨w1.heap.size, 0, none⟩) [0, 1, 2, 7, -3, 40, 999, -5]) := Lib.hid ⟨w1.heap.size, rfl, by have := HQ1.out.1.lt; omega, by simp, fun i z h => by
      have hq := (Blk.new w1 3 #[.int .i64 0, .int .i64 1, .int .i64 2, .int .i64 7, .int .i64 (-3), .int .i64 40, .int .i64 999, .int .i64 (-5)]).cell i
      rw [hq]
      match i, h with
      | 0, h => cases h; rfl
      | 1, h => cases h; rfl
      | 2, h => cases h; rfl
      | 3, h => cases h; rfl
      | 4, h => cases h; rfl
      | 5, h => cases h; rfl
      | 6, h => cases h; rfl
      | 7, h => cases h; rfl⟩
    clear hb HQ1
    go_wp2_with fail
    refine (num_any rb _ [0, 1, 2, 7, -3, 40, 999, -5] _ 8 _ HQb.out.1 (by omega) HI.out (by decide) (by decide)).mono ?_
    rintro e wb ⟨v, rfl, hv, hr, hw⟩
    have HQc := Lib.hid (HQb.out.step hr hw)
    have hvb : -999 ≤ v ∧ v ≤ 999 := by simp at hv; omega
    clear hr hw HQb hv HI
    go_wp2_with fail
    refine (int_any _ _).mono ?_
    rintro e wc ⟨rfl, hb⟩
    have HQd := Lib.hid (HQc.out.below hb)
    clear hb HQc
    obtain ⟨d0, d1, d2, d3⟩ := cells4i HQd.out.2.2.1
    obtain ⟨f0, f1, f2, f3⟩ := frozen4 HQd.out.2.2.1
    go_wp2_with fail
    refine bodyPost_ret (v := .agg #[.int .i64 2, .int .i64 v, .string ⟨#[]⟩, .slice none 0 0]) ?_ rfl (HQd.out.ret (f := .nil) ⟨by omega, by omega, Nat.zero_le _⟩ (own_nil _ _ _ _ (Nat.zero_le _)) (Nat.zero_le _) (by omega) _ _ _ _)
    exact results_cell_row Tryd.results50 _ _ w.heap.size _ _ _ _ rfl (set4 HQd.out.2.2.1 _ _ _ _) Tryd.underlying31 rfl (by kernel_rfl)

set_option maxRecDepth 100000 in
set_option maxHeartbeats 8000000 in
theorem arT_high (d : Nat) (h : 1 ≤ d) (ih : ArT d) : ArT (d + 1) := by
  intro rb N x w hr hN hx
  have t0 : ¬ x < 2 := by omega
  have hx1 : x ≤ 1000000 := by have := arN_succ d; have h3 : d < 3 ^ d := Nat.lt_pow_self (by decide); unfold arN at hN; rw [Nat.pow_succ] at hN; omega
  have hx2 : 2 ≤ x := by omega
  have hxd : x - 1 = (d : Int) := by omega
  have HXD := Lib.hid hxd
  have hp := arN_pos d
  have hm := arM_pos d
  rw [arN_succ, arM_succ]
  rw [arN_succ] at hN
  have IH := fun rb N w hr hN => ih rb N (x - 1) w hr hN HXD.out
  have HQ := Lib.hid (DqI.start hr)
  have HIH := Lib.hid IH
  clear hr hx h ih IH hxd
  generalize arN d = D at *
  generalize arM d = M at *
  have hb := (Below.refl (w.alloc (.cells #[.int .i64 0, .int .i64 0, .string ⟨#[]⟩, .slice none 0 0] 31)).heap.size (w.alloc (.cells #[.int .i64 0, .int .i64 0, .string ⟨#[]⟩, .slice none 0 0] 31))).alloc (Nat.le_refl _) (.cells #[.string ⟨#[43]⟩, .string ⟨#[45]⟩, .string ⟨#[42]⟩, .string ⟨#[47, 47]⟩, .string ⟨#[109, 111, 100]⟩] 9)
  have HQ1 := Lib.hid (HQ.out.below hb)
  have HI : Hid (StrsAt ((w.alloc (.cells #[.int .i64 0, .int .i64 0, .string ⟨#[]⟩, .slice none 0 0] 31)).alloc (.cells #[.string ⟨#[43]⟩, .string ⟨#[45]⟩, .string ⟨#[42]⟩, .string ⟨#[47, 47]⟩, .string ⟨#[109, 111, 100]⟩] 9)) (rb + 1) (some ⟨w.heap.size + 1, 0, none⟩) [⟨#[43]⟩, ⟨#[45]⟩, ⟨#[42]⟩, ⟨#[47, 47]⟩, ⟨#[109, 111, 100]⟩]) := Lib.hid ⟨w.heap.size + 1, rfl, by have := HQ.out.2.2.2; omega, by simp, fun i z h => by
    have hq := (Blk.new (w.alloc (.cells #[.int .i64 0, .int .i64 0, .string ⟨#[]⟩, .slice none 0 0] 31)) 9 #[.string ⟨#[43]⟩, .string ⟨#[45]⟩, .string ⟨#[42]⟩, .string ⟨#[47, 47]⟩, .string ⟨#[109, 111, 100]⟩]).cell i
    rw [show (w.alloc (.cells #[.int .i64 0, .int .i64 0, .string ⟨#[]⟩, .slice none 0 0] 31)).heap.size = w.heap.size + 1 by simp] at hq
    rw [hq]
    match i, h with
    | 0, h => cases h; rfl
    | 1, h => cases h; rfl
    | 2, h => cases h; rfl
    | 3, h => cases h; rfl
    | 4, h => cases h; rfl⟩
  clear hb HQ
  go_enter Tryd.func50, Tryd.ntmps50
  go_wp2_with fail
  refine (of_any rb _ [⟨#[43]⟩, ⟨#[45]⟩, ⟨#[42]⟩, ⟨#[47, 47]⟩, ⟨#[109, 111, 100]⟩] _ 5 _ HQ1.out.1 (by omega) HI.out (by decide) (by decide)).mono ?_
  rintro e w2 ⟨s, rfl, hs, hr, hw⟩
  have HQ2 := Lib.hid (HQ1.out.step hr hw)
  have hsb : s.size ≤ maxLen := names5a s hs
  have HSB := Lib.hid hsb
  clear hr hw HQ1 hs HI hsb
  go_wp2_with fail
  refine (HIH.out rb _ _ HQ2.out.1 (by omega)).mono ?_
  rintro e w3 ⟨a0, a1, a2, af, A1, cp1, rfl, hf1, hm1, hn1, hr⟩
  have HQ3 := Lib.hid (HQ2.out.step hr hm1.wrote)
  have HF1 := Lib.hid hf1
  have HM1 := Lib.hid hm1
  have HS2 := Lib.hid HQ2.out.2.2.1.lt
  have HS2' := Lib.hid HQ2.out.1.lt
  clear hr hf1 hm1 HQ2
  go_wp2_with fail
  refine (HIH.out rb _ _ HQ3.out.1 (by omega)).mono ?_
  rintro e w4 ⟨b0, b1, b2, bf, A2, cp2, rfl, hf2, hm2, hn2, hr⟩
  have HQ4 := Lib.hid (HQ3.out.step hr hm2.wrote)
  have hb := (Below.refl w4.heap.size w4).alloc (Nat.le_refl _) (.cells #[.int .i64 a0, .int .i64 a1, .string a2, .slice A1 af.len cp1, .int .i64 b0, .int .i64 b1, .string b2, .slice A2 bf.len cp2] 31)
  have HQ5 := Lib.hid (HQ4.out.below hb)
  have hown : ∃ L, OwnS (w4.alloc (.cells #[.int .i64 a0, .int .i64 a1, .string a2, .slice A1 af.len cp1, .int .i64 b0, .int .i64 b1, .string b2, .slice A2 bf.len cp2] 31)) (.cons a0 a1 a2 af (.cons b0 b1 b2 bf .nil)) (some ⟨w4.heap.size, 0, none⟩) 2 L ∧ L.Nodup ∧ ∀ x ∈ L, w.heap.size < x := by
    obtain ⟨L1, o1', n1, l1', q1⟩ := HM1.out
    obtain ⟨L2, o2, n2, l2, q2⟩ := hm2
    have hsr := HS2'.out
    have hs4 := q2.size
    have o1 := o1'.wrote q2 fun x hx e => by simp at e; have := (l1' x hx).1; omega
    have l1 : ∀ x ∈ L1, w2.heap.size ≤ x ∧ x < w4.heap.size := fun x hx => ⟨(l1' x hx).1, by have := (l1' x hx).2; omega⟩
    have hq := Blk.new w4 31 #[.int .i64 a0, .int .i64 a1, .string a2, .slice A1 af.len cp1, .int .i64 b0, .int .i64 b1, .string b2, .slice A2 bf.len cp2]
    have p1 := o1.below hb fun x hx => (l1 x hx).2
    have p2 := o2.below hb fun x hx => (l2 x hx).2
    have hs := HS2.out
    have hs3 := q1.size
    refine ⟨w4.heap.size :: (L1 ++ (L2 ++ [])), ⟨by simp [Fr.len], by unfold maxLen; omega, .inr ⟨w4.heap.size, L1 ++ (L2 ++ []), _, rfl, rfl, hq, rfl, ⟨A1, cp1, L1, L2 ++ [], rfl, HF1.out, ⟨hq.cell 0, hq.cell 1, hq.cell 2, hq.cell 3⟩, p1.1, p1.2.1, p1.2.2, ⟨A2, cp2, L2, [], rfl, hf2, ⟨hq.cell 4, hq.cell 5, hq.cell 6, hq.cell 7⟩, p2.1, p2.2.1, p2.2.2, rfl⟩⟩⟩⟩, ?_, ?_⟩
    · rw [List.append_nil]
      refine List.nodup_cons.2 ⟨fun hx => ?_, List.nodup_append.2 ⟨n1, n2, fun a ha b hb e => ?_⟩⟩
      · rcases List.mem_append.1 hx with hx | hx
        · have := (l1 _ hx).2; omega
        · have := (l2 _ hx).2; omega
      · have := (l1' a ha).2; have := (l2 b hb).1; omega
    · intro x hx
      rw [List.append_nil] at hx
      rcases List.mem_cons.1 hx with rfl | hx
      · omega
      · rcases List.mem_append.1 hx with hx | hx
        · have := (l1 _ hx).1; omega
        · have := (l2 _ hx).1; omega
  obtain ⟨L, hol, hnl, hll⟩ := hown
  have HO := Lib.hid hol
  have HN := Lib.hid hnl
  have HL := Lib.hid hll
  clear hr hf2 hm2 hb hol hnl hll HM1 HF1 HQ3 HQ4
  go_wp2_with fail
  refine (structN_any s (.cons a0 a1 a2 af (.cons b0 b1 b2 bf .nil)) _ _ L _ HO.out HN.out (by simp [Fr.len])).mono ?_
  rintro e w6 ⟨A, cap, L', rfl, ho, hn, hL, hb, _⟩
  have HQ6 := Lib.hid (HQ5.out.below hb)
  have hO6 : ∃ L, OwnS w6 (.cons a0 a1 a2 af (.cons b0 b1 b2 bf .nil)) A cap L ∧ L.Nodup ∧ ∀ x ∈ L, w.heap.size < x := ⟨L', ho, hn, fun x hx => by
    rcases hL x hx with h | h
    · exact HL.out x h
    · have := HQ5.out.2.2.1.lt; omega⟩
  have HO6 := Lib.hid hO6
  clear ho hn hL hb HQ5 hO6 HO HN HL
  obtain ⟨d0, d1, d2, d3⟩ := cells4i HQ6.out.2.2.1
  obtain ⟨f0, f1, f2, f3⟩ := frozen4 HQ6.out.2.2.1
  go_wp2_with fail
  refine bodyPost_ret (v := .agg #[.int .i64 3, .int .i64 0, .string s, .slice A (Fr.cons a0 a1 a2 af (.cons b0 b1 b2 bf .nil)).len cap]) ?_ rfl (HQ6.out.ret ⟨by omega, by omega, HSB.out⟩ HO6.out (by simp only [nodes]; omega) (by omega) _ _ _ _)
  exact results_cell_row Tryd.results50 _ _ w.heap.size _ _ _ _ rfl (set4 HQ6.out.2.2.1 _ _ _ _) Tryd.underlying31 rfl (by kernel_rfl)

theorem arT_any : ∀ d, ArT d
  | 0 => arT_low 0 (by omega)
  | 1 => arT_low 1 (by omega)
  | d + 2 => arT_high (d + 1) (by omega) (arT_any (d + 1))

set_option maxRecDepth 100000 in
set_option maxHeartbeats 4000000 in
/-- spec.DrawTermValid. -/
theorem drawEA_any (A : Option Addr) (len cap : Nat) (w : World) (hb : Bts w w.heap.size A len) (hc : len ≤ cap) (hm : cap ≤ maxLen) :
    Calls Tryd.prog 22 #[.slice A len cap] w fun e w' => Dr1 2000 w e w' := by
  have hb1 : Below w.heap.size w (w.alloc (.cells #[.int .i64 0, .int .i64 0, .string ⟨#[]⟩, .slice none 0 0] 31)) := (Below.refl _ _).alloc (Nat.le_refl _) _
  have hq1 := Blk.new w 31 #[.int .i64 0, .int .i64 0, .string ⟨#[]⟩, .slice none 0 0]
  have hs1 : (w.alloc (.cells #[.int .i64 0, .int .i64 0, .string ⟨#[]⟩, .slice none 0 0] 31)).heap.size = w.heap.size + 1 := by simp
  have C1 := open18_any A len cap (w.alloc (.cells #[.int .i64 0, .int .i64 0, .string ⟨#[]⟩, .slice none 0 0] 31)) (hb.up hb1) hc hm
  have H1 := Lib.hid C1
  have HB1 := Lib.hid hb1
  have HQ1 := Lib.hid hq1
  have HS1 := Lib.hid hs1
  clear C1 hb hc hm hb1 hq1 hs1
  go_enter Tryd.func22, Tryd.ntmps22
  go_wp2_with fail
  refine H1.out.mono ?_
  rintro e w3 ⟨rfl, hr, hb⟩
  have hI : DsI w (w.heap.size + 1) 0 w3 := ⟨by rw [← HS1.out]; exact hr, HB1.out.trans (hb.mono HB1.out.size), HQ1.out.below hb HQ1.out.lt, by omega⟩
  rw [HS1.out]
  have HI := Lib.hid hI
  clear hr hb hI H1 HB1 HQ1 HS1
  generalize hrb : w.heap.size + 1 = rb at *
  have hwr : w.heap.size < rb := by omega
  clear hrb
  go_wp2_with fail
  have hb := (Below.refl w3.heap.size w3).alloc (Nat.le_refl _) (.cells #[.int .i64 2, .int .i64 3, .int .i64 1, .int .i64 4] 3)
  have HIa := Lib.hid (HI.out.below hb)
  have HS : Hid (IntsAt (w3.alloc (.cells #[.int .i64 2, .int .i64 3, .int .i64 1, .int .i64 4] 3)) (rb + 1) (some ⟨w3.heap.size, 0, none⟩) [2, 3, 1, 4]) := Lib.hid ⟨w3.heap.size, rfl, by have := HI.out.1.lt; omega, by simp, fun i z h => by
    have hq := (Blk.new w3 3 #[.int .i64 2, .int .i64 3, .int .i64 1, .int .i64 4]).cell i
    rw [hq]
    match i, h with
    | 0, h => cases h; rfl
    | 1, h => cases h; rfl
    | 2, h => cases h; rfl
    | 3, h => cases h; rfl⟩
  clear hb HI
  refine (num_any rb 0 [2, 3, 1, 4] _ 4 _ HIa.out.1 (by omega) HS.out (by decide) (by decide)).mono ?_
  rintro e w3 ⟨c, rfl, hc, hr, hw⟩
  have HIb := Lib.hid (HIa.out.step hr hw)
  have hcd : ∃ d : Nat, c = (d : Int) ∧ arN d ≤ 5184 ∧ arM d ≤ 648 := by
    simp at hc
    rcases hc with rfl | rfl | rfl | rfl
    · exact ⟨2, rfl, by decide, by decide⟩
    · exact ⟨3, rfl, by decide, by decide⟩
    · exact ⟨1, rfl, by decide, by decide⟩
    · exact ⟨4, rfl, by decide, by decide⟩
  obtain ⟨d, rfl, hd1, hd2⟩ := hcd
  clear hc hr hw HIa HS
  go_wp2_with fail
  refine (arT_any d rb _ _ _ HIb.out.1 (by omega) rfl).mono ?_
  rintro e w4 ⟨k, n, s, f, A1, cp1, rfl, hf, hm, hn, hr⟩
  have HI4 := Lib.hid (HIb.out.step hr hm.wrote)
  have CM := mut_any rb _ 648 k n s f A1 cp1 0 w4.heap.size w4 HI4.out.1 (by omega) (hm.kids.more (Nat.zero_le _) (Nat.le_refl _)) (Nat.le_refl _) hf (Nat.le_trans hn hd2) (by omega)
  have hl4 := HI4.out.2.2.1.lt
  have HCM := Lib.hid CM
  clear hf hm hn hr HIb CM
  go_wp2_with fail
  refine HCM.out.mono ?_
  rintro e w10 ⟨k3, n3, s3, f3, A4, cp4, rfl, hf3, hm3, hn3, hr3⟩
  have HQ10 := Lib.hid (HI4.out.step hr3 hm3.wrote)
  have HF3 := Lib.hid hf3
  have HN3 := Lib.hid hn3
  have HO10 : Hid (∃ L, OwnS w10 f3 A4 cp4 L ∧ L.Nodup ∧ ∀ x ∈ L, w.heap.size < x) := Lib.hid (by
    obtain ⟨L, h1, h2, h3, _⟩ := hm3
    exact ⟨L, h1, h2, fun x hx => by have := (h3 x hx).1; omega⟩)
  clear hf3 hm3 hn3 hr3 HI4 HCM
  obtain ⟨d0, d1, d2, d3⟩ := cells4i HQ10.out.2.2.1
  obtain ⟨f0, f1, f2, f3'⟩ := frozen4 HQ10.out.2.2.1
  go_wp2_with fail
  refine bodyPost_ret (v := .agg #[.int .i64 k3, .int .i64 n3, .string s3, .slice A4 f3.len cp4]) ?_ rfl (HQ10.out.fin HF3.out (by have := HN3.out; omega) HO10.out ?_)
  · exact results_cell_row Tryd.results22 _ _ w.heap.size _ _ _ _ rfl (set4 HQ10.out.2.2.1 _ _ _ _) Tryd.underlying31 rfl (by kernel_rfl)
  · iterate 4 (refine Wrote.set_ ?_ (.inl (by simp)) _)
    exact Wrote.refl _ _
end Go.Proofs.YtabkoofmfhbmhaaDoor
