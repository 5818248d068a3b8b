/- spec.l1Draw, at depths from 2 on; l1Some. Condition: the source lies in memory. -/
import Derived.Test.YtkgihpddjppmdaaDoorProg
import Derived.Test.YtkgihpddjppmdaaDoorDrT
namespace Go.Proofs.YtkgihpddjppmdaaDoor
open Go.RowKit

set_option maxRecDepth 100000 in
set_option maxHeartbeats 8000000 in
theorem drT_high (d : Nat) (h : 1 ≤ d) (ih : DrT d) : DrT (d + 1) := by
  intro rb N x w hr hN hx
  have t0 : ¬ x < 2 := by omega
  have hx1 : x ≤ 1000000 := by have := drN_succ d; have := drN_pos d; have h3 : d < 4 ^ d := Nat.lt_pow_self (by decide); unfold drN at hN; rw [Nat.pow_succ] at hN; omega
  have hx2 : 2 ≤ x := by omega
  have hxd : x - 1 = (d : Int) := by omega
  have HXD := Lib.hid hxd
  have hp := drN_pos d
  have hm : 4 ≤ drM d := by obtain ⟨e, rfl⟩ : ∃ e, d = e + 1 := ⟨d - 1, by omega⟩; rw [drM_succ]; have := drM_pos e; omega
  rw [drN_succ, drM_succ]
  rw [drN_succ] at hN
  have IH := fun rb N w hr hN => ih rb N (x - 1) w hr hN HXD.out
  have HQ := Lib.hid (DqI.start hr)
  have HIH := Lib.hid IH
  clear hr hx h ih IH hxd
  generalize drN d = D at *
  generalize drM d = M at *
  go_enter Tryd.func14, Tryd.ntmps14
  go_wp2_with fail
  refine (pick_any rb _ 4 _ HQ.out.1 (by omega) (by omega) (by omega)).mono ?_
  rintro e w1 ⟨k1, rfl, hk0, hk1, hr, hw⟩
  have HQ1 := Lib.hid (HQ.out.step hr hw)
  clear hr hw HQ
  by_cases c1 : k1 = 0
  · subst c1
    go_wp2_with fail
    refine (pick_any rb _ 4 _ HQ1.out.1 (by omega) (by omega) (by omega)).mono ?_
    rintro e wa ⟨k, rfl, hk0, hk1, hr, hw⟩
    have HQa := Lib.hid (HQ1.out.step hr hw)
    clear hr hw HQ1
    by_cases z0 : k = 0
    · subst z0
      go_wp2_with fail
      refine (pick_any rb _ 4 _ HQa.out.1 (by omega) (by omega) (by omega)).mono ?_
      rintro e wb ⟨v, rfl, hv0, hv1, hr, hw⟩
      have HQb := Lib.hid (HQa.out.step hr hw)
      clear hr hw HQa
      go_wp2_with fail
      refine (var_any _ _).mono ?_
      rintro e wc ⟨rfl, hb⟩
      have HQc := Lib.hid (HQb.out.below hb)
      clear hb HQb
      obtain ⟨d0, d1, d2, d3⟩ := cells4i HQc.out.2.2.1
      obtain ⟨f0, f1, f2, f3⟩ := frozen4 HQc.out.2.2.1
      go_wp2_with fail
      refine bodyPost_ret (v := .agg #[.int .i64 1, .int .i64 v, .string ⟨#[]⟩, .slice none 0 0]) ?_ rfl (HQc.out.ret (f := .nil) ⟨by omega, by omega, Nat.zero_le _⟩ (own_nil _ _ _ _ (Nat.zero_le _)) (Nat.zero_le _) (by omega) _ _ _ _)
      exact results_cell_row Tryd.results14 _ _ w.heap.size _ _ _ _ rfl (set4 HQc.out.2.2.1 _ _ _ _) Tryd.underlying25 rfl (by kernel_rfl)
    · have tk0 : (k == 0) = false := by rw [beq_eq_false_iff_ne]; exact z0
      by_cases z1 : k = 1
      · subst z1
        have hb := (Below.refl wa.heap.size wa).alloc (Nat.le_refl _) (.cells #[.int .i64 0, .int .i64 1, .int .i64 7, .int .i64 (-3), .int .i64 999, .int .i64 (-999)] 3)
        have HQb := Lib.hid (HQa.out.below hb)
        have HI : Hid (IntsAt (wa.alloc (.cells #[.int .i64 0, .int .i64 1, .int .i64 7, .int .i64 (-3), .int .i64 999, .int .i64 (-999)] 3)) (rb + 1) (some ⟨wa.heap.size, 0, none⟩) [0, 1, 7, -3, 999, -999]) := Lib.hid ⟨wa.heap.size, rfl, HQa.out.1.lt, by simp, fun i z h => by rw [(Blk.new wa _ _).cell i]; match i, h with
          | 0, h => cases h; rfl
          | 1, h => cases h; rfl
          | 2, h => cases h; rfl
          | 3, h => cases h; rfl
          | 4, h => cases h; rfl
          | 5, h => cases h; rfl⟩
        clear hb HQa
        go_wp2_with fail
        refine (num_any rb _ [0, 1, 7, -3, 999, -999] _ 6 _ HQb.out.1 (by omega) HI.out (by decide) (by decide)).mono ?_
        rintro e wb ⟨v, rfl, hv, hr, hw⟩
        have HQc := Lib.hid (HQb.out.step hr hw)
        have hvb : -999 ≤ v ∧ v ≤ 999 := by simp at hv; omega
        clear hr hw HQb hv HI
        go_wp2_with fail
        refine (int_any _ _).mono ?_
        rintro e wc ⟨rfl, hb⟩
        have HQd := Lib.hid (HQc.out.below hb)
        clear hb HQc
        obtain ⟨d0, d1, d2, d3⟩ := cells4i HQd.out.2.2.1
        obtain ⟨f0, f1, f2, f3⟩ := frozen4 HQd.out.2.2.1
        go_wp2_with fail
        refine bodyPost_ret (v := .agg #[.int .i64 2, .int .i64 v, .string ⟨#[]⟩, .slice none 0 0]) ?_ rfl (HQd.out.ret (f := .nil) ⟨by omega, by omega, Nat.zero_le _⟩ (own_nil _ _ _ _ (Nat.zero_le _)) (Nat.zero_le _) (by omega) _ _ _ _)
        exact results_cell_row Tryd.results14 _ _ w.heap.size _ _ _ _ rfl (set4 HQd.out.2.2.1 _ _ _ _) Tryd.underlying25 rfl (by kernel_rfl)
      · have tk1 : (k == 1) = false := by rw [beq_eq_false_iff_ne]; exact z1
        have hb := (Below.refl wa.heap.size wa).alloc (Nat.le_refl _) (.cells #[.string ⟨#[97]⟩, .string ⟨#[98]⟩, .string ⟨#[110, 105, 108]⟩, .string ⟨#[91, 93]⟩, .string ⟨#[102, 111, 111]⟩, .string ⟨#[43]⟩] 9)
        have HQb := Lib.hid (HQa.out.below hb)
        have HI : Hid (StrsAt (wa.alloc (.cells #[.string ⟨#[97]⟩, .string ⟨#[98]⟩, .string ⟨#[110, 105, 108]⟩, .string ⟨#[91, 93]⟩, .string ⟨#[102, 111, 111]⟩, .string ⟨#[43]⟩] 9)) (rb + 1) (some ⟨wa.heap.size, 0, none⟩) [⟨#[97]⟩, ⟨#[98]⟩, ⟨#[110, 105, 108]⟩, ⟨#[91, 93]⟩, ⟨#[102, 111, 111]⟩, ⟨#[43]⟩]) := Lib.hid ⟨wa.heap.size, rfl, HQa.out.1.lt, by simp, fun i z h => by rw [(Blk.new wa _ _).cell i]; match i, h with
          | 0, h => cases h; rfl
          | 1, h => cases h; rfl
          | 2, h => cases h; rfl
          | 3, h => cases h; rfl
          | 4, h => cases h; rfl
          | 5, h => cases h; rfl⟩
        clear hb HQa
        go_wp2_with fail
        refine (of_any rb _ [⟨#[97]⟩, ⟨#[98]⟩, ⟨#[110, 105, 108]⟩, ⟨#[91, 93]⟩, ⟨#[102, 111, 111]⟩, ⟨#[43]⟩] _ 6 _ HQb.out.1 (by omega) HI.out (by decide) (by decide)).mono ?_
        rintro e wb ⟨s, rfl, hs, hr, hw⟩
        have HQc := Lib.hid (HQb.out.step hr hw)
        have hsb : s.size ≤ maxLen := names6 s hs
        have HSB := Lib.hid hsb
        clear hr hw HQb hs HI hsb
        go_wp2_with fail
        refine (structN_any s .nil none 0 [] _ ⟨Nat.zero_le _, Nat.zero_le _, .inl ⟨rfl, rfl⟩⟩ List.nodup_nil (by decide)).mono ?_
        rintro e wc ⟨A, cap, L, rfl, ho, hn, hL, hb, _⟩
        have hOL : ∀ x ∈ L, w.heap.size < x := fun x hx => by
          rcases hL x hx with h | h
          · simp at h
          · have := HQc.out.2.2.1.lt; omega
        have HQd := Lib.hid (HQc.out.below hb)
        have HO : Hid (∃ L, OwnS wc .nil A cap L ∧ L.Nodup ∧ ∀ x ∈ L, w.heap.size < x) := Lib.hid ⟨L, ho, hn, hOL⟩
        clear hb HQc ho hn hL hOL
        obtain ⟨d0, d1, d2, d3⟩ := cells4i HQd.out.2.2.1
        obtain ⟨f0, f1, f2, f3⟩ := frozen4 HQd.out.2.2.1
        go_wp2_with fail
        refine bodyPost_ret (v := .agg #[.int .i64 3, .int .i64 0, .string s, .slice A 0 cap]) ?_ rfl (HQd.out.ret (f := .nil) ⟨by omega, by omega, HSB.out⟩ HO.out (Nat.zero_le _) (by omega) _ _ _ _)
        exact results_cell_row Tryd.results14 _ _ w.heap.size _ _ _ _ rfl (set4 HQd.out.2.2.1 _ _ _ _) Tryd.underlying25 rfl (by kernel_rfl)
  · have tc1 : (k1 == 0) = false := by rw [beq_eq_false_iff_ne]; exact c1
    go_wp2_with fail
    refine (pick_any rb _ 3 _ HQ1.out.1 (by omega) (by omega) (by omega)).mono ?_
    rintro e w2 ⟨k2, rfl, hk0, hk1, hr, hw⟩
    have HQ2 := Lib.hid (HQ1.out.step hr hw)
    clear hr hw HQ1 hk0 hk1
    by_cases c2 : k2 = 0
    · subst c2
      go_wp2_with fail
      refine (HIH.out rb _ _ HQ2.out.1 (by omega)).mono ?_
      rintro e w3 ⟨a0, a1, a2, af, A1, cp1, rfl, hf1, hm1, hn1, hr⟩
      have HQ3 := Lib.hid (HQ2.out.step hr hm1.wrote)
      have HF1 := Lib.hid hf1
      have HM1 := Lib.hid hm1
      have HS2 := Lib.hid HQ2.out.2.2.1.lt
      have HS2' := Lib.hid HQ2.out.1.lt
      clear hr hf1 hm1 HQ2
      go_wp2_with fail
      refine (HIH.out rb _ _ HQ3.out.1 (by omega)).mono ?_
      rintro e w4 ⟨b0, b1, b2, bf, A2, cp2, rfl, hf2, hm2, hn2, hr⟩
      have HQ4 := Lib.hid (HQ3.out.step hr hm2.wrote)
      have hb := (Below.refl w4.heap.size w4).alloc (Nat.le_refl _) (.cells #[.int .i64 a0, .int .i64 a1, .string a2, .slice A1 af.len cp1, .int .i64 b0, .int .i64 b1, .string b2, .slice A2 bf.len cp2] 25)
      have HQ5 := Lib.hid (HQ4.out.below hb)
      have hown : ∃ L, OwnS (w4.alloc (.cells #[.int .i64 a0, .int .i64 a1, .string a2, .slice A1 af.len cp1, .int .i64 b0, .int .i64 b1, .string b2, .slice A2 bf.len cp2] 25)) (.cons a0 a1 a2 af (.cons b0 b1 b2 bf .nil)) (some ⟨w4.heap.size, 0, none⟩) 2 L ∧ L.Nodup ∧ ∀ x ∈ L, w.heap.size < x := by
        obtain ⟨L1, o1', n1, l1', q1⟩ := HM1.out
        obtain ⟨L2, o2, n2, l2, q2⟩ := hm2
        have hsr := HS2'.out
        have hs4 := q2.size
        have o1 := o1'.wrote q2 fun x hx e => by simp at e; have := (l1' x hx).1; omega
        have l1 : ∀ x ∈ L1, w2.heap.size ≤ x ∧ x < w4.heap.size := fun x hx => ⟨(l1' x hx).1, by have := (l1' x hx).2; omega⟩
        have hq := Blk.new w4 25 #[.int .i64 a0, .int .i64 a1, .string a2, .slice A1 af.len cp1, .int .i64 b0, .int .i64 b1, .string b2, .slice A2 bf.len cp2]
        have p1 := o1.below hb fun x hx => (l1 x hx).2
        have p2 := o2.below hb fun x hx => (l2 x hx).2
        have hs := HS2.out
        have hs3 := q1.size
        refine ⟨w4.heap.size :: (L1 ++ (L2 ++ [])), ⟨by simp [Fr.len], by unfold maxLen; omega, .inr ⟨w4.heap.size, L1 ++ (L2 ++ []), _, rfl, rfl, hq, rfl, ⟨A1, cp1, L1, L2 ++ [], rfl, HF1.out, ⟨hq.cell 0, hq.cell 1, hq.cell 2, hq.cell 3⟩, p1.1, p1.2.1, p1.2.2, ⟨A2, cp2, L2, [], rfl, hf2, ⟨hq.cell 4, hq.cell 5, hq.cell 6, hq.cell 7⟩, p2.1, p2.2.1, p2.2.2, rfl⟩⟩⟩⟩, ?_, ?_⟩
        · rw [List.append_nil]
          refine List.nodup_cons.2 ⟨fun hx => ?_, List.nodup_append.2 ⟨n1, n2, fun a ha b hb e => ?_⟩⟩
          · rcases List.mem_append.1 hx with hx | hx
            · have := (l1 _ hx).2; omega
            · have := (l2 _ hx).2; omega
          · have := (l1' a ha).2; have := (l2 b hb).1; omega
        · intro x hx
          rw [List.append_nil] at hx
          rcases List.mem_cons.1 hx with rfl | hx
          · omega
          · rcases List.mem_append.1 hx with hx | hx
            · have := (l1 _ hx).1; omega
            · have := (l2 _ hx).1; omega
      obtain ⟨L, hol, hnl, hll⟩ := hown
      have HO := Lib.hid hol
      have HN := Lib.hid hnl
      have HL := Lib.hid hll
      clear hr hf2 hm2 hb hol hnl hll HM1 HF1 HQ3 HQ4
      go_wp2_with fail
      refine (structN_any ⟨#[46]⟩ (.cons a0 a1 a2 af (.cons b0 b1 b2 bf .nil)) _ _ L _ HO.out HN.out (by simp [Fr.len])).mono ?_
      rintro e w6 ⟨A, cap, L', rfl, ho, hn, hL, hb, _⟩
      have HQ6 := Lib.hid (HQ5.out.below hb)
      have hO6 : ∃ L, OwnS w6 (.cons a0 a1 a2 af (.cons b0 b1 b2 bf .nil)) A cap L ∧ L.Nodup ∧ ∀ x ∈ L, w.heap.size < x := ⟨L', ho, hn, fun x hx => by
        rcases hL x hx with h | h
        · exact HL.out x h
        · have := HQ5.out.2.2.1.lt; omega⟩
      have HO6 := Lib.hid hO6
      clear ho hn hL hb HQ5 hO6 HO HN HL
      obtain ⟨d0, d1, d2, d3⟩ := cells4i HQ6.out.2.2.1
      obtain ⟨f0, f1, f2, f3⟩ := frozen4 HQ6.out.2.2.1
      go_wp2_with fail
      refine bodyPost_ret (v := .agg #[.int .i64 3, .int .i64 0, .string ⟨#[46]⟩, .slice A (Fr.cons a0 a1 a2 af (.cons b0 b1 b2 bf .nil)).len cap]) ?_ rfl (HQ6.out.ret ⟨by omega, by omega, by unfold maxLen; decide⟩ HO6.out (by simp only [nodes]; omega) (by omega) _ _ _ _)
      exact results_cell_row Tryd.results14 _ _ w.heap.size _ _ _ _ rfl (set4 HQ6.out.2.2.1 _ _ _ _) Tryd.underlying25 rfl (by kernel_rfl)
    · have tc2 : (k2 == 0) = false := by rw [beq_eq_false_iff_ne]; exact c2
      have hb := (Below.refl w2.heap.size w2).alloc (Nat.le_refl _) (.cells #[.string ⟨#[102]⟩, .string ⟨#[103]⟩, .string ⟨#[115]⟩, .string ⟨#[43]⟩, .string ⟨#[61]⟩, .string ⟨#[105, 115]⟩, .string ⟨#[102, 111, 111]⟩] 9)
      have HQ3 := Lib.hid (HQ2.out.below hb)
      have HI : Hid (StrsAt (w2.alloc (.cells #[.string ⟨#[102]⟩, .string ⟨#[103]⟩, .string ⟨#[115]⟩, .string ⟨#[43]⟩, .string ⟨#[61]⟩, .string ⟨#[105, 115]⟩, .string ⟨#[102, 111, 111]⟩] 9)) (rb + 1) (some ⟨w2.heap.size, 0, none⟩) [⟨#[102]⟩, ⟨#[103]⟩, ⟨#[115]⟩, ⟨#[43]⟩, ⟨#[61]⟩, ⟨#[105, 115]⟩, ⟨#[102, 111, 111]⟩]) := Lib.hid ⟨w2.heap.size, rfl, HQ2.out.1.lt, by simp, fun i z h => by rw [(Blk.new w2 _ _).cell i]; match i, h with
        | 0, h => cases h; rfl
        | 1, h => cases h; rfl
        | 2, h => cases h; rfl
        | 3, h => cases h; rfl
        | 4, h => cases h; rfl
        | 5, h => cases h; rfl
        | 6, h => cases h; rfl⟩
      clear hb HQ2
      go_wp2_with fail
      refine (of_any rb _ [⟨#[102]⟩, ⟨#[103]⟩, ⟨#[115]⟩, ⟨#[43]⟩, ⟨#[61]⟩, ⟨#[105, 115]⟩, ⟨#[102, 111, 111]⟩] _ 7 _ HQ3.out.1 (by omega) HI.out (by decide) (by decide)).mono ?_
      rintro e w3 ⟨s, rfl, hs, hr, hw⟩
      have HQ4 := Lib.hid (HQ3.out.step hr hw)
      have hsb : s.size ≤ maxLen := names7 s hs
      have HSB := Lib.hid hsb
      clear hr hw HQ3 hs HI hsb
      go_wp2_with fail
      refine (structN_any s .nil none 0 [] _ ⟨Nat.zero_le _, Nat.zero_le _, .inl ⟨rfl, rfl⟩⟩ List.nodup_nil (by decide)).mono ?_
      rintro e w4 ⟨A, cap, L, rfl, ho, hn, hL, hb, h0⟩
      obtain ⟨rfl, rfl, hq0⟩ := h0 rfl
      rw [show Fr.nil.len = 0 from rfl]
      have hp0 : RowP (w3.heap.size + 1) (.slice (some ⟨w3.heap.size + 1, 0, none⟩) 0 0) .nil w4 := ⟨[], [], ⟨rfl, .inr ⟨w3.heap.size + 1, 0, #[], rfl, Nat.le_refl _, hq0, Nat.le_refl _, Nat.zero_le _, rfl, rfl⟩⟩, ⟨rfl, rfl⟩, List.nodup_nil, fun x hx => by simp at hx, fun g hg => by simp⟩
      have hx0 := hp0.x (H := w4.heap.size) (Nat.le_refl _)
      have hq4 := Blk.new w4 25 #[.int .i64 3, .int .i64 0, .string s, .slice (some ⟨w3.heap.size + 1, 0, none⟩) 0 0]
      have hb1 := (Below.refl w4.heap.size w4).alloc (Nat.le_refl _) (.cells #[.int .i64 3, .int .i64 0, .string s, .slice (some ⟨w3.heap.size + 1, 0, none⟩) 0 0] 25)
      have HQ5 := Lib.hid ((HQ4.out.below hb).below hb1)
      have hlw : w.heap.size < w3.heap.size + 1 := by have := HQ4.out.2.2.1.lt; omega
      have hl3 : w3.heap.size + 1 < w4.heap.size := hq0.lt
      have HQ4' := Lib.hid hq4
      have HX := Lib.hid (hx0.below hb1)
      clear ho hn hL hb h0 hq0 hp0 hx0 hq4 hb1 HQ4
      go_wp2_with fail
      generalize hW5 : w4.alloc (.cells #[.int .i64 3, .int .i64 0, .string s, .slice (some ⟨w3.heap.size + 1, 0, none⟩) 0 0] 25) = W5 at *
      have hs5 : W5.heap.size = w4.heap.size + 1 := by rw [← hW5]; simp
      clear hW5
      generalize w4.heap.size = H at *
      generalize w3.heap.size + 1 = base at *
      have hb := (Below.refl W5.heap.size W5).alloc (Nat.le_refl _) (.cells #[.int .i64 2, .int .i64 1, .int .i64 3, .int .i64 2] 3)
      have HQ6 := Lib.hid (HQ5.out.below hb)
      have HI : Hid (IntsAt (W5.alloc (.cells #[.int .i64 2, .int .i64 1, .int .i64 3, .int .i64 2] 3)) (rb + 1) (some ⟨H + 1, 0, none⟩) [2, 1, 3, 2]) := Lib.hid ⟨H + 1, rfl, by have := HQ5.out.1.lt; omega, by simp; omega, fun i z h => by rw [← hs5, (Blk.new W5 _ _).cell i]; match i, h with
        | 0, h => cases h; rfl
        | 1, h => cases h; rfl
        | 2, h => cases h; rfl
        | 3, h => cases h; rfl⟩
      have HT := Lib.hid (HQ4'.out.below hb HQ4'.out.lt)
      have HX6 := Lib.hid (HX.out.below hb)
      clear hb HQ5 HX HQ4'
      refine (num_any rb _ [2, 1, 3, 2] _ 4 _ HQ6.out.1 (by omega) HI.out (by decide) (by decide)).mono ?_
      rintro e w7 ⟨c, rfl, hc, hr, hw⟩
      have hrb := HQ6.out.2.2.2
      have HQ7 := Lib.hid (HQ6.out.step hr hw)
      have HT7 := Lib.hid (hw.blk HT.out (by simp; omega))
      have HX7 := Lib.hid (HX6.out.wrote (rb := rb) (by omega) hw)
      have hs7 : H < w7.heap.size := HT7.out.lt
      have hcm : ∃ m : Nat, c = (m : Int) ∧ m ≤ 3 := by simp at hc; exact ⟨c.toNat, by omega, by omega⟩
      obtain ⟨m, rfl, hm3⟩ := hcm
      have e3D := Nat.mul_le_mul_right D hm3
      have e3M := Nat.mul_le_mul_right (1 + M) hm3
      clear hr hw hc HI HT HX6 HQ6 hs5
      obtain ⟨i0, hi0, hz0, hz1, hz2⟩ := info_parts infoTd
      go_wp2_with fail
      go_loopw [6] (fun i wr => ∃ (m U : Nat) (v : Value) (F : Fr), i = .int .i64 (m : Int) ∧ F.len + m ≤ 3 ∧ U + m * D ≤ N + 4 + 3 * D ∧ nodes F + m * (1 + M) ≤ 3 * (1 + M) ∧ DqI w rb U wr ∧ Blk wr H 25 #[.int .i64 3, .int .i64 0, .string s, v] ∧ RowX base H v F wr) (fun i _ => (intOf i).toNat)
      case atStart => exact ⟨m, _, _, .nil, rfl, by simp only [Fr.len]; omega, by omega, by simp only [nodes]; omega, HQ7.out, HT7.out, HX7.out⟩
      case round =>
        obtain ⟨m, U, v, F, rfl, h1, h2, h3, hq, ht, hx⟩ := hrel
        cases m with
        | zero =>
          obtain ⟨A, cap, rfl⟩ := hx.p.form
          obtain ⟨L, ho, hn, hL⟩ := hx.p.own
          obtain ⟨x0, x1, x2, x3⟩ := cells4i ht
          obtain ⟨d0, d1, d2, d3⟩ := cells4i hq.2.2.1
          obtain ⟨f0, f1, f2, f3⟩ := frozen4 hq.2.2.1
          have HQ8 := Lib.hid hq
          have HO8 : Hid (∃ L, OwnS wr F A cap L ∧ L.Nodup ∧ ∀ x ∈ L, w.heap.size < x) := Lib.hid ⟨L, ho, hn, fun x hx => by have := (hL x hx).1; omega⟩
          have HNF : Hid (nodes F ≤ 4 * M) := Lib.hid (by omega)
          have HU : Hid (U ≤ N + 4 * D) := Lib.hid (by omega)
          clear hq ht hx ho hn hL h1 h2 h3 HQ7 HT7 HX7 e3D e3M
          go_wp2_with fail
          refine bodyPost_ret (v := .agg #[.int .i64 3, .int .i64 0, .string s, .slice A F.len cap]) ?_ rfl (HQ8.out.ret ⟨by omega, by omega, HSB.out⟩ HO8.out HNF.out HU.out _ _ _ _)
          exact results_cell_row Tryd.results14 _ _ w.heap.size _ _ _ _ rfl (set4 HQ8.out.2.2.1 _ _ _ _) Tryd.underlying25 rfl (by kernel_rfl)
        | succ m =>
          rw [Nat.succ_mul] at h2 h3
          obtain ⟨xs, L, hown, hDs, hN, hL, hv⟩ := hx
          have hvl := hown.lt
          have hbs : base ≤ wr.heap.size := by have := ht.lt; omega
          have hHl := ht.lt
          have x3 : wr.cell? ⟨H, 3, none⟩ = some v := ht.cell 3
          have xf := ht.frozen 3
          have STEP := fun (w1 w2 w4 : World) (b0 b1 : Int) (b2 : ByteArray) (bf : Fr) (A2 : Option Addr) (cap2 g cap4 U2 : Nat) hf hm hr1 hb2 hg ho hat => dr_step (w1 := w1) (w2 := w2) (w4 := w4) (k := b0) (n := b1) (s' := b2) (kids := bf) (A := A2) (cap := cap2) (cap4 := cap4) (g := g) (U2 := U2) hq ht hlw hbs (by omega) hDs hN hL hv hvl hf hm hr1 hb2 hg ho hat
          have CALL := HIH.out rb U wr.drew (hq.1.below (Below.refl _ _).drew) (by have := Nat.zero_le (m * D); omega)
          have hne : some H ≠ v.ownBlock := fun e => (hv _ e.symm).2 rfl
          have keep : ∀ w2, Wrote [rb] wr w2 → w2.ownsRow base 25 4 v F.len xs := fun w2 hb2 => by
            refine ⟨hown.1, ?_⟩
            rcases hown.2 with h | ⟨g, cap, cur, rfl, hg, hh, hr'⟩
            · exact .inl h
            · exact .inr ⟨g, cap, cur, rfl, hg, (hb2.block g (hvl g rfl).2 (by simp; omega)).trans hh, hr'⟩
          have HSTEP := Lib.hid STEP
          have HCALL := Lib.hid CALL
          have HNE := Lib.hid hne
          have HKEEP := Lib.hid keep
          have HTT := Lib.hid ht
          have HNF := Lib.hid h3
          have hm0 : (0 : Int) < ((m + 1 : Nat) : Int) := by omega
          have hfl : F.len ≤ 3 := by omega
          clear STEP CALL hne keep hown hDs hN hL hv hvl hq ht HQ7 HT7 HX7 e3D e3M h3
          generalize hfl2 : F.len = fl at *
          have HFL := Lib.hid hfl2
          clear hfl2
          go_wp2_with fail
          have hwx : IntKind.i64.wrap (x - 1) = x - 1 := IntWalk.i64_in _ (by omega)
          go_region_law (first
            | (refine step_append_lies _ (by rfl) _ _ _ (by rfl) base 25 i0 _ 4 56 Tryd.underlying23 hi0 hz0 hz1 hz2 rfl (by omega) v fl xs (by rfl) (HO2.out.alloc _)
                 ⟨w2.heap.size, 0, none⟩ 1 1 [.int .i64 b0, .int .i64 b1, .string b2, .slice A2 bf.len cap2] (by rfl) (by rfl) (World.news_of_block (cs := #[.int .i64 b0, .int .i64 b1, .string b2, .slice A2 bf.len cap2]) (fr := (0, 0)) (heap_alloc_new w2 _)) (by simp [Value.oneCell'])
                 (by omega) (by unfold maxLen; omega) (by omega) (by simp; omega) (w2.heap.size + 1) (by simp) ?_
               intro g cap4 w4 hown4 hgrow hat hlt4
               have q4 := (HT2.out.alloc (.cells #[.int .i64 b0, .int .i64 b1, .string b2, .slice A2 bf.len cap2] 25)).keep (hgrow.block _ (by simp; omega) HNE.out)
               have z3 := q4.cell 3
               have zf := q4.frozen 3
               simp only [List.getElem?_toArray, List.getElem?_cons_zero, List.getElem?_cons_succ] at z3
               clear q4
               have HOWN4 := Lib.hid hown4
               have HGROW := Lib.hid hgrow
               have HAT := Lib.hid hat
               clear hown4 hgrow hat)
            | (go_simp
               go_at_call 14
               refine HCALL.out.mono ?_
               rintro e w2 ⟨b0, b1, b2, bf, A2, cap2, rfl, hf2, hm2, hn2, hr2⟩
               have hm2' := hm2.up (w := wr) (.of_below (Below.refl _ _).drew _)
               have hd2 := hm2'.wrote
               have hs2 := hd2.size
               have ht2 := hd2.blk HTT.out (by simp; omega)
               have y3 := ht2.cell 3
               have y4 := (ht2.alloc (.cells #[.int .i64 b0, .int .i64 b1, .string b2, .slice A2 bf.len cap2] 25)).cell 3
               simp only [List.getElem?_toArray, List.getElem?_cons_zero, List.getElem?_cons_succ] at y3 y4
               have HO2 := Lib.hid (HKEEP.out w2 hd2)
               have HT2 := Lib.hid ht2
               have HM := Lib.hid hm2'
               have HR2 := Lib.hid hr2
               have HF2 := Lib.hid hf2
               clear hm2 hm2' hd2 ht2 hr2 hf2))
          all_goals
            have hs := HSTEP.out w2 _ w4 b0 b1 b2 bf A2 cap2 g cap4 _ HF2.out HM.out HR2.out ((Below.refl _ _).alloc (Nat.le_refl _) _) HGROW.out HOWN4.out (by simpa using HAT.out)
            have HS := Lib.hid hs
            have HN2 := Lib.hid hn2
            clear hs hwx hn2
            go_wp2_with fail
            go_roundw
            case rel => exact ⟨m, U + D, _, F.app (.cons b0 b1 b2 bf .nil), by go_num, by rw [Fr.len_app, HFL.out]; simp only [Fr.len]; omega, by omega, by rw [nodes_app]; have := HNF.out; have := HN2.out; simp only [nodes]; omega, HS.out.1, HS.out.2.1, by have := HS.out.2.2; exact this⟩
            case measure => simp [intOf]
theorem drT_any : ∀ d, DrT d
  | 0 => drT_low 0 (by omega)
  | 1 => drT_low 1 (by omega)
  | d + 2 => drT_high (d + 1) (by omega) (drT_any (d + 1))

set_option maxRecDepth 100000 in
set_option maxHeartbeats 2000000 in
/-- spec.l1Some. -/
theorem some_any (rb N : Nat) (w : World) (hr : Rd w rb N) (hN : N + 3000 ≤ 1000000) : Calls Tryd.prog 12 #[.pointer (some ⟨rb, 0, none⟩)] w fun e w' => DrR rb (N + 3000) 256 w e w' := by
  have HQ := Lib.hid (DqI.start hr)
  clear hr
  have hb := (Below.refl (w.alloc (.cells #[.int .i64 0, .int .i64 0, .string ⟨#[]⟩, .slice none 0 0] 25)).heap.size (w.alloc (.cells #[.int .i64 0, .int .i64 0, .string ⟨#[]⟩, .slice none 0 0] 25))).alloc (Nat.le_refl _) (.cells #[.int .i64 3, .int .i64 2, .int .i64 4, .int .i64 1] 3)
  have HQ1 := Lib.hid (HQ.out.below hb)
  have HI : Hid (IntsAt ((w.alloc (.cells #[.int .i64 0, .int .i64 0, .string ⟨#[]⟩, .slice none 0 0] 25)).alloc (.cells #[.int .i64 3, .int .i64 2, .int .i64 4, .int .i64 1] 3)) (rb + 1) (some ⟨w.heap.size + 1, 0, none⟩) [3, 2, 4, 1]) := Lib.hid ⟨w.heap.size + 1, rfl, by have := HQ.out.2.2.2; omega, by simp, fun i z h => by
    have hq := (Blk.new (w.alloc (.cells #[.int .i64 0, .int .i64 0, .string ⟨#[]⟩, .slice none 0 0] 25)) 3 #[.int .i64 3, .int .i64 2, .int .i64 4, .int .i64 1]).cell i
    rw [show (w.alloc (.cells #[.int .i64 0, .int .i64 0, .string ⟨#[]⟩, .slice none 0 0] 25)).heap.size = w.heap.size + 1 by simp] at hq
    rw [hq]
    match i, h with
    | 0, h => cases h; rfl
    | 1, h => cases h; rfl
    | 2, h => cases h; rfl
    | 3, h => cases h; rfl⟩
  clear hb HQ
  go_enter Tryd.func12, Tryd.ntmps12
  go_wp2_with fail
  refine (num_any rb _ [3, 2, 4, 1] _ 4 _ HQ1.out.1 (by omega) HI.out (by decide) (by decide)).mono ?_
  rintro e w2 ⟨c, rfl, hc, hr, hw⟩
  have HQ2 := Lib.hid (HQ1.out.step hr hw)
  have hcd : ∃ d : Nat, c = (d : Int) ∧ drN d ≤ 2048 ∧ drM d ≤ 256 := by
    simp at hc
    rcases hc with rfl | rfl | rfl | rfl
    · exact ⟨3, rfl, by decide, by decide⟩
    · exact ⟨2, rfl, by decide, by decide⟩
    · exact ⟨4, rfl, by decide, by decide⟩
    · exact ⟨1, rfl, by decide, by decide⟩
  obtain ⟨d, rfl, hd1, hd2⟩ := hcd
  clear hc hr hw HQ1 HI
  go_wp2_with fail
  refine (drT_any d rb _ _ _ HQ2.out.1 (by omega) rfl).mono ?_
  rintro e w3 ⟨k, n, s, f, A, cap, rfl, hf, hm, hn, hr⟩
  have HQ3 := Lib.hid (HQ2.out.step hr hm.wrote)
  have hl := HQ2.out.2.2.1.lt
  have HF := Lib.hid hf
  have HNF := Lib.hid hn
  have HO : Hid (∃ L, OwnS w3 f A cap L ∧ L.Nodup ∧ ∀ x ∈ L, w.heap.size < x) := Lib.hid (by
    obtain ⟨L, h1, h2, h3, _⟩ := hm
    exact ⟨L, h1, h2, fun x hx => by have := (h3 x hx).1; omega⟩)
  clear hf hm hn hr HQ2
  obtain ⟨d0, d1, d2, d3⟩ := cells4i HQ3.out.2.2.1
  obtain ⟨f0, f1, f2, f3⟩ := frozen4 HQ3.out.2.2.1
  go_wp2_with fail
  refine bodyPost_ret (v := .agg #[.int .i64 k, .int .i64 n, .string s, .slice A f.len cap]) ?_ rfl (HQ3.out.ret HF.out HO.out (Nat.le_trans HNF.out hd2) (by omega) _ _ _ _)
  exact results_cell_row Tryd.results12 _ _ w.heap.size _ _ _ _ rfl (set4 HQ3.out.2.2.1 _ _ _ _) Tryd.underlying25 rfl (by kernel_rfl)
end Go.Proofs.YtkgihpddjppmdaaDoor
