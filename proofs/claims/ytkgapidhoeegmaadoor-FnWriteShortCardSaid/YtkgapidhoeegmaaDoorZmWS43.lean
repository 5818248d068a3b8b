/- spec.l2Draw, spec.DrawWriteTerm. Condition: the source lies in memory, and so do the bytes. -/
import Derived.Test.YtkgapidhoeegmaaDoorProg
import Derived.Test.YtkgapidhoeegmaaDoorDrL
import Derived.Test.YtkgapidhoeegmaaDoorPair
import Derived.Lib.ItoaLen
import Derived.Test.YtkgapidhoeegmaaDoorTermOf
namespace Go.Proofs.YtkgapidhoeegmaaDoor
open Go.RowKit

theorem names8 (s : ByteArray) (h : s ∈ ([⟨#[43]⟩, ⟨#[45]⟩, ⟨#[42]⟩, ⟨#[105, 115]⟩, ⟨#[109, 111, 100]⟩, ⟨#[61]⟩, ⟨#[47, 47]⟩, ⟨#[61, 60]⟩] : List ByteArray)) : s.size ≤ maxLen := by
  unfold maxLen
  simp only [List.mem_cons, List.not_mem_nil, or_false] at h
  rcases h with rfl | rfl | rfl | rfl | rfl | rfl | rfl | rfl <;> decide
/-- What spec.l2Draw leaves at a depth. -/
def Dr2 (d : Nat) : Prop := ∀ (rb N : Nat) (x : Int) (w : World), Rd w rb N → N + 3 * drN d ≤ 1000000 → x = (d : Int) →
  Calls Tryd.prog 22 #[.pointer (some ⟨rb, 0, none⟩), .int .i64 x] w fun e w' => DrR rb (N + 3 * drN d) (drM d) w e w'
set_option maxRecDepth 100000 in
set_option maxHeartbeats 4000000 in
theorem dr2_low : Dr2 1 := by
  intro rb N x w hr hN hx
  have h1 : drN 1 = 32 := by decide
  rw [h1] at hN
  rw [h1]
  subst hx
  have C1 := fun w1 N1 (h : Rd w1 rb N1) (hN : N1 + drN 1 ≤ 1000000) => drT_any 1 rb N1 1 w1 h hN rfl
  rw [h1] at C1
  have HC := Lib.hid C1
  have HQ := Lib.hid (DqI.start hr)
  clear hr C1 h1
  go_enter Tryd.func22, Tryd.ntmps22
  go_wp2_with fail
  refine (HC.out _ _ HQ.out.1 (by omega)).mono ?_
  rintro e w3 ⟨k, n, s, f, A, cap, rfl, hf, hm, hn, hr⟩
  have HQ3 := Lib.hid (HQ.out.step hr hm.wrote)
  have hl := HQ.out.2.2.1.lt
  have HF := Lib.hid hf
  have HNF := Lib.hid hn
  have HO : Hid (∃ L, OwnS w3 f A cap L ∧ L.Nodup ∧ ∀ x ∈ L, w.heap.size < x) := Lib.hid (by
    obtain ⟨L, h1, h2, h3, _⟩ := hm
    exact ⟨L, h1, h2, fun x hx => by have := (h3 x hx).1; omega⟩)
  clear hf hm hn hr HQ
  obtain ⟨d0, d1, d2, d3⟩ := cells4i HQ3.out.2.2.1
  obtain ⟨f0, f1, f2, f3⟩ := frozen4 HQ3.out.2.2.1
  go_wp2_with fail
  refine bodyPost_ret (v := .agg #[.int .i64 k, .int .i64 n, .string s, .slice A f.len cap]) ?_ rfl (HQ3.out.ret HF.out HO.out HNF.out (by omega) _ _ _ _)
  exact results_cell_row Tryd.results22 _ _ w.heap.size _ _ _ _ rfl (set4 HQ3.out.2.2.1 _ _ _ _) Tryd.underlying28 rfl (by kernel_rfl)
set_option maxRecDepth 100000 in
set_option maxHeartbeats 8000000 in
theorem dr2_high (d : Nat) (h : 1 ≤ d) (ih : Dr2 d) : Dr2 (d + 1) := by
  intro rb N x w hr hN hx
  have t0 : ¬ x < 2 := by omega
  have hx1 : x ≤ 1000000 := by have := drN_succ d; have := drN_pos d; have h3 : d < 4 ^ d := Nat.lt_pow_self (by decide); unfold drN at hN; rw [Nat.pow_succ] at hN; omega
  have hx2 : 2 ≤ x := by omega
  have hxd : x - 1 = (d : Int) := by omega
  have HXD := Lib.hid hxd
  have hp := drN_pos d
  have hm : 4 ≤ drM d := by obtain ⟨e, rfl⟩ : ∃ e, d = e + 1 := ⟨d - 1, by omega⟩; rw [drM_succ]; have := drM_pos e; omega
  have C1 := fun w1 N1 (h : Rd w1 rb N1) (hN : N1 + drN (d + 1) ≤ 1000000) => drT_any (d + 1) rb N1 x w1 h hN hx
  rw [drN_succ, drM_succ] at C1
  rw [drN_succ, drM_succ]
  rw [drN_succ] at hN
  have IH := fun rb N w hr hN => ih rb N (x - 1) w hr hN HXD.out
  have HQ := Lib.hid (DqI.start hr)
  have HIH := Lib.hid IH
  have HC := Lib.hid C1
  clear hr hx h ih IH hxd C1
  generalize drN d = D at *
  generalize drM d = M at *
  go_enter Tryd.func22, Tryd.ntmps22
  go_wp2_with fail
  refine (pick_any rb _ 3 _ HQ.out.1 (by omega) (by omega) (by omega)).mono ?_
  rintro e w1 ⟨k1, rfl, hk0, hk1, hr, hw⟩
  have HQ1 := Lib.hid (HQ.out.step hr hw)
  clear hr hw HQ
  by_cases c1 : k1 = 0
  · subst c1
    go_wp2_with fail
    refine (HC.out _ _ HQ1.out.1 (by omega)).mono ?_
    rintro e w3 ⟨k, n, s, f, A, cap, rfl, hf, hm1, hn, hr⟩
    have HQ3 := Lib.hid (HQ1.out.step hr hm1.wrote)
    have hl := HQ1.out.2.2.1.lt
    have HF := Lib.hid hf
    have HNF := Lib.hid hn
    have HO : Hid (∃ L, OwnS w3 f A cap L ∧ L.Nodup ∧ ∀ x ∈ L, w.heap.size < x) := Lib.hid (by
      obtain ⟨L, h1, h2, h3, _⟩ := hm1
      exact ⟨L, h1, h2, fun x hx => by have := (h3 x hx).1; omega⟩)
    clear hf hm1 hn hr HQ1
    obtain ⟨d0, d1, d2, d3⟩ := cells4i HQ3.out.2.2.1
    obtain ⟨f0, f1, f2, f3⟩ := frozen4 HQ3.out.2.2.1
    go_wp2_with fail
    refine bodyPost_ret (v := .agg #[.int .i64 k, .int .i64 n, .string s, .slice A f.len cap]) ?_ rfl (HQ3.out.ret HF.out HO.out HNF.out (by omega) _ _ _ _)
    exact results_cell_row Tryd.results22 _ _ w.heap.size _ _ _ _ rfl (set4 HQ3.out.2.2.1 _ _ _ _) Tryd.underlying28 rfl (by kernel_rfl)
  · have tc1 : (k1 == 0) = false := by rw [beq_eq_false_iff_ne]; exact c1
    have hb := (Below.refl w1.heap.size w1).alloc (Nat.le_refl _) (.cells #[.string ⟨#[43]⟩, .string ⟨#[45]⟩, .string ⟨#[42]⟩, .string ⟨#[105, 115]⟩, .string ⟨#[109, 111, 100]⟩, .string ⟨#[61]⟩, .string ⟨#[47, 47]⟩, .string ⟨#[61, 60]⟩] 9)
    have HQa := Lib.hid (HQ1.out.below hb)
    have HI : Hid (StrsAt (w1.alloc (.cells #[.string ⟨#[43]⟩, .string ⟨#[45]⟩, .string ⟨#[42]⟩, .string ⟨#[105, 115]⟩, .string ⟨#[109, 111, 100]⟩, .string ⟨#[61]⟩, .string ⟨#[47, 47]⟩, .string ⟨#[61, 60]⟩] 9)) (rb + 1) (some ⟨w1.heap.size, 0, none⟩) [⟨#[43]⟩, ⟨#[45]⟩, ⟨#[42]⟩, ⟨#[105, 115]⟩, ⟨#[109, 111, 100]⟩, ⟨#[61]⟩, ⟨#[47, 47]⟩, ⟨#[61, 60]⟩]) := Lib.hid ⟨w1.heap.size, rfl, HQ1.out.1.lt, by simp, fun i z h => by rw [(Blk.new w1 _ _).cell i]; match i, h with
      | 0, h => cases h; rfl
      | 1, h => cases h; rfl
      | 2, h => cases h; rfl
      | 3, h => cases h; rfl
      | 4, h => cases h; rfl
      | 5, h => cases h; rfl
      | 6, h => cases h; rfl
      | 7, h => cases h; rfl⟩
    clear hb HQ1
    go_wp2_with fail
    refine (of_any rb _ [⟨#[43]⟩, ⟨#[45]⟩, ⟨#[42]⟩, ⟨#[105, 115]⟩, ⟨#[109, 111, 100]⟩, ⟨#[61]⟩, ⟨#[47, 47]⟩, ⟨#[61, 60]⟩] _ 8 _ HQa.out.1 (by omega) HI.out (by decide) (by decide)).mono ?_
    rintro e w2 ⟨s, rfl, hs, hr, hw⟩
    have HQ2 := Lib.hid (HQa.out.step hr hw)
    have hsb : s.size ≤ maxLen := names8 s hs
    have HSB := Lib.hid hsb
    clear hr hw HQa hs HI hsb
    go_wp2_with fail
    refine (HIH.out rb _ _ HQ2.out.1 (by omega)).mono ?_
    rintro e w3 ⟨a0, a1, a2, af, A1, cp1, rfl, hf1, hm1, hn1, hr⟩
    have HQ3 := Lib.hid (HQ2.out.step hr hm1.wrote)
    have HF1 := Lib.hid hf1
    have HM1 := Lib.hid hm1
    have HS2 := Lib.hid HQ2.out.2.2.1.lt
    have HS2' := Lib.hid HQ2.out.1.lt
    clear hr hf1 hm1 HQ2
    go_wp2_with fail
    refine (HIH.out rb _ _ HQ3.out.1 (by omega)).mono ?_
    rintro e w4 ⟨b0, b1, b2, bf, A2, cp2, rfl, hf2, hm2, hn2, hr⟩
    have HQ4 := Lib.hid (HQ3.out.step hr hm2.wrote)
    have hb := (Below.refl w4.heap.size w4).alloc (Nat.le_refl _) (.cells #[.int .i64 a0, .int .i64 a1, .string a2, .slice A1 af.len cp1, .int .i64 b0, .int .i64 b1, .string b2, .slice A2 bf.len cp2] 28)
    have HQ5 := Lib.hid (HQ4.out.below hb)
    have hown : ∃ L, OwnS (w4.alloc (.cells #[.int .i64 a0, .int .i64 a1, .string a2, .slice A1 af.len cp1, .int .i64 b0, .int .i64 b1, .string b2, .slice A2 bf.len cp2] 28)) (.cons a0 a1 a2 af (.cons b0 b1 b2 bf .nil)) (some ⟨w4.heap.size, 0, none⟩) 2 L ∧ L.Nodup ∧ ∀ x ∈ L, w.heap.size < x := by
      obtain ⟨L1, o1', n1, l1', q1⟩ := HM1.out
      obtain ⟨L2, o2, n2, l2, q2⟩ := hm2
      have hsr := HS2'.out
      have hs4 := q2.size
      have o1 := o1'.wrote q2 fun x hx e => by simp at e; have := (l1' x hx).1; omega
      have l1 : ∀ x ∈ L1, w2.heap.size ≤ x ∧ x < w4.heap.size := fun x hx => ⟨(l1' x hx).1, by have := (l1' x hx).2; omega⟩
      have hq := Blk.new w4 28 #[.int .i64 a0, .int .i64 a1, .string a2, .slice A1 af.len cp1, .int .i64 b0, .int .i64 b1, .string b2, .slice A2 bf.len cp2]
      have p1 := o1.below hb fun x hx => (l1 x hx).2
      have p2 := o2.below hb fun x hx => (l2 x hx).2
      have hs := HS2.out
      have hs3 := q1.size
      refine ⟨w4.heap.size :: (L1 ++ (L2 ++ [])), ⟨by simp [Fr.len], by unfold maxLen; omega, .inr ⟨w4.heap.size, L1 ++ (L2 ++ []), _, rfl, rfl, hq, rfl, ⟨A1, cp1, L1, L2 ++ [], rfl, HF1.out, ⟨hq.cell 0, hq.cell 1, hq.cell 2, hq.cell 3⟩, p1.1, p1.2.1, p1.2.2, ⟨A2, cp2, L2, [], rfl, hf2, ⟨hq.cell 4, hq.cell 5, hq.cell 6, hq.cell 7⟩, p2.1, p2.2.1, p2.2.2, rfl⟩⟩⟩⟩, ?_, ?_⟩
      · rw [List.append_nil]
        refine List.nodup_cons.2 ⟨fun hx => ?_, List.nodup_append.2 ⟨n1, n2, fun a ha b hb e => ?_⟩⟩
        · rcases List.mem_append.1 hx with hx | hx
          · have := (l1 _ hx).2; omega
          · have := (l2 _ hx).2; omega
        · have := (l1' a ha).2; have := (l2 b hb).1; omega
      · intro x hx
        rw [List.append_nil] at hx
        rcases List.mem_cons.1 hx with rfl | hx
        · omega
        · rcases List.mem_append.1 hx with hx | hx
          · have := (l1 _ hx).1; omega
          · have := (l2 _ hx).1; omega
    obtain ⟨L, hol, hnl, hll⟩ := hown
    have HO := Lib.hid hol
    have HN := Lib.hid hnl
    have HL := Lib.hid hll
    clear hr hf2 hm2 hb hol hnl hll HM1 HF1 HQ3 HQ4
    go_wp2_with fail
    refine (structN_any s (.cons a0 a1 a2 af (.cons b0 b1 b2 bf .nil)) _ _ L _ HO.out HN.out (by simp [Fr.len])).mono ?_
    rintro e w6 ⟨A, cap, L', rfl, ho, hn, hL, hb, _⟩
    have HQ6 := Lib.hid (HQ5.out.below hb)
    have hO6 : ∃ L, OwnS w6 (.cons a0 a1 a2 af (.cons b0 b1 b2 bf .nil)) A cap L ∧ L.Nodup ∧ ∀ x ∈ L, w.heap.size < x := ⟨L', ho, hn, fun x hx => by
      rcases hL x hx with h | h
      · exact HL.out x h
      · have := HQ5.out.2.2.1.lt; omega⟩
    have HO6 := Lib.hid hO6
    clear ho hn hL hb HQ5 hO6 HO HN HL
    obtain ⟨d0, d1, d2, d3⟩ := cells4i HQ6.out.2.2.1
    obtain ⟨f0, f1, f2, f3⟩ := frozen4 HQ6.out.2.2.1
    go_wp2_with fail
    refine bodyPost_ret (v := .agg #[.int .i64 3, .int .i64 0, .string s, .slice A (Fr.cons a0 a1 a2 af (.cons b0 b1 b2 bf .nil)).len cap]) ?_ rfl (HQ6.out.ret ⟨by omega, by omega, HSB.out⟩ HO6.out (by simp only [nodes]; omega) (by omega) _ _ _ _)
    exact results_cell_row Tryd.results22 _ _ w.heap.size _ _ _ _ rfl (set4 HQ6.out.2.2.1 _ _ _ _) Tryd.underlying28 rfl (by kernel_rfl)
theorem dr2_any : ∀ d, 1 ≤ d → Dr2 d
  | 0, h => absurd h (by decide)
  | 1, _ => dr2_low
  | d + 2, _ => dr2_high (d + 1) (by omega) (dr2_any (d + 1) (by omega))
set_option maxRecDepth 100000 in
set_option maxHeartbeats 4000000 in
/-- spec.DrawWriteTerm. -/
theorem drawWT_any (A : Option Addr) (len cap : Nat) (w : World) (hb : Bts w w.heap.size A len) (hc : len ≤ cap) (hm : cap ≤ maxLen) :
    Calls Tryd.prog 9 #[.slice A len cap] w fun e w' => Dr1 1000 w e w' := by
  have hb1 : Below w.heap.size w (w.alloc (.cells #[.int .i64 0, .int .i64 0, .string ⟨#[]⟩, .slice none 0 0] 28)) := (Below.refl _ _).alloc (Nat.le_refl _) _
  have hq1 := Blk.new w 28 #[.int .i64 0, .int .i64 0, .string ⟨#[]⟩, .slice none 0 0]
  have hs1 : (w.alloc (.cells #[.int .i64 0, .int .i64 0, .string ⟨#[]⟩, .slice none 0 0] 28)).heap.size = w.heap.size + 1 := by simp
  have C1 := open18_any A len cap (w.alloc (.cells #[.int .i64 0, .int .i64 0, .string ⟨#[]⟩, .slice none 0 0] 28)) (hb.up hb1) hc hm
  have H1 := Lib.hid C1
  have HB1 := Lib.hid hb1
  have HQ1 := Lib.hid hq1
  have HS1 := Lib.hid hs1
  clear C1 hb hc hm hb1 hq1 hs1
  go_enter Tryd.func9, Tryd.ntmps9
  go_wp2_with fail
  refine H1.out.mono ?_
  rintro e w3 ⟨rfl, hr, hb⟩
  have hI : DsI w (w.heap.size + 1) 0 w3 := ⟨by rw [← HS1.out]; exact hr, HB1.out.trans (hb.mono HB1.out.size), HQ1.out.below hb HQ1.out.lt, by omega⟩
  rw [HS1.out]
  have HI := Lib.hid hI
  clear hr hb hI H1 HB1 HQ1 HS1
  generalize hrb : w.heap.size + 1 = rb at *
  have hwr : w.heap.size < rb := by omega
  clear hrb
  have hb3 := (Below.refl w3.heap.size w3).alloc (Nat.le_refl _) (.cells #[.int .i64 3, .int .i64 2, .int .i64 4, .int .i64 1] 3)
  have HI3 := Lib.hid (HI.out.below hb3)
  have HZ : Hid (IntsAt (w3.alloc (.cells #[.int .i64 3, .int .i64 2, .int .i64 4, .int .i64 1] 3)) (rb + 1) (some ⟨w3.heap.size, 0, none⟩) [3, 2, 4, 1]) := Lib.hid ⟨w3.heap.size, rfl, HI.out.1.lt, by simp, fun i z h => by rw [(Blk.new w3 _ _).cell i]; match i, h with
    | 0, h => cases h; rfl
    | 1, h => cases h; rfl
    | 2, h => cases h; rfl
    | 3, h => cases h; rfl⟩
  clear hb3 HI
  go_wp2_with fail
  refine (num_any rb _ [3, 2, 4, 1] _ 4 _ HI3.out.1 (by omega) HZ.out (by decide) (by decide)).mono ?_
  rintro e w2 ⟨c, rfl, hc, hr, hw⟩
  have HI2 := Lib.hid (HI3.out.step hr hw)
  have hcd : ∃ d : Nat, c = (d : Int) ∧ 1 ≤ d ∧ drN d ≤ 2048 ∧ drM d ≤ 256 := by
    simp at hc
    rcases hc with rfl | rfl | rfl | rfl
    · exact ⟨3, rfl, by decide, by decide, by decide⟩
    · exact ⟨2, rfl, by decide, by decide, by decide⟩
    · exact ⟨4, rfl, by decide, by decide, by decide⟩
    · exact ⟨1, rfl, by decide, by decide, by decide⟩
  obtain ⟨d, rfl, hd0, hd1, hd2⟩ := hcd
  clear hc hr hw HI3 HZ
  go_wp2_with fail
  refine (dr2_any d hd0 rb _ _ _ HI2.out.1 (by omega) rfl).mono ?_
  rintro e w4 ⟨k, n, s, f, A1, cp1, rfl, hf, hm, hn, hr⟩
  have HI4 := Lib.hid (HI2.out.step (hr.more (N' := 10000) (by omega)) hm.wrote)
  have CM := mut_any rb _ 256 k n s f A1 cp1 0 w4.heap.size w4 HI4.out.1 (by omega) (hm.kids.more (Nat.zero_le _) (Nat.le_refl _)) (Nat.le_refl _) hf (Nat.le_trans hn hd2) (by omega)
  have hl4 := HI4.out.2.2.1.lt
  have HCM := Lib.hid CM
  clear hf hm hn hr HI2 CM
  go_wp2_with fail
  refine HCM.out.mono ?_
  rintro e w10 ⟨k3, n3, s3, f3, A4, cp4, rfl, hf3, hm3, hn3, hr3⟩
  have HQ10 := Lib.hid (HI4.out.step hr3 hm3.wrote)
  have HF3 := Lib.hid hf3
  have HN3 := Lib.hid hn3
  have HO10 : Hid (∃ L, OwnS w10 f3 A4 cp4 L ∧ L.Nodup ∧ ∀ x ∈ L, w.heap.size < x) := Lib.hid (by
    obtain ⟨L, h1, h2, h3, _⟩ := hm3
    exact ⟨L, h1, h2, fun x hx => by have := (h3 x hx).1; omega⟩)
  clear hf3 hm3 hn3 hr3 HI4 HCM
  obtain ⟨d0, d1, d2, d3⟩ := cells4i HQ10.out.2.2.1
  obtain ⟨f0, f1, f2, f3'⟩ := frozen4 HQ10.out.2.2.1
  go_wp2_with fail
  refine bodyPost_ret (v := .agg #[.int .i64 k3, .int .i64 n3, .string s3, .slice A4 f3.len cp4]) ?_ rfl (HQ10.out.fin HF3.out (by have := HN3.out; omega) HO10.out ?_)
  · exact results_cell_row Tryd.results9 _ _ w.heap.size _ _ _ _ rfl (set4 HQ10.out.2.2.1 _ _ _ _) Tryd.underlying28 rfl (by kernel_rfl)
  · iterate 4 (refine Wrote.set_ ?_ (.inl (by simp)) _)
    exact Wrote.refl _ _
end Go.Proofs.YtkgapidhoeegmaaDoor

/- The text of a term, as plain data. No condition. -/
namespace Go.Proofs.YtkgapidhoeegmaaDoor
open Go.RowKit

def letB (n : Int) : List UInt8 := [UInt8.ofNat (65 + n.toNat)]
/-- Texts with commas between and brackets around. -/
def argsB : List (List UInt8) → List UInt8
  | [] => []
  | t :: ts => 40 :: (t ++ (ts.flatMap (fun x => 44 :: x) ++ [41]))
abbrev TT := List UInt8 × List UInt8
/-- The text of a term, and what it adds as the rest of a list. -/
def bodyB (k n : Int) (s : ByteArray) (len : Nat) (r : List TT) : List UInt8 :=
  if k = 1 then letB n else if k = 2 then Lib.itoa n else
    if pairB k s len = true then 91 :: ((r.getD 0 ([], [])).1 ++ ((r.getD 1 ([], [])).2 ++ [93])) else s.data.toList ++ argsB (r.map Prod.fst)
def elt (k n : Int) (s : ByteArray) (len : Nat) (r : List TT) : TT :=
  (bodyB k n s len r, if pairB k s len = true then 44 :: ((r.getD 0 ([], [])).1 ++ (r.getD 1 ([], [])).2) else if nilB k s len = true then [] else 124 :: bodyB k n s len r)
def txL : Fr → List TT
  | .nil => []
  | .cons k n s kids rest => elt k n s kids.len (txL kids) :: txL rest
def txT (k n : Int) (s : ByteArray) (f : Fr) : List UInt8 := (elt k n s f.len (txL f)).1
def tlT (k n : Int) (s : ByteArray) (f : Fr) : List UInt8 := (elt k n s f.len (txL f)).2
/-- The texts of a row. -/
def txs (f : Fr) : List (List UInt8) := (txL f).map Prod.fst
theorem txs_cons (k n : Int) (s : ByteArray) (kids rest : Fr) : txs (.cons k n s kids rest) = txT k n s kids :: txs rest := rfl
theorem txT_var (n : Int) (s : ByteArray) (f : Fr) : txT 1 n s f = letB n := by unfold txT elt bodyB; rw [if_pos rfl]
theorem txT_int (n : Int) (s : ByteArray) (f : Fr) : txT 2 n s f = Lib.itoa n := by unfold txT elt bodyB; rw [if_neg (by decide), if_pos rfl]
theorem txT_pair {k : Int} (n : Int) {s : ByteArray} {k1 n1 k2 n2 : Int} {s1 s2 : ByteArray} {kd1 kd2 : Fr} (h : pairB k s 2 = true) :
    txT k n s (.cons k1 n1 s1 kd1 (.cons k2 n2 s2 kd2 .nil)) = 91 :: (txT k1 n1 s1 kd1 ++ (tlT k2 n2 s2 kd2 ++ [93])) := by
  obtain ⟨_, rfl, _⟩ := pairB_len h
  show bodyB 3 n s 2 _ = _
  unfold bodyB
  rw [if_neg (by decide), if_neg (by decide), if_pos h]
  rfl
theorem tlT_pair {k : Int} (n : Int) {s : ByteArray} {k1 n1 k2 n2 : Int} {s1 s2 : ByteArray} {kd1 kd2 : Fr} (h : pairB k s 2 = true) :
    tlT k n s (.cons k1 n1 s1 kd1 (.cons k2 n2 s2 kd2 .nil)) = 44 :: (txT k1 n1 s1 kd1 ++ tlT k2 n2 s2 kd2) := by
  show (if pairB k s 2 = true then _ else _) = _
  rw [if_pos h]
  rfl
theorem txT_str {n : Int} {s : ByteArray} {f : Fr} (h : pairB 3 s f.len = false) : txT 3 n s f = s.data.toList ++ argsB (txs f) := by
  show bodyB 3 n s f.len _ = _
  unfold bodyB
  rw [if_neg (by decide), if_neg (by decide), h]
  rfl
theorem tlT_nil {k n : Int} {s : ByteArray} {f : Fr} (h : nilB k s f.len = true) : tlT k n s f = [] := by
  have hp : pairB k s f.len = false := by
    unfold nilB at h
    unfold pairB
    simp only [Bool.and_eq_true, beq_iff_eq] at h
    rw [h.2.2]; simp
  show (if pairB k s f.len = true then _ else _) = _
  rw [hp, h]
  rfl
theorem tlT_end {k n : Int} {s : ByteArray} {f : Fr} (hp : pairB k s f.len = false) (h : nilB k s f.len = false) : tlT k n s f = 124 :: txT k n s f := by
  show (if pairB k s f.len = true then _ else _) = _
  rw [hp, h]
  rfl
/-- What stands behind the last element of a list. -/
def endB (k n : Int) (s : ByteArray) (f : Fr) : List UInt8 := if nilB k s f.len = true then [] else 124 :: txT k n s f
theorem tlT_not {k n : Int} {s : ByteArray} {f : Fr} (hp : pairB k s f.len = false) : tlT k n s f = endB k n s f := by
  unfold endB
  cases h : nilB k s f.len
  · rw [tlT_end hp h]; rfl
  · rw [tlT_nil h]; rfl
/-- The rest of a list: its elements, then its end. -/
theorem tlT_split (N : Nat) : ∀ (k n : Int) (s : ByteArray) (f : Fr), f.size ≤ N → ∀ k' n' s' f', tails k n s f = .cons k' n' s' f' .nil → tlT k n s f = (txs (fronts k s f)).flatMap (fun x => 44 :: x) ++ endB k' n' s' f' := by
  induction N with
  | zero =>
    intro k n s f hf k' n' s' f' ht
    have hp : pairB k s f.len = false := by
      cases f with
      | nil => unfold pairB; simp [Fr.len]
      | cons _ _ _ _ _ => simp [Fr.size] at hf
    rw [(pair_no n hp).2] at ht
    rw [(pair_no n hp).1, tlT_not hp]
    simp only [Fr.cons.injEq, and_true] at ht
    obtain ⟨rfl, rfl, rfl, rfl⟩ := ht
    rfl
  | succ N ih =>
    intro k n s f hf k' n' s' f' ht
    cases hp : pairB k s f.len
    · rw [(pair_no n hp).2] at ht
      rw [(pair_no n hp).1, tlT_not hp]
      simp only [Fr.cons.injEq, and_true] at ht
      obtain ⟨rfl, rfl, rfl, rfl⟩ := ht
      rfl
    · obtain ⟨k1, n1, s1, kd1, k2, n2, s2, kd2, rfl, hfr, htl⟩ := pair_yes n hp
      have h2 := ih k2 n2 s2 kd2 (by simp only [Fr.size] at hf; omega) k' n' s' f' (by rw [← htl]; exact ht)
      rw [tlT_pair n hp, hfr, txs_cons, h2]
      simp
theorem txT_list {k n : Int} {s : ByteArray} {f : Fr} (hp : pairB k s f.len = true) {k' n' : Int} {s' : ByteArray} {f' : Fr} (ht : tails k n s f = .cons k' n' s' f' .nil) :
    ∃ k1 n1 s1 kd1 r, fronts k s f = .cons k1 n1 s1 kd1 r ∧ txT k n s f = 91 :: (txT k1 n1 s1 kd1 ++ ((txs r).flatMap (fun x => 44 :: x) ++ (endB k' n' s' f' ++ [93]))) := by
  obtain ⟨k1, n1, s1, kd1, k2, n2, s2, kd2, rfl, hfr, htl⟩ := pair_yes n hp
  refine ⟨k1, n1, s1, kd1, _, hfr, ?_⟩
  rw [txT_pair n hp, tlT_split kd2.size k2 n2 s2 kd2 (Nat.le_refl _) k' n' s' f' (by rw [← htl]; exact ht), List.append_assoc]

/-- Texts are not long. -/
theorem itoa_small (n : Int) (h : -999 ≤ n ∧ n ≤ 999) : (Lib.itoa n).length ≤ 21 := Lib.itoa_length_le n (by omega) (by omega)
def smF : Fr → Prop
  | .nil => True
  | .cons k n s kids rest => (s.size ≤ 6 ∧ (k = 2 → -999 ≤ n ∧ n ≤ 999)) ∧ smF kids ∧ smF rest
theorem flat_len : ∀ ts : List (List UInt8), (ts.flatMap (fun x => 44 :: x)).length = ts.length + (ts.map List.length).sum
  | [] => rfl
  | t :: ts => by simp only [List.flatMap_cons, List.length_append, List.length_cons, List.map_cons, List.sum_cons, flat_len ts]; omega
theorem args_len (ts : List (List UInt8)) : (argsB ts).length ≤ ts.length + (ts.map List.length).sum + 1 := by
  cases ts with
  | nil => exact Nat.zero_le _
  | cons t ts =>
    simp only [argsB, List.length_cons, List.length_append, flat_len, List.map_cons, List.sum_cons, List.length_nil]
    omega
theorem txs_len (f : Fr) : (txs f).length = f.len := by
  induction f with
  | nil => rfl
  | cons _ _ _ _ _ _ ih => rw [txs_cons, List.length_cons, ih]; rfl
/-- Text or rest, whichever is longer. -/
def mxL : List TT → Nat
  | [] => 0
  | t :: ts => max (t.1.length + 1) t.2.length + mxL ts
theorem mxL_args : ∀ f : Fr, f.len + ((txs f).map List.length).sum ≤ mxL (txL f)
  | .nil => Nat.le_refl _
  | .cons k n s kids rest => by
    have := mxL_args rest
    show rest.len + 1 + ((txT k n s kids).length + ((txs rest).map List.length).sum) ≤ max ((txT k n s kids).length + 1) _ + mxL (txL rest)
    omega
theorem mxL_at : ∀ (ts : List TT) (j : Nat) (t : TT), ts[j]? = some t → max (t.1.length + 1) t.2.length ≤ mxL ts
  | [], j, t, h => by simp at h
  | t' :: ts, 0, t, h => by
    simp at h
    subst h
    simp only [mxL]; omega
  | t' :: ts, j + 1, t, h => by
    have := mxL_at ts j t (by simpa using h)
    simp only [mxL]; omega
theorem tx_len (f : Fr) : smF f → mxL (txL f) ≤ 32 * nodes f := by
  induction f with
  | nil => exact fun _ => Nat.le_refl _
  | cons k n s kids rest ihk ihr =>
    rintro ⟨⟨h1, h2⟩, h3, h4⟩
    have a := ihk h3
    have b := ihr h4
    have hb : max ((txT k n s kids).length + 1) (tlT k n s kids).length ≤ 32 * (nodes kids + 1) := by
      cases hp : pairB k s kids.len
      · have hlen : (txT k n s kids).length + 1 ≤ 32 * (nodes kids + 1) := by
          show (bodyB k n s kids.len (txL kids)).length + 1 ≤ _
          unfold bodyB
          split
          · simp only [letB, List.length_cons, List.length_nil]; omega
          · split
            · have := itoa_small n (h2 (by assumption)); omega
            · rw [hp]
              have h5 := args_len (txs kids)
              have h6 : s.data.toList.length = s.size := rfl
              have h7 := mxL_args kids
              rw [txs_len] at h5
              show (s.data.toList ++ argsB (txs kids)).length + 1 ≤ _
              rw [List.length_append]
              omega
        rw [tlT_not hp]
        unfold endB
        split
        · simp only [List.length_nil]; omega
        · rw [List.length_cons]; omega
      · obtain ⟨k1, n1, s1, kd1, k2, n2, s2, kd2, rfl, hfr, htl⟩ := pair_yes n hp
        have e1 : max ((txT k1 n1 s1 kd1).length + 1) (tlT k1 n1 s1 kd1).length + (max ((txT k2 n2 s2 kd2).length + 1) (tlT k2 n2 s2 kd2).length + 0) ≤ 32 * nodes (.cons k1 n1 s1 kd1 (.cons k2 n2 s2 kd2 .nil)) := a
        rw [txT_pair n hp, tlT_pair n hp]
        simp only [List.length_cons, List.length_append, List.length_nil]
        omega
    have e : mxL (txL (.cons k n s kids rest)) = max ((txT k n s kids).length + 1) (tlT k n s kids).length + mxL (txL rest) := rfl
    rw [e]
    simp only [nodes]
    omega
theorem txT_len {k n : Int} {s : ByteArray} {f : Fr} (h1 : s.size ≤ 6) (h2 : k = 2 → -999 ≤ n ∧ n ≤ 999) (h3 : smF f) : (txT k n s f).length + 1 ≤ 32 * (nodes f + 1) ∧ (tlT k n s f).length ≤ 32 * (nodes f + 1) := by
  have h := tx_len (.cons k n s f .nil) ⟨⟨h1, h2⟩, h3, trivial⟩
  have e : mxL (txL (.cons k n s f .nil)) = max ((txT k n s f).length + 1) (tlT k n s f).length + 0 := rfl
  rw [e] at h
  simp only [nodes] at h
  omega
end Go.Proofs.YtkgapidhoeegmaaDoor

/- Texts, as plain data: what is still to come. No condition. -/
namespace Go.Proofs.YtkgapidhoeegmaaDoor
open Go.RowKit

/-- The texts of a row that is written from element j on. -/
def moreB (j : Nat) (f : Fr) : List UInt8 := if j = 0 then (match txs f with | [] => [] | t :: ts => 40 :: (t ++ ts.flatMap (fun x => 44 :: x))) else (txs f).flatMap (fun x => 44 :: x)
theorem moreB_step (j : Nat) (k n : Int) (s : ByteArray) (kids rest : Fr) : moreB j (.cons k n s kids rest) = (if j = 0 then 40 else 44) :: (txT k n s kids ++ moreB (j + 1) rest) := by
  unfold moreB
  rw [if_neg (show ¬ j + 1 = 0 by omega), txs_cons]
  by_cases h : j = 0
  · rw [if_pos h, if_pos h]
  · rw [if_neg h, if_neg h, List.flatMap_cons]; rfl
theorem moreB_nil (j : Nat) : moreB j .nil = [] := by unfold moreB; split <;> rfl
theorem argsB_more (f : Fr) : argsB (txs f) = if f.len = 0 then [] else moreB 0 f ++ [41] := by
  cases f with
  | nil => rfl
  | cons k n s kids rest =>
    rw [if_neg (by simp [Fr.len]), moreB_step, txs_cons]
    unfold moreB
    rw [if_neg (show ¬ 0 + 1 = 0 by omega)]
    simp [argsB]
theorem smF_shape (f : Fr) : ∀ d, shapeF f d = true → smF f := by
  induction f with
  | nil => intro _ _; trivial
  | cons k n s kids rest ihk ihr =>
    intro d h
    rw [shapeF_cons, Bool.and_eq_true] at h
    refine ⟨?_, ihk _ (shapeT_kids h.1), ihr _ h.2⟩
    by_cases h3 : k = 3
    · subst h3
      obtain ⟨_, hn, _⟩ := shapeT_struct h.1
      exact ⟨nameB_size hn, fun e => absurd e (by decide)⟩
    · obtain ⟨rfl, _, hn⟩ := shapeT_leaf h.1 h3
      exact ⟨by decide, fun _ => hn⟩
theorem txT_shape {k n : Int} {s : ByteArray} {f : Fr} {d : Int} (h : shapeT k n s f d = true) : (txT k n s f).length + 1 ≤ 32 * (nodes f + 1) ∧ (tlT k n s f).length ≤ 32 * (nodes f + 1) := by
  have h1 := smF_shape (.cons k n s f .nil) d (by rw [shapeF_cons, h]; rfl)
  exact txT_len h1.1.1 h1.1.2 h1.2.1
theorem shape_drop {k n : Int} {s : ByteArray} {kids rest : Fr} : ∀ (f : Fr) (j : Nat) (d : Int), f.drop j = .cons k n s kids rest → shapeF f d = true → shapeT k n s kids d = true
  | .nil, j, _, h, _ => by cases j <;> cases h
  | .cons _ _ _ _ _, 0, d, h, hs => by
    injection h with h1 h2 h3 h4 h5
    subst h1 h2 h3 h4
    rw [shapeF_cons, Bool.and_eq_true] at hs
    exact hs.1
  | .cons _ _ _ _ rest, j + 1, d, h, hs => by
    rw [shapeF_cons, Bool.and_eq_true] at hs
    exact shape_drop rest j d h hs.2
theorem shapeT_kind3 {k n : Int} {s : ByteArray} {f : Fr} {d : Int} (h : shapeT k n s f d = true) : k = 1 ∧ 0 ≤ n ∧ n ≤ 25 ∨ k = 2 ∧ -999 ≤ n ∧ n ≤ 999 ∨ k = 3 := by
  unfold shapeT ownB at h
  simp only [Bool.and_eq_true, Bool.or_eq_true, decide_eq_true_eq, beq_iff_eq] at h
  obtain ⟨_, h, _⟩ := h
  rcases h with (⟨h1, ⟨h2, h3⟩, _⟩ | ⟨h1, ⟨h2, h3⟩, _⟩) | ⟨h1, _⟩
  · exact .inl ⟨h1, h2.1, h2.2⟩
  · exact .inr (.inl ⟨h1, h2.1, h2.2⟩)
  · exact .inr (.inr h1)
end Go.Proofs.YtkgapidhoeegmaaDoor
