/- spec.ShiftTerm. Condition: the term lies in memory. -/
import Derived.Test.YtplmkighekjipaaDoorProg
import Derived.Test.YtplmkighekjipaaDoorShI
namespace Go.Proofs.YtplmkighekjipaaDoor
open Go.RowKit

set_option maxRecDepth 100000 in
set_option maxHeartbeats 4000000 in
/-- spec.ShiftTerm. -/
theorem specShift_any (k n : Int) (s : ByteArray) (f : Fr) (A : Option Addr) (cap : Nat) (V : Int) (lo hi : Nat) (w : World) (hk : KidsAt w lo hi f A cap) (hh : hi ≤ w.heap.size) (hf : Fits k n s) (hnd : nodes f ≤ 1048576) :
    Calls Tryd.prog 8 #[.agg #[.int .i64 k, .int .i64 n, .string s, .slice A f.len cap], .int .i64 V] w fun e w' => TbRes w (shR V k n s f) (shB V k n s f) e w' := by
  have C1 := fun w1 (hb : Below w.heap.size w w1) => specValid_any k n s f A cap lo hi w1 (hk.below hb hh) (Nat.le_trans hh hb.size) hf hnd
  have C2 := fun w1 (hb : Below w.heap.size w w1) (hs : shapeT k n s f 30 = true) (hV : -25 ≤ V ∧ V ≤ 25) => sfT_any s f k n V 30 A cap lo hi w1 (hk.below hb hh) (Nat.le_trans hh hb.size) hs hnd hV
  have C3 := fun w1 A1 c1 lo hi (hs : shapeT k n s f 30 = true) (hV : -25 ≤ V ∧ V ≤ 25) (hk1 : KidsAt w1 lo hi (shF V f) A1 c1) hh => specValid_any k (shN V k n) s (shF V f) A1 c1 lo hi w1 hk1 hh (shN_fits hs hV) (by rw [shF_nodes]; exact hnd)
  rw [shF_len] at C3
  unfold MadeT at C2
  rw [shF_len] at C2
  have q0 : RC w (w.heap.size + 1) ((w.alloc (.cells #[.int .i64 k, .int .i64 n, .string s, .slice A f.len cap] 28)).alloc (.cells #[.int .i64 0, .int .i64 0, .string ⟨#[]⟩, .slice none 0 0] 28)) ∧ Blk ((w.alloc (.cells #[.int .i64 k, .int .i64 n, .string s, .slice A f.len cap] 28)).alloc (.cells #[.int .i64 0, .int .i64 0, .string ⟨#[]⟩, .slice none 0 0] 28)) w.heap.size 28 #[.int .i64 k, .int .i64 n, .string s, .slice A f.len cap] := by
    refine ⟨⟨?_, by omega, two_alloc w _ _⟩, (Blk.new w _ _).alloc _⟩
    have h := Blk.new (w.alloc (.cells #[.int .i64 k, .int .i64 n, .string s, .slice A f.len cap] 28)) 28 #[.int .i64 0, .int .i64 0, .string ⟨#[]⟩, .slice none 0 0]
    simpa using h
  have HSHL : Hid ((shF V f).len = f.len) := Lib.hid (shF_len V f)
  have H1 := Lib.hid C1
  have H2 := Lib.hid C2
  have H3 := Lib.hid C3
  have HQ := Lib.hid q0
  clear C1 C2 C3 hk hf hnd q0
  go_enter Tryd.func8, Tryd.ntmps8
  go_wp2_with fail
  generalize (w.alloc (.cells #[.int .i64 k, .int .i64 n, .string s, .slice A f.len cap] 28)).alloc (.cells #[.int .i64 0, .int .i64 0, .string ⟨#[]⟩, .slice none 0 0] 28) = w1 at *
  refine (H1.out _ HQ.out.1.2.2).mono ?_
  rintro e w2 ⟨rfl, hb⟩
  have q2 : RC w (w.heap.size + 1) w2 ∧ Blk w2 w.heap.size 28 #[.int .i64 k, .int .i64 n, .string s, .slice A f.len cap] := ⟨HQ.out.1.below hb, HQ.out.2.below hb HQ.out.2.lt⟩
  obtain ⟨a0, a1, a2, a3⟩ := cells4i q2.2
  obtain ⟨d0, d1, d2, d3⟩ := cells4i q2.1.1
  obtain ⟨f0, f1, f2, f3⟩ := frozen4 q2.1.1
  have HQ2 := Lib.hid q2
  clear hb q2 H1 HQ
  cases hok : validT k n s f
  · have HE := Lib.hid (shB_bad (V := V) (.inl hok))
    clear hok
    go_wp2_with fail
    rw [HE.out.1, HE.out.2]
    refine bodyPost_ret (v := .tuple #[.agg #[.int .i64 0, .int .i64 0, .string ⟨#[]⟩, .slice none 0 0], .bool false]) ?_ rfl (HQ2.out.1.no _ _ _ _)
    exact results_cell_row2 Tryd.results8 _ _ (w.heap.size + 1) _ _ _ _ rfl (set4 HQ2.out.1.1 _ _ _ _) Tryd.underlying28 rfl (by kernel_rfl)
  · rcases (show V < -25 ∨ (-25 ≤ V ∧ 25 < V) ∨ (-25 ≤ V ∧ V ≤ 25) by omega) with r | ⟨r0, r⟩ | r
    · have HE := Lib.hid (shB_bad (V := V) (k := k) (n := n) (s := s) (f := f) (.inr (.inl r)))
      clear hok
      go_wp2_with fail
      rw [HE.out.1, HE.out.2]
      refine bodyPost_ret (v := .tuple #[.agg #[.int .i64 0, .int .i64 0, .string ⟨#[]⟩, .slice none 0 0], .bool false]) ?_ rfl (HQ2.out.1.no _ _ _ _)
      exact results_cell_row2 Tryd.results8 _ _ (w.heap.size + 1) _ _ _ _ rfl (set4 HQ2.out.1.1 _ _ _ _) Tryd.underlying28 rfl (by kernel_rfl)
    · have HE := Lib.hid (shB_bad (V := V) (k := k) (n := n) (s := s) (f := f) (.inr (.inr r)))
      clear hok
      go_wp2_with fail
      rw [HE.out.1, HE.out.2]
      refine bodyPost_ret (v := .tuple #[.agg #[.int .i64 0, .int .i64 0, .string ⟨#[]⟩, .slice none 0 0], .bool false]) ?_ rfl (HQ2.out.1.no _ _ _ _)
      exact results_cell_row2 Tryd.results8 _ _ (w.heap.size + 1) _ _ _ _ rfl (set4 HQ2.out.1.1 _ _ _ _) Tryd.underlying28 rfl (by kernel_rfl)
    · have hsh := validT_shape30 hok
      have HE := Lib.hid (shB_good hok r)
      have C2 := H2.out w2 HQ2.out.1.2.2 hsh r
      have C3 := fun w1 A1 c1 lo hi => H3.out w1 A1 c1 lo hi hsh r
      have HMB : Hid (vtB (shM V k n s f) = validT k (shN V k n) s (shF V f)) := Lib.hid rfl
      have HMF : Hid (vtF (shM V k n s f) = if validT k (shN V k n) s (shF V f) = true then ⟨k, shN V k n, s, shF V f⟩ else nd0) := Lib.hid rfl
      generalize validT k (shN V k n) s (shF V f) = ok at *
      have H4 := Lib.hid C2
      have H5 := Lib.hid C3
      clear C2 C3 hsh hok H2 H3
      obtain ⟨r1, r2⟩ := r
      generalize shN V k n = m at *
      go_wp2_with fail
      refine H4.out.mono ?_
      rintro e w3 ⟨A3, c3, rfl, hm⟩
      have hb3 := made_below hm
      have q3 := HQ2.out.1.below hb3
      have C6 := H5.out (w3.alloc (.cells #[.int .i64 k, .int .i64 m, .string s, .slice A3 f.len c3] 28)) A3 c3 0 w3.heap.size (by
        obtain ⟨L, ho, _, hL, _⟩ := hm
        exact (ho.kids (lo := 0) fun x hx => ⟨Nat.zero_le _, (hL x hx).2⟩).below ((Below.refl _ _).alloc (Nat.le_refl _) _) (Nat.le_refl _)) (by simp)
      have HM3 := Lib.hid hm
      have HQ3 := Lib.hid q3
      have H6 := Lib.hid C6
      have HSZ : Hid (w2.heap.size ≤ w3.heap.size) := Lib.hid hb3.size
      clear hm hb3 q3 C6 H4 H5 a0 a1 a2 a3 d0 d1 d2 d3 f0 f1 f2 f3
      go_wp2_with fail
      refine H6.out.mono ?_
      rintro e w4 ⟨rfl, hb4⟩
      have hb34 : Below w3.heap.size w3 w4 := ((Below.refl _ _).alloc (Nat.le_refl _) _).trans (hb4.mono (by simp))
      have q4 := HQ3.out.below hb34
      have o4 := (Blk.new w3 28 #[.int .i64 k, .int .i64 m, .string s, .slice A3 f.len c3]).below hb4 (by simp)
      have hm4 : Made w2 (shF V f) A3 c3 w4 := by
        obtain ⟨L, h1, h2, h3, h4⟩ := HM3.out
        exact ⟨L, h1.below hb34 fun x hx => (h3 x hx).2, h2, fun x hx => ⟨(h3 x hx).1, Nat.lt_of_lt_of_le (h3 x hx).2 hb34.size⟩, h4.trans (hb34.mono HSZ.out)⟩
      obtain ⟨a0, a1, a2, a3⟩ := cells4i o4
      obtain ⟨d0, d1, d2, d3⟩ := cells4i q4.1
      obtain ⟨f0, f1, f2, f3⟩ := frozen4 q4.1
      have HQ4 := Lib.hid q4
      have HM4 := Lib.hid hm4
      clear hb4 hb34 q4 o4 hm4 H6 HM3 HQ3
      cases ok
      · go_wp2_with fail
        rw [HE.out.1, HE.out.2, HMB.out, HMF.out]
        refine bodyPost_ret (v := .tuple #[.agg #[.int .i64 0, .int .i64 0, .string ⟨#[]⟩, .slice none 0 0], .bool false]) ?_ rfl (HQ4.out.no _ _ _ _)
        exact results_cell_row2 Tryd.results8 _ _ (w.heap.size + 1) _ _ _ _ rfl (set4 HQ4.out.1 _ _ _ _) Tryd.underlying28 rfl (by kernel_rfl)
      · have hy := HQ2.out.1.yes (k := k) (n := m) (s := s) HM4.out (.int .i64 k) (.int .i64 m) (.string s) (.slice A3 f.len c3) true
        rw [HSHL.out] at hy
        have HY := Lib.hid hy
        clear hy
        go_wp2_with fail
        rw [HE.out.1, HE.out.2, HMB.out, HMF.out]
        refine bodyPost_ret (v := .tuple #[.agg #[.int .i64 k, .int .i64 m, .string s, .slice A3 f.len c3], .bool true]) ?_ rfl HY.out
        exact results_cell_row2 Tryd.results8 _ _ (w.heap.size + 1) _ _ _ _ rfl (set4 HQ4.out.1 _ _ _ _) Tryd.underlying28 rfl (by kernel_rfl)
end Go.Proofs.YtplmkighekjipaaDoor
