/- spec.DrawTermSame. Condition: the bytes lie in memory. -/
import Derived.Test.YtejehnmnocokiaaDoorProg
import Derived.Test.YtejehnmnocokiaaDoorDrM
namespace Go.Proofs.YtejehnmnocokiaaDoor
open Go.RowKit

theorem results_cells2 {P : Program} {fn : Func} {p q : Tmp} {ty : TypeId} (h : fn.results = #[.cell p ty, .cell q ty]) (tmps : Array Value) (w : World) (g g' : Nat) (t : TypeId) (cs cs' : Array Value) (d : TypeDesc)
    (hp : tmps.getD p undef = .pointer (some ⟨g, 0, none⟩)) (hq : tmps.getD q undef = .pointer (some ⟨g', 0, none⟩)) (hg : Blk w g t cs) (hg' : Blk w g' t cs')
    (hu : P.underlying ty = some d) (hd : (match d with | .struct _ | .array _ _ => true | _ => false) = true) (hi : (P.info? ty).map (·.size) = some cs.size) (hi' : (P.info? ty).map (·.size) = some cs'.size) :
    (results fn tmps).run P w = .ok (.tuple #[.agg cs, .agg cs']) w := by
  have hp' : tmps[p]?.getD undef = .pointer (some ⟨g, 0, none⟩) := by simpa using hp
  have hq' : tmps[q]?.getD undef = .pointer (some ⟨g', 0, none⟩) := by simpa using hq
  simp [results, h, hp', hq', asAddr, run_loadVar_row w g t ty cs (0, 0) d hg hu hd hi, run_loadVar_row w g' t ty cs' (0, 0) d hg' hu hd hi']
/-- Two terms that were drawn: in blocks of their own. -/
def Dr2 (M : Nat) (w : World) (e : Ending) (w' : World) : Prop :=
  ∃ (k n : Int) (s : ByteArray) (f : Fr) (A : Option Addr) (cap : Nat) (k' n' : Int) (s' : ByteArray) (g : Fr) (B : Option Addr) (cap' : Nat),
    e = .returned (.tuple #[.agg #[.int .i64 k, .int .i64 n, .string s, .slice A f.len cap], .agg #[.int .i64 k', .int .i64 n', .string s', .slice B g.len cap']]) ∧ Fits k n s ∧ Fits k' n' s' ∧ nodes f ≤ M ∧ nodes g ≤ M ∧
    (∃ L L', OwnS w' f A cap L ∧ OwnS w' g B cap' L' ∧ (L ++ L').Nodup ∧ ∀ x ∈ L ++ L', w.heap.size ≤ x) ∧ Below w.heap.size w w'
/-- A call that draws two terms: its results' blocks are still empty. -/
def DpI (w : World) (rb N : Nat) (wr : World) : Prop := Rd wr rb N ∧ Below w.heap.size w wr ∧ Blk wr w.heap.size 29 #[.int .i64 0, .int .i64 0, .string ⟨#[]⟩, .slice none 0 0] ∧ Blk wr (w.heap.size + 1) 29 #[.int .i64 0, .int .i64 0, .string ⟨#[]⟩, .slice none 0 0] ∧ w.heap.size + 1 < rb
theorem DpI.step {w wr w2 : World} {rb N N2 : Nat} (h : DpI w rb N wr) (hr : Rd w2 rb N2) (hw : Wrote [rb] wr w2) : DpI w rb N2 w2 :=
  ⟨hr, h.2.1.trans (hw.below h.2.1.size fun x hx => by simp at hx; have := h.2.2.2.2; omega), hw.blk h.2.2.1 (by have := h.2.2.2.2; simp; omega), hw.blk h.2.2.2.1 (by have := h.2.2.2.2; simp; omega), h.2.2.2.2⟩
theorem DpI.below {w wr w2 : World} {rb N : Nat} (h : DpI w rb N wr) (hb : Below wr.heap.size wr w2) : DpI w rb N w2 := h.step (h.1.below hb) (.of_below hb _)
theorem DpI.fin {w w8 w9 : World} {rb N M : Nat} {k n : Int} {s : ByteArray} {f : Fr} {A : Option Addr} {cap : Nat} {k' n' : Int} {s' : ByteArray} {g : Fr} {B : Option Addr} {cap' : Nat} (h : DpI w rb N w8) (hf : Fits k n s) (hf' : Fits k' n' s') (hn : nodes f ≤ M) (hn' : nodes g ≤ M)
    (ho : ∃ L L', OwnS w8 f A cap L ∧ OwnS w8 g B cap' L' ∧ (L ++ L').Nodup ∧ ∀ x ∈ L ++ L', w.heap.size + 1 < x) (hw : Wrote [w.heap.size, w.heap.size + 1] w8 w9) :
    Dr2 M w (.returned (.tuple #[.agg #[.int .i64 k, .int .i64 n, .string s, .slice A f.len cap], .agg #[.int .i64 k', .int .i64 n', .string s', .slice B g.len cap']])) w9 := by
  obtain ⟨L, L', h1, h2, h3, h4⟩ := ho
  refine ⟨k, n, s, f, A, cap, k', n', s', g, B, cap', rfl, hf, hf', hn, hn', ⟨L, L', h1.wrote hw fun x hx e => ?_, h2.wrote hw fun x hx e => ?_, h3, fun x hx => by have := h4 x hx; omega⟩, h.2.1.trans (hw.below h.2.1.size fun x hx => by simp at hx; omega)⟩
  · have := h4 x (by simp [hx]); simp at e; omega
  · have := h4 x (by simp [hx]); simp at e; omega
theorem set4_far {w : World} {g H : Nat} {t : TypeId} {cs : Array Value} (h : Blk w g t cs) (hn : g ≠ H) (a b c d : Value) : Blk ((((w.setCell ⟨H, 0, none⟩ a).setCell ⟨H, 1, none⟩ b).setCell ⟨H, 2, none⟩ c).setCell ⟨H, 3, none⟩ d) g t cs := (((h.far hn a).far hn b).far hn c).far hn d

theorem two_own {rb lo : Nat} {w3 w6 w7 : World} {f g : Fr} {A B : Option Addr} {cap cap' : Nat} (h1 : MadeW rb w3 f A cap w6) (h2 : MadeW rb w6 g B cap' w7) (hr : rb < w3.heap.size) (hl : lo < w3.heap.size) :
    ∃ L L', OwnS w7 f A cap L ∧ OwnS w7 g B cap' L' ∧ (L ++ L').Nodup ∧ ∀ x ∈ L ++ L', lo < x := by
  obtain ⟨L, o1, n1, l1, q1⟩ := h1
  obtain ⟨L', o2, n2, l2, q2⟩ := h2
  refine ⟨L, L', o1.wrote q2 fun x hx e => by simp at e; have := (l1 x hx).1; omega, o2, List.nodup_append.2 ⟨n1, n2, fun a ha b hb e => ?_⟩, fun x hx => ?_⟩
  · have := (l1 a ha).2; have := (l2 b hb).1; omega
  · have := q1.size
    rcases List.mem_append.1 hx with hx | hx
    · have := (l1 x hx).1; omega
    · have := (l2 x hx).1; omega

set_option maxRecDepth 100000 in
set_option maxHeartbeats 8000000 in
/-- spec.DrawTermSame. -/
theorem drawTS_any (A : Option Addr) (len cap : Nat) (w : World) (hb : Bts w w.heap.size A len) (hc : len ≤ cap) (hm : cap ≤ maxLen) :
    Calls Tryd.prog 10 #[.slice A len cap] w fun e w' => Dr2 336 w e w' := by
  have hb2 := two_new w (.cells #[.int .i64 0, .int .i64 0, .string ⟨#[]⟩, .slice none 0 0] 29) (.cells #[.int .i64 0, .int .i64 0, .string ⟨#[]⟩, .slice none 0 0] 29)
  have hq2 : Blk ((w.alloc (.cells #[.int .i64 0, .int .i64 0, .string ⟨#[]⟩, .slice none 0 0] 29)).alloc (.cells #[.int .i64 0, .int .i64 0, .string ⟨#[]⟩, .slice none 0 0] 29)) w.heap.size 29 #[.int .i64 0, .int .i64 0, .string ⟨#[]⟩, .slice none 0 0] := (Blk.new w _ _).alloc _
  have hq3 : Blk ((w.alloc (.cells #[.int .i64 0, .int .i64 0, .string ⟨#[]⟩, .slice none 0 0] 29)).alloc (.cells #[.int .i64 0, .int .i64 0, .string ⟨#[]⟩, .slice none 0 0] 29)) (w.heap.size + 1) 29 #[.int .i64 0, .int .i64 0, .string ⟨#[]⟩, .slice none 0 0] := by
    have h := Blk.new (w.alloc (.cells #[.int .i64 0, .int .i64 0, .string ⟨#[]⟩, .slice none 0 0] 29)) 29 #[.int .i64 0, .int .i64 0, .string ⟨#[]⟩, .slice none 0 0]
    simpa using h
  have hs2 : ((w.alloc (.cells #[.int .i64 0, .int .i64 0, .string ⟨#[]⟩, .slice none 0 0] 29)).alloc (.cells #[.int .i64 0, .int .i64 0, .string ⟨#[]⟩, .slice none 0 0] 29)).heap.size = w.heap.size + 2 := by simp
  have C1 := open18_any A len cap ((w.alloc (.cells #[.int .i64 0, .int .i64 0, .string ⟨#[]⟩, .slice none 0 0] 29)).alloc (.cells #[.int .i64 0, .int .i64 0, .string ⟨#[]⟩, .slice none 0 0] 29)) (fun hp => by
    obtain ⟨b, o, e, h1, h2⟩ := hb hp
    exact ⟨b, o, e, by omega, fun i hi => by
      obtain ⟨n, h3, h4⟩ := h2 i hi
      exact ⟨n, (hb2.cell (p := ⟨b, o + i, none⟩) h1).trans h3, h4⟩⟩) hc hm
  have H1 := Lib.hid C1
  have HB2 := Lib.hid hb2
  have HQ2 := Lib.hid hq2
  have HQ3 := Lib.hid hq3
  have HS2 := Lib.hid hs2
  clear C1 hb hc hm hb2 hq2 hq3 hs2
  go_enter Tryd.func10, Tryd.ntmps10
  go_wp2_with fail
  refine H1.out.mono ?_
  rintro e w3 ⟨rfl, hr, hb⟩
  have hI : DpI w (w.heap.size + 2) 0 w3 := ⟨by rw [← HS2.out]; exact hr, HB2.out.trans (hb.mono HB2.out.size), HQ2.out.below hb HQ2.out.lt, HQ3.out.below hb HQ3.out.lt, by omega⟩
  have HI := Lib.hid hI
  rw [HS2.out]
  clear hr hb hI H1 HB2 HQ2 HQ3 HS2
  generalize hrb : w.heap.size + 2 = rb at *
  clear hrb
  go_wp2_with fail
  refine (some_any rb 0 w3 HI.out.1 (by omega)).mono ?_
  rintro e w4 ⟨k, n, s, f, A1, cp1, rfl, hf, hm, hn, hr⟩
  have hr3 := HI.out.1.lt
  have hHb := HI.out.2.2.2.2
  have HI4 := Lib.hid (HI.out.step hr hm.wrote)
  have hb5 := (Below.refl w4.heap.size w4).alloc (Nat.le_refl _) (.cells #[.int .i64 k, .int .i64 n, .string s, .slice A1 f.len cp1] 29)
  have HI5 := Lib.hid (HI4.out.below hb5)
  have HM := Lib.hid (hm.on hr3 (.of_below hb5 _))
  have HT := Lib.hid (Blk.new w4 29 #[.int .i64 k, .int .i64 n, .string s, .slice A1 f.len cp1])
  have HF := Lib.hid hf
  have HNF := Lib.hid hn
  have hH5 : rb < w4.heap.size := HI4.out.1.lt
  clear hf hm hn hr hb5 HI HI4
  go_wp2_with fail
  generalize w4.alloc (.cells #[.int .i64 k, .int .i64 n, .string s, .slice A1 f.len cp1] 29) = w5 at *
  generalize w4.heap.size = H at *
  refine (pick_any rb _ 2 _ HI5.out.1 (by omega) (by omega) (by omega)).mono ?_
  rintro e w6 ⟨c, rfl, hc0, hc1, hr, hw⟩
  have HI6 := Lib.hid (HI5.out.step hr hw)
  have HM6 := Lib.hid (HM.out.on hr3 hw)
  have HT6 := Lib.hid (hw.blk HT.out (by simp; omega))
  clear hr hw HI5 HM HT
  by_cases z0 : c = 0
  · subst z0
    obtain ⟨x0, x1, x2, x3⟩ := cells4i HT6.out
    have hl6 := HI6.out.1.lt
    have CALL := some_any rb _ w6.drew (HI6.out.1.below (Below.refl _ _).drew) (by omega)
    have HC := Lib.hid CALL
    clear CALL
    go_wp2_with fail
    go_region_law (go_simp; go_at_call 21; refine HC.out.mono ?_; rintro e w7 ⟨k2, n2, s2, f2, A2, cp2, rfl, hf2, hm2, hn2, hr2⟩; have hm3 := hm2.up (w := w6) (.of_below (Below.refl _ _).drew _); have HI7 := Lib.hid (HI6.out.step hr2 hm3.wrote); have HT7 := HT6.out.keep (hm3.wrote.block _ HT6.out.lt (by simp; omega)); obtain ⟨y0, y1, y2, y3⟩ := cells4i HT7; obtain ⟨d0, d1, d2, d3⟩ := cells4i HI7.out.2.2.1; obtain ⟨f0, f1, f2', f3⟩ := frozen4 HI7.out.2.2.1; obtain ⟨e0, e1, e2, e3⟩ := cells4i HI7.out.2.2.2.1; obtain ⟨g0, g1, g2, g3⟩ := frozen4 HI7.out.2.2.2.1; have HM7 := Lib.hid hm3; have HF7 := Lib.hid hf2; have HN7 := Lib.hid hn2; clear hm2 hm3 hr2 hf2 hn2 HT7)
    all_goals
      have HO := Lib.hid (two_own (lo := w.heap.size + 1) HM6.out HM7.out hr3 (by omega))
      go_wp2_with fail
      refine bodyPost_ret (v := .tuple #[.agg #[.int .i64 k, .int .i64 n, .string s, .slice A1 f.len cp1], .agg #[.int .i64 k2, .int .i64 n2, .string s2, .slice A2 f2.len cp2]]) ?_ rfl (HI7.out.fin HF.out HF7.out (by have := HNF.out; omega) (by have := HN7.out; omega) HO.out ?_)
      rotate_left
      · iterate 8 (refine Wrote.set_ ?_ (.inl (by simp)) _)
        exact Wrote.refl _ _
      first
        | exact results_cells2 Tryd.results10 _ _ w.heap.size (w.heap.size + 1) _ _ _ _ rfl rfl (set4_far (set4 HI7.out.2.2.1 _ _ _ _) (by omega) _ _ _ _) (set4 (set4_far HI7.out.2.2.2.1 (by omega) _ _ _ _) _ _ _ _) Tryd.underlying29 rfl (by kernel_rfl) (by kernel_rfl)
        | exact results_cells2 Tryd.results10 _ _ w.heap.size (w.heap.size + 1) _ _ _ _ rfl rfl (set4 (set4_far HI7.out.2.2.1 (by omega) _ _ _ _) _ _ _ _) (set4_far (set4 HI7.out.2.2.2.1 _ _ _ _) (by omega) _ _ _ _) Tryd.underlying29 rfl (by kernel_rfl) (by kernel_rfl)
  · have tc : (c == 0) = false := by rw [beq_eq_false_iff_ne]; exact z0
    obtain ⟨x0, x1, x2, x3⟩ := cells4i HT6.out
    have hl6 := HI6.out.1.lt
    have CALL := fun w1 (hb : Below w6.heap.size w6 w1) => mut_any rb _ 256 k n s f A1 cp1 0 w6.heap.size w1 (HI6.out.1.below hb) (by omega) ((HM6.out.kids.more (Nat.zero_le _) (Nat.le_refl _)).below hb (Nat.le_refl _)) hb.size HF.out HNF.out (by omega)
    have CALL2 := fun w1 k2 n2 s2 f2 A2 cp2 lo hi hr hk hh hf hM => mut_any rb 3011 296 k2 n2 s2 f2 A2 cp2 lo hi w1 hr (by omega) hk hh hf hM (by omega)
    have HC := Lib.hid CALL
    have HC2 := Lib.hid CALL2
    clear CALL CALL2
    go_wp2_with fail
    go_region_law (go_simp
                   go_at_call 23
                   first
                     | (have hq7 := HI7.out.1
                        refine (HC2.out w7 k2 n2 s2 f2 A2 cp2 0 w7.heap.size hq7 HK7.out (Nat.le_refl _) HF7.out HN7.out).mono ?_
                        rintro e w8 ⟨k3, n3, s3, f3, A3, cp3, rfl, hf3, hm3, hn3, hr3'⟩
                        have hm4 := hm3
                        have HI8 := Lib.hid (HI7.out.step hr3' hm4.wrote)
                        have HT8 := HT7.out.keep (hm4.wrote.block _ HT7.out.lt (by simp; omega))
                        obtain ⟨z0', z1, z2, z3⟩ := cells4i HT8
                        obtain ⟨d0, d1, d2, d3⟩ := cells4i HI8.out.2.2.1
                        obtain ⟨f0, f1, f2', f3'⟩ := frozen4 HI8.out.2.2.1
                        obtain ⟨e0, e1, e2, e3⟩ := cells4i HI8.out.2.2.2.1
                        obtain ⟨g0, g1, g2, g3⟩ := frozen4 HI8.out.2.2.2.1
                        have HM8 := Lib.hid hm4
                        have HF8 := Lib.hid hf3
                        have HN8 := Lib.hid hn3
                        clear hm3 hm4 hr3' hf3 hn3 HT8 hq7)
                     | (refine (HC.out w6.drew (Below.refl _ _).drew).mono ?_
                        rintro e w7 ⟨k2, n2, s2, f2, A2, cp2, rfl, hf2, hm2, hn2, hr2⟩
                        have hm3 := hm2.up (w := w6) (.of_below (Below.refl _ _).drew _)
                        have HI7 : Hid (DpI w rb 3011 w7) := Lib.hid (HI6.out.step (hr2.more (by omega)) hm3.wrote)
                        have HT7 := Lib.hid (HT6.out.keep (hm3.wrote.block _ HT6.out.lt (by simp; omega)))
                        obtain ⟨y0, y1, y2, y3⟩ := cells4i HT7.out
                        have HM7 := Lib.hid (HM6.out.on hr3 hm3.wrote)
                        have HK7 : Hid (KidsAt w7 0 w7.heap.size f2 A2 cp2) := Lib.hid (hm3.kids.more (Nat.zero_le _) (Nat.le_refl _))
                        have HF7 := Lib.hid hf2
                        have HN7 := Lib.hid hn2
                        clear hm2 hm3 hr2 hf2 hn2)
                     | fail)
    all_goals
      have HO := Lib.hid (two_own (lo := w.heap.size + 1) HM7.out HM8.out hr3 (by omega))
      go_wp2_with fail
      refine bodyPost_ret (v := .tuple #[.agg #[.int .i64 k, .int .i64 n, .string s, .slice A1 f.len cp1], .agg #[.int .i64 k3, .int .i64 n3, .string s3, .slice A3 f3.len cp3]]) ?_ rfl (HI8.out.fin HF.out HF8.out (by have := HNF.out; omega) (by have := HN8.out; omega) HO.out ?_)
      rotate_left
      · iterate 8 (refine Wrote.set_ ?_ (.inl (by simp)) _)
        exact Wrote.refl _ _
      first
        | exact results_cells2 Tryd.results10 _ _ w.heap.size (w.heap.size + 1) _ _ _ _ rfl rfl (set4_far (set4 HI8.out.2.2.1 _ _ _ _) (by omega) _ _ _ _) (set4 (set4_far HI8.out.2.2.2.1 (by omega) _ _ _ _) _ _ _ _) Tryd.underlying29 rfl (by kernel_rfl) (by kernel_rfl)
        | exact results_cells2 Tryd.results10 _ _ w.heap.size (w.heap.size + 1) _ _ _ _ rfl rfl (set4 (set4_far HI8.out.2.2.1 (by omega) _ _ _ _) _ _ _ _) (set4_far (set4 HI8.out.2.2.2.1 _ _ _ _) (by omega) _ _ _ _) Tryd.underlying29 rfl (by kernel_rfl) (by kernel_rfl)
end Go.Proofs.YtejehnmnocokiaaDoor
