/- spec.l1Mutate. Condition: the source and the term lie in memory. -/
import Derived.Test.YtkgihpddjppmdaaDoorProg
import Derived.Test.YtkgihpddjppmdaaDoorDrU
import Derived.Test.YtkgihpddjppmdaaDoorCopyP
import Derived.Deep.LoopGhost
namespace Go.Proofs.YtkgihpddjppmdaaDoor
open Go.RowKit

/-- The term k n s F is held, in blocks behind lo and not H. -/
def OwnX (w : World) (F : Fr) (A : Option Addr) (cap lo H : Nat) : Prop := ∃ L, OwnS w F A cap L ∧ L.Nodup ∧ ∀ x ∈ L, lo < x ∧ x ≠ H
theorem OwnX.keep {w w' : World} {F : Fr} {A : Option Addr} {cap lo H : Nat} (h : OwnX w F A cap lo H) (hk : ∀ x, lo < x → x < w.heap.size → x ≠ H → w'.heap[x]? = w.heap[x]?) : OwnX w' F A cap lo H := by
  obtain ⟨L, h1, h2, h3⟩ := h
  have hl := h1.lt
  exact ⟨L, h1.keep fun x hx => hk x (h3 x hx).1 (hl x hx) (h3 x hx).2, h2, h3⟩
theorem OwnX.set_ {w : World} {F : Fr} {A : Option Addr} {cap lo H : Nat} (h : OwnX w F A cap lo H) {p : Addr} (hp : p.block = H) (u : Value) : OwnX (w.setCell p u) F A cap lo H := h.keep fun x _ _ hn => heap_setCell_other w p x u (by omega)
theorem OwnX.wrote {w w' : World} {F : Fr} {A : Option Addr} {cap lo H rb : Nat} (h : OwnX w F A cap lo H) (hr : rb ≤ lo) (hw : Wrote [rb] w w') : OwnX w' F A cap lo H := h.keep fun x h1 h2 _ => hw.block x h2 (by simp; omega)
theorem RowX.own {w : World} {base H lo : Nat} {f : Fr} {A : Option Addr} {cap : Nat} (h : RowX base H (.slice A f.len cap) f w) (hl : lo < base) : OwnX w f A cap lo H := by
  obtain ⟨xs, L, ho, hd, hn, hL, hv⟩ := h
  rcases ho.2 with ⟨h0, h1⟩ | ⟨g, cap', cur, h0, hbg, hg, hnc, hcm, hcs, htake⟩
  · injection h0 with h0 h2 h3
    subst h0 h3
    exact ⟨[], ⟨by omega, Nat.zero_le _, .inl ⟨h1, rfl⟩⟩, List.nodup_nil, fun x hx => by simp at hx⟩
  · injection h0 with h0 h2 h3
    subst h0 h3
    refine ⟨g :: L, ⟨hnc, hcm, .inr ⟨g, L, cur, rfl, rfl, hg, hcs, hd.own f xs L 0 fun j u hu => ?_⟩⟩, List.nodup_cons.2 ⟨(hv g rfl).1, hn⟩, fun x hx => ?_⟩
    · have h3 := (World.ownsRow.cells ho (g := g) rfl) j u hu
      have e : (⟨g, 0, none⟩ : Addr).add j = ⟨g, 0 + j, none⟩ := by unfold Addr.add; split <;> simp_all
      rwa [e] at h3
    · rcases List.mem_cons.1 hx with rfl | hx
      · exact ⟨by omega, (hv x rfl).2⟩
      · have := hL x hx; exact ⟨by omega, this.2.2⟩
theorem DqI.set_ {w wr : World} {rb N : Nat} (h : DqI w rb N wr) {p : Addr} (hp : w.heap.size < p.block) (u : Value) : DqI w rb N (wr.setCell p u) :=
  ⟨h.1.set_ (by have := h.2.2.2; omega) u, h.2.1.set_ (.inr (by omega)) u, h.2.2.1.far (by omega) u, h.2.2.2⟩
theorem DrR.up {rb N M : Nat} {w w0 : World} {e : Ending} {w' : World} (h : DrR rb N M w0 e w') (hw : Wrote [rb] w w0) : DrR rb N M w e w' := by
  obtain ⟨k, n, s, f, A, cap, h1, h2, h3, h4, h5⟩ := h
  exact ⟨k, n, s, f, A, cap, h1, h2, h3.up hw, h4, h5⟩
theorem names5 (s : ByteArray) (h : s ∈ ([⟨#[]⟩, ⟨#[88]⟩, ⟨#[116, 111, 111, 108, 111, 110, 103]⟩, ⟨#[195, 169]⟩, ⟨#[97]⟩] : List ByteArray)) : s.size ≤ maxLen := by
  have : ∀ s ∈ ([⟨#[]⟩, ⟨#[88]⟩, ⟨#[116, 111, 111, 108, 111, 110, 103]⟩, ⟨#[195, 169]⟩, ⟨#[97]⟩] : List ByteArray), s.size ≤ 100 := by decide
  have := this s h
  unfold maxLen; omega

set_option maxRecDepth 100000 in
set_option maxHeartbeats 8000000 in
/-- spec.l1Mutate. -/
theorem mut_any (rb N M : Nat) (k n : Int) (s : ByteArray) (f : Fr) (A : Option Addr) (cap lo hi : Nat) (w : World) (hr : Rd w rb N) (hN : N + 10 ≤ 1000000) (hk : KidsAt w lo hi f A cap) (hh : hi ≤ w.heap.size) (hf : Fits k n s) (hM : nodes f ≤ M) (hM2 : M + 100 ≤ 1048576) :
    Calls Tryd.prog 11 #[.pointer (some ⟨rb, 0, none⟩), .agg #[.int .i64 k, .int .i64 n, .string s, .slice A f.len cap]] w fun e w' => DrR rb (N + 10) (M + 40) w e w' := by
  have hb0 : Below w.heap.size w (w.alloc (.cells #[.int .i64 k, .int .i64 n, .string s, .slice A f.len cap] 25)) := (Below.refl _ _).alloc (Nat.le_refl _) _
  have hq0 := Blk.new w 25 #[.int .i64 k, .int .i64 n, .string s, .slice A f.len cap]
  have hup : ∀ e w', DrR rb (N + 10) (M + 40) (w.alloc (.cells #[.int .i64 k, .int .i64 n, .string s, .slice A f.len cap] 25)) e w' → DrR rb (N + 10) (M + 40) w e w' := fun e w' h => h.up (.of_below hb0 _)
  have HQ := Lib.hid (DqI.start (hr.below hb0))
  have hz : (w.alloc (.cells #[.int .i64 k, .int .i64 n, .string s, .slice A f.len cap] 25)).heap.size = w.heap.size + 1 := by simp
  have hb1 : Below (w.alloc (.cells #[.int .i64 k, .int .i64 n, .string s, .slice A f.len cap] 25)).heap.size (w.alloc (.cells #[.int .i64 k, .int .i64 n, .string s, .slice A f.len cap] 25)) ((w.alloc (.cells #[.int .i64 k, .int .i64 n, .string s, .slice A f.len cap] 25)).alloc (.cells #[.int .i64 0, .int .i64 0, .string ⟨#[]⟩, .slice none 0 0] 25)) := (Below.refl _ _).alloc (Nat.le_refl _) _
  have C1 := cpP_any s f k n A cap lo hi _ ((hk.below hb0 hh).below hb1 (Nat.le_trans hh hb0.size)) (Nat.le_trans hh (Nat.le_trans hb0.size hb1.size)) (by omega)
  have HUP := Lib.hid hup
  have HC1 := Lib.hid C1
  have HF := Lib.hid hf
  have HM := Lib.hid hM
  obtain ⟨y0, y1, y2, y3⟩ := cells4i (hq0.below hb1 hq0.lt)
  clear hr hk hh hf hM hb0 hq0 hup hb1 C1
  obtain ⟨i0, hi0, hz0, hz1, hz2⟩ := info_parts infoTd
  go_enter Tryd.func11, Tryd.ntmps11
  go_wp2_with fail
  generalize w.alloc (.cells #[.int .i64 k, .int .i64 n, .string s, .slice A f.len cap] 25) = w0 at *
  refine HC1.out.mono ?_
  rintro e w1 ⟨v, rfl, hrow, hb⟩
  obtain ⟨A1, c1, rfl⟩ := hrow.form
  have HQ1 := Lib.hid (HQ.out.below hb)
  have hx0 := hrow.x (H := w1.heap.size) (Nat.le_refl _)
  have hb5 := (Below.refl w1.heap.size w1).alloc (Nat.le_refl _) (.cells #[.int .i64 k, .int .i64 n, .string s, .slice A1 f.len c1] 25)
  have HX := Lib.hid (hx0.below hb5)
  have HT := Lib.hid (Blk.new w1 25 #[.int .i64 k, .int .i64 n, .string s, .slice A1 f.len c1])
  have HQ2 := Lib.hid (HQ1.out.below hb5)
  have hbase : w0.heap.size < (w0.alloc (.cells #[.int .i64 0, .int .i64 0, .string ⟨#[]⟩, .slice none 0 0] 25)).heap.size := by simp
  have hHb : (w0.alloc (.cells #[.int .i64 0, .int .i64 0, .string ⟨#[]⟩, .slice none 0 0] 25)).heap.size ≤ w1.heap.size := hb.size
  clear hrow hb hx0 hb5 HC1 HQ HQ1 y0 y1 y2 y3
  generalize (w0.alloc (.cells #[.int .i64 0, .int .i64 0, .string ⟨#[]⟩, .slice none 0 0] 25)).heap.size = base at *
  go_wp2_with fail
  generalize w1.alloc (.cells #[.int .i64 k, .int .i64 n, .string s, .slice A1 f.len c1] 25) = w2 at *
  generalize w1.heap.size = H at *
  have hrb := HQ2.out.2.2.2
  rw [← hz]
  clear hz
  refine (pick_any rb _ 50 _ HQ2.out.1 (by omega) (by omega) (by omega)).mono ?_
  rintro e w3 ⟨c, rfl, hc0, hc1, hr, hw⟩
  have HQ3 := Lib.hid (HQ2.out.step hr hw)
  have HT3 := Lib.hid (hw.blk HT.out (by simp; omega))
  have HX3 := Lib.hid (HX.out.wrote (rb := rb) (by omega) hw)
  clear hr hw HQ2 HT HX hc0 hc1
  by_cases z0 : c = 0
  · subst z0
    have hb := (Below.refl w3.heap.size w3).alloc (Nat.le_refl _) (.cells #[.int .i64 0, .int .i64 4, .int .i64 1, .int .i64 2, .int .i64 3] 3)
    have HQ4 := Lib.hid (HQ3.out.below hb)
    have HT4 := Lib.hid (HT3.out.below hb HT3.out.lt)
    have HX4 := Lib.hid (HX3.out.below hb)
    have HI : Hid (IntsAt (w3.alloc (.cells #[.int .i64 0, .int .i64 4, .int .i64 1, .int .i64 2, .int .i64 3] 3)) (rb + 1) (some ⟨w3.heap.size, 0, none⟩) [0, 4, 1, 2, 3]) := Lib.hid ⟨w3.heap.size, rfl, HQ3.out.1.lt, by simp, fun i z h => by
      rw [(Blk.new w3 _ _).cell i]
      match i, h with
        | 0, h => cases h; rfl
        | 1, h => cases h; rfl
        | 2, h => cases h; rfl
        | 3, h => cases h; rfl
        | 4, h => cases h; rfl⟩
    clear hb HQ3 HT3 HX3
    go_wp2_with fail
    refine (num_any rb _ [0, 4, 1, 2, 3] _ 5 _ HQ4.out.1 (by omega) HI.out (by decide) (by decide)).mono ?_
    rintro e w5 ⟨z, rfl, hz, hr, hw⟩
    have hzb : -1000 ≤ z ∧ z ≤ 1000 := by simp at hz; omega
    have hq5 := HQ4.out.step hr hw
    have ht5 := hw.blk HT4.out (by simp; omega)
    have hx5 := HX4.out.wrote (rb := rb) (by omega) hw
    have HQ5 := Lib.hid (hq5.set_ (p := ⟨H, 0, none⟩) (by show w0.heap.size < H; omega) (.int .i64 z))
    have HT5 : Hid (Blk (w5.setCell ⟨H, 0, none⟩ (.int .i64 z)) H 25 #[.int .i64 z, .int .i64 n, .string s, .slice A1 f.len c1]) := Lib.hid (by have h := ht5.set_ 0 (.int .i64 z); simpa using h)
    have HX5 := Lib.hid (hx5.set_ (p := ⟨H, 0, none⟩) rfl (.int .i64 z))
    have cc0 := ht5.cell 0
    have g0 := ht5.frozen 0
    simp only [List.getElem?_toArray, List.getElem?_cons_zero] at cc0
    have HFF : Hid (Fits z n s) := Lib.hid ⟨by omega, HF.out.2.1, HF.out.2.2⟩
    clear hr hw hz hq5 ht5 hx5 HQ4 HT4 HX4 HI
    have HO := Lib.hid (HX5.out.own (lo := w0.heap.size) hbase)
    obtain ⟨x0, x1, x2, x3⟩ := cells4i HT5.out
    obtain ⟨d0, d1, d2, d3⟩ := cells4i HQ5.out.2.2.1
    obtain ⟨f0, f1, f2, f3⟩ := frozen4 HQ5.out.2.2.1
    go_wp2_with fail
    refine bodyPost_ret (v := .agg #[.int .i64 z, .int .i64 n, .string s, .slice A1 f.len c1]) ?_ rfl (HUP.out _ _ (HQ5.out.ret HFF.out (by obtain ⟨L, h1, h2, h3⟩ := HO.out; exact ⟨L, h1, h2, fun x hx => (h3 x hx).1⟩) (by have := HM.out; omega) (by omega) _ _ _ _))
    exact results_cell_row Tryd.results11 _ _ w0.heap.size _ _ _ _ rfl (set4 HQ5.out.2.2.1 _ _ _ _) Tryd.underlying25 rfl (by kernel_rfl)
  have t0 : (c == 0) = false := by rw [beq_eq_false_iff_ne]; exact z0
  by_cases z1 : c = 1
  · subst z1
    have hb := (Below.refl w3.heap.size w3).alloc (Nat.le_refl _) (.cells #[.int .i64 26, .int .i64 1000, .int .i64 (-1000), .int .i64 (-1), .int .i64 1] 3)
    have HQ4 := Lib.hid (HQ3.out.below hb)
    have HT4 := Lib.hid (HT3.out.below hb HT3.out.lt)
    have HX4 := Lib.hid (HX3.out.below hb)
    have HI : Hid (IntsAt (w3.alloc (.cells #[.int .i64 26, .int .i64 1000, .int .i64 (-1000), .int .i64 (-1), .int .i64 1] 3)) (rb + 1) (some ⟨w3.heap.size, 0, none⟩) [26, 1000, -1000, -1, 1]) := Lib.hid ⟨w3.heap.size, rfl, HQ3.out.1.lt, by simp, fun i z h => by
      rw [(Blk.new w3 _ _).cell i]
      match i, h with
        | 0, h => cases h; rfl
        | 1, h => cases h; rfl
        | 2, h => cases h; rfl
        | 3, h => cases h; rfl
        | 4, h => cases h; rfl⟩
    clear hb HQ3 HT3 HX3
    go_wp2_with fail
    refine (num_any rb _ [26, 1000, -1000, -1, 1] _ 5 _ HQ4.out.1 (by omega) HI.out (by decide) (by decide)).mono ?_
    rintro e w5 ⟨z, rfl, hz, hr, hw⟩
    have hzb : -1000 ≤ z ∧ z ≤ 1000 := by simp at hz; omega
    have hq5 := HQ4.out.step hr hw
    have ht5 := hw.blk HT4.out (by simp; omega)
    have hx5 := HX4.out.wrote (rb := rb) (by omega) hw
    have HQ5 := Lib.hid (hq5.set_ (p := ⟨H, 1, none⟩) (by show w0.heap.size < H; omega) (.int .i64 z))
    have HT5 : Hid (Blk (w5.setCell ⟨H, 1, none⟩ (.int .i64 z)) H 25 #[.int .i64 k, .int .i64 z, .string s, .slice A1 f.len c1]) := Lib.hid (by have h := ht5.set_ 1 (.int .i64 z); simpa using h)
    have HX5 := Lib.hid (hx5.set_ (p := ⟨H, 1, none⟩) rfl (.int .i64 z))
    have cc1 := ht5.cell 1
    have g1 := ht5.frozen 1
    simp only [List.getElem?_toArray, List.getElem?_cons_zero, List.getElem?_cons_succ] at cc1
    have HFF : Hid (Fits k z s) := Lib.hid ⟨HF.out.1, by omega, HF.out.2.2⟩
    clear hr hw hz hq5 ht5 hx5 HQ4 HT4 HX4 HI
    have HO := Lib.hid (HX5.out.own (lo := w0.heap.size) hbase)
    obtain ⟨x0, x1, x2, x3⟩ := cells4i HT5.out
    obtain ⟨d0, d1, d2, d3⟩ := cells4i HQ5.out.2.2.1
    obtain ⟨f0, f1, f2, f3⟩ := frozen4 HQ5.out.2.2.1
    go_wp2_with fail
    refine bodyPost_ret (v := .agg #[.int .i64 k, .int .i64 z, .string s, .slice A1 f.len c1]) ?_ rfl (HUP.out _ _ (HQ5.out.ret HFF.out (by obtain ⟨L, h1, h2, h3⟩ := HO.out; exact ⟨L, h1, h2, fun x hx => (h3 x hx).1⟩) (by have := HM.out; omega) (by omega) _ _ _ _))
    exact results_cell_row Tryd.results11 _ _ w0.heap.size _ _ _ _ rfl (set4 HQ5.out.2.2.1 _ _ _ _) Tryd.underlying25 rfl (by kernel_rfl)
  have t1 : (c == 1) = false := by rw [beq_eq_false_iff_ne]; exact z1
  by_cases z2 : c = 2
  · subst z2
    have hb := (Below.refl w3.heap.size w3).alloc (Nat.le_refl _) (.cells #[.string ⟨#[]⟩, .string ⟨#[88]⟩, .string ⟨#[116, 111, 111, 108, 111, 110, 103]⟩, .string ⟨#[195, 169]⟩, .string ⟨#[97]⟩] 9)
    have HQ4 := Lib.hid (HQ3.out.below hb)
    have HT4 := Lib.hid (HT3.out.below hb HT3.out.lt)
    have HX4 := Lib.hid (HX3.out.below hb)
    have HI : Hid (StrsAt (w3.alloc (.cells #[.string ⟨#[]⟩, .string ⟨#[88]⟩, .string ⟨#[116, 111, 111, 108, 111, 110, 103]⟩, .string ⟨#[195, 169]⟩, .string ⟨#[97]⟩] 9)) (rb + 1) (some ⟨w3.heap.size, 0, none⟩) [⟨#[]⟩, ⟨#[88]⟩, ⟨#[116, 111, 111, 108, 111, 110, 103]⟩, ⟨#[195, 169]⟩, ⟨#[97]⟩]) := Lib.hid ⟨w3.heap.size, rfl, HQ3.out.1.lt, by simp, fun i z h => by
      rw [(Blk.new w3 _ _).cell i]
      match i, h with
        | 0, h => cases h; rfl
        | 1, h => cases h; rfl
        | 2, h => cases h; rfl
        | 3, h => cases h; rfl
        | 4, h => cases h; rfl⟩
    clear hb HQ3 HT3 HX3
    go_wp2_with fail
    refine (of_any rb _ [⟨#[]⟩, ⟨#[88]⟩, ⟨#[116, 111, 111, 108, 111, 110, 103]⟩, ⟨#[195, 169]⟩, ⟨#[97]⟩] _ 5 _ HQ4.out.1 (by omega) HI.out (by decide) (by decide)).mono ?_
    rintro e w5 ⟨z, rfl, hz, hr, hw⟩
    have hq5 := HQ4.out.step hr hw
    have ht5 := hw.blk HT4.out (by simp; omega)
    have hx5 := HX4.out.wrote (rb := rb) (by omega) hw
    have HQ5 := Lib.hid (hq5.set_ (p := ⟨H, 2, none⟩) (by show w0.heap.size < H; omega) (.string z))
    have HT5 : Hid (Blk (w5.setCell ⟨H, 2, none⟩ (.string z)) H 25 #[.int .i64 k, .int .i64 n, .string z, .slice A1 f.len c1]) := Lib.hid (by have h := ht5.set_ 2 (.string z); simpa using h)
    have HX5 := Lib.hid (hx5.set_ (p := ⟨H, 2, none⟩) rfl (.string z))
    have cc2 := ht5.cell 2
    have g2 := ht5.frozen 2
    simp only [List.getElem?_toArray, List.getElem?_cons_zero, List.getElem?_cons_succ] at cc2
    have HFF : Hid (Fits k n z) := Lib.hid ⟨HF.out.1, HF.out.2.1, names5 z hz⟩
    clear hr hw hz hq5 ht5 hx5 HQ4 HT4 HX4 HI
    have HO := Lib.hid (HX5.out.own (lo := w0.heap.size) hbase)
    obtain ⟨x0, x1, x2, x3⟩ := cells4i HT5.out
    obtain ⟨d0, d1, d2, d3⟩ := cells4i HQ5.out.2.2.1
    obtain ⟨f0, f1, f2, f3⟩ := frozen4 HQ5.out.2.2.1
    go_wp2_with fail
    refine bodyPost_ret (v := .agg #[.int .i64 k, .int .i64 n, .string z, .slice A1 f.len c1]) ?_ rfl (HUP.out _ _ (HQ5.out.ret HFF.out (by obtain ⟨L, h1, h2, h3⟩ := HO.out; exact ⟨L, h1, h2, fun x hx => (h3 x hx).1⟩) (by have := HM.out; omega) (by omega) _ _ _ _))
    exact results_cell_row Tryd.results11 _ _ w0.heap.size _ _ _ _ rfl (set4 HQ5.out.2.2.1 _ _ _ _) Tryd.underlying25 rfl (by kernel_rfl)
  have t2 : (c == 2) = false := by rw [beq_eq_false_iff_ne]; exact z2
  by_cases z3 : c = 3
  · subst z3
    have HFF := HF
    have HST : Hid (nodes f + 5 ≤ M + 5) := Lib.hid (by have := HM.out; omega)
    go_wp2_with fail
    go_loopg [31] 5 (fun g _ wr => ∃ (v : Value) (F : Fr), 5 ≤ F.len + g ∧ nodes F + g ≤ M + 5 ∧ DqI w0 rb (N + 1) wr ∧ Blk wr H 25 #[.int .i64 k, .int .i64 n, .string s, v] ∧ RowX base H v F wr)
    case atStart => exact ⟨_, f, by omega, HST.out, HQ3.out, HT3.out, HX3.out⟩
    case round =>
      obtain ⟨v, F, h1, h2, hq, ht, hx⟩ := hrel
      obtain ⟨A3, c3, rfl⟩ := hx.p.form
      by_cases hl : F.len ≤ 4
      · obtain ⟨xs, L, hown, hDs, hN', hL, hv⟩ := hx
        have hvl := hown.lt
        have hbs : base ≤ wr.heap.size := by have := ht.lt; omega
        have hHl := ht.lt
        have x3 : wr.cell? ⟨H, 3, none⟩ = some (.slice A3 F.len c3) := ht.cell 3
        have xf := ht.frozen 3
        have STEP := fun (w1 w2 w4 : World) (g cap4 : Nat) hm hr1 hb2 hg ho hat => dr_step (w1 := w1) (w2 := w2) (w4 := w4) (k := 2) (n := 1) (s' := ⟨#[]⟩) (kids := .nil) (A := none) (cap := 0) (cap4 := cap4) (g := g) (U2 := N + 1) hq ht hbase hbs hHb hDs hN' hL hv hvl ⟨by omega, by omega, Nat.zero_le _⟩ hm hr1 hb2 hg ho hat
        have hne : some H ≠ (Value.slice A3 F.len c3).ownBlock := fun e => (hv _ e.symm).2 rfl
        have keep : ∀ w2, Below wr.heap.size wr w2 → w2.ownsRow base 25 4 (.slice A3 F.len c3) F.len xs := fun w2 hb2 =>
          hown.kept (row := none) ⟨hb2.os, hb2.tape, hb2.output, hb2.size, fun k hk _ => hb2.block k hk⟩ (by
            cases h : (Value.slice A3 F.len c3).ownBlock with
            | none => exact .inl rfl
            | some g => exact .inr (by simp))
        have HSTEP := Lib.hid STEP
        have HNE := Lib.hid hne
        have HKEEP := Lib.hid keep
        have HTT := Lib.hid ht
        have HRD := Lib.hid hq.1
        have hl' : (F.len : Int) ≤ 4 := by omega
        clear STEP hne keep hown hDs hN' hL hv hvl hq ht HQ3 HT3 HX3
        generalize hfl2 : F.len = fl at *
        have HFL := Lib.hid hfl2
        clear hfl2
        go_wp2_with fail
        go_region_law (first
          | (refine step_append_lies _ (by rfl) _ _ _ (by rfl) base 25 i0 _ 4 56 Tryd.underlying23 hi0 hz0 hz1 hz2 rfl (by omega) (.slice A3 fl c3) fl xs (by rfl) (HO2.out.alloc _)
               ⟨w5.heap.size, 0, none⟩ 1 1 [.int .i64 2, .int .i64 1, .string ⟨#[]⟩, .slice none 0 0] (by rfl) (by rfl) (World.news_of_block (cs := #[.int .i64 2, .int .i64 1, .string ⟨#[]⟩, .slice none 0 0]) (fr := (0, 0)) (heap_alloc_new w5 _)) (by simp [Value.oneCell'])
               (by omega) (by unfold maxLen; omega) (by omega) (by simp; omega) (w5.heap.size + 1) (by simp) ?_
             intro g cap4 w4 hown4 hgrow hat hlt4
             have q4 := (HT2.out.alloc (.cells #[.int .i64 2, .int .i64 1, .string ⟨#[]⟩, .slice none 0 0] 25)).keep (hgrow.block _ (by simp; omega) HNE.out)
             have z3 := q4.cell 3
             have zf := q4.frozen 3
             simp only [List.getElem?_toArray, List.getElem?_cons_zero, List.getElem?_cons_succ] at z3
             clear q4
             have HOWN4 := Lib.hid hown4
             have HGROW := Lib.hid hgrow
             have HAT := Lib.hid hat
             clear hown4 hgrow hat)
          | (go_simp
             go_at_call 28
             refine (int_any _ _).mono ?_
             rintro e w5 ⟨rfl, hb5⟩
             have hd2 : Below wr.heap.size wr w5 := (Below.refl wr.heap.size wr).drew.trans hb5
             have hs2 := hd2.size
             have ht2 := HTT.out.below hd2 HTT.out.lt
             have y3 := ht2.cell 3
             have y4 := (ht2.alloc (.cells #[.int .i64 2, .int .i64 1, .string ⟨#[]⟩, .slice none 0 0] 25)).cell 3
             simp only [List.getElem?_toArray, List.getElem?_cons_zero, List.getElem?_cons_succ] at y3 y4
             have HO2 := Lib.hid (HKEEP.out w5 hd2)
             have HT2 := Lib.hid ht2
             have HD2 := Lib.hid hd2
             clear hb5 hd2 ht2))
        all_goals
          have hs := HSTEP.out w5 _ w4 g cap4 ⟨[], ⟨Nat.zero_le _, Nat.zero_le _, .inl ⟨rfl, rfl⟩⟩, List.nodup_nil, fun x hx => by simp at hx, .of_below HD2.out _⟩ (HRD.out.below HD2.out) ((Below.refl _ _).alloc (Nat.le_refl _) _) HGROW.out HOWN4.out (by simpa using HAT.out)
          have HS := Lib.hid hs
          clear hs
          go_wp2_with fail
          go_roundg (gk - 1)
          case measure => omega
          case rel => exact ⟨_, F.app (.cons 2 1 ⟨#[]⟩ .nil .nil), by rw [Fr.len_app, HFL.out]; simp only [Fr.len]; omega, by rw [nodes_app]; simp only [nodes]; omega, HS.out.1, HS.out.2.1, HS.out.2.2⟩
      · have HQ4 := Lib.hid hq
        have HT4 := Lib.hid ht
        have HX4 := Lib.hid hx
        have HNF : Hid (nodes F ≤ M + 40) := Lib.hid (by omega)
        have hl' : ¬ (F.len : Int) ≤ 4 := by omega
        clear hq ht hx h1 h2 HQ3 HT3 HX3
        have HO := Lib.hid (HX4.out.own (lo := w0.heap.size) hbase)
        obtain ⟨x0, x1, x2, x3⟩ := cells4i HT4.out
        obtain ⟨d0, d1, d2, d3⟩ := cells4i HQ4.out.2.2.1
        obtain ⟨f0, f1, f2, f3⟩ := frozen4 HQ4.out.2.2.1
        go_wp2_with fail
        refine bodyPost_ret (v := .agg #[.int .i64 k, .int .i64 n, .string s, .slice A3 F.len c3]) ?_ rfl (HUP.out _ _ (HQ4.out.ret HFF.out (by obtain ⟨L, h1, h2, h3⟩ := HO.out; exact ⟨L, h1, h2, fun x hx => (h3 x hx).1⟩) HNF.out (by omega) _ _ _ _))
        exact results_cell_row Tryd.results11 _ _ w0.heap.size _ _ _ _ rfl (set4 HQ4.out.2.2.1 _ _ _ _) Tryd.underlying25 rfl (by kernel_rfl)
  have t3 : (c == 3) = false := by rw [beq_eq_false_iff_ne]; exact z3
  by_cases z4 : c = 4
  · subst z4
    have HO3 := Lib.hid (HX3.out.own (lo := w0.heap.size) hbase)
    have HST : Hid (nodes f ≤ M + 0) := Lib.hid HM.out
    go_wp2_with fail
    go_loopw [6] (fun i wr => ∃ (j : Nat) (k' n' : Int) (s' : ByteArray) (F : Fr) (A3 : Option Addr) (c3 : Nat), j ≤ 30 ∧ i = .int .i64 j ∧ Fits k' n' s' ∧ nodes F ≤ M + j ∧ DqI w0 rb (N + 1) wr ∧ Blk wr H 25 #[.int .i64 k', .int .i64 n', .string s', .slice A3 F.len c3] ∧ OwnX wr F A3 c3 w0.heap.size H) (fun i _ => 30 - (intOf i).toNat)
    case atStart => exact ⟨0, k, n, s, f, A1, c1, by omega, rfl, HF.out, HST.out, HQ3.out, HT3.out, HO3.out⟩
    case round =>
      obtain ⟨j, k', n', s', F, A3, c3, hj, rfl, hf', hn', hq, ht, ho⟩ := hrel
      have HFF := Lib.hid hf'
      clear hf' HQ3 HT3 HX3 HO3
      by_cases hlt : j < 30
      · obtain ⟨L, ho1, ho2, ho3⟩ := ho
        have hlx := ho1.lt
        have hb1 := (Below.refl wr.heap.size wr).alloc (Nat.le_refl _) (.cells #[.int .i64 k', .int .i64 n', .string s', .slice A3 F.len c3] 25)
        have hq1 := Blk.new wr 25 #[.int .i64 k', .int .i64 n', .string s', .slice A3 F.len c3]
        have p1 := ho1.below hb1 hlx
        have HOWN : Hid (OwnS (wr.alloc (.cells #[.int .i64 k', .int .i64 n', .string s', .slice A3 F.len c3] 25)) (.cons k' n' s' F .nil) (some ⟨wr.heap.size, 0, none⟩) 1 (wr.heap.size :: (L ++ []))) :=
          Lib.hid ⟨by simp [Fr.len], by unfold maxLen; omega, .inr ⟨wr.heap.size, L ++ [], _, rfl, rfl, hq1, rfl, ⟨A3, c3, L, [], rfl, HFF.out, ⟨hq1.cell 0, hq1.cell 1, hq1.cell 2, hq1.cell 3⟩, p1.1, p1.2.1, p1.2.2, rfl⟩⟩⟩
        have HND : Hid ((wr.heap.size :: (L ++ [])).Nodup) := Lib.hid (by rw [List.append_nil]; exact List.nodup_cons.2 ⟨fun h => by have := hlx _ h; omega, ho2⟩)
        have hHl := ht.lt
        have hql := hq.2.2.1.lt
        have HLX : Hid (∀ x ∈ wr.heap.size :: (L ++ []), w0.heap.size < x ∧ x ≠ H) := Lib.hid (by
          intro x hx
          rw [List.append_nil] at hx
          rcases List.mem_cons.1 hx with rfl | hx
          · omega
          · exact ho3 x hx)
        have HQ4 := Lib.hid (hq.below hb1)
        have HT4 := Lib.hid (ht.below hb1 hHl)
        obtain ⟨x0, x1, x2, x3⟩ := cells4i ht
        clear ho1 ho2 ho3 hlx hb1 hq1 p1 hq ht
        go_wp2_with fail
        refine (structN_any ⟨#[115]⟩ (.cons k' n' s' F .nil) _ 1 _ _ HOWN.out HND.out (by simp [Fr.len])).mono ?_
        rintro e w4 ⟨A4, c4, L4, rfl, ho4, hn4, hL4, hb4, _⟩
        have hq5 := HQ4.out.below hb4
        have ht5 := HT4.out.below hb4 HT4.out.lt
        obtain ⟨d0, d1, d2, d3⟩ := cells4i ht5
        obtain ⟨f0, f1, f2, f3⟩ := frozen4 ht5
        have hlt0 : w0.heap.size < H := by omega
        have HQ6 := Lib.hid ((((hq5.set_ (p := ⟨H, 0, none⟩) hlt0 (.int .i64 3)).set_ (p := ⟨H, 1, none⟩) hlt0 (.int .i64 0)).set_ (p := ⟨H, 2, none⟩) hlt0 (.string ⟨#[115]⟩)).set_ (p := ⟨H, 3, none⟩) hlt0 (.slice A4 (Fr.cons k' n' s' F .nil).len c4))
        have HT6 := Lib.hid (set4 ht5 (.int .i64 3) (.int .i64 0) (.string ⟨#[115]⟩) (.slice A4 (Fr.cons k' n' s' F .nil).len c4))
        have hox : OwnX w4 (.cons k' n' s' F .nil) A4 c4 w0.heap.size H := ⟨L4, ho4, hn4, fun x hx => by
          rcases hL4 x hx with h | h
          · exact HLX.out x h
          · have := h.1; simp at this; omega⟩
        have HO6 := Lib.hid ((((hox.set_ (p := ⟨H, 0, none⟩) rfl (.int .i64 3)).set_ (p := ⟨H, 1, none⟩) rfl (.int .i64 0)).set_ (p := ⟨H, 2, none⟩) rfl (.string ⟨#[115]⟩)).set_ (p := ⟨H, 3, none⟩) rfl (.slice A4 (Fr.cons k' n' s' F .nil).len c4))
        clear ho4 hn4 hL4 hb4 hq5 ht5 hox HQ4 HT4 HOWN HND HLX x0 x1 x2 x3
        go_wp2_with fail
        go_roundw
        case rel => exact ⟨j + 1, 3, 0, ⟨#[115]⟩, .cons k' n' s' F .nil, A4, c4, by omega, by go_num, ⟨by omega, by omega, by unfold maxLen; decide⟩, by simp only [nodes]; omega, HQ6.out, HT6.out, HO6.out⟩
        case measure => simp [intOf]; omega
      · have HQ4 := Lib.hid hq
        have HT4 := Lib.hid ht
        have HX4 := Lib.hid ho
        have HNF : Hid (nodes F ≤ M + 40) := Lib.hid (by omega)
        have hj' : ¬ (j : Int) < 30 := by omega
        clear hq ht ho hn'
        have HO := HX4
        obtain ⟨x0, x1, x2, x3⟩ := cells4i HT4.out
        obtain ⟨d0, d1, d2, d3⟩ := cells4i HQ4.out.2.2.1
        obtain ⟨f0, f1, f2, f3⟩ := frozen4 HQ4.out.2.2.1
        go_wp2_with fail
        refine bodyPost_ret (v := .agg #[.int .i64 k', .int .i64 n', .string s', .slice A3 F.len c3]) ?_ rfl (HUP.out _ _ (HQ4.out.ret HFF.out (by obtain ⟨L, h1, h2, h3⟩ := HO.out; exact ⟨L, h1, h2, fun x hx => (h3 x hx).1⟩) HNF.out (by omega) _ _ _ _))
        exact results_cell_row Tryd.results11 _ _ w0.heap.size _ _ _ _ rfl (set4 HQ4.out.2.2.1 _ _ _ _) Tryd.underlying25 rfl (by kernel_rfl)
  have t4 : (c == 4) = false := by rw [beq_eq_false_iff_ne]; exact z4
  have HFF := HF
  have HO := Lib.hid (HX3.out.own (lo := w0.heap.size) hbase)
  obtain ⟨x0, x1, x2, x3⟩ := cells4i HT3.out
  obtain ⟨d0, d1, d2, d3⟩ := cells4i HQ3.out.2.2.1
  obtain ⟨f0, f1, f2, f3⟩ := frozen4 HQ3.out.2.2.1
  go_wp2_with fail
  refine bodyPost_ret (v := .agg #[.int .i64 k, .int .i64 n, .string s, .slice A1 f.len c1]) ?_ rfl (HUP.out _ _ (HQ3.out.ret HFF.out (by obtain ⟨L, h1, h2, h3⟩ := HO.out; exact ⟨L, h1, h2, fun x hx => (h3 x hx).1⟩) (by have := HM.out; omega) (by omega) _ _ _ _))
  exact results_cell_row Tryd.results11 _ _ w0.heap.size _ _ _ _ rfl (set4 HQ3.out.2.2.1 _ _ _ _) Tryd.underlying25 rfl (by kernel_rfl)
end Go.Proofs.YtkgihpddjppmdaaDoor
