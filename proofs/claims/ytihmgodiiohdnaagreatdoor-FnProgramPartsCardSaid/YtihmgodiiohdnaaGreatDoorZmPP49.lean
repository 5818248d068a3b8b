/- spec.l1Mutate. Condition: the source and the term lie in memory. -/
import Derived.Test.YtihmgodiiohdnaaGreatDoorProg
import Derived.Test.YtihmgodiiohdnaaGreatDoorZmPP48
import Derived.Test.YtihmgodiiohdnaaGreatDoorZmPP45
import Derived.Deep.LoopGhost
import Derived.Test.YtihmgodiiohdnaaGreatDoorZmPP47
import Derived.Test.YtihmgodiiohdnaaGreatDoorZmPP43
import Derived.OwnWalk
import Derived.Maps.OwnRows
import Derived.Maps.GroupsBeside
import Derived.Maps.Views
import Derived.DeepKeys4
import Derived.ChangeKeys
namespace Go.Proofs.YtihmgodiiohdnaaGreatDoor
open Go.RowKit

/-- The term k n s F is held, in blocks behind lo and not H. -/
def OwnX (w : World) (F : Fr) (A : Option Addr) (cap lo H : Nat) : Prop := ∃ L, OwnS w F A cap L ∧ L.Nodup ∧ ∀ x ∈ L, lo < x ∧ x ≠ H
theorem OwnX.keep {w w' : World} {F : Fr} {A : Option Addr} {cap lo H : Nat} (h : OwnX w F A cap lo H) (hk : ∀ x, lo < x → x < w.heap.size → x ≠ H → w'.heap[x]? = w.heap[x]?) : OwnX w' F A cap lo H := by
  obtain ⟨L, h1, h2, h3⟩ := h
  have hl := h1.lt
  exact ⟨L, h1.keep fun x hx => hk x (h3 x hx).1 (hl x hx) (h3 x hx).2, h2, h3⟩
theorem OwnX.set_ {w : World} {F : Fr} {A : Option Addr} {cap lo H : Nat} (h : OwnX w F A cap lo H) {p : Addr} (hp : p.block = H) (u : Value) : OwnX (w.setCell p u) F A cap lo H := h.keep fun x _ _ hn => heap_setCell_other w p x u (by omega)
theorem OwnX.wrote {w w' : World} {F : Fr} {A : Option Addr} {cap lo H rb : Nat} (h : OwnX w F A cap lo H) (hr : rb ≤ lo) (hw : Wrote [rb] w w') : OwnX w' F A cap lo H := h.keep fun x h1 h2 _ => hw.block x h2 (by simp; omega)
theorem RowX.own {w : World} {base H lo : Nat} {f : Fr} {A : Option Addr} {cap : Nat} (h : RowX base H (.slice A f.len cap) f w) (hl : lo < base) : OwnX w f A cap lo H := by
  obtain ⟨xs, L, ho, hd, hn, hL, hv⟩ := h
  rcases ho.2 with ⟨h0, h1⟩ | ⟨g, cap', cur, h0, hbg, hg, hnc, hcm, hcs, htake⟩
  · injection h0 with h0 h2 h3
    subst h0 h3
    exact ⟨[], ⟨by omega, Nat.zero_le _, .inl ⟨h1, rfl⟩⟩, List.nodup_nil, fun x hx => by simp at hx⟩
  · injection h0 with h0 h2 h3
    subst h0 h3
    refine ⟨g :: L, ⟨hnc, hcm, .inr ⟨g, L, cur, rfl, rfl, hg, hcs, hd.own f xs L 0 fun j u hu => ?_⟩⟩, List.nodup_cons.2 ⟨(hv g rfl).1, hn⟩, fun x hx => ?_⟩
    · have h3 := (World.ownsRow.cells ho (g := g) rfl) j u hu
      have e : (⟨g, 0, none⟩ : Addr).add j = ⟨g, 0 + j, none⟩ := by unfold Addr.add; split <;> simp_all
      rwa [e] at h3
    · rcases List.mem_cons.1 hx with rfl | hx
      · exact ⟨by omega, (hv x rfl).2⟩
      · have := hL x hx; exact ⟨by omega, this.2.2⟩
theorem DqI.set_ {w wr : World} {rb N : Nat} (h : DqI w rb N wr) {p : Addr} (hp : w.heap.size < p.block) (u : Value) : DqI w rb N (wr.setCell p u) :=
  ⟨h.1.set_ (by have := h.2.2.2; omega) u, h.2.1.set_ (.inr (by omega)) u, h.2.2.1.far (by omega) u, h.2.2.2⟩
theorem DrR.up {rb N M : Nat} {w w0 : World} {e : Ending} {w' : World} (h : DrR rb N M w0 e w') (hw : Wrote [rb] w w0) : DrR rb N M w e w' := by
  obtain ⟨k, n, s, f, A, cap, h1, h2, h3, h4, h5⟩ := h
  exact ⟨k, n, s, f, A, cap, h1, h2, h3.up hw, h4, h5⟩
theorem names5 (s : ByteArray) (h : s ∈ ([⟨#[]⟩, ⟨#[88]⟩, ⟨#[116, 111, 111, 108, 111, 110, 103]⟩, ⟨#[195, 169]⟩, ⟨#[97]⟩] : List ByteArray)) : s.size ≤ maxLen := by
  have : ∀ s ∈ ([⟨#[]⟩, ⟨#[88]⟩, ⟨#[116, 111, 111, 108, 111, 110, 103]⟩, ⟨#[195, 169]⟩, ⟨#[97]⟩] : List ByteArray), s.size ≤ 100 := by decide
  have := this s h
  unfold maxLen; omega

set_option maxRecDepth 100000 in
set_option maxHeartbeats 8000000 in
/-- spec.l1Mutate. -/
theorem mut_any (rb N M : Nat) (k n : Int) (s : ByteArray) (f : Fr) (A : Option Addr) (cap lo hi : Nat) (w : World) (hr : Rd w rb N) (hN : N + 10 ≤ 1000000) (hk : KidsAt w lo hi f A cap) (hh : hi ≤ w.heap.size) (hf : Fits k n s) (hM : nodes f ≤ M) (hM2 : M + 100 ≤ 1048576) :
    Calls Tryz.prog 40 #[.pointer (some ⟨rb, 0, none⟩), .agg #[.int .i64 k, .int .i64 n, .string s, .slice A f.len cap]] w fun e w' => DrR rb (N + 10) (M + 40) w e w' := by
  have hb0 : Below w.heap.size w (w.alloc (.cells #[.int .i64 k, .int .i64 n, .string s, .slice A f.len cap] 30)) := (Below.refl _ _).alloc (Nat.le_refl _) _
  have hq0 := Blk.new w 30 #[.int .i64 k, .int .i64 n, .string s, .slice A f.len cap]
  have hup : ∀ e w', DrR rb (N + 10) (M + 40) (w.alloc (.cells #[.int .i64 k, .int .i64 n, .string s, .slice A f.len cap] 30)) e w' → DrR rb (N + 10) (M + 40) w e w' := fun e w' h => h.up (.of_below hb0 _)
  have HQ := Lib.hid (DqI.start (hr.below hb0))
  have hz : (w.alloc (.cells #[.int .i64 k, .int .i64 n, .string s, .slice A f.len cap] 30)).heap.size = w.heap.size + 1 := by simp
  have hb1 : Below (w.alloc (.cells #[.int .i64 k, .int .i64 n, .string s, .slice A f.len cap] 30)).heap.size (w.alloc (.cells #[.int .i64 k, .int .i64 n, .string s, .slice A f.len cap] 30)) ((w.alloc (.cells #[.int .i64 k, .int .i64 n, .string s, .slice A f.len cap] 30)).alloc (.cells #[.int .i64 0, .int .i64 0, .string ⟨#[]⟩, .slice none 0 0] 30)) := (Below.refl _ _).alloc (Nat.le_refl _) _
  have C1 := cpP_any s f k n A cap lo hi _ ((hk.below hb0 hh).below hb1 (Nat.le_trans hh hb0.size)) (Nat.le_trans hh (Nat.le_trans hb0.size hb1.size)) (by omega)
  have HUP := Lib.hid hup
  have HC1 := Lib.hid C1
  have HF := Lib.hid hf
  have HM := Lib.hid hM
  obtain ⟨y0, y1, y2, y3⟩ := cells4i (hq0.below hb1 hq0.lt)
  clear hr hk hh hf hM hb0 hq0 hup hb1 C1
  obtain ⟨i0, hi0, hz0, hz1, hz2⟩ := info_parts infoTd
  go_enter Tryz.func40, Tryz.ntmps40
  go_wp2_with fail
  generalize w.alloc (.cells #[.int .i64 k, .int .i64 n, .string s, .slice A f.len cap] 30) = w0 at *
  refine HC1.out.mono ?_
  rintro e w1 ⟨v, rfl, hrow, hb⟩
  obtain ⟨A1, c1, rfl⟩ := hrow.form
  have HQ1 := Lib.hid (HQ.out.below hb)
  have hx0 := hrow.x (H := w1.heap.size) (Nat.le_refl _)
  have hb5 := (Below.refl w1.heap.size w1).alloc (Nat.le_refl _) (.cells #[.int .i64 k, .int .i64 n, .string s, .slice A1 f.len c1] 30)
  have HX := Lib.hid (hx0.below hb5)
  have HT := Lib.hid (Blk.new w1 30 #[.int .i64 k, .int .i64 n, .string s, .slice A1 f.len c1])
  have HQ2 := Lib.hid (HQ1.out.below hb5)
  have hbase : w0.heap.size < (w0.alloc (.cells #[.int .i64 0, .int .i64 0, .string ⟨#[]⟩, .slice none 0 0] 30)).heap.size := by simp
  have hHb : (w0.alloc (.cells #[.int .i64 0, .int .i64 0, .string ⟨#[]⟩, .slice none 0 0] 30)).heap.size ≤ w1.heap.size := hb.size
  clear hrow hb hx0 hb5 HC1 HQ HQ1 y0 y1 y2 y3
  generalize (w0.alloc (.cells #[.int .i64 0, .int .i64 0, .string ⟨#[]⟩, .slice none 0 0] 30)).heap.size = base at *
  go_wp2_with fail
  generalize w1.alloc (.cells #[.int .i64 k, .int .i64 n, .string s, .slice A1 f.len c1] 30) = w2 at *
  generalize w1.heap.size = H at *
  have hrb := HQ2.out.2.2.2
  rw [← hz]
  clear hz
  refine (pick_any rb _ 50 _ HQ2.out.1 (by omega) (by omega) (by omega)).mono ?_
  rintro e w3 ⟨c, rfl, hc0, hc1, hr, hw⟩
  have HQ3 := Lib.hid (HQ2.out.step hr hw)
  have HT3 := Lib.hid (hw.blk HT.out (by simp; omega))
  have HX3 := Lib.hid (HX.out.wrote (rb := rb) (by omega) hw)
  clear hr hw HQ2 HT HX hc0 hc1
  by_cases z0 : c = 0
  · subst z0
    have hb := (Below.refl w3.heap.size w3).alloc (Nat.le_refl _) (.cells #[.int .i64 0, .int .i64 4, .int .i64 1, .int .i64 2, .int .i64 3] 3)
    have HQ4 := Lib.hid (HQ3.out.below hb)
    have HT4 := Lib.hid (HT3.out.below hb HT3.out.lt)
    have HX4 := Lib.hid (HX3.out.below hb)
    have HI : Hid (IntsAt (w3.alloc (.cells #[.int .i64 0, .int .i64 4, .int .i64 1, .int .i64 2, .int .i64 3] 3)) (rb + 1) (some ⟨w3.heap.size, 0, none⟩) [0, 4, 1, 2, 3]) := Lib.hid ⟨w3.heap.size, rfl, HQ3.out.1.lt, by simp, fun i z h => by
      rw [(Blk.new w3 _ _).cell i]
      match i, h with
        | 0, h => cases h; rfl
        | 1, h => cases h; rfl
        | 2, h => cases h; rfl
        | 3, h => cases h; rfl
        | 4, h => cases h; rfl⟩
    clear hb HQ3 HT3 HX3
    go_wp2_with fail
    refine (num_any rb _ [0, 4, 1, 2, 3] _ 5 _ HQ4.out.1 (by omega) HI.out (by decide) (by decide)).mono ?_
    rintro e w5 ⟨z, rfl, hz, hr, hw⟩
    have hzb : -1000 ≤ z ∧ z ≤ 1000 := by simp at hz; omega
    have hq5 := HQ4.out.step hr hw
    have ht5 := hw.blk HT4.out (by simp; omega)
    have hx5 := HX4.out.wrote (rb := rb) (by omega) hw
    have HQ5 := Lib.hid (hq5.set_ (p := ⟨H, 0, none⟩) (by show w0.heap.size < H; omega) (.int .i64 z))
    have HT5 : Hid (Blk (w5.setCell ⟨H, 0, none⟩ (.int .i64 z)) H 30 #[.int .i64 z, .int .i64 n, .string s, .slice A1 f.len c1]) := Lib.hid (by have h := ht5.set_ 0 (.int .i64 z); simpa using h)
    have HX5 := Lib.hid (hx5.set_ (p := ⟨H, 0, none⟩) rfl (.int .i64 z))
    have cc0 := ht5.cell 0
    have g0 := ht5.frozen 0
    simp only [List.getElem?_toArray, List.getElem?_cons_zero] at cc0
    have HFF : Hid (Fits z n s) := Lib.hid ⟨by omega, HF.out.2.1, HF.out.2.2⟩
    clear hr hw hz hq5 ht5 hx5 HQ4 HT4 HX4 HI
    have HO := Lib.hid (HX5.out.own (lo := w0.heap.size) hbase)
    obtain ⟨x0, x1, x2, x3⟩ := cells4i HT5.out
    obtain ⟨d0, d1, d2, d3⟩ := cells4i HQ5.out.2.2.1
    obtain ⟨f0, f1, f2, f3⟩ := frozen4 HQ5.out.2.2.1
    go_wp2_with fail
    refine bodyPost_ret (v := .agg #[.int .i64 z, .int .i64 n, .string s, .slice A1 f.len c1]) ?_ rfl (HUP.out _ _ (HQ5.out.ret HFF.out (by obtain ⟨L, h1, h2, h3⟩ := HO.out; exact ⟨L, h1, h2, fun x hx => (h3 x hx).1⟩) (by have := HM.out; omega) (by omega) _ _ _ _))
    exact results_cell_row Tryz.results40 _ _ w0.heap.size _ _ _ _ rfl (set4 HQ5.out.2.2.1 _ _ _ _) Tryz.underlying30 rfl (by kernel_rfl)
  have t0 : (c == 0) = false := by rw [beq_eq_false_iff_ne]; exact z0
  by_cases z1 : c = 1
  · subst z1
    have hb := (Below.refl w3.heap.size w3).alloc (Nat.le_refl _) (.cells #[.int .i64 26, .int .i64 1000, .int .i64 (-1000), .int .i64 (-1), .int .i64 1] 3)
    have HQ4 := Lib.hid (HQ3.out.below hb)
    have HT4 := Lib.hid (HT3.out.below hb HT3.out.lt)
    have HX4 := Lib.hid (HX3.out.below hb)
    have HI : Hid (IntsAt (w3.alloc (.cells #[.int .i64 26, .int .i64 1000, .int .i64 (-1000), .int .i64 (-1), .int .i64 1] 3)) (rb + 1) (some ⟨w3.heap.size, 0, none⟩) [26, 1000, -1000, -1, 1]) := Lib.hid ⟨w3.heap.size, rfl, HQ3.out.1.lt, by simp, fun i z h => by
      rw [(Blk.new w3 _ _).cell i]
      match i, h with
        | 0, h => cases h; rfl
        | 1, h => cases h; rfl
        | 2, h => cases h; rfl
        | 3, h => cases h; rfl
        | 4, h => cases h; rfl⟩
    clear hb HQ3 HT3 HX3
    go_wp2_with fail
    refine (num_any rb _ [26, 1000, -1000, -1, 1] _ 5 _ HQ4.out.1 (by omega) HI.out (by decide) (by decide)).mono ?_
    rintro e w5 ⟨z, rfl, hz, hr, hw⟩
    have hzb : -1000 ≤ z ∧ z ≤ 1000 := by simp at hz; omega
    have hq5 := HQ4.out.step hr hw
    have ht5 := hw.blk HT4.out (by simp; omega)
    have hx5 := HX4.out.wrote (rb := rb) (by omega) hw
    have HQ5 := Lib.hid (hq5.set_ (p := ⟨H, 1, none⟩) (by show w0.heap.size < H; omega) (.int .i64 z))
    have HT5 : Hid (Blk (w5.setCell ⟨H, 1, none⟩ (.int .i64 z)) H 30 #[.int .i64 k, .int .i64 z, .string s, .slice A1 f.len c1]) := Lib.hid (by have h := ht5.set_ 1 (.int .i64 z); simpa using h)
    have HX5 := Lib.hid (hx5.set_ (p := ⟨H, 1, none⟩) rfl (.int .i64 z))
    have cc1 := ht5.cell 1
    have g1 := ht5.frozen 1
    simp only [List.getElem?_toArray, List.getElem?_cons_zero, List.getElem?_cons_succ] at cc1
    have HFF : Hid (Fits k z s) := Lib.hid ⟨HF.out.1, by omega, HF.out.2.2⟩
    clear hr hw hz hq5 ht5 hx5 HQ4 HT4 HX4 HI
    have HO := Lib.hid (HX5.out.own (lo := w0.heap.size) hbase)
    obtain ⟨x0, x1, x2, x3⟩ := cells4i HT5.out
    obtain ⟨d0, d1, d2, d3⟩ := cells4i HQ5.out.2.2.1
    obtain ⟨f0, f1, f2, f3⟩ := frozen4 HQ5.out.2.2.1
    go_wp2_with fail
    refine bodyPost_ret (v := .agg #[.int .i64 k, .int .i64 z, .string s, .slice A1 f.len c1]) ?_ rfl (HUP.out _ _ (HQ5.out.ret HFF.out (by obtain ⟨L, h1, h2, h3⟩ := HO.out; exact ⟨L, h1, h2, fun x hx => (h3 x hx).1⟩) (by have := HM.out; omega) (by omega) _ _ _ _))
    exact results_cell_row Tryz.results40 _ _ w0.heap.size _ _ _ _ rfl (set4 HQ5.out.2.2.1 _ _ _ _) Tryz.underlying30 rfl (by kernel_rfl)
  have t1 : (c == 1) = false := by rw [beq_eq_false_iff_ne]; exact z1
  by_cases z2 : c = 2
  · subst z2
    have hb := (Below.refl w3.heap.size w3).alloc (Nat.le_refl _) (.cells #[.string ⟨#[]⟩, .string ⟨#[88]⟩, .string ⟨#[116, 111, 111, 108, 111, 110, 103]⟩, .string ⟨#[195, 169]⟩, .string ⟨#[97]⟩] 9)
    have HQ4 := Lib.hid (HQ3.out.below hb)
    have HT4 := Lib.hid (HT3.out.below hb HT3.out.lt)
    have HX4 := Lib.hid (HX3.out.below hb)
    have HI : Hid (StrsAt (w3.alloc (.cells #[.string ⟨#[]⟩, .string ⟨#[88]⟩, .string ⟨#[116, 111, 111, 108, 111, 110, 103]⟩, .string ⟨#[195, 169]⟩, .string ⟨#[97]⟩] 9)) (rb + 1) (some ⟨w3.heap.size, 0, none⟩) [⟨#[]⟩, ⟨#[88]⟩, ⟨#[116, 111, 111, 108, 111, 110, 103]⟩, ⟨#[195, 169]⟩, ⟨#[97]⟩]) := Lib.hid ⟨w3.heap.size, rfl, HQ3.out.1.lt, by simp, fun i z h => by
      rw [(Blk.new w3 _ _).cell i]
      match i, h with
        | 0, h => cases h; rfl
        | 1, h => cases h; rfl
        | 2, h => cases h; rfl
        | 3, h => cases h; rfl
        | 4, h => cases h; rfl⟩
    clear hb HQ3 HT3 HX3
    go_wp2_with fail
    refine (of_any rb _ [⟨#[]⟩, ⟨#[88]⟩, ⟨#[116, 111, 111, 108, 111, 110, 103]⟩, ⟨#[195, 169]⟩, ⟨#[97]⟩] _ 5 _ HQ4.out.1 (by omega) HI.out (by decide) (by decide)).mono ?_
    rintro e w5 ⟨z, rfl, hz, hr, hw⟩
    have hq5 := HQ4.out.step hr hw
    have ht5 := hw.blk HT4.out (by simp; omega)
    have hx5 := HX4.out.wrote (rb := rb) (by omega) hw
    have HQ5 := Lib.hid (hq5.set_ (p := ⟨H, 2, none⟩) (by show w0.heap.size < H; omega) (.string z))
    have HT5 : Hid (Blk (w5.setCell ⟨H, 2, none⟩ (.string z)) H 30 #[.int .i64 k, .int .i64 n, .string z, .slice A1 f.len c1]) := Lib.hid (by have h := ht5.set_ 2 (.string z); simpa using h)
    have HX5 := Lib.hid (hx5.set_ (p := ⟨H, 2, none⟩) rfl (.string z))
    have cc2 := ht5.cell 2
    have g2 := ht5.frozen 2
    simp only [List.getElem?_toArray, List.getElem?_cons_zero, List.getElem?_cons_succ] at cc2
    have HFF : Hid (Fits k n z) := Lib.hid ⟨HF.out.1, HF.out.2.1, names5 z hz⟩
    clear hr hw hz hq5 ht5 hx5 HQ4 HT4 HX4 HI
    have HO := Lib.hid (HX5.out.own (lo := w0.heap.size) hbase)
    obtain ⟨x0, x1, x2, x3⟩ := cells4i HT5.out
    obtain ⟨d0, d1, d2, d3⟩ := cells4i HQ5.out.2.2.1
    obtain ⟨f0, f1, f2, f3⟩ := frozen4 HQ5.out.2.2.1
    go_wp2_with fail
    refine bodyPost_ret (v := .agg #[.int .i64 k, .int .i64 n, .string z, .slice A1 f.len c1]) ?_ rfl (HUP.out _ _ (HQ5.out.ret HFF.out (by obtain ⟨L, h1, h2, h3⟩ := HO.out; exact ⟨L, h1, h2, fun x hx => (h3 x hx).1⟩) (by have := HM.out; omega) (by omega) _ _ _ _))
    exact results_cell_row Tryz.results40 _ _ w0.heap.size _ _ _ _ rfl (set4 HQ5.out.2.2.1 _ _ _ _) Tryz.underlying30 rfl (by kernel_rfl)
  have t2 : (c == 2) = false := by rw [beq_eq_false_iff_ne]; exact z2
  by_cases z3 : c = 3
  · subst z3
    have HFF := HF
    have HST : Hid (nodes f + 5 ≤ M + 5) := Lib.hid (by have := HM.out; omega)
    go_wp2_with fail
    go_loopg [31] 5 (fun g _ wr => ∃ (v : Value) (F : Fr), 5 ≤ F.len + g ∧ nodes F + g ≤ M + 5 ∧ DqI w0 rb (N + 1) wr ∧ Blk wr H 30 #[.int .i64 k, .int .i64 n, .string s, v] ∧ RowX base H v F wr)
    case atStart => exact ⟨_, f, by omega, HST.out, HQ3.out, HT3.out, HX3.out⟩
    case round =>
      obtain ⟨v, F, h1, h2, hq, ht, hx⟩ := hrel
      obtain ⟨A3, c3, rfl⟩ := hx.p.form
      by_cases hl : F.len ≤ 4
      · obtain ⟨xs, L, hown, hDs, hN', hL, hv⟩ := hx
        have hvl := hown.lt
        have hbs : base ≤ wr.heap.size := by have := ht.lt; omega
        have hHl := ht.lt
        have x3 : wr.cell? ⟨H, 3, none⟩ = some (.slice A3 F.len c3) := ht.cell 3
        have xf := ht.frozen 3
        have STEP := fun (w1 w2 w4 : World) (g cap4 : Nat) hm hr1 hb2 hg ho hat => dr_step (w1 := w1) (w2 := w2) (w4 := w4) (k := 2) (n := 1) (s' := ⟨#[]⟩) (kids := .nil) (A := none) (cap := 0) (cap4 := cap4) (g := g) (U2 := N + 1) hq ht hbase hbs hHb hDs hN' hL hv hvl ⟨by omega, by omega, Nat.zero_le _⟩ hm hr1 hb2 hg ho hat
        have hne : some H ≠ (Value.slice A3 F.len c3).ownBlock := fun e => (hv _ e.symm).2 rfl
        have keep : ∀ w2, Below wr.heap.size wr w2 → w2.ownsRow base 30 4 (.slice A3 F.len c3) F.len xs := fun w2 hb2 =>
          hown.kept (row := none) ⟨hb2.os, hb2.tape, hb2.output, hb2.size, fun k hk _ => hb2.block k hk⟩ (by
            cases h : (Value.slice A3 F.len c3).ownBlock with
            | none => exact .inl rfl
            | some g => exact .inr (by simp))
        have HSTEP := Lib.hid STEP
        have HNE := Lib.hid hne
        have HKEEP := Lib.hid keep
        have HTT := Lib.hid ht
        have HRD := Lib.hid hq.1
        have hl' : (F.len : Int) ≤ 4 := by omega
        clear STEP hne keep hown hDs hN' hL hv hvl hq ht HQ3 HT3 HX3
        generalize hfl2 : F.len = fl at *
        have HFL := Lib.hid hfl2
        clear hfl2
        go_wp2_with fail
        go_region_law (first
          | (refine step_append_lies _ (by rfl) _ _ _ (by rfl) base 30 i0 _ 4 56 Tryz.underlying28 hi0 hz0 hz1 hz2 rfl (by omega) (.slice A3 fl c3) fl xs (by rfl) (HO2.out.alloc _)
               ⟨w5.heap.size, 0, none⟩ 1 1 [.int .i64 2, .int .i64 1, .string ⟨#[]⟩, .slice none 0 0] (by rfl) (by rfl) (World.news_of_block (cs := #[.int .i64 2, .int .i64 1, .string ⟨#[]⟩, .slice none 0 0]) (fr := (0, 0)) (heap_alloc_new w5 _)) (by simp [Value.oneCell'])
               (by omega) (by unfold maxLen; omega) (by omega) (by simp; omega) (w5.heap.size + 1) (by simp) ?_
             intro g cap4 w4 hown4 hgrow hat hlt4
             have q4 := (HT2.out.alloc (.cells #[.int .i64 2, .int .i64 1, .string ⟨#[]⟩, .slice none 0 0] 30)).keep (hgrow.block _ (by simp; omega) HNE.out)
             have z3 := q4.cell 3
             have zf := q4.frozen 3
             simp only [List.getElem?_toArray, List.getElem?_cons_zero, List.getElem?_cons_succ] at z3
             clear q4
             have HOWN4 := Lib.hid hown4
             have HGROW := Lib.hid hgrow
             have HAT := Lib.hid hat
             clear hown4 hgrow hat)
          | (go_simp
             go_at_call 58
             refine (int_any _ _).mono ?_
             rintro e w5 ⟨rfl, hb5⟩
             have hd2 : Below wr.heap.size wr w5 := (Below.refl wr.heap.size wr).drew.trans hb5
             have hs2 := hd2.size
             have ht2 := HTT.out.below hd2 HTT.out.lt
             have y3 := ht2.cell 3
             have y4 := (ht2.alloc (.cells #[.int .i64 2, .int .i64 1, .string ⟨#[]⟩, .slice none 0 0] 30)).cell 3
             simp only [List.getElem?_toArray, List.getElem?_cons_zero, List.getElem?_cons_succ] at y3 y4
             have HO2 := Lib.hid (HKEEP.out w5 hd2)
             have HT2 := Lib.hid ht2
             have HD2 := Lib.hid hd2
             clear hb5 hd2 ht2))
        all_goals
          have hs := HSTEP.out w5 _ w4 g cap4 ⟨[], ⟨Nat.zero_le _, Nat.zero_le _, .inl ⟨rfl, rfl⟩⟩, List.nodup_nil, fun x hx => by simp at hx, .of_below HD2.out _⟩ (HRD.out.below HD2.out) ((Below.refl _ _).alloc (Nat.le_refl _) _) HGROW.out HOWN4.out (by simpa using HAT.out)
          have HS := Lib.hid hs
          clear hs
          go_wp2_with fail
          go_roundg (gk - 1)
          case measure => omega
          case rel => exact ⟨_, F.app (.cons 2 1 ⟨#[]⟩ .nil .nil), by rw [Fr.len_app, HFL.out]; simp only [Fr.len]; omega, by rw [nodes_app]; simp only [nodes]; omega, HS.out.1, HS.out.2.1, HS.out.2.2⟩
      · have HQ4 := Lib.hid hq
        have HT4 := Lib.hid ht
        have HX4 := Lib.hid hx
        have HNF : Hid (nodes F ≤ M + 40) := Lib.hid (by omega)
        have hl' : ¬ (F.len : Int) ≤ 4 := by omega
        clear hq ht hx h1 h2 HQ3 HT3 HX3
        have HO := Lib.hid (HX4.out.own (lo := w0.heap.size) hbase)
        obtain ⟨x0, x1, x2, x3⟩ := cells4i HT4.out
        obtain ⟨d0, d1, d2, d3⟩ := cells4i HQ4.out.2.2.1
        obtain ⟨f0, f1, f2, f3⟩ := frozen4 HQ4.out.2.2.1
        go_wp2_with fail
        refine bodyPost_ret (v := .agg #[.int .i64 k, .int .i64 n, .string s, .slice A3 F.len c3]) ?_ rfl (HUP.out _ _ (HQ4.out.ret HFF.out (by obtain ⟨L, h1, h2, h3⟩ := HO.out; exact ⟨L, h1, h2, fun x hx => (h3 x hx).1⟩) HNF.out (by omega) _ _ _ _))
        exact results_cell_row Tryz.results40 _ _ w0.heap.size _ _ _ _ rfl (set4 HQ4.out.2.2.1 _ _ _ _) Tryz.underlying30 rfl (by kernel_rfl)
  have t3 : (c == 3) = false := by rw [beq_eq_false_iff_ne]; exact z3
  by_cases z4 : c = 4
  · subst z4
    have HO3 := Lib.hid (HX3.out.own (lo := w0.heap.size) hbase)
    have HST : Hid (nodes f ≤ M + 0) := Lib.hid HM.out
    go_wp2_with fail
    go_loopw [6] (fun i wr => ∃ (j : Nat) (k' n' : Int) (s' : ByteArray) (F : Fr) (A3 : Option Addr) (c3 : Nat), j ≤ 30 ∧ i = .int .i64 j ∧ Fits k' n' s' ∧ nodes F ≤ M + j ∧ DqI w0 rb (N + 1) wr ∧ Blk wr H 30 #[.int .i64 k', .int .i64 n', .string s', .slice A3 F.len c3] ∧ OwnX wr F A3 c3 w0.heap.size H) (fun i _ => 30 - (intOf i).toNat)
    case atStart => exact ⟨0, k, n, s, f, A1, c1, by omega, rfl, HF.out, HST.out, HQ3.out, HT3.out, HO3.out⟩
    case round =>
      obtain ⟨j, k', n', s', F, A3, c3, hj, rfl, hf', hn', hq, ht, ho⟩ := hrel
      have HFF := Lib.hid hf'
      clear hf' HQ3 HT3 HX3 HO3
      by_cases hlt : j < 30
      · obtain ⟨L, ho1, ho2, ho3⟩ := ho
        have hlx := ho1.lt
        have hb1 := (Below.refl wr.heap.size wr).alloc (Nat.le_refl _) (.cells #[.int .i64 k', .int .i64 n', .string s', .slice A3 F.len c3] 30)
        have hq1 := Blk.new wr 30 #[.int .i64 k', .int .i64 n', .string s', .slice A3 F.len c3]
        have p1 := ho1.below hb1 hlx
        have HOWN : Hid (OwnS (wr.alloc (.cells #[.int .i64 k', .int .i64 n', .string s', .slice A3 F.len c3] 30)) (.cons k' n' s' F .nil) (some ⟨wr.heap.size, 0, none⟩) 1 (wr.heap.size :: (L ++ []))) :=
          Lib.hid ⟨by simp [Fr.len], by unfold maxLen; omega, .inr ⟨wr.heap.size, L ++ [], _, rfl, rfl, hq1, rfl, ⟨A3, c3, L, [], rfl, HFF.out, ⟨hq1.cell 0, hq1.cell 1, hq1.cell 2, hq1.cell 3⟩, p1.1, p1.2.1, p1.2.2, rfl⟩⟩⟩
        have HND : Hid ((wr.heap.size :: (L ++ [])).Nodup) := Lib.hid (by rw [List.append_nil]; exact List.nodup_cons.2 ⟨fun h => by have := hlx _ h; omega, ho2⟩)
        have hHl := ht.lt
        have hql := hq.2.2.1.lt
        have HLX : Hid (∀ x ∈ wr.heap.size :: (L ++ []), w0.heap.size < x ∧ x ≠ H) := Lib.hid (by
          intro x hx
          rw [List.append_nil] at hx
          rcases List.mem_cons.1 hx with rfl | hx
          · omega
          · exact ho3 x hx)
        have HQ4 := Lib.hid (hq.below hb1)
        have HT4 := Lib.hid (ht.below hb1 hHl)
        obtain ⟨x0, x1, x2, x3⟩ := cells4i ht
        clear ho1 ho2 ho3 hlx hb1 hq1 p1 hq ht
        go_wp2_with fail
        refine (structN_any ⟨#[115]⟩ (.cons k' n' s' F .nil) _ 1 _ _ HOWN.out HND.out (by simp [Fr.len])).mono ?_
        rintro e w4 ⟨A4, c4, L4, rfl, ho4, hn4, hL4, hb4, _⟩
        have hq5 := HQ4.out.below hb4
        have ht5 := HT4.out.below hb4 HT4.out.lt
        obtain ⟨d0, d1, d2, d3⟩ := cells4i ht5
        obtain ⟨f0, f1, f2, f3⟩ := frozen4 ht5
        have hlt0 : w0.heap.size < H := by omega
        have HQ6 := Lib.hid ((((hq5.set_ (p := ⟨H, 0, none⟩) hlt0 (.int .i64 3)).set_ (p := ⟨H, 1, none⟩) hlt0 (.int .i64 0)).set_ (p := ⟨H, 2, none⟩) hlt0 (.string ⟨#[115]⟩)).set_ (p := ⟨H, 3, none⟩) hlt0 (.slice A4 (Fr.cons k' n' s' F .nil).len c4))
        have HT6 := Lib.hid (set4 ht5 (.int .i64 3) (.int .i64 0) (.string ⟨#[115]⟩) (.slice A4 (Fr.cons k' n' s' F .nil).len c4))
        have hox : OwnX w4 (.cons k' n' s' F .nil) A4 c4 w0.heap.size H := ⟨L4, ho4, hn4, fun x hx => by
          rcases hL4 x hx with h | h
          · exact HLX.out x h
          · have := h.1; simp at this; omega⟩
        have HO6 := Lib.hid ((((hox.set_ (p := ⟨H, 0, none⟩) rfl (.int .i64 3)).set_ (p := ⟨H, 1, none⟩) rfl (.int .i64 0)).set_ (p := ⟨H, 2, none⟩) rfl (.string ⟨#[115]⟩)).set_ (p := ⟨H, 3, none⟩) rfl (.slice A4 (Fr.cons k' n' s' F .nil).len c4))
        clear ho4 hn4 hL4 hb4 hq5 ht5 hox HQ4 HT4 HOWN HND HLX x0 x1 x2 x3
        go_wp2_with fail
        go_roundw
        case rel => exact ⟨j + 1, 3, 0, ⟨#[115]⟩, .cons k' n' s' F .nil, A4, c4, by omega, by go_num, ⟨by omega, by omega, by unfold maxLen; decide⟩, by simp only [nodes]; omega, HQ6.out, HT6.out, HO6.out⟩
        case measure => simp [intOf]; omega
      · have HQ4 := Lib.hid hq
        have HT4 := Lib.hid ht
        have HX4 := Lib.hid ho
        have HNF : Hid (nodes F ≤ M + 40) := Lib.hid (by omega)
        have hj' : ¬ (j : Int) < 30 := by omega
        clear hq ht ho hn'
        have HO := HX4
        obtain ⟨x0, x1, x2, x3⟩ := cells4i HT4.out
        obtain ⟨d0, d1, d2, d3⟩ := cells4i HQ4.out.2.2.1
        obtain ⟨f0, f1, f2, f3⟩ := frozen4 HQ4.out.2.2.1
        go_wp2_with fail
        refine bodyPost_ret (v := .agg #[.int .i64 k', .int .i64 n', .string s', .slice A3 F.len c3]) ?_ rfl (HUP.out _ _ (HQ4.out.ret HFF.out (by obtain ⟨L, h1, h2, h3⟩ := HO.out; exact ⟨L, h1, h2, fun x hx => (h3 x hx).1⟩) HNF.out (by omega) _ _ _ _))
        exact results_cell_row Tryz.results40 _ _ w0.heap.size _ _ _ _ rfl (set4 HQ4.out.2.2.1 _ _ _ _) Tryz.underlying30 rfl (by kernel_rfl)
  have t4 : (c == 4) = false := by rw [beq_eq_false_iff_ne]; exact z4
  have HFF := HF
  have HO := Lib.hid (HX3.out.own (lo := w0.heap.size) hbase)
  obtain ⟨x0, x1, x2, x3⟩ := cells4i HT3.out
  obtain ⟨d0, d1, d2, d3⟩ := cells4i HQ3.out.2.2.1
  obtain ⟨f0, f1, f2, f3⟩ := frozen4 HQ3.out.2.2.1
  go_wp2_with fail
  refine bodyPost_ret (v := .agg #[.int .i64 k, .int .i64 n, .string s, .slice A1 f.len c1]) ?_ rfl (HUP.out _ _ (HQ3.out.ret HFF.out (by obtain ⟨L, h1, h2, h3⟩ := HO.out; exact ⟨L, h1, h2, fun x hx => (h3 x hx).1⟩) (by have := HM.out; omega) (by omega) _ _ _ _))
  exact results_cell_row Tryz.results40 _ _ w0.heap.size _ _ _ _ rfl (set4 HQ3.out.2.2.1 _ _ _ _) Tryz.underlying30 rfl (by kernel_rfl)
end Go.Proofs.YtihmgodiiohdnaaGreatDoor

/- spec.l4Mutate's state: a clause in a block that is written, its body a row by append. No condition. -/
namespace Go.Proofs.YtihmgodiiohdnaaGreatDoor
open Go.RowKit

/-- The head's arguments and the body, elsewhere than block G, from base on. -/
def BodyX (w : World) (base G : Nat) (f : Fr) (A : Option Addr) (cap : Nat) (v : Value) (F : Fr) : Prop :=
  ∃ xs L L1, OwnS w f A cap L1 ∧ w.ownsRow base 30 4 v F.len xs ∧ Desc w F xs L ∧ (L1 ++ L).Nodup ∧ (∀ x ∈ L1 ++ L, base ≤ x ∧ x < w.heap.size ∧ x ≠ G) ∧ (∀ g, v.ownBlock = some g → g ∉ L1 ++ L ∧ g ≠ G)
section
variable {w w' : World} {base G rb : Nat} {v : Value} {f F : Fr} {A : Option Addr} {cap : Nat}
theorem BodyX.keep (h : BodyX w base G f A cap v F) (hk : ∀ x, base ≤ x → x < w.heap.size → x ≠ G → w'.heap[x]? = w.heap[x]?) (hs : w.heap.size ≤ w'.heap.size) : BodyX w' base G f A cap v F := by
  obtain ⟨xs, L, L1, ho1, ho, hd, hn, hL, hv⟩ := h
  have hlt := ho.lt
  have hkk : ∀ x ∈ L1 ++ L, w'.heap[x]? = w.heap[x]? := fun x hx => hk x (hL x hx).1 (hL x hx).2.1 (hL x hx).2.2
  refine ⟨xs, L, L1, ho1.keep fun x hx => hkk x (by simp [hx]), ⟨ho.1, ?_⟩, hd.keep F xs L fun x hx => hkk x (by simp [hx]), hn, fun x hx => ⟨(hL x hx).1, Nat.lt_of_lt_of_le (hL x hx).2.1 hs, (hL x hx).2.2⟩, hv⟩
  rcases ho.2 with h | ⟨g, cap, cur, rfl, hg, hh, hr'⟩
  · exact .inl h
  · exact .inr ⟨g, cap, cur, rfl, hg, (hk g hg (hlt g rfl).2 (hv g rfl).2).trans hh, hr'⟩
theorem BodyX.of {L1 : List Nat} {G0 : Nat} (ho : OwnS w f A cap L1) (hn : L1.Nodup) (h1 : ∀ x ∈ L1, base ≤ x ∧ x < G0) (hr : RowP (G0 + 1) v F w) (hG0 : base ≤ G0) (hG : w.heap.size ≤ G) (hb : Below w.heap.size w w') : BodyX w' base G f A cap v F := by
  refine BodyX.keep (w := w) ?_ (fun x _ hx _ => hb.block x hx) hb.size
  obtain ⟨xs, L, hr, hd, hnn, hL, hv⟩ := hr
  have hlt := hr.lt
  have h1l := ho.lt
  refine ⟨xs, L, L1, ho, ⟨hr.1, ?_⟩, hd, List.nodup_append.2 ⟨hn, hnn, fun a ha b hb e => by have := (h1 a ha).2; have := (hL b hb).1; omega⟩, fun x hx => ?_, fun g hg => ⟨fun hx => ?_, by have := (hlt g hg).2; omega⟩⟩
  · rcases hr.2 with h | ⟨g, cap, cur, rfl, hg, hh⟩
    · exact .inl h
    · exact .inr ⟨g, cap, cur, rfl, by omega, hh⟩
  · rcases List.mem_append.1 hx with hx | hx
    · have := h1 x hx; have := h1l x hx; omega
    · have := hL x hx; omega
  · rcases List.mem_append.1 hx with hx | hx
    · have := (h1 g hx).2; have := (hlt g hg).1; omega
    · exact hv g hg hx
/-- The head is another one. -/
theorem BodyX.head {f' : Fr} {A' : Option Addr} {cap' : Nat} (h : BodyX w base G f A cap v F) (hr : rb < base) (hG : G < w.heap.size) (hb : base ≤ w.heap.size) (hm : MadeW rb w f' A' cap' w') : BodyX w' base G f' A' cap' v F := by
  obtain ⟨xs, L, L1, ho1, ho, hd, hn, hL, hv⟩ := h
  obtain ⟨L2, o2, n2, l2, hw⟩ := hm
  have hlt := ho.lt
  have hkk : ∀ x, base ≤ x → x < w.heap.size → w'.heap[x]? = w.heap[x]? := fun x h1 h2 => hw.block x h2 (by simp; omega)
  have hL2 : ∀ x ∈ L, base ≤ x ∧ x < w.heap.size ∧ x ≠ G := fun x hx => hL x (by simp [hx])
  refine ⟨xs, L, L2, o2, ⟨ho.1, ?_⟩, hd.keep F xs L fun x hx => hkk x (hL2 x hx).1 (hL2 x hx).2.1, List.nodup_append.2 ⟨n2, (List.nodup_append.1 hn).2.1, fun a ha b hb' e => by have := (l2 a ha).1; have := (hL2 b hb').2.1; omega⟩, fun x hx => ?_, fun g hg => ⟨fun hx => ?_, (hv g hg).2⟩⟩
  · rcases ho.2 with h | ⟨g, cap, cur, rfl, hg, hh, hr'⟩
    · exact .inl h
    · exact .inr ⟨g, cap, cur, rfl, hg, (hkk g hg (hlt g rfl).2).trans hh, hr'⟩
  · have hs := hw.size
    rcases List.mem_append.1 hx with hx | hx
    · have := l2 x hx; omega
    · have := hL2 x hx; omega
  · rcases List.mem_append.1 hx with hx | hx
    · have := (l2 g hx).1; have := (hlt g hg).2; omega
    · exact (hv g hg).1 (by simp [hx])
/-- One goal more. -/
theorem BodyX.push {w1 w2 w3 : World} {xs : List Value} {L L1 : List Nat} {k n : Int} {s : ByteArray} {kids : Fr} {A1 : Option Addr} {cap1 cap' g : Nat} (hr : rb < base) (ho1 : OwnS w f A cap L1)
    (hD : Desc w F xs L) (hN : (L1 ++ L).Nodup) (hL : ∀ x ∈ L1 ++ L, base ≤ x ∧ x < w.heap.size ∧ x ≠ G) (hv : ∀ g, v.ownBlock = some g → g ∉ L1 ++ L ∧ g ≠ G) (hvl : ∀ g, v.ownBlock = some g → g < w.heap.size) (hbase : base ≤ w.heap.size) (hG : G < w.heap.size)
    (hf : Fits k n s) (hm : MadeW rb w kids A1 cap1 w1) (hb2 : Below w1.heap.size w1 w2) (hg : w2.grownBy w3 v.ownBlock)
    (ho : w3.ownsRow base 30 4 (.slice (some ⟨g, 0, none⟩) (F.len + 1) cap') (F.len + 1) (xs ++ [.int .i64 k, .int .i64 n, .string s, .slice A1 kids.len cap1])) (hat : v.ownBlock = some g ∨ g = w2.heap.size) :
    BodyX w3 base G f A cap (.slice (some ⟨g, 0, none⟩) (F.len + 1) cap') (F.app (.cons k n s kids .nil)) := by
  obtain ⟨L', how, hn', hL', hb1⟩ := hm
  have h12 : w.heap.size ≤ w2.heap.size := Nat.le_trans hb1.size hb2.size
  have far : ∀ x, x < w1.heap.size → (∀ g, v.ownBlock = some g → x ≠ g) → w3.heap[x]? = w1.heap[x]? := fun x hx hne =>
    (hg.block x (Nat.lt_of_lt_of_le hx hb2.size) fun e => hne x e.symm rfl).trans (hb2.block x hx)
  have hfar : ∀ x ∈ L1 ++ L, w3.heap[x]? = w.heap[x]? := fun x hx => by
    rw [far x (Nat.lt_of_lt_of_le (hL x hx).2.1 hb1.size) fun g hg e => (hv g hg).1 (e ▸ hx)]
    exact hb1.block x (hL x hx).2.1 (by simp; have := (hL x hx).1; omega)
  have hlen : (F.app (.cons k n s kids .nil)).len = F.len + 1 := by rw [Fr.len_app]; rfl
  have hdj : ∀ a ∈ L1 ++ L, ∀ b ∈ L', a ≠ b := fun a ha b hb e => by have := (hL a ha).2.1; have := (hL' b hb).1; omega
  refine ⟨_, L ++ L', L1, ho1.keep fun x hx => hfar x (by simp [hx]), by rw [hlen]; exact ho, Desc.snoc F hf (how.keep fun x hx => far x (hL' x hx).2 fun g hg e => ?_) xs L (hD.keep F xs L fun x hx => hfar x (by simp [hx])), by rw [← List.append_assoc]; exact List.nodup_append.2 ⟨hN, hn', hdj⟩, fun x hx => ?_, fun g' hg' => ?_⟩
  · have := hvl g hg; have := (hL' x hx).1; omega
  · have hs3 := hg.size
    have := hb2.size
    rw [← List.append_assoc] at hx
    rcases List.mem_append.1 hx with hx | hx
    · have := hL x hx; omega
    · have := hL' x hx; omega
  · have e : g = g' := by simpa [Value.ownBlock] using hg'
    subst e
    have := hb2.size
    rw [← List.append_assoc]
    rcases hat with h | rfl
    · refine ⟨fun hx => ?_, (hv g h).2⟩
      rcases List.mem_append.1 hx with hx | hx
      · exact (hv g h).1 hx
      · have := hvl g h; have := (hL' g hx).1; omega
    · refine ⟨fun hx => ?_, by omega⟩
      rcases List.mem_append.1 hx with hx | hx
      · have := (hL _ hx).2.1; omega
      · have := (hL' _ hx).2; omega
theorem BodyX.form (h : BodyX w base G f A cap v F) : ∃ B capB, v = .slice B F.len capB := by
  obtain ⟨xs, L, L1, ho1, ho, hd, hn, hL, hv⟩ := h
  rcases ho.2 with ⟨rfl, h0⟩ | ⟨g, cap, cur, rfl, _⟩
  · exact ⟨none, 0, by rw [h0]⟩
  · exact ⟨_, cap, rfl⟩
theorem BodyX.own {B : Option Addr} {capB : Nat} (h : BodyX w base G f A cap (.slice B F.len capB) F) : ∃ L1 L2, OwnS w f A cap L1 ∧ OwnS w F B capB L2 ∧ (L1 ++ L2).Nodup ∧ ∀ x ∈ L1 ++ L2, base ≤ x ∧ x < w.heap.size ∧ x ≠ G := by
  obtain ⟨xs, L, L1, ho1, ho, hd, hn, hL, hv⟩ := h
  have hlt := ho.lt
  rcases ho.2 with ⟨h0, h1⟩ | ⟨g, cap', cur, h0, hbg, hg, hnc, hcm, hcs, htake⟩
  · injection h0 with h0 h2 h3
    subst h0 h3
    exact ⟨L1, [], ho1, ⟨by omega, Nat.zero_le _, .inl ⟨h1, rfl⟩⟩, by rw [List.append_nil]; exact (List.nodup_append.1 hn).1, fun x hx => hL x (by rw [List.append_nil] at hx; simp [hx])⟩
  · injection h0 with h0 h2 h3
    subst h0 h3
    refine ⟨L1, g :: L, ho1, ⟨hnc, hcm, .inr ⟨g, L, cur, rfl, rfl, hg, hcs, hd.own F xs L 0 fun j u hu => ?_⟩⟩, ?_, fun x hx => ?_⟩
    · have h3 := (World.ownsRow.cells ho (g := g) rfl) j u hu
      have e : (⟨g, 0, none⟩ : Addr).add j = ⟨g, 0 + j, none⟩ := by unfold Addr.add; split <;> simp_all
      rwa [e] at h3
    · have hv2 := (hv g rfl).1
      obtain ⟨n1, n2, n3⟩ := List.nodup_append.1 hn
      refine List.nodup_append.2 ⟨n1, List.nodup_cons.2 ⟨fun hx => hv2 (by simp [hx]), n2⟩, fun a ha b hb e => ?_⟩
      rcases List.mem_cons.1 hb with rfl | hb
      · exact hv2 (by rw [← e]; simp [ha])
      · exact n3 a ha b hb e
    · rcases List.mem_append.1 hx with hx | hx
      · exact hL x (by simp [hx])
      · rcases List.mem_cons.1 hx with rfl | hx
        · exact ⟨hbg, (hlt x rfl).2, (hv x rfl).2⟩
        · exact hL x (by simp [hx])
end
/-- l4Mutate's state behind N draws. -/
def MmQ (w0 : World) (rb N G : Nat) (f : Fr) (A : Option Addr) (cap : Nat) (v : Value) (F : Fr) (wr : World) : Prop :=
  Rd wr rb N ∧ Wrote [rb] w0 wr ∧ Blk wr (w0.heap.size + 1) 32 #[.int .i64 0, .int .i64 0, .string ⟨#[]⟩, .slice none 0 0, .slice none 0 0] ∧ BodyX wr (w0.heap.size + 2) G f A cap v F ∧ rb < w0.heap.size ∧ w0.heap.size + 2 ≤ G ∧ G < wr.heap.size
section
variable {w0 wr w2 : World} {rb N N2 G : Nat} {f : Fr} {A : Option Addr} {cap : Nat} {v : Value} {F : Fr}
theorem MmQ.step (h : MmQ w0 rb N G f A cap v F wr) (hr : Rd w2 rb N2) (hw : Wrote [rb] wr w2) : MmQ w0 rb N2 G f A cap v F w2 := by
  obtain ⟨_, h2, h3, h4, h5, h6, h7⟩ := h
  exact ⟨hr, h2.trans hw, hw.blk h3 (by simp; omega), h4.keep (fun x hx hl _ => hw.block x hl (by simp; omega)) hw.size, h5, h6, Nat.lt_of_lt_of_le h7 hw.size⟩
theorem MmQ.below (h : MmQ w0 rb N G f A cap v F wr) (hb : Below wr.heap.size wr w2) : MmQ w0 rb N G f A cap v F w2 := h.step (h.1.below hb) (.of_below hb _)
theorem MmQ.setG (h : MmQ w0 rb N G f A cap v F wr) (i : Nat) (u : Value) : MmQ w0 rb N G f A cap v F (wr.setCell ⟨G, i, none⟩ u) := by
  obtain ⟨h1, h2, h3, h4, h5, h6, h7⟩ := h
  exact ⟨h1.set_ (by show rb < G; omega) u, h2.set_ (.inr (by show w0.heap.size ≤ G; omega)) u, h3.far (by show w0.heap.size + 1 ≠ G; omega) u, h4.keep (fun x _ _ hn => heap_setCell_other wr _ x u hn) (by simp [World.setCell]), h5, h6, by simpa [World.setCell] using h7⟩
theorem MmQ.head {f' : Fr} {A' : Option Addr} {cap' : Nat} (h : MmQ w0 rb N G f A cap v F wr) (hm : MadeW rb wr f' A' cap' w2) (hr : Rd w2 rb N2) : MmQ w0 rb N2 G f' A' cap' v F w2 := by
  obtain ⟨_, h2, h3, h4, h5, h6, h7⟩ := h
  have hw := hm.wrote
  exact ⟨hr, h2.trans hw, hw.blk h3 (by simp; omega), h4.head (by omega) h7 (by omega) hm, h5, h6, Nat.lt_of_lt_of_le h7 hw.size⟩
/-- One goal more is drawn and appended. -/
theorem MmQ.push {w1 w4 : World} {xs : List Value} {L L1 : List Nat} {k n : Int} {s : ByteArray} {kids : Fr} {A1 : Option Addr} {cap1 cap' g : Nat} (h : MmQ w0 rb N G f A cap v F wr) (ho1 : OwnS wr f A cap L1)
    (hD : Desc wr F xs L) (hN : (L1 ++ L).Nodup) (hL : ∀ x ∈ L1 ++ L, w0.heap.size + 2 ≤ x ∧ x < wr.heap.size ∧ x ≠ G) (hv : ∀ g, v.ownBlock = some g → g ∉ L1 ++ L ∧ g ≠ G) (hvl : ∀ g, v.ownBlock = some g → w0.heap.size + 2 ≤ g ∧ g < wr.heap.size)
    (hf : Fits k n s) (hm : MadeW rb wr kids A1 cap1 w1) (hr : Rd w1 rb N2) (hb2 : Below w1.heap.size w1 w2) (hg : w2.grownBy w4 v.ownBlock)
    (ho : w4.ownsRow (w0.heap.size + 2) 30 4 (.slice (some ⟨g, 0, none⟩) (F.len + 1) cap') (F.len + 1) (xs ++ [.int .i64 k, .int .i64 n, .string s, .slice A1 kids.len cap1])) (hat : v.ownBlock = some g ∨ g = w2.heap.size) :
    MmQ w0 rb N2 G f A cap (.slice (some ⟨g, 0, none⟩) (F.len + 1) cap') (F.app (.cons k n s kids .nil)) w4 := by
  obtain ⟨_, h2, h3, h4, h5, h6, h7⟩ := h
  have hw := hm.wrote
  have hs1 := hw.size
  have hs2 := hb2.size
  have hs4 := hg.size
  have hsw := h2.size
  have hb := BodyX.push (rb := rb) (by omega) ho1 hD hN hL hv (fun g hg => (hvl g hg).2) (by omega) h7 hf hm hb2 hg ho hat
  have hk : ∀ x, x < w0.heap.size + 2 → x ≠ rb → w4.heap[x]? = wr.heap[x]? := fun x hx hn => by
    rw [hg.block x (by omega) fun e => by have := (hvl x e.symm).1; omega, hb2.block x (by omega), hw.block x (by omega) (by simpa using hn)]
  refine ⟨(hr.below hb2).keep fun x hx => hg.block x (by omega) fun e => by have := (hvl x e.symm).1; omega, ⟨?_, ?_, ?_, by omega, fun x hx hn => (hk x (by omega) (by simpa using hn)).trans (h2.block x hx hn)⟩, h3.keep (hk _ (by omega) (by omega)), hb, h5, h6, by omega⟩
  · exact hg.os.trans (hb2.os.trans (hw.os.trans h2.os))
  · exact hg.tape.trans (hb2.tape.trans (hw.tape.trans h2.tape))
  · exact hg.output.trans (hb2.output.trans (hw.output.trans h2.output))
end
/-- What is left of a clause that is drawn. -/
def MuR (rb N M K : Nat) (w : World) (e : Ending) (w' : World) : Prop :=
  ∃ (c : Cl) (A : Option Addr) (cap : Nat) (B : Option Addr) (capB : Nat), e = .returned (.agg #[.int .i64 c.k, .int .i64 c.n, .string c.s, .slice A c.kids.len cap, .slice B c.body.len capB]) ∧ Fits c.k c.n c.s ∧ nodes c.kids ≤ M ∧ nodes c.body ≤ M ∧ c.body.len ≤ K ∧
    (∃ L1 L2, OwnS w' c.kids A cap L1 ∧ OwnS w' c.body B capB L2 ∧ (L1 ++ L2).Nodup ∧ (∀ x ∈ L1 ++ L2, w.heap.size ≤ x ∧ x < w'.heap.size) ∧ Wrote [rb] w w') ∧ Rd w' rb N
theorem MmQ.ret {w0 wr : World} {rb N N2 G M K : Nat} {k n : Int} {s : ByteArray} {f F : Fr} {A B : Option Addr} {cap capB : Nat} (h : MmQ w0 rb N G f A cap (.slice B F.len capB) F wr) (hf : Fits k n s) (hM : nodes f ≤ M) (hM2 : nodes F ≤ M) (hK : F.len ≤ K) (hN : N ≤ N2) (a b c d e : Value) :
    MuR rb N2 M K w0 (.returned (.agg #[.int .i64 k, .int .i64 n, .string s, .slice A f.len cap, .slice B F.len capB])) (((((wr.setCell ⟨w0.heap.size + 1, 0, none⟩ a).setCell ⟨w0.heap.size + 1, 1, none⟩ b).setCell ⟨w0.heap.size + 1, 2, none⟩ c).setCell ⟨w0.heap.size + 1, 3, none⟩ d).setCell ⟨w0.heap.size + 1, 4, none⟩ e) := by
  obtain ⟨h1, h2, h3, h4, h5, h6, h7⟩ := h
  obtain ⟨L1, L2, o1, o2, n1, l1⟩ := h4.own
  have hne : ∀ x, x ≠ w0.heap.size + 1 → (((((wr.setCell ⟨w0.heap.size + 1, 0, none⟩ a).setCell ⟨w0.heap.size + 1, 1, none⟩ b).setCell ⟨w0.heap.size + 1, 2, none⟩ c).setCell ⟨w0.heap.size + 1, 3, none⟩ d).setCell ⟨w0.heap.size + 1, 4, none⟩ e).heap[x]? = wr.heap[x]? := fun x hx => by
    rw [heap_setCell_other _ _ _ _ hx, heap_setCell_other _ _ _ _ hx, heap_setCell_other _ _ _ _ hx, heap_setCell_other _ _ _ _ hx, heap_setCell_other _ _ _ _ hx]
  have hsz : (((((wr.setCell ⟨w0.heap.size + 1, 0, none⟩ a).setCell ⟨w0.heap.size + 1, 1, none⟩ b).setCell ⟨w0.heap.size + 1, 2, none⟩ c).setCell ⟨w0.heap.size + 1, 3, none⟩ d).setCell ⟨w0.heap.size + 1, 4, none⟩ e).heap.size = wr.heap.size := by simp [World.setCell]
  refine ⟨⟨k, n, s, f, F⟩, A, cap, B, capB, rfl, hf, hM, hM2, hK, ⟨L1, L2, o1.keep fun x hx => hne x (by have := l1 x (by simp [hx]); omega), o2.keep fun x hx => hne x (by have := l1 x (by simp [hx]); omega), n1, fun x hx => ?_, ((((h2.set_ (.inr (Nat.le_succ _)) _).set_ (.inr (Nat.le_succ _)) _).set_ (.inr (Nat.le_succ _)) _).set_ (.inr (Nat.le_succ _)) _).set_ (.inr (Nat.le_succ _)) _⟩, (h1.more hN).keep fun x hx => hne x (by omega)⟩
  rw [hsz]
  have := l1 x hx
  omega
end Go.Proofs.YtihmgodiiohdnaaGreatDoor

/- spec.l4Mutate. Condition: the source and the clause lie in memory. -/
namespace Go.Proofs.YtihmgodiiohdnaaGreatDoor
open Go.RowKit

theorem owns_wrote {w w' : World} {base rb m k : Nat} {t : TypeId} {v : Value} {xs : List Value} (h : w.ownsRow base t k v m xs) (hr : rb < base) (hw : Wrote [rb] w w') : w'.ownsRow base t k v m xs := by
  have hlt := h.lt
  refine ⟨h.1, ?_⟩
  rcases h.2 with h | ⟨g, cap, cur, rfl, hg, hh, hr'⟩
  · exact .inl h
  · exact .inr ⟨g, cap, cur, rfl, hg, (hw.block g (hlt g rfl).2 (by simp; omega)).trans hh, hr'⟩
theorem MmQ.ret2 {w0 wr : World} {rb N N2 G M K m : Nat} {k n : Int} {s : ByteArray} {f F : Fr} {A B : Option Addr} {cap capB : Nat} (h : MmQ w0 rb N G f A cap (.slice B m capB) F wr) (hl : F.len = m) (hf : Fits k n s) (hM : nodes f ≤ M) (hM2 : nodes F ≤ M) (hK : F.len ≤ K) (hN : N ≤ N2) (a b c d e : Value) :
    MuR rb N2 M K w0 (.returned (.agg #[.int .i64 k, .int .i64 n, .string s, .slice A f.len cap, .slice B m capB])) (((((wr.setCell ⟨w0.heap.size + 1, 0, none⟩ a).setCell ⟨w0.heap.size + 1, 1, none⟩ b).setCell ⟨w0.heap.size + 1, 2, none⟩ c).setCell ⟨w0.heap.size + 1, 3, none⟩ d).setCell ⟨w0.heap.size + 1, 4, none⟩ e) := by
  subst hl
  exact h.ret hf hM hM2 hK hN a b c d e
theorem names5q (s : ByteArray) (h : s ∈ ([⟨#[116, 114, 117, 101]⟩, ⟨#[105, 115]⟩, ⟨#[61]⟩, ⟨#[109, 111, 100]⟩, ⟨#[113]⟩] : List ByteArray)) : s.size ≤ maxLen := by
  have : ∀ s ∈ ([⟨#[116, 114, 117, 101]⟩, ⟨#[105, 115]⟩, ⟨#[61]⟩, ⟨#[109, 111, 100]⟩, ⟨#[113]⟩] : List ByteArray), s.size ≤ 100 := by decide
  have := this s h
  unfold maxLen; omega
set_option maxRecDepth 100000 in
set_option maxHeartbeats 8000000 in
/-- spec.l4Mutate. -/
theorem mutC_any (rb N M K : Nat) (c : Cl) (A B : Option Addr) (cap capB lo hi : Nat) (w : World) (hr : Rd w rb N) (hN : N + 4000 ≤ 1000000) (hk : KidsAt w lo hi c.kids A cap) (hkb : KidsAt w lo hi c.body B capB) (hh : hi ≤ w.heap.size) (hf : Fits c.k c.n c.s) (hM : nodes c.kids ≤ M) (hMb : nodes c.body ≤ M) (hK : c.body.len ≤ K) (hK6 : 6 ≤ K) (hM2 : M + 400 ≤ 1048576) :
    Calls Tryz.prog 22 #[.pointer (some ⟨rb, 0, none⟩), .agg #[.int .i64 c.k, .int .i64 c.n, .string c.s, .slice A c.kids.len cap, .slice B c.body.len capB]] w fun e w' => MuR rb (N + 4000) (M + 400) (K + 1) w e w' := by
  have hrb := hr.lt
  have hb2 := two_alloc w (.cells #[.int .i64 c.k, .int .i64 c.n, .string c.s, .slice A c.kids.len cap, .slice B c.body.len capB] 32) (.cells #[.int .i64 0, .int .i64 0, .string ⟨#[]⟩, .slice none 0 0, .slice none 0 0] 32)
  have b0 := (Blk.new w 32 #[.int .i64 c.k, .int .i64 c.n, .string c.s, .slice A c.kids.len cap, .slice B c.body.len capB]).alloc (.cells #[.int .i64 0, .int .i64 0, .string ⟨#[]⟩, .slice none 0 0, .slice none 0 0] 32)
  have b1 : Blk ((w.alloc (.cells #[.int .i64 c.k, .int .i64 c.n, .string c.s, .slice A c.kids.len cap, .slice B c.body.len capB] 32)).alloc (.cells #[.int .i64 0, .int .i64 0, .string ⟨#[]⟩, .slice none 0 0, .slice none 0 0] 32)) (w.heap.size + 1) 32 #[.int .i64 0, .int .i64 0, .string ⟨#[]⟩, .slice none 0 0, .slice none 0 0] := by
    have h := Blk.new (w.alloc (.cells #[.int .i64 c.k, .int .i64 c.n, .string c.s, .slice A c.kids.len cap, .slice B c.body.len capB] 32)) 32 #[.int .i64 0, .int .i64 0, .string ⟨#[]⟩, .slice none 0 0, .slice none 0 0]
    simpa using h
  have hs2 : ((w.alloc (.cells #[.int .i64 c.k, .int .i64 c.n, .string c.s, .slice A c.kids.len cap, .slice B c.body.len capB] 32)).alloc (.cells #[.int .i64 0, .int .i64 0, .string ⟨#[]⟩, .slice none 0 0, .slice none 0 0] 32)).heap.size = w.heap.size + 2 := by simp
  have C1 := cuC_any c A B cap capB lo hi _ (hk.below hb2 hh) (hkb.below hb2 hh) (Nat.le_trans hh hb2.size) hf (by omega) (by omega)
  have hfl0 := len_le_nodes c.body
  have HRD := Lib.hid (hr.below hb2)
  have H1 := Lib.hid C1
  have HB2 := Lib.hid hb2
  have HQ1 := Lib.hid b1
  have HS2 := Lib.hid hs2
  have HFC := Lib.hid hf
  obtain ⟨x0, x1, x2, x3, x4⟩ := dcells5 b0
  clear C1 hk hkb hh hf hb2 b0 b1 hs2 hr
  obtain ⟨i0, hi0, hz0, hz1, hz2⟩ := info_parts infoTd
  go_enter Tryz.func22, Tryz.ntmps22
  go_wp2_with fail
  refine H1.out.mono ?_
  rintro e w3 ⟨A1, cp1, v, G0, L1, rfl, ⟨ho1, hn1, hl1⟩, hrow, hG0, hG1, hb3⟩
  obtain ⟨B1, cpB1, rfl⟩ := hrow.form
  have hb4 := (Below.refl w3.heap.size w3).alloc (Nat.le_refl _) (.cells #[.int .i64 c.k, .int .i64 c.n, .string c.s, .slice A1 c.kids.len cp1, .slice B1 c.body.len cpB1] 32)
  have hb34 := hb3.trans (hb4.mono hb3.size)
  have hG : w.heap.size + 2 ≤ w3.heap.size := by have := hb3.size; rw [HS2.out] at this; exact this
  have HQ : Hid (MmQ w rb N w3.heap.size c.kids A1 cp1 (.slice B1 c.body.len cpB1) c.body (w3.alloc (.cells #[.int .i64 c.k, .int .i64 c.n, .string c.s, .slice A1 c.kids.len cp1, .slice B1 c.body.len cpB1] 32))) := Lib.hid
    ⟨HRD.out.below hb34, .of_below (HB2.out.trans (hb34.mono HB2.out.size)) _, HQ1.out.below hb34 HQ1.out.lt, BodyX.of ho1 hn1 (fun x hx => ⟨by rw [← HS2.out]; exact (hl1 x hx).1, (hl1 x hx).2⟩) hrow (by rw [HS2.out] at hG1; omega) (Nat.le_refl _) hb4, hrb, hG, by simp⟩
  have HT := Lib.hid (Blk.new w3 32 #[.int .i64 c.k, .int .i64 c.n, .string c.s, .slice A1 c.kids.len cp1, .slice B1 c.body.len cpB1])
  clear hrow ho1 hn1 hl1 hG0 hG1 hb3 hb4 hb34 H1 HRD HB2 HQ1 HS2 x0 x1 x2 x3 x4
  go_wp2_with fail
  generalize w3.alloc (.cells #[.int .i64 c.k, .int .i64 c.n, .string c.s, .slice A1 c.kids.len cp1, .slice B1 c.body.len cpB1] 32) = w4 at *
  generalize w3.heap.size = G at *
  refine (pick_any rb _ 40 _ HQ.out.1 (by omega) (by omega) (by omega)).mono ?_
  rintro e w5 ⟨c0, rfl, hc0, hc1, hr, hw⟩
  have HQ3 := Lib.hid (HQ.out.step hr hw)
  have HT3 := Lib.hid (hw.blk HT.out (by simp; omega))
  clear hr hw HQ HT hc0 hc1
  by_cases z0 : c0 = 0
  · subst z0
    go_wp2_with fail
    refine (some_any rb _ _ HQ3.out.1 (by omega)).mono ?_
    rintro e w6 ⟨k1, n1, s1, f1, A2, cp2, rfl, hf1, hm1, hnn1, hr1⟩
    have HC2 := Lib.hid (mut_any rb _ 256 k1 n1 s1 f1 A2 cp2 _ _ w6 hr1 (by omega) hm1.kids (Nat.le_refl _) hf1 hnn1 (by omega))
    have HQ4 := Lib.hid (HQ3.out.step hr1 hm1.wrote)
    have HT4 := Lib.hid (hm1.wrote.blk HT3.out (by simp; omega))
    clear hr1 hm1 hf1 hnn1 HQ3 HT3
    go_wp2_with fail
    refine HC2.out.mono ?_
    rintro e w7 ⟨k2, n2, s2, f2, A3, cp3, rfl, hf2, hm2, hn2, hr2⟩
    have hq5 := HQ4.out.head hm2 hr2
    have ht5 := hm2.wrote.blk HT4.out (by simp; omega)
    obtain ⟨y0, y1, y2, y3, y4⟩ := dcells5 ht5
    obtain ⟨h0, h1, h2, h3, h4⟩ := dfrozen5 ht5
    have HQ5 := Lib.hid ((((hq5.setG 0 (.int .i64 k2)).setG 1 (.int .i64 n2)).setG 2 (.string s2)).setG 3 (.slice A3 f2.len cp3))
    have HT5 : Hid (Blk ((((w7.setCell ⟨G, 0, none⟩ (.int .i64 k2)).setCell ⟨G, 1, none⟩ (.int .i64 n2)).setCell ⟨G, 2, none⟩ (.string s2)).setCell ⟨G, 3, none⟩ (.slice A3 f2.len cp3)) G 32 #[.int .i64 k2, .int .i64 n2, .string s2, .slice A3 f2.len cp3, .slice B1 c.body.len cpB1]) := Lib.hid ((((ht5.set_ 0 _).set_ 1 _).set_ 2 _).set_ 3 _)
    have HF2 := Lib.hid hf2
    have HM2 := Lib.hid hn2
    clear hf2 hm2 hn2 hr2 hq5 ht5 HQ4 HT4 HC2
    obtain ⟨x0, x1, x2, x3, x4⟩ := dcells5 HT5.out
    obtain ⟨d0, d1, d2, d3, d4⟩ := dcells5 HQ5.out.2.2.1
    obtain ⟨e0, e1, e2, e3, e4⟩ := dfrozen5 HQ5.out.2.2.1
    go_wp2_with fail
    refine bodyPost_ret (v := .agg #[.int .i64 k2, .int .i64 n2, .string s2, .slice A3 f2.len cp3, .slice B1 c.body.len cpB1]) ?_ rfl (HQ5.out.ret2 rfl HF2.out (by have := HM2.out; omega) (by omega) (by omega) (by omega) _ _ _ _ _)
    exact results_cell_row Tryz.results22 _ _ (w.heap.size + 1) _ _ _ _ rfl (dset5 HQ5.out.2.2.1 _ _ _ _ _) Tryz.underlying32 rfl (by kernel_rfl)
  have t0 : (c0 == 0) = false := by rw [beq_eq_false_iff_ne]; exact z0
  by_cases z1 : c0 = 1
  · subst z1
    have hq := HQ3.out
    obtain ⟨hrd, hwr, hbz, ⟨xs, L, L1, ho1, hown, hD, hNd, hL, hv⟩, _, hG2, hGl⟩ := hq
    have hvl := hown.lt
    have x4 := HT3.out.cell 4
    have xf := HT3.out.frozen 4
    simp only [List.getElem?_toArray, List.getElem?_cons_zero, List.getElem?_cons_succ] at x4
    have hne : some G ≠ (Value.slice B1 c.body.len cpB1).ownBlock := fun e => (hv _ e.symm).2 rfl
    have STEP := fun (w1 w2 w4 : World) (k n : Int) (s : ByteArray) (kids : Fr) (A' : Option Addr) (cap' g cap4 N2 : Nat) hf hm hr hb2 hg ho hat => HQ3.out.push (w1 := w1) (w2 := w2) (w4 := w4) (k := k) (n := n) (s := s) (kids := kids) (A1 := A') (cap1 := cap') (cap' := cap4) (g := g) (N2 := N2) ho1 hD hNd hL hv hvl hf hm hr hb2 hg ho hat
    have HSTEP := Lib.hid STEP
    have HNE := Lib.hid hne
    have HKEEP : Hid (∀ w2, Wrote [rb] w5 w2 → w2.ownsRow (w.heap.size + 2) 30 4 (.slice B1 c.body.len cpB1) c.body.len xs) := Lib.hid fun w2 hw => owns_wrote hown (by omega) hw
    have HTT := Lib.hid HT3.out
    have HRD := Lib.hid hrd
    have HNB0 := Lib.hid hMb
    have hlen1 : ∀ k n s kids, (c.body.app (.cons k n s kids .nil)).len = c.body.len + 1 := fun k n s kids => by rw [Fr.len_app]; rfl
    have HL1 := Lib.hid hlen1
    clear STEP hown hD hNd hL hv hvl hrd hwr hbz hne ho1 HQ3 HT3 hlen1
    generalize hfl2 : c.body.len = fl at *
    clear hfl2
    go_wp2_with fail
    go_region_law (first
      | (refine step_append_lies _ (by rfl) _ _ _ (by rfl) (w.heap.size + 2) 30 i0 _ 4 56 Tryz.underlying28 hi0 hz0 hz1 hz2 rfl (by omega) (.slice B1 fl cpB1) fl xs (by rfl) (HO7.out.alloc _)
           ⟨w7.heap.size, 0, none⟩ 1 1 [.int .i64 k2, .int .i64 n2, .string s2, .slice A3 f2.len cp3] (by rfl) (by rfl) (World.news_of_block (cs := #[.int .i64 k2, .int .i64 n2, .string s2, .slice A3 f2.len cp3]) (fr := (0, 0)) (heap_alloc_new w7 _)) (by simp [Value.oneCell'])
           (by omega) (by unfold maxLen; omega) (by omega) (by simp; omega) (w7.heap.size + 1) (by simp) ?_
         intro g cap4 w4 hown4 hgrow hat hlt4
         have q4 := (HT7.out.alloc (.cells #[.int .i64 k2, .int .i64 n2, .string s2, .slice A3 f2.len cp3] 30)).keep (hgrow.block _ (by simp; omega) HNE.out)
         have z3 := q4.cell 4
         have zf := q4.frozen 4
         simp only [List.getElem?_toArray, List.getElem?_cons_zero, List.getElem?_cons_succ] at z3
         have HQ4' := Lib.hid q4
         clear q4
         have HOWN4 := Lib.hid hown4
         have HGROW := Lib.hid hgrow
         have HAT := Lib.hid hat
         clear hown4 hgrow hat)
      | (go_simp
         go_at_call 40
         refine (mut_any rb _ 256 k1 n1 s1 f1 A2 cp2 _ _ w6 HR6.out (by omega) HM6.out.kids (Nat.le_refl _) HF6.out HN6.out (by omega)).mono ?_
         rintro e w7 ⟨k2, n2, s2, f2, A3, cp3, rfl, hf2, hm2, hn2, hr2⟩
         have hw7 := HW6.out.trans hm2.wrote
         have hs7 := hw7.size
         have ht7 := hw7.blk HTT.out (by simp; omega)
         have y3 := ht7.cell 4
         have y4 := (ht7.alloc (.cells #[.int .i64 k2, .int .i64 n2, .string s2, .slice A3 f2.len cp3] 30)).cell 4
         simp only [List.getElem?_toArray, List.getElem?_cons_zero, List.getElem?_cons_succ] at y3 y4
         have HO7 := Lib.hid (HKEEP.out w7 hw7)
         have HT7 := Lib.hid ht7
         have HM7 := Lib.hid (hm2.up HW6.out)
         have HF7 := Lib.hid hf2
         have HN7 := Lib.hid hn2
         have HR7 := Lib.hid hr2
         clear hw7 ht7 hm2 hf2 hn2 hr2)
      | (go_simp
         go_at_call 41
         refine (some_any rb _ _ (HRD.out.below (Below.refl _ _).drew) (by omega)).mono ?_
         rintro e w6 ⟨k1, n1, s1, f1, A2, cp2, rfl, hf1, hm1, hnn1, hr1⟩
         have hw6 := (Wrote.of_below (Below.refl w5.heap.size w5).drew [rb]).trans hm1.wrote
         have u3 := (hw6.blk HTT.out (by simp; omega)).cell 4
         simp only [List.getElem?_toArray, List.getElem?_cons_zero, List.getElem?_cons_succ] at u3
         have HW6 := Lib.hid hw6
         have HM6 := Lib.hid hm1
         have HF6 := Lib.hid hf1
         have HN6 := Lib.hid hnn1
         have HR6 := Lib.hid hr1
         clear hw6 hm1 hf1 hnn1 hr1))
    all_goals
      have hs := HSTEP.out w7 _ w4 k2 n2 s2 f2 A3 cp3 g cap4 _ HF7.out HM7.out HR7.out ((Below.refl _ _).alloc (Nat.le_refl _) _) HGROW.out HOWN4.out (by simpa using HAT.out)
      have HQ8 := Lib.hid (hs.setG 4 (.slice (some ⟨g, 0, none⟩) (fl + 1) cap4))
      have HT8 : Hid (Blk (w4.setCell ⟨G, 4, none⟩ (.slice (some ⟨g, 0, none⟩) (fl + 1) cap4)) G 32 #[.int .i64 c.k, .int .i64 c.n, .string c.s, .slice A1 c.kids.len cp1, .slice (some ⟨g, 0, none⟩) (fl + 1) cap4]) := Lib.hid (HQ4'.out.set_ 4 _)
      have HLEN := Lib.hid (HL1.out k2 n2 s2 f2)
      have HNB : Hid (nodes (c.body.app (.cons k2 n2 s2 f2 .nil)) ≤ M + 400) := Lib.hid (by rw [nodes_app]; simp only [nodes]; have := HN7.out; have := HNB0.out; omega)
      clear hs
      obtain ⟨x0, x1, x2, x3, x4⟩ := dcells5 HT8.out
      obtain ⟨d0, d1, d2, d3, d4⟩ := dcells5 HQ8.out.2.2.1
      obtain ⟨e0, e1, e2, e3, e4⟩ := dfrozen5 HQ8.out.2.2.1
      go_wp2_with fail
      refine bodyPost_ret (v := .agg #[.int .i64 c.k, .int .i64 c.n, .string c.s, .slice A1 c.kids.len cp1, .slice (some ⟨g, 0, none⟩) (fl + 1) cap4]) ?_ rfl (HQ8.out.ret2 HLEN.out HFC.out (by omega) (HNB.out) (by rw [HLEN.out]; omega) (by omega) _ _ _ _ _)
      exact results_cell_row Tryz.results22 _ _ (w.heap.size + 1) _ _ _ _ rfl (dset5 HQ8.out.2.2.1 _ _ _ _ _) Tryz.underlying32 rfl (by kernel_rfl)
  have t1 : (c0 == 1) = false := by rw [beq_eq_false_iff_ne]; exact z1
  by_cases z2 : c0 = 2
  · subst z2
    go_wp2_with fail
    go_loopg [30] 7 (fun g _ wr => ∃ (v : Value) (F : Fr), 7 ≤ F.len + g ∧ nodes F + g ≤ M + 7 ∧ F.len ≤ K + 1 ∧ MmQ w rb (N + 1) G c.kids A1 cp1 v F wr ∧ Blk wr G 32 #[.int .i64 c.k, .int .i64 c.n, .string c.s, .slice A1 c.kids.len cp1, v])
    case atStart => exact ⟨_, c.body, by omega, by omega, by omega, HQ3.out, HT3.out⟩
    case round =>
      obtain ⟨v, F, h1, h2, h3, hq, ht⟩ := hrel
      obtain ⟨B3, cpB3, rfl⟩ := hq.2.2.2.1.form
      clear HQ3 HT3
      by_cases hl : F.len ≤ 6
      · have HQ3 := Lib.hid hq
        obtain ⟨hrd, hwr, hbz, ⟨xs, L, L1, ho1, hown, hD, hNd, hL, hv⟩, _, hG2, hGl⟩ := hq
        have hvl := hown.lt
        have x4 := ht.cell 4
        have xf := ht.frozen 4
        simp only [List.getElem?_toArray, List.getElem?_cons_zero, List.getElem?_cons_succ] at x4
        have hne : some G ≠ (Value.slice B3 F.len cpB3).ownBlock := fun e => (hv _ e.symm).2 rfl
        have STEP := fun (w1 w2 w4 : World) (k n : Int) (s : ByteArray) (kids : Fr) (A' : Option Addr) (cap' g cap4 N2 : Nat) hf hm hr hb2 hg ho hat => HQ3.out.push (w1 := w1) (w2 := w2) (w4 := w4) (k := k) (n := n) (s := s) (kids := kids) (A1 := A') (cap1 := cap') (cap' := cap4) (g := g) (N2 := N2) ho1 hD hNd hL hv hvl hf hm hr hb2 hg ho hat
        have HSTEP := Lib.hid STEP
        have HNE := Lib.hid hne
        have HKEEP : Hid (∀ w2, Wrote [rb] wr w2 → w2.ownsRow (w.heap.size + 2) 30 4 (.slice B3 F.len cpB3) F.len xs) := Lib.hid fun w2 hw => owns_wrote hown (by omega) hw
        have HTT := Lib.hid ht
        have HRD := Lib.hid hrd
        have hl' : (F.len : Int) ≤ 6 := by omega
        clear STEP hown hD hNd hL hv hvl hrd hwr hbz hne ho1 HQ3 ht
        generalize hfl2 : F.len = fl at *
        have HFL := Lib.hid hfl2
        clear hfl2
        go_wp2_with fail
        go_region_law (first
          | (refine step_append_lies _ (by rfl) _ _ _ (by rfl) (w.heap.size + 2) 30 i0 _ 4 56 Tryz.underlying28 hi0 hz0 hz1 hz2 rfl (by omega) (.slice B3 fl cpB3) fl xs (by rfl) (HO7.out.alloc _)
               ⟨w7.heap.size, 0, none⟩ 1 1 [.int .i64 3, .int .i64 0, .string ⟨#[116, 114, 117, 101]⟩, .slice A3 0 cp3] (by rfl) (by rfl) (World.news_of_block (cs := #[.int .i64 3, .int .i64 0, .string ⟨#[116, 114, 117, 101]⟩, .slice A3 0 cp3]) (fr := (0, 0)) (heap_alloc_new w7 _)) (by simp [Value.oneCell'])
               (by omega) (by unfold maxLen; omega) (by omega) (by simp; omega) (w7.heap.size + 1) (by simp) ?_
             intro g cap4 w4 hown4 hgrow hat hlt4
             have q4 := (HT7.out.alloc (.cells #[.int .i64 3, .int .i64 0, .string ⟨#[116, 114, 117, 101]⟩, .slice A3 0 cp3] 30)).keep (hgrow.block _ (by simp; omega) HNE.out)
             have z3 := q4.cell 4
             have zf := q4.frozen 4
             simp only [List.getElem?_toArray, List.getElem?_cons_zero, List.getElem?_cons_succ] at z3
             have HQ4' := Lib.hid q4
             clear q4
             have HOWN4 := Lib.hid hown4
             have HGROW := Lib.hid hgrow
             have HAT := Lib.hid hat
             clear hown4 hgrow hat)
          | (go_simp
             go_at_call 27
             refine (structN_any ⟨#[116, 114, 117, 101]⟩ .nil none 0 [] _ ⟨Nat.zero_le _, Nat.zero_le _, .inl ⟨rfl, rfl⟩⟩ List.nodup_nil (by decide)).mono ?_
             rintro e w7 ⟨A3, cp3, L3, rfl, ho3, hn3, hL3, hb3, _⟩
             have hd2 : Below wr.heap.size wr w7 := (Below.refl wr.heap.size wr).drew.trans hb3
             have hs7 := hd2.size
             have ht7 := HTT.out.below hd2 HTT.out.lt
             have y3 := ht7.cell 4
             have y4 := (ht7.alloc (.cells #[.int .i64 3, .int .i64 0, .string ⟨#[116, 114, 117, 101]⟩, .slice A3 0 cp3] 30)).cell 4
             simp only [List.getElem?_toArray, List.getElem?_cons_zero, List.getElem?_cons_succ] at y3 y4
             have HO7 := Lib.hid (HKEEP.out w7 (.of_below hd2 _))
             have HT7 := Lib.hid ht7
             have HM7 : Hid (MadeW rb wr .nil A3 cp3 w7) := Lib.hid ⟨L3, ho3, hn3, fun x hx => by
               rcases hL3 x hx with h | h
               · simp at h
               · exact h, .of_below hd2 _⟩
             have HR7 := Lib.hid (HRD.out.below hd2)
             rw [show Fr.nil.len = 0 from rfl]
             clear hd2 ht7 ho3 hn3 hL3 hb3))
        all_goals
          have hs := HSTEP.out w7 _ w4 3 0 ⟨#[116, 114, 117, 101]⟩ .nil A3 cp3 g cap4 _ ⟨by omega, by omega, by unfold maxLen; decide⟩ HM7.out HR7.out ((Below.refl _ _).alloc (Nat.le_refl _) _) HGROW.out HOWN4.out (by simpa using HAT.out)
          have HQ8 := Lib.hid (hs.setG 4 (.slice (some ⟨g, 0, none⟩) (fl + 1) cap4))
          have HT8 : Hid (Blk (w4.setCell ⟨G, 4, none⟩ (.slice (some ⟨g, 0, none⟩) (fl + 1) cap4)) G 32 #[.int .i64 c.k, .int .i64 c.n, .string c.s, .slice A1 c.kids.len cp1, .slice (some ⟨g, 0, none⟩) (fl + 1) cap4]) := Lib.hid (HQ4'.out.set_ 4 _)
          clear hs
          go_wp2_with fail
          go_roundg (gk - 1)
          case measure => omega
          case rel => exact ⟨_, F.app (.cons 3 0 ⟨#[116, 114, 117, 101]⟩ .nil .nil), by rw [Fr.len_app, HFL.out]; simp only [Fr.len]; omega, by rw [nodes_app]; simp only [nodes]; omega, by rw [Fr.len_app, HFL.out]; simp only [Fr.len]; omega, HQ8.out, HT8.out⟩
      · have HQ8 := Lib.hid hq
        have HT8 := Lib.hid ht
        have HNB : Hid (nodes F ≤ M + 400) := Lib.hid (by omega)
        have HKB := Lib.hid h3
        have hl' : ¬ (F.len : Int) ≤ 6 := by omega
        clear hq ht h1 h2 h3
        obtain ⟨x0, x1, x2, x3, x4⟩ := dcells5 HT8.out
        obtain ⟨d0, d1, d2, d3, d4⟩ := dcells5 HQ8.out.2.2.1
        obtain ⟨e0, e1, e2, e3, e4⟩ := dfrozen5 HQ8.out.2.2.1
        go_wp2_with fail
        refine bodyPost_ret (v := .agg #[.int .i64 c.k, .int .i64 c.n, .string c.s, .slice A1 c.kids.len cp1, .slice B3 F.len cpB3]) ?_ rfl (HQ8.out.ret2 rfl HFC.out (by omega) (HNB.out) (HKB.out) (by omega) _ _ _ _ _)
        exact results_cell_row Tryz.results22 _ _ (w.heap.size + 1) _ _ _ _ rfl (dset5 HQ8.out.2.2.1 _ _ _ _ _) Tryz.underlying32 rfl (by kernel_rfl)
  have t2 : (c0 == 2) = false := by rw [beq_eq_false_iff_ne]; exact z2
  by_cases z3 : c0 = 3
  · subst z3
    have hb := (Below.refl w5.heap.size w5).alloc (Nat.le_refl _) (.cells #[.string ⟨#[116, 114, 117, 101]⟩, .string ⟨#[105, 115]⟩, .string ⟨#[61]⟩, .string ⟨#[109, 111, 100]⟩, .string ⟨#[113]⟩] 9)
    have HQ4 := Lib.hid (HQ3.out.below hb)
    have HT4 := Lib.hid (HT3.out.below hb HT3.out.lt)
    have HI : Hid (StrsAt (w5.alloc (.cells #[.string ⟨#[116, 114, 117, 101]⟩, .string ⟨#[105, 115]⟩, .string ⟨#[61]⟩, .string ⟨#[109, 111, 100]⟩, .string ⟨#[113]⟩] 9)) (rb + 1) (some ⟨w5.heap.size, 0, none⟩) [⟨#[116, 114, 117, 101]⟩, ⟨#[105, 115]⟩, ⟨#[61]⟩, ⟨#[109, 111, 100]⟩, ⟨#[113]⟩]) := Lib.hid ⟨w5.heap.size, rfl, HQ3.out.1.lt, by simp, fun i z h => by
      rw [(Blk.new w5 _ _).cell i]
      match i, h with
        | 0, h => cases h; rfl
        | 1, h => cases h; rfl
        | 2, h => cases h; rfl
        | 3, h => cases h; rfl
        | 4, h => cases h; rfl⟩
    clear hb HQ3 HT3
    go_wp2_with fail
    refine (of_any rb _ [⟨#[116, 114, 117, 101]⟩, ⟨#[105, 115]⟩, ⟨#[61]⟩, ⟨#[109, 111, 100]⟩, ⟨#[113]⟩] _ 5 _ HQ4.out.1 (by omega) HI.out (by decide) (by decide)).mono ?_
    rintro e w6 ⟨z, rfl, hz, hr, hw⟩
    have hq5 := HQ4.out.step hr hw
    have ht5 := hw.blk HT4.out (by simp; omega)
    have HQ5 := Lib.hid (hq5.setG 2 (.string z))
    have HT5 : Hid (Blk (w6.setCell ⟨G, 2, none⟩ (.string z)) G 32 #[.int .i64 c.k, .int .i64 c.n, .string z, .slice A1 c.kids.len cp1, .slice B1 c.body.len cpB1]) := Lib.hid (ht5.set_ 2 _)
    have cc2 := ht5.cell 2
    have g2 := ht5.frozen 2
    simp only [List.getElem?_toArray, List.getElem?_cons_zero, List.getElem?_cons_succ] at cc2
    have HFF : Hid (Fits c.k c.n z) := Lib.hid ⟨HFC.out.1, HFC.out.2.1, names5q z hz⟩
    clear hr hw hz hq5 ht5 HQ4 HT4 HI
    obtain ⟨x0, x1, x2, x3, x4⟩ := dcells5 HT5.out
    obtain ⟨d0, d1, d2, d3, d4⟩ := dcells5 HQ5.out.2.2.1
    obtain ⟨e0, e1, e2, e3, e4⟩ := dfrozen5 HQ5.out.2.2.1
    go_wp2_with fail
    refine bodyPost_ret (v := .agg #[.int .i64 c.k, .int .i64 c.n, .string z, .slice A1 c.kids.len cp1, .slice B1 c.body.len cpB1]) ?_ rfl (HQ5.out.ret2 rfl HFF.out (by omega) (by omega) (by omega) (by omega) _ _ _ _ _)
    exact results_cell_row Tryz.results22 _ _ (w.heap.size + 1) _ _ _ _ rfl (dset5 HQ5.out.2.2.1 _ _ _ _ _) Tryz.underlying32 rfl (by kernel_rfl)
  have t3 : (c0 == 3) = false := by rw [beq_eq_false_iff_ne]; exact z3
  obtain ⟨x0, x1, x2, x3, x4⟩ := dcells5 HT3.out
  obtain ⟨d0, d1, d2, d3, d4⟩ := dcells5 HQ3.out.2.2.1
  obtain ⟨e0, e1, e2, e3, e4⟩ := dfrozen5 HQ3.out.2.2.1
  go_wp2_with fail
  refine bodyPost_ret (v := .agg #[.int .i64 c.k, .int .i64 c.n, .string c.s, .slice A1 c.kids.len cp1, .slice B1 c.body.len cpB1]) ?_ rfl (HQ3.out.ret2 rfl HFC.out (by omega) (by omega) (by omega) (by omega) _ _ _ _ _)
  exact results_cell_row Tryz.results22 _ _ (w.heap.size + 1) _ _ _ _ rfl (dset5 HQ3.out.2.2.1 _ _ _ _ _) Tryz.underlying32 rfl (by kernel_rfl)
end Go.Proofs.YtihmgodiiohdnaaGreatDoor

/- spec.l4MutateAll, spec.DrawProgramValid. Condition: the source and the program lie in memory. -/
namespace Go.Proofs.YtihmgodiiohdnaaGreatDoor.rdr
open Go.RowKit

theorem ClAt.drop {w : World} {lo hi : Nat} : ∀ (k : Nat) (cs : List Cl) (b o : Nat), ClAt w lo hi cs b o → ClAt w lo hi (cs.drop k) b (o + k * 5)
  | 0, cs, b, o, h => by simpa using h
  | k + 1, [], b, o, h => by simp [ClAt]
  | k + 1, c :: cs, b, o, h => by
    have h1 := ClAt.drop k cs b (o + 5) h.2.2
    rw [show o + 5 + k * 5 = o + (k + 1) * 5 by omega] at h1
    exact h1
theorem ClAt.take {w : World} {lo hi : Nat} : ∀ (k : Nat) (cs : List Cl) (b o : Nat), ClAt w lo hi cs b o → ClAt w lo hi (cs.take k) b o
  | 0, cs, b, o, h => by simp [ClAt]
  | k + 1, [], b, o, h => by simp [ClAt]
  | k + 1, c :: cs, b, o, h => ⟨h.1, h.2.1, ClAt.take k cs b (o + 5) h.2.2⟩
theorem ClS.drop {w : World} {lo hi : Nat} {cs : List Cl} {b o cap : Nat} (h : ClS w lo hi cs (some ⟨b, o, none⟩) cap) (k : Nat) (hk : k ≤ cs.length) : ClS w lo hi (cs.drop k) (some ⟨b, o + k * 5, none⟩) (cap - k) := by
  obtain ⟨h1, h2, h3⟩ := h
  refine ⟨by rw [List.length_drop]; omega, by omega, fun hp => ?_⟩
  rw [List.length_drop] at hp
  obtain ⟨b', o', e, hl, hb, hr⟩ := h3 (by omega)
  injection e with e
  injection e with e1 e2 _
  subst e1 e2
  exact ⟨_, _, rfl, hl, hb, ClAt.drop k cs _ _ hr⟩
theorem ClS.take {w : World} {lo hi : Nat} {cs : List Cl} {A : Option Addr} {cap : Nat} (h : ClS w lo hi cs A cap) (k : Nat) : ClS w lo hi (cs.take k) A cap := by
  obtain ⟨h1, h2, h3⟩ := h
  refine ⟨by rw [List.length_take]; omega, h2, fun hp => ?_⟩
  rw [List.length_take] at hp
  obtain ⟨b, o, rfl, hl, hb, hr⟩ := h3 (by omega)
  exact ⟨b, o, rfl, hl, hb, ClAt.take k cs _ _ hr⟩
/-- A clause is not too large. -/
def okC (c : Cl) : Prop := nodes c.kids ≤ 600 ∧ nodes c.body ≤ 600 ∧ c.body.len ≤ 7
/-- The clauses that were made, behind N draws. -/
def MaS (w0 : World) (rb N : Nat) (v : Value) (cs : List Cl) (wr : World) : Prop :=
  Rd wr rb N ∧ Wrote [rb] w0 wr ∧ RowC w0.heap.size v cs wr ∧ (∃ g, v.ownBlock = some g) ∧ ∀ c ∈ cs, okC c
theorem MaS.step {w0 wr w2 : World} {rb N N2 : Nat} {v : Value} {cs : List Cl} (h : MaS w0 rb N v cs wr) (hrb : rb < w0.heap.size) (hr : Rd w2 rb N2) (hw : Wrote [rb] wr w2) : MaS w0 rb N2 v cs w2 := by
  obtain ⟨_, h2, h3, h4, h5⟩ := h
  exact ⟨hr, h2.trans hw, h3.wroteN (L0 := [rb]) (fun x hx => by simp at hx; omega) hw, h4, h5⟩
/-- What is left of a program that is drawn. -/
def MaR (rb N : Nat) (w : World) (e : Ending) (w' : World) : Prop :=
  ∃ (cs : List Cl) (b o cap : Nat), e = .returned (.slice (some ⟨b, o, none⟩) cs.length cap) ∧ cs.length ≤ 21 ∧ (∀ c ∈ cs, okC c) ∧ ClS w' w.heap.size w'.heap.size cs (some ⟨b, o, none⟩) cap ∧ Wrote [rb] w w' ∧ Rd w' rb N
theorem MaS.read {w0 wr : World} {rb N : Nat} {v : Value} {cs : List Cl} (h : MaS w0 rb N v cs wr) : ∃ b cap, v = .slice (some ⟨b, 0, none⟩) cs.length cap ∧ ClS wr w0.heap.size wr.heap.size cs (some ⟨b, 0, none⟩) cap ∧ ∃ xs, wr.ownsRow w0.heap.size 32 5 v cs.length xs := by
  obtain ⟨h1, h2, h3, ⟨g0, hg0⟩, h5⟩ := h
  have h3' := h3
  obtain ⟨A, cap, rfl, hA⟩ := h3.own
  have hA2 : A ≠ none := by rintro rfl; cases hg0
  obtain ⟨L, ho, hn, hL⟩ := hA hA2
  have hc := ho.clauses hL
  obtain ⟨_, _, b, L', xs, rfl, _, _, _, _⟩ := ho
  obtain ⟨ys, _, hys, _⟩ := h3'
  exact ⟨b, cap, rfl, hc, ys, hys⟩
/-- One clause more: it was drawn behind wr. -/
theorem MaS.push {w0 wr w1 w4 : World} {rb N N2 m : Nat} {v : Value} {cs : List Cl} {xs : List Value} {L L1 L2 : List Nat} {c : Cl} {A B : Option Addr} {cap capB cap' g : Nat} {obj : Obj} (h : MaS w0 rb N v cs wr) (hrb : rb < w0.heap.size) (hm0 : cs.length = m)
    (hown : wr.ownsRow w0.heap.size 32 5 v m xs) (hD : DescC wr cs xs L) (hNd : L.Nodup) (hL : ∀ x ∈ L, w0.heap.size ≤ x ∧ x < wr.heap.size) (hv : ∀ g, v.ownBlock = some g → g ∉ L)
    (hf : Fits c.k c.n c.s) (hok : okC c) (o1 : OwnS w1 c.kids A cap L1) (o2 : OwnS w1 c.body B capB L2) (hn : (L1 ++ L2).Nodup) (hL' : ∀ x ∈ L1 ++ L2, wr.heap.size ≤ x ∧ x < w1.heap.size) (hw : Wrote [rb] wr w1) (hr : Rd w1 rb N2) (hg : (w1.alloc obj).grownBy w4 v.ownBlock)
    (ho : w4.ownsRow w0.heap.size 32 5 (.slice (some ⟨g, 0, none⟩) (m + 1) cap') (m + 1) (xs ++ [.int .i64 c.k, .int .i64 c.n, .string c.s, .slice A c.kids.len cap, .slice B c.body.len capB])) (hat : v.ownBlock = some g ∨ g = w1.heap.size + 1) :
    MaS w0 rb N2 (.slice (some ⟨g, 0, none⟩) (m + 1) cap') (cs ++ [c]) w4 := by
  obtain ⟨_, h2, h3, h4, h5⟩ := h
  have hvl := hown.lt
  have hb2 := (Below.refl w1.heap.size w1).alloc (Nat.le_refl _) obj
  have hsw := h2.size
  have hs1 := hw.size
  have hs2 := hb2.size
  have hs4 := hg.size
  refine ⟨(hr.below hb2).keep fun x hx => hg.block x (by have := hr.lt; omega) fun e => by have := (hvl x e.symm).1; omega, ?_, RowC.step (L0 := [rb]) (w := wr) (w1 := w1) (fun x hx => by simp at hx; omega) hm0 hD hNd hL hv (fun g hg => (hvl g hg).2) hsw hf o1 o2 hn hL' hw hb2 hg ho (by rw [show (w1.alloc obj).heap.size = w1.heap.size + 1 by simp]; exact hat), ⟨g, rfl⟩, fun x hx => ?_⟩
  · refine ⟨?_, ?_, ?_, by omega, fun x hx hn => ?_⟩
    · exact hg.os.trans (hb2.os.trans (hw.os.trans h2.os))
    · exact hg.tape.trans (hb2.tape.trans (hw.tape.trans h2.tape))
    · exact hg.output.trans (hb2.output.trans (hw.output.trans h2.output))
    · rw [hg.block x (by omega) fun e => by have := (hvl x e.symm).1; omega, hb2.block x (by omega), hw.block x (by omega) hn, h2.block x hx hn]
  · rcases List.mem_append.1 hx with hx | hx
    · exact h5 x hx
    · simp at hx; subst hx; exact hok
set_option maxRecDepth 100000 in
set_option maxHeartbeats 8000000 in
/-- spec.l4MutateAll. -/
theorem mutAll_any (rb N : Nat) (ps : List Cl) (A : Option Addr) (cap lo hi : Nat) (w : World) (hr : Rd w rb N) (hN : N + 100000 ≤ 1000000) (hk : ClS w lo hi ps A cap) (hh : hi ≤ w.heap.size) (hlo : rb < lo) (h1 : 1 ≤ ps.length) (h20 : ps.length ≤ 20) (hsm : ps.all smC = true) :
    Calls Tryz.prog 14 #[.pointer (some ⟨rb, 0, none⟩), .slice A ps.length cap] w fun e w' => MaR rb (N + 100000) w e w' := by
  obtain ⟨i0, hi0, hz0, hz1, hz2⟩ := info_parts infoCl
  have hrb := hr.lt
  have hb0 : Below w.heap.size w (w.alloc (.cells #[] 32)) := (Below.refl _ _).alloc (Nat.le_refl _) _
  have HR0 : Hid (MaS w rb N (.slice (some ⟨w.heap.size, 0, none⟩) 0 0) [] (w.alloc (.cells #[] 32))) := Lib.hid ⟨hr.below hb0, .of_below hb0 _, RowC.empty (Nat.le_refl _), ⟨_, rfl⟩, fun c hc => by simp at hc⟩
  have HK := Lib.hid hk
  have HH := Lib.hid hh
  have HSM := Lib.hid hsm
  clear hr hk hh hsm hb0
  generalize hn : ps.length = len at *
  have HNL := Lib.hid hn
  clear hn
  go_enter Tryz.func14, Tryz.ntmps14
  go_wp2_with fail
  go_loopw [5, 6] (fun u i wr => ∃ (v : Value) (cs : List Cl) (j : Nat), v = u ∧ i = .int .i64 j ∧ j ≤ len ∧ cs.length = j ∧ MaS w rb (N + 4000 * j) v cs wr) (fun _ i _ => len - (intOf i).toNat)
  case atStart => exact ⟨_, [], 0, rfl, rfl, Nat.zero_le _, rfl, HR0.out⟩
  case round =>
    clear HR0
    obtain ⟨v, cs, j, rfl, rfl, hj, hcs, hm⟩ := hrel
    by_cases hlt : j < len
    · obtain ⟨c, hd⟩ := drop_cl ps j (by rw [HNL.out]; exact hlt)
      have hmem : c ∈ ps := List.mem_of_mem_drop (i := j) (by rw [hd]; simp)
      have hsc := List.all_eq_true.1 HSM.out c hmem
      simp only [smC, Bool.and_eq_true, decide_eq_true_eq] at hsc
      obtain ⟨b, o, rfl, hlb, hbb, hrow⟩ := HK.out.2.2 (by rw [HNL.out]; omega)
      obtain ⟨hfit, A', cap', B', capB', c0, c1, c2, c3, c4, hkid, hbd⟩ := ClAt.elem j ps b o hrow hd
      have hlo2 : (⟨b, o, none⟩ : Addr).block < w.heap.size := Nat.lt_of_lt_of_le hbb HH.out
      have hw := hm.2.1
      have hbr : b ∉ [rb] := by simp; omega
      have k0 := (hw.cell (p := ⟨b, o + j * 5, none⟩) hlo2 hbr).trans c0
      have k1 := (hw.cell (p := ⟨b, o + j * 5 + 1, none⟩) hlo2 hbr).trans c1
      have k2 := (hw.cell (p := ⟨b, o + j * 5 + 2, none⟩) hlo2 hbr).trans c2
      have k3 := (hw.cell (p := ⟨b, o + j * 5 + 3, none⟩) hlo2 hbr).trans c3
      have k4 := (hw.cell (p := ⟨b, o + j * 5 + 4, none⟩) hlo2 hbr).trans c4
      have hkk : ∀ p : Addr, lo ≤ p.block → p.block < hi → wr.cell? p = w.cell? p := fun p h1 h2 => hw.cell (Nat.lt_of_lt_of_le h2 HH.out) (by simp; omega)
      have H2 := Lib.hid (mutC_any rb (N + 4000 * j) 200 6 c A' B' cap' capB' lo hi wr hm.1 (by omega) (hkid.keep hkk) (hbd.keep hkk) (Nat.le_trans HH.out hw.size) hfit (by omega) (by omega) (by omega) (by omega) (by omega))
      have HM := Lib.hid hm
      have ij0 : (0 : Int) ≤ (j : Int) := Int.natCast_nonneg _
      have ij1 : (j : Int) < (len : Int) := by omega
      clear c0 c1 c2 c3 c4 hkid hbd hrow hfit hd hmem hsc hkk hw hm hlo2 hbr
      go_wp2_with fail
      refine H2.out.mono ?_
      rintro e w3 ⟨c2, A2, cap2, B2, capB2, rfl, hf2, hk2, hb2, hl2, ⟨L1, L2, o1, o2, hn2, hL2, hw2⟩, hr2⟩
      obtain ⟨_, hw0, ⟨xs, L, hown, hD, hNd, hL, hv⟩, _, _⟩ := HM.out
      rw [hcs] at hown
      have HO4 := Lib.hid (owns_wrote hown hrb hw2)
      have PUSH := fun (obj : Obj) (w4 : World) (g cap4 : Nat) hg ho hat => MaS.push (obj := obj) (w4 := w4) (g := g) (cap' := cap4) HM.out hrb hcs hown hD hNd hL hv hf2 ⟨hk2, hb2, hl2⟩ o1 o2 hn2 hL2 hw2 hr2 hg ho hat
      have HP := Lib.hid PUSH
      have hsz : w.heap.size ≤ w3.heap.size := Nat.le_trans hw0.size hw2.size
      clear PUSH hown hD hNd hL hv hf2 hk2 hb2 hl2 o1 o2 hn2 hL2 hw2 hr2 hw0 H2
      go_wp2_with (at_builtin; go_must (refine wpList_append_lies _ rfl _ _ _ rfl w.heap.size 32 i0 _ 5 80 Tryz.underlying23 hi0 hz0 hz1 hz2 rfl (by omega) v j xs rfl (HO4.out.alloc _) ⟨w3.heap.size, 0, none⟩ 1 1 [.int .i64 c2.k, .int .i64 c2.n, .string c2.s, .slice A2 c2.kids.len cap2, .slice B2 c2.body.len capB2] rfl rfl (World.news_of_block (cs := #[.int .i64 c2.k, .int .i64 c2.n, .string c2.s, .slice A2 c2.kids.len cap2, .slice B2 c2.body.len capB2]) (fr := (0, 0)) (heap_alloc_new w3 _)) (by simp [Value.oneCell']) (by omega) (by unfold maxLen; omega) (by omega) (by simp; omega) (w3.heap.size + 1) (by simp) ?_); intro g4 cap4 w5 hown5 hgrow hat hlt5; have HS := Lib.hid (HP.out _ w5 g4 cap4 hgrow hown5 (by simpa using hat)); clear hown5 hgrow hat)
      go_roundw
      case rel => exact ⟨_, cs ++ [c2], j + 1, rfl, by go_num, by omega, by rw [List.length_append, hcs]; rfl, by have h := HS.out; rwa [show N + 4000 * j + 4000 = N + 4000 * (j + 1) by omega] at h⟩
      case measure => simp [intOf]; omega
    · obtain rfl : j = len := by omega
      have HM := Lib.hid hm
      clear hm hlt
      go_wp2_with fail
      refine (pick_any rb _ 30 _ HM.out.1 (by omega) (by omega) (by omega)).mono ?_
      rintro e w3 ⟨k, rfl, hk0, hk1, hr, hw⟩
      have HM3 := Lib.hid (HM.out.step hrb hr hw)
      clear hr hw HM hk0 hk1
      by_cases z0 : k = 0
      · subst z0
        go_wp2_with fail
        go_loopg [5] 21 (fun g u wr => ∃ (v : Value) (cs : List Cl), v = u ∧ 21 ≤ cs.length + g ∧ cs.length ≤ 21 ∧ MaS w rb (N + 4000 * j + 1) v cs wr)
        case atStart => exact ⟨_, cs, rfl, by omega, by omega, HM3.out⟩
        case round =>
          clear HM3
          obtain ⟨v, cs, rfl, h3, h4, hm⟩ := hrel
          obtain ⟨b, cap3, rfl, hcl, xs0, hown0⟩ := hm.read
          by_cases hl : cs.length ≤ 20
          · have HM := Lib.hid hm
            have hl' : (cs.length : Int) ≤ 20 := by omega
            have HLL := Lib.hid hl
            clear hm hcl hown0
            generalize hcl2 : cs.length = cl at *
            have HCL := Lib.hid hcl2
            clear hcl2
            go_wp2_with fail
            refine (structN_any ⟨#[122]⟩ .nil none 0 [] _ ⟨Nat.zero_le _, Nat.zero_le _, .inl ⟨rfl, rfl⟩⟩ List.nodup_nil (by decide)).mono ?_
            rintro e w3 ⟨A2, cap2, L1, rfl, o1, hn1, hL1, hb1, _⟩
            rw [show Fr.nil.len = 0 from rfl]
            obtain ⟨hr0, hw0, ⟨xs, L, hown, hD, hNd, hL, hv⟩, _, _⟩ := HM.out
            rw [HCL.out] at hown
            have hw2 := Wrote.of_below hb1 [rb]
            have HO4 := Lib.hid (owns_wrote hown hrb hw2)
            have PUSH := fun (obj : Obj) (w4 : World) (g cap4 : Nat) hg ho hat => MaS.push (c := ⟨3, 0, ⟨#[122]⟩, .nil, .nil⟩) (A := A2) (cap := cap2) (B := none) (capB := 0) (L1 := L1) (L2 := []) (obj := obj) (w4 := w4) (g := g) (cap' := cap4) HM.out hrb HCL.out hown hD hNd hL hv (show Fits 3 0 ⟨#[122]⟩ from ⟨by omega, by omega, by unfold maxLen; decide⟩) ⟨Nat.zero_le _, Nat.zero_le _, Nat.zero_le _⟩ o1 ⟨Nat.zero_le _, Nat.zero_le _, .inl ⟨rfl, rfl⟩⟩ (by simpa using hn1) (fun x hx => by
              rcases hL1 x (by simpa using hx) with h | h
              · simp at h
              · exact h) hw2 (hr0.below hb1) hg ho hat
            have HP := Lib.hid PUSH
            have hsz : w.heap.size ≤ w3.heap.size := Nat.le_trans hw0.size hw2.size
            clear PUSH hown hD hNd hL hv o1 hn1 hL1 hw2 hr0 hw0 hb1
            go_wp2_with (at_builtin; go_must (refine wpList_append_lies _ rfl _ _ _ rfl w.heap.size 32 i0 _ 5 80 Tryz.underlying23 hi0 hz0 hz1 hz2 rfl (by omega) (.slice (some ⟨b, 0, none⟩) cl cap3) cl xs rfl (HO4.out.alloc _) ⟨w3.heap.size, 0, none⟩ 1 1 [.int .i64 3, .int .i64 0, .string ⟨#[122]⟩, .slice A2 0 cap2, .slice none 0 0] rfl rfl (World.news_of_block (cs := #[.int .i64 3, .int .i64 0, .string ⟨#[122]⟩, .slice A2 0 cap2, .slice none 0 0]) (fr := (0, 0)) (heap_alloc_new w3 _)) (by simp [Value.oneCell']) (by omega) (by unfold maxLen; omega) (by omega) (by simp; omega) (w3.heap.size + 1) (by simp) ?_); intro g4 cap4 w5 hown5 hgrow hat hlt5; have HS := Lib.hid (HP.out _ w5 g4 cap4 hgrow hown5 (by simpa using hat)); clear hown5 hgrow hat)
            go_roundg (gk - 1)
            case measure => omega
            case rel => exact ⟨_, cs ++ [⟨3, 0, ⟨#[122]⟩, .nil, .nil⟩], rfl, by rw [List.length_append, HCL.out]; simp only [List.length_cons, List.length_nil]; omega, by rw [List.length_append, HCL.out]; simp only [List.length_cons, List.length_nil]; omega, HS.out⟩
          · have HF : Hid (MaR rb (N + 100000) w (.returned (.slice (some ⟨b, 0, none⟩) cs.length cap3)) wr) := Lib.hid ⟨cs, b, 0, cap3, rfl, h4, hm.2.2.2.2, hcl, hm.2.1, hm.1.more (by omega)⟩
            have hl' : ¬ (cs.length : Int) ≤ 20 := by omega
            clear hm hcl hown0
            go_wp2_with fail
            go_ret
            exact HF.out
      · have t0 : (k == 0) = false := by rw [beq_eq_false_iff_ne]; exact z0
        obtain ⟨b, cap3, rfl, hcl, xs0, hown0⟩ := HM3.out.read
        by_cases z1 : k = 1
        · subst z1
          have hlc := hcl.1
          rw [hcs] at hlc
          by_cases hc1 : cap3 = 1
          · subst hc1
            have hj1 : j = 1 := by omega
            have HF : Hid (MaR rb (N + 100000) w (.returned (.slice (some ⟨b, 0, none⟩) 0 0)) w3) := Lib.hid ⟨[], b, 0, 0, rfl, Nat.zero_le _, fun c hc => by simp at hc, ⟨Nat.zero_le _, Nat.zero_le _, fun hp => absurd hp (Nat.lt_irrefl 0)⟩, HM3.out.2.1, HM3.out.1.more (by omega)⟩
            clear hcl hown0 hj1
            go_wp2_with fail
            go_ret
            exact HF.out
          · have hcd := ClS.drop hcl 1 (by omega)
            have HF : Hid (MaR rb (N + 100000) w (.returned (.slice (some ⟨b, 0 + 1 * 5, none⟩) (j - 1) (cap3 - 1))) w3) := Lib.hid ⟨cs.drop 1, b, 0 + 1 * 5, cap3 - 1, by rw [List.length_drop, hcs], by rw [List.length_drop]; omega, fun c hc => HM3.out.2.2.2.2 c (List.mem_of_mem_drop hc), hcd, HM3.out.2.1, HM3.out.1.more (by omega)⟩
            have hc2 : ¬ cap3 - 1 = 0 := by omega
            have hc3 : cap3 - 1 ≠ 0 := hc2
            clear hcl hown0 hcd
            go_wp2_with fail
            go_ret
            exact HF.out
        · have t1 : (k == 1) = false := by rw [beq_eq_false_iff_ne]; exact z1
          have HF : Hid (MaR rb (N + 100000) w (.returned (.slice (some ⟨b, 0, none⟩) j cap3)) w3) := Lib.hid ⟨cs, b, 0, cap3, by rw [hcs], by omega, HM3.out.2.2.2.2, hcl, HM3.out.2.1, HM3.out.1.more (by omega)⟩
          clear hcl hown0
          go_wp2_with fail
          go_ret
          exact HF.out
end Go.Proofs.YtihmgodiiohdnaaGreatDoor.rdr

/- spec.DrawProgramValid. Condition: the bytes lie in memory. -/
namespace Go.Proofs.YtihmgodiiohdnaaGreatDoor.rdr
open Go.RowKit

set_option maxRecDepth 100000 in
set_option maxHeartbeats 4000000 in
/-- spec.DrawProgramValid. -/
theorem drawPV_any (A : Option Addr) (len cap : Nat) (w : World) (hb : Bts w w.heap.size A len) (hc : len ≤ cap) (hm : cap ≤ maxLen) :
    Calls Tryz.prog 5 #[.slice A len cap] w fun e w' => ∃ (cs : List Cl) (b o cap' : Nat), e = .returned (.slice (some ⟨b, o, none⟩) cs.length cap') ∧ cs.length ≤ 21 ∧ (∀ c ∈ cs, okC c) ∧ ClS w' w.heap.size w'.heap.size cs (some ⟨b, o, none⟩) cap' ∧ Below w.heap.size w w' := by
  have C1 := open18_any A len cap w hb hc hm
  have H1 := Lib.hid C1
  clear C1 hb hc hm
  go_enter Tryz.func5, Tryz.ntmps5
  go_wp2_with fail
  refine H1.out.mono ?_
  rintro e w1 ⟨rfl, hr, hb⟩
  have hlr := hr.lt
  have HB1 := Lib.hid hb
  have HR1 := Lib.hid hr
  clear hb hr H1
  go_wp2_with fail
  refine (prog_any w.heap.size 0 w1 HR1.out (by omega)).mono ?_
  rintro e w2 ⟨cs, A1, cap1, rfl, h1, h2, h3, ⟨L, ho, hn, hL, hw⟩, hr2⟩
  have H2 := Lib.hid (mutAll_any w.heap.size (0 + 1) cs A1 cap1 w1.heap.size w2.heap.size w2 hr2 (by omega) (ho.clauses hL) (Nat.le_refl _) hlr h1 h2 h3)
  have HW2 := Lib.hid hw
  clear ho hn hL hw hr2 h1 h2 h3
  go_wp2_with fail
  refine H2.out.mono ?_
  rintro e w3 ⟨ds, b, o, cap2, rfl, h1, h2, h3, hw, hr⟩
  have hbb := HB1.out.trans ((HW2.out.trans hw).below (B := w.heap.size) HB1.out.size (fun x hx => by simp at hx; omega))
  have HF : Hid (ds.length ≤ 21 ∧ (∀ c ∈ ds, okC c) ∧ ClS w3 w.heap.size w3.heap.size ds (some ⟨b, o, none⟩) cap2 ∧ Below w.heap.size w w3) := Lib.hid ⟨h1, h2, h3.more (Nat.le_trans HB1.out.size HW2.out.size) (Nat.le_refl _), hbb⟩
  clear h1 h2 h3 hw hr hbb
  go_wp2_with fail
  go_ret
  exact ⟨ds, b, o, cap2, rfl, HF.out⟩
end Go.Proofs.YtihmgodiiohdnaaGreatDoor.rdr

/- Clauses: impl.goalsOf, clauseOf, ClauseValid. Condition: the clause lies in memory, both tables in their variables. -/
namespace Go.Proofs.YtihmgodiiohdnaaGreatDoor
open Go.RowKit

theorem infoG : (Tryz.prog.info? 87).map (fun i => (i.zero, i.size, i.bytes)) = some (some .nilIface, 1, 16) := by kernel_rfl

/-- The goals of the row f lie in block b from cell o on; what they lead to lies in blocks from lo to below hi. -/
def GlRow (w : World) (lo hi : Nat) : Fr → Nat → Nat → Prop
  | .nil, _, _ => True
  | .cons _ _ s kids rest, b, o => (∃ v A cap, w.cell? ⟨b, o, none⟩ = some v ∧ GIs (gk s kids.len) s A kids.len cap v ∧ NdS w lo hi kids A cap) ∧ GlRow w lo hi rest b (o + 1)
def GlS (w : World) (lo hi : Nat) (f : Fr) (A : Option Addr) (cap : Nat) : Prop :=
  f.len ≤ cap ∧ cap ≤ maxLen ∧ (0 < f.len → ∃ b, A = some ⟨b, 0, none⟩ ∧ lo ≤ b ∧ b < hi ∧ GlRow w lo hi f b 0)
section
variable {w w' : World} {lo hi lo' hi' : Nat}
theorem GlRow.keep (hk : ∀ p : Addr, lo ≤ p.block → p.block < hi → w'.cell? p = w.cell? p) (hL : lo' ≤ lo) (hH : hi ≤ hi') (f : Fr) :
    ∀ b o, (∀ j, j < f.len → w'.cell? ⟨b, o + j, none⟩ = w.cell? ⟨b, o + j, none⟩) → GlRow w lo hi f b o → GlRow w' lo' hi' f b o := by
  induction f with
  | nil => intro b o _ _; trivial
  | cons k n s kids rest _ ihr =>
    rintro b o hc ⟨⟨v, A, cap, hv, hg, hn⟩, hr⟩
    simp only [Fr.len] at hc
    refine ⟨⟨v, A, cap, (hc 0 (by omega)).trans hv, hg, hn.keep hk hL hH⟩, ihr b (o + 1) (fun j hj => ?_) hr⟩
    have := hc (j + 1) (by omega)
    rwa [show o + (j + 1) = o + 1 + j by omega] at this
theorem GlS.keep {f : Fr} {A : Option Addr} {cap : Nat} (h : GlS w lo hi f A cap) (hk : ∀ p : Addr, lo ≤ p.block → p.block < hi → w'.cell? p = w.cell? p) (hL : lo' ≤ lo) (hH : hi ≤ hi') : GlS w' lo' hi' f A cap :=
  ⟨h.1, h.2.1, fun hp => by
    obtain ⟨b', e, hl, hb, hrow⟩ := h.2.2 hp
    exact ⟨b', e, by omega, by omega, GlRow.keep hk hL hH f b' 0 (fun j _ => hk _ hl hb) hrow⟩⟩
/-- One goal more behind a row. -/
theorem GlRow.snoc (f : Fr) {k n : Int} {s : ByteArray} {kids : Fr} {v : Value} {A : Option Addr} {cap : Nat} (hg : GIs (gk s kids.len) s A kids.len cap v) (hn : NdS w lo hi kids A cap) :
    ∀ b o, GlRow w lo hi f b o → w.cell? ⟨b, o + f.len, none⟩ = some v → GlRow w lo hi (f.app (.cons k n s kids .nil)) b o := by
  induction f with
  | nil => intro b o _ hc; exact ⟨⟨v, A, cap, hc, hg, hn⟩, trivial⟩
  | cons k' n' s' kids' rest' _ ihr =>
    intro b o h hc
    refine ⟨h.1, ihr b (o + 1) h.2 ?_⟩
    rw [← hc]
    simp only [Fr.len]
    rw [show o + (rest'.len + 1) = o + 1 + rest'.len by omega]
end
/-- The loop's relation: j goals are made, in block g. -/
def GPart (w : World) (f : Fr) (g j : Nat) (wr : World) : Prop :=
  Below w.heap.size w wr ∧ (∃ cur, Blk wr g 87 cur ∧ cur.size = f.len) ∧ GlRow wr (g + 1) wr.heap.size (f.take j) g 0 ∧ w.heap.size ≤ g
theorem GPart.cell {w wr w2 : World} {f : Fr} {g j : Nat} (h : GPart w f g j wr) (hj : j < f.len) (hb : Below wr.heap.size wr w2) : (∃ v, w2.cell? ⟨g, j, none⟩ = some v) ∧ w2.frozen? ⟨g, j, none⟩ = false := by
  obtain ⟨_, ⟨cur, hblk, hs⟩, _⟩ := h
  have hb2 := hblk.below hb hblk.lt
  refine ⟨?_, hb2.frozen _⟩
  rw [hb2.cell]
  exact ⟨_, Array.getElem?_eq_getElem (by omega)⟩
theorem GPart.step {w wr w2 : World} {f : Fr} {g i lo : Nat} {k n : Int} {s : ByteArray} {kids rest : Fr} {v : Value} {A : Option Addr} {cap : Nat}
    (h : GPart w f g i wr) (hd : f.drop i = .cons k n s kids rest) (hi : i < f.len) (hb : Below wr.heap.size wr w2) (hlo : wr.heap.size ≤ lo) (hg : GIs (gk s kids.len) s A kids.len cap v) (hn : NdS w2 lo w2.heap.size kids A cap) :
    GPart w f g (i + 1) (w2.setCell ⟨g, i, none⟩ v) := by
  obtain ⟨hbw, ⟨cur, hblk, hs⟩, hrow, hgl⟩ := h
  have hlt := hblk.lt
  have b2 := hblk.below hb hlt
  have far : ∀ p : Addr, p.block ≠ g → (w2.setCell ⟨g, i, none⟩ v).cell? p = w2.cell? p := fun p hp => World.cell?_of_block (heap_setCell_other w2 ⟨g, i, none⟩ p.block v hp)
  have hsz : (w2.setCell ⟨g, i, none⟩ v).heap.size = w2.heap.size := by simp [World.setCell]
  have hlen : (f.take i).len = i := Fr.len_take i f (by omega)
  refine ⟨(hbw.trans (hb.mono hbw.size)).setCell hgl _, ⟨_, b2.set_ i v, by simpa using hs⟩, ?_, hgl⟩
  rw [Fr.take_succ i f hd, hsz]
  refine GlRow.snoc (f.take i) hg (hn.keep (fun p hp _ => far p (by omega)) (by omega) (Nat.le_refl _)) g 0 ?_ ?_
  · refine GlRow.keep (fun p hp hp' => ?_) (Nat.le_refl _) hb.size (f.take i) g 0 (fun j hj => ?_) hrow
    · rw [far p (by omega)]
      exact hb.cell hp'
    · rw [hlen] at hj
      rw [(b2.set_ i v).cell, hblk.cell]
      simp only [Array.getElem?_setIfInBounds]
      rw [if_neg (by omega)]
  · rw [hlen, (b2.set_ i v).cell]
    simp [Array.getElem?_setIfInBounds]
    omega
theorem GPart.start {w w1 : World} {f : Fr} {base : Nat} {xs : List Value} (hown : w1.ownsRow base 87 1 (.slice (some ⟨w.heap.size, 0, none⟩) f.len f.len) f.len xs) (hg : w.grownBy w1 none) : GPart w f w.heap.size 0 w1 := by
  rcases hown.2 with ⟨h', _⟩ | ⟨g', cap', cur, h', _, hb, _, _, hs, _⟩
  · simp at h'
  · simp only [Value.slice.injEq, Option.some.injEq, Addr.mk.injEq, and_true, true_and] at h'
    obtain ⟨rfl, rfl⟩ := h'
    exact ⟨(Below.refl _ _).grown hg (Nat.le_refl _) (fun k hk => by cases hk), ⟨cur, hb, by simpa using hs⟩, trivial, Nat.le_refl _⟩
theorem GIs.iface {t : Nat} {s : ByteArray} {A : Option Addr} {len cap : Nat} {v : Value} (h : GIs t s A len cap v) : ∃ T x, v = .iface T x := by
  rcases h with ⟨_, rfl⟩ | ⟨_, rfl⟩ | ⟨_, rfl⟩ <;> exact ⟨_, _, rfl⟩
/-- What impl.goalsOf leaves. -/
def GsOf (w : World) (f : Fr) (e : Ending) (w' : World) : Prop :=
  Below w.heap.size w w' ∧ ((goalsV f = false ∧ e = .returned (.tuple #[.slice none 0 0, .bool false])) ∨ (goalsV f = true ∧ ∃ A cap, e = .returned (.tuple #[.slice A f.len cap, .bool true]) ∧ GlS w' w.heap.size w'.heap.size f A cap))
theorem GPart.done {w wr : World} {f : Fr} {g : Nat} (h : GPart w f g f.len wr) (hl : f.len ≤ maxLen) : GlS wr w.heap.size wr.heap.size f (some ⟨g, 0, none⟩) f.len := by
  obtain ⟨hbw, ⟨cur, hblk, hs⟩, hrow, hgl⟩ := h
  rw [Fr.take_len] at hrow
  exact ⟨Nat.le_refl _, hl, fun _ => ⟨g, rfl, hgl, hblk.lt, GlRow.keep (fun _ _ _ => rfl) (by omega) (Nat.le_refl _) f g 0 (fun _ _ => rfl) hrow⟩⟩

set_option maxRecDepth 100000 in
set_option maxHeartbeats 2000000 in
/-- impl.goalsOf. -/
theorem goalsOf_any (f : Fr) (A : Option Addr) (cap lo hi : Nat) (w : World) (hk : KidsAt w lo hi f A cap) (hh : hi ≤ w.heap.size) (hnd : nodes f ≤ 1048576) (ht : nv.Tab w) (ho : op.OpTab w) :
    Calls Tryz.prog 43 #[.slice A f.len cap] w fun e w' => GsOf w f e w' := by
  have hl : f.len ≤ 1048576 := by have := len_le_nodes f; omega
  have HE : Hid (goalsV f = (decide (f.len ≤ 6) && allG f)) := Lib.hid rfl
  have HK := Lib.hid hk
  have HHI := Lib.hid hh
  have HND := Lib.hid hnd
  have HT := Lib.hid ht
  have HO := Lib.hid ho
  have hst := fun w1 base xs => GPart.start (w := w) (w1 := w1) (f := f) (base := base) (xs := xs)
  have HST := Lib.hid hst
  clear hk hh hnd ht ho hst
  generalize hn : f.len = len at *
  have HN := Lib.hid hn
  clear hn
  by_cases h6 : len ≤ 6
  · have t6 : ¬ ((len : Int) > 6) := by omega
    obtain ⟨i0, hi0, hz0, hz1, hz2⟩ := info_parts infoG
    go_enter Tryz.func43, Tryz.ntmps43
    go_wp2_with (at_make; go_must (refine wpList_make_full _ rfl _ _ 54 rfl w.heap.size 87 i0 _ 1 Tryz.underlying54 hi0 hz0 hz1 .i64 .i64 _ _ len rfl rfl rfl rfl (by rw [hz2]; omega) (by unfold maxLen; omega) (Nat.le_refl _) ?_); intro w1 hown hgrow)
    have hp0 := HST.out _ _ _ hown hgrow
    have HP0 := Lib.hid hp0
    clear hp0 hown hgrow HST hi0 hz0 hz1 hz2
    go_loopw [17] (fun i wr => ∃ (j : Nat), j ≤ len ∧ i = .int .i64 j ∧ allG (f.drop j) = allG f ∧ GPart w f w.heap.size j wr) (fun i _ => len - (intOf i).toNat)
    case atStart => exact ⟨0, Nat.zero_le _, rfl, rfl, HP0.out⟩
    case round =>
      obtain ⟨j, hj, rfl, hv, hpart⟩ := hrel
      have HPT := Lib.hid hpart
      by_cases hlt : j < len
      · have hltf : j < f.len := by rw [HN.out]; exact hlt
        obtain ⟨kk, nn, s, kids, hd⟩ := Fr.drop_cons j f hltf
        obtain ⟨b, o, rfl, hlb, hbb, hrow⟩ := HK.out.2.2 (by rw [HN.out]; omega)
        obtain ⟨hfit, A', cp, c0, c1, c2, c3, hkid⟩ := hrow.elem hd
        rw [hd] at hv
        have hv2 : (goalV kk nn s kids && allG (f.drop (j + 1))) = allG f := hv
        have hb := hpart.1
        have hlo : (⟨b, o, none⟩ : Addr).block < w.heap.size := Nat.lt_of_lt_of_le hbb HHI.out
        have k0 := (hb.cell (p := ⟨b, o + j * 4, none⟩) hlo).trans c0
        have k1 := (hb.cell (p := ⟨b, o + j * 4 + 1, none⟩) hlo).trans c1
        have k2 := (hb.cell (p := ⟨b, o + j * 4 + 2, none⟩) hlo).trans c2
        have k3 := (hb.cell (p := ⟨b, o + j * 4 + 3, none⟩) hlo).trans c3
        have hb1 : Below wr.heap.size wr (wr.alloc (.cells #[.int .i64 kk, .int .i64 nn, .string s, .slice A' kids.len cp] 30)) := (Below.refl _ _).alloc (Nat.le_refl _) _
        have hbw1 := hb.trans (hb1.mono hb.size)
        have C1 := goalOf_any kk nn s kids A' cp lo hi _ (hkid.below hbw1 HHI.out) (Nat.le_trans HHI.out hbw1.size) hfit (Nat.le_trans (nodes_drop_elem j f hd) HND.out) (HT.out.below hbw1) (HO.out.below hbw1)
        have cellsOf := fun w2 hb => HPT.out.cell (w2 := w2) hltf hb
        have stepOf := fun w2 l0 A cap v hb hlo hg hn => HPT.out.step (w2 := w2) (lo := l0) (A := A) (cap := cap) (v := v) hd hltf hb hlo hg hn
        have H1 := Lib.hid C1
        have HB := Lib.hid hb
        have HB1 := Lib.hid hb1
        have HEE := Lib.hid hv2
        have HC := Lib.hid cellsOf
        have HS := Lib.hid stepOf
        clear C1 hb hb1 hbw1 hv hv2 c0 c1 c2 c3 hkid hrow hfit hd hlo cellsOf stepOf hpart hltf
        go_wp2_with fail
        refine H1.out.mono ?_
        rintro e w2 ⟨hb2, hr⟩
        have hb12 : Below wr.heap.size wr w2 := HB1.out.trans (hb2.mono HB1.out.size)
        rcases hr with ⟨hok, rfl⟩ | ⟨hok, v, A3, cap3, rfl, hgi, hnds⟩
        · have HV : Hid (goalsV f = false) := Lib.hid (by rw [HE.out, ← HEE.out, hok]; simp)
          have HBW : Hid (Below w.heap.size w w2) := Lib.hid (HB.out.trans (hb12.mono HB.out.size))
          clear hok hb2 hb12 k0 k1 k2 k3
          go_wp2_with fail
          go_ret2
          exact ⟨HBW.out, .inl ⟨HV.out, rfl⟩⟩
        · obtain ⟨⟨v0, d0⟩, g0⟩ := HC.out w2 hb12
          have hstep := HS.out w2 _ A3 cap3 v hb12 HB1.out.size hgi hnds
          have HF : Hid (allG (f.drop (j + 1)) = allG f) := Lib.hid (by rw [← HEE.out, hok]; rfl)
          obtain ⟨T, x, rfl⟩ := hgi.iface
          have HSTEP := Lib.hid hstep
          clear hok hgi hnds hb2 hb12 hstep k0 k1 k2 k3
          go_wp2_with fail
          go_roundw
          case rel => exact ⟨j + 1, by omega, by go_num, HF.out, HSTEP.out⟩
          case measure => simp [intOf]; omega
      · obtain rfl : j = len := by omega
        have HV : Hid (goalsV f = true) := Lib.hid (by
          have h1 := Fr.drop_len f
          rw [HN.out] at h1
          rw [HE.out, ← hv, h1, decide_eq_true h6]; rfl)
        clear hpart hv
        go_wp2_with fail
        go_ret2
        have hfin := HPT.out
        rw [← HN.out] at hfin
        exact ⟨HPT.out.1, .inr ⟨HV.out, some ⟨w.heap.size, 0, none⟩, f.len, by rw [HN.out]; rfl, hfin.done (by rw [HN.out]; unfold maxLen; omega)⟩⟩
  · have t6 : (len : Int) > 6 := by omega
    have HV : Hid (goalsV f = false) := Lib.hid (by rw [HE.out, decide_eq_false h6]; rfl)
    go_enter Tryz.func43, Tryz.ntmps43
    go_wp2_with fail
    go_ret2
    exact ⟨Below.refl _ _, .inl ⟨HV.out, rfl⟩⟩
theorem results_cell_row3 {P : Program} {fn : Func} {p u : Tmp} {ty : TypeId} (h : fn.results = #[.cell p ty, .tmp u]) (tmps : Array Value) (w : World) (g : Nat) (t : TypeId) (cs : Array Value) (d : TypeDesc)
    (hp : tmps.getD p undef = .pointer (some ⟨g, 0, none⟩)) (hg : Blk w g t cs)
    (hu : P.underlying ty = some d) (hd : (match d with | .struct _ | .array _ _ => true | _ => false) = true) (hi : (P.info? ty).map (·.size) = some cs.size) :
    (results fn tmps).run P w = .ok (.tuple #[.agg cs, tmps.getD u undef]) w := results_cell_row2 h tmps w g t cs (0, 0) d hp hg hu hd hi

/-- What impl.clauseOf leaves. -/
def COf (w : World) (c : Cl) (e : Ending) (w' : World) : Prop :=
  Below w.heap.size w w' ∧ ((clauseV c = false ∧ e = .returned (.tuple #[.agg #[.string ⟨#[]⟩, .slice none 0 0, .slice none 0 0], .bool false])) ∨
    (clauseV c = true ∧ ∃ A cap G gcap, e = .returned (.tuple #[.agg #[.string c.s, .slice A c.kids.len cap, .slice G c.body.len gcap], .bool true]) ∧ NdS w' w.heap.size w'.heap.size c.kids A cap ∧ GlS w' w.heap.size w'.heap.size c.body G gcap))
theorem set3 {w : World} {g : Nat} {t : TypeId} {x0 x1 x2 : Value} (h : Blk w g t #[x0, x1, x2]) (a b c : Value) : Blk (((w.setCell ⟨g, 0, none⟩ a).setCell ⟨g, 1, none⟩ b).setCell ⟨g, 2, none⟩ c) g t #[a, b, c] := ((h.set_ 0 a).set_ 1 b).set_ 2 c

set_option maxRecDepth 100000 in
set_option maxHeartbeats 2000000 in
/-- impl.clauseOf. -/
theorem clauseOf_any (c : Cl) (A B : Option Addr) (cap capB lo hi : Nat) (w : World) (hk : KidsAt w lo hi c.kids A cap) (hkb : KidsAt w lo hi c.body B capB) (hh : hi ≤ w.heap.size) (hf : Fits c.k c.n c.s) (hnd : nodes c.kids ≤ 1048576) (hndb : nodes c.body ≤ 1048576) (ht : nv.Tab w) (ho : op.OpTab w) :
    Calls Tryz.prog 26 #[.agg #[.int .i64 c.k, .int .i64 c.n, .string c.s, .slice A c.kids.len cap, .slice B c.body.len capB]] w fun e w' => COf w c e w' := by
  obtain ⟨k, n, s, f, g⟩ := c
  simp only at *
  have HE : Hid (clauseV ⟨k, n, s, f, g⟩ = (plainV k n s f && goalsV g)) := Lib.hid rfl
  have hb0 : Below w.heap.size w ((w.alloc (.cells #[.int .i64 k, .int .i64 n, .string s, .slice A f.len cap, .slice B g.len capB] 32)).alloc (.cells #[.string ⟨#[]⟩, .slice none 0 0, .slice none 0 0] 56)) := two_alloc w _ _
  have hq0 : Blk ((w.alloc (.cells #[.int .i64 k, .int .i64 n, .string s, .slice A f.len cap, .slice B g.len capB] 32)).alloc (.cells #[.string ⟨#[]⟩, .slice none 0 0, .slice none 0 0] 56)) w.heap.size 32 #[.int .i64 k, .int .i64 n, .string s, .slice A f.len cap, .slice B g.len capB] := (Blk.new w _ _).alloc _
  have hq1 : Blk ((w.alloc (.cells #[.int .i64 k, .int .i64 n, .string s, .slice A f.len cap, .slice B g.len capB] 32)).alloc (.cells #[.string ⟨#[]⟩, .slice none 0 0, .slice none 0 0] 56)) (w.heap.size + 1) 56 #[.string ⟨#[]⟩, .slice none 0 0, .slice none 0 0] := by
    have h := Blk.new (w.alloc (.cells #[.int .i64 k, .int .i64 n, .string s, .slice A f.len cap, .slice B g.len capB] 32)) 56 #[.string ⟨#[]⟩, .slice none 0 0, .slice none 0 0]
    simpa using h
  have e9 : ((w.alloc (.cells #[.int .i64 k, .int .i64 n, .string s, .slice A f.len cap, .slice B g.len capB] 32)).alloc (.cells #[.string ⟨#[]⟩, .slice none 0 0, .slice none 0 0] 56)).heap.size = w.heap.size + 1 + 1 := by simp
  have C1 := plainOf_any k n s f A cap lo hi _ (hk.below hb0 hh) (Nat.le_trans hh hb0.size) hf hnd (ht.below hb0) (ho.below hb0)
  have C2 := fun w1 (hb : Below w.heap.size w w1) => goalsOf_any g B capB lo hi w1 (hkb.below hb hh) (Nat.le_trans hh hb.size) hndb (ht.below hb) (ho.below hb)
  unfold POf at C1
  rw [e9] at C1
  generalize plainV k n s f = v1 at *
  have H1 := Lib.hid C1
  have H2 := Lib.hid C2
  have HB0 := Lib.hid hb0
  have HQ0 := Lib.hid hq0
  have HQ1 := Lib.hid hq1
  have HS0 := Lib.hid e9
  clear C1 C2 hk hkb hf hnd hndb ht ho hb0 hq0 hq1 e9
  go_enter Tryz.func26, Tryz.ntmps26
  go_wp2_with fail
  refine H1.out.mono ?_
  rintro e w2 ⟨hb, hr⟩
  rw [← HS0.out] at hb
  have hq0 := HQ0.out.below hb HQ0.out.lt
  have hq1 := HQ1.out.below hb HQ1.out.lt
  have hbw := HB0.out.trans (hb.mono HB0.out.size)
  have hw2 : w.heap.size + 1 < w2.heap.size := by have := hb.size; rw [HS0.out] at this; exact this
  have hw1 : w.heap.size < w2.heap.size := by omega
  have a4 := hq0.cell 4
  have r0 := hq1.cell 0
  have r1 := hq1.cell 1
  have r2 := hq1.cell 2
  have f0 := hq1.frozen 0
  have f1 := hq1.frozen 1
  have f2 := hq1.frozen 2
  simp only [List.getElem?_toArray, List.getElem?_cons_zero, List.getElem?_cons_succ] at a4 r0 r1 r2
  have HBW := Lib.hid hbw
  have HR1 := Lib.hid hq1
  clear hb hq0 hq1 hbw
  rcases hr with ⟨hok, s', A', len', cap', rfl⟩ | ⟨hok, A2, cap2, rfl, hnds⟩
  · have HV : Hid (clauseV ⟨k, n, s, f, g⟩ = false) := Lib.hid (by rw [HE.out, hok]; rfl)
    clear hok
    go_wp2_with fail
    refine bodyPost_ret (v := .tuple #[.agg #[.string ⟨#[]⟩, .slice none 0 0, .slice none 0 0], .bool false]) ?_ rfl ⟨?_, .inl ⟨HV.out, rfl⟩⟩
    · exact results_cell_row3 Tryz.results26 _ _ (w.heap.size + 1) _ _ _ rfl ((set3 HR1.out _ _ _).alloc _) Tryz.underlying56 rfl (by kernel_rfl)
    · exact (((HBW.out.setCell (by simp) _).setCell (by simp) _).setCell (by simp) _).alloc (by simpa [World.setCell] using HBW.out.size) _
  · subst hok
    have hb2 : Below w.heap.size w (w2.alloc (.cells #[.string s, .slice A2 f.len cap2] 53)) := HBW.out.alloc HBW.out.size _
    have C2 := H2.out _ hb2
    have hp := Blk.new w2 53 #[.string s, .slice A2 f.len cap2]
    have hr := HR1.out.alloc (.cells #[.string s, .slice A2 f.len cap2] 53)
    have hnd2 : NdS (w2.alloc (.cells #[.string s, .slice A2 f.len cap2] 53)) (w.heap.size + 1 + 1) w2.heap.size f A2 cap2 := hnds.keep (fun p _ hp => World.cell?_of_block (Below.heap_alloc _ _ _ hp)) (Nat.le_refl _) (Nat.le_refl _)
    have H3 := Lib.hid C2
    have HB2 := Lib.hid hb2
    have HP := Lib.hid hp
    have HR := Lib.hid hr
    have HND2 := Lib.hid hnd2
    clear C2 hb2 hp hr hnd2 hnds r0 r1 r2 f0 f1 f2
    go_wp2_with fail
    refine H3.out.mono ?_
    rintro e w3 ⟨hb, hr⟩
    have hp3 := HP.out.below hb HP.out.lt
    have hr3 := HR.out.below hb HR.out.lt
    have hb3 := HB2.out.trans (hb.mono HB2.out.size)
    have hs3 := hb.size
    have e8 : (w2.alloc (.cells #[.string s, .slice A2 f.len cap2] 53)).heap.size = w2.heap.size + 1 := by simp
    rw [e8] at hs3
    have hnd3 : NdS w3 (w.heap.size + 1 + 1) w3.heap.size f A2 cap2 := HND2.out.keep (fun p _ hp => hb.cell (by rw [e8]; omega)) (Nat.le_refl _) (by omega)
    have p0 := hp3.cell 0
    have p1 := hp3.cell 1
    have r0 := hr3.cell 0
    have r1 := hr3.cell 1
    have r2 := hr3.cell 2
    have f0 := hr3.frozen 0
    have f1 := hr3.frozen 1
    have f2 := hr3.frozen 2
    simp only [List.getElem?_toArray, List.getElem?_cons_zero, List.getElem?_cons_succ] at p0 p1 r0 r1 r2
    have HB3 := Lib.hid hb3
    have HR3 := Lib.hid hr3
    have HND3 := Lib.hid hnd3
    clear hp3 hr3 hb3 hnd3 hb a4
    rcases hr with ⟨hok, rfl⟩ | ⟨hok, G, gcap, rfl, hgl⟩
    · have HV : Hid (clauseV ⟨k, n, s, f, g⟩ = false) := Lib.hid (by rw [HE.out, hok]; rfl)
      clear hok e8
      go_wp2_with fail
      refine bodyPost_ret (v := .tuple #[.agg #[.string ⟨#[]⟩, .slice none 0 0, .slice none 0 0], .bool false]) ?_ rfl ⟨?_, .inl ⟨HV.out, rfl⟩⟩
      · exact results_cell_row3 Tryz.results26 _ _ (w.heap.size + 1) _ _ _ rfl (set3 HR3.out _ _ _) Tryz.underlying56 rfl (by kernel_rfl)
      · exact ((HB3.out.setCell (by simp) _).setCell (by simp) _).setCell (by simp) _
    · have HV : Hid (clauseV ⟨k, n, s, f, g⟩ = true) := Lib.hid (by rw [HE.out, hok]; rfl)
      rw [e8] at hgl
      have hfin : ∀ a b d : Value, COf w ⟨k, n, s, f, g⟩ (.returned (.tuple #[.agg #[.string s, .slice A2 f.len cap2, .slice G g.len gcap], .bool true])) (((w3.setCell ⟨w.heap.size + 1, 0, none⟩ a).setCell ⟨w.heap.size + 1, 1, none⟩ b).setCell ⟨w.heap.size + 1, 2, none⟩ d) := fun a b d => by
        have far : ∀ p : Addr, w.heap.size + 1 + 1 ≤ p.block → (((w3.setCell ⟨w.heap.size + 1, 0, none⟩ a).setCell ⟨w.heap.size + 1, 1, none⟩ b).setCell ⟨w.heap.size + 1, 2, none⟩ d).cell? p = w3.cell? p := fun p hp => by
          refine World.cell?_of_block ?_
          rw [heap_setCell_other _ _ _ _ (by show p.block ≠ w.heap.size + 1; omega), heap_setCell_other _ _ _ _ (by show p.block ≠ w.heap.size + 1; omega), heap_setCell_other _ _ _ _ (by show p.block ≠ w.heap.size + 1; omega)]
        have hsz : (((w3.setCell ⟨w.heap.size + 1, 0, none⟩ a).setCell ⟨w.heap.size + 1, 1, none⟩ b).setCell ⟨w.heap.size + 1, 2, none⟩ d).heap.size = w3.heap.size := by simp [World.setCell]
        exact ⟨((HB3.out.setCell (by simp) _).setCell (by simp) _).setCell (by simp) _, .inr ⟨HV.out, A2, cap2, G, gcap, rfl, HND3.out.keep (fun p hl _ => far p hl) (by omega) (by rw [hsz]; exact Nat.le_refl _), hgl.keep (fun p hl _ => far p (by omega)) (by omega) (by rw [hsz]; exact Nat.le_refl _)⟩⟩
      have HF := Lib.hid hfin
      clear hfin hgl hok e8
      generalize f.len = fl at *
      generalize g.len = gl at *
      go_wp2_with fail
      refine bodyPost_ret (v := .tuple #[.agg #[.string s, .slice A2 fl cap2, .slice G gl gcap], .bool true]) ?_ rfl (HF.out _ _ _)
      exact results_cell_row3 Tryz.results26 _ _ (w.heap.size + 1) _ _ _ rfl (set3 HR3.out _ _ _) Tryz.underlying56 rfl (by kernel_rfl)

end Go.Proofs.YtihmgodiiohdnaaGreatDoor

/- The keys of the clauses' index: a name and a number of arguments; which clauses stand at a key. No condition. -/
namespace Go.Proofs.YtihmgodiiohdnaaGreatDoor
open Go.RowKit Go.WideMaps Go.Maps Go.ChangeShapes
open Classical

theorem laidOutK : laidOutB Tryz.prog = true := by kernel_rfl
theorem rowK : (80 : TypeId) < Tryz.prog.types.size := of_decide_eq_true (by kernel_rfl)
theorem typeK : Tryz.prog.keyType 80 = true := by kernel_rfl
theorem cellsK : Tryz.prog.cellsOf 80 = 2 := by kernel_rfl
set_option maxRecDepth 100000 in
theorem lawK : Keyed Tryz.prog 80 := Keyed.of_law (deep_law_laid laidOutK (m := 3) (by omega) rowK (by kernel_rfl) (by kernel_rfl))
/-- A key that is a struct of a string and a number, in whatever program. -/
theorem key_struct {P : Program} {k ks ki : TypeId} {f0 f1 : Field} (hu : P.underlying k = some (.struct #[f0, f1])) (ht : P.keyType k = true) (hc : P.cellsOf k = 2) (h0 : f0.type = ks) (h1 : f1.type = ki) (o0 : f0.offset = 0) (o1 : f1.offset = 1) (n0 : f0.name ≠ "_") (n1 : f1.name ≠ "_")
    (us : P.underlying ks = some .string) (ui : P.underlying ki = some (.int .i64)) (cs : P.cellsOf ks = 1) (ci : P.cellsOf ki = 1) (d : Nat) (hd : P.types.size = d + 1) (s : ByteArray) (a : Int) (hs : s.size ≤ maxLen) (hw : (Lit.int .i64 a).wf = true) :
    keyOf P k (.agg #[.string s, .int .i64 a]) = some (.string (keyBytes [.string s.data.toList, .int .i64 a])) := by
  unfold keyOf
  simp [hu, ht, Value.formed, hc, hd, Program.keyLits, h0, h1, o0, o1, n0, n1, us, ui, cs, ci, Value.cells, hs, hw]
/-- The key of a name and a number of arguments. -/
def pk (s : ByteArray) (a : Nat) : Lit := .string (keyBytes [.string s.data.toList, .int .i64 (a : Int)])
set_option maxRecDepth 100000 in
theorem sizeK : Tryz.prog.types.size = (Tryz.prog.types.size - 1) + 1 := by
  exact (Nat.sub_add_cancel (Nat.succ_le_of_lt (Nat.lt_of_le_of_lt (Nat.zero_le _) rowK))).symm
set_option maxRecDepth 100000 in
theorem pk_key (s : ByteArray) (a : Nat) (hs : s.size ≤ maxLen) (ha : a ≤ maxLen) : keyOf Tryz.prog 80 (.agg #[.string s, .int .i64 (a : Int)]) = some (pk s a) :=
  key_struct Tryz.underlying80 typeK cellsK rfl rfl rfl rfl (by decide) (by decide) Tryz.underlying9 Tryz.underlying3 (by kernel_rfl) (by kernel_rfl) _ sizeK s a hs (by unfold maxLen at ha; exact WalkArith.wf_i64 (by omega))
theorem pk_inj {s s' : ByteArray} {a a' : Nat} (hs : s.size ≤ maxLen) (ha : a ≤ maxLen) (hs' : s'.size ≤ maxLen) (ha' : a' ≤ maxLen) (h : pk s a = pk s' a') : s = s' ∧ a = a' := by
  have h1 := lawK.inj (pk_key s a hs ha) ((pk_key s' a' hs' ha').trans (by rw [h]))
  simp at h1
  exact ⟨h1.1, by omega⟩

/-- The clauses at a key, counted from i on. -/
noncomputable def idxF : List Cl → Int → Lit → List Int
  | [], _, _ => []
  | c :: cs, i, l => if pk c.s c.kids.len = l then i :: idxF cs (i + 1) l else idxF cs (i + 1) l
theorem idxF_snoc (l : Lit) (c : Cl) : ∀ (cs : List Cl) (i : Int), idxF (cs ++ [c]) i l = idxF cs i l ++ (if pk c.s c.kids.len = l then [i + cs.length] else [])
  | [], i => by
    simp only [List.nil_append, idxF]
    split <;> simp
  | c' :: cs, i => by
    have ih := idxF_snoc l c cs (i + 1)
    have e : i + 1 + (cs.length : Int) = i + ((c' :: cs).length : Nat) := by simp only [List.length_cons]; omega
    rw [e] at ih
    simp only [List.cons_append, idxF, ih]
    split <;> rfl
theorem idxF_len (l : Lit) : ∀ (cs : List Cl) (i : Int), (idxF cs i l).length ≤ cs.length
  | [], _ => Nat.le_refl _
  | c :: cs, i => by
    have := idxF_len l cs (i + 1)
    unfold idxF
    split
    · simp only [List.length_cons]; omega
    · simp only [List.length_cons]; omega
/-- The index D gives the numbers zs at the key l. -/
def HoldsD (D : DataW Unit) (l : Lit) (zs : List Int) : Prop := (zs = [] ∧ D.atKey l .nil = .nil) ∨ (zs ≠ [] ∧ D.atKey l .nil = .slice (lits .i64 zs) [])
theorem lits_inj : ∀ (a b : List Int), (lits .i64 a : List (DataW Unit)) = lits .i64 b → a = b := by
  intro a b h
  have h' := congrArg (List.map fun d : DataW Unit => match d with | .lit (.int _ n) => n | _ => 0) h
  have e : ∀ x : List Int, (lits .i64 x : List (DataW Unit)).map (fun d : DataW Unit => match d with | .lit (.int _ n) => n | _ => 0) = x := by
    intro x
    unfold lits
    rw [List.map_map]
    exact (List.map_congr_left (fun _ _ => rfl)).trans (List.map_id x)
  rw [e, e] at h'
  exact h'
/-- What the look-up hands over is what the index holds. -/
theorem HoldsD.eq {w : World} {base : Nat} {e : TypeId} {v : Value} {zs zs' : List Int} {D : DataW Unit} {l : Lit} (h : HoldsD D l zs) (hat : D.atKey l .nil = rowDatum .i64 v zs') (ho : w.ownsInts base e .i64 v zs') : zs' = zs := by
  rcases ho.datum (H := Unit) with ⟨h1, h2⟩ | h1
  · rw [h1] at hat
    rcases h with ⟨rfl, _⟩ | ⟨_, h3⟩
    · exact h2
    · rw [hat] at h3; cases h3
  · rw [h1] at hat
    rcases h with ⟨_, h3⟩ | ⟨_, h3⟩
    · rw [hat] at h3; cases h3
    · rw [hat] at h3
      injection h3 with h4 _
      exact lits_inj _ _ h4
theorem HoldsD.step {w : World} {base : Nat} {e : TypeId} {v' : Value} {D : DataW Unit} {cs : List Cl} {c : Cl} (hD : ∀ l, HoldsD D l (idxF cs 0 l)) (hM : IsMap D) (ho : w.ownsInts base e .i64 v' (idxF cs 0 (pk c.s c.kids.len) ++ [(cs.length : Int)])) :
    ∀ l, HoldsD (D.put (pk c.s c.kids.len) (rowDatum .i64 v' (idxF cs 0 (pk c.s c.kids.len) ++ [(cs.length : Int)]))) l (idxF (cs ++ [c]) 0 l) := by
  intro l
  rw [idxF_snoc]
  rw [ho.datum_pos (H := Unit) (by simp)]
  by_cases h : pk c.s c.kids.len = l
  · subst h
    rw [if_pos rfl, Int.zero_add]
    refine .inr ⟨by simp, ?_⟩
    exact atKey_put_same hM (by trivial) _ _
  · rw [if_neg h, List.append_nil]
    rcases hD l with ⟨h1, h2⟩ | ⟨h1, h2⟩
    · exact .inl ⟨h1, by rw [atKey_put_other (fun e => h e.symm), h2]⟩
    · exact .inr ⟨h1, by rw [atKey_put_other (fun e => h e.symm), h2]⟩
end Go.Proofs.YtihmgodiiohdnaaGreatDoor

/- laws.toClause, toClauseS. Condition: the clauses lie in memory; no more than the law's budget. -/
namespace Go.Proofs.YtihmgodiiohdnaaGreatDoor
open Go.RowKit

theorem cset5 {w : World} {g : Nat} {t : TypeId} {x0 x1 x2 x3 x4 : Value} (h : Blk w g t #[x0, x1, x2, x3, x4]) (a b c d e : Value) : Blk (((((w.setCell ⟨g, 0, none⟩ a).setCell ⟨g, 1, none⟩ b).setCell ⟨g, 2, none⟩ c).setCell ⟨g, 3, none⟩ d).setCell ⟨g, 4, none⟩ e) g t #[a, b, c, d, e] := ((((h.set_ 0 a).set_ 1 b).set_ 2 c).set_ 3 d).set_ 4 e
theorem ccells5 {w : World} {g : Nat} {t : TypeId} {a b c d e : Value} (h : Blk w g t #[a, b, c, d, e]) :
    w.cell? ⟨g, 0, none⟩ = some a ∧ w.cell? ⟨g, 1, none⟩ = some b ∧ w.cell? ⟨g, 2, none⟩ = some c ∧ w.cell? ⟨g, 3, none⟩ = some d ∧ w.cell? ⟨g, 4, none⟩ = some e := ⟨h.cell 0, h.cell 1, h.cell 2, h.cell 3, h.cell 4⟩
theorem cfrozen5 {w : World} {g : Nat} {t : TypeId} {cs : Array Value} (h : Blk w g t cs) :
    w.frozen? ⟨g, 0, none⟩ = false ∧ w.frozen? ⟨g, 1, none⟩ = false ∧ w.frozen? ⟨g, 2, none⟩ = false ∧ w.frozen? ⟨g, 3, none⟩ = false ∧ w.frozen? ⟨g, 4, none⟩ = false := ⟨h.frozen 0, h.frozen 1, h.frozen 2, h.frozen 3, h.frozen 4⟩
theorem madeCl_of {w w3 w2 w4 w5 w6 : World} {c : Cl} {A B : Option Addr} {cap capB : Nat} (hb0 : Below w.heap.size w w3) (hm : Made w3 c.kids A cap w2) (hs4 : w4.heap.size = w2.heap.size) (h4 : ∀ x, w3.heap.size ≤ x → w4.heap[x]? = w2.heap[x]?) (hb4 : Below w.heap.size w2 w4)
    (hm2 : Made w4 c.body B capB w5) (hs6 : w6.heap.size = w5.heap.size) (h6 : ∀ x, w3.heap.size ≤ x → w6.heap[x]? = w5.heap[x]?) (hb6 : Below w.heap.size w5 w6) : MadeCl w c A cap B capB w6 := by
  obtain ⟨L1, o1, n1, l1, b1⟩ := hm
  obtain ⟨L2, o2, n2, l2, b2⟩ := hm2
  have s1 := hb0.size
  have s2 := b1.size
  have s3 := b2.size
  refine ⟨L1, L2, o1.keep fun x hx => ?_, o2.keep fun x hx => h6 x ?_, List.nodup_append.2 ⟨n1, n2, fun a ha b hb => ?_⟩, fun x hx => ?_, ?_⟩
  · have := l1 x hx
    rw [h6 x this.1, b2.block x (by omega), h4 x this.1]
  · have := l2 x hx; omega
  · have := l1 a ha; have := l2 b hb; omega
  · rcases List.mem_append.1 hx with hx | hx
    · have := l1 x hx; omega
    · have := l2 x hx; omega
  · exact ((hb0.trans (b1.mono s1)).trans hb4).trans ((b2.mono (by omega)).trans hb6)

/-- The loop's relation: k clauses are made, in block g. -/
def PartC (w : World) (cs : List Cl) (g k : Nat) (wr : World) : Prop :=
  ∃ cur L, Blk wr g 32 cur ∧ cur.size = cs.length * 5 ∧ OwnC wr (cs.take k) g 0 L ∧ L.Nodup ∧ (∀ x ∈ L, g < x ∧ x < wr.heap.size) ∧ w.heap.size ≤ g ∧ Below w.heap.size w wr
theorem PartC.below {w wr : World} {cs : List Cl} {g k : Nat} (h : PartC w cs g k wr) : Below w.heap.size w wr := by
  obtain ⟨cur, L, _, _, _, _, _, _, hb⟩ := h; exact hb
/-- What the store into element k asks. -/
theorem PartC.cells {w wr w2 : World} {cs : List Cl} {g k : Nat} (h : PartC w cs g k wr) (hk : k < cs.length) (hb : Below wr.heap.size wr w2) (j : Nat) (hj : j < 5) :
    (∃ v, w2.cell? ⟨g, k * 5 + j, none⟩ = some v) ∧ w2.frozen? ⟨g, k * 5 + j, none⟩ = false := by
  obtain ⟨cur, L, hblk, hs, _⟩ := h
  have hb2 := hblk.below hb hblk.lt
  refine ⟨?_, hb2.frozen _⟩
  rw [hb2.cell]
  exact ⟨_, Array.getElem?_eq_getElem (by omega)⟩
theorem take_cl (cs : List Cl) (i : Nat) {c : Cl} {rest : List Cl} (h : cs.drop i = c :: rest) : cs.take (i + 1) = cs.take i ++ [c] := by
  have hi : cs[i]? = some c := by
    have := List.getElem?_drop (xs := cs) (i := i) (j := 0)
    rw [h] at this
    simpa using this.symm
  rw [List.take_add_one, hi]
  rfl
/-- One clause more. -/
theorem PartC.step {w wr w2 : World} {cs : List Cl} {g i : Nat} {c : Cl} {rest : List Cl} {A B : Option Addr} {cap capB : Nat} (h : PartC w cs g i wr) (hd : cs.drop i = c :: rest) (hi : i < cs.length) (hf : Fits c.k c.n c.s) (hm : MadeCl wr c A cap B capB w2) :
    PartC w cs g (i + 1) (((((w2.setCell ⟨g, i * 5, none⟩ (.int .i64 c.k)).setCell ⟨g, i * 5 + 1, none⟩ (.int .i64 c.n)).setCell ⟨g, i * 5 + 2, none⟩ (.string c.s)).setCell ⟨g, i * 5 + 3, none⟩ (.slice A c.kids.len cap)).setCell ⟨g, i * 5 + 4, none⟩ (.slice B c.body.len capB)) := by
  obtain ⟨cur, L, hblk, hs, ho, hn, hL, hg, hb⟩ := h
  obtain ⟨L1, L2, ho1, ho2, hn', hL', hb'⟩ := hm
  have hblk2 := hblk.below hb' hblk.lt
  have hlt := hblk.lt
  have b1 := ((((hblk2.set_ (i * 5) (.int .i64 c.k)).set_ (i * 5 + 1) (.int .i64 c.n)).set_ (i * 5 + 2) (.string c.s)).set_ (i * 5 + 3) (.slice A c.kids.len cap)).set_ (i * 5 + 4) (.slice B c.body.len capB)
  have far : ∀ x, x ≠ g → (((((w2.setCell ⟨g, i * 5, none⟩ (.int .i64 c.k)).setCell ⟨g, i * 5 + 1, none⟩ (.int .i64 c.n)).setCell ⟨g, i * 5 + 2, none⟩ (.string c.s)).setCell ⟨g, i * 5 + 3, none⟩ (.slice A c.kids.len cap)).setCell ⟨g, i * 5 + 4, none⟩ (.slice B c.body.len capB)).heap[x]? = w2.heap[x]? := fun x hx => by
    rw [heap_setCell_other _ _ _ _ (show x ≠ g from hx), heap_setCell_other _ _ _ _ (show x ≠ g from hx), heap_setCell_other _ _ _ _ (show x ≠ g from hx), heap_setCell_other _ _ _ _ (show x ≠ g from hx), heap_setCell_other _ _ _ _ (show x ≠ g from hx)]
  have hsz : (((((w2.setCell ⟨g, i * 5, none⟩ (.int .i64 c.k)).setCell ⟨g, i * 5 + 1, none⟩ (.int .i64 c.n)).setCell ⟨g, i * 5 + 2, none⟩ (.string c.s)).setCell ⟨g, i * 5 + 3, none⟩ (.slice A c.kids.len cap)).setCell ⟨g, i * 5 + 4, none⟩ (.slice B c.body.len capB)).heap.size = w2.heap.size := by simp [World.setCell]
  generalize hw3 : ((((w2.setCell ⟨g, i * 5, none⟩ (.int .i64 c.k)).setCell ⟨g, i * 5 + 1, none⟩ (.int .i64 c.n)).setCell ⟨g, i * 5 + 2, none⟩ (.string c.s)).setCell ⟨g, i * 5 + 3, none⟩ (.slice A c.kids.len cap)).setCell ⟨g, i * 5 + 4, none⟩ (.slice B c.body.len capB) = w3 at *
  have hb3 : Below w.heap.size w w3 := by
    subst hw3
    exact (((((hb.trans (hb'.mono hb.size)).setCell hg _).setCell hg _).setCell hg _).setCell hg _).setCell hg _
  have hlen : (cs.take i).length = i := by simp; omega
  have htk := take_cl cs i hd
  refine ⟨_, L ++ (L1 ++ L2), b1, by simpa using hs, ?_, ?_, ?_, hg, hb3⟩
  · rw [htk]
    have own1 : OwnS w3 c.kids A cap L1 := ho1.keep fun x hx => far x (by have := (hL' x (by simp [hx])).1; omega)
    have own2 : OwnS w3 c.body B capB L2 := ho2.keep fun x hx => far x (by have := (hL' x (by simp [hx])).1; omega)
    refine OwnC.snoc hf own1 own2 (cs.take i) g 0 L ?_ ?_ ?_ ?_ ?_ ?_
    · refine OwnC.keep (cs.take i) g 0 L ho (fun j hj => ?_) fun x hx => ?_
      · rw [hlen] at hj
        rw [b1.cell, hblk.cell]
        simp only [Array.getElem?_setIfInBounds]
        rw [if_neg (by omega), if_neg (by omega), if_neg (by omega), if_neg (by omega), if_neg (by omega)]
      · rw [far x (by have := (hL x hx).1; omega)]
        exact hb'.block x (hL x hx).2
    all_goals
      rw [hlen, b1.cell]
      simp [Array.getElem?_setIfInBounds]
      omega
  · refine List.nodup_append.2 ⟨hn, hn', fun a ha b hb => ?_⟩
    have := (hL a ha).2
    have := (hL' b hb).1
    omega
  · intro x hx
    rw [hsz]
    rcases List.mem_append.1 hx with hx | hx
    · have := (hL x hx); have := hb'.size; omega
    · have := hL' x hx; omega
theorem PartC.start {w w1 : World} {cs : List Cl} {base : Nat} {xs : List Value} (hown : w1.ownsRow base 32 5 (.slice (some ⟨w.heap.size, 0, none⟩) cs.length cs.length) cs.length xs) (hg : w.grownBy w1 none) : PartC w cs w.heap.size 0 w1 := by
  rcases hown.2 with ⟨h', _⟩ | ⟨g', cap', cur, h', _, hb, _, _, hs, _⟩
  · simp at h'
  · simp only [Value.slice.injEq, Option.some.injEq, Addr.mk.injEq, and_true, true_and] at h'
    obtain ⟨rfl, rfl⟩ := h'
    exact ⟨cur, [], hb, hs, rfl, List.nodup_nil, fun x hx => by simp at hx, Nat.le_refl _, (Below.refl _ _).grown hg (Nat.le_refl _) (fun k hk => by cases hk)⟩
theorem PartC.done {w wr : World} {cs : List Cl} {g : Nat} (h : PartC w cs g cs.length wr) (hl : cs.length ≤ maxLen) : MadeC w cs (some ⟨g, 0, none⟩) cs.length wr := by
  obtain ⟨cur, L, hblk, hs, ho, hn, hL, hg, hb⟩ := h
  rw [List.take_length] at ho
  refine ⟨g :: L, ⟨Nat.le_refl _, hl, g, L, cur, rfl, rfl, hblk, hs, ho⟩, List.nodup_cons.2 ⟨fun hx => ?_, hn⟩, fun x hx => ?_, hb⟩
  · have := (hL g hx).1; omega
  · rcases List.mem_cons.1 hx with rfl | hx
    · exact ⟨hg, hblk.lt⟩
    · have := hL x hx; omega

end Go.Proofs.YtihmgodiiohdnaaGreatDoor
