/- spec.l1Draw, l1Some. Condition: the source lies in memory. -/
import Derived.Test.YtkgihpddjppmdaaDoorProg
import Derived.Test.YtkgihpddjppmdaaDoorDrX
import Derived.Deep.RegionLaw
namespace Go.Proofs.YtkgihpddjppmdaaDoor
open Go.RowKit

/-- The state of a call that draws: its result's block is still empty. -/
def DqI (w : World) (rb N : Nat) (wr : World) : Prop := Rd wr rb N ∧ Wrote [rb] w wr ∧ Blk wr w.heap.size 25 #[.int .i64 0, .int .i64 0, .string ⟨#[]⟩, .slice none 0 0] ∧ rb < w.heap.size
theorem DqI.step {w wr w2 : World} {rb N N2 : Nat} (h : DqI w rb N wr) (hr : Rd w2 rb N2) (hw : Wrote [rb] wr w2) : DqI w rb N2 w2 := ⟨hr, h.2.1.trans hw, hw.blk h.2.2.1 (by have := h.2.2.2; simp; omega), h.2.2.2⟩
theorem DqI.below {w wr w2 : World} {rb N : Nat} (h : DqI w rb N wr) (hb : Below wr.heap.size wr w2) : DqI w rb N w2 := h.step (h.1.below hb) (.of_below hb _)
theorem DqI.start {w : World} {rb N : Nat} (hr : Rd w rb N) : DqI w rb N (w.alloc (.cells #[.int .i64 0, .int .i64 0, .string ⟨#[]⟩, .slice none 0 0] 25)) := ⟨hr.below ((Below.refl _ _).alloc (Nat.le_refl _) _), .of_below ((Below.refl _ _).alloc (Nat.le_refl _) _) _, Blk.new w _ _, hr.lt⟩
/-- The drawn term is stored into the result. -/
theorem DqI.ret {w wr : World} {rb N N2 M : Nat} {k n : Int} {s : ByteArray} {f : Fr} {A : Option Addr} {cap : Nat} (h : DqI w rb N wr) (hf : Fits k n s) (hm : ∃ L, OwnS wr f A cap L ∧ L.Nodup ∧ ∀ x ∈ L, w.heap.size < x) (hM : nodes f ≤ M) (hN : N ≤ N2) (a b c d : Value) :
    DrR rb N2 M w (.returned (.agg #[.int .i64 k, .int .i64 n, .string s, .slice A f.len cap])) ((((wr.setCell ⟨w.heap.size, 0, none⟩ a).setCell ⟨w.heap.size, 1, none⟩ b).setCell ⟨w.heap.size, 2, none⟩ c).setCell ⟨w.heap.size, 3, none⟩ d) := by
  obtain ⟨L, ho, hn, hL⟩ := hm
  have hlt := ho.lt
  have hw : Wrote [rb] w ((((wr.setCell ⟨w.heap.size, 0, none⟩ a).setCell ⟨w.heap.size, 1, none⟩ b).setCell ⟨w.heap.size, 2, none⟩ c).setCell ⟨w.heap.size, 3, none⟩ d) := (((h.2.1.set_ (.inr (Nat.le_refl _)) _).set_ (.inr (Nat.le_refl _)) _).set_ (.inr (Nat.le_refl _)) _).set_ (.inr (Nat.le_refl _)) _
  refine ⟨k, n, s, f, A, cap, rfl, hf, ⟨L, ho.keep fun x hx => ?_, hn, fun x hx => ⟨Nat.le_of_lt (hL x hx), by simpa [World.setCell] using hlt x hx⟩, hw⟩, hM, ((((h.1.set_ (by show rb < w.heap.size; exact h.2.2.2) _).set_ (by show rb < w.heap.size; exact h.2.2.2) _).set_ (by show rb < w.heap.size; exact h.2.2.2) _).set_ (by show rb < w.heap.size; exact h.2.2.2) _).more hN⟩
  have hne : x ≠ w.heap.size := by have := hL x hx; omega
  rw [heap_setCell_other _ _ _ _ hne, heap_setCell_other _ _ _ _ hne, heap_setCell_other _ _ _ _ hne, heap_setCell_other _ _ _ _ hne]
theorem own_nil (w : World) (A : Option Addr) (cap lo : Nat) (h : cap ≤ maxLen) : ∃ L, OwnS w .nil A cap L ∧ L.Nodup ∧ ∀ x ∈ L, lo < x := ⟨[], ⟨Nat.zero_le _, h, .inl ⟨rfl, rfl⟩⟩, List.nodup_nil, fun x hx => by simp at hx⟩

/-- How many draws, and how many nodes, a term of this depth has at most. -/
def drN (d : Nat) : Nat := 8 * 4 ^ d
def drM (d : Nat) : Nat := 4 ^ d
def DrT (d : Nat) : Prop := ∀ (rb N : Nat) (x : Int) (w : World), Rd w rb N → N + drN d ≤ 1000000 → x = (d : Int) →
  Calls Tryd.prog 14 #[.pointer (some ⟨rb, 0, none⟩), .int .i64 x] w fun e w' => DrR rb (N + drN d) (drM d) w e w'
theorem drN_succ (d : Nat) : drN (d + 1) = 4 * drN d := by unfold drN; rw [Nat.pow_succ]; omega
theorem drM_succ (d : Nat) : drM (d + 1) = 4 * drM d := by unfold drM; rw [Nat.pow_succ]; omega
theorem drN_pos (d : Nat) : 8 ≤ drN d := by unfold drN; have : 0 < 4 ^ d := Nat.pow_pos (by decide); omega
theorem drM_pos (d : Nat) : 1 ≤ drM d := by unfold drM; exact Nat.pow_pos (by decide)

/-- One argument more is drawn and appended. -/
theorem dr_step {w wr w1 w2 w4 : World} {rb U U2 base H : Nat} {s : ByteArray} {v : Value} {F : Fr} {xs : List Value} {L : List Nat} {k n : Int} {s' : ByteArray} {kids : Fr} {A : Option Addr} {cap cap4 g : Nat} {k0 n0 : Int} (h : DqI w rb U wr)
    (hq : Blk wr H 25 #[.int .i64 k0, .int .i64 n0, .string s, v]) (hbase : w.heap.size < base) (hbs : base ≤ wr.heap.size) (hH : base ≤ H)
    (hD : Desc wr F xs L) (hN : L.Nodup) (hL : ∀ x ∈ L, base ≤ x ∧ x < wr.heap.size ∧ x ≠ H) (hv : ∀ g, v.ownBlock = some g → g ∉ L ∧ g ≠ H) (hvl : ∀ g, v.ownBlock = some g → base ≤ g ∧ g < wr.heap.size)
    (hf : Fits k n s') (hm : MadeW rb wr kids A cap w1) (hr1 : Rd w1 rb U2) (hb2 : Below w1.heap.size w1 w2) (hg : w2.grownBy w4 v.ownBlock)
    (ho : w4.ownsRow base 25 4 (.slice (some ⟨g, 0, none⟩) (F.len + 1) cap4) (F.len + 1) (xs ++ [.int .i64 k, .int .i64 n, .string s', .slice A kids.len cap])) (hat : v.ownBlock = some g ∨ g = w2.heap.size) :
    DqI w rb U2 (w4.setCell ⟨H, 3, none⟩ (.slice (some ⟨g, 0, none⟩) (F.len + 1) cap4)) ∧ Blk (w4.setCell ⟨H, 3, none⟩ (.slice (some ⟨g, 0, none⟩) (F.len + 1) cap4)) H 25 #[.int .i64 k0, .int .i64 n0, .string s, .slice (some ⟨g, 0, none⟩) (F.len + 1) cap4] ∧
      RowX base H (.slice (some ⟨g, 0, none⟩) (F.len + 1) cap4) (F.app (.cons k n s' kids .nil)) (w4.setCell ⟨H, 3, none⟩ (.slice (some ⟨g, 0, none⟩) (F.len + 1) cap4)) := by
  obtain ⟨_, hW, hB, hrb⟩ := h
  have hst := RowX.step (rb := rb) (base := base) (H := H) (by omega) hD hN hL hv (fun g hg => (hvl g hg).2) hbs hq.lt hf hm hb2 hg ho hat
  have hw1 := hm.wrote
  have hs1 := hw1.size
  have hs2 := hb2.size
  have hs4 := hg.size
  have hsw := hW.size
  have hHl := hq.lt
  have far : ∀ x, x < w1.heap.size → (∀ g, v.ownBlock = some g → x ≠ g) → w4.heap[x]? = w1.heap[x]? := fun x hx hne =>
    (hg.block x (by omega) fun e => hne x e.symm rfl).trans (hb2.block x hx)
  have hlow : ∀ x, x < base → x < w1.heap.size → w4.heap[x]? = w1.heap[x]? := fun x hx hl => far x hl fun g hg e => by have := (hvl g hg).1; omega
  have hW4 : Wrote [rb] w w4 := ⟨hg.os.trans (hb2.os.trans (hw1.os.trans hW.os)), hg.tape.trans (hb2.tape.trans (hw1.tape.trans hW.tape)), hg.output.trans (hb2.output.trans (hw1.output.trans hW.output)), by omega, fun x hx hn => by
    rw [hlow x (by omega) (by omega), hw1.block x (by omega) hn, hW.block x hx hn]⟩
  have hqH : Blk w4 H 25 #[.int .i64 k0, .int .i64 n0, .string s, v] := (hq.keep (hw1.block H hHl (by simp; omega))).keep (far H (by omega) fun g hg e => (hv g hg).2 e.symm)
  refine ⟨⟨(hr1.keep fun x hx => hlow x (by omega) (by omega)).set_ (by show rb < H; omega) _, hW4.set_ (.inr (by show w.heap.size ≤ H; omega)) _, ?_, hrb⟩, ?_, hst.set_ rfl _⟩
  · exact ((hw1.blk hB (by simp; omega)).keep (hlow _ hbase (by omega))).far (by show w.heap.size ≠ H; omega) _
  · have := hqH.set_ 3 (.slice (some ⟨g, 0, none⟩) (F.len + 1) cap4)
    simpa using this
theorem names6 (s : ByteArray) (h : s ∈ ([⟨#[97]⟩, ⟨#[98]⟩, ⟨#[110, 105, 108]⟩, ⟨#[91, 93]⟩, ⟨#[102, 111, 111]⟩, ⟨#[43]⟩] : List ByteArray)) : s.size ≤ maxLen := by
  have : ∀ s ∈ ([⟨#[97]⟩, ⟨#[98]⟩, ⟨#[110, 105, 108]⟩, ⟨#[91, 93]⟩, ⟨#[102, 111, 111]⟩, ⟨#[43]⟩] : List ByteArray), s.size ≤ 100 := by decide
  have := this s h
  unfold maxLen; omega
theorem names7 (s : ByteArray) (h : s ∈ ([⟨#[102]⟩, ⟨#[103]⟩, ⟨#[115]⟩, ⟨#[43]⟩, ⟨#[61]⟩, ⟨#[105, 115]⟩, ⟨#[102, 111, 111]⟩] : List ByteArray)) : s.size ≤ maxLen := by
  have : ∀ s ∈ ([⟨#[102]⟩, ⟨#[103]⟩, ⟨#[115]⟩, ⟨#[43]⟩, ⟨#[61]⟩, ⟨#[105, 115]⟩, ⟨#[102, 111, 111]⟩] : List ByteArray), s.size ≤ 100 := by decide
  have := this s h
  unfold maxLen; omega

set_option maxRecDepth 100000 in
set_option maxHeartbeats 8000000 in
theorem drT_low (d : Nat) (h : d < 2) : DrT d := by
  intro rb N x w hr hN hx
  have t0 : x < 2 := by omega
  have hp := drN_pos d
  have HQ := Lib.hid (DqI.start hr)
  clear hr hx h
  generalize drN d = D at *
  generalize drM d = M at *
  go_enter Tryd.func14, Tryd.ntmps14
  go_wp2_with fail
  refine (pick_any rb _ 4 _ HQ.out.1 (by omega) (by omega) (by omega)).mono ?_
  rintro e wa ⟨k, rfl, hk0, hk1, hr, hw⟩
  have HQa := Lib.hid (HQ.out.step hr hw)
  clear hr hw HQ
  by_cases z0 : k = 0
  · subst z0
    go_wp2_with fail
    refine (pick_any rb _ 4 _ HQa.out.1 (by omega) (by omega) (by omega)).mono ?_
    rintro e wb ⟨v, rfl, hv0, hv1, hr, hw⟩
    have HQb := Lib.hid (HQa.out.step hr hw)
    clear hr hw HQa
    go_wp2_with fail
    refine (var_any _ _).mono ?_
    rintro e wc ⟨rfl, hb⟩
    have HQc := Lib.hid (HQb.out.below hb)
    clear hb HQb
    obtain ⟨d0, d1, d2, d3⟩ := cells4i HQc.out.2.2.1
    obtain ⟨f0, f1, f2, f3⟩ := frozen4 HQc.out.2.2.1
    go_wp2_with fail
    refine bodyPost_ret (v := .agg #[.int .i64 1, .int .i64 v, .string ⟨#[]⟩, .slice none 0 0]) ?_ rfl (HQc.out.ret (f := .nil) ⟨by omega, by omega, Nat.zero_le _⟩ (own_nil _ _ _ _ (Nat.zero_le _)) (Nat.zero_le _) (by omega) _ _ _ _)
    exact results_cell_row Tryd.results14 _ _ w.heap.size _ _ _ _ rfl (set4 HQc.out.2.2.1 _ _ _ _) Tryd.underlying25 rfl (by kernel_rfl)
  · have tk0 : (k == 0) = false := by rw [beq_eq_false_iff_ne]; exact z0
    by_cases z1 : k = 1
    · subst z1
      have hb := (Below.refl wa.heap.size wa).alloc (Nat.le_refl _) (.cells #[.int .i64 0, .int .i64 1, .int .i64 7, .int .i64 (-3), .int .i64 999, .int .i64 (-999)] 3)
      have HQb := Lib.hid (HQa.out.below hb)
      have HI : Hid (IntsAt (wa.alloc (.cells #[.int .i64 0, .int .i64 1, .int .i64 7, .int .i64 (-3), .int .i64 999, .int .i64 (-999)] 3)) (rb + 1) (some ⟨wa.heap.size, 0, none⟩) [0, 1, 7, -3, 999, -999]) := Lib.hid ⟨wa.heap.size, rfl, HQa.out.1.lt, by simp, fun i z h => by rw [(Blk.new wa _ _).cell i]; match i, h with
        | 0, h => cases h; rfl
        | 1, h => cases h; rfl
        | 2, h => cases h; rfl
        | 3, h => cases h; rfl
        | 4, h => cases h; rfl
        | 5, h => cases h; rfl⟩
      clear hb HQa
      go_wp2_with fail
      refine (num_any rb _ [0, 1, 7, -3, 999, -999] _ 6 _ HQb.out.1 (by omega) HI.out (by decide) (by decide)).mono ?_
      rintro e wb ⟨v, rfl, hv, hr, hw⟩
      have HQc := Lib.hid (HQb.out.step hr hw)
      have hvb : -999 ≤ v ∧ v ≤ 999 := by simp at hv; omega
      clear hr hw HQb hv HI
      go_wp2_with fail
      refine (int_any _ _).mono ?_
      rintro e wc ⟨rfl, hb⟩
      have HQd := Lib.hid (HQc.out.below hb)
      clear hb HQc
      obtain ⟨d0, d1, d2, d3⟩ := cells4i HQd.out.2.2.1
      obtain ⟨f0, f1, f2, f3⟩ := frozen4 HQd.out.2.2.1
      go_wp2_with fail
      refine bodyPost_ret (v := .agg #[.int .i64 2, .int .i64 v, .string ⟨#[]⟩, .slice none 0 0]) ?_ rfl (HQd.out.ret (f := .nil) ⟨by omega, by omega, Nat.zero_le _⟩ (own_nil _ _ _ _ (Nat.zero_le _)) (Nat.zero_le _) (by omega) _ _ _ _)
      exact results_cell_row Tryd.results14 _ _ w.heap.size _ _ _ _ rfl (set4 HQd.out.2.2.1 _ _ _ _) Tryd.underlying25 rfl (by kernel_rfl)
    · have tk1 : (k == 1) = false := by rw [beq_eq_false_iff_ne]; exact z1
      have hb := (Below.refl wa.heap.size wa).alloc (Nat.le_refl _) (.cells #[.string ⟨#[97]⟩, .string ⟨#[98]⟩, .string ⟨#[110, 105, 108]⟩, .string ⟨#[91, 93]⟩, .string ⟨#[102, 111, 111]⟩, .string ⟨#[43]⟩] 9)
      have HQb := Lib.hid (HQa.out.below hb)
      have HI : Hid (StrsAt (wa.alloc (.cells #[.string ⟨#[97]⟩, .string ⟨#[98]⟩, .string ⟨#[110, 105, 108]⟩, .string ⟨#[91, 93]⟩, .string ⟨#[102, 111, 111]⟩, .string ⟨#[43]⟩] 9)) (rb + 1) (some ⟨wa.heap.size, 0, none⟩) [⟨#[97]⟩, ⟨#[98]⟩, ⟨#[110, 105, 108]⟩, ⟨#[91, 93]⟩, ⟨#[102, 111, 111]⟩, ⟨#[43]⟩]) := Lib.hid ⟨wa.heap.size, rfl, HQa.out.1.lt, by simp, fun i z h => by rw [(Blk.new wa _ _).cell i]; match i, h with
        | 0, h => cases h; rfl
        | 1, h => cases h; rfl
        | 2, h => cases h; rfl
        | 3, h => cases h; rfl
        | 4, h => cases h; rfl
        | 5, h => cases h; rfl⟩
      clear hb HQa
      go_wp2_with fail
      refine (of_any rb _ [⟨#[97]⟩, ⟨#[98]⟩, ⟨#[110, 105, 108]⟩, ⟨#[91, 93]⟩, ⟨#[102, 111, 111]⟩, ⟨#[43]⟩] _ 6 _ HQb.out.1 (by omega) HI.out (by decide) (by decide)).mono ?_
      rintro e wb ⟨s, rfl, hs, hr, hw⟩
      have HQc := Lib.hid (HQb.out.step hr hw)
      have hsb : s.size ≤ maxLen := names6 s hs
      have HSB := Lib.hid hsb
      clear hr hw HQb hs HI hsb
      go_wp2_with fail
      refine (structN_any s .nil none 0 [] _ ⟨Nat.zero_le _, Nat.zero_le _, .inl ⟨rfl, rfl⟩⟩ List.nodup_nil (by decide)).mono ?_
      rintro e wc ⟨A, cap, L, rfl, ho, hn, hL, hb, _⟩
      have hOL : ∀ x ∈ L, w.heap.size < x := fun x hx => by
        rcases hL x hx with h | h
        · simp at h
        · have := HQc.out.2.2.1.lt; omega
      have HQd := Lib.hid (HQc.out.below hb)
      have HO : Hid (∃ L, OwnS wc .nil A cap L ∧ L.Nodup ∧ ∀ x ∈ L, w.heap.size < x) := Lib.hid ⟨L, ho, hn, hOL⟩
      clear hb HQc ho hn hL hOL
      obtain ⟨d0, d1, d2, d3⟩ := cells4i HQd.out.2.2.1
      obtain ⟨f0, f1, f2, f3⟩ := frozen4 HQd.out.2.2.1
      go_wp2_with fail
      refine bodyPost_ret (v := .agg #[.int .i64 3, .int .i64 0, .string s, .slice A 0 cap]) ?_ rfl (HQd.out.ret (f := .nil) ⟨by omega, by omega, HSB.out⟩ HO.out (Nat.zero_le _) (by omega) _ _ _ _)
      exact results_cell_row Tryd.results14 _ _ w.heap.size _ _ _ _ rfl (set4 HQd.out.2.2.1 _ _ _ _) Tryd.underlying25 rfl (by kernel_rfl)

end Go.Proofs.YtkgihpddjppmdaaDoor
