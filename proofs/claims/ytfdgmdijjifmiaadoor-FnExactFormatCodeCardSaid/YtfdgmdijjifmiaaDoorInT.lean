/- laws.toInstr, toInstrS. Condition: the instructions lie in memory; no more than the law's budget. -/
import Derived.Test.YtfdgmdijjifmiaaDoorProg
import Derived.Test.YtfdgmdijjifmiaaDoorInZ
namespace Go.Proofs.YtfdgmdijjifmiaaDoor
open Go.RowKit

/-- The loop's relation: k instructions are made, in block g. -/
def PartI (w : World) (xs : List Ins) (g k : Nat) (wr : World) : Prop :=
  ∃ cur, Blk wr g 26 cur ∧ cur.size = xs.length * 4 ∧ (∀ j, j < k * 4 → cur[j]? = (xs.flatMap Ins.cells)[j]?) ∧ w.heap.size ≤ g ∧ Below w.heap.size w wr
theorem PartI.below {w wr : World} {xs : List Ins} {g k : Nat} (h : PartI w xs g k wr) : Below w.heap.size w wr := by
  obtain ⟨cur, _, _, _, _, hb⟩ := h; exact hb
theorem PartI.cells {w wr w2 : World} {xs : List Ins} {g k : Nat} (h : PartI w xs g k wr) (hk : k < xs.length) (hb : Below wr.heap.size wr w2) (j : Nat) (hj : j < 4) :
    (∃ v, w2.cell? ⟨g, k * 4 + j, none⟩ = some v) ∧ w2.frozen? ⟨g, k * 4 + j, none⟩ = false := by
  obtain ⟨cur, hblk, hs, _⟩ := h
  have hb2 := hblk.below hb hblk.lt
  refine ⟨?_, hb2.frozen _⟩
  rw [hb2.cell]
  exact ⟨_, Array.getElem?_eq_getElem (by omega)⟩
theorem PartI.step {w wr w2 : World} {xs rest : List Ins} {x : Ins} {g k : Nat} (h : PartI w xs g k wr) (hd : xs.drop k = x :: rest) (hk : k < xs.length) (hb2 : Below wr.heap.size wr w2) :
    PartI w xs g (k + 1) ((((w2.setCell ⟨g, k * 4, none⟩ (.int .i64 x.op)).setCell ⟨g, k * 4 + 1, none⟩ (.int .i64 x.a)).setCell ⟨g, k * 4 + 2, none⟩ (.int .i64 x.b)).setCell ⟨g, k * 4 + 3, none⟩ (.string x.s)) := by
  obtain ⟨cur, hblk, hs, hc, hg, hb⟩ := h
  have hblk2 := hblk.below hb2 hblk.lt
  have b1 := (((hblk2.set_ (k * 4) (.int .i64 x.op)).set_ (k * 4 + 1) (.int .i64 x.a)).set_ (k * 4 + 2) (.int .i64 x.b)).set_ (k * 4 + 3) (.string x.s)
  refine ⟨_, b1, by simpa using hs, fun j hj => ?_, hg, ((((hb.trans (hb2.mono hb.size)).setCell hg _).setCell hg _).setCell hg _).setCell hg _⟩
  obtain ⟨e0, e1, e2, e3⟩ := cells_at xs k hd
  by_cases h0 : j < k * 4
  · rw [← hc j h0]
    simp only [Array.getElem?_setIfInBounds]
    rw [if_neg (by omega), if_neg (by omega), if_neg (by omega), if_neg (by omega)]
  · have h4 : j = k * 4 ∨ j = k * 4 + 1 ∨ j = k * 4 + 2 ∨ j = k * 4 + 3 := by omega
    rcases h4 with rfl | rfl | rfl | rfl
    · rw [e0]; simp [Array.getElem?_setIfInBounds]; omega
    · rw [e1]; simp [Array.getElem?_setIfInBounds]; omega
    · rw [e2]; simp [Array.getElem?_setIfInBounds]; omega
    · rw [e3]; simp [Array.getElem?_setIfInBounds]; omega
theorem PartI.start {w w1 : World} {xs : List Ins} {base : Nat} {cs : List Value} (hown : w1.ownsRow base 26 4 (.slice (some ⟨w.heap.size, 0, none⟩) xs.length xs.length) xs.length cs) (hg : w.grownBy w1 none) : PartI w xs w.heap.size 0 w1 := by
  rcases hown.2 with ⟨h', _⟩ | ⟨g', cap', cur, h', _, hb, _, _, hs, _⟩
  · simp at h'
  · simp only [Value.slice.injEq, Option.some.injEq, Addr.mk.injEq, and_true, true_and] at h'
    obtain ⟨rfl, rfl⟩ := h'
    exact ⟨cur, hb, hs, fun j hj => by omega, Nat.le_refl _, (Below.refl _ _).grown hg (Nat.le_refl _) (fun k hk => by cases hk)⟩
theorem PartI.done {w wr : World} {xs : List Ins} {g : Nat} (h : PartI w xs g xs.length wr) (hok : ∀ x ∈ xs, x.ok) (hl : xs.length ≤ maxLen) : OwnIn wr w.heap.size (.slice (some ⟨g, 0, none⟩) xs.length xs.length) xs := by
  obtain ⟨cur, hblk, hs, hc, hg, hb⟩ := h
  refine ⟨⟨cells_len xs, .inr ⟨g, xs.length, cur, rfl, hg, hblk, Nat.le_refl _, hl, hs, ?_⟩⟩, hok⟩
  apply List.ext_getElem?
  intro j
  by_cases hj : j < xs.length * 4
  · rw [List.getElem?_take_of_lt hj, Array.getElem?_toList, hc j hj]
  · rw [List.getElem?_eq_none (by rw [List.length_take]; omega), List.getElem?_eq_none (by rw [cells_len]; omega)]

set_option maxRecDepth 100000 in
set_option maxHeartbeats 2000000 in
/-- laws.toInstrS. -/
theorem toIn_any (xs : List Ins) (A : Option Addr) (cap hi : Nat) (w : World) (hk : InsS w hi xs A cap) (hh : hi ≤ w.heap.size) (hl : xs.length ≤ 1048576) (hok : ∀ x ∈ xs, x.ok) :
    Calls Tryd.prog 14 #[.slice A xs.length cap] w fun e w' => ∃ A2, e = .returned (.slice A2 xs.length xs.length) ∧ OwnIn w' w.heap.size (.slice A2 xs.length xs.length) xs ∧ Below w.heap.size w w' := by
  have HK := Lib.hid hk
  have HHI := Lib.hid hh
  have hst := fun w1 base cs => PartI.start (w := w) (w1 := w1) (xs := xs) (base := base) (cs := cs)
  have hfin := fun wr => PartI.done (w := w) (wr := wr) (xs := xs) (g := w.heap.size)
  have HST := Lib.hid hst
  have HFIN := Lib.hid hfin
  have HOK := Lib.hid hok
  clear hk hh hst hfin hok
  generalize hn : xs.length = len at *
  have HN := Lib.hid hn
  clear hn
  obtain ⟨i0, hi0, hz0, hz1, hz2⟩ := info_parts infoIn
  go_enter Tryd.func14, Tryd.ntmps14
  go_wp2_with (at_make; go_must (refine wpList_make_full _ rfl _ _ 32 rfl w.heap.size 26 i0 _ 4 Tryd.underlying32 hi0 hz0 hz1 .i64 .i64 _ _ len rfl rfl rfl rfl (by rw [hz2]; omega) (by unfold maxLen; omega) (Nat.le_refl _) ?_); intro w1 hown hgrow)
  have hp0 := HST.out _ _ _ hown hgrow
  have HP0 := Lib.hid hp0
  clear hp0 hown hgrow HST hi0 hz0 hz1 hz2
  go_loopw [4] (fun i wr => ∃ (k : Nat), k ≤ len ∧ i = .int .i64 k ∧ PartI w xs w.heap.size k wr) (fun i _ => len - (intOf i).toNat)
  case atStart => exact ⟨0, Nat.zero_le _, rfl, HP0.out⟩
  case round =>
    obtain ⟨k, hk, rfl, hpart⟩ := hrel
    have HPT := Lib.hid hpart
    clear hpart
    by_cases hlt : k < len
    · have hltf : k < xs.length := by rw [HN.out]; exact hlt
      obtain ⟨x, hd⟩ := drop_at k xs hltf
      obtain ⟨b, o, rfl, hbb, hrow⟩ := HK.out.2.2 (by rw [HN.out]; omega)
      obtain ⟨hxo, c0, c1, c2, c3⟩ := hrow.elem k xs b o hd
      have hb := HPT.out.below
      have hlo : (⟨b, o, none⟩ : Addr).block < w.heap.size := Nat.lt_of_lt_of_le hbb HHI.out
      have k0 := (hb.cell (p := ⟨b, o + k * 4, none⟩) hlo).trans c0
      have k1 := (hb.cell (p := ⟨b, o + k * 4 + 1, none⟩) hlo).trans c1
      have k2 := (hb.cell (p := ⟨b, o + k * 4 + 2, none⟩) hlo).trans c2
      have k3 := (hb.cell (p := ⟨b, o + k * 4 + 3, none⟩) hlo).trans c3
      have C1 := toX_any x wr
      have cellsOf := fun w2 (hb : Below wr.heap.size wr w2) j hj => HPT.out.cells hltf hb j hj
      have stepOf := fun w2 (hm : Below wr.heap.size wr w2) => HPT.out.step hd hltf hm
      have H1 := Lib.hid C1
      have HC := Lib.hid cellsOf
      have HS := Lib.hid stepOf
      clear C1 hb c0 c1 c2 c3 hrow hd hlo cellsOf stepOf hltf hxo
      obtain ⟨op, a, bb, s⟩ := x
      simp only at k0 k1 k2 k3
      go_wp2_with fail
      refine H1.out.mono ?_
      rintro e w2 ⟨rfl, hb2⟩
      obtain ⟨⟨v0, d0⟩, f0⟩ := HC.out w2 hb2 0 (by omega)
      obtain ⟨⟨v1, d1⟩, f1⟩ := HC.out w2 hb2 1 (by omega)
      obtain ⟨⟨v2, d2⟩, f2⟩ := HC.out w2 hb2 2 (by omega)
      obtain ⟨⟨v3, d3⟩, f3⟩ := HC.out w2 hb2 3 (by omega)
      rw [Nat.add_zero] at d0 f0
      have hstep := HS.out w2 hb2
      have HST := Lib.hid hstep
      clear hb2 hstep k0 k1 k2 k3
      go_wp2_with fail
      go_roundw
      case rel => exact ⟨k + 1, by omega, by go_num, HST.out⟩
      case measure => simp [intOf]; omega
    · obtain rfl : k = len := by omega
      have hfin := HFIN.out wr HPT.out HOK.out (by unfold maxLen; omega)
      have HF := Lib.hid hfin
      have HB := Lib.hid HPT.out.below
      clear hfin
      go_wp2_with fail
      go_ret
      exact ⟨_, rfl, HF.out, HB.out⟩
end Go.Proofs.YtfdgmdijjifmiaaDoor
