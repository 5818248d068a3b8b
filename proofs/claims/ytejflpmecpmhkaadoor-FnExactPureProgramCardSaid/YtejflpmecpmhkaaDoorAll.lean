/- impl.nodesOf, spec.l1All: all terms of a list. Condition: they lie in memory, the table of signs in its variable. -/
import Derived.Test.YtejflpmecpmhkaaDoorProg
import Derived.Test.YtejflpmecpmhkaaDoorImplV
import Derived.Test.YtejflpmecpmhkaaDoorMk
import Derived.Test.YtejflpmecpmhkaaDoorSpecC
import Derived.StillTailTactics
namespace Go.Proofs.YtejflpmecpmhkaaDoor
open Go.RowKit

/-- Every term of the row is valid. -/
def allV : Fr → Bool
  | .nil => true
  | .cons k n s kids rest => validT k n s kids && allV rest
theorem nodes_drop_elem (i : Nat) (f : Fr) {k n : Int} {s : ByteArray} {kids rest : Fr} (h : f.drop i = .cons k n s kids rest) : nodes kids ≤ nodes f := by
  have := nodes_elem i f h; omega

/-- The loop's relation: j nodes are made, in block g. -/
def NPart (w : World) (f : Fr) (g j : Nat) (wr : World) : Prop :=
  Below w.heap.size w wr ∧ (∃ cur, Blk wr g 96 cur ∧ cur.size = f.len) ∧ NdRow wr (g + 1) wr.heap.size (f.take j) g 0 ∧ w.heap.size ≤ g
theorem NPart.step {w wr w1 w2 : World} {f : Fr} {g i : Nat} {k n : Int} {s : ByteArray} {kids rest : Fr} {v : Value}
    (h : NPart w f g i wr) (hd : f.drop i = .cons k n s kids rest) (hi : i < f.len) (h1 : Below wr.heap.size wr w1) (h2 : Below w1.heap.size w1 w2) (hv : NdV w2 w1.heap.size w2.heap.size k n s kids v) :
    NPart w f g (i + 1) (w2.setCell ⟨g, i, none⟩ v) := by
  obtain ⟨hb, ⟨cur, hblk, hs⟩, hrow, hgl⟩ := h
  have hlt := hblk.lt
  have h12 : Below wr.heap.size wr w2 := h1.trans (h2.mono h1.size)
  have b2 := hblk.below h12 hlt
  have far : ∀ p : Addr, p.block ≠ g → (w2.setCell ⟨g, i, none⟩ v).cell? p = w2.cell? p := fun p hp => World.cell?_of_block (heap_setCell_other w2 ⟨g, i, none⟩ p.block v hp)
  have hsz : (w2.setCell ⟨g, i, none⟩ v).heap.size = w2.heap.size := by simp [World.setCell]
  have hlen : (f.take i).len = i := Fr.len_take i f (by omega)
  have hs1 := h1.size
  have hs2 := h12.size
  refine ⟨(hb.trans (h12.mono hb.size)).setCell hgl v, ⟨_, b2.set_ i v, by simpa using hs⟩, ?_, hgl⟩
  rw [Fr.take_succ i f hd, hsz]
  refine NdRow.snoc (f.take i) (hv.keep (fun p hp _ => far p (by omega)) (by omega) (Nat.le_refl _)) g 0 ?_ ?_
  · refine NdRow.keep (fun p hp hp' => ?_) (Nat.le_refl _) hs2 (f.take i) g 0 (fun j hj => ?_) hrow
    · rw [far p (by omega)]
      exact h12.cell hp'
    · rw [hlen] at hj
      rw [(b2.set_ i v).cell, hblk.cell]
      simp only [Array.getElem?_setIfInBounds]
      rw [if_neg (by omega)]
  · rw [hlen, (b2.set_ i v).cell]
    simp [Array.getElem?_setIfInBounds]
    omega
theorem NPart.start {w w2 : World} {f : Fr} {base : Nat} {xs : List Value} (hown : w2.ownsRow base 96 1 (.slice (some ⟨w.heap.size, 0, none⟩) f.len f.len) f.len xs) (hg : w.grownBy w2 none) : NPart w f w.heap.size 0 w2 := by
  rcases hown.2 with ⟨h', _⟩ | ⟨g', cap', cur, h', _, hb, _, _, hs, _⟩
  · simp at h'
  · simp only [Value.slice.injEq, Option.some.injEq, Addr.mk.injEq, and_true, true_and] at h'
    obtain ⟨rfl, rfl⟩ := h'
    exact ⟨(Below.refl _ _).grown hg (Nat.le_refl _) (fun k hk => by cases hk), ⟨cur, hb, by simpa using hs⟩, trivial, Nat.le_refl _⟩
theorem NPart.done {w wr : World} {f : Fr} {g : Nat} (h : NPart w f g f.len wr) (hl : f.len ≤ maxLen) : NdS wr w.heap.size wr.heap.size f (some ⟨g, 0, none⟩) f.len ∧ Below w.heap.size w wr := by
  obtain ⟨hb, ⟨cur, hblk, hs⟩, hrow, hgl⟩ := h
  rw [Fr.take_len] at hrow
  exact ⟨⟨Nat.le_refl _, hl, fun _ => ⟨g, rfl, hgl, hblk.lt, NdRow.keep (fun _ _ _ => rfl) (by omega) (Nat.le_refl _) f g 0 (fun _ _ => rfl) hrow⟩⟩, hb⟩
theorem NPart.cell {w wr w2 : World} {f : Fr} {g j : Nat} (h : NPart w f g j wr) (hj : j < f.len) (hb : Below wr.heap.size wr w2) : (∃ v, w2.cell? ⟨g, j, none⟩ = some v) ∧ w2.frozen? ⟨g, j, none⟩ = false := by
  obtain ⟨_, ⟨cur, hblk, hs⟩, _⟩ := h
  have hb2 := hblk.below hb hblk.lt
  refine ⟨?_, hb2.frozen _⟩
  rw [hb2.cell]
  exact ⟨_, Array.getElem?_eq_getElem (by omega)⟩

/-- What nodesOf answers. -/
def NodesRes (w : World) (f : Fr) (e : Ending) (w' : World) : Prop :=
  Below w.heap.size w w' ∧ ((allV f = true ∧ ∃ A cap, e = .returned (.tuple #[.slice A f.len cap, .bool true]) ∧ NdS w' w.heap.size w'.heap.size f A cap) ∨ (allV f = false ∧ e = .returned (.tuple #[.slice none 0 0, .bool false])))

set_option maxRecDepth 100000 in
set_option maxHeartbeats 2000000 in
/-- impl.nodesOf. -/
theorem nodesOf_any (f : Fr) (A : Option Addr) (cap lo hi : Nat) (w : World) (hk : KidsAt w lo hi f A cap) (hh : hi ≤ w.heap.size) (hnd : nodes f ≤ 1048576) (ht : nv.Tab w) :
    Calls Tryd.prog 62 #[.slice A f.len cap] w fun e w' => NodesRes w f e w' := by
  have hlt0 := tab_lt ht
  have HK := Lib.hid hk
  have HHI := Lib.hid hh
  have HND := Lib.hid hnd
  have HT := Lib.hid ht
  have hl : f.len ≤ 1048576 := by have := len_le_nodes f; omega
  have hst := fun w1 base xs => NPart.start (w := w) (w2 := w1) (f := f) (base := base) (xs := xs)
  have hfin := fun wr => NPart.done (w := w) (wr := wr) (f := f) (g := w.heap.size)
  have HST := Lib.hid hst
  have HFIN := Lib.hid hfin
  clear hk hh hnd ht hst hfin
  generalize hv : allV f = v
  have HV := Lib.hid hv
  generalize hn : f.len = len at *
  have HN := Lib.hid hn
  clear hn hv
  obtain ⟨i0, hi0, hz0, hz1, hz2⟩ := info_parts infoN
  go_enter Tryd.func62, Tryd.ntmps62
  go_wp2_with (at_make; go_must (refine wpList_make_full _ rfl _ _ 78 rfl w.heap.size 96 i0 _ 1 Tryd.underlying78 hi0 hz0 hz1 .i64 .i64 _ _ len rfl rfl rfl rfl (by rw [hz2]; omega) (by unfold maxLen; omega) (Nat.le_refl _) ?_); intro w1 hown hgrow)
  have hp0 := HST.out _ _ _ hown hgrow
  have HP0 := Lib.hid hp0
  clear hp0 hown hgrow HST hi0 hz0 hz1 hz2
  go_loopw [14] (fun i wr => ∃ (j : Nat), j ≤ len ∧ i = .int .i64 j ∧ allV (f.drop j) = v ∧ NPart w f w.heap.size j wr) (fun i _ => len - (intOf i).toNat)
  case atStart => exact ⟨0, Nat.zero_le _, rfl, HV.out, HP0.out⟩
  case round =>
    obtain ⟨j, hj, rfl, hv, hpart⟩ := hrel
    have HPT := Lib.hid hpart
    by_cases hlt : j < len
    · have hltf : j < f.len := by rw [HN.out]; exact hlt
      obtain ⟨kk, nn, s, kids, hd⟩ := Fr.drop_cons j f hltf
      obtain ⟨b, o, rfl, hlb, hbb, hrow⟩ := HK.out.2.2 (by rw [HN.out]; omega)
      obtain ⟨hfit, A', cp, c0, c1, c2, c3, hkid⟩ := hrow.elem hd
      rw [hd] at hv
      simp only [allV] at hv
      have hb := hpart.1
      have hlo : (⟨b, o, none⟩ : Addr).block < w.heap.size := Nat.lt_of_lt_of_le hbb HHI.out
      have k0 := (hb.cell (p := ⟨b, o + j * 4, none⟩) hlo).trans c0
      have k1 := (hb.cell (p := ⟨b, o + j * 4 + 1, none⟩) hlo).trans c1
      have k2 := (hb.cell (p := ⟨b, o + j * 4 + 2, none⟩) hlo).trans c2
      have k3 := (hb.cell (p := ⟨b, o + j * 4 + 3, none⟩) hlo).trans c3
      have hb1 : Below wr.heap.size wr (wr.alloc (.cells #[.int .i64 kk, .int .i64 nn, .string s, .slice A' kids.len cp] 57)) := (Below.refl _ _).alloc (Nat.le_refl _) _
      have hbw1 := hb.trans (hb1.mono hb.size)
      have C1 := nodeOf_any kk nn s kids A' cp lo hi _ (hkid.below hbw1 HHI.out) (Nat.le_trans HHI.out hbw1.size) hfit (Nat.le_trans (nodes_drop_elem j f hd) HND.out) (tab_below HT.out hbw1 hlt0)
      have cellsOf := fun w2 hb => HPT.out.cell (w2 := w2) hltf hb
      have stepOf := fun w2 v h2 hv => HPT.out.step (w2 := w2) (v := v) hd hltf hb1 h2 hv
      have H1 := Lib.hid C1
      have HB := Lib.hid hb
      have HB1 := Lib.hid hb1
      have HE := Lib.hid hv
      have HC := Lib.hid cellsOf
      have HS := Lib.hid stepOf
      clear C1 hb hb1 hbw1 hv c0 c1 c2 c3 hkid hrow hfit hd hlo cellsOf stepOf hpart hltf
      go_wp2_with fail
      refine H1.out.mono ?_
      rintro e w2 ⟨hb2, hr⟩
      have hb12 : Below wr.heap.size wr w2 := HB1.out.trans (hb2.mono HB1.out.size)
      rcases hr with ⟨hok, vv, rfl, hnv⟩ | ⟨hok, rfl⟩
      · obtain ⟨⟨v0, d0⟩, g0⟩ := HC.out w2 hb12
        have hstep := HS.out w2 vv hb2 hnv
        have HF : Hid (allV (f.drop (j + 1)) = v) := Lib.hid (by rw [← HE.out, hok]; rfl)
        obtain ⟨T, x, rfl⟩ := hnv.iface
        have HSTEP := Lib.hid hstep
        clear hok hnv hb2 hb12 hstep k0 k1 k2 k3
        go_wp2_with fail
        go_roundw
        case rel => exact ⟨j + 1, by omega, by go_num, HF.out, HSTEP.out⟩
        case measure => simp [intOf]; omega
      · have HF : Hid (v = false) := Lib.hid (by rw [← HE.out, hok]; rfl)
        have HBW : Hid (Below w.heap.size w w2) := Lib.hid (HB.out.trans (hb12.mono HB.out.size))
        clear hok hb2 hb12 k0 k1 k2 k3
        go_wp2_with fail
        go_ret2
        exact ⟨HBW.out, .inr ⟨HV.out.trans HF.out, rfl⟩⟩
    · obtain rfl : j = len := by omega
      have HE : Hid (allV f = true) := Lib.hid (by
        have h1 := Fr.drop_len f
        rw [HN.out] at h1
        rw [HV.out, ← hv, h1]; rfl)
      have hfin := HFIN.out wr HPT.out (by unfold maxLen; omega)
      have HF := Lib.hid hfin
      clear hpart hv hfin HPT
      go_wp2_with fail
      go_ret2
      refine ⟨HF.out.2, .inl ⟨HE.out, some ⟨w.heap.size, 0, none⟩, j, ?_, ?_⟩⟩
      · rw [HN.out]; rfl
      · have h := HF.out.1
        exact h
end Go.Proofs.YtejflpmecpmhkaaDoor
