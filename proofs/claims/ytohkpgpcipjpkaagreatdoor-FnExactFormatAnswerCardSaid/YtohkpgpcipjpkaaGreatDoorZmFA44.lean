/- impl.nodesOf, spec.l1All: all terms of a list. Condition: they lie in memory, the table of signs in its variable. -/
import Derived.Test.YtohkpgpcipjpkaaGreatDoorProg
import Derived.Test.YtohkpgpcipjpkaaGreatDoorImplV
import Derived.Test.YtohkpgpcipjpkaaGreatDoorMk
import Derived.Test.YtohkpgpcipjpkaaGreatDoorSpecC
import Derived.StillTailTactics
import Derived.Test.YtohkpgpcipjpkaaGreatDoorTo
import Derived.Test.YtohkpgpcipjpkaaGreatDoorTb
import Derived.Test.YtohkpgpcipjpkaaGreatDoorSz
import Derived.Test.YtohkpgpcipjpkaaGreatDoorSpecV
import Derived.OwnWalk
import Derived.Test.YtohkpgpcipjpkaaGreatDoorZmFA43
import Derived.Test.YtohkpgpcipjpkaaGreatDoorVars
import Derived.Test.YtohkpgpcipjpkaaGreatDoorAs
import Derived.Test.YtohkpgpcipjpkaaGreatDoorTermOf
import Derived.Test.YtohkpgpcipjpkaaGreatDoorRep
import Derived.Maps.Own
import Derived.Maps.OwnOps
import Derived.Maps.OwnSet
import Derived.Test.YtohkpgpcipjpkaaGreatDoorRen
namespace Go.Proofs.YtohkpgpcipjpkaaGreatDoor
open Go.RowKit

/-- Every term of the row is valid. -/
def allV : Fr → Bool
  | .nil => true
  | .cons k n s kids rest => validT k n s kids && allV rest
theorem nodes_drop_elem (i : Nat) (f : Fr) {k n : Int} {s : ByteArray} {kids rest : Fr} (h : f.drop i = .cons k n s kids rest) : nodes kids ≤ nodes f := by
  have := nodes_elem i f h; omega

set_option maxRecDepth 100000 in
set_option maxHeartbeats 2000000 in
/-- spec.l1All. -/
theorem specAll_any (f : Fr) (A : Option Addr) (cap lo hi : Nat) (w : World) (hk : KidsAt w lo hi f A cap) (hh : hi ≤ w.heap.size) (hnd : nodes f ≤ 1048576) :
    Calls Tryz.prog 15 #[.slice A f.len cap] w fun e w' => e = .returned (.bool (allV f)) ∧ Below w.heap.size w w' := by
  have HK := Lib.hid hk
  have HHI := Lib.hid hh
  have HND := Lib.hid hnd
  have hl : f.len ≤ 1048576 := by have := len_le_nodes f; omega
  clear hk hh hnd
  generalize hv : allV f = v
  have HV := Lib.hid hv
  clear hv
  generalize hn : f.len = len at *
  have HN := Lib.hid hn
  clear hn
  go_enter Tryz.func15, Tryz.ntmps15
  go_wp2_with fail
  go_loopw [3] (fun i wr => ∃ (j : Nat), j ≤ len ∧ i = .int .i64 j ∧ allV (f.drop j) = v ∧ Below w.heap.size w wr) (fun i _ => len - (intOf i).toNat)
  case atStart => exact ⟨0, Nat.zero_le _, rfl, HV.out, Below.refl _ _⟩
  case round =>
    obtain ⟨j, hj, rfl, hv, hb⟩ := hrel
    by_cases hlt : j < len
    · obtain ⟨kk, nn, s, kids, hd⟩ := Fr.drop_cons j f (by rw [HN.out]; exact hlt)
      obtain ⟨b, o, rfl, hlb, hbb, hrow⟩ := HK.out.2.2 (by rw [HN.out]; omega)
      obtain ⟨hfit, A', cp, c0, c1, c2, c3, hkid⟩ := hrow.elem hd
      rw [hd] at hv
      have hlo : (⟨b, o, none⟩ : Addr).block < w.heap.size := Nat.lt_of_lt_of_le hbb HHI.out
      have k0 := (hb.cell (p := ⟨b, o + j * 4, none⟩) hlo).trans c0
      have k1 := (hb.cell (p := ⟨b, o + j * 4 + 1, none⟩) hlo).trans c1
      have k2 := (hb.cell (p := ⟨b, o + j * 4 + 2, none⟩) hlo).trans c2
      have k3 := (hb.cell (p := ⟨b, o + j * 4 + 3, none⟩) hlo).trans c3
      have C1 := specValid_any kk nn s kids A' cp lo hi wr (hkid.below hb HHI.out) (Nat.le_trans HHI.out hb.size) hfit (Nat.le_trans (nodes_drop_elem j f hd) HND.out)
      simp only [allV] at hv
      generalize validT kk nn s kids = t at *
      have H1 := Lib.hid C1
      have HB := Lib.hid hb
      have HE := Lib.hid hv
      clear C1 hb hv c0 c1 c2 c3 hkid hrow hfit hd hlo
      cases t
      · have HF : Hid (v = false) := Lib.hid (by rw [← HE.out]; rfl)
        go_wp2_with fail
        refine H1.out.mono ?_
        rintro e w3 ⟨rfl, hb3⟩
        have HB3 := Lib.hid hb3
        clear hb3
        go_wp2_with fail
        go_ret
        rw [HF.out]
        exact ⟨rfl, HB.out.trans (HB3.out.mono HB.out.size)⟩
      · have HF : Hid (allV (f.drop (j + 1)) = v) := Lib.hid (by rw [← HE.out]; rfl)
        go_wp2_with fail
        refine H1.out.mono ?_
        rintro e w3 ⟨rfl, hb3⟩
        have HB3 := Lib.hid hb3
        clear hb3
        go_wp2_with fail
        go_roundw
        case rel => exact ⟨j + 1, by omega, by go_num, HF.out, HB.out.trans (HB3.out.mono HB.out.size)⟩
        case measure => simp [intOf]; omega
    · obtain rfl : j = len := by omega
      have HE : Hid (v = true) := Lib.hid (by
        have h1 := Fr.drop_len f
        rw [HN.out] at h1
        rw [← hv, h1]; rfl)
      have HB := Lib.hid hb
      clear hb hv
      go_wp2_with fail
      go_ret
      rw [HE.out]
      exact ⟨rfl, HB.out⟩

/-- The loop's relation: j nodes are made, in block g. -/
def NPart (w : World) (f : Fr) (g j : Nat) (wr : World) : Prop :=
  Below w.heap.size w wr ∧ (∃ cur, Blk wr g 65 cur ∧ cur.size = f.len) ∧ NdRow wr (g + 1) wr.heap.size (f.take j) g 0 ∧ w.heap.size ≤ g
theorem NPart.step {w wr w1 w2 : World} {f : Fr} {g i : Nat} {k n : Int} {s : ByteArray} {kids rest : Fr} {v : Value}
    (h : NPart w f g i wr) (hd : f.drop i = .cons k n s kids rest) (hi : i < f.len) (h1 : Below wr.heap.size wr w1) (h2 : Below w1.heap.size w1 w2) (hv : NdV w2 w1.heap.size w2.heap.size k n s kids v) :
    NPart w f g (i + 1) (w2.setCell ⟨g, i, none⟩ v) := by
  obtain ⟨hb, ⟨cur, hblk, hs⟩, hrow, hgl⟩ := h
  have hlt := hblk.lt
  have h12 : Below wr.heap.size wr w2 := h1.trans (h2.mono h1.size)
  have b2 := hblk.below h12 hlt
  have far : ∀ p : Addr, p.block ≠ g → (w2.setCell ⟨g, i, none⟩ v).cell? p = w2.cell? p := fun p hp => World.cell?_of_block (heap_setCell_other w2 ⟨g, i, none⟩ p.block v hp)
  have hsz : (w2.setCell ⟨g, i, none⟩ v).heap.size = w2.heap.size := by simp [World.setCell]
  have hlen : (f.take i).len = i := Fr.len_take i f (by omega)
  have hs1 := h1.size
  have hs2 := h12.size
  refine ⟨(hb.trans (h12.mono hb.size)).setCell hgl v, ⟨_, b2.set_ i v, by simpa using hs⟩, ?_, hgl⟩
  rw [Fr.take_succ i f hd, hsz]
  refine NdRow.snoc (f.take i) (hv.keep (fun p hp _ => far p (by omega)) (by omega) (Nat.le_refl _)) g 0 ?_ ?_
  · refine NdRow.keep (fun p hp hp' => ?_) (Nat.le_refl _) hs2 (f.take i) g 0 (fun j hj => ?_) hrow
    · rw [far p (by omega)]
      exact h12.cell hp'
    · rw [hlen] at hj
      rw [(b2.set_ i v).cell, hblk.cell]
      simp only [Array.getElem?_setIfInBounds]
      rw [if_neg (by omega)]
  · rw [hlen, (b2.set_ i v).cell]
    simp [Array.getElem?_setIfInBounds]
    omega
theorem NPart.start {w w2 : World} {f : Fr} {base : Nat} {xs : List Value} (hown : w2.ownsRow base 65 1 (.slice (some ⟨w.heap.size, 0, none⟩) f.len f.len) f.len xs) (hg : w.grownBy w2 none) : NPart w f w.heap.size 0 w2 := by
  rcases hown.2 with ⟨h', _⟩ | ⟨g', cap', cur, h', _, hb, _, _, hs, _⟩
  · simp at h'
  · simp only [Value.slice.injEq, Option.some.injEq, Addr.mk.injEq, and_true, true_and] at h'
    obtain ⟨rfl, rfl⟩ := h'
    exact ⟨(Below.refl _ _).grown hg (Nat.le_refl _) (fun k hk => by cases hk), ⟨cur, hb, by simpa using hs⟩, trivial, Nat.le_refl _⟩
theorem NPart.done {w wr : World} {f : Fr} {g : Nat} (h : NPart w f g f.len wr) (hl : f.len ≤ maxLen) : NdS wr w.heap.size wr.heap.size f (some ⟨g, 0, none⟩) f.len ∧ Below w.heap.size w wr := by
  obtain ⟨hb, ⟨cur, hblk, hs⟩, hrow, hgl⟩ := h
  rw [Fr.take_len] at hrow
  exact ⟨⟨Nat.le_refl _, hl, fun _ => ⟨g, rfl, hgl, hblk.lt, NdRow.keep (fun _ _ _ => rfl) (by omega) (Nat.le_refl _) f g 0 (fun _ _ => rfl) hrow⟩⟩, hb⟩
theorem NPart.cell {w wr w2 : World} {f : Fr} {g j : Nat} (h : NPart w f g j wr) (hj : j < f.len) (hb : Below wr.heap.size wr w2) : (∃ v, w2.cell? ⟨g, j, none⟩ = some v) ∧ w2.frozen? ⟨g, j, none⟩ = false := by
  obtain ⟨_, ⟨cur, hblk, hs⟩, _⟩ := h
  have hb2 := hblk.below hb hblk.lt
  refine ⟨?_, hb2.frozen _⟩
  rw [hb2.cell]
  exact ⟨_, Array.getElem?_eq_getElem (by omega)⟩

/-- What nodesOf answers. -/
def NodesRes (w : World) (f : Fr) (e : Ending) (w' : World) : Prop :=
  Below w.heap.size w w' ∧ ((allV f = true ∧ ∃ A cap, e = .returned (.tuple #[.slice A f.len cap, .bool true]) ∧ NdS w' w.heap.size w'.heap.size f A cap) ∨ (allV f = false ∧ e = .returned (.tuple #[.slice none 0 0, .bool false])))

set_option maxRecDepth 100000 in
set_option maxHeartbeats 2000000 in
/-- impl.nodesOf. -/
theorem nodesOf_any (f : Fr) (A : Option Addr) (cap lo hi : Nat) (w : World) (hk : KidsAt w lo hi f A cap) (hh : hi ≤ w.heap.size) (hnd : nodes f ≤ 1048576) (ht : nv.Tab w) :
    Calls Tryz.prog 32 #[.slice A f.len cap] w fun e w' => NodesRes w f e w' := by
  have hlt0 := tab_lt ht
  have HK := Lib.hid hk
  have HHI := Lib.hid hh
  have HND := Lib.hid hnd
  have HT := Lib.hid ht
  have hl : f.len ≤ 1048576 := by have := len_le_nodes f; omega
  have hst := fun w1 base xs => NPart.start (w := w) (w2 := w1) (f := f) (base := base) (xs := xs)
  have hfin := fun wr => NPart.done (w := w) (wr := wr) (f := f) (g := w.heap.size)
  have HST := Lib.hid hst
  have HFIN := Lib.hid hfin
  clear hk hh hnd ht hst hfin
  generalize hv : allV f = v
  have HV := Lib.hid hv
  generalize hn : f.len = len at *
  have HN := Lib.hid hn
  clear hn hv
  obtain ⟨i0, hi0, hz0, hz1, hz2⟩ := info_parts infoN
  go_enter Tryz.func32, Tryz.ntmps32
  go_wp2_with (at_make; go_must (refine wpList_make_full _ rfl _ _ 51 rfl w.heap.size 65 i0 _ 1 Tryz.underlying51 hi0 hz0 hz1 .i64 .i64 _ _ len rfl rfl rfl rfl (by rw [hz2]; omega) (by unfold maxLen; omega) (Nat.le_refl _) ?_); intro w1 hown hgrow)
  have hp0 := HST.out _ _ _ hown hgrow
  have HP0 := Lib.hid hp0
  clear hp0 hown hgrow HST hi0 hz0 hz1 hz2
  go_loopw [14] (fun i wr => ∃ (j : Nat), j ≤ len ∧ i = .int .i64 j ∧ allV (f.drop j) = v ∧ NPart w f w.heap.size j wr) (fun i _ => len - (intOf i).toNat)
  case atStart => exact ⟨0, Nat.zero_le _, rfl, HV.out, HP0.out⟩
  case round =>
    obtain ⟨j, hj, rfl, hv, hpart⟩ := hrel
    have HPT := Lib.hid hpart
    by_cases hlt : j < len
    · have hltf : j < f.len := by rw [HN.out]; exact hlt
      obtain ⟨kk, nn, s, kids, hd⟩ := Fr.drop_cons j f hltf
      obtain ⟨b, o, rfl, hlb, hbb, hrow⟩ := HK.out.2.2 (by rw [HN.out]; omega)
      obtain ⟨hfit, A', cp, c0, c1, c2, c3, hkid⟩ := hrow.elem hd
      rw [hd] at hv
      simp only [allV] at hv
      have hb := hpart.1
      have hlo : (⟨b, o, none⟩ : Addr).block < w.heap.size := Nat.lt_of_lt_of_le hbb HHI.out
      have k0 := (hb.cell (p := ⟨b, o + j * 4, none⟩) hlo).trans c0
      have k1 := (hb.cell (p := ⟨b, o + j * 4 + 1, none⟩) hlo).trans c1
      have k2 := (hb.cell (p := ⟨b, o + j * 4 + 2, none⟩) hlo).trans c2
      have k3 := (hb.cell (p := ⟨b, o + j * 4 + 3, none⟩) hlo).trans c3
      have hb1 : Below wr.heap.size wr (wr.alloc (.cells #[.int .i64 kk, .int .i64 nn, .string s, .slice A' kids.len cp] 44)) := (Below.refl _ _).alloc (Nat.le_refl _) _
      have hbw1 := hb.trans (hb1.mono hb.size)
      have C1 := nodeOf_any kk nn s kids A' cp lo hi _ (hkid.below hbw1 HHI.out) (Nat.le_trans HHI.out hbw1.size) hfit (Nat.le_trans (nodes_drop_elem j f hd) HND.out) (tab_below HT.out hbw1 hlt0)
      have cellsOf := fun w2 hb => HPT.out.cell (w2 := w2) hltf hb
      have stepOf := fun w2 v h2 hv => HPT.out.step (w2 := w2) (v := v) hd hltf hb1 h2 hv
      have H1 := Lib.hid C1
      have HB := Lib.hid hb
      have HB1 := Lib.hid hb1
      have HE := Lib.hid hv
      have HC := Lib.hid cellsOf
      have HS := Lib.hid stepOf
      clear C1 hb hb1 hbw1 hv c0 c1 c2 c3 hkid hrow hfit hd hlo cellsOf stepOf hpart hltf
      go_wp2_with fail
      refine H1.out.mono ?_
      rintro e w2 ⟨hb2, hr⟩
      have hb12 : Below wr.heap.size wr w2 := HB1.out.trans (hb2.mono HB1.out.size)
      rcases hr with ⟨hok, vv, rfl, hnv⟩ | ⟨hok, rfl⟩
      · obtain ⟨⟨v0, d0⟩, g0⟩ := HC.out w2 hb12
        have hstep := HS.out w2 vv hb2 hnv
        have HF : Hid (allV (f.drop (j + 1)) = v) := Lib.hid (by rw [← HE.out, hok]; rfl)
        obtain ⟨T, x, rfl⟩ := hnv.iface
        have HSTEP := Lib.hid hstep
        clear hok hnv hb2 hb12 hstep k0 k1 k2 k3
        go_wp2_with fail
        go_roundw
        case rel => exact ⟨j + 1, by omega, by go_num, HF.out, HSTEP.out⟩
        case measure => simp [intOf]; omega
      · have HF : Hid (v = false) := Lib.hid (by rw [← HE.out, hok]; rfl)
        have HBW : Hid (Below w.heap.size w w2) := Lib.hid (HB.out.trans (hb12.mono HB.out.size))
        clear hok hb2 hb12 k0 k1 k2 k3
        go_wp2_with fail
        go_ret2
        exact ⟨HBW.out, .inr ⟨HV.out.trans HF.out, rfl⟩⟩
    · obtain rfl : j = len := by omega
      have HE : Hid (allV f = true) := Lib.hid (by
        have h1 := Fr.drop_len f
        rw [HN.out] at h1
        rw [HV.out, ← hv, h1]; rfl)
      have hfin := HFIN.out wr HPT.out (by unfold maxLen; omega)
      have HF := Lib.hid hfin
      clear hpart hv hfin HPT
      go_wp2_with fail
      go_ret2
      refine ⟨HF.out.2, .inl ⟨HE.out, some ⟨w.heap.size, 0, none⟩, j, ?_, ?_⟩⟩
      · rw [HN.out]; rfl
      · have h := HF.out.1
        exact h
end Go.Proofs.YtohkpgpcipjpkaaGreatDoor

/- Rows of clauses (a head and a row of goals each): where they lie, and what a call owns. No condition. -/
namespace Go.Proofs.YtohkpgpcipjpkaaGreatDoor
open Go.RowKit

/-- A clause: its head's fields, and its body. -/
structure Cl where
  k : Int
  n : Int
  s : ByteArray
  kids : Fr
  body : Fr
/-- Head and body as one row of terms. -/
def Cl.row (c : Cl) : Fr := .cons c.k c.n c.s c.kids c.body
/-- Clauses in the memory: five cells each, from cell o of block b on; what they lead to lies in blocks from lo to below hi. -/
def ClAt (w : World) (lo hi : Nat) : List Cl → Nat → Nat → Prop
  | [], _, _ => True
  | c :: cs, b, o => Fits c.k c.n c.s ∧ (∃ (A : Option Addr) (cap : Nat) (B : Option Addr) (capB : Nat),
      (w.cell? ⟨b, o, none⟩ = some (.int .i64 c.k) ∧ w.cell? ⟨b, o + 1, none⟩ = some (.int .i64 c.n) ∧ w.cell? ⟨b, o + 2, none⟩ = some (.string c.s) ∧ w.cell? ⟨b, o + 3, none⟩ = some (.slice A c.kids.len cap) ∧ w.cell? ⟨b, o + 4, none⟩ = some (.slice B c.body.len capB)) ∧
      KidsAt w lo hi c.kids A cap ∧ KidsAt w lo hi c.body B capB) ∧ ClAt w lo hi cs b (o + 5)
def ClS (w : World) (lo hi : Nat) (cs : List Cl) (A : Option Addr) (cap : Nat) : Prop :=
  cs.length ≤ cap ∧ cap ≤ maxLen ∧ (0 < cs.length → ∃ b o, A = some ⟨b, o, none⟩ ∧ lo ≤ b ∧ b < hi ∧ ClAt w lo hi cs b o)
section
variable {w w' : World} {lo hi lo' hi' : Nat}
theorem ClAt.keep (hk : ∀ p : Addr, lo ≤ p.block → p.block < hi → w'.cell? p = w.cell? p) : ∀ (cs : List Cl) (b o : Nat), lo ≤ b → b < hi → ClAt w lo hi cs b o → ClAt w' lo hi cs b o
  | [], _, _, _, _, _ => trivial
  | c :: cs, b, o, hl, hb, h => by
    obtain ⟨hf, ⟨A, cap, B, capB, ⟨c0, c1, c2, c3, c4⟩, hkid, hbd⟩, hr⟩ := h
    exact ⟨hf, ⟨A, cap, B, capB, ⟨(hk _ hl hb).trans c0, (hk _ hl hb).trans c1, (hk _ hl hb).trans c2, (hk _ hl hb).trans c3, (hk _ hl hb).trans c4⟩, hkid.keep hk, hbd.keep hk⟩, ClAt.keep hk cs b (o + 5) hl hb hr⟩
theorem ClAt.more (hL : lo' ≤ lo) (hH : hi ≤ hi') : ∀ (cs : List Cl) (b o : Nat), ClAt w lo hi cs b o → ClAt w lo' hi' cs b o
  | [], _, _, _ => trivial
  | c :: cs, b, o, h => by
    obtain ⟨hf, ⟨A, cap, B, capB, hc, hkid, hbd⟩, hr⟩ := h
    exact ⟨hf, ⟨A, cap, B, capB, hc, hkid.more hL hH, hbd.more hL hH⟩, ClAt.more hL hH cs b (o + 5) hr⟩
theorem ClS.keep {cs : List Cl} {A : Option Addr} {cap : Nat} (h : ClS w lo hi cs A cap) (hk : ∀ p : Addr, lo ≤ p.block → p.block < hi → w'.cell? p = w.cell? p) : ClS w' lo hi cs A cap :=
  ⟨h.1, h.2.1, fun hp => by
    obtain ⟨b, o, e, hl, hb, hr⟩ := h.2.2 hp
    exact ⟨b, o, e, hl, hb, ClAt.keep hk cs b o hl hb hr⟩⟩
theorem ClS.below {cs : List Cl} {A : Option Addr} {cap B : Nat} (h : ClS w lo hi cs A cap) (hb : Below B w w') (hB : hi ≤ B) : ClS w' lo hi cs A cap := h.keep fun p _ hp => hb.cell (by omega)
theorem ClS.more {cs : List Cl} {A : Option Addr} {cap : Nat} (h : ClS w lo hi cs A cap) (hL : lo' ≤ lo) (hH : hi ≤ hi') : ClS w lo' hi' cs A cap :=
  ⟨h.1, h.2.1, fun hp => by
    obtain ⟨b, o, e, hl, hb, hr⟩ := h.2.2 hp
    exact ⟨b, o, e, by omega, by omega, hr.more hL hH⟩⟩
/-- What lies at clause i. -/
def ClElem (w : World) (lo hi : Nat) (c : Cl) (b o : Nat) : Prop :=
  Fits c.k c.n c.s ∧ ∃ (A : Option Addr) (cap : Nat) (B : Option Addr) (capB : Nat), w.cell? ⟨b, o, none⟩ = some (.int .i64 c.k) ∧ w.cell? ⟨b, o + 1, none⟩ = some (.int .i64 c.n) ∧ w.cell? ⟨b, o + 2, none⟩ = some (.string c.s) ∧ w.cell? ⟨b, o + 3, none⟩ = some (.slice A c.kids.len cap) ∧ w.cell? ⟨b, o + 4, none⟩ = some (.slice B c.body.len capB) ∧ KidsAt w lo hi c.kids A cap ∧ KidsAt w lo hi c.body B capB
theorem ClAt.elem : ∀ (i : Nat) (cs : List Cl) (b o : Nat) {c : Cl} {rest : List Cl}, ClAt w lo hi cs b o → cs.drop i = c :: rest → ClElem w lo hi c b (o + i * 5)
  | _, [], _, _, _, _, _, hd => by simp at hd
  | 0, c0 :: cs, b, o, _, _, h, hd => by
    obtain ⟨hf, ⟨A, cap, B, capB, ⟨c0, c1, c2, c3, c4⟩, hkid, hbd⟩, hr⟩ := h
    injection hd with e1 e2
    subst e1
    rw [Nat.zero_mul, Nat.add_zero]
    exact ⟨hf, A, cap, B, capB, c0, c1, c2, c3, c4, hkid, hbd⟩
  | i + 1, c0 :: cs, b, o, _, _, h, hd => by
    have h1 := ClAt.elem i cs b (o + 5) h.2.2 hd
    rw [show o + 5 + i * 5 = o + (i + 1) * 5 by omega] at h1
    exact h1
end

/-- Clauses that a call made: the rows of their terms lie in just the blocks L. -/
def OwnC (w : World) : List Cl → Nat → Nat → List Nat → Prop
  | [], _, _, L => L = []
  | c :: cs, b, o, L => ∃ (A : Option Addr) (cap : Nat) (B : Option Addr) (capB : Nat) (L1 L2 L3 : List Nat), L = L1 ++ (L2 ++ L3) ∧ Fits c.k c.n c.s ∧
      (w.cell? ⟨b, o, none⟩ = some (.int .i64 c.k) ∧ w.cell? ⟨b, o + 1, none⟩ = some (.int .i64 c.n) ∧ w.cell? ⟨b, o + 2, none⟩ = some (.string c.s) ∧ w.cell? ⟨b, o + 3, none⟩ = some (.slice A c.kids.len cap) ∧ w.cell? ⟨b, o + 4, none⟩ = some (.slice B c.body.len capB)) ∧
      OwnS w c.kids A cap L1 ∧ OwnS w c.body B capB L2 ∧ OwnC w cs b (o + 5) L3
section
variable {w w' : World}
theorem OwnC.keep : ∀ (cs : List Cl) (b o : Nat) (L : List Nat), OwnC w cs b o L → (∀ j, j < cs.length * 5 → w'.cell? ⟨b, o + j, none⟩ = w.cell? ⟨b, o + j, none⟩) → (∀ x ∈ L, w'.heap[x]? = w.heap[x]?) → OwnC w' cs b o L
  | [], _, _, _, h, _, _ => h
  | c :: cs, b, o, L, h, hc, hL => by
    obtain ⟨A, cap, B, capB, L1, L2, L3, rfl, hf, ⟨c0, c1, c2, c3, c4⟩, ho, hob, hr⟩ := h
    simp only [List.length_cons] at hc
    refine ⟨A, cap, B, capB, L1, L2, L3, rfl, hf, ⟨(hc 0 (by omega)).trans c0, (hc 1 (by omega)).trans c1, (hc 2 (by omega)).trans c2, (hc 3 (by omega)).trans c3, (hc 4 (by omega)).trans c4⟩, ho.keep fun x hx => hL x (by simp [hx]), hob.keep fun x hx => hL x (by simp [hx]), OwnC.keep cs b (o + 5) L3 hr (fun j hj => ?_) fun x hx => hL x (by simp [hx])⟩
    have := hc (5 + j) (by omega)
    rwa [← Nat.add_assoc] at this
theorem OwnC.snoc {c : Cl} {A B : Option Addr} {cap capB : Nat} {L1' L2' : List Nat} (hf : Fits c.k c.n c.s) (hs : OwnS w c.kids A cap L1') (hsb : OwnS w c.body B capB L2') : ∀ (cs : List Cl) (b o : Nat) (L : List Nat), OwnC w cs b o L →
    w.cell? ⟨b, o + cs.length * 5, none⟩ = some (.int .i64 c.k) → w.cell? ⟨b, o + cs.length * 5 + 1, none⟩ = some (.int .i64 c.n) → w.cell? ⟨b, o + cs.length * 5 + 2, none⟩ = some (.string c.s) → w.cell? ⟨b, o + cs.length * 5 + 3, none⟩ = some (.slice A c.kids.len cap) → w.cell? ⟨b, o + cs.length * 5 + 4, none⟩ = some (.slice B c.body.len capB) →
    OwnC w (cs ++ [c]) b o (L ++ (L1' ++ L2'))
  | [], b, o, L, h, c0, c1, c2, c3, c4 => by
    have h' : L = [] := h
    subst h'
    exact ⟨A, cap, B, capB, L1', L2', [], by simp, hf, ⟨c0, c1, c2, c3, c4⟩, hs, hsb, rfl⟩
  | c' :: cs, b, o, L, h, c0, c1, c2, c3, c4 => by
    obtain ⟨A', cap', B', capB', L1, L2, L3, rfl, hf', hc', ho', hob', hr⟩ := h
    have e : o + (c' :: cs).length * 5 = o + 5 + cs.length * 5 := by simp only [List.length_cons]; omega
    rw [e] at c0 c1 c2 c3 c4
    exact ⟨A', cap', B', capB', L1, L2, L3 ++ (L1' ++ L2'), by simp, hf', hc', ho', hob', OwnC.snoc hf hs hsb cs b (o + 5) L3 hr c0 c1 c2 c3 c4⟩
theorem OwnC.row {lo hi : Nat} : ∀ (cs : List Cl) (b o : Nat) (L : List Nat), OwnC w cs b o L → (∀ x ∈ L, lo ≤ x ∧ x < hi) → ClAt w lo hi cs b o
  | [], _, _, _, _, _ => trivial
  | c :: cs, b, o, L, h, hL => by
    obtain ⟨A, cap, B, capB, L1, L2, L3, rfl, hf, hc, ho, hob, hr⟩ := h
    exact ⟨hf, ⟨A, cap, B, capB, hc, ho.kids fun x hx => hL x (by simp [hx]), hob.kids fun x hx => hL x (by simp [hx])⟩, OwnC.row cs b (o + 5) L3 hr fun x hx => hL x (by simp [hx])⟩
theorem OwnC.lt : ∀ (cs : List Cl) (b o : Nat) (L : List Nat), OwnC w cs b o L → ∀ x ∈ L, x < w.heap.size
  | [], _, _, L, h, x, hx => by
    have h' : L = [] := h
    subst h'
    cases hx
  | c :: cs, b, o, L, h, x, hx => by
    obtain ⟨A, cap, B, capB, L1, L2, L3, rfl, hf, hc, ho, hob, hr⟩ := h
    rcases List.mem_append.1 hx with h | h
    · exact ho.lt x h
    · rcases List.mem_append.1 h with h | h
      · exact hob.lt x h
      · exact OwnC.lt cs b (o + 5) L3 hr x h
end
/-- What a call leaves that made one clause. -/
def MadeCl (w : World) (c : Cl) (A : Option Addr) (cap : Nat) (B : Option Addr) (capB : Nat) (w' : World) : Prop :=
  ∃ L1 L2, OwnS w' c.kids A cap L1 ∧ OwnS w' c.body B capB L2 ∧ (L1 ++ L2).Nodup ∧ (∀ x ∈ L1 ++ L2, w.heap.size ≤ x ∧ x < w'.heap.size) ∧ Below w.heap.size w w'
theorem MadeCl.at_ {w w' : World} {c : Cl} {A B : Option Addr} {cap capB : Nat} (h : MadeCl w c A cap B capB w') : KidsAt w' w.heap.size w'.heap.size c.kids A cap ∧ KidsAt w' w.heap.size w'.heap.size c.body B capB ∧ Below w.heap.size w w' := by
  obtain ⟨L1, L2, h1, h2, _, hL, hb⟩ := h
  exact ⟨h1.kids fun x hx => hL x (by simp [hx]), h2.kids fun x hx => hL x (by simp [hx]), hb⟩
end Go.Proofs.YtohkpgpcipjpkaaGreatDoor

/- laws.szClause, szClauseS, toClause, toClauseS. Condition: the clauses lie in memory; no more than the law's budget. -/
namespace Go.Proofs.YtohkpgpcipjpkaaGreatDoor
open Go.RowKit

def szC (c : Cl) (l : Int) : Int := if szT c.s c.kids l < 0 then -1 else szS c.body (szT c.s c.kids l)
def wtC (c : Cl) : Nat := c.s.size + c.kids.len + wt c.kids + c.body.len + wt c.body
theorem szC_range (c : Cl) (l : Int) (h : 0 ≤ l) : -1 ≤ szC c l ∧ szC c l ≤ l ∧ (0 ≤ szC c l → szC c l = l - wtC c) := by
  have h1 := szT_range c.s c.kids l h
  unfold szC
  split
  · exact ⟨by omega, by omega, fun h => absurd h (by omega)⟩
  · have h2 := szS_range c.body (szT c.s c.kids l) (by omega)
    refine ⟨h2.1, by omega, fun h0 => ?_⟩
    have a := h1.2.2 (by omega)
    have b := h2.2.2 h0
    unfold wtC
    omega
def szCF : List Cl → Int → Int
  | [], l => l
  | c :: cs, l => if szC c l < 0 then -1 else szCF cs (szC c l)
def szCS (cs : List Cl) (l : Int) : Int := if l - cs.length < 0 then -1 else szCF cs (l - cs.length)
def wtCs : List Cl → Nat
  | [] => 0
  | c :: cs => wtC c + wtCs cs
theorem szCF_range : ∀ (cs : List Cl) (l : Int), 0 ≤ l → -1 ≤ szCF cs l ∧ szCF cs l ≤ l ∧ (0 ≤ szCF cs l → szCF cs l = l - wtCs cs)
  | [], l, h => ⟨by unfold szCF; omega, Int.le_refl _, fun _ => by simp [szCF, wtCs]⟩
  | c :: cs, l, h => by
    have h1 := szC_range c l h
    unfold szCF
    split
    · exact ⟨by omega, by omega, fun h => absurd h (by omega)⟩
    · have h2 := szCF_range cs (szC c l) (by omega)
      refine ⟨h2.1, by omega, fun h0 => ?_⟩
      have a := h1.2.2 (by omega)
      have b := h2.2.2 h0
      simp only [wtCs]
      omega
theorem szCS_range (cs : List Cl) (l : Int) (h : 0 ≤ l) : -1 ≤ szCS cs l ∧ szCS cs l ≤ l ∧ (0 ≤ szCS cs l → szCS cs l = l - cs.length - wtCs cs) := by
  unfold szCS
  split
  · exact ⟨by omega, by omega, fun h => absurd h (by omega)⟩
  · have := szCF_range cs (l - cs.length) (by omega)
    omega
theorem wtC_le : ∀ (cs : List Cl) (i : Nat) {c : Cl} {rest : List Cl}, cs.drop i = c :: rest → wtC c ≤ wtCs cs
  | [], i, _, _, h => by simp at h
  | c' :: cs, 0, _, _, h => by
    injection h with e1 e2
    subst e1
    simp only [wtCs]; omega
  | c' :: cs, i + 1, _, _, h => by
    have := wtC_le cs i h
    simp only [wtCs]; omega
theorem drop_cl (cs : List Cl) (i : Nat) (h : i < cs.length) : ∃ c, cs.drop i = c :: cs.drop (i + 1) := ⟨cs[i], List.drop_eq_getElem_cons h⟩

end Go.Proofs.YtohkpgpcipjpkaaGreatDoor

/- Clauses and programs: what is valid, and the model's ClauseValid, ProgramValid. Condition: the clauses lie in memory. -/
namespace Go.Proofs.YtohkpgpcipjpkaaGreatDoor
open Go.RowKit

theorem nodes_wt_le (f : Fr) : nodes f ≤ f.len + wt f := by
  induction f with
  | nil => exact Nat.le_refl _
  | cons k n s kids rest h1 h2 => simp only [nodes, Fr.len, wt]; omega
def allG : Fr → Bool
  | .nil => true
  | .cons k n s kids rest => goalV k n s kids && allG rest
def goalsV (f : Fr) : Bool := decide (f.len ≤ 6) && allG f
def clauseV (c : Cl) : Bool := plainV c.k c.n c.s c.kids && goalsV c.body
def allC : List Cl → Bool
  | [] => true
  | c :: cs => clauseV c && allC cs
def progV (cs : List Cl) : Bool := decide (cs.length ≤ 20) && allC cs

theorem wtC_nodes (c : Cl) : nodes c.kids + nodes c.body ≤ wtC c := by
  have h1 := nodes_wt_le c.kids
  have h2 := nodes_wt_le c.body
  unfold wtC
  omega

end Go.Proofs.YtohkpgpcipjpkaaGreatDoor

/- Queries: the model's QueryValid, l6Vars, QueryVars. Condition: the terms lie in memory. -/
namespace Go.Proofs.YtohkpgpcipjpkaaGreatDoor
open Go.RowKit

set_option maxRecDepth 100000 in
set_option maxHeartbeats 2000000 in
/-- spec.QueryValid. -/
theorem specQV_any (f : Fr) (A : Option Addr) (cap lo hi : Nat) (w : World) (hk : KidsAt w lo hi f A cap) (hh : hi ≤ w.heap.size) (hnd : nodes f ≤ 1048576) :
    Calls Tryz.prog 14 #[.slice A f.len cap] w fun e w' => e = .returned (.bool (goalsV f)) ∧ Below w.heap.size w w' := by
  have hl : f.len ≤ 1048576 := by have := len_le_nodes f; omega
  have HE : Hid (goalsV f = (decide (f.len ≤ 6) && allG f)) := Lib.hid rfl
  have HKB := Lib.hid hk
  have HHI := Lib.hid hh
  have HND := Lib.hid hnd
  clear hk hh hnd
  generalize hn : f.len = len at *
  have HN := Lib.hid hn
  clear hn
  go_enter Tryz.func14, Tryz.ntmps14
  go_wp2_with fail
  go_loopw [3] (fun i wr => ∃ (j : Nat), j ≤ len ∧ j ≤ 7 ∧ i = .int .i64 j ∧ allG (f.drop j) = allG f ∧ Below w.heap.size w wr) (fun i _ => 8 - (intOf i).toNat)
  case atStart => exact ⟨0, Nat.zero_le _, by omega, rfl, rfl, Below.refl _ _⟩
  case round =>
    obtain ⟨j, hj, hj7, rfl, hall, hbw⟩ := hrel
    have HBW := Lib.hid hbw
    have HA := Lib.hid hall
    clear hall
    by_cases hlt : j < len
    · by_cases h6 : j ≤ 6
      · obtain ⟨kk, nn, s', kids', hd⟩ := Fr.drop_cons j f (by rw [HN.out]; exact hlt)
        obtain ⟨b, o, rfl, hlb, hbb, hrow⟩ := HKB.out.2.2 (by rw [HN.out]; omega)
        obtain ⟨hfit, A', cp, c0, c1, c2, c3, hkid⟩ := hrow.elem hd
        have hlo : (⟨b, o, none⟩ : Addr).block < w.heap.size := Nat.lt_of_lt_of_le hbb HHI.out
        have k0 := (hbw.cell (p := ⟨b, o + j * 4, none⟩) hlo).trans c0
        have k1 := (hbw.cell (p := ⟨b, o + j * 4 + 1, none⟩) hlo).trans c1
        have k2 := (hbw.cell (p := ⟨b, o + j * 4 + 2, none⟩) hlo).trans c2
        have k3 := (hbw.cell (p := ⟨b, o + j * 4 + 3, none⟩) hlo).trans c3
        have C3 := specGoal_any kk nn s' kids' A' cp lo hi wr (hkid.below hbw HHI.out) (Nat.le_trans HHI.out hbw.size) hfit (Nat.le_trans (nodes_drop_elem j f hd) HND.out)
        have hA2 := HA.out
        rw [hd] at hA2
        have hA3 : (goalV kk nn s' kids' && allG (f.drop (j + 1))) = allG f := hA2
        generalize goalV kk nn s' kids' = v at *
        have HA3 := Lib.hid hA3
        have H3 := Lib.hid C3
        clear C3 c0 c1 c2 c3 hkid hrow hfit hd hlo hA2 hA3 hbw
        cases v
        · have HV : Hid (goalsV f = false) := Lib.hid (by rw [HE.out, ← HA3.out]; simp)
          go_wp2_with fail
          refine H3.out.mono ?_
          rintro e w3 ⟨rfl, hb3⟩
          have HB3 := Lib.hid (HBW.out.trans (hb3.mono HBW.out.size))
          clear hb3
          go_wp2_with fail
          go_ret
          rw [HV.out]; exact ⟨rfl, HB3.out⟩
        · have HA4 : Hid (allG (f.drop (j + 1)) = allG f) := Lib.hid (by rw [← HA3.out]; simp)
          go_wp2_with fail
          refine H3.out.mono ?_
          rintro e w3 ⟨rfl, hb3⟩
          have HB3 := Lib.hid (HBW.out.trans (hb3.mono HBW.out.size))
          clear hb3
          go_wp2_with fail
          go_roundw
          case rel => exact ⟨j + 1, by omega, by omega, by go_num, HA4.out, HB3.out⟩
          case measure => simp [intOf]; omega
      · have hlen6 : 6 < len := by omega
        have HV : Hid (goalsV f = false) := Lib.hid (by rw [HE.out, decide_eq_false (by omega)]; simp)
        have d6 : decide ((len : Int) ≤ 6) = false := decide_eq_false (by omega)
        have e6 : decide ((j : Int) ≤ 6) = false := decide_eq_false (by omega)
        clear hbw
        go_wp2_with fail
        go_ret
        rw [HV.out]; exact ⟨rfl, HBW.out⟩
    · obtain rfl : j = len := by omega
      clear hbw
      have HAL : Hid (allG f = true) := Lib.hid (by
        have h1 := Fr.drop_len f
        rw [HN.out] at h1
        rw [← HA.out, h1]; rfl)
      by_cases h6 : j ≤ 6
      · have HV : Hid (goalsV f = true) := Lib.hid (by rw [HE.out, HAL.out, decide_eq_true h6]; rfl)
        have d6 : decide ((j : Int) ≤ 6) = true := decide_eq_true (by omega)
        go_wp2_with fail
        go_ret
        rw [HV.out]; exact ⟨rfl, HBW.out⟩
      · have HV : Hid (goalsV f = false) := Lib.hid (by rw [HE.out, decide_eq_false h6]; rfl)
        have d6 : decide ((j : Int) ≤ 6) = false := decide_eq_false (by omega)
        go_wp2_with fail
        go_ret
        rw [HV.out]; exact ⟨rfl, HBW.out⟩

/-- The variables of a query's goals. -/
def qvF (f : Fr) : List Int := if goalsV f = true then varsF [] f else []
theorem varsF_drop {f rest : Fr} {j : Nat} {k n : Int} {s : ByteArray} {kids : Fr} (hd : f.drop j = .cons k n s kids rest) (acc : List Int) : varsF acc (f.drop j) = varsF (varsT acc k n kids) rest := by
  rw [hd]
  rfl

set_option maxRecDepth 100000 in
set_option maxHeartbeats 2000000 in
/-- spec.l6Vars. -/
theorem l6Vars_any (f : Fr) (A : Option Addr) (cap lo hi : Nat) (w : World) (hk : KidsAt w lo hi f A cap) (hh : hi ≤ w.heap.size) (hnd : nodes f ≤ 1048576) :
    Calls Tryz.prog 23 #[.slice A f.len cap] w fun e w' => ∃ v, e = .returned v ∧ OwnI w' w.heap.size v (varsF [] f) ∧ Below w.heap.size w w' := by
  have hl : f.len ≤ 1048576 := by have := len_le_nodes f; omega
  have HKB := Lib.hid hk
  have HHI := Lib.hid hh
  have HND := Lib.hid hnd
  have hst : OwnI (w.alloc (.cells #[] 3)) w.heap.size (.slice (some ⟨w.heap.size, 0, none⟩) 0 0) [] ∧ Below w.heap.size w (w.alloc (.cells #[] 3)) := ⟨OwnI.empty w (Nat.le_refl _), (Below.refl _ _).alloc (Nat.le_refl _) _⟩
  have HST := Lib.hid hst
  clear hk hh hnd hst
  generalize hn : f.len = len at *
  have HN := Lib.hid hn
  clear hn
  go_enter Tryz.func23, Tryz.ntmps23
  go_wp2_with fail
  go_loopw [3, 4] (fun o i wr => ∃ (j : Nat) (acc : List Int), j ≤ len ∧ i = .int .i64 j ∧ OwnI wr w.heap.size o acc ∧ acc.length + nodes (f.drop j) ≤ nodes f ∧ varsF acc (f.drop j) = varsF [] f ∧ Below w.heap.size w wr) (fun _ i _ => len - (intOf i).toNat)
  case atStart => exact ⟨0, [], Nat.zero_le _, rfl, HST.out.1, by simp [Fr.drop], rfl, HST.out.2⟩
  case round =>
    obtain ⟨j, acc, hj, rfl, ho, hna, hva, hbw⟩ := hrel
    have HBW := Lib.hid hbw
    have HO := Lib.hid ho
    have HNA := Lib.hid hna
    have HVA := Lib.hid hva
    obtain ⟨A0, cap0, hform, hc0, hm0, _⟩ := ho.read
    subst hform
    clear hna hva ho
    by_cases hlt : j < len
    · obtain ⟨kk, nn, s', kids', hd⟩ := Fr.drop_cons j f (by rw [HN.out]; exact hlt)
      obtain ⟨b, o, rfl, hlb, hbb, hrow⟩ := HKB.out.2.2 (by rw [HN.out]; omega)
      obtain ⟨hfit, A', cp, c0, c1, c2, c3, hkid⟩ := hrow.elem hd
      have hlo : (⟨b, o, none⟩ : Addr).block < w.heap.size := Nat.lt_of_lt_of_le hbb HHI.out
      have k0 := (hbw.cell (p := ⟨b, o + j * 4, none⟩) hlo).trans c0
      have k1 := (hbw.cell (p := ⟨b, o + j * 4 + 1, none⟩) hlo).trans c1
      have k2 := (hbw.cell (p := ⟨b, o + j * 4 + 2, none⟩) hlo).trans c2
      have k3 := (hbw.cell (p := ⟨b, o + j * 4 + 3, none⟩) hlo).trans c3
      have hnd2 : acc.length + nodes kids' ≤ 2097152 ∧ (varsT acc kk nn kids').length + nodes (f.drop (j + 1)) ≤ nodes f := by
        have h1 := HNA.out
        have h2 := HND.out
        rw [hd] at h1
        have h4 := varsT_len acc kk nn kids'
        simp only [nodes] at h1
        omega
      have C3 := va_all kids'.size s' kids' (Nat.le_refl _) kk nn A' cp lo hi w.heap.size acc (.slice A0 acc.length cap0) wr (hkid.below hbw HHI.out) HHI.out hbw.size HO.out hnd2.1
      have HV2 : Hid (varsF (varsT acc kk nn kids') (f.drop (j + 1)) = varsF [] f) := Lib.hid (by rw [← varsF_drop hd]; exact HVA.out)
      have hlo2 := HO.out.lt
      have HLO := Lib.hid hlo2
      have HN2 := Lib.hid hnd2.2
      have H3 := Lib.hid C3
      clear C3 c0 c1 c2 c3 hkid hrow hfit hd hlo hnd2 hbw hlo2
      go_wp2_with fail
      refine H3.out.mono ?_
      rintro e w3 ⟨v', rfl, ho3, hw3, hn3⟩
      have hb3 : Below w.heap.size w w3 := HBW.out.trans (hw3.below HBW.out.size fun x hx => (HLO.out x hx).1)
      have HB3 := Lib.hid hb3
      have HO3 := Lib.hid ho3
      obtain ⟨A3, cap3, hform, _⟩ := ho3.read
      subst hform
      clear hb3 ho3 hw3 hn3
      go_wp2_with fail
      go_roundw
      case rel => exact ⟨j + 1, _, by omega, by go_num, HO3.out, HN2.out, HV2.out, HB3.out⟩
      case measure => simp [intOf]; omega
    · obtain rfl : j = len := by omega
      have HAL : Hid (acc = varsF [] f) := Lib.hid (by
        have h1 := Fr.drop_len f
        rw [HN.out] at h1
        rw [← HVA.out, h1]; rfl)
      clear hbw
      go_wp2_with fail
      go_ret
      refine ⟨_, rfl, ?_, HBW.out⟩
      rw [← HAL.out]
      exact HO.out

set_option maxRecDepth 100000 in
set_option maxHeartbeats 2000000 in
/-- spec.QueryVars. -/
theorem specQVars_any (f : Fr) (A : Option Addr) (cap lo hi : Nat) (w : World) (hk : KidsAt w lo hi f A cap) (hh : hi ≤ w.heap.size) (hnd : nodes f ≤ 1048576) :
    Calls Tryz.prog 13 #[.slice A f.len cap] w fun e w' => ∃ v, e = .returned v ∧ OwnI w' w.heap.size v (qvF f) ∧ Below w.heap.size w w' := by
  have C1 := specQV_any f A cap lo hi w hk hh hnd
  have C2 := fun w1 (hb : Below w.heap.size w w1) => l6Vars_any f A cap lo hi w1 (hk.below hb hh) (Nat.le_trans hh hb.size) hnd
  have HE : Hid (qvF f = if goalsV f = true then varsF [] f else []) := Lib.hid rfl
  generalize goalsV f = v at *
  have H1 := Lib.hid C1
  have H2 := Lib.hid C2
  clear C1 C2 hk hh hnd
  generalize f.len = len at *
  cases v
  · have HV : Hid (qvF f = []) := Lib.hid (by rw [HE.out]; rfl)
    go_enter Tryz.func13, Tryz.ntmps13
    go_wp2_with fail
    refine H1.out.mono ?_
    rintro e w2 ⟨rfl, hb2⟩
    have HF : Hid (OwnI (w2.alloc (.cells #[] 3)) w.heap.size (.slice (some ⟨w2.heap.size, 0, none⟩) 0 0) [] ∧ Below w.heap.size w (w2.alloc (.cells #[] 3))) := Lib.hid ⟨OwnI.empty w2 hb2.size, hb2.alloc hb2.size _⟩
    clear hb2
    go_wp2_with fail
    go_ret
    rw [HV.out]
    exact ⟨_, rfl, HF.out⟩
  · have HV : Hid (qvF f = varsF [] f) := Lib.hid (by rw [HE.out]; rfl)
    go_enter Tryz.func13, Tryz.ntmps13
    go_wp2_with fail
    refine H1.out.mono ?_
    rintro e w2 ⟨rfl, hb2⟩
    have HB2 := Lib.hid hb2
    clear hb2
    go_wp2_with fail
    refine (H2.out w2 HB2.out).mono ?_
    rintro e w3 ⟨v, rfl, ho, hb3⟩
    have HF : Hid (OwnI w3 w.heap.size v (varsF [] f) ∧ Below w.heap.size w w3) := Lib.hid ⟨ho.mono HB2.out.size, HB2.out.trans (hb3.mono HB2.out.size)⟩
    obtain ⟨A3, cap3, hform, _⟩ := ho.read
    subst hform
    clear ho hb3
    go_wp2_with fail
    go_ret
    rw [HV.out]
    exact ⟨_, rfl, HF.out⟩
end Go.Proofs.YtohkpgpcipjpkaaGreatDoor

/- impl's numbering: newNumbering, place; what it is for replaceVars. Condition: the nodes lie in memory and are well-formed. -/
namespace Go.Proofs.YtohkpgpcipjpkaaGreatDoor
open Go.RowKit Go.Maps

/-- The map leads each number that was met to its place. -/
def NumD (D : DataW Unit) (acc : List Int) : Prop :=
  IsMap D ∧ (∀ n, has D (.int .i64 n) = acc.contains n) ∧ (∀ n, acc.contains n = true → D.atKey (.int .i64 n) (.lit (.int .i64 0)) = .lit (.int .i64 (acc.idxOf n)))
theorem NumD.nil : NumD (.map []) [] := ⟨isMap_empty, fun _ => rfl, fun n h => by simp at h⟩
theorem NumD.step {D : DataW Unit} {acc : List Int} (h : NumD D acc) (n : Int) (hn : acc.contains n = false) : NumD (D.put (.int .i64 n) (.lit (.int .i64 acc.length))) (acc ++ [n]) := by
  have hm : n ∉ acc := fun e => by
    have := List.contains_iff_mem.2 e
    rw [hn] at this
    cases this
  refine ⟨h.1.put _ _, fun m => ?_, fun m hc => ?_⟩
  · by_cases e : m = n
    · subst e
      rw [has_put_same h.1 (show WideAt.IsKeyLit (.int .i64 m) from trivial)]
      simp
    · rw [has_put_other (fun h => e (by injection h)), h.2.1]
      rw [Bool.eq_iff_iff, List.contains_iff_mem, List.contains_iff_mem]
      simp [e]
  · by_cases e : m = n
    · subst e
      rw [atKey_put_same h.1 (show WideAt.IsKeyLit (.int .i64 m) from trivial), List.idxOf_append, if_neg hm]
      simp
    · rw [atKey_put_other (fun h => e (by injection h))]
      have hc' : m ∈ acc := by
        have := List.contains_iff_mem.1 hc
        simpa [e] using this
      rw [h.2.2 m (List.contains_iff_mem.2 hc'), List.idxOf_append, if_pos hc']

/-- The numbering in block mb: its map in bm, its row of numbers vo, which reads as acc. -/
def Num (w : World) (base mb bm : Nat) (vo : Value) (acc : List Int) : Prop :=
  Blk w mb 83 #[.map (some bm), vo] ∧ (∃ D, w.ownsMap Tryz.prog 63 (plainElem Tryz.prog 63) bm acc.length D ∧ NumD D acc) ∧ OwnI w base vo acc ∧ mb < base ∧ bm < base ∧ bm ≠ mb
def NumRes (w : World) (base mb bm : Nat) (vo : Value) (xs : List Int) (w' : World) : Prop :=
  ∃ vo', Num w' base mb bm vo' xs ∧ Wrote (mb :: bm :: ownV vo) w w' ∧ (∀ x ∈ ownV vo', x ∈ ownV vo ∨ w.heap.size ≤ x)

theorem Num.below {w w' : World} {base mb bm : Nat} {vo : Value} {acc : List Int} (h : Num w base mb bm vo acc) (hb : Below w.heap.size w w') : Num w' base mb bm vo acc := by
  obtain ⟨b0, ⟨D, hD, hN⟩, ho, h1, h2, h3⟩ := h
  exact ⟨b0.below hb b0.lt, ⟨D, hD.kept (row := none) ⟨hb.os, hb.tape, hb.output, hb.size, fun k hk _ => hb.block k hk⟩ (by simp), hN⟩, ho.below hb, h1, h2, h3⟩

/-- A number that was not met is put into the map and behind the row. -/
theorem Num.step {w w1 w6 : World} {base mb bm g cap4 : Nat} {vo : Value} {acc : List Int} {n : Int} {D : DataW Unit} (hb0 : Blk w mb 83 #[.map (some bm), vo]) (ho : OwnI w base vo acc) (h1 : mb < base) (h2 : bm < base) (h3 : bm ≠ mb) (hN : NumD D acc) (hn : acc.contains n = false)
    (hown1 : w1.ownsMap Tryz.prog 63 (plainElem Tryz.prog 63) bm (acc.length + 1) (D.put (.int .i64 n) (.lit (.int .i64 acc.length)))) (hg1 : w.grownBy w1 (some bm))
    (hg : (w1.alloc (.cells #[.int .i64 n] 3)).grownBy w6 vo.ownBlock)
    (hown6 : w6.ownsRow base 3 1 (.slice (some ⟨g, 0, none⟩) (acc.length + 1) cap4) (acc.length + 1) (acc.map (Value.int .i64) ++ [.int .i64 n])) (hat : vo.ownBlock = some g ∨ g = w1.heap.size + 1) :
    NumRes w base mb bm vo (acc ++ [n]) (w6.setCell ⟨mb, 1, none⟩ (.slice (some ⟨g, 0, none⟩) (acc.length + 1) cap4)) := by
  have hlt := ho.lt
  have hw1 : Wrote [bm] w w1 := ⟨hg1.os, hg1.tape, hg1.output, hg1.size, fun x hx hn => hg1.block x hx fun e => hn (by simpa using e)⟩
  have ho1 : OwnI w1 base vo acc := ho.keep hw1 fun x hx e => by have := (hlt x hx).1; simp at e; omega
  have hs := OwnI.snoc (H := w1.heap.size + 1) (v := vo) (Wrote.of_below ((Below.refl w1.heap.size w1).alloc (Nat.le_refl _) (.cells #[.int .i64 n] 3)) _) hg hown6 hat (by omega)
  have hb1 : Blk w1 mb 83 #[.map (some bm), vo] := hw1.blk hb0 fun e => by simp at e; omega
  have hmo : mb ∉ ownV vo := fun e => by have := (hlt _ e).1; omega
  have hb6 := hs.2.1.blk hb1 hmo
  have hon : ∀ x ∈ ownV (.slice (some ⟨g, 0, none⟩) (acc.length + 1) cap4), base ≤ x := fun x hx => (hs.1.lt x hx).1
  have hneb : some bm ≠ vo.ownBlock := fun e => by
    have := (hlt bm (by unfold ownV; rw [← e]; simp)).1
    omega
  refine ⟨_, ⟨?_, ⟨_, by rw [show (acc ++ [n]).length = acc.length + 1 by simp]; exact ((hown1.alloc _).kept hg hneb).setCell h3 _, hN.step n hn⟩, hs.1.keep (L := [mb]) ((Wrote.refl _ _).set_ (.inl (by simp)) _) (fun x hx e => ?_), h1, h2, h3⟩, ?_, fun x hx => ?_⟩
  · have h := hb6.set_ 1 (.slice (some ⟨g, 0, none⟩) (acc.length + 1) cap4)
    simpa using h
  · have := hon x hx
    simp at e; omega
  · exact ((hw1.more (L' := mb :: bm :: ownV vo) (by simp)).trans (hs.2.1.more (by simp +contextual))).set_ (.inl (by simp)) _
  · rcases hs.2.2 x hx with h | h
    · exact .inl h
    · exact .inr (Nat.le_trans hg1.size h)

theorem lawV : Keyed Tryz.prog 63 := int_keyed Tryz.underlying63
theorem zeroV (w : World) : (zeroValue 63).run Tryz.prog w = .ok (.int .i64 0) w := by kernel_rfl

set_option maxRecDepth 100000 in
set_option maxHeartbeats 1000000 in
/-- numbering.place. -/
theorem place_any (n : Int) (acc : List Int) (vo : Value) (base mb bm : Nat) (w : World) (hN : Num w base mb bm vo acc) (hbs : base ≤ w.heap.size) (hacc : acc.length ≤ 2097152) (hn : -999 ≤ n ∧ n ≤ 999) :
    Calls Tryz.prog 31 #[.pointer (some ⟨mb, 0, none⟩), .int .i64 n] w fun e w' => e = .returned (.iface 63 (.int .i64 ((addV acc n).idxOf n : Int))) ∧ NumRes w base mb bm vo (addV acc n) w' := by
  have hN0 := hN
  obtain ⟨b0, ⟨D, hD, hND⟩, ho, h1, h2, h3⟩ := hN
  have c0 := b0.cell 0
  have c1 := b0.cell 1
  have f1 := b0.frozen 1
  simp only [List.getElem?_toArray, List.getElem?_cons_zero, List.getElem?_cons_succ] at c0 c1
  have hkey : keyOf Tryz.prog 63 (.int .i64 n) = some (.int .i64 n) := keyOf_int_mk Tryz.underlying63 (WalkArith.wf_i64 (by omega))
  have hh := hND.2.1 n
  have HD := Lib.hid hD
  have HN0 := Lib.hid hN0
  cases hc : acc.contains n
  · have hV : addV acc n = acc ++ [n] := by unfold addV; rw [hc]; rfl
    have hix : ((acc ++ [n]).idxOf n : Int) = (acc.length : Int) := by
      have hm : n ∉ acc := fun e => by
        have := List.contains_iff_mem.2 e
        rw [hc] at this
        cases this
      rw [List.idxOf_append, if_neg hm]
      simp
    rw [hV, hix]
    obtain ⟨A0, cap0, hform, hc0, hm0, hr0⟩ := ho.read
    subst hform
    have STEP := fun w1 w6 g cap4 h4 h5 h6 h7 h8 => Num.step (w1 := w1) (w6 := w6) (g := g) (cap4 := cap4) b0 ho h1 h2 h3 hND hc h4 h5 h6 h7 h8
    have HSTEP := Lib.hid STEP
    have hlt := ho.lt
    have hmlt := b0.lt
    have FAR : ∀ w1, w.grownBy w1 (some bm) → w1.cell? ⟨mb, 0, none⟩ = some (.map (some bm)) ∧ w1.cell? ⟨mb, 1, none⟩ = some (.slice A0 acc.length cap0) ∧ w1.frozen? ⟨mb, 1, none⟩ = false ∧ OwnI w1 base (.slice A0 acc.length cap0) acc ∧ w.heap.size ≤ w1.heap.size := fun w1 hg => by
      have hw1 : Wrote [bm] w w1 := ⟨hg.os, hg.tape, hg.output, hg.size, fun x hx hn => hg.block x hx fun e => hn (by simpa using e)⟩
      have b1 := hw1.blk b0 fun e => by simp at e; omega
      exact ⟨b1.cell 0, b1.cell 1, b1.frozen 1, ho.keep hw1 fun x hx e => by have := (hlt x hx).1; simp at e; omega, hg.size⟩
    have HFAR := Lib.hid FAR
    have FAR2 : ∀ w1 w6, w.grownBy w1 (some bm) → (w1.alloc (.cells #[.int .i64 n] 3)).grownBy w6 (Value.slice A0 acc.length cap0).ownBlock → (∃ u, w6.cell? ⟨mb, 1, none⟩ = some u) ∧ w6.frozen? ⟨mb, 1, none⟩ = false := fun w1 w6 hg hg6 => by
      have hw1 : Wrote [bm] w w1 := ⟨hg.os, hg.tape, hg.output, hg.size, fun x hx hn => hg.block x hx fun e => hn (by simpa using e)⟩
      have b1 := hw1.blk b0 fun e => by simp at e; omega
      have b6 := (b1.alloc (.cells #[.int .i64 n] 3)).keep (hg6.block mb (by have := b1.lt; simp; omega) fun e => by have := (hlt mb (by unfold ownV; rw [← e]; simp)).1; omega)
      exact ⟨⟨_, b6.cell 1⟩, b6.frozen 1⟩
    have HFAR2 := Lib.hid FAR2
    rw [hc] at hh
    have HH := Lib.hid hh
    unfold maxLen at hm0
    have hwl : (Lit.int .i64 (acc.length : Int)).wf = true := WalkArith.wf_i64 (by omega)
    have HWL := Lib.hid hwl
    clear hN0 b0 hD hND ho hh hc hV hr0 STEP FAR FAR2 hwl hlt HN0
    obtain ⟨i0, hi0, hz0, hz1, hz2⟩ := info_parts infoI
    go_enter Tryz.func31, Tryz.ntmps31
    go_wp2_with (first
      | (at_lookup; refine wpList_lookup_own_ok_int _ rfl _ _ 81 rfl 63 63 .i64 lawV Tryz.underlying81 Tryz.underlying63 (zeroV _) bm acc.length D rfl HD.out _ _ rfl hkey ?_; intro c hat hwc; rw [HH.out])
      | (at_mapUpdate; refine wpList_mapUpdate_own _ rfl _ _ _ 81 rfl 63 63 lawV Tryz.underlying81 _ bm acc.length D rfl HD.out (by unfold maxLen; omega) _ _ _ rfl rfl hkey (.lit (.int .i64 acc.length)) [] (plainElem_int Tryz.underlying63 HWL.out) ?_; intro w1 hown1 hgrow1; obtain ⟨x0, x1, xf, hor, hsz⟩ := HFAR.out w1 hgrow1; have hnew := Blk.new w1 3 #[.int .i64 n]; have HOR := Lib.hid hor; have HNEW := Lib.hid hnew; have HOWN1 := Lib.hid hown1; have HG1 := Lib.hid hgrow1; clear hown1 hgrow1 hor hnew c0 c1 f1)
      | (at_builtin; go_must (refine wpList_append_lies _ rfl _ _ _ rfl base 3 i0 _ 1 8 Tryz.underlying39 hi0 hz0 hz1 hz2 rfl (by omega) (.slice A0 acc.length cap0) acc.length (acc.map (Value.int .i64)) rfl (HOR.out.alloc _) ⟨w1.heap.size, 0, none⟩ 1 1 [.int .i64 n] rfl rfl (World.news_of_block (cs := #[.int .i64 n]) (t := 3) (fr := (0, 0)) HNEW.out) (by simp [Value.oneCell']) (by omega) (by unfold maxLen; omega) (by omega) (by simp; omega) (w1.heap.size + 1) (by simp) ?_); intro g cap4 w6 hown6 hgrow hat6 hlt6; obtain ⟨⟨u, y1⟩, yf⟩ := HFAR2.out w1 w6 HG1.out hgrow; have HS := Lib.hid (HSTEP.out w1 w6 g cap4 HOWN1.out HG1.out hgrow hown6 hat6); clear hown6 hgrow hat6 x0 x1 xf))
    go_ret
    exact ⟨rfl, HS.out⟩
  · have hV : addV acc n = acc := by unfold addV; rw [hc]; rfl
    rw [hV]
    rw [hc] at hh
    have HH := Lib.hid hh
    have HAT := Lib.hid (hND.2.2 n hc)
    clear hN0 b0 hD hND ho hh hc hV
    go_enter Tryz.func31, Tryz.ntmps31
    go_wp2_with (at_lookup; refine wpList_lookup_own_ok_int _ rfl _ _ 81 rfl 63 63 .i64 lawV Tryz.underlying81 Tryz.underlying63 (zeroV _) bm acc.length D rfl HD.out _ _ rfl hkey ?_; intro c hat hwc; rw [HH.out])
    go_wp2_with fail
    go_ret
    have e := hat.symm.trans HAT.out
    simp only [DataW.lit.injEq, Lit.int.injEq, true_and] at e
    rw [e]
    exact ⟨rfl, vo, HN0.out, .refl _ _, fun x h => .inl h⟩

theorem Num.wrote {w w' : World} {base mb bm : Nat} {vo : Value} {acc : List Int} {L : List Nat} (h : Num w base mb bm vo acc) (hb : Wrote L w w') (hL : ∀ x ∈ L, x ≠ mb ∧ x ≠ bm ∧ x ∉ ownV vo) : Num w' base mb bm vo acc := by
  obtain ⟨b0, ⟨D, hD, hN⟩, ho, h1, h2, h3⟩ := h
  have hlt := hD.lt
  obtain ⟨es, clock, he, r⟩ := hD
  exact ⟨hb.blk b0 fun e => (hL _ e).1 rfl, ⟨D, ⟨es, clock, (hb.block bm hlt fun e => (hL _ e).2.1 rfl).trans he, r⟩, hN⟩, ho.keep hb fun x hx e => (hL _ e).2.2 hx, h1, h2, h3⟩
theorem place_ef : ∀ args w, (callFunc 31 args).run Tryz.prog w = .ok (.enter 31 args) w := fun _ _ => by kernel_rfl
/-- The state of a numbering, and what it hands back. -/
def NumI (base mb bm : Nat) (w : World) (acc : List Int) (Q : List Nat) : Prop := ∃ vo, Num w base mb bm vo acc ∧ Q = mb :: bm :: ownV vo
def numOut (acc : List Int) (n : Int) : Nd := ⟨1, ((addV acc n).idxOf n : Int), ⟨#[]⟩, .nil⟩
theorem place_rep (base mb bm : Nat) : RepC 31 #[.pointer (some ⟨mb, 0, none⟩)] #[] (NumI base mb bm) (fun _ => False) base List.length addV numOut where
  keep := fun {w w' a Q L} h hw hL => by
    obtain ⟨vo, hN, rfl⟩ := h
    refine ⟨vo, hN.wrote hw fun x hx => ?_, rfl⟩
    have h := (hL x hx).1
    simp only [List.mem_cons, not_or] at h
    exact h
  lt := fun {w a Q} h x hx => by
    obtain ⟨vo, hN, rfl⟩ := h
    obtain ⟨b0, ⟨D, hD, _⟩, ho, _⟩ := hN
    simp only [List.mem_cons] at hx
    rcases hx with rfl | rfl | hx
    · exact b0.lt
    · exact hD.lt
    · exact (ho.lt x hx).2
  old := fun x hx => hx.elim
  len := addV_len
  call := fun a Q n w h hB hs hn => by
    obtain ⟨vo, hN, rfl⟩ := h
    refine (place_any n a vo base mb bm w hN hB hs (by omega)).mono ?_
    rintro e w' ⟨rfl, vo', h1, h2, h3⟩
    refine ⟨mb :: bm :: ownV vo', _, rfl, ⟨vo', h1, rfl⟩, h2, fun x hx => ?_, .inl ⟨rfl, rfl⟩⟩
    simp only [List.mem_cons] at hx ⊢
    rcases hx with h | h | h
    · exact .inl (.inl h)
    · exact .inl (.inr (.inl h))
    · rcases h3 x h with h | h
      · exact .inl (.inr (.inr h))
      · exact .inr h
theorem st_num (f : Fr) : ∀ a : List Int, stF addV a f = varsF a f := by
  induction f with
  | nil => intro a; rfl
  | cons k n s kids rest ihk ihr =>
    intro a
    simp only [stF, varsF]
    rw [ihr, ihk]
theorem stT_num (a : List Int) (k n : Int) (f : Fr) : stT addV a k n f = varsT a k n f := by
  unfold stT varsT
  rw [st_num]

set_option maxHeartbeats 1000000 in
/-- impl.newNumbering. -/
theorem newNum_any (w : World) : Calls Tryz.prog 29 #[] w fun e w' => e = .returned (.pointer (some ⟨w.heap.size + 1, 0, none⟩)) ∧ Num w' (w.heap.size + 2) (w.heap.size + 1) w.heap.size (.slice none 0 0) [] ∧ Below w.heap.size w w' ∧ w'.heap.size = w.heap.size + 2 := by
  have hmm := @run_makeMap Tryz.prog
  have hb4 : Below w.heap.size w ((w.alloc (.map #[] 0)).alloc (.cells #[.map (some w.heap.size), .slice none 0 0] 83)) := ((Below.refl _ _).alloc (Nat.le_refl _) _).alloc (by simp) _
  have hq : Blk ((w.alloc (.map #[] 0)).alloc (.cells #[.map (some w.heap.size), .slice none 0 0] 83)) (w.heap.size + 1) 83 #[.map (some w.heap.size), .slice none 0 0] := by
    have h := Blk.new (w.alloc (.map #[] 0)) 83 #[.map (some w.heap.size), .slice none 0 0]
    rwa [show (w.alloc (.map #[] 0)).heap.size = w.heap.size + 1 by simp] at h
  have hN : Num ((w.alloc (.map #[] 0)).alloc (.cells #[.map (some w.heap.size), .slice none 0 0] 83)) (w.heap.size + 2) (w.heap.size + 1) w.heap.size (.slice none 0 0) [] :=
    ⟨hq, ⟨_, (World.ownsMap_made w _ _ _).alloc _, NumD.nil⟩, OwnI.nil _ _, by omega, by omega, by omega⟩
  have HN := Lib.hid hN
  have HB := Lib.hid hb4
  clear hb4 hq hN
  go_enter Tryz.func29, Tryz.ntmps29
  go_wp2_with fail
  go_ret
  exact ⟨rfl, HN.out, HB.out, by simp⟩
end Go.Proofs.YtohkpgpcipjpkaaGreatDoor

/- impl.replaceVars with a numbering's place; impl.TermVars. Condition: the nodes lie in memory and are well-formed. -/
namespace Go.Proofs.YtohkpgpcipjpkaaGreatDoor
open Go.RowKit Go.Maps

/-- Blocks that are new since w and no part of the row of numbers. -/
def Fresh (n0 n1 : Nat) (vo : Value) (x : Nat) : Prop := n0 ≤ x ∧ x < n1 ∧ x ∉ ownV vo
theorem addV_pre (a : List Int) (n : Int) : a <+: addV a n := by
  unfold addV
  split
  · exact List.prefix_refl a
  · exact List.prefix_append a [n]
theorem varsF_pre (f : Fr) : ∀ a, a <+: varsF a f := by
  induction f with
  | nil => intro a; exact List.prefix_refl a
  | cons k n s kids rest ihk ihr =>
    intro a
    simp only [varsF]
    refine List.IsPrefix.trans ?_ (ihr _)
    split
    · exact addV_pre a n
    · exact ihk a
theorem varsT_pre (a : List Int) (k n : Int) (f : Fr) : a <+: varsT a k n f := by
  unfold varsT
  split
  · exact addV_pre a n
  · exact varsF_pre f a
theorem renN_pre {a W : List Int} {n : Int} (h : addV a n <+: W) : renN W 1 n = ((addV a n).idxOf n : Int) := by
  obtain ⟨t, rfl⟩ := h
  have hm : n ∈ addV a n := by
    unfold addV
    split
    · rename_i h; exact List.contains_iff_mem.1 h
    · simp
  unfold renN
  rw [if_pos ⟨rfl, List.mem_append.2 (.inl hm)⟩, List.idxOf_append, if_pos hm]
/-- What renumber leaves. -/
def NsRes (w : World) (base mb bm : Nat) (vo : Value) (xs : List Int) (k n : Int) (s : ByteArray) (f : Fr) (e : Ending) (w' : World) : Prop :=
  ∃ vo' v', e = .returned v' ∧ Num w' base mb bm vo' xs ∧ Wrote (mb :: bm :: ownV vo) w w' ∧ (∀ x ∈ ownV vo', x ∈ ownV vo ∨ w.heap.size ≤ x) ∧ (∀ W, xs <+: W → NdVIn w' (Fresh w.heap.size w'.heap.size vo') k (renN W k n) s (renF W f) v')

theorem rp_num (f : Fr) : ∀ (a : List Int) (d : Int) (W : List Int), shapeF f d = true → varsF a f <+: W → rpF addV numOut a f = renF W f := by
  induction f with
  | nil => intro a d W _ _; rfl
  | cons k n s kids rest ihk ihr =>
    intro a d W h hW
    rw [shapeF_cons, Bool.and_eq_true] at h
    rw [rpF_cons, stT_num]
    have hW2 : varsF (varsT a k n kids) rest <+: W := hW
    have h2 := ihr (varsT a k n kids) d W h.2 hW2
    have h3 : varsT a k n kids <+: W := (varsF_pre rest _).trans hW2
    rw [h2]
    by_cases hk : k = 1
    · subst hk
      obtain ⟨rfl, rfl, _⟩ := shapeT_leaf h.1 (by omega)
      have e : varsT a 1 n .nil = addV a n := by unfold varsT; rw [if_pos rfl]
      rw [e] at h3
      show _ = Fr.cons 1 (renN W 1 n) ⟨#[]⟩ .nil (renF W rest)
      unfold rpT
      rw [if_pos rfl, renN_pre h3]
      rfl
    · have e : varsT a k n kids = varsF a kids := by unfold varsT; rw [if_neg hk]
      rw [e] at h3
      have h4 := ihk a (d - 1) W (shapeT_kids h.1) h3
      show _ = Fr.cons k (renN W k n) s (renF W kids) (renF W rest)
      unfold rpT
      rw [if_neg hk, h4]
      unfold renN
      rw [if_neg (fun e => hk e.1)]
theorem rpT_num {a : List Int} {k n : Int} {s : ByteArray} {f : Fr} {d : Int} {W : List Int} (h : shapeT k n s f d = true) (hW : varsT a k n f <+: W) : rpT addV numOut a k n s f = ⟨k, renN W k n, s, renF W f⟩ := by
  by_cases hk : k = 1
  · subst hk
    obtain ⟨rfl, rfl, _⟩ := shapeT_leaf h (by omega)
    have e : varsT a 1 n .nil = addV a n := by unfold varsT; rw [if_pos rfl]
    rw [e] at hW
    unfold rpT
    rw [if_pos rfl, renN_pre hW]; rfl
  · have e : varsT a k n f = varsF a f := by unfold varsT; rw [if_neg hk]
    rw [e] at hW
    unfold rpT
    rw [if_neg hk, rp_num f a (d - 1) W (shapeT_kids h) hW]
    unfold renN
    rw [if_neg (fun e => hk e.1)]
/-- impl.replaceVars with a numbering's place. -/
theorem nsT_any (k n d : Int) (s : ByteArray) (f : Fr) (v : Value) (lo hi base mb bm : Nat) (vo : Value) (acc : List Int) (w : World) (hs : shapeT k n s f d = true) (hv : NdV w lo hi k n s f v) (hmb : hi ≤ mb) (hbm : hi ≤ bm) (hN : Num w base mb bm vo acc) (hbs : base ≤ w.heap.size) (hacc : acc.length + nodes f ≤ 2097152) :
    Calls Tryz.prog 30 #[v, .func (.func 31) #[.pointer (some ⟨mb, 0, none⟩)] #[]] w fun e w' => NsRes w base mb bm vo (varsT acc k n f) k n s f e w' := by
  have hlo := hN.2.2.1.lt
  have hml := hN.1.lt
  refine (rpT_any place_ef (place_rep base mb bm) s f k n d v lo hi acc (mb :: bm :: ownV vo) w hs hv (by omega) (fun x hx => ?_) ⟨vo, hN, rfl⟩ hbs hacc).mono ?_
  · simp only [List.mem_cons] at hx
    rcases hx with rfl | rfl | hx
    · exact hmb
    · exact hbm
    · have := (hlo x hx).1; have := hN.2.2.2.1; omega
  · rintro e w' ⟨Q', v', rfl, ⟨vo', h1, rfl⟩, h2, h3, h4⟩
    rw [stT_num] at h1
    have hlo' := h1.2.2.1.lt
    have b1 := h1.2.2.2.1
    have b2 := h1.2.2.2.2.1
    refine ⟨vo', v', rfl, h1, h2, fun x hx => ?_, fun W hW => ?_⟩
    · have h5 := (hlo' x hx).1
      rcases h3 x (by simp [hx]) with h | h
      · simp only [List.mem_cons] at h
        rcases h with h | h | h
        · omega
        · omega
        · exact .inl h
      · exact .inr h
    · rw [rpT_num hs hW] at h4
      refine NdVIn.keep h4 (fun _ _ => rfl) fun x hx => ?_
      have hq := hx.2.2
      simp only [List.mem_cons, not_or] at hq
      rcases hx.1 with h | h
      · exact h.elim
      · exact ⟨h, hx.2.1, hq.2.2⟩

end Go.Proofs.YtohkpgpcipjpkaaGreatDoor

/- spec.l1Renumber, spec.RenumberTerms. Condition: the row lies in memory. -/
namespace Go.Proofs.YtohkpgpcipjpkaaGreatDoor
open Go.RowKit

theorem addV_nodup {acc : List Int} (h : acc.Nodup) (n : Int) : (addV acc n).Nodup := by
  unfold addV
  split
  · exact h
  · rename_i hn
    have hm : n ∉ acc := fun e => hn (List.contains_iff_mem.2 e)
    refine List.nodup_append.2 ⟨h, by simp, fun a ha b hb e => ?_⟩
    have hb' : b = n := by simpa using hb
    subst e hb'
    exact hm ha
theorem varsF_nodup (f : Fr) : ∀ acc : List Int, acc.Nodup → (varsF acc f).Nodup := by
  induction f with
  | nil => intro acc h; exact h
  | cons k n s kids rest ihk ihr =>
    intro acc h
    simp only [varsF]
    refine ihr _ ?_
    split
    · exact addV_nodup h n
    · exact ihk acc h
theorem made_below' {w w2 : World} {f : Fr} {A : Option Addr} {cap : Nat} (h : Made w f A cap w2) : Below w.heap.size w w2 := by
  obtain ⟨L, _, _, _, h4⟩ := h
  exact h4
/-- The variables of the terms of a row. -/
def allVars (f : Fr) : List Int := varsF [] f

end Go.Proofs.YtohkpgpcipjpkaaGreatDoor

/- impl.nodesOf with the row that it makes; shapes of renamed terms. Condition: the row lies in memory, the table of signs in its variable. -/
namespace Go.Proofs.YtohkpgpcipjpkaaGreatDoor
open Go.RowKit

theorem shape_of_valid {k n : Int} {s : ByteArray} {f : Fr} (h : validT k n s f = true) : shapeT k n s f 30 = true := by
  unfold validT at h
  rw [Bool.and_eq_true] at h
  exact h.1

/-- What nodesOf answers. -/
def NodesRes2 (w : World) (f : Fr) (e : Ending) (w' : World) : Prop :=
  Below w.heap.size w w' ∧ ((allV f = true ∧ e = .returned (.tuple #[.slice (some ⟨w.heap.size, 0, none⟩) f.len f.len, .bool true]) ∧ NPart w f w.heap.size f.len w') ∨ (allV f = false ∧ e = .returned (.tuple #[.slice none 0 0, .bool false])))
theorem nodup_len (N : Nat) : ∀ l : List Int, l.Nodup → (∀ x ∈ l, 0 ≤ x ∧ x < N) → l.length ≤ N := by
  induction N with
  | zero =>
    intro l _ h
    cases l with
    | nil => exact Nat.le_refl _
    | cons x _ => have := h x (by simp); omega
  | succ N ih =>
    intro l hn h
    have h1 := ih (l.erase (N : Int)) (hn.erase _) fun x hx => by
      have h2 := (hn.mem_erase_iff).1 hx
      have h3 := h x h2.2
      have h4 := h2.1
      omega
    rw [List.length_erase] at h1
    split at h1 <;> omega
theorem vars_range (f : Fr) : ∀ (d : Int) (acc : List Int), shapeF f d = true → (∀ x ∈ acc, 0 ≤ x ∧ x < (26 : Nat)) → ∀ x ∈ varsF acc f, 0 ≤ x ∧ x < (26 : Nat) := by
  induction f with
  | nil => intro d acc _ h; exact h
  | cons k n s kids rest ihk ihr =>
    intro d acc hs h
    rw [shapeF_cons, Bool.and_eq_true] at hs
    simp only [varsF]
    refine ihr d _ hs.2 ?_
    split
    · rename_i hk
      subst hk
      have h0 := hs.1
      unfold shapeT ownB at h0
      simp only [Bool.and_eq_true, Bool.or_eq_true, decide_eq_true_eq, beq_iff_eq] at h0
      unfold addV
      split
      · exact h
      · intro x hx
        rcases List.mem_append.1 hx with hx | hx
        · exact h x hx
        · have : x = n := by simpa using hx
          omega
    · exact ihk _ _ (shapeT_kids hs.1) h
theorem shapeF_ren (V : List Int) (hV : V.length ≤ 26) (f : Fr) : ∀ d, shapeF f d = true → shapeF (renF V f) d = true := by
  induction f with
  | nil => intro d h; exact h
  | cons k n s kids rest ihk ihr =>
    intro d hs
    rw [shapeF_cons, Bool.and_eq_true] at hs
    simp only [renF]
    rw [shapeF_cons, Bool.and_eq_true]
    refine ⟨?_, ihr d hs.2⟩
    have hk := ihk _ (shapeT_kids hs.1)
    have h0 := hs.1
    unfold shapeT ownB at h0 ⊢
    simp only [Bool.and_eq_true, Bool.or_eq_true, decide_eq_true_eq, beq_iff_eq, renF_len] at h0 ⊢
    refine ⟨h0.1, ?_, hk⟩
    by_cases h1 : k = 1
    · have hr : 0 ≤ renN V k n ∧ renN V k n ≤ 25 := by
        unfold renN
        split
        · rename_i hh
          have := List.idxOf_lt_length_iff.2 hh.2
          omega
        · omega
      rcases h0.2.1 with (h | h) | h
      · exact .inl (.inl ⟨h.1, ⟨⟨hr, h.2.1.2⟩, h.2.2⟩⟩)
      · omega
      · omega
    · have e : renN V k n = n := by unfold renN; rw [if_neg (fun e => h1 e.1)]
      rw [e]
      exact h0.2.1
theorem allV_shape (f : Fr) (h : allV f = true) : shapeF f 30 = true := by
  induction f with
  | nil => rfl
  | cons k n s kids rest _ ihr =>
    simp only [allV, Bool.and_eq_true] at h
    rw [shapeF_cons, Bool.and_eq_true]
    exact ⟨shape_of_valid h.1, ihr h.2⟩
theorem allVars_small (f : Fr) (h : allV f = true) : (allVars f).length ≤ 26 := by
  unfold allVars
  exact nodup_len 26 _ (varsF_nodup f [] List.nodup_nil) (vars_range f 30 [] (allV_shape f h) fun x hx => by simp at hx)

set_option maxRecDepth 100000 in
set_option maxHeartbeats 2000000 in
/-- impl.nodesOf, with the row that it makes. -/
theorem nodesOf2_any (f : Fr) (A : Option Addr) (cap lo hi : Nat) (w : World) (hk : KidsAt w lo hi f A cap) (hh : hi ≤ w.heap.size) (hnd : nodes f ≤ 1048576) (ht : nv.Tab w) :
    Calls Tryz.prog 32 #[.slice A f.len cap] w fun e w' => NodesRes2 w f e w' := by
  have hlt0 := tab_lt ht
  have HK := Lib.hid hk
  have HHI := Lib.hid hh
  have HND := Lib.hid hnd
  have HT := Lib.hid ht
  have hl : f.len ≤ 1048576 := by have := len_le_nodes f; omega
  have hst := fun w1 base xs => NPart.start (w := w) (w2 := w1) (f := f) (base := base) (xs := xs)
  have HST := Lib.hid hst
  clear hk hh hnd ht hst
  generalize hv : allV f = v
  have HV := Lib.hid hv
  generalize hn : f.len = len at *
  have HN := Lib.hid hn
  clear hn hv
  obtain ⟨i0, hi0, hz0, hz1, hz2⟩ := info_parts infoN
  go_enter Tryz.func32, Tryz.ntmps32
  go_wp2_with (at_make; go_must (refine wpList_make_full _ rfl _ _ 51 rfl w.heap.size 65 i0 _ 1 Tryz.underlying51 hi0 hz0 hz1 .i64 .i64 _ _ len rfl rfl rfl rfl (by rw [hz2]; omega) (by unfold maxLen; omega) (Nat.le_refl _) ?_); intro w1 hown hgrow)
  have hp0 := HST.out _ _ _ hown hgrow
  have HP0 := Lib.hid hp0
  clear hp0 hown hgrow HST hi0 hz0 hz1 hz2
  go_loopw [14] (fun i wr => ∃ (j : Nat), j ≤ len ∧ i = .int .i64 j ∧ allV (f.drop j) = v ∧ NPart w f w.heap.size j wr) (fun i _ => len - (intOf i).toNat)
  case atStart => exact ⟨0, Nat.zero_le _, rfl, HV.out, HP0.out⟩
  case round =>
    obtain ⟨j, hj, rfl, hv, hpart⟩ := hrel
    have HPT := Lib.hid hpart
    by_cases hlt : j < len
    · have hltf : j < f.len := by rw [HN.out]; exact hlt
      obtain ⟨kk, nn, s, kids, hd⟩ := Fr.drop_cons j f hltf
      obtain ⟨b, o, rfl, hlb, hbb, hrow⟩ := HK.out.2.2 (by rw [HN.out]; omega)
      obtain ⟨hfit, A', cp, c0, c1, c2, c3, hkid⟩ := hrow.elem hd
      rw [hd] at hv
      simp only [allV] at hv
      have hb := hpart.1
      have hlo : (⟨b, o, none⟩ : Addr).block < w.heap.size := Nat.lt_of_lt_of_le hbb HHI.out
      have k0 := (hb.cell (p := ⟨b, o + j * 4, none⟩) hlo).trans c0
      have k1 := (hb.cell (p := ⟨b, o + j * 4 + 1, none⟩) hlo).trans c1
      have k2 := (hb.cell (p := ⟨b, o + j * 4 + 2, none⟩) hlo).trans c2
      have k3 := (hb.cell (p := ⟨b, o + j * 4 + 3, none⟩) hlo).trans c3
      have hb1 : Below wr.heap.size wr (wr.alloc (.cells #[.int .i64 kk, .int .i64 nn, .string s, .slice A' kids.len cp] 44)) := (Below.refl _ _).alloc (Nat.le_refl _) _
      have hbw1 := hb.trans (hb1.mono hb.size)
      have C1 := nodeOf_any kk nn s kids A' cp lo hi _ (hkid.below hbw1 HHI.out) (Nat.le_trans HHI.out hbw1.size) hfit (Nat.le_trans (nodes_drop_elem j f hd) HND.out) (tab_below HT.out hbw1 hlt0)
      have cellsOf := fun w2 hb => HPT.out.cell (w2 := w2) hltf hb
      have stepOf := fun w2 v h2 hv => HPT.out.step (w2 := w2) (v := v) hd hltf hb1 h2 hv
      have H1 := Lib.hid C1
      have HB := Lib.hid hb
      have HB1 := Lib.hid hb1
      have HE := Lib.hid hv
      have HC := Lib.hid cellsOf
      have HS := Lib.hid stepOf
      clear C1 hb hb1 hbw1 hv c0 c1 c2 c3 hkid hrow hfit hd hlo cellsOf stepOf hpart hltf
      go_wp2_with fail
      refine H1.out.mono ?_
      rintro e w2 ⟨hb2, hr⟩
      have hb12 : Below wr.heap.size wr w2 := HB1.out.trans (hb2.mono HB1.out.size)
      rcases hr with ⟨hok, vv, rfl, hnv⟩ | ⟨hok, rfl⟩
      · obtain ⟨⟨v0, d0⟩, g0⟩ := HC.out w2 hb12
        have hstep := HS.out w2 vv hb2 hnv
        have HF : Hid (allV (f.drop (j + 1)) = v) := Lib.hid (by rw [← HE.out, hok]; rfl)
        obtain ⟨T, x, rfl⟩ := hnv.iface
        have HSTEP := Lib.hid hstep
        clear hok hnv hb2 hb12 hstep k0 k1 k2 k3
        go_wp2_with fail
        go_roundw
        case rel => exact ⟨j + 1, by omega, by go_num, HF.out, HSTEP.out⟩
        case measure => simp [intOf]; omega
      · have HF : Hid (v = false) := Lib.hid (by rw [← HE.out, hok]; rfl)
        have HBW : Hid (Below w.heap.size w w2) := Lib.hid (HB.out.trans (hb12.mono HB.out.size))
        clear hok hb2 hb12 k0 k1 k2 k3
        go_wp2_with fail
        go_ret2
        exact ⟨HBW.out, .inr ⟨HV.out.trans HF.out, rfl⟩⟩
    · obtain rfl : j = len := by omega
      have HE : Hid (allV f = true) := Lib.hid (by
        have h1 := Fr.drop_len f
        rw [HN.out] at h1
        rw [HV.out, ← hv, h1]; rfl)
      clear hpart hv
      go_wp2_with fail
      go_ret2
      refine ⟨HPT.out.1, .inl ⟨HE.out, ?_, ?_⟩⟩
      · rw [HN.out]; rfl
      · rw [HN.out]; exact HPT.out
end Go.Proofs.YtohkpgpcipjpkaaGreatDoor
