/- impl.nodesOf, spec.l1All: all terms of a list. Condition: they lie in memory, the table of signs in its variable. -/
import Derived.Test.YtnkaafimnkigpaaDoorProg
import Derived.Test.YtnkaafimnkigpaaDoorImplV
import Derived.Test.YtnkaafimnkigpaaDoorMk
import Derived.Test.YtnkaafimnkigpaaDoorSpecC
import Derived.StillTailTactics
import Derived.Test.YtnkaafimnkigpaaDoorTo
import Derived.Test.YtnkaafimnkigpaaDoorTb
import Derived.Test.YtnkaafimnkigpaaDoorSz
import Derived.Test.YtnkaafimnkigpaaDoorSpecV
import Derived.OwnWalk
import Derived.Test.YtnkaafimnkigpaaDoorZmAG39
namespace Go.Proofs.YtnkaafimnkigpaaDoor
open Go.RowKit

/-- Every term of the row is valid. -/
def allV : Fr → Bool
  | .nil => true
  | .cons k n s kids rest => validT k n s kids && allV rest
theorem nodes_drop_elem (i : Nat) (f : Fr) {k n : Int} {s : ByteArray} {kids rest : Fr} (h : f.drop i = .cons k n s kids rest) : nodes kids ≤ nodes f := by
  have := nodes_elem i f h; omega

/-- The loop's relation: j nodes are made, in block g. -/
def NPart (w : World) (f : Fr) (g j : Nat) (wr : World) : Prop :=
  Below w.heap.size w wr ∧ (∃ cur, Blk wr g 62 cur ∧ cur.size = f.len) ∧ NdRow wr (g + 1) wr.heap.size (f.take j) g 0 ∧ w.heap.size ≤ g
theorem NPart.step {w wr w1 w2 : World} {f : Fr} {g i : Nat} {k n : Int} {s : ByteArray} {kids rest : Fr} {v : Value}
    (h : NPart w f g i wr) (hd : f.drop i = .cons k n s kids rest) (hi : i < f.len) (h1 : Below wr.heap.size wr w1) (h2 : Below w1.heap.size w1 w2) (hv : NdV w2 w1.heap.size w2.heap.size k n s kids v) :
    NPart w f g (i + 1) (w2.setCell ⟨g, i, none⟩ v) := by
  obtain ⟨hb, ⟨cur, hblk, hs⟩, hrow, hgl⟩ := h
  have hlt := hblk.lt
  have h12 : Below wr.heap.size wr w2 := h1.trans (h2.mono h1.size)
  have b2 := hblk.below h12 hlt
  have far : ∀ p : Addr, p.block ≠ g → (w2.setCell ⟨g, i, none⟩ v).cell? p = w2.cell? p := fun p hp => World.cell?_of_block (heap_setCell_other w2 ⟨g, i, none⟩ p.block v hp)
  have hsz : (w2.setCell ⟨g, i, none⟩ v).heap.size = w2.heap.size := by simp [World.setCell]
  have hlen : (f.take i).len = i := Fr.len_take i f (by omega)
  have hs1 := h1.size
  have hs2 := h12.size
  refine ⟨(hb.trans (h12.mono hb.size)).setCell hgl v, ⟨_, b2.set_ i v, by simpa using hs⟩, ?_, hgl⟩
  rw [Fr.take_succ i f hd, hsz]
  refine NdRow.snoc (f.take i) (hv.keep (fun p hp _ => far p (by omega)) (by omega) (Nat.le_refl _)) g 0 ?_ ?_
  · refine NdRow.keep (fun p hp hp' => ?_) (Nat.le_refl _) hs2 (f.take i) g 0 (fun j hj => ?_) hrow
    · rw [far p (by omega)]
      exact h12.cell hp'
    · rw [hlen] at hj
      rw [(b2.set_ i v).cell, hblk.cell]
      simp only [Array.getElem?_setIfInBounds]
      rw [if_neg (by omega)]
  · rw [hlen, (b2.set_ i v).cell]
    simp [Array.getElem?_setIfInBounds]
    omega
theorem NPart.start {w w2 : World} {f : Fr} {base : Nat} {xs : List Value} (hown : w2.ownsRow base 62 1 (.slice (some ⟨w.heap.size, 0, none⟩) f.len f.len) f.len xs) (hg : w.grownBy w2 none) : NPart w f w.heap.size 0 w2 := by
  rcases hown.2 with ⟨h', _⟩ | ⟨g', cap', cur, h', _, hb, _, _, hs, _⟩
  · simp at h'
  · simp only [Value.slice.injEq, Option.some.injEq, Addr.mk.injEq, and_true, true_and] at h'
    obtain ⟨rfl, rfl⟩ := h'
    exact ⟨(Below.refl _ _).grown hg (Nat.le_refl _) (fun k hk => by cases hk), ⟨cur, hb, by simpa using hs⟩, trivial, Nat.le_refl _⟩
theorem NPart.done {w wr : World} {f : Fr} {g : Nat} (h : NPart w f g f.len wr) (hl : f.len ≤ maxLen) : NdS wr w.heap.size wr.heap.size f (some ⟨g, 0, none⟩) f.len ∧ Below w.heap.size w wr := by
  obtain ⟨hb, ⟨cur, hblk, hs⟩, hrow, hgl⟩ := h
  rw [Fr.take_len] at hrow
  exact ⟨⟨Nat.le_refl _, hl, fun _ => ⟨g, rfl, hgl, hblk.lt, NdRow.keep (fun _ _ _ => rfl) (by omega) (Nat.le_refl _) f g 0 (fun _ _ => rfl) hrow⟩⟩, hb⟩
theorem NPart.cell {w wr w2 : World} {f : Fr} {g j : Nat} (h : NPart w f g j wr) (hj : j < f.len) (hb : Below wr.heap.size wr w2) : (∃ v, w2.cell? ⟨g, j, none⟩ = some v) ∧ w2.frozen? ⟨g, j, none⟩ = false := by
  obtain ⟨_, ⟨cur, hblk, hs⟩, _⟩ := h
  have hb2 := hblk.below hb hblk.lt
  refine ⟨?_, hb2.frozen _⟩
  rw [hb2.cell]
  exact ⟨_, Array.getElem?_eq_getElem (by omega)⟩

/-- What nodesOf answers. -/
def NodesRes (w : World) (f : Fr) (e : Ending) (w' : World) : Prop :=
  Below w.heap.size w w' ∧ ((allV f = true ∧ ∃ A cap, e = .returned (.tuple #[.slice A f.len cap, .bool true]) ∧ NdS w' w.heap.size w'.heap.size f A cap) ∨ (allV f = false ∧ e = .returned (.tuple #[.slice none 0 0, .bool false])))

set_option maxRecDepth 100000 in
set_option maxHeartbeats 2000000 in
/-- impl.nodesOf. -/
theorem nodesOf_any (f : Fr) (A : Option Addr) (cap lo hi : Nat) (w : World) (hk : KidsAt w lo hi f A cap) (hh : hi ≤ w.heap.size) (hnd : nodes f ≤ 1048576) (ht : nv.Tab w) :
    Calls Tryd.prog 71 #[.slice A f.len cap] w fun e w' => NodesRes w f e w' := by
  have hlt0 := tab_lt ht
  have HK := Lib.hid hk
  have HHI := Lib.hid hh
  have HND := Lib.hid hnd
  have HT := Lib.hid ht
  have hl : f.len ≤ 1048576 := by have := len_le_nodes f; omega
  have hst := fun w1 base xs => NPart.start (w := w) (w2 := w1) (f := f) (base := base) (xs := xs)
  have hfin := fun wr => NPart.done (w := w) (wr := wr) (f := f) (g := w.heap.size)
  have HST := Lib.hid hst
  have HFIN := Lib.hid hfin
  clear hk hh hnd ht hst hfin
  generalize hv : allV f = v
  have HV := Lib.hid hv
  generalize hn : f.len = len at *
  have HN := Lib.hid hn
  clear hn hv
  obtain ⟨i0, hi0, hz0, hz1, hz2⟩ := info_parts infoN
  go_enter Tryd.func71, Tryd.ntmps71
  go_wp2_with (at_make; go_must (refine wpList_make_full _ rfl _ _ 89 rfl w.heap.size 62 i0 _ 1 Tryd.underlying89 hi0 hz0 hz1 .i64 .i64 _ _ len rfl rfl rfl rfl (by rw [hz2]; omega) (by unfold maxLen; omega) (Nat.le_refl _) ?_); intro w1 hown hgrow)
  have hp0 := HST.out _ _ _ hown hgrow
  have HP0 := Lib.hid hp0
  clear hp0 hown hgrow HST hi0 hz0 hz1 hz2
  go_loopw [14] (fun i wr => ∃ (j : Nat), j ≤ len ∧ i = .int .i64 j ∧ allV (f.drop j) = v ∧ NPart w f w.heap.size j wr) (fun i _ => len - (intOf i).toNat)
  case atStart => exact ⟨0, Nat.zero_le _, rfl, HV.out, HP0.out⟩
  case round =>
    obtain ⟨j, hj, rfl, hv, hpart⟩ := hrel
    have HPT := Lib.hid hpart
    by_cases hlt : j < len
    · have hltf : j < f.len := by rw [HN.out]; exact hlt
      obtain ⟨kk, nn, s, kids, hd⟩ := Fr.drop_cons j f hltf
      obtain ⟨b, o, rfl, hlb, hbb, hrow⟩ := HK.out.2.2 (by rw [HN.out]; omega)
      obtain ⟨hfit, A', cp, c0, c1, c2, c3, hkid⟩ := hrow.elem hd
      rw [hd] at hv
      simp only [allV] at hv
      have hb := hpart.1
      have hlo : (⟨b, o, none⟩ : Addr).block < w.heap.size := Nat.lt_of_lt_of_le hbb HHI.out
      have k0 := (hb.cell (p := ⟨b, o + j * 4, none⟩) hlo).trans c0
      have k1 := (hb.cell (p := ⟨b, o + j * 4 + 1, none⟩) hlo).trans c1
      have k2 := (hb.cell (p := ⟨b, o + j * 4 + 2, none⟩) hlo).trans c2
      have k3 := (hb.cell (p := ⟨b, o + j * 4 + 3, none⟩) hlo).trans c3
      have hb1 : Below wr.heap.size wr (wr.alloc (.cells #[.int .i64 kk, .int .i64 nn, .string s, .slice A' kids.len cp] 31)) := (Below.refl _ _).alloc (Nat.le_refl _) _
      have hbw1 := hb.trans (hb1.mono hb.size)
      have C1 := nodeOf_any kk nn s kids A' cp lo hi _ (hkid.below hbw1 HHI.out) (Nat.le_trans HHI.out hbw1.size) hfit (Nat.le_trans (nodes_drop_elem j f hd) HND.out) (tab_below HT.out hbw1 hlt0)
      have cellsOf := fun w2 hb => HPT.out.cell (w2 := w2) hltf hb
      have stepOf := fun w2 v h2 hv => HPT.out.step (w2 := w2) (v := v) hd hltf hb1 h2 hv
      have H1 := Lib.hid C1
      have HB := Lib.hid hb
      have HB1 := Lib.hid hb1
      have HE := Lib.hid hv
      have HC := Lib.hid cellsOf
      have HS := Lib.hid stepOf
      clear C1 hb hb1 hbw1 hv c0 c1 c2 c3 hkid hrow hfit hd hlo cellsOf stepOf hpart hltf
      go_wp2_with fail
      refine H1.out.mono ?_
      rintro e w2 ⟨hb2, hr⟩
      have hb12 : Below wr.heap.size wr w2 := HB1.out.trans (hb2.mono HB1.out.size)
      rcases hr with ⟨hok, vv, rfl, hnv⟩ | ⟨hok, rfl⟩
      · obtain ⟨⟨v0, d0⟩, g0⟩ := HC.out w2 hb12
        have hstep := HS.out w2 vv hb2 hnv
        have HF : Hid (allV (f.drop (j + 1)) = v) := Lib.hid (by rw [← HE.out, hok]; rfl)
        obtain ⟨T, x, rfl⟩ := hnv.iface
        have HSTEP := Lib.hid hstep
        clear hok hnv hb2 hb12 hstep k0 k1 k2 k3
        go_wp2_with fail
        go_roundw
        case rel => exact ⟨j + 1, by omega, by go_num, HF.out, HSTEP.out⟩
        case measure => simp [intOf]; omega
      · have HF : Hid (v = false) := Lib.hid (by rw [← HE.out, hok]; rfl)
        have HBW : Hid (Below w.heap.size w w2) := Lib.hid (HB.out.trans (hb12.mono HB.out.size))
        clear hok hb2 hb12 k0 k1 k2 k3
        go_wp2_with fail
        go_ret2
        exact ⟨HBW.out, .inr ⟨HV.out.trans HF.out, rfl⟩⟩
    · obtain rfl : j = len := by omega
      have HE : Hid (allV f = true) := Lib.hid (by
        have h1 := Fr.drop_len f
        rw [HN.out] at h1
        rw [HV.out, ← hv, h1]; rfl)
      have hfin := HFIN.out wr HPT.out (by unfold maxLen; omega)
      have HF := Lib.hid hfin
      clear hpart hv hfin HPT
      go_wp2_with fail
      go_ret2
      refine ⟨HF.out.2, .inl ⟨HE.out, some ⟨w.heap.size, 0, none⟩, j, ?_, ?_⟩⟩
      · rw [HN.out]; rfl
      · have h := HF.out.1
        exact h
end Go.Proofs.YtnkaafimnkigpaaDoor

/- Rows of clauses (a head and a row of goals each): where they lie, and what a call owns. No condition. -/
namespace Go.Proofs.YtnkaafimnkigpaaDoor
open Go.RowKit

/-- A clause: its head's fields, and its body. -/
structure Cl where
  k : Int
  n : Int
  s : ByteArray
  kids : Fr
  body : Fr
/-- Head and body as one row of terms. -/
def Cl.row (c : Cl) : Fr := .cons c.k c.n c.s c.kids c.body
/-- Clauses in the memory: five cells each, from cell o of block b on; what they lead to lies in blocks from lo to below hi. -/
def ClAt (w : World) (lo hi : Nat) : List Cl → Nat → Nat → Prop
  | [], _, _ => True
  | c :: cs, b, o => Fits c.k c.n c.s ∧ (∃ (A : Option Addr) (cap : Nat) (B : Option Addr) (capB : Nat),
      (w.cell? ⟨b, o, none⟩ = some (.int .i64 c.k) ∧ w.cell? ⟨b, o + 1, none⟩ = some (.int .i64 c.n) ∧ w.cell? ⟨b, o + 2, none⟩ = some (.string c.s) ∧ w.cell? ⟨b, o + 3, none⟩ = some (.slice A c.kids.len cap) ∧ w.cell? ⟨b, o + 4, none⟩ = some (.slice B c.body.len capB)) ∧
      KidsAt w lo hi c.kids A cap ∧ KidsAt w lo hi c.body B capB) ∧ ClAt w lo hi cs b (o + 5)
def ClS (w : World) (lo hi : Nat) (cs : List Cl) (A : Option Addr) (cap : Nat) : Prop :=
  cs.length ≤ cap ∧ cap ≤ maxLen ∧ (0 < cs.length → ∃ b o, A = some ⟨b, o, none⟩ ∧ lo ≤ b ∧ b < hi ∧ ClAt w lo hi cs b o)
section
variable {w w' : World} {lo hi lo' hi' : Nat}
theorem ClAt.keep (hk : ∀ p : Addr, lo ≤ p.block → p.block < hi → w'.cell? p = w.cell? p) : ∀ (cs : List Cl) (b o : Nat), lo ≤ b → b < hi → ClAt w lo hi cs b o → ClAt w' lo hi cs b o
  | [], _, _, _, _, _ => trivial
  | c :: cs, b, o, hl, hb, h => by
    obtain ⟨hf, ⟨A, cap, B, capB, ⟨c0, c1, c2, c3, c4⟩, hkid, hbd⟩, hr⟩ := h
    exact ⟨hf, ⟨A, cap, B, capB, ⟨(hk _ hl hb).trans c0, (hk _ hl hb).trans c1, (hk _ hl hb).trans c2, (hk _ hl hb).trans c3, (hk _ hl hb).trans c4⟩, hkid.keep hk, hbd.keep hk⟩, ClAt.keep hk cs b (o + 5) hl hb hr⟩
theorem ClAt.more (hL : lo' ≤ lo) (hH : hi ≤ hi') : ∀ (cs : List Cl) (b o : Nat), ClAt w lo hi cs b o → ClAt w lo' hi' cs b o
  | [], _, _, _ => trivial
  | c :: cs, b, o, h => by
    obtain ⟨hf, ⟨A, cap, B, capB, hc, hkid, hbd⟩, hr⟩ := h
    exact ⟨hf, ⟨A, cap, B, capB, hc, hkid.more hL hH, hbd.more hL hH⟩, ClAt.more hL hH cs b (o + 5) hr⟩
theorem ClS.keep {cs : List Cl} {A : Option Addr} {cap : Nat} (h : ClS w lo hi cs A cap) (hk : ∀ p : Addr, lo ≤ p.block → p.block < hi → w'.cell? p = w.cell? p) : ClS w' lo hi cs A cap :=
  ⟨h.1, h.2.1, fun hp => by
    obtain ⟨b, o, e, hl, hb, hr⟩ := h.2.2 hp
    exact ⟨b, o, e, hl, hb, ClAt.keep hk cs b o hl hb hr⟩⟩
theorem ClS.below {cs : List Cl} {A : Option Addr} {cap B : Nat} (h : ClS w lo hi cs A cap) (hb : Below B w w') (hB : hi ≤ B) : ClS w' lo hi cs A cap := h.keep fun p _ hp => hb.cell (by omega)
theorem ClS.more {cs : List Cl} {A : Option Addr} {cap : Nat} (h : ClS w lo hi cs A cap) (hL : lo' ≤ lo) (hH : hi ≤ hi') : ClS w lo' hi' cs A cap :=
  ⟨h.1, h.2.1, fun hp => by
    obtain ⟨b, o, e, hl, hb, hr⟩ := h.2.2 hp
    exact ⟨b, o, e, by omega, by omega, hr.more hL hH⟩⟩
/-- What lies at clause i. -/
def ClElem (w : World) (lo hi : Nat) (c : Cl) (b o : Nat) : Prop :=
  Fits c.k c.n c.s ∧ ∃ (A : Option Addr) (cap : Nat) (B : Option Addr) (capB : Nat), w.cell? ⟨b, o, none⟩ = some (.int .i64 c.k) ∧ w.cell? ⟨b, o + 1, none⟩ = some (.int .i64 c.n) ∧ w.cell? ⟨b, o + 2, none⟩ = some (.string c.s) ∧ w.cell? ⟨b, o + 3, none⟩ = some (.slice A c.kids.len cap) ∧ w.cell? ⟨b, o + 4, none⟩ = some (.slice B c.body.len capB) ∧ KidsAt w lo hi c.kids A cap ∧ KidsAt w lo hi c.body B capB
theorem ClAt.elem : ∀ (i : Nat) (cs : List Cl) (b o : Nat) {c : Cl} {rest : List Cl}, ClAt w lo hi cs b o → cs.drop i = c :: rest → ClElem w lo hi c b (o + i * 5)
  | _, [], _, _, _, _, _, hd => by simp at hd
  | 0, c0 :: cs, b, o, _, _, h, hd => by
    obtain ⟨hf, ⟨A, cap, B, capB, ⟨c0, c1, c2, c3, c4⟩, hkid, hbd⟩, hr⟩ := h
    injection hd with e1 e2
    subst e1
    rw [Nat.zero_mul, Nat.add_zero]
    exact ⟨hf, A, cap, B, capB, c0, c1, c2, c3, c4, hkid, hbd⟩
  | i + 1, c0 :: cs, b, o, _, _, h, hd => by
    have h1 := ClAt.elem i cs b (o + 5) h.2.2 hd
    rw [show o + 5 + i * 5 = o + (i + 1) * 5 by omega] at h1
    exact h1
end

/-- Clauses that a call made: the rows of their terms lie in just the blocks L. -/
def OwnC (w : World) : List Cl → Nat → Nat → List Nat → Prop
  | [], _, _, L => L = []
  | c :: cs, b, o, L => ∃ (A : Option Addr) (cap : Nat) (B : Option Addr) (capB : Nat) (L1 L2 L3 : List Nat), L = L1 ++ (L2 ++ L3) ∧ Fits c.k c.n c.s ∧
      (w.cell? ⟨b, o, none⟩ = some (.int .i64 c.k) ∧ w.cell? ⟨b, o + 1, none⟩ = some (.int .i64 c.n) ∧ w.cell? ⟨b, o + 2, none⟩ = some (.string c.s) ∧ w.cell? ⟨b, o + 3, none⟩ = some (.slice A c.kids.len cap) ∧ w.cell? ⟨b, o + 4, none⟩ = some (.slice B c.body.len capB)) ∧
      OwnS w c.kids A cap L1 ∧ OwnS w c.body B capB L2 ∧ OwnC w cs b (o + 5) L3
section
variable {w w' : World}
theorem OwnC.keep : ∀ (cs : List Cl) (b o : Nat) (L : List Nat), OwnC w cs b o L → (∀ j, j < cs.length * 5 → w'.cell? ⟨b, o + j, none⟩ = w.cell? ⟨b, o + j, none⟩) → (∀ x ∈ L, w'.heap[x]? = w.heap[x]?) → OwnC w' cs b o L
  | [], _, _, _, h, _, _ => h
  | c :: cs, b, o, L, h, hc, hL => by
    obtain ⟨A, cap, B, capB, L1, L2, L3, rfl, hf, ⟨c0, c1, c2, c3, c4⟩, ho, hob, hr⟩ := h
    simp only [List.length_cons] at hc
    refine ⟨A, cap, B, capB, L1, L2, L3, rfl, hf, ⟨(hc 0 (by omega)).trans c0, (hc 1 (by omega)).trans c1, (hc 2 (by omega)).trans c2, (hc 3 (by omega)).trans c3, (hc 4 (by omega)).trans c4⟩, ho.keep fun x hx => hL x (by simp [hx]), hob.keep fun x hx => hL x (by simp [hx]), OwnC.keep cs b (o + 5) L3 hr (fun j hj => ?_) fun x hx => hL x (by simp [hx])⟩
    have := hc (5 + j) (by omega)
    rwa [← Nat.add_assoc] at this
theorem OwnC.snoc {c : Cl} {A B : Option Addr} {cap capB : Nat} {L1' L2' : List Nat} (hf : Fits c.k c.n c.s) (hs : OwnS w c.kids A cap L1') (hsb : OwnS w c.body B capB L2') : ∀ (cs : List Cl) (b o : Nat) (L : List Nat), OwnC w cs b o L →
    w.cell? ⟨b, o + cs.length * 5, none⟩ = some (.int .i64 c.k) → w.cell? ⟨b, o + cs.length * 5 + 1, none⟩ = some (.int .i64 c.n) → w.cell? ⟨b, o + cs.length * 5 + 2, none⟩ = some (.string c.s) → w.cell? ⟨b, o + cs.length * 5 + 3, none⟩ = some (.slice A c.kids.len cap) → w.cell? ⟨b, o + cs.length * 5 + 4, none⟩ = some (.slice B c.body.len capB) →
    OwnC w (cs ++ [c]) b o (L ++ (L1' ++ L2'))
  | [], b, o, L, h, c0, c1, c2, c3, c4 => by
    have h' : L = [] := h
    subst h'
    exact ⟨A, cap, B, capB, L1', L2', [], by simp, hf, ⟨c0, c1, c2, c3, c4⟩, hs, hsb, rfl⟩
  | c' :: cs, b, o, L, h, c0, c1, c2, c3, c4 => by
    obtain ⟨A', cap', B', capB', L1, L2, L3, rfl, hf', hc', ho', hob', hr⟩ := h
    have e : o + (c' :: cs).length * 5 = o + 5 + cs.length * 5 := by simp only [List.length_cons]; omega
    rw [e] at c0 c1 c2 c3 c4
    exact ⟨A', cap', B', capB', L1, L2, L3 ++ (L1' ++ L2'), by simp, hf', hc', ho', hob', OwnC.snoc hf hs hsb cs b (o + 5) L3 hr c0 c1 c2 c3 c4⟩
theorem OwnC.row {lo hi : Nat} : ∀ (cs : List Cl) (b o : Nat) (L : List Nat), OwnC w cs b o L → (∀ x ∈ L, lo ≤ x ∧ x < hi) → ClAt w lo hi cs b o
  | [], _, _, _, _, _ => trivial
  | c :: cs, b, o, L, h, hL => by
    obtain ⟨A, cap, B, capB, L1, L2, L3, rfl, hf, hc, ho, hob, hr⟩ := h
    exact ⟨hf, ⟨A, cap, B, capB, hc, ho.kids fun x hx => hL x (by simp [hx]), hob.kids fun x hx => hL x (by simp [hx])⟩, OwnC.row cs b (o + 5) L3 hr fun x hx => hL x (by simp [hx])⟩
theorem OwnC.lt : ∀ (cs : List Cl) (b o : Nat) (L : List Nat), OwnC w cs b o L → ∀ x ∈ L, x < w.heap.size
  | [], _, _, L, h, x, hx => by
    have h' : L = [] := h
    subst h'
    cases hx
  | c :: cs, b, o, L, h, x, hx => by
    obtain ⟨A, cap, B, capB, L1, L2, L3, rfl, hf, hc, ho, hob, hr⟩ := h
    rcases List.mem_append.1 hx with h | h
    · exact ho.lt x h
    · rcases List.mem_append.1 h with h | h
      · exact hob.lt x h
      · exact OwnC.lt cs b (o + 5) L3 hr x h
end
/-- What a call leaves that made one clause. -/
def MadeCl (w : World) (c : Cl) (A : Option Addr) (cap : Nat) (B : Option Addr) (capB : Nat) (w' : World) : Prop :=
  ∃ L1 L2, OwnS w' c.kids A cap L1 ∧ OwnS w' c.body B capB L2 ∧ (L1 ++ L2).Nodup ∧ (∀ x ∈ L1 ++ L2, w.heap.size ≤ x ∧ x < w'.heap.size) ∧ Below w.heap.size w w'
theorem MadeCl.at_ {w w' : World} {c : Cl} {A B : Option Addr} {cap capB : Nat} (h : MadeCl w c A cap B capB w') : KidsAt w' w.heap.size w'.heap.size c.kids A cap ∧ KidsAt w' w.heap.size w'.heap.size c.body B capB ∧ Below w.heap.size w w' := by
  obtain ⟨L1, L2, h1, h2, _, hL, hb⟩ := h
  exact ⟨h1.kids fun x hx => hL x (by simp [hx]), h2.kids fun x hx => hL x (by simp [hx]), hb⟩
end Go.Proofs.YtnkaafimnkigpaaDoor

/- laws.szClause, szClauseS, toClause, toClauseS. Condition: the clauses lie in memory; no more than the law's budget. -/
namespace Go.Proofs.YtnkaafimnkigpaaDoor
open Go.RowKit

def szC (c : Cl) (l : Int) : Int := if szT c.s c.kids l < 0 then -1 else szS c.body (szT c.s c.kids l)
def wtC (c : Cl) : Nat := c.s.size + c.kids.len + wt c.kids + c.body.len + wt c.body
theorem szC_range (c : Cl) (l : Int) (h : 0 ≤ l) : -1 ≤ szC c l ∧ szC c l ≤ l ∧ (0 ≤ szC c l → szC c l = l - wtC c) := by
  have h1 := szT_range c.s c.kids l h
  unfold szC
  split
  · exact ⟨by omega, by omega, fun h => absurd h (by omega)⟩
  · have h2 := szS_range c.body (szT c.s c.kids l) (by omega)
    refine ⟨h2.1, by omega, fun h0 => ?_⟩
    have a := h1.2.2 (by omega)
    have b := h2.2.2 h0
    unfold wtC
    omega
def szCF : List Cl → Int → Int
  | [], l => l
  | c :: cs, l => if szC c l < 0 then -1 else szCF cs (szC c l)
def szCS (cs : List Cl) (l : Int) : Int := if l - cs.length < 0 then -1 else szCF cs (l - cs.length)
def wtCs : List Cl → Nat
  | [] => 0
  | c :: cs => wtC c + wtCs cs
theorem szCF_range : ∀ (cs : List Cl) (l : Int), 0 ≤ l → -1 ≤ szCF cs l ∧ szCF cs l ≤ l ∧ (0 ≤ szCF cs l → szCF cs l = l - wtCs cs)
  | [], l, h => ⟨by unfold szCF; omega, Int.le_refl _, fun _ => by simp [szCF, wtCs]⟩
  | c :: cs, l, h => by
    have h1 := szC_range c l h
    unfold szCF
    split
    · exact ⟨by omega, by omega, fun h => absurd h (by omega)⟩
    · have h2 := szCF_range cs (szC c l) (by omega)
      refine ⟨h2.1, by omega, fun h0 => ?_⟩
      have a := h1.2.2 (by omega)
      have b := h2.2.2 h0
      simp only [wtCs]
      omega
theorem szCS_range (cs : List Cl) (l : Int) (h : 0 ≤ l) : -1 ≤ szCS cs l ∧ szCS cs l ≤ l ∧ (0 ≤ szCS cs l → szCS cs l = l - cs.length - wtCs cs) := by
  unfold szCS
  split
  · exact ⟨by omega, by omega, fun h => absurd h (by omega)⟩
  · have := szCF_range cs (l - cs.length) (by omega)
    omega
theorem wtC_le : ∀ (cs : List Cl) (i : Nat) {c : Cl} {rest : List Cl}, cs.drop i = c :: rest → wtC c ≤ wtCs cs
  | [], i, _, _, h => by simp at h
  | c' :: cs, 0, _, _, h => by
    injection h with e1 e2
    subst e1
    simp only [wtCs]; omega
  | c' :: cs, i + 1, _, _, h => by
    have := wtC_le cs i h
    simp only [wtCs]; omega
theorem drop_cl (cs : List Cl) (i : Nat) (h : i < cs.length) : ∃ c, cs.drop i = c :: cs.drop (i + 1) := ⟨cs[i], List.drop_eq_getElem_cons h⟩

end Go.Proofs.YtnkaafimnkigpaaDoor

/- Clauses and programs: what is valid, and the model's ClauseValid, ProgramValid. Condition: the clauses lie in memory. -/
namespace Go.Proofs.YtnkaafimnkigpaaDoor
open Go.RowKit

theorem nodes_wt_le (f : Fr) : nodes f ≤ f.len + wt f := by
  induction f with
  | nil => exact Nat.le_refl _
  | cons k n s kids rest h1 h2 => simp only [nodes, Fr.len, wt]; omega
def allG : Fr → Bool
  | .nil => true
  | .cons k n s kids rest => goalV k n s kids && allG rest
def goalsV (f : Fr) : Bool := decide (f.len ≤ 6) && allG f
def clauseV (c : Cl) : Bool := plainV c.k c.n c.s c.kids && goalsV c.body
def allC : List Cl → Bool
  | [] => true
  | c :: cs => clauseV c && allC cs
def progV (cs : List Cl) : Bool := decide (cs.length ≤ 20) && allC cs

theorem wtC_nodes (c : Cl) : nodes c.kids + nodes c.body ≤ wtC c := by
  have h1 := nodes_wt_le c.kids
  have h2 := nodes_wt_le c.body
  unfold wtC
  omega

end Go.Proofs.YtnkaafimnkigpaaDoor
