/- laws.eqBind, eqBindS of equal rows; markBindS. Condition: the rows lie in memory (markBindS: the call owns them). -/
import Derived.Test.YtkefpickpjjllaaDoorProg
import Derived.Test.YtkefpickpjjllaaDoorZmUT40
import Derived.Test.YtkefpickpjjllaaDoorEq
import Derived.Test.YtkefpickpjjllaaDoorZmUT50
import Derived.Deep.RegionHeld3
namespace Go.Proofs.YtkefpickpjjllaaDoor
open Go.RowKit

set_option maxRecDepth 100000 in
set_option maxHeartbeats 1000000 in
/-- laws.eqBind of equal bindings. -/
theorem eqB_any (n0 k n : Int) (s : ByteArray) (f : Fr) (A B : Option Addr) (cap cap' lo hi lo' hi' : Nat) (w : World) (hk : KidsAt w lo hi f A cap) (hk' : KidsAt w lo' hi' f B cap') (hh : hi ≤ w.heap.size) (hh' : hi' ≤ w.heap.size) :
    Calls Tryd.prog 27 #[.agg #[.int .i64 n0, .int .i64 k, .int .i64 n, .string s, .slice A f.len cap], .agg #[.int .i64 n0, .int .i64 k, .int .i64 n, .string s, .slice B f.len cap']] w fun e w' => e = .returned (.bool true) ∧ Below w.heap.size w w' := by
  have C1 := fun w1 (hb : Below w.heap.size w w1) => eqT_any s f s f k n k n A B cap cap' lo hi lo' hi' w1 (hk.below hb hh) (hk'.below hb hh') (Nat.le_trans hh hb.size) (Nat.le_trans hh' hb.size)
  rw [eqT_refl] at C1
  have H1 := Lib.hid C1
  have t0 : (n0 != n0) = false := by simp
  have HT := Lib.hid (two_alloc w (.cells #[.int .i64 n0, .int .i64 k, .int .i64 n, .string s, .slice A f.len cap] 44) (.cells #[.int .i64 n0, .int .i64 k, .int .i64 n, .string s, .slice B f.len cap'] 44))
  clear C1 hk hk' hh hh'
  generalize f.len = fl at *
  go_enter Tryd.func27, Tryd.ntmps27
  go_wp2_with fail
  refine (H1.out _ HT.out).mono ?_
  rintro e w2 ⟨rfl, hb⟩
  have HB := Lib.hid (HT.out.trans (hb.mono HT.out.size))
  clear hb
  go_wp2_with fail
  go_ret
  exact ⟨rfl, HB.out⟩

set_option maxRecDepth 100000 in
set_option maxHeartbeats 2000000 in
/-- laws.eqBindS of equal rows. -/
theorem eqBS_any (ns : List Int) (f : Fr) (A B : Option Addr) (cap cap' lo hi lo' hi' : Nat) (w : World) (hk : BdS w lo hi ns f A cap) (hk' : BdS w lo' hi' ns f B cap') (hh : hi ≤ w.heap.size) (hh' : hi' ≤ w.heap.size) :
    Calls Tryd.prog 9 #[.slice A f.len cap, .slice B f.len cap'] w fun e w' => e = .returned (.bool true) ∧ Below w.heap.size w w' := by
  have HK := Lib.hid hk
  have HK' := Lib.hid hk'
  have HHI := Lib.hid hh
  have HHI' := Lib.hid hh'
  have hl := hk.2.1
  have hm := hk.2.2.1
  unfold maxLen at hm
  clear hk hk' hh hh'
  generalize hn : f.len = len at *
  have HN := Lib.hid hn
  clear hn
  have t0 : ((len : Int) != (len : Int)) = false := by simp
  go_enter Tryd.func9, Tryd.ntmps9
  go_wp2_with fail
  go_loopw [5] (fun i wr => ∃ (k : Nat), k ≤ len ∧ i = .int .i64 k ∧ Below w.heap.size w wr) (fun i _ => len - (intOf i).toNat)
  case atStart => exact ⟨0, Nat.zero_le _, rfl, Below.refl _ _⟩
  case round =>
    obtain ⟨k, hk, rfl, hb⟩ := hrel
    by_cases hlt : k < len
    · obtain ⟨kk, nn, s, kids, hd⟩ := Fr.drop_cons k f (by rw [HN.out]; exact hlt)
      obtain ⟨b, o, rfl, hlb, hbb, hrow⟩ := HK.out.2.2.2 (by rw [HN.out]; omega)
      obtain ⟨b', o', rfl, hlb', hbb', hrow'⟩ := HK'.out.2.2.2 (by rw [HN.out]; omega)
      obtain ⟨_, _, A', cp, c0, c1, c2, c3, c4, hkid⟩ := BdAt.elem k ns f b o hrow hd
      obtain ⟨_, _, B', cp', c0', c1', c2', c3', c4', hkid'⟩ := BdAt.elem k ns f b' o' hrow' hd
      have hlo : (⟨b, o, none⟩ : Addr).block < w.heap.size := Nat.lt_of_lt_of_le hbb HHI.out
      have hlo' : (⟨b', o', none⟩ : Addr).block < w.heap.size := Nat.lt_of_lt_of_le hbb' HHI'.out
      have k0 := (hb.cell (p := ⟨b, o + k * 5, none⟩) hlo).trans c0
      have k1 := (hb.cell (p := ⟨b, o + k * 5 + 1, none⟩) hlo).trans c1
      have k2 := (hb.cell (p := ⟨b, o + k * 5 + 2, none⟩) hlo).trans c2
      have k3 := (hb.cell (p := ⟨b, o + k * 5 + 3, none⟩) hlo).trans c3
      have k4 := (hb.cell (p := ⟨b, o + k * 5 + 4, none⟩) hlo).trans c4
      have j0 := (hb.cell (p := ⟨b', o' + k * 5, none⟩) hlo').trans c0'
      have j1 := (hb.cell (p := ⟨b', o' + k * 5 + 1, none⟩) hlo').trans c1'
      have j2 := (hb.cell (p := ⟨b', o' + k * 5 + 2, none⟩) hlo').trans c2'
      have j3 := (hb.cell (p := ⟨b', o' + k * 5 + 3, none⟩) hlo').trans c3'
      have j4 := (hb.cell (p := ⟨b', o' + k * 5 + 4, none⟩) hlo').trans c4'
      have C1 : ∀ w1, Below wr.heap.size wr w1 → _ := fun w1 hb1 =>
        have hb2 := hb.trans (hb1.mono hb.size)
        eqB_any (ns.getD k 0) kk nn s kids A' B' cp cp' lo hi lo' hi' w1 (hkid.below hb2 HHI.out) (hkid'.below hb2 HHI'.out) (Nat.le_trans HHI.out hb2.size) (Nat.le_trans HHI'.out hb2.size)
      generalize ns.getD k 0 = n0 at *
      have H1 := Lib.hid C1
      have HB := Lib.hid hb
      clear C1 hb c0 c1 c2 c3 c4 c0' c1' c2' c3' c4' hkid hkid' hrow hrow' hd hlo hlo'
      go_wp2_with fail
      go_still_tail 8, (by kernel_rfl)
      change wpList _ _ _ _ _ wr.drew
      have hbd : Below wr.heap.size wr wr.drew := (Below.refl _ _).drew
      generalize wr.drew = w2 at hbd ⊢
      have HD := Lib.hid hbd
      clear hbd k0 k1 k2 k3 k4 j0 j1 j2 j3 j4
      go_wp2_with fail
      refine (H1.out _ HD.out).mono ?_
      rintro e w3 ⟨rfl, hb3⟩
      have HB3 := Lib.hid hb3
      clear hb3
      go_wp2_with fail
      go_roundw
      case rel => exact ⟨k + 1, by omega, by go_num, (HB.out.trans (HD.out.mono HB.out.size)).trans (HB3.out.mono (Nat.le_trans HB.out.size HD.out.size))⟩
      case measure => simp [intOf]; omega
    · obtain rfl : k = len := by omega
      have HB := Lib.hid hb
      clear hb
      go_wp2_with fail
      go_ret
      exact ⟨rfl, HB.out⟩

/-- The loop's relation of markBindS: the rows from i on are as they were. -/
def MbP (w : World) (ns : List Int) (f : Fr) (b cap : Nat) (L : List Nat) (i : Nat) (wr : World) : Prop :=
  ∃ Lb cs, (b :: Lb).Nodup ∧ (∀ x ∈ b :: Lb, x ∈ L) ∧ OwnB wr (ns.drop i) (f.drop i) b (i * 5) Lb ∧ Blk wr b 44 cs ∧ cs.size = cap * 5 ∧ Wrote L w wr
/-- What a round meets. -/
def MbOpen (w : World) (ns : List Int) (f : Fr) (b cap : Nat) (L : List Nat) (i kk : Nat) (kids : Fr) (A' : Option Addr) (cap' : Nat) (wr : World) : Prop :=
  (∃ v0 v1 v2, wr.cell? ⟨b, i * 5, none⟩ = some v0 ∧ wr.cell? ⟨b, i * 5 + 1, none⟩ = some v1 ∧ wr.cell? ⟨b, i * 5 + 2, none⟩ = some v2) ∧
  b < wr.heap.size ∧ (∀ j, wr.frozen? ⟨b, j, none⟩ = false) ∧
  ∃ K : List Nat, K.Nodup ∧ ∀ w1 : World, Below wr.heap.size (((wr.setCell ⟨b, i * 5, none⟩ (.int .i64 (kk : Int))).setCell ⟨b, i * 5 + 1, none⟩ (.int .i64 ((kk : Int) + 1))).setCell ⟨b, i * 5 + 2, none⟩ (.int .i64 ((kk : Int) + 1 + 1))) w1 →
    ((∃ v, w1.cell? ⟨b, i * 5 + 3, none⟩ = some v) ∧ w1.frozen? ⟨b, i * 5 + 3, none⟩ = false ∧ w1.cell? ⟨b, i * 5 + 4, none⟩ = some (.slice A' kids.len cap')) ∧
    OwnS (w1.setCell ⟨b, i * 5 + 3, none⟩ (.string (mtext (kk + 3)))) kids A' cap' K ∧
    ∀ w4, Wrote K (w1.setCell ⟨b, i * 5 + 3, none⟩ (.string (mtext (kk + 3)))) w4 → MbP w ns f b cap L (i + 1) w4
theorem MbP.open_ {w wr : World} {ns : List Int} {f : Fr} {b cap i : Nat} {L : List Nat} {k n : Int} {s : ByteArray} {kids rest : Fr} (h : MbP w ns f b cap L i wr) (hd : f.drop i = .cons k n s kids rest) (hi : i < f.len) (kk : Nat) :
    ∃ A' cap', MbOpen w ns f b cap L i kk kids A' cap' wr := by
  obtain ⟨Lb, cs, hnd, hLL, hback, hblk, hsz, hwr⟩ := h
  have e1 : f.drop (i + 1) = rest := by
    obtain ⟨_, _, _, _, h⟩ := Fr.drop_cons i f hi
    rw [hd] at h
    injection h with _ _ _ _ h
    exact h.symm
  have e2 : ns.drop (i + 1) = (ns.drop i).tail := by rw [List.tail_drop]
  rw [hd] at hback
  generalize ns.drop i = nd at *
  cases nd with
  | nil => exact hback.elim
  | cons n0 nd =>
  obtain ⟨A', cap', L1, L2, rfl, h0, hfit, ⟨c0, c1, c2, c3, c4⟩, hown, hr⟩ := hback
  have hlt := hblk.lt
  obtain ⟨hb0, hnd'⟩ := List.nodup_cons.1 hnd
  obtain ⟨hn1', hn2', h12⟩ := List.nodup_append.1 hnd'
  have hb2 : b ∉ L1 := fun h => hb0 (by simp [h])
  have hb3 : b ∉ L2 := fun h => hb0 (by simp [h])
  refine ⟨A', cap', ⟨⟨_, _, _, c0, c1, c2⟩, hlt, fun j => hblk.frozen j, L1, hn1', fun w1 hw1 => ?_⟩⟩
  have q1 := (((hblk.set_ (i * 5) (.int .i64 (kk : Int))).set_ (i * 5 + 1) (.int .i64 ((kk : Int) + 1))).set_ (i * 5 + 2) (.int .i64 ((kk : Int) + 1 + 1))).below hw1 hlt
  have q3 := q1.set_ (i * 5 + 3) (.string (mtext (kk + 3)))
  have d2 : ∃ v, w1.cell? ⟨b, i * 5 + 3, none⟩ = some v := by
    rw [q1.cell]
    simp only [Array.getElem?_setIfInBounds]
    rw [if_neg (by omega), if_neg (by omega), if_neg (by omega), ← hblk.cell]
    exact ⟨_, c3⟩
  have d3 : w1.cell? ⟨b, i * 5 + 4, none⟩ = some (.slice A' kids.len cap') := by
    rw [q1.cell]
    simp only [Array.getElem?_setIfInBounds]
    rw [if_neg (by omega), if_neg (by omega), if_neg (by omega), ← hblk.cell]
    exact c4
  have d4 : w1.frozen? ⟨b, i * 5 + 3, none⟩ = false := q1.frozen _
  have far : ∀ x, x < wr.heap.size → x ≠ b → (w1.setCell ⟨b, i * 5 + 3, none⟩ (.string (mtext (kk + 3)))).heap[x]? = wr.heap[x]? := fun x hx hne => by
    rw [heap_setCell_other _ _ _ _ (show x ≠ b from hne), hw1.block x hx, heap_setCell_other _ _ _ _ (show x ≠ b from hne), heap_setCell_other _ _ _ _ (show x ≠ b from hne), heap_setCell_other _ _ _ _ (show x ≠ b from hne)]
  have hs3 : wr.heap.size ≤ (w1.setCell ⟨b, i * 5 + 3, none⟩ (.string (mtext (kk + 3)))).heap.size := by
    have := hw1.size; simpa [World.setCell] using this
  have hw3 : Wrote L w (w1.setCell ⟨b, i * 5 + 3, none⟩ (.string (mtext (kk + 3)))) :=
    hwr.trans ⟨hw1.os, hw1.tape, hw1.output, hs3, fun x hx hn => far x hx fun e => hn (hLL x (by simp [e]))⟩
  generalize w1.setCell ⟨b, i * 5 + 3, none⟩ (.string (mtext (kk + 3))) = w3 at *
  have hl2 : ∀ x ∈ L2, x < wr.heap.size := fun x hx => OwnB.lt _ _ b (i * 5 + 5) L2 hr x hx
  refine ⟨⟨d2, d4, d3⟩, hown.keep fun x hx => far x (hown.lt x hx) fun e => hb2 (e ▸ hx), fun w4 hw4 => ?_⟩
  have q4 := hw4.blk q3 hb2
  refine ⟨L2, _, List.nodup_cons.2 ⟨hb3, hn2'⟩, fun x hx => hLL x ?_, ?_, q4, by simpa using hsz, hw3.trans (hw4.more fun x hx => hLL x (by simp [hx]))⟩
  · rcases List.mem_cons.1 hx with rfl | hx
    · simp
    · simp [hx]
  · rw [e1, e2, show (i + 1) * 5 = i * 5 + 5 by omega]
    refine OwnB.keep nd rest b (i * 5 + 5) L2 hr (fun j hj => ?_) fun x hx => ?_
    · rw [q4.cell, hblk.cell]
      simp only [Array.getElem?_setIfInBounds]
      rw [if_neg (by omega), if_neg (by omega), if_neg (by omega), if_neg (by omega)]
    · rw [hw4.block x (by have := hl2 x hx; omega) fun e => h12 x e x hx rfl]
      exact far x (hl2 x hx) fun e => hb3 (e ▸ hx)

set_option maxRecDepth 100000 in
set_option maxHeartbeats 2000000 in
/-- laws.markBindS. -/
theorem markBS_any (ns : List Int) (f : Fr) (A : Option Addr) (cap k0 : Nat) (L : List Nat) (w : World) (ho : OwnBS w ns f A cap L) (hnd : L.Nodup) (hk : k0 + 4 * nodes f ≤ 1099511627776) (hk0 : 0 < k0) :
    Calls Tryd.prog 12 #[.slice A f.len cap, .int .i64 (k0 : Int)] w fun e w' => (∃ k : Nat, e = .returned (.int .i64 (k : Int)) ∧ k ≤ 1099511627776) ∧ Wrote L w w' := by
  obtain ⟨hlen, _, hmax, b, L', cs, rfl, rfl, hblk, hcs, hown⟩ := ho
  have h0 : MbP w ns f b cap (b :: L') 0 w := ⟨L', cs, hnd, fun x hx => hx, by simpa [Fr.drop] using hown, hblk, hcs, .refl _ _⟩
  have HST := Lib.hid h0
  have HK := Lib.hid hk
  have hl : f.len ≤ 1099511627776 := by have := len_le_nodes f; omega
  clear h0 hown hnd hblk hcs hmax hlen
  unfold maxLen at *
  generalize hn : f.len = len at *
  have HN := Lib.hid hn
  clear hn
  go_enter Tryd.func12, Tryd.ntmps12
  go_wp2_with fail
  go_loopw [5, 1] (fun i k wr => ∃ (j kk : Nat), j ≤ len ∧ i = .int .i64 j ∧ k = .int .i64 kk ∧ 0 < kk ∧ kk + 4 * nodes (f.drop j) ≤ k0 + 4 * nodes f ∧ MbP w ns f b cap (b :: L') j wr) (fun i _ _ => len - (intOf i).toNat)
  case atStart => exact ⟨0, k0, Nat.zero_le _, rfl, rfl, hk0, Nat.le_refl _, HST.out⟩
  case round =>
    obtain ⟨j, kk, hj, rfl, rfl, hk1, hkk, hp⟩ := hrel
    by_cases hlt : j < len
    · obtain ⟨kn, nn, s, kids, hd⟩ := Fr.drop_cons j f (by rw [HN.out]; exact hlt)
      obtain ⟨A', cap', hopen⟩ := hp.open_ hd (by rw [HN.out]; exact hlt) kk
      obtain ⟨⟨v0, v1, v2, c0, c1, c2⟩, hbw, hfz, K, hKn, hgo⟩ := hopen
      have hn1 : nodes (f.drop j) = 1 + nodes kids + nodes (f.drop (j + 1)) := by rw [hd]; rfl
      have hkb : kk + 4 + 3 * nodes kids ≤ 1099511627776 := by have := HK.out; omega
      have HKK : Hid (kk + 4 + 3 * nodes kids + 4 * nodes (f.drop (j + 1)) ≤ k0 + 4 * nodes f) := Lib.hid (by omega)
      have C2 : ∀ w1, OwnS w1 kids A' cap' K → Calls Tryd.prog 29 #[.slice A' kids.len cap', .int .i64 ((kk : Int) + 1 + 1 + 1 + 1)] w1 fun e w' => MarkedS w1 kids A' cap' K (kk + 4) e w' := fun w1 ho => by
        have h := markS_any kids A' cap' (kk + 4) K w1 ho hKn (by omega) (by omega)
        rwa [show ((kk + 4 : Nat) : Int) = (kk : Int) + 1 + 1 + 1 + 1 by omega] at h
      have C1 : ∀ w1, Calls Tryd.prog 30 #[.int .i64 ((kk : Int) + 1 + 1 + 1)] w1 fun e w' => e = .returned (.string (mtext (kk + 3))) ∧ Below w1.heap.size w1 w' := fun w1 => by
        have h := markText_any (kk + 3) w1 (by omega) (by omega)
        rwa [show ((kk + 3 : Nat) : Int) = (kk : Int) + 1 + 1 + 1 by omega] at h
      have hf0 := hfz (j * 5)
      have hf1 := hfz (j * 5 + 1)
      have hf2 := hfz (j * 5 + 2)
      have HGO := Lib.hid hgo
      have H1 := Lib.hid C1
      have H2 := Lib.hid C2
      clear hp hfz hgo C1 C2 hKn hkk hn1 hd
      go_wp2_with fail
      refine (H1.out _).mono ?_
      rintro e w1 ⟨rfl, hb1⟩
      obtain ⟨⟨⟨v3, d2⟩, d4, d3⟩, how, hgo⟩ := HGO.out w1 (hb1.mono (by simp [World.setCell]))
      have HO := Lib.hid how
      have HG2 := Lib.hid hgo
      clear hb1 how hgo HGO c0 c1 c2 hf0 hf1 hf2
      go_wp2_with fail
      refine (H2.out _ HO.out).mono ?_
      rintro e w4 ⟨rfl, _, hw4⟩
      have hm := HG2.out w4 hw4
      have HM := Lib.hid hm
      clear hm hw4 HG2 HO
      go_wp2_with fail
      go_roundw
      case rel => exact ⟨j + 1, kk + 4 + 3 * nodes kids, by omega, by go_num, rfl, by omega, HKK.out, HM.out⟩
      case measure => simp [intOf]; omega
    · obtain rfl : j = len := by omega
      obtain ⟨_, _, _, _, _, _, _, hw⟩ := hp
      have HW := Lib.hid hw
      have HE : Hid (kk ≤ 1099511627776) := Lib.hid (by have := HK.out; omega)
      clear hw hkk
      go_wp2_with fail
      go_ret
      exact ⟨⟨kk, rfl, HE.out⟩, HW.out⟩
end Go.Proofs.YtkefpickpjjllaaDoor

/- laws.heldTermS, heldTerm: a marked row still holds its marks. Condition: the marked row lies in memory. -/
namespace Go.Proofs.YtkefpickpjjllaaDoor
open Go.RowKit

def HeldS (f : Fr) : Prop := ∀ (A : Option Addr) (cap k lo hi : Nat) (w : World), KidsAt w lo hi (markF f k) A cap → hi ≤ w.heap.size → k + 3 * nodes f ≤ 1099511627776 → 0 < k →
  Calls Tryd.prog 31 #[.slice A f.len cap, .int .i64 (k : Int)] w fun e w' => e = .returned (.int .i64 ((k + 3 * nodes f : Nat) : Int)) ∧ Below w.heap.size w w'

set_option maxRecDepth 100000 in
set_option maxHeartbeats 2000000 in
theorem heldS_of (f : Fr) (h : ∀ i k n s kids rest, f.drop i = .cons k n s kids rest → HeldS kids) : HeldS f := by
  intro A cap k0 lo hi w hk hh hb hk0
  have HK := Lib.hid hk
  have HH := Lib.hid h
  have HHI := Lib.hid hh
  have HB := Lib.hid hb
  have hl : f.len ≤ 1099511627776 := by have := len_le_nodes f; omega
  have hml := markF_len f k0
  have HML := Lib.hid hml
  clear hk h hh hb hml
  generalize hn : f.len = len at *
  have HN := Lib.hid hn
  clear hn
  go_enter Tryd.func31, Tryd.ntmps31
  go_wp2_with fail
  go_loopw [5, 1] (fun i k wr => ∃ (j kk : Nat), j ≤ len ∧ i = .int .i64 j ∧ k = .int .i64 kk ∧ kk = k0 + 3 * nodes (f.take j) ∧ Below w.heap.size w wr) (fun i _ _ => len - (intOf i).toNat)
  case atStart => exact ⟨0, k0, Nat.zero_le _, rfl, rfl, rfl, Below.refl _ _⟩
  case round =>
    obtain ⟨j, kk, hj, rfl, rfl, hkk, hbw⟩ := hrel
    by_cases hlt : j < len
    · obtain ⟨kn, nn, s, kids, hd⟩ := Fr.drop_cons j f (by rw [HN.out]; exact hlt)
      have hdm : (markF f k0).drop j = .cons (kk : Int) ((kk : Int) + 1) (mtext (kk + 2)) (markF kids (kk + 3)) (markF (f.drop (j + 1)) (kk + 3 + 3 * nodes kids)) := by
        rw [markF_drop, hd, ← hkk]; rfl
      obtain ⟨b, o, rfl, hlb, hbb, hrow⟩ := HK.out.2.2 (by rw [HML.out]; omega)
      obtain ⟨_, A', cap', c0, c1, c2, c3, hkid⟩ := hrow.elem hdm
      rw [markF_len] at c3
      have hlo : (⟨b, o, none⟩ : Addr).block < w.heap.size := Nat.lt_of_lt_of_le hbb HHI.out
      have k0' := (hbw.cell (p := ⟨b, o + j * 4, none⟩) hlo).trans c0
      have k1' := (hbw.cell (p := ⟨b, o + j * 4 + 1, none⟩) hlo).trans c1
      have k2' := (hbw.cell (p := ⟨b, o + j * 4 + 2, none⟩) hlo).trans c2
      have k3' := (hbw.cell (p := ⟨b, o + j * 4 + 3, none⟩) hlo).trans c3
      have hsp := nodes_split j f
      have hnt := nodes_take j f hd
      have hn1 : nodes (f.drop j) = 1 + nodes kids + nodes (f.drop (j + 1)) := by rw [hd]; rfl
      have hkb : kk + 3 + 3 * nodes kids ≤ 1099511627776 := by have := HB.out; omega
      have HKK : Hid (kk + 3 + 3 * nodes kids = k0 + 3 * nodes (f.take (j + 1))) := Lib.hid (by omega)
      have C1 : ∀ w1, Calls Tryd.prog 30 #[.int .i64 ((kk : Int) + 1 + 1)] w1 fun e w' => e = .returned (.string (mtext (kk + 2))) ∧ Below w1.heap.size w1 w' := fun w1 => by
        have h := markText_any (kk + 2) w1 (by omega) (by omega)
        rwa [show ((kk + 2 : Nat) : Int) = (kk : Int) + 1 + 1 by omega] at h
      have C2 : ∀ w1, Below wr.heap.size wr w1 → Calls Tryd.prog 31 #[.slice A' kids.len cap', .int .i64 ((kk : Int) + 1 + 1 + 1)] w1 fun e w' => e = .returned (.int .i64 ((kk + 3 + 3 * nodes kids : Nat) : Int)) ∧ Below w1.heap.size w1 w' := fun w1 hb1 => by
        have hb2 := hbw.trans (hb1.mono hbw.size)
        have h := HH.out _ _ _ _ _ _ hd A' cap' (kk + 3) lo hi w1 (hkid.below hb2 HHI.out) (Nat.le_trans HHI.out hb2.size) (by omega) (by omega)
        rwa [show ((kk + 3 : Nat) : Int) = (kk : Int) + 1 + 1 + 1 by omega] at h
      have t0 : ((kk : Int) != (kk : Int)) = false := by simp
      have t1 : ((kk : Int) + 1 != (kk : Int) + 1) = false := by simp
      have t2 : ((mtext (kk + 2)).toList != (mtext (kk + 2)).toList) = false := by simp
      have t2' : (!((mtext (kk + 2)).toList == (mtext (kk + 2)).toList)) = false := by simp
      have t3 : ¬ (((kk + 3 + 3 * nodes kids : Nat) : Int) < 0) := by omega
      have hlo' : b < wr.heap.size := Nat.lt_of_lt_of_le hlo hbw.size
      have H1 := Lib.hid C1
      have H2 := Lib.hid C2
      have HBW := Lib.hid hbw
      generalize mtext (kk + 2) = mt at *
      clear C1 C2 hbw hkk hsp hnt hn1 hd hdm c0 c1 c2 c3 hkid hrow
      go_wp2_with fail
      go_region_held3 (fun w' => w'.cell? ⟨b, o + j * 4 + 2, none⟩ = some (.string mt))
        (first | exact y2 | exact k2')
        (first
          | (go_at_call 30
             refine (H1.out _).mono ?_
             rintro e w2 ⟨rfl, hb2⟩
             have hd2 : Below wr.heap.size wr w2 := (Below.refl wr.heap.size wr).drew.trans hb2
             have y2 := (hd2.cell (p := ⟨b, o + j * 4 + 2, none⟩) hlo').trans k2'
             have y3 := (hd2.cell (p := ⟨b, o + j * 4 + 3, none⟩) hlo').trans k3'
             have HB2 := Lib.hid hd2
             clear hb2 hd2))
      go_wp2_with fail
      refine (H2.out _ HB2.out).mono ?_
      rintro e w3 ⟨rfl, hb3⟩
      have HB3 : Hid (Below w.heap.size w w3) := Lib.hid ((HBW.out.trans (HB2.out.mono HBW.out.size)).trans (hb3.mono (Nat.le_trans HBW.out.size HB2.out.size)))
      clear hb3
      go_wp2_with fail
      go_roundw
      case rel => exact ⟨j + 1, kk + 3 + 3 * nodes kids, by omega, by go_num, rfl, HKK.out, HB3.out⟩
      case measure => simp [intOf]; omega
    · obtain rfl : j = len := by omega
      have HE : Hid (k0 + 3 * nodes f = kk) := Lib.hid (by rw [hkk, ← HN.out, Fr.take_len])
      have HBW := Lib.hid hbw
      clear hbw hkk
      go_wp2_with fail
      go_ret
      rw [HE.out]
      exact ⟨rfl, HBW.out⟩

theorem held_all (N : Nat) : ∀ f : Fr, f.size ≤ N → HeldS f := by
  induction N with
  | zero =>
    intro f hf
    refine heldS_of f fun i k n s kids rest hd => ?_
    have h1 := Fr.size_drop i f
    rw [hd] at h1
    simp only [Fr.size] at h1
    omega
  | succ N ih =>
    intro f hf
    refine heldS_of f fun i k n s kids rest hd => ih kids ?_
    have h1 := Fr.size_drop i f
    rw [hd] at h1
    simp only [Fr.size] at h1
    omega
/-- laws.heldTermS. -/
theorem heldS_any (f : Fr) : HeldS f := held_all f.size f (Nat.le_refl _)

end Go.Proofs.YtkefpickpjjllaaDoor

/- laws.markBindS with what it writes; laws.heldBindS. Condition: the bindings are the call's own. -/
namespace Go.Proofs.YtkefpickpjjllaaDoor
open Go.RowKit

def mbK : Fr → Nat
  | .nil => 0
  | .cons _ _ _ kids rest => 4 + 3 * nodes kids + mbK rest
def mbN : Fr → Nat → List Int
  | .nil, _ => []
  | .cons _ _ _ kids rest, k => (k : Int) :: mbN rest (k + (4 + 3 * nodes kids))
def mbF : Fr → Nat → Fr
  | .nil, _ => .nil
  | .cons _ _ _ kids rest, k => .cons ((k : Int) + 1) ((k : Int) + 1 + 1) (mtext (k + 3)) (markF kids (k + 4)) (mbF rest (k + (4 + 3 * nodes kids)))
theorem mbF_len : ∀ (f : Fr) (k : Nat), (mbF f k).len = f.len
  | .nil, _ => rfl
  | .cons _ _ _ _ rest, k => by simp only [mbF, Fr.len, mbF_len rest]
theorem mbN_len : ∀ (f : Fr) (k : Nat), (mbN f k).length = f.len
  | .nil, _ => rfl
  | .cons _ _ _ _ rest, k => by simp only [mbN, Fr.len, List.length_cons, mbN_len rest]
theorem mbK_le : ∀ f : Fr, mbK f ≤ 4 * nodes f
  | .nil => Nat.le_refl _
  | .cons _ _ _ kids rest => by simp only [mbK, nodes]; have := mbK_le rest; omega
theorem mbK_app : ∀ (f g : Fr), mbK (f.app g) = mbK f + mbK g
  | .nil, g => by simp [Fr.app, mbK]
  | .cons _ _ _ _ rest, g => by simp only [Fr.app, mbK, mbK_app rest g]; omega
theorem mbN_app : ∀ (f g : Fr) (k : Nat), mbN (f.app g) k = mbN f k ++ mbN g (k + mbK f)
  | .nil, g, k => by simp [Fr.app, mbN, mbK]
  | .cons _ _ _ kids rest, g, k => by
    simp only [Fr.app, mbN, mbN_app rest g, mbK, List.cons_append]
    rw [show k + (4 + 3 * nodes kids) + mbK rest = k + (4 + 3 * nodes kids + mbK rest) by omega]
theorem mbF_app : ∀ (f g : Fr) (k : Nat), mbF (f.app g) k = (mbF f k).app (mbF g (k + mbK f))
  | .nil, g, k => by simp [Fr.app, mbF, mbK]
  | .cons _ _ _ kids rest, g, k => by
    simp only [Fr.app, mbF, mbF_app rest g, mbK]
    rw [show k + (4 + 3 * nodes kids) + mbK rest = k + (4 + 3 * nodes kids + mbK rest) by omega]
theorem mbK_split (i : Nat) (f : Fr) {k n : Int} {s : ByteArray} {kids rest : Fr} (h : f.drop i = .cons k n s kids rest) : mbK (f.take (i + 1)) = mbK (f.take i) + (4 + 3 * nodes kids) := by
  rw [Fr.take_succ i f h, mbK_app]; simp only [mbK]; omega
theorem mbF_drop : ∀ (i : Nat) (f : Fr) (k : Nat), (mbF f k).drop i = mbF (f.drop i) (k + mbK (f.take i))
  | 0, f, k => by simp [Fr.drop, Fr.take, mbK]
  | i + 1, .nil, k => rfl
  | i + 1, .cons _ _ _ kids rest, k => by
    simp only [mbF, Fr.drop, mbF_drop i rest, Fr.take, mbK]
    rw [show k + (4 + 3 * nodes kids) + mbK (Fr.take i rest) = k + (4 + 3 * nodes kids + mbK (Fr.take i rest)) by omega]
theorem mbN_getD : ∀ (i : Nat) (f : Fr) (k : Nat), i < f.len → (mbN f k).getD i 0 = ((k + mbK (f.take i) : Nat) : Int)
  | i, .nil, k, h => absurd h (Nat.not_lt_zero _)
  | 0, .cons _ _ _ kids rest, k, _ => by simp [mbN, Fr.take, mbK]
  | i + 1, .cons _ _ _ kids rest, k, h => by
    have := mbN_getD i rest (k + (4 + 3 * nodes kids)) (Nat.lt_of_succ_lt_succ h)
    simp only [mbN, List.getD_cons_succ, this, Fr.take, mbK]
    rw [show k + (4 + 3 * nodes kids) + mbK (Fr.take i rest) = k + (4 + 3 * nodes kids + mbK (Fr.take i rest)) by omega]
theorem mbK_take (i : Nat) (f : Fr) : mbK (f.take i) + mbK (f.drop i) = mbK f := by
  revert f
  induction i with
  | zero => intro f; simp [Fr.take, Fr.drop, mbK]
  | succ i ih =>
    intro f
    cases f with
    | nil => rfl
    | cons _ _ _ kids rest => simp only [Fr.take, Fr.drop, mbK]; have := ih rest; omega

/-- The loop's relation: i bindings are marked, the others are as they were. -/
def MbQ (w : World) (ns : List Int) (f : Fr) (b cap : Nat) (L' : List Nat) (k0 i : Nat) (wr : World) : Prop :=
  ∃ La Lb cs, L' = La ++ Lb ∧ OwnB wr (mbN (f.take i) k0) (mbF (f.take i) k0) b 0 La ∧ OwnB wr (ns.drop i) (f.drop i) b (i * 5) Lb ∧ Blk wr b 44 cs ∧ cs.size = cap * 5 ∧ Wrote (b :: L') w wr
/-- What a round meets. -/
def MbOpen2 (w : World) (ns : List Int) (f : Fr) (b cap : Nat) (L' : List Nat) (k0 i kk : Nat) (kids : Fr) (A' : Option Addr) (cap' : Nat) (wr : World) : Prop :=
  (∃ v0 v1 v2, wr.cell? ⟨b, i * 5, none⟩ = some v0 ∧ wr.cell? ⟨b, i * 5 + 1, none⟩ = some v1 ∧ wr.cell? ⟨b, i * 5 + 2, none⟩ = some v2) ∧
  b < wr.heap.size ∧ (∀ j, wr.frozen? ⟨b, j, none⟩ = false) ∧
  ∃ K : List Nat, K.Nodup ∧ ∀ w1 : World, Below wr.heap.size (((wr.setCell ⟨b, i * 5, none⟩ (.int .i64 (kk : Int))).setCell ⟨b, i * 5 + 1, none⟩ (.int .i64 ((kk : Int) + 1))).setCell ⟨b, i * 5 + 2, none⟩ (.int .i64 ((kk : Int) + 1 + 1))) w1 →
    ((∃ v, w1.cell? ⟨b, i * 5 + 3, none⟩ = some v) ∧ w1.frozen? ⟨b, i * 5 + 3, none⟩ = false ∧ w1.cell? ⟨b, i * 5 + 4, none⟩ = some (.slice A' kids.len cap')) ∧
    OwnS (w1.setCell ⟨b, i * 5 + 3, none⟩ (.string (mtext (kk + 3)))) kids A' cap' K ∧
    ∀ w4, OwnS w4 (markF kids (kk + 4)) A' cap' K → Wrote K (w1.setCell ⟨b, i * 5 + 3, none⟩ (.string (mtext (kk + 3)))) w4 → MbQ w ns f b cap L' k0 (i + 1) w4
theorem MbQ.open_ {w wr : World} {ns : List Int} {f : Fr} {b cap k0 i : Nat} {L' : List Nat} {k n : Int} {s : ByteArray} {kids rest : Fr} (h : MbQ w ns f b cap L' k0 i wr) (hd : f.drop i = .cons k n s kids rest) (hi : i < f.len) (hcap : f.len ≤ cap) (hnd : (b :: L').Nodup)
    (hk : k0 + mbK f ≤ 1099511627776) : ∃ A' cap', MbOpen2 w ns f b cap L' k0 i (k0 + mbK (f.take i)) kids A' cap' wr := by
  obtain ⟨La, Lb, cs, rfl, hfront, hback, hblk, hsz, hwr⟩ := h
  have e1 : f.drop (i + 1) = rest := by
    obtain ⟨_, _, _, _, h⟩ := Fr.drop_cons i f hi
    rw [hd] at h
    injection h with _ _ _ _ h
    exact h.symm
  have e2 : ns.drop (i + 1) = (ns.drop i).tail := by rw [List.tail_drop]
  have hsp := mbK_take i f
  rw [hd] at hsp
  simp only [mbK] at hsp
  rw [hd] at hback
  generalize ns.drop i = nd at *
  cases nd with
  | nil => exact hback.elim
  | cons n0 nd =>
  obtain ⟨A', cap', L1, L2, rfl, h0, hfit, ⟨c0, c1, c2, c3, c4⟩, hown, hr⟩ := hback
  have hlen : (f.take i).len = i := Fr.len_take i f (by omega)
  have hlt := hblk.lt
  obtain ⟨hb0, hnd'⟩ := List.nodup_cons.1 hnd
  obtain ⟨hna, hnb, hab⟩ := List.nodup_append.1 hnd'
  obtain ⟨hn1', hn2', h12⟩ := List.nodup_append.1 hnb
  have hb1 : b ∉ La := fun h => hb0 (by simp [h])
  have hb2 : b ∉ L1 := fun h => hb0 (by simp [h])
  have hb3 : b ∉ L2 := fun h => hb0 (by simp [h])
  refine ⟨A', cap', ⟨⟨_, _, _, c0, c1, c2⟩, hlt, fun j => hblk.frozen j, L1, hn1', fun w1 hw1 => ?_⟩⟩
  generalize hkk : k0 + mbK (f.take i) = kk at *
  have q1 := (((hblk.set_ (i * 5) (.int .i64 (kk : Int))).set_ (i * 5 + 1) (.int .i64 ((kk : Int) + 1))).set_ (i * 5 + 2) (.int .i64 ((kk : Int) + 1 + 1))).below hw1 hlt
  have q3 := q1.set_ (i * 5 + 3) (.string (mtext (kk + 3)))
  have d2 : ∃ v, w1.cell? ⟨b, i * 5 + 3, none⟩ = some v := by
    rw [q1.cell]
    simp only [Array.getElem?_setIfInBounds]
    rw [if_neg (by omega), if_neg (by omega), if_neg (by omega), ← hblk.cell]
    exact ⟨_, c3⟩
  have d3 : w1.cell? ⟨b, i * 5 + 4, none⟩ = some (.slice A' kids.len cap') := by
    rw [q1.cell]
    simp only [Array.getElem?_setIfInBounds]
    rw [if_neg (by omega), if_neg (by omega), if_neg (by omega), ← hblk.cell]
    exact c4
  have d4 : w1.frozen? ⟨b, i * 5 + 3, none⟩ = false := q1.frozen _
  have far : ∀ x, x < wr.heap.size → x ≠ b → (w1.setCell ⟨b, i * 5 + 3, none⟩ (.string (mtext (kk + 3)))).heap[x]? = wr.heap[x]? := fun x hx hne => by
    rw [heap_setCell_other _ _ _ _ (show x ≠ b from hne), hw1.block x hx, heap_setCell_other _ _ _ _ (show x ≠ b from hne), heap_setCell_other _ _ _ _ (show x ≠ b from hne), heap_setCell_other _ _ _ _ (show x ≠ b from hne)]
  have hs3 : wr.heap.size ≤ (w1.setCell ⟨b, i * 5 + 3, none⟩ (.string (mtext (kk + 3)))).heap.size := by
    have := hw1.size; simpa [World.setCell] using this
  have hw3 : Wrote (b :: (La ++ (L1 ++ L2))) w (w1.setCell ⟨b, i * 5 + 3, none⟩ (.string (mtext (kk + 3)))) :=
    hwr.trans ⟨hw1.os, hw1.tape, hw1.output, hs3, fun x hx hn => far x hx fun e => hn (by simp [e])⟩
  generalize w1.setCell ⟨b, i * 5 + 3, none⟩ (.string (mtext (kk + 3))) = w3 at *
  have hla : ∀ x ∈ La, x < wr.heap.size := fun x hx => OwnB.lt _ _ b 0 La hfront x hx
  have hl2 : ∀ x ∈ L2, x < wr.heap.size := fun x hx => OwnB.lt _ _ b (i * 5 + 5) L2 hr x hx
  refine ⟨⟨d2, d4, d3⟩, hown.keep fun x hx => far x (hown.lt x hx) fun e => hb2 (e ▸ hx), fun w4 ho4 hw4 => ?_⟩
  have q4 := hw4.blk q3 hb2
  refine ⟨La ++ L1, L2, _, by simp, ?_, ?_, q4, by simpa using hsz, hw3.trans (hw4.more fun x hx => by simp [hx])⟩
  · rw [Fr.take_succ i f hd, mbF_app, mbN_app]
    rw [hkk]
    have hfl : (mbF (f.take i) k0).len = i := by rw [mbF_len, hlen]
    refine OwnB.snoc (show InI (kk : Int) from ⟨by omega, by omega⟩) ⟨⟨by omega, by omega⟩, ⟨by omega, by omega⟩, ?_⟩ ho4 (mbN (f.take i) k0) (mbF (f.take i) k0) b 0 La ?_ ?_ ?_ ?_ ?_ ?_
    · have := mtext_size (kk + 3); unfold maxLen; omega
    · refine OwnB.keep (mbN (f.take i) k0) (mbF (f.take i) k0) b 0 La hfront (fun j hj => ?_) fun x hx => ?_
      · rw [hfl] at hj
        rw [q4.cell, hblk.cell]
        simp only [Array.getElem?_setIfInBounds]
        rw [if_neg (by omega), if_neg (by omega), if_neg (by omega), if_neg (by omega)]
      · rw [hw4.block x (by have := hla x hx; omega) fun e => hab x hx x (by simp [e]) rfl]
        exact far x (hla x hx) fun e => hb1 (e ▸ hx)
    · rw [hfl, q4.cell]; simp [Array.getElem?_setIfInBounds]; omega
    · rw [hfl, q4.cell]; simp [Array.getElem?_setIfInBounds]; omega
    · rw [hfl, q4.cell]; simp [Array.getElem?_setIfInBounds]; omega
    · rw [hfl, q4.cell]; simp [Array.getElem?_setIfInBounds]; omega
    · rw [hfl, q4.cell, markF_len]
      simp only [Array.getElem?_setIfInBounds]
      rw [if_neg (by omega), if_neg (by omega), if_neg (by omega), if_neg (by omega), ← hblk.cell]
      rw [Nat.zero_add]; exact c4
  · rw [e1, e2, show (i + 1) * 5 = i * 5 + 5 by omega]
    refine OwnB.keep nd rest b (i * 5 + 5) L2 hr (fun j hj => ?_) fun x hx => ?_
    · rw [q4.cell, hblk.cell]
      simp only [Array.getElem?_setIfInBounds]
      rw [if_neg (by omega), if_neg (by omega), if_neg (by omega), if_neg (by omega)]
    · rw [hw4.block x (by have := hl2 x hx; omega) fun e => h12 x e x hx rfl]
      exact far x (hl2 x hx) fun e => hb3 (e ▸ hx)
end Go.Proofs.YtkefpickpjjllaaDoor

/- laws.markBindS with what it writes, laws.heldBindS: walked. Condition: the bindings are the call's own. -/
namespace Go.Proofs.YtkefpickpjjllaaDoor
open Go.RowKit

set_option maxRecDepth 100000 in
set_option maxHeartbeats 2000000 in
/-- laws.markBindS. -/
theorem markBW_any (ns : List Int) (f : Fr) (A : Option Addr) (cap k0 : Nat) (L : List Nat) (w : World) (ho : OwnBS w ns f A cap L) (hnd : L.Nodup) (hk : k0 + 4 * nodes f ≤ 1099511627776) (hk0 : 0 < k0) :
    Calls Tryd.prog 12 #[.slice A f.len cap, .int .i64 (k0 : Int)] w fun e w' => e = .returned (.int .i64 ((k0 + mbK f : Nat) : Int)) ∧ OwnBS w' (mbN f k0) (mbF f k0) A cap L ∧ Wrote L w w' := by
  obtain ⟨hlen, hcap, hmax, b, L', cs, rfl, rfl, hblk, hcs, hown⟩ := ho
  have hmk := mbK_le f
  have h0 : MbQ w ns f b cap L' k0 0 w := ⟨[], L', cs, rfl, by cases f <;> rfl, by simpa [Fr.drop] using hown, hblk, hcs, .refl _ _⟩
  have HST := Lib.hid h0
  have HK := Lib.hid hk
  have HND := Lib.hid hnd
  have HCAP := Lib.hid hcap
  have hl : f.len ≤ 1099511627776 := by have := len_le_nodes f; omega
  have HFIN : Hid (∀ wr, MbQ w ns f b cap L' k0 f.len wr → OwnBS wr (mbN f k0) (mbF f k0) (some ⟨b, 0, none⟩) cap (b :: L') ∧ Wrote (b :: L') w wr) := Lib.hid fun wr h => by
    obtain ⟨La, Lb, cs, rfl, hf, hb, hblk, hs, hw⟩ := h
    rw [Fr.take_len] at hf
    rw [Fr.drop_len] at hb
    have hb0 : Lb = [] := by
      generalize ns.drop f.len = nd at hb
      cases nd with
      | nil => exact hb
      | cons => exact hb.elim
    subst hb0
    rw [List.append_nil] at *
    exact ⟨⟨by rw [mbN_len, mbF_len], by rw [mbF_len]; exact hcap, hmax, b, La, cs, rfl, rfl, hblk, hs, hf⟩, hw⟩
  clear h0 hown hnd hblk hcs hlen
  unfold maxLen at *
  generalize hn : f.len = len at *
  have HN := Lib.hid hn
  clear hn
  go_enter Tryd.func12, Tryd.ntmps12
  go_wp2_with fail
  go_loopw [5, 1] (fun i k wr => ∃ (j kk : Nat), j ≤ len ∧ i = .int .i64 j ∧ k = .int .i64 kk ∧ kk = k0 + mbK (f.take j) ∧ MbQ w ns f b cap L' k0 j wr) (fun i _ _ => len - (intOf i).toNat)
  case atStart => exact ⟨0, k0, Nat.zero_le _, rfl, rfl, by cases f <;> rfl, HST.out⟩
  case round =>
    obtain ⟨j, kk, hj, rfl, rfl, hkk, hp⟩ := hrel
    by_cases hlt : j < len
    · obtain ⟨kn, nn, s, kids, hd⟩ := Fr.drop_cons j f (by rw [HN.out]; exact hlt)
      obtain ⟨A', cap', hopen⟩ := hp.open_ hd (by rw [HN.out]; exact hlt) (by rw [HN.out]; exact HCAP.out) HND.out (by have := HK.out; omega)
      rw [← hkk] at hopen
      obtain ⟨⟨v0, v1, v2, c0, c1, c2⟩, hbw, hfz, K, hKn, hgo⟩ := hopen
      have hsp := mbK_take j f
      rw [hd] at hsp
      simp only [mbK] at hsp
      have hms := mbK_split j f hd
      have hkb : kk + 4 + 3 * nodes kids ≤ 1099511627776 := by have := HK.out; omega
      have HKK : Hid (kk + 4 + 3 * nodes kids = k0 + mbK (f.take (j + 1))) := Lib.hid (by omega)
      have C2 : ∀ w1, OwnS w1 kids A' cap' K → Calls Tryd.prog 29 #[.slice A' kids.len cap', .int .i64 ((kk : Int) + 1 + 1 + 1 + 1)] w1 fun e w' => MarkedS w1 kids A' cap' K (kk + 4) e w' := fun w1 ho => by
        have h := markS_any kids A' cap' (kk + 4) K w1 ho hKn (by omega) (by omega)
        rwa [show ((kk + 4 : Nat) : Int) = (kk : Int) + 1 + 1 + 1 + 1 by omega] at h
      have C1 : ∀ w1, Calls Tryd.prog 30 #[.int .i64 ((kk : Int) + 1 + 1 + 1)] w1 fun e w' => e = .returned (.string (mtext (kk + 3))) ∧ Below w1.heap.size w1 w' := fun w1 => by
        have h := markText_any (kk + 3) w1 (by omega) (by omega)
        rwa [show ((kk + 3 : Nat) : Int) = (kk : Int) + 1 + 1 + 1 by omega] at h
      have hf0 := hfz (j * 5)
      have hf1 := hfz (j * 5 + 1)
      have hf2 := hfz (j * 5 + 2)
      have HGO := Lib.hid hgo
      have H1 := Lib.hid C1
      have H2 := Lib.hid C2
      clear hp hfz hgo C1 C2 hKn hkk hsp hms hd
      go_wp2_with fail
      refine (H1.out _).mono ?_
      rintro e w1 ⟨rfl, hb1⟩
      obtain ⟨⟨⟨v3, d2⟩, d4, d3⟩, how, hgo⟩ := HGO.out w1 (hb1.mono (by simp [World.setCell]))
      have HO := Lib.hid how
      have HG2 := Lib.hid hgo
      clear hb1 how hgo HGO c0 c1 c2 hf0 hf1 hf2
      go_wp2_with fail
      refine (H2.out _ HO.out).mono ?_
      rintro e w4 ⟨rfl, ho4, hw4⟩
      have hm := HG2.out w4 ho4 hw4
      have HM := Lib.hid hm
      clear hm ho4 hw4 HG2 HO
      go_wp2_with fail
      go_roundw
      case rel => exact ⟨j + 1, kk + 4 + 3 * nodes kids, by omega, by go_num, rfl, HKK.out, HM.out⟩
      case measure => simp [intOf]; omega
    · obtain rfl : j = len := by omega
      have HE : Hid (kk = k0 + mbK f) := Lib.hid (by rw [hkk, ← HN.out, Fr.take_len])
      have HF := Lib.hid (HFIN.out wr hp)
      clear hp hkk
      go_wp2_with fail
      go_ret
      rw [← HE.out]
      exact ⟨rfl, HF.out⟩

set_option maxRecDepth 100000 in
set_option maxHeartbeats 1000000 in
/-- laws.markBindS of an empty row. -/
theorem markB0_any (A : Option Addr) (cap k0 : Nat) (w : World) :
    Calls Tryd.prog 12 #[.slice A 0 cap, .int .i64 (k0 : Int)] w fun e w' => e = .returned (.int .i64 (k0 : Int)) ∧ w' = w := by
  go_enter Tryd.func12, Tryd.ntmps12
  go_wp2_with fail
  go_loop [5, 1] (fun i k => i = .int .i64 0 ∧ k = .int .i64 (k0 : Int)) (fun _ _ => 0)
  case atStart => exact ⟨rfl, rfl⟩
  case round =>
    obtain ⟨rfl, rfl⟩ := hrel
    go_wp2_with fail
    go_ret
    exact ⟨rfl, rfl⟩

set_option maxRecDepth 100000 in
set_option maxHeartbeats 2000000 in
/-- laws.heldBindS. -/
theorem heldBW_any (f : Fr) (A : Option Addr) (cap k0 lo hi : Nat) (w : World) (hk : BdS w lo hi (mbN f k0) (mbF f k0) A cap) (hh : hi ≤ w.heap.size) (hb : k0 + 4 * nodes f ≤ 1099511627776) (hk0 : 0 < k0) :
    Calls Tryd.prog 13 #[.slice A f.len cap, .int .i64 (k0 : Int)] w fun e w' => e = .returned (.int .i64 ((k0 + mbK f : Nat) : Int)) ∧ Below w.heap.size w w' := by
  have hmk := mbK_le f
  have HK := Lib.hid hk
  have HHI := Lib.hid hh
  have HB := Lib.hid hb
  have hl : f.len ≤ 1099511627776 := by have := len_le_nodes f; omega
  have HML := Lib.hid (mbF_len f k0)
  have hm := hk.2.2.1
  have hcl := hk.2.1
  rw [mbF_len] at hcl
  unfold maxLen at hm
  clear hk hh hb
  generalize hn : f.len = len at *
  have HN := Lib.hid hn
  clear hn
  go_enter Tryd.func13, Tryd.ntmps13
  go_wp2_with fail
  go_loopw [5, 1] (fun i k wr => ∃ (j kk : Nat), j ≤ len ∧ i = .int .i64 j ∧ k = .int .i64 kk ∧ kk = k0 + mbK (f.take j) ∧ Below w.heap.size w wr) (fun i _ _ => len - (intOf i).toNat)
  case atStart => exact ⟨0, k0, Nat.zero_le _, rfl, rfl, by cases f <;> rfl, Below.refl _ _⟩
  case round =>
    obtain ⟨j, kk, hj, rfl, rfl, hkk, hbw⟩ := hrel
    by_cases hlt : j < len
    · obtain ⟨kn, nn, s, kids, hd⟩ := Fr.drop_cons j f (by rw [HN.out]; exact hlt)
      have hdm : (mbF f k0).drop j = .cons ((kk : Int) + 1) ((kk : Int) + 1 + 1) (mtext (kk + 3)) (markF kids (kk + 4)) (mbF (f.drop (j + 1)) (kk + (4 + 3 * nodes kids))) := by
        rw [mbF_drop, hd, ← hkk]; rfl
      obtain ⟨b, o, rfl, hlb, hbb, hrow⟩ := HK.out.2.2.2 (by rw [HML.out]; omega)
      obtain ⟨_, _, A', cap', c0, c1, c2, c3, c4, hkid⟩ := BdAt.elem j _ _ b o hrow hdm
      rw [mbN_getD j f k0 (by rw [HN.out]; exact hlt), ← hkk] at c0
      rw [markF_len] at c4
      have hlo : (⟨b, o, none⟩ : Addr).block < w.heap.size := Nat.lt_of_lt_of_le hbb HHI.out
      have k0' := (hbw.cell (p := ⟨b, o + j * 5, none⟩) hlo).trans c0
      have k1' := (hbw.cell (p := ⟨b, o + j * 5 + 1, none⟩) hlo).trans c1
      have k2' := (hbw.cell (p := ⟨b, o + j * 5 + 2, none⟩) hlo).trans c2
      have k3' := (hbw.cell (p := ⟨b, o + j * 5 + 3, none⟩) hlo).trans c3
      have k4' := (hbw.cell (p := ⟨b, o + j * 5 + 4, none⟩) hlo).trans c4
      have hsp := mbK_take j f
      rw [hd] at hsp
      simp only [mbK] at hsp
      have hms := mbK_split j f hd
      have hkb : kk + 4 + 3 * nodes kids ≤ 1099511627776 := by have := HB.out; omega
      have HKK : Hid (kk + 4 + 3 * nodes kids = k0 + mbK (f.take (j + 1))) := Lib.hid (by omega)
      have C1 : ∀ w1, Calls Tryd.prog 30 #[.int .i64 ((kk : Int) + 1 + 1 + 1)] w1 fun e w' => e = .returned (.string (mtext (kk + 3))) ∧ Below w1.heap.size w1 w' := fun w1 => by
        have h := markText_any (kk + 3) w1 (by omega) (by omega)
        rwa [show ((kk + 3 : Nat) : Int) = (kk : Int) + 1 + 1 + 1 by omega] at h
      have C2 : ∀ w1, Below wr.heap.size wr w1 → Calls Tryd.prog 31 #[.slice A' kids.len cap', .int .i64 ((kk : Int) + 1 + 1 + 1 + 1)] w1 fun e w' => e = .returned (.int .i64 ((kk + 4 + 3 * nodes kids : Nat) : Int)) ∧ Below w1.heap.size w1 w' := fun w1 hb1 => by
        have hb2 := hbw.trans (hb1.mono hbw.size)
        have h := heldS_any kids A' cap' (kk + 4) lo hi w1 (hkid.below hb2 HHI.out) (Nat.le_trans HHI.out hb2.size) (by omega) (by omega)
        rwa [show ((kk + 4 : Nat) : Int) = (kk : Int) + 1 + 1 + 1 + 1 by omega] at h
      have t0 : ((kk : Int) != (kk : Int)) = false := by simp
      have t1 : ((kk : Int) + 1 != (kk : Int) + 1) = false := by simp
      have t1' : ((kk : Int) + 1 + 1 != (kk : Int) + 1 + 1) = false := by simp
      have t2 : ((mtext (kk + 3)).toList != (mtext (kk + 3)).toList) = false := by simp
      have t2' : (!((mtext (kk + 3)).toList == (mtext (kk + 3)).toList)) = false := by simp
      have t3 : ¬ (((kk + 4 + 3 * nodes kids : Nat) : Int) < 0) := by omega
      have hlo' : b < wr.heap.size := Nat.lt_of_lt_of_le hlo hbw.size
      have H1 := Lib.hid C1
      have H2 := Lib.hid C2
      have HBW := Lib.hid hbw
      generalize mtext (kk + 3) = mt at *
      clear C1 C2 hbw hkk hsp hms hd hdm c0 c1 c2 c3 c4 hkid hrow
      go_wp2_with fail
      go_region_held3 (fun w' => w'.cell? ⟨b, o + j * 5 + 3, none⟩ = some (.string mt))
        (first | exact y2 | exact k3')
        (first
          | (go_at_call 30
             refine (H1.out _).mono ?_
             rintro e w2 ⟨rfl, hb2⟩
             have hd2 : Below wr.heap.size wr w2 := (Below.refl wr.heap.size wr).drew.trans hb2
             have y2 := (hd2.cell (p := ⟨b, o + j * 5 + 3, none⟩) hlo').trans k3'
             have y3 := (hd2.cell (p := ⟨b, o + j * 5 + 4, none⟩) hlo').trans k4'
             have HB2 := Lib.hid hd2
             clear hb2 hd2))
      go_wp2_with fail
      refine (H2.out _ HB2.out).mono ?_
      rintro e w3 ⟨rfl, hb3⟩
      have HB3 : Hid (Below w.heap.size w w3) := Lib.hid ((HBW.out.trans (HB2.out.mono HBW.out.size)).trans (hb3.mono (Nat.le_trans HBW.out.size HB2.out.size)))
      clear hb3
      go_wp2_with fail
      go_roundw
      case rel => exact ⟨j + 1, kk + 4 + 3 * nodes kids, by omega, by go_num, rfl, HKK.out, HB3.out⟩
      case measure => simp [intOf]; omega
    · obtain rfl : j = len := by omega
      have HE : Hid (k0 + mbK f = kk) := Lib.hid (by rw [hkk, ← HN.out, Fr.take_len])
      have HBW := Lib.hid hbw
      clear hbw hkk
      go_wp2_with fail
      go_ret
      rw [HE.out]
      exact ⟨rfl, HBW.out⟩
end Go.Proofs.YtkefpickpjjllaaDoor
