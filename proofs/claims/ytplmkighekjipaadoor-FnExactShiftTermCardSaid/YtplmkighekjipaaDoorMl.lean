/- The states of the laws whose answer is a term and a bool. No condition. -/
import Derived.Test.YtplmkighekjipaaDoorProg
import Derived.Test.YtplmkighekjipaaDoorHeld
import Derived.Test.YtplmkighekjipaaDoorLawTV0
import Derived.Test.YtplmkighekjipaaDoorTb
namespace Go.Proofs.YtplmkighekjipaaDoor
open Go.RowKit

section
variable (w : World) (H H6 H9 H10 B b1 hw : Nat) (cs3 : Array Value) (k n gk gn : Int) (s gs : ByteArray) (f kids gkids : Fr) (A0 A1 Aw Ag : Option Addr) (c0 c1 cw cg : Nat) (L0 L1 Lg : List Nat)
/-- How the blocks lie to each other. -/
def MlOrd : Prop := (w.heap.size ≤ H ∧ H < B) ∧ H6 < B ∧ (w.heap.size ≤ B ∧ hw ≤ B) ∧ (B ≤ b1 ∧ b1 ≤ H9) ∧ H9 < H10 ∧ (∀ x ∈ L0, B ≤ x ∧ x < b1) ∧ (∀ x ∈ L1, b1 ≤ x ∧ x < H9) ∧ (∀ x ∈ Lg, H9 < x ∧ x < H10) ∧ L0.Nodup ∧ L1.Nodup ∧ Lg.Nodup
/-- Behind the call of the model's function: the tail's box, the box of the model's answer, the model's answer. -/
def MlA (wk : World) : Prop := Blk wk H 24 cs3 ∧ Blk wk H6 28 #[.int .i64 gk, .int .i64 gn, .string gs, .slice Aw gkids.len cw] ∧ KidsAt wk 0 hw gkids Aw cw ∧ hw ≤ wk.heap.size ∧ Below w.heap.size w wk
/-- What stays till the end: .. and the box of the program's answer. -/
def MlEnd (wk : World) : Prop := MlA w H H6 hw cs3 gk gn gs gkids Aw cw wk ∧ Blk wk H10 28 #[.int .i64 gk, .int .i64 gn, .string gs, .slice Ag gkids.len cg]
/-- Behind the call of impl's function. -/
def Ml1 (wk : World) : Prop := MlEnd w H H6 H10 hw cs3 gk gn gs gkids Aw Ag cw cg wk ∧ Blk wk H9 28 #[.int .i64 k, .int .i64 n, .string s, .slice A1 kids.len c1] ∧ OwnS wk f A0 c0 L0 ∧ OwnS wk kids A1 c1 L1 ∧ OwnS wk gkids Ag cg Lg
/-- Behind the marks of the list. -/
def Ml2 (wk : World) : Prop := MlEnd w H H6 H10 hw cs3 gk gn gs gkids Aw Ag cw cg wk ∧ Blk wk H9 28 #[.int .i64 k, .int .i64 n, .string s, .slice A1 kids.len c1] ∧ OwnS wk kids A1 c1 L1 ∧ OwnS wk gkids Ag cg Lg
/-- Behind the marks of the tail. -/
def Ml3 (wk : World) : Prop := MlEnd w H H6 H10 hw cs3 gk gn gs gkids Aw Ag cw cg wk ∧ OwnS wk gkids Ag cg Lg
/-- Behind the marks of the answer. -/
def Ml4 (hg : Nat) (wk : World) : Prop := MlEnd w H H6 H10 hw cs3 gk gn gs gkids Aw Ag cw cg wk ∧ KidsAt wk 0 hg (markF gkids 1) Ag cg ∧ hg ≤ wk.heap.size
end
section
variable {w : World} {H H6 H9 H10 B b1 hw hg : Nat} {cs3 : Array Value} {k n gk gn : Int} {s gs : ByteArray} {f kids gkids : Fr} {A0 A1 Aw Ag : Option Addr} {c0 c1 cw cg : Nat} {L0 L1 Lg : List Nat} {wk wl : World}
theorem MlA.below (h : MlA w H H6 hw cs3 gk gn gs gkids Aw cw wk) (hb : Below wk.heap.size wk wl) : MlA w H H6 hw cs3 gk gn gs gkids Aw cw wl := by
  obtain ⟨h1, h2, h4, h5, h6⟩ := h
  exact ⟨h1.below hb h1.lt, h2.below hb h2.lt, h4.below hb h5, Nat.le_trans h5 hb.size, h6.trans (hb.mono h6.size)⟩
theorem MlEnd.below (h : MlEnd w H H6 H10 hw cs3 gk gn gs gkids Aw Ag cw cg wk) (hb : Below wk.heap.size wk wl) : MlEnd w H H6 H10 hw cs3 gk gn gs gkids Aw Ag cw cg wl := ⟨h.1.below hb, h.2.below hb h.2.lt⟩
theorem MlEnd.wrote {L : List Nat} (h : MlEnd w H H6 H10 hw cs3 gk gn gs gkids Aw Ag cw cg wk) (hb : Wrote L wk wl) (ho : (w.heap.size ≤ H ∧ H < B) ∧ H6 < B ∧ (w.heap.size ≤ B ∧ hw ≤ B)) (hL : ∀ x ∈ L, B ≤ x ∧ x ≠ H10) : MlEnd w H H6 H10 hw cs3 gk gn gs gkids Aw Ag cw cg wl := by
  obtain ⟨⟨h1, h2, h4, h5, h6⟩, h3⟩ := h
  refine ⟨⟨hb.blk h1 fun e => ?_, hb.blk h2 fun e => ?_, h4.wrote hb h5 fun x e => .inr ?_, Nat.le_trans h5 hb.size, h6.trans (hb.below h6.size fun x e => ?_)⟩, hb.blk h3 fun e => (hL _ e).2 rfl⟩
  · have := (hL _ e).1; omega
  · have := (hL _ e).1; omega
  · have := (hL _ e).1; omega
  · have := (hL _ e).1; omega
theorem Ml1.below (h : Ml1 w H H6 H9 H10 hw cs3 k n gk gn s gs f kids gkids A0 A1 Aw Ag c0 c1 cw cg L0 L1 Lg wk) (hb : Below wk.heap.size wk wl) : Ml1 w H H6 H9 H10 hw cs3 k n gk gn s gs f kids gkids A0 A1 Aw Ag c0 c1 cw cg L0 L1 Lg wl := by
  obtain ⟨h1, h2, h3, h4, h5⟩ := h
  exact ⟨h1.below hb, h2.below hb h2.lt, h3.below hb h3.lt, h4.below hb h4.lt, h5.below hb h5.lt⟩
theorem Ml1.mark (h : Ml1 w H H6 H9 H10 hw cs3 k n gk gn s gs f kids gkids A0 A1 Aw Ag c0 c1 cw cg L0 L1 Lg wk) (ho : MlOrd w H H6 H9 H10 B b1 hw L0 L1 Lg) (hb : Wrote L0 wk wl) : Ml2 w H H6 H9 H10 hw cs3 k n gk gn s gs kids gkids A1 Aw Ag c1 cw cg L1 Lg wl := by
  obtain ⟨h1, h2, h3, h4, h5⟩ := h
  obtain ⟨o1, o2, o3, o4, o5, o7, o8, o9, _⟩ := ho
  have hb1 : ∀ x ∈ L0, x < H9 := fun x e => by have := (o7 x e).2; omega
  exact ⟨h1.wrote hb ⟨o1, o2, o3⟩ fun x e => ⟨(o7 x e).1, by have := hb1 x e; omega⟩, hb.blk h2 fun e => by have := hb1 _ e; omega, h4.wrote hb fun x e e' => by have := (o8 x e).1; have := (o7 x e').2; omega, h5.wrote hb fun x e e' => by have := (o9 x e).1; have := hb1 x e'; omega⟩
theorem Ml2.below (h : Ml2 w H H6 H9 H10 hw cs3 k n gk gn s gs kids gkids A1 Aw Ag c1 cw cg L1 Lg wk) (hb : Below wk.heap.size wk wl) : Ml2 w H H6 H9 H10 hw cs3 k n gk gn s gs kids gkids A1 Aw Ag c1 cw cg L1 Lg wl := by
  obtain ⟨h1, h2, h4, h5⟩ := h
  exact ⟨h1.below hb, h2.below hb h2.lt, h4.below hb h4.lt, h5.below hb h5.lt⟩
theorem Ml2.mark (h : Ml2 w H H6 H9 H10 hw cs3 k n gk gn s gs kids gkids A1 Aw Ag c1 cw cg L1 Lg wk) (ho : MlOrd w H H6 H9 H10 B b1 hw L0 L1 Lg) (hb : Wrote L1 wk wl) : Ml3 w H H6 H10 hw cs3 gk gn gs gkids Aw Ag cw cg Lg wl := by
  obtain ⟨h1, h2, h4, h5⟩ := h
  obtain ⟨o1, o2, o3, o4, o5, o7, o8, o9, _⟩ := ho
  exact ⟨h1.wrote hb ⟨o1, o2, o3⟩ fun x e => ⟨by have := (o8 x e).1; omega, by have := (o8 x e).2; omega⟩, h5.wrote hb fun x e e' => by have := (o9 x e).1; have := (o8 x e').2; omega⟩
theorem Ml3.below (h : Ml3 w H H6 H10 hw cs3 gk gn gs gkids Aw Ag cw cg Lg wk) (hb : Below wk.heap.size wk wl) : Ml3 w H H6 H10 hw cs3 gk gn gs gkids Aw Ag cw cg Lg wl := ⟨h.1.below hb, h.2.below hb h.2.lt⟩
theorem Ml3.mark (h : Ml3 w H H6 H10 hw cs3 gk gn gs gkids Aw Ag cw cg Lg wk) (ho : MlOrd w H H6 H9 H10 B b1 hw L0 L1 Lg) (hb : Wrote Lg wk wl) (hm : OwnS wl (markF gkids 1) Ag cg Lg) : Ml4 w H H6 H10 hw cs3 gk gn gs gkids Aw Ag cw cg wl.heap.size wl := by
  obtain ⟨o1, o2, o3, o4, o5, o7, o8, o9, _⟩ := ho
  exact ⟨h.1.wrote hb ⟨o1, o2, o3⟩ fun x e => ⟨by have := (o9 x e).1; omega, by have := (o9 x e).2; omega⟩, hm.kids fun x hx => ⟨Nat.zero_le _, hm.lt x hx⟩, Nat.le_refl _⟩
theorem Ml4.below (h : Ml4 w H H6 H10 hw cs3 gk gn gs gkids Aw Ag cw cg hg wk) (hb : Below wk.heap.size wk wl) : Ml4 w H H6 H10 hw cs3 gk gn gs gkids Aw Ag cw cg hg wl := ⟨h.1.below hb, h.2.1.below hb h.2.2, Nat.le_trans h.2.2 hb.size⟩
/-- The box of the model's answer was made before the call, and is filled behind it. -/
theorem MlA.fill {lo : Nat} (hq : Blk wk H 24 cs3) (hC : Blk wk H6 28 #[.int .i64 0, .int .i64 0, .string ⟨#[]⟩, .slice none 0 0]) (hk : KidsAt wk lo wk.heap.size gkids Aw cw) (hlo : H6 < lo) (hne : H ≠ H6) (hb : Below w.heap.size w wk) (h6 : w.heap.size ≤ H6) :
    MlA w H H6 wk.heap.size cs3 gk gn gs gkids Aw cw ((((wk.setCell ⟨H6, 0, none⟩ (.int .i64 gk)).setCell ⟨H6, 1, none⟩ (.int .i64 gn)).setCell ⟨H6, 2, none⟩ (.string gs)).setCell ⟨H6, 3, none⟩ (.slice Aw gkids.len cw)) := by
  refine ⟨(((hq.far (p := ⟨H6, 0, none⟩) hne _).far (p := ⟨H6, 1, none⟩) hne _).far (p := ⟨H6, 2, none⟩) hne _).far (p := ⟨H6, 3, none⟩) hne _, (((hC.set_ 0 _).set_ 1 _).set_ 2 _).set_ 3 _, ?_, by simp [World.setCell], (((hb.setCell h6 _).setCell h6 _).setCell h6 _).setCell h6 _⟩
  exact (hk.keep fun p h1 h2 => far4 (by omega) _ _ _ _).more (Nat.zero_le _) (Nat.le_refl _)
/-- The box of the model's answer is made behind the call. -/
theorem MlA.late {lo : Nat} (hq : Blk wk H 24 cs3) (hk : KidsAt wk lo wk.heap.size gkids Aw cw) (hb : Below w.heap.size w wk) :
    MlA w H wk.heap.size wk.heap.size cs3 gk gn gs gkids Aw cw (wk.alloc (.cells #[.int .i64 gk, .int .i64 gn, .string gs, .slice Aw gkids.len cw] 28)) :=
  ⟨hq.alloc _, Blk.new wk _ _, (hk.below ((Below.refl _ _).alloc (Nat.le_refl _) _) (Nat.le_refl _)).more (Nat.zero_le _) (Nat.le_refl _), by simp, hb.alloc hb.size _⟩
theorem own_kids {f : Fr} {A : Option Addr} {c : Nat} {L : List Nat} (h : OwnS wk f A c L) : KidsAt wk 0 wk.heap.size f A c := h.kids fun x hx => ⟨Nat.zero_le _, h.lt x hx⟩
end
end Go.Proofs.YtplmkighekjipaaDoor
