/- The states of the laws whose answer is a term and a bool. No condition. -/
import Derived.Test.YtkefpickpjjllaaDoorProg
import Derived.Test.YtkefpickpjjllaaDoorZmUT51
import Derived.Test.YtkefpickpjjllaaDoorLawTV0
import Derived.Test.YtkefpickpjjllaaDoorTb
import Derived.Test.YtkefpickpjjllaaDoorZmUT50
import Derived.Deep.RegionHeld3
namespace Go.Proofs.YtkefpickpjjllaaDoor
open Go.RowKit

section
variable (w : World) (H H6 H9 H10 B b1 hw : Nat) (cs3 : Array Value) (k n gk gn : Int) (s gs : ByteArray) (f kids gkids : Fr) (A0 A1 Aw Ag : Option Addr) (c0 c1 cw cg : Nat) (L0 L1 Lg : List Nat)
/-- How the blocks lie to each other. -/
def MlOrd : Prop := (w.heap.size ≤ H ∧ H < B) ∧ H6 < B ∧ (w.heap.size ≤ B ∧ hw ≤ B) ∧ (B ≤ b1 ∧ b1 ≤ H9) ∧ H9 < H10 ∧ (∀ x ∈ L0, B ≤ x ∧ x < b1) ∧ (∀ x ∈ L1, b1 ≤ x ∧ x < H9) ∧ (∀ x ∈ Lg, H9 < x ∧ x < H10) ∧ L0.Nodup ∧ L1.Nodup ∧ Lg.Nodup
/-- Behind the call of the model's function: the tail's box, the box of the model's answer, the model's answer. -/
def MlA (wk : World) : Prop := Blk wk H 24 cs3 ∧ Blk wk H6 31 #[.int .i64 gk, .int .i64 gn, .string gs, .slice Aw gkids.len cw] ∧ KidsAt wk 0 hw gkids Aw cw ∧ hw ≤ wk.heap.size ∧ Below w.heap.size w wk
/-- What stays till the end: .. and the box of the program's answer. -/
def MlEnd (wk : World) : Prop := MlA w H H6 hw cs3 gk gn gs gkids Aw cw wk ∧ Blk wk H10 31 #[.int .i64 gk, .int .i64 gn, .string gs, .slice Ag gkids.len cg]
/-- Behind the call of impl's function. -/
def Ml1 (wk : World) : Prop := MlEnd w H H6 H10 hw cs3 gk gn gs gkids Aw Ag cw cg wk ∧ Blk wk H9 31 #[.int .i64 k, .int .i64 n, .string s, .slice A1 kids.len c1] ∧ OwnS wk f A0 c0 L0 ∧ OwnS wk kids A1 c1 L1 ∧ OwnS wk gkids Ag cg Lg
/-- Behind the marks of the list. -/
def Ml2 (wk : World) : Prop := MlEnd w H H6 H10 hw cs3 gk gn gs gkids Aw Ag cw cg wk ∧ Blk wk H9 31 #[.int .i64 k, .int .i64 n, .string s, .slice A1 kids.len c1] ∧ OwnS wk kids A1 c1 L1 ∧ OwnS wk gkids Ag cg Lg
/-- Behind the marks of the tail. -/
def Ml3 (wk : World) : Prop := MlEnd w H H6 H10 hw cs3 gk gn gs gkids Aw Ag cw cg wk ∧ OwnS wk gkids Ag cg Lg
/-- Behind the marks of the answer. -/
def Ml4 (hg : Nat) (wk : World) : Prop := MlEnd w H H6 H10 hw cs3 gk gn gs gkids Aw Ag cw cg wk ∧ KidsAt wk 0 hg (markF gkids 1) Ag cg ∧ hg ≤ wk.heap.size
end
section
variable {w : World} {H H6 H9 H10 B b1 hw hg : Nat} {cs3 : Array Value} {k n gk gn : Int} {s gs : ByteArray} {f kids gkids : Fr} {A0 A1 Aw Ag : Option Addr} {c0 c1 cw cg : Nat} {L0 L1 Lg : List Nat} {wk wl : World}
theorem MlA.below (h : MlA w H H6 hw cs3 gk gn gs gkids Aw cw wk) (hb : Below wk.heap.size wk wl) : MlA w H H6 hw cs3 gk gn gs gkids Aw cw wl := by
  obtain ⟨h1, h2, h4, h5, h6⟩ := h
  exact ⟨h1.below hb h1.lt, h2.below hb h2.lt, h4.below hb h5, Nat.le_trans h5 hb.size, h6.trans (hb.mono h6.size)⟩
theorem MlEnd.below (h : MlEnd w H H6 H10 hw cs3 gk gn gs gkids Aw Ag cw cg wk) (hb : Below wk.heap.size wk wl) : MlEnd w H H6 H10 hw cs3 gk gn gs gkids Aw Ag cw cg wl := ⟨h.1.below hb, h.2.below hb h.2.lt⟩
theorem MlEnd.wrote {L : List Nat} (h : MlEnd w H H6 H10 hw cs3 gk gn gs gkids Aw Ag cw cg wk) (hb : Wrote L wk wl) (ho : (w.heap.size ≤ H ∧ H < B) ∧ H6 < B ∧ (w.heap.size ≤ B ∧ hw ≤ B)) (hL : ∀ x ∈ L, B ≤ x ∧ x ≠ H10) : MlEnd w H H6 H10 hw cs3 gk gn gs gkids Aw Ag cw cg wl := by
  obtain ⟨⟨h1, h2, h4, h5, h6⟩, h3⟩ := h
  refine ⟨⟨hb.blk h1 fun e => ?_, hb.blk h2 fun e => ?_, h4.wrote hb h5 fun x e => .inr ?_, Nat.le_trans h5 hb.size, h6.trans (hb.below h6.size fun x e => ?_)⟩, hb.blk h3 fun e => (hL _ e).2 rfl⟩
  · have := (hL _ e).1; omega
  · have := (hL _ e).1; omega
  · have := (hL _ e).1; omega
  · have := (hL _ e).1; omega
theorem Ml1.below (h : Ml1 w H H6 H9 H10 hw cs3 k n gk gn s gs f kids gkids A0 A1 Aw Ag c0 c1 cw cg L0 L1 Lg wk) (hb : Below wk.heap.size wk wl) : Ml1 w H H6 H9 H10 hw cs3 k n gk gn s gs f kids gkids A0 A1 Aw Ag c0 c1 cw cg L0 L1 Lg wl := by
  obtain ⟨h1, h2, h3, h4, h5⟩ := h
  exact ⟨h1.below hb, h2.below hb h2.lt, h3.below hb h3.lt, h4.below hb h4.lt, h5.below hb h5.lt⟩
theorem Ml1.mark (h : Ml1 w H H6 H9 H10 hw cs3 k n gk gn s gs f kids gkids A0 A1 Aw Ag c0 c1 cw cg L0 L1 Lg wk) (ho : MlOrd w H H6 H9 H10 B b1 hw L0 L1 Lg) (hb : Wrote L0 wk wl) : Ml2 w H H6 H9 H10 hw cs3 k n gk gn s gs kids gkids A1 Aw Ag c1 cw cg L1 Lg wl := by
  obtain ⟨h1, h2, h3, h4, h5⟩ := h
  obtain ⟨o1, o2, o3, o4, o5, o7, o8, o9, _⟩ := ho
  have hb1 : ∀ x ∈ L0, x < H9 := fun x e => by have := (o7 x e).2; omega
  exact ⟨h1.wrote hb ⟨o1, o2, o3⟩ fun x e => ⟨(o7 x e).1, by have := hb1 x e; omega⟩, hb.blk h2 fun e => by have := hb1 _ e; omega, h4.wrote hb fun x e e' => by have := (o8 x e).1; have := (o7 x e').2; omega, h5.wrote hb fun x e e' => by have := (o9 x e).1; have := hb1 x e'; omega⟩
theorem Ml2.below (h : Ml2 w H H6 H9 H10 hw cs3 k n gk gn s gs kids gkids A1 Aw Ag c1 cw cg L1 Lg wk) (hb : Below wk.heap.size wk wl) : Ml2 w H H6 H9 H10 hw cs3 k n gk gn s gs kids gkids A1 Aw Ag c1 cw cg L1 Lg wl := by
  obtain ⟨h1, h2, h4, h5⟩ := h
  exact ⟨h1.below hb, h2.below hb h2.lt, h4.below hb h4.lt, h5.below hb h5.lt⟩
theorem Ml2.mark (h : Ml2 w H H6 H9 H10 hw cs3 k n gk gn s gs kids gkids A1 Aw Ag c1 cw cg L1 Lg wk) (ho : MlOrd w H H6 H9 H10 B b1 hw L0 L1 Lg) (hb : Wrote L1 wk wl) : Ml3 w H H6 H10 hw cs3 gk gn gs gkids Aw Ag cw cg Lg wl := by
  obtain ⟨h1, h2, h4, h5⟩ := h
  obtain ⟨o1, o2, o3, o4, o5, o7, o8, o9, _⟩ := ho
  exact ⟨h1.wrote hb ⟨o1, o2, o3⟩ fun x e => ⟨by have := (o8 x e).1; omega, by have := (o8 x e).2; omega⟩, h5.wrote hb fun x e e' => by have := (o9 x e).1; have := (o8 x e').2; omega⟩
theorem Ml3.below (h : Ml3 w H H6 H10 hw cs3 gk gn gs gkids Aw Ag cw cg Lg wk) (hb : Below wk.heap.size wk wl) : Ml3 w H H6 H10 hw cs3 gk gn gs gkids Aw Ag cw cg Lg wl := ⟨h.1.below hb, h.2.below hb h.2.lt⟩
theorem Ml3.mark (h : Ml3 w H H6 H10 hw cs3 gk gn gs gkids Aw Ag cw cg Lg wk) (ho : MlOrd w H H6 H9 H10 B b1 hw L0 L1 Lg) (hb : Wrote Lg wk wl) (hm : OwnS wl (markF gkids 1) Ag cg Lg) : Ml4 w H H6 H10 hw cs3 gk gn gs gkids Aw Ag cw cg wl.heap.size wl := by
  obtain ⟨o1, o2, o3, o4, o5, o7, o8, o9, _⟩ := ho
  exact ⟨h.1.wrote hb ⟨o1, o2, o3⟩ fun x e => ⟨by have := (o9 x e).1; omega, by have := (o9 x e).2; omega⟩, hm.kids fun x hx => ⟨Nat.zero_le _, hm.lt x hx⟩, Nat.le_refl _⟩
theorem Ml4.below (h : Ml4 w H H6 H10 hw cs3 gk gn gs gkids Aw Ag cw cg hg wk) (hb : Below wk.heap.size wk wl) : Ml4 w H H6 H10 hw cs3 gk gn gs gkids Aw Ag cw cg hg wl := ⟨h.1.below hb, h.2.1.below hb h.2.2, Nat.le_trans h.2.2 hb.size⟩
/-- The box of the model's answer was made before the call, and is filled behind it. -/
theorem MlA.fill {lo : Nat} (hq : Blk wk H 24 cs3) (hC : Blk wk H6 31 #[.int .i64 0, .int .i64 0, .string ⟨#[]⟩, .slice none 0 0]) (hk : KidsAt wk lo wk.heap.size gkids Aw cw) (hlo : H6 < lo) (hne : H ≠ H6) (hb : Below w.heap.size w wk) (h6 : w.heap.size ≤ H6) :
    MlA w H H6 wk.heap.size cs3 gk gn gs gkids Aw cw ((((wk.setCell ⟨H6, 0, none⟩ (.int .i64 gk)).setCell ⟨H6, 1, none⟩ (.int .i64 gn)).setCell ⟨H6, 2, none⟩ (.string gs)).setCell ⟨H6, 3, none⟩ (.slice Aw gkids.len cw)) := by
  refine ⟨(((hq.far (p := ⟨H6, 0, none⟩) hne _).far (p := ⟨H6, 1, none⟩) hne _).far (p := ⟨H6, 2, none⟩) hne _).far (p := ⟨H6, 3, none⟩) hne _, (((hC.set_ 0 _).set_ 1 _).set_ 2 _).set_ 3 _, ?_, by simp [World.setCell], (((hb.setCell h6 _).setCell h6 _).setCell h6 _).setCell h6 _⟩
  exact (hk.keep fun p h1 h2 => far4 (by omega) _ _ _ _).more (Nat.zero_le _) (Nat.le_refl _)
/-- The box of the model's answer is made behind the call. -/
theorem MlA.late {lo : Nat} (hq : Blk wk H 24 cs3) (hk : KidsAt wk lo wk.heap.size gkids Aw cw) (hb : Below w.heap.size w wk) :
    MlA w H wk.heap.size wk.heap.size cs3 gk gn gs gkids Aw cw (wk.alloc (.cells #[.int .i64 gk, .int .i64 gn, .string gs, .slice Aw gkids.len cw] 31)) :=
  ⟨hq.alloc _, Blk.new wk _ _, (hk.below ((Below.refl _ _).alloc (Nat.le_refl _) _) (Nat.le_refl _)).more (Nat.zero_le _) (Nat.le_refl _), by simp, hb.alloc hb.size _⟩
theorem own_kids {f : Fr} {A : Option Addr} {c : Nat} {L : List Nat} (h : OwnS wk f A c L) : KidsAt wk 0 wk.heap.size f A c := h.kids fun x hx => ⟨Nat.zero_le _, h.lt x hx⟩
end
end Go.Proofs.YtkefpickpjjllaaDoor

/- FnExactUnifyTerms: what its law keeps between its calls. No condition. -/
namespace Go.Proofs.YtkefpickpjjllaaDoor
open Go.RowKit

/-- The row of the answer, owned; nil where there is none. -/
def OwnN (w : World) (ns : List Int) (f : Fr) (A : Option Addr) (cap : Nat) (L : List Nat) : Prop := OwnBS w ns f A cap L ∨ (ns = [] ∧ f = .nil ∧ A = none ∧ cap = 0 ∧ L = [])
def MadeN (w : World) (ns : List Int) (f : Fr) (A : Option Addr) (cap : Nat) (w' : World) : Prop := ∃ L, OwnN w' ns f A cap L ∧ L.Nodup ∧ (∀ x ∈ L, w.heap.size ≤ x ∧ x < w'.heap.size) ∧ Below w.heap.size w w'
section
variable {w w' wk wl : World} {ns : List Int} {f : Fr} {A : Option Addr} {cap : Nat} {L K : List Nat}
theorem OwnN.keep (h : OwnN w ns f A cap L) (hL : ∀ x ∈ L, w'.heap[x]? = w.heap[x]?) : OwnN w' ns f A cap L := h.imp (fun h => h.keep hL) id
theorem OwnN.lt (h : OwnN w ns f A cap L) : ∀ x ∈ L, x < w.heap.size := by
  rcases h with h | ⟨_, _, _, _, rfl⟩
  · exact h.lt
  · exact fun x hx => nomatch hx
theorem OwnN.below (h : OwnN w ns f A cap L) (hb : Below w.heap.size w w') : OwnN w' ns f A cap L := h.keep fun x hx => hb.block x (h.lt x hx)
theorem OwnN.wrote (h : OwnN w ns f A cap L) (hb : Wrote K w w') (hn : ∀ x ∈ L, x ∉ K) : OwnN w' ns f A cap L := h.keep fun x hx => hb.block x (h.lt x hx) (hn x hx)
theorem OwnN.binds (h : OwnN w ns f A cap L) : BdS w 0 w.heap.size ns f A cap := by
  rcases h with h | ⟨rfl, rfl, rfl, rfl, rfl⟩
  · exact h.binds fun x hx => ⟨Nat.zero_le _, h.lt x hx⟩
  · exact ⟨rfl, Nat.le_refl _, Nat.zero_le _, fun h => absurd h (Nat.lt_irrefl _)⟩
theorem BdS.wrote {lo hi : Nat} (h : BdS w lo hi ns f A cap) (hw : Wrote K w w') (hh : hi ≤ w.heap.size) (hn : ∀ x ∈ K, x < lo ∨ hi ≤ x) : BdS w' lo hi ns f A cap :=
  h.keep fun p hl hp => hw.cell (by omega) fun e => by have := hn _ e; omega
end
/-- What the program's function and the model's function answer. -/
def ansN (R : Option (List Int × Fr)) : List Int := match R with | some r => r.1 | none => []
def ansF (R : Option (List Int × Fr)) : Fr := match R with | some r => r.2 | none => .nil
def AnsR (w : World) (ns : List Int) (f : Fr) (ok : Bool) (e : Ending) (w' : World) : Prop := ∃ A c, e = .returned (.tuple #[.slice A f.len c, .bool ok]) ∧ MadeN w ns f A c w'
theorem ans_spec {w w' : World} {R : Option (List Int × Fr)} {e : Ending} (h : UniRes w R e w') : AnsR w (ansN R) (ansF R) R.isSome e w' := by
  rcases h with ⟨ns, f, A, c, rfl, he, L, h1, h2, h3, h4⟩ | ⟨rfl, A, c, he, L, h1, h2, h3, h4⟩
  · exact ⟨A, c, he, L, .inl h1, h2, h3, h4⟩
  · exact ⟨A, c, he, L, .inl h1, h2, h3, h4⟩
theorem ans_impl {w w' : World} {R : Option (List Int × Fr)} {e : Ending} (h : BisRes w R e w') : AnsR w (ansN R) (ansF R) R.isSome e w' := by
  rcases h with ⟨ns, f, A, rfl, he, L, h1, h2, h3, h4⟩ | ⟨rfl, he, h4⟩
  · exact ⟨A, _, he, L, .inl h1, h2, h3, h4⟩
  · exact ⟨none, 0, he, [], .inr ⟨rfl, rfl, rfl, rfl, rfl⟩, List.nodup_nil, (fun x hx => nomatch hx), h4⟩
theorem bnd_len (σ : Sub) : ∀ j, (bnd σ j).length ≤ j
  | 0 => Nat.le_refl _
  | j + 1 => by
    have := bnd_len σ j
    rw [bnd]
    split
    · simp; omega
    · omega
theorem rwL_nodes (σ : Sub) : ∀ ns, okL σ ns = true → nodes (rwL σ ns) ≤ 120 * ns.length
  | [], _ => Nat.le_refl _
  | n :: ns, h => by
    unfold okL at h
    rw [List.all_cons, Bool.and_eq_true] at h
    have h1 := h.1
    unfold validT at h1
    rw [Bool.and_eq_true, decide_eq_true_iff] at h1
    have := rwL_nodes σ ns h.2
    simp only [rwL, nodes, List.length_cons]
    omega
theorem ans_nodes (a b : Nd) (r : Option Sub) : nodes (ansF (uniR a b r)) ≤ 3120 := by
  unfold uniR
  split
  · split
    · cases r with
      | none => exact Nat.zero_le _
      | some σ =>
        show nodes (ansF (unB σ 26)) ≤ 3120
        rw [unB_eq]
        split
        · next h =>
          have h1 := rwL_nodes σ _ h
          have h2 := bnd_len σ 26
          show nodes (rwL σ (bnd σ 26)) ≤ 3120
          omega
        · exact Nat.zero_le _
    · exact Nat.zero_le _
  · exact Nat.zero_le _
/-- laws.markBindS of the answer. -/
theorem markN_any (ns : List Int) (f : Fr) (A : Option Addr) (cap k0 : Nat) (L : List Nat) (w : World) (ho : OwnN w ns f A cap L) (hnd : L.Nodup) (hk : k0 + 4 * nodes f ≤ 1099511627776) (hk0 : 0 < k0) :
    Calls Tryd.prog 12 #[.slice A f.len cap, .int .i64 (k0 : Int)] w fun e w' => e = .returned (.int .i64 ((k0 + mbK f : Nat) : Int)) ∧ OwnN w' (mbN f k0) (mbF f k0) A cap L ∧ Wrote L w w' := by
  rcases ho with h | ⟨rfl, rfl, rfl, rfl, rfl⟩
  · refine (markBW_any ns f A cap k0 L w h hnd hk hk0).mono ?_
    rintro e w' ⟨h1, h2, h3⟩
    exact ⟨h1, .inl h2, h3⟩
  · refine (markB0_any none 0 k0 w).mono ?_
    rintro e w' ⟨rfl, rfl⟩
    exact ⟨rfl, .inr ⟨rfl, rfl, rfl, rfl, rfl⟩, .refl _ _⟩

section
variable (w : World) (ca cb : Array Value) (hw H8 H9 : Nat) (c8' c9' : Array Value) (f g gr : Fr) (ns : List Int) (Aw A8 A9 Ag : Option Addr) (cw c8 c9 cg : Nat) (L8 L9 Lg : List Nat)
/-- The two boxes of the arguments. -/
def UW (wk : World) : Prop := Below w.heap.size w wk ∧ Blk wk w.heap.size 24 ca ∧ Blk wk (w.heap.size + 1) 24 cb
/-- .. and the model's answer. -/
def UA (wk : World) : Prop := UW w ca cb wk ∧ BdS wk 0 hw ns gr Aw cw ∧ hw ≤ wk.heap.size
def U1 (wk : World) : Prop := UA w ca cb hw gr ns Aw cw wk ∧ Blk wk H8 31 c8' ∧ Blk wk H9 31 c9' ∧ OwnS wk f A8 c8 L8 ∧ OwnS wk g A9 c9 L9 ∧ OwnN wk ns gr Ag cg Lg
def U2 (wk : World) : Prop := UA w ca cb hw gr ns Aw cw wk ∧ Blk wk H9 31 c9' ∧ OwnS wk g A9 c9 L9 ∧ OwnN wk ns gr Ag cg Lg
def U3 (wk : World) : Prop := UA w ca cb hw gr ns Aw cw wk ∧ OwnN wk ns gr Ag cg Lg
def U4 (wk : World) : Prop := UA w ca cb hw gr ns Aw cw wk ∧ OwnN wk (mbN gr 1) (mbF gr 1) Ag cg Lg
def UOrd : Prop := w.heap.size + 1 < hw ∧ (∀ x ∈ L8, hw ≤ x ∧ x < H8) ∧ hw ≤ H8 ∧ H8 < H9 ∧ (∀ x ∈ L9, H8 < x ∧ x < H9) ∧ (∀ x ∈ Lg, H9 < x) ∧ L8.Nodup ∧ L9.Nodup ∧ Lg.Nodup
end
section
variable {w wk wl : World} {ca cb : Array Value} {hw H8 H9 : Nat} {c8' c9' : Array Value} {f g gr : Fr} {ns : List Int} {Aw A8 A9 Ag : Option Addr} {cw c8 c9 cg : Nat} {L8 L9 Lg : List Nat}
theorem UW.start (w : World) (ca cb : Array Value) : UW w ca cb ((w.alloc (.cells ca 24)).alloc (.cells cb 24)) := by
  refine ⟨two_alloc w _ _, (Blk.new w _ ca).alloc _, ?_⟩
  have h := Blk.new (w.alloc (.cells ca 24)) 24 cb
  rwa [show (w.alloc (.cells ca 24)).heap.size = w.heap.size + 1 by simp] at h
theorem UW.below (h : UW w ca cb wk) (hb : Below wk.heap.size wk wl) : UW w ca cb wl := ⟨h.1.trans (hb.mono h.1.size), h.2.1.below hb h.2.1.lt, h.2.2.below hb h.2.2.lt⟩
theorem UW.drew (h : UW w ca cb wk) : UW w ca cb wk.drew := h.below (Below.refl _ _).drew
theorem UW.wrote {L : List Nat} (h : UW w ca cb wk) (hb : Wrote L wk wl) (hL : ∀ x ∈ L, w.heap.size + 1 < x) : UW w ca cb wl :=
  ⟨h.1.trans (hb.below h.1.size fun x e => by have := hL x e; omega), hb.blk h.2.1 fun e => by have := hL _ e; omega, hb.blk h.2.2 fun e => by have := hL _ e; omega⟩
theorem UA.below (h : UA w ca cb hw gr ns Aw cw wk) (hb : Below wk.heap.size wk wl) : UA w ca cb hw gr ns Aw cw wl := ⟨h.1.below hb, h.2.1.below hb h.2.2, Nat.le_trans h.2.2 hb.size⟩
theorem UA.wrote {L : List Nat} (h : UA w ca cb hw gr ns Aw cw wk) (hb : Wrote L wk wl) (h0 : w.heap.size + 1 < hw) (hL : ∀ x ∈ L, hw ≤ x) : UA w ca cb hw gr ns Aw cw wl :=
  ⟨h.1.wrote hb fun x e => by have := hL x e; omega, h.2.1.wrote hb h.2.2 fun x e => .inr (hL x e), Nat.le_trans h.2.2 hb.size⟩
theorem U1.below (h : U1 w ca cb hw H8 H9 c8' c9' f g gr ns Aw A8 A9 Ag cw c8 c9 cg L8 L9 Lg wk) (hb : Below wk.heap.size wk wl) : U1 w ca cb hw H8 H9 c8' c9' f g gr ns Aw A8 A9 Ag cw c8 c9 cg L8 L9 Lg wl := by
  obtain ⟨h1, h2, h3, h4, h5, h6⟩ := h
  exact ⟨h1.below hb, h2.below hb h2.lt, h3.below hb h3.lt, h4.below hb h4.lt, h5.below hb h5.lt, h6.below hb⟩
theorem U1.mark (h : U1 w ca cb hw H8 H9 c8' c9' f g gr ns Aw A8 A9 Ag cw c8 c9 cg L8 L9 Lg wk) (ho : UOrd w hw H8 H9 L8 L9 Lg) (hb : Wrote L8 wk wl) : U2 w ca cb hw H9 c9' g gr ns Aw A9 Ag cw c9 cg L9 Lg wl := by
  obtain ⟨h1, h2, h3, h4, h5, h6⟩ := h
  obtain ⟨o1, o2, o3, o4, o5, o6, _⟩ := ho
  exact ⟨h1.wrote hb o1 fun x e => (o2 x e).1, hb.blk h3 fun e => by have := (o2 _ e).2; omega, h5.wrote hb fun x e e' => by have := (o5 x e).1; have := (o2 x e').2; omega, h6.wrote hb fun x e e' => by have := o6 x e; have := (o2 x e').2; omega⟩
theorem U2.below (h : U2 w ca cb hw H9 c9' g gr ns Aw A9 Ag cw c9 cg L9 Lg wk) (hb : Below wk.heap.size wk wl) : U2 w ca cb hw H9 c9' g gr ns Aw A9 Ag cw c9 cg L9 Lg wl := by
  obtain ⟨h1, h3, h5, h6⟩ := h
  exact ⟨h1.below hb, h3.below hb h3.lt, h5.below hb h5.lt, h6.below hb⟩
theorem U2.mark (h : U2 w ca cb hw H9 c9' g gr ns Aw A9 Ag cw c9 cg L9 Lg wk) (ho : UOrd w hw H8 H9 L8 L9 Lg) (hb : Wrote L9 wk wl) : U3 w ca cb hw gr ns Aw Ag cw cg Lg wl := by
  obtain ⟨h1, h3, h5, h6⟩ := h
  obtain ⟨o1, o2, o3, o4, o5, o6, _⟩ := ho
  exact ⟨h1.wrote hb o1 fun x e => by have := (o5 x e).1; omega, h6.wrote hb fun x e e' => by have := o6 x e; have := (o5 x e').2; omega⟩
theorem U3.below (h : U3 w ca cb hw gr ns Aw Ag cw cg Lg wk) (hb : Below wk.heap.size wk wl) : U3 w ca cb hw gr ns Aw Ag cw cg Lg wl := ⟨h.1.below hb, h.2.below hb⟩
theorem U3.mark (h : U3 w ca cb hw gr ns Aw Ag cw cg Lg wk) (ho : UOrd w hw H8 H9 L8 L9 Lg) (hb : Wrote Lg wk wl) (hm : OwnN wl (mbN gr 1) (mbF gr 1) Ag cg Lg) : U4 w ca cb hw gr ns Aw Ag cw cg Lg wl := by
  obtain ⟨o1, o2, o3, o4, o5, o6, _⟩ := ho
  exact ⟨h.1.wrote hb o1 fun x e => by have := o6 x e; omega, hm⟩
theorem U4.below (h : U4 w ca cb hw gr ns Aw Ag cw cg Lg wk) (hb : Below wk.heap.size wk wl) : U4 w ca cb hw gr ns Aw Ag cw cg Lg wl := ⟨h.1.below hb, h.2.below hb⟩
theorem uw8 {a b c d a' b' c' d' : Value} (h : UW w #[a, b, c, d] #[a', b', c', d'] wk) :
    wk.cell? ⟨w.heap.size, 0, none⟩ = some a ∧ wk.cell? ⟨w.heap.size, 1, none⟩ = some b ∧ wk.cell? ⟨w.heap.size, 2, none⟩ = some c ∧ wk.cell? ⟨w.heap.size, 3, none⟩ = some d ∧
      wk.cell? ⟨w.heap.size + 1, 0, none⟩ = some a' ∧ wk.cell? ⟨w.heap.size + 1, 1, none⟩ = some b' ∧ wk.cell? ⟨w.heap.size + 1, 2, none⟩ = some c' ∧ wk.cell? ⟨w.heap.size + 1, 3, none⟩ = some d' :=
  ⟨h.2.1.cell 0, h.2.1.cell 1, h.2.1.cell 2, h.2.1.cell 3, h.2.2.cell 0, h.2.2.cell 1, h.2.2.cell 2, h.2.2.cell 3⟩
theorem ub8 {x y : Nat} {t t' : TypeId} {a b c d a' b' c' d' : Value} (h : Blk wk x t #[a, b, c, d]) (h' : Blk wk y t' #[a', b', c', d']) :
    wk.cell? ⟨x, 0, none⟩ = some a ∧ wk.cell? ⟨x, 1, none⟩ = some b ∧ wk.cell? ⟨x, 2, none⟩ = some c ∧ wk.cell? ⟨x, 3, none⟩ = some d ∧ wk.cell? ⟨y, 0, none⟩ = some a' ∧ wk.cell? ⟨y, 1, none⟩ = some b' ∧ wk.cell? ⟨y, 2, none⟩ = some c' ∧ wk.cell? ⟨y, 3, none⟩ = some d' :=
  ⟨h.cell 0, h.cell 1, h.cell 2, h.cell 3, h'.cell 0, h'.cell 1, h'.cell 2, h'.cell 3⟩
end
end Go.Proofs.YtkefpickpjjllaaDoor

/- The law FnExactUnifyTerms, walked. Condition: both arguments lie in memory, the table of signs in its variable. -/
namespace Go.Proofs.YtkefpickpjjllaaDoor
open Go.RowKit

/-- There is an answer wherever both terms are valid. -/
theorem uni_ends (a b : Nd) : ∃ r, validT a.k a.n a.s a.f = true → validT b.k b.n b.s b.f = true → Un [] a b r := by
  by_cases h : validT a.k a.n a.s a.f = true ∧ validT b.k b.n b.s b.f = true
  · have ha := Full.tm_of_valid h.1
    have hb := Full.tm_of_valid h.2
    obtain ⟨r, hr⟩ := un_ends 26 26 _ [] a b trivial (fun _ _ hm => nomatch hm) (Nat.le_add_left _ _) ha.wv hb.wv (fun y hy => Full.occ_in ha.1 hy) (fun y hy => Full.occ_in hb.1 hy) (Nat.le_refl _)
    exact ⟨r, fun _ _ => hr⟩
  · exact ⟨none, fun h1 h2 => absurd ⟨h1, h2⟩ h⟩

set_option maxRecDepth 100000 in
set_option maxHeartbeats 16000000 in
theorem lawUt_any (k n : Int) (s : ByteArray) (f : Fr) (A : Option Addr) (cap : Nat) (k' n' : Int) (s' : ByteArray) (g : Fr) (B : Option Addr) (cap' : Nat) (w : World)
    (hk : KidsAt w 0 w.heap.size f A cap) (hf : Fits k n s) (hk' : KidsAt w 0 w.heap.size g B cap') (hf' : Fits k' n' s') (ht : nv.Tab w) :
    Calls Tryd.prog 3 #[.agg #[.int .i64 k, .int .i64 n, .string s, .slice A f.len cap], .agg #[.int .i64 k', .int .i64 n', .string s', .slice B g.len cap']] w fun e w' => e = .returned (.bool true) ∧ Below w.heap.size w w' := by
  have hlt := tab_lt ht
  have C1 := fun w1 (hb : Below w.heap.size w w1) => szT_any s f k n A cap 0 w.heap.size 1048576 w1 (hk.below hb (Nat.le_refl _)) hb.size hf (by omega) (by omega)
  have hr := szT_range s f 1048576 (by omega)
  generalize szT s f 1048576 = r at *
  have H1 := Lib.hid C1
  have HK := Lib.hid hk
  have HK' := Lib.hid hk'
  have HT := Lib.hid ht
  have HF := Lib.hid hf
  have HF' := Lib.hid hf'
  have r1 := hr.1
  have r2 := hr.2.1
  have HR := Lib.hid hr.2.2
  clear C1 hk hk' ht hf hf' hr
  have HL := Lib.hid (UW.start w #[.int .i64 k, .int .i64 n, .string s, .slice A f.len cap] #[.int .i64 k', .int .i64 n', .string s', .slice B g.len cap'])
  by_cases hneg : r < 0
  · go_enter Tryd.func3, Tryd.ntmps3
    go_wp2_with fail
    refine (H1.out _ HL.out.1).mono ?_
    rintro e w2 ⟨rfl, hb⟩
    have HL2 := Lib.hid (HL.out.below hb)
    clear hb
    go_wp2_with fail
    go_ret
    exact ⟨rfl, HL2.out.1⟩
  have C2 := fun w1 (hb : Below w.heap.size w w1) => szT_any s' g k' n' B cap' 0 w.heap.size r w1 (HK'.out.below hb (Nat.le_refl _)) hb.size HF'.out (by omega) (by omega)
  have hr' := szT_range s' g r (by omega)
  generalize szT s' g r = q at *
  have H2 := Lib.hid C2
  have q1 := hr'.1
  have q2 := hr'.2.1
  have HR' := Lib.hid hr'.2.2
  clear C2 hr'
  by_cases hneg2 : q < 0
  · go_enter Tryd.func3, Tryd.ntmps3
    go_wp2_with fail
    refine (H1.out _ HL.out.1).mono ?_
    rintro e w2 ⟨rfl, hb⟩
    have hl2 := HL.out.below hb
    obtain ⟨a0, a1, a2, a3, b0, b1, b2, b3⟩ := uw8 hl2
    have HL2 := Lib.hid hl2
    clear hb hl2
    go_wp2_with fail
    refine (H2.out _ HL2.out.1).mono ?_
    rintro e w3 ⟨rfl, hb⟩
    have HL3 := Lib.hid (HL2.out.below hb)
    clear hb
    go_wp2_with fail
    go_ret
    exact ⟨rfl, HL3.out.1⟩
  have hwt : s.size + f.len + wt f ≤ 1048576 := by have := HR.out (by omega); omega
  have hwt' : s'.size + g.len + wt g ≤ 1048576 := by have := HR'.out (by omega); omega
  have hnd : nodes f ≤ 1048576 := by have := nodes_le_wt f; omega
  have hnd' : nodes g ≤ 1048576 := by have := nodes_le_wt g; omega
  obtain ⟨ru, hru⟩ := uni_ends ⟨k, n, s, f⟩ ⟨k', n', s', g⟩
  have CA := fun w1 (hb : Below w.heap.size w w1) => toT_any k n s f A cap 0 w.heap.size w1 (HK.out.below hb (Nat.le_refl _)) hb.size (by omega)
  have CB := fun w1 (hb : Below w.heap.size w w1) => toT_any k' n' s' g B cap' 0 w.heap.size w1 (HK'.out.below hb (Nat.le_refl _)) hb.size (by omega)
  have hans := ans_nodes ⟨k, n, s, f⟩ ⟨k', n', s', g⟩ ru
  have CS : ∀ w1 A1 B1 c1 c2, KidsAt w1 0 w1.heap.size f A1 c1 → KidsAt w1 0 w1.heap.size g B1 c2 → Calls Tryd.prog 6 #[.agg #[.int .i64 k, .int .i64 n, .string s, .slice A1 f.len c1], .agg #[.int .i64 k', .int .i64 n', .string s', .slice B1 g.len c2]] w1 fun e w' => AnsR w1 (ansN (uniR ⟨k, n, s, f⟩ ⟨k', n', s', g⟩ ru)) (ansF (uniR ⟨k, n, s, f⟩ ⟨k', n', s', g⟩ ru)) (uniR ⟨k, n, s, f⟩ ⟨k', n', s', g⟩ ru).isSome e w' :=
    fun w1 A1 B1 c1 c2 h1 h2 => (specUni_any ⟨k, n, s, f⟩ ⟨k', n', s', g⟩ A1 B1 c1 c2 0 w1.heap.size w1 ru h1 h2 (Nat.le_refl _) HF.out HF'.out hnd hnd' hru).mono fun _ _ h => ans_spec h
  have CI : ∀ w1 A1 B1 c1 c2, KidsAt w1 0 w1.heap.size f A1 c1 → KidsAt w1 0 w1.heap.size g B1 c2 → nv.Tab w1 → Calls Tryd.prog 8 #[.agg #[.int .i64 k, .int .i64 n, .string s, .slice A1 f.len c1], .agg #[.int .i64 k', .int .i64 n', .string s', .slice B1 g.len c2]] w1 fun e w' => AnsR w1 (ansN (uniR ⟨k, n, s, f⟩ ⟨k', n', s', g⟩ ru)) (ansF (uniR ⟨k, n, s, f⟩ ⟨k', n', s', g⟩ ru)) (uniR ⟨k, n, s, f⟩ ⟨k', n', s', g⟩ ru).isSome e w' :=
    fun w1 A1 B1 c1 c2 h1 h2 ht => (Full.implUni_any ⟨k, n, s, f⟩ ⟨k', n', s', g⟩ A1 B1 c1 c2 0 w1.heap.size 0 w1.heap.size w1 ru h1 h2 (Nat.le_refl _) (Nat.le_refl _) HF.out HF'.out hnd hnd' ht hru).mono fun _ _ h => ans_impl h
  generalize ansN (uniR ⟨k, n, s, f⟩ ⟨k', n', s', g⟩ ru) = ns at *
  generalize ansF (uniR ⟨k, n, s, f⟩ ⟨k', n', s', g⟩ ru) = gr at *
  generalize (uniR ⟨k, n, s, f⟩ ⟨k', n', s', g⟩ ru).isSome = ok at *
  have CE := fun w1 A1 cap1 lo hi A2 cap2 lo2 hi2 (hk : KidsAt w1 lo hi f A1 cap1) (hk2 : KidsAt w1 lo2 hi2 f A2 cap2) hh hh2 => eqT_any s f s f k n k n A1 A2 cap1 cap2 lo hi lo2 hi2 w1 hk hk2 hh hh2
  have CE' := fun w1 A1 cap1 lo hi A2 cap2 lo2 hi2 (hk : KidsAt w1 lo hi g A1 cap1) (hk2 : KidsAt w1 lo2 hi2 g A2 cap2) hh hh2 => eqT_any s' g s' g k' n' k' n' A1 A2 cap1 cap2 lo hi lo2 hi2 w1 hk hk2 hh hh2
  rw [eqT_refl] at CE CE'
  have CEB := fun w1 A1 c1 lo hi A3 c3 lo3 hi3 (hk : BdS w1 lo hi ns gr A1 c1) hh (hk3 : BdS w1 lo3 hi3 ns gr A3 c3) hh3 => eqBS_any ns gr A1 A3 c1 c3 lo hi lo3 hi3 w1 hk hk3 hh hh3
  have CM8 : ∀ (w1 : World) (A1 : Option Addr) (cap1 : Nat) (L : List Nat), OwnS w1 f A1 cap1 L → L.Nodup → Calls Tryd.prog 11 #[.agg #[.int .i64 k, .int .i64 n, .string s, .slice A1 f.len cap1], .int .i64 ((1 : Nat) : Int)] w1 fun e w' => e = .returned (.int .i64 ((1 + 3 * nodes f : Nat) : Int)) ∧ OwnS w' (markF f 1) A1 cap1 L ∧ Wrote L w1 w' :=
    fun w1 A1 cap1 L ho hn => markT_any k n s f A1 cap1 1 L w1 ho hn (by omega) (by omega)
  have CM9 : ∀ (w1 : World) (A1 : Option Addr) (cap1 : Nat) (L : List Nat), OwnS w1 g A1 cap1 L → L.Nodup → Calls Tryd.prog 11 #[.agg #[.int .i64 k', .int .i64 n', .string s', .slice A1 g.len cap1], .int .i64 ((1 + 3 * nodes f : Nat) : Int)] w1 fun e w' => e = .returned (.int .i64 ((1 + 3 * nodes f + 3 * nodes g : Nat) : Int)) ∧ OwnS w' (markF g (1 + 3 * nodes f)) A1 cap1 L ∧ Wrote L w1 w' :=
    fun w1 A1 cap1 L ho hn => markT_any k' n' s' g A1 cap1 (1 + 3 * nodes f) L w1 ho hn (by omega) (by omega)
  have CMG : ∀ (w1 : World) (A1 : Option Addr) (c1 : Nat) (L : List Nat), OwnN w1 ns gr A1 c1 L → L.Nodup → Calls Tryd.prog 12 #[.slice A1 gr.len c1, .int .i64 ((1 : Nat) : Int)] w1 fun e w' => e = .returned (.int .i64 ((1 + mbK gr : Nat) : Int)) ∧ OwnN w' (mbN gr 1) (mbF gr 1) A1 c1 L ∧ Wrote L w1 w' :=
    fun w1 A1 c1 L ho hn => markN_any ns gr A1 c1 1 L w1 ho hn (by omega) (by omega)
  have CHG : ∀ (w1 : World) (A1 : Option Addr) (c1 lo hi : Nat), BdS w1 lo hi (mbN gr 1) (mbF gr 1) A1 c1 → hi ≤ w1.heap.size → Calls Tryd.prog 13 #[.slice A1 gr.len c1, .int .i64 ((1 : Nat) : Int)] w1 fun e w' => e = .returned (.int .i64 ((1 + mbK gr : Nat) : Int)) ∧ Below w1.heap.size w1 w' :=
    fun w1 A1 c1 lo hi hk hh => heldBW_any gr A1 c1 1 lo hi w1 hk hh (by omega) (by omega)
  have XA := Lib.hid CA
  have XB := Lib.hid CB
  have XS := Lib.hid CS
  have XI := Lib.hid CI
  have XE := Lib.hid CE
  have XE' := Lib.hid CE'
  have XEB := Lib.hid CEB
  have XM8 := Lib.hid CM8
  have XM9 := Lib.hid CM9
  have XMG := Lib.hid CMG
  have XHG := Lib.hid CHG
  have tok : (ok != ok) = false := by cases ok <;> rfl
  have tk3 : ¬ (((1 + 3 * nodes f + 3 * nodes g : Nat) : Int) < 0) := by omega
  have tq : ¬ (((1 + mbK gr : Nat) : Int) < 0) := by omega
  have tm : (((1 + mbK gr : Nat) : Int) != ((1 + mbK gr : Nat) : Int)) = false := by simp
  generalize ((1 + 3 * nodes f + 3 * nodes g : Nat) : Int) = k3 at *
  generalize ((1 + 3 * nodes f : Nat) : Int) = k2 at *
  generalize ((1 + mbK gr : Nat) : Int) = kg at *
  clear CA CB CS CI CE CE' CEB CM8 CM9 CMG CHG hwt hwt' hnd hnd' hru hans
  go_enter Tryd.func3, Tryd.ntmps3
  go_wp2_with fail
  refine (H1.out _ HL.out.1).mono ?_
  rintro e w2 ⟨rfl, hb⟩
  have hl2 := HL.out.below hb
  obtain ⟨a0, a1, a2, a3, b0, b1, b2, b3⟩ := uw8 hl2
  have HL2 := Lib.hid hl2
  clear hb hl2 HL H1
  go_wp2_with fail
  refine (H2.out _ HL2.out.1).mono ?_
  rintro e w3 ⟨rfl, hb⟩
  have hl3 := HL2.out.below hb
  clear a0 a1 a2 a3 b0 b1 b2 b3
  obtain ⟨a0, a1, a2, a3, b0, b1, b2, b3⟩ := uw8 hl3
  have HL3 := Lib.hid hl3
  clear hb hl3 HL2 H2
  go_wp2_with fail
  go_region_held3 (fun w' => w'.cell? ⟨w.heap.size, 0, none⟩ = some (.int .i64 k) ∧ w'.cell? ⟨w.heap.size, 1, none⟩ = some (.int .i64 n) ∧ w'.cell? ⟨w.heap.size, 2, none⟩ = some (.string s) ∧ w'.cell? ⟨w.heap.size, 3, none⟩ = some (.slice A f.len cap) ∧
      w'.cell? ⟨w.heap.size + 1, 0, none⟩ = some (.int .i64 k') ∧ w'.cell? ⟨w.heap.size + 1, 1, none⟩ = some (.int .i64 n') ∧ w'.cell? ⟨w.heap.size + 1, 2, none⟩ = some (.string s') ∧ w'.cell? ⟨w.heap.size + 1, 3, none⟩ = some (.slice B g.len cap'))
    (first | exact uw8 HL6.out.1 | exact uw8 HLab.out | exact uw8 HLba.out | exact uw8 HLa.out | exact uw8 HLb.out | exact uw8 HL3.out | exact uw8 HL3.out.drew)
    (first
      | (go_at_call_of 7 k; (first | (refine (XA.out _ HLb.out.1).mono ?_; rintro e w5 ⟨A1, c1, rfl, hm⟩; have hm5 := kids_of_made hm; have HLba := Lib.hid (HLb.out.below hm5.2); have KA := Lib.hid (hm5.1.more (Nat.zero_le _) (Nat.le_refl _)); have KB := Lib.hid ((KBb.out.below hm5.2 (Nat.le_refl _)).more (Nat.zero_le _) hm5.2.size); clear hm hm5) | (refine (XA.out _ HL3.out.drew.1).mono ?_; rintro e w4 ⟨A1, c1, rfl, hm⟩; have hm4 := kids_of_made hm; have HLa := Lib.hid (HL3.out.drew.below hm4.2); have KAa := Lib.hid hm4.1; clear hm hm4)))
      | (go_at_call_of 7 k'; (first | (refine (XB.out _ HLa.out.1).mono ?_; rintro e w5 ⟨B1, c2, rfl, hm⟩; have hm5 := kids_of_made hm; have HLab := Lib.hid (HLa.out.below hm5.2); have KB := Lib.hid (hm5.1.more (Nat.zero_le _) (Nat.le_refl _)); have KA := Lib.hid ((KAa.out.below hm5.2 (Nat.le_refl _)).more (Nat.zero_le _) hm5.2.size); clear hm hm5) | (refine (XB.out _ HL3.out.drew.1).mono ?_; rintro e w4 ⟨B1, c2, rfl, hm⟩; have hm4 := kids_of_made hm; have HLb := Lib.hid (HL3.out.drew.below hm4.2); have KBb := Lib.hid hm4.1; clear hm hm4)))
      | (go_at_call 6; refine (XS.out _ _ _ _ _ KA.out KB.out).mono ?_; rintro e w6 ⟨Aw, cw, rfl, Lw, how, hnw, hlw, hb6⟩; have HL6 : Hid (UA w #[.int .i64 k, .int .i64 n, .string s, .slice A f.len cap] #[.int .i64 k', .int .i64 n', .string s', .slice B g.len cap'] w6.heap.size gr ns Aw cw w6) := Lib.hid ⟨by first | exact HLab.out.below hb6 | exact HLba.out.below hb6, how.binds, Nat.le_refl _⟩; clear how hnw hlw hb6))
  obtain ⟨p0, p1, p2, p3, p4, p5, p6, p7⟩ := uw8 HL6.out.1
  clear a0 a1 a2 a3 b0 b1 b2 b3 HL3
  have ho1 : w.heap.size + 1 < w6.heap.size := HL6.out.1.2.2.lt
  go_wp2_with fail
  refine (XA.out _ HL6.out.1.1).mono ?_
  rintro e v2 ⟨A8, c8, rfl, hm⟩
  obtain ⟨L8, ho8, hn8, hl8, hb8⟩ := hm
  have hba : Below v2.heap.size v2 (v2.alloc (.cells #[.int .i64 k, .int .i64 n, .string s, .slice A8 f.len c8] 31)) := (Below.refl _ _).alloc (Nat.le_refl _) _
  have hl2 := (HL6.out.below hb8).below hba
  have hs8 := hb8.size
  obtain ⟨_, _, _, _, q4, q5, q6, q7⟩ := uw8 (HL6.out.below hb8).1
  have hsz8 : w.heap.size + 1 < v2.heap.size := (HL6.out.below hb8).1.2.2.lt
  have HL7 := Lib.hid hl2
  have HX8 := Lib.hid (Blk.new v2 31 #[.int .i64 k, .int .i64 n, .string s, .slice A8 f.len c8])
  have HO8 := Lib.hid (ho8.below hba ho8.lt)
  have HN8 := Lib.hid (And.intro hn8 hl8)
  clear ho8 hn8 hl8 hb8 hba hl2 p0 p1 p2 p3 p4 p5 p6 p7 HL6
  go_wp2_with fail
  refine (XB.out _ HL7.out.1.1).mono ?_
  rintro e v3 ⟨A9, c9, rfl, hm⟩
  obtain ⟨L9, ho9, hn9, hl9, hb9⟩ := hm
  have hba : Below v3.heap.size v3 (v3.alloc (.cells #[.int .i64 k', .int .i64 n', .string s', .slice A9 g.len c9] 31)) := (Below.refl _ _).alloc (Nat.le_refl _) _
  have hs9 : v2.heap.size + 1 ≤ v3.heap.size := by have := hb9.size; simpa using this
  have hx8 := HX8.out.below hb9 (by simp)
  obtain ⟨x0, x1, x2, x3⟩ := cells4 hx8
  have hsz9 : v2.heap.size < v3.heap.size := hx8.lt
  have HL8 := Lib.hid ((HL7.out.below hb9).below hba)
  have HX8b := Lib.hid (hx8.below hba hx8.lt)
  have HO8b := Lib.hid ((HO8.out.below hb9 HO8.out.lt).below hba (HO8.out.below hb9 HO8.out.lt).lt)
  have HX9 := Lib.hid (Blk.new v3 31 #[.int .i64 k', .int .i64 n', .string s', .slice A9 g.len c9])
  have HO9 := Lib.hid (ho9.below hba ho9.lt)
  have HN9 : Hid (L9.Nodup ∧ ∀ x ∈ L9, v2.heap.size < x ∧ x < v3.heap.size) := Lib.hid ⟨hn9, fun x hx => by have := hl9 x hx; simp at this; omega⟩
  clear ho9 hn9 hl9 hb9 hba hx8 q4 q5 q6 q7 HL7 HX8 HO8
  go_wp2_with fail
  refine (XI.out _ _ _ _ _ (own_kids HO8b.out) (own_kids HO9.out) (tab_below HT.out HL8.out.1.1 hlt)).mono ?_
  rintro e v4 ⟨Ag, cg, rfl, Lg, hog, hng, hlg, hb⟩
  have hst : U1 w #[.int .i64 k, .int .i64 n, .string s, .slice A f.len cap] #[.int .i64 k', .int .i64 n', .string s', .slice B g.len cap'] w6.heap.size v2.heap.size v3.heap.size #[.int .i64 k, .int .i64 n, .string s, .slice A8 f.len c8] #[.int .i64 k', .int .i64 n', .string s', .slice A9 g.len c9] f g gr ns Aw A8 A9 Ag cw c8 c9 cg L8 L9 Lg v4 :=
    ⟨HL8.out.below hb, HX8b.out.below hb HX8b.out.lt, HX9.out.below hb HX9.out.lt, HO8b.out.below hb HO8b.out.lt, HO9.out.below hb HO9.out.lt, hog⟩
  have hord : UOrd w w6.heap.size v2.heap.size v3.heap.size L8 L9 Lg := ⟨ho1, HN8.out.2, hs8, by omega, HN9.out.2, fun x hx => by have := (hlg x hx).1; simp at this; omega, HN8.out.1, HN9.out.1, hng⟩
  have HORD := Lib.hid hord
  have HST := Lib.hid hst
  clear hog hng hlg hb hst hord HL8 HX8b HX9 HO8b HO9 HN8 HN9 x0 x1 x2 x3
  go_wp2_with fail
  refine (XEB.out _ _ _ 0 _ _ _ 0 _ HST.out.2.2.2.2.2.binds (Nat.le_refl _) HST.out.1.2.1 HST.out.1.2.2).mono ?_
  rintro e v5 ⟨rfl, hb⟩
  have h5 := HST.out.below hb
  obtain ⟨x0, x1, x2, x3, x4, x5, x6, x7⟩ := ub8 h5.2.1 h5.1.1.2.1
  have HST5 := Lib.hid h5
  clear hb h5 HST
  go_wp2_with fail
  go_region_held3 (fun w' => w'.cell? ⟨v2.heap.size, 0, none⟩ = some (.int .i64 k) ∧ w'.cell? ⟨v2.heap.size, 1, none⟩ = some (.int .i64 n) ∧ w'.cell? ⟨v2.heap.size, 2, none⟩ = some (.string s) ∧ w'.cell? ⟨v2.heap.size, 3, none⟩ = some (.slice A8 f.len c8) ∧
      w'.cell? ⟨w.heap.size, 0, none⟩ = some (.int .i64 k) ∧ w'.cell? ⟨w.heap.size, 1, none⟩ = some (.int .i64 n) ∧ w'.cell? ⟨w.heap.size, 2, none⟩ = some (.string s) ∧ w'.cell? ⟨w.heap.size, 3, none⟩ = some (.slice A f.len cap))
    (first | exact ub8 HST7.out.2.1 HST7.out.1.1.2.1 | exact ub8 HST6.out.2.1 HST6.out.1.1.2.1 | exact ub8 HST5.out.2.1 HST5.out.1.1.2.1)
    (first
      | (go_at_call 7; refine (XA.out _ HST5.out.1.1.drew.1).mono ?_; rintro e v6 ⟨Ax, cx, rfl, hm⟩; have hm6 := kids_of_made hm; have hd6 : Below v5.heap.size v5 v6 := (Below.refl v5.heap.size v5).drew.trans hm6.2; have HST6 := Lib.hid (HST5.out.below hd6); have HM6 := Lib.hid hm6.1; clear hm hm6 hd6)
      | (go_at_call 10; refine (XE.out _ _ _ 0 _ _ _ _ _ (own_kids HST6.out.2.2.2.1) HM6.out (Nat.le_refl _) (Nat.le_refl _)).mono ?_; rintro e v7 ⟨rfl, hb7⟩; have HST7 := Lib.hid (HST6.out.below hb7); clear hb7))
  obtain ⟨y0, y1, y2, y3, y4, y5, y6, y7⟩ := ub8 HST7.out.2.2.1 HST7.out.1.1.2.2
  clear x0 x1 x2 x3 x4 x5 x6 x7 HST5 HST6 HM6
  go_wp2_with fail
  go_region_held3 (fun w' => w'.cell? ⟨v3.heap.size, 0, none⟩ = some (.int .i64 k') ∧ w'.cell? ⟨v3.heap.size, 1, none⟩ = some (.int .i64 n') ∧ w'.cell? ⟨v3.heap.size, 2, none⟩ = some (.string s') ∧ w'.cell? ⟨v3.heap.size, 3, none⟩ = some (.slice A9 g.len c9) ∧
      w'.cell? ⟨w.heap.size + 1, 0, none⟩ = some (.int .i64 k') ∧ w'.cell? ⟨w.heap.size + 1, 1, none⟩ = some (.int .i64 n') ∧ w'.cell? ⟨w.heap.size + 1, 2, none⟩ = some (.string s') ∧ w'.cell? ⟨w.heap.size + 1, 3, none⟩ = some (.slice B g.len cap'))
    (first | exact ub8 HST9.out.2.2.1 HST9.out.1.1.2.2 | exact ub8 HST8.out.2.2.1 HST8.out.1.1.2.2 | exact ub8 HST7.out.2.2.1 HST7.out.1.1.2.2)
    (first
      | (go_at_call 7; refine (XB.out _ HST7.out.1.1.drew.1).mono ?_; rintro e v8 ⟨Ax2, cx2, rfl, hm⟩; have hm8 := kids_of_made hm; have hd8 : Below v7.heap.size v7 v8 := (Below.refl v7.heap.size v7).drew.trans hm8.2; have HST8 := Lib.hid (HST7.out.below hd8); have HM8 := Lib.hid hm8.1; clear hm hm8 hd8)
      | (go_at_call 10; refine (XE'.out _ _ _ 0 _ _ _ _ _ (own_kids HST8.out.2.2.2.2.1) HM8.out (Nat.le_refl _) (Nat.le_refl _)).mono ?_; rintro e v9 ⟨rfl, hb9⟩; have HST9 := Lib.hid (HST8.out.below hb9); clear hb9))
  clear y0 y1 y2 y3 y4 y5 y6 y7 HST7 HST8 HM8
  obtain ⟨x0, x1, x2, x3⟩ := cells4 HST9.out.2.1
  go_wp2_with fail
  refine (XM8.out _ _ _ _ HST9.out.2.2.2.1 HORD.out.2.2.2.2.2.2.1).mono ?_
  rintro e v10 ⟨rfl, _, hwr⟩
  have h10 := HST9.out.mark HORD.out hwr
  obtain ⟨y0, y1, y2, y3⟩ := cells4 h10.2.1
  have HST10 := Lib.hid h10
  clear hwr h10 HST9 x0 x1 x2 x3
  go_wp2_with fail
  refine (XM9.out _ _ _ _ HST10.out.2.2.1 HORD.out.2.2.2.2.2.2.2.1).mono ?_
  rintro e v11 ⟨rfl, _, hwr⟩
  have h11 := HST10.out.mark HORD.out hwr
  have HST11 := Lib.hid h11
  clear hwr h11 HST10 y0 y1 y2 y3
  go_wp2_with fail
  refine (XEB.out _ _ _ 0 _ _ _ 0 _ HST11.out.2.binds (Nat.le_refl _) HST11.out.1.2.1 HST11.out.1.2.2).mono ?_
  rintro e v12 ⟨rfl, hb⟩
  have HST12 := Lib.hid (HST11.out.below hb)
  clear hb HST11
  go_wp2_with fail
  refine (XMG.out _ _ _ _ HST12.out.2 HORD.out.2.2.2.2.2.2.2.2).mono ?_
  rintro e v13 ⟨rfl, hom, hwr⟩
  have HST13 := Lib.hid (HST12.out.mark HORD.out hwr hom)
  clear hom hwr HST12
  go_wp2_with fail
  refine (XHG.out _ _ _ _ _ HST13.out.2.binds (Nat.le_refl _)).mono ?_
  rintro e v14 ⟨rfl, hb⟩
  have h14 := HST13.out.below hb
  obtain ⟨a0, a1, a2, a3, b0, b1, b2, b3⟩ := uw8 h14.1.1
  have HST14 := Lib.hid h14
  clear hb h14 HST13
  go_wp2_with fail
  go_region_held3 (fun w' => w'.cell? ⟨w.heap.size, 0, none⟩ = some (.int .i64 k) ∧ w'.cell? ⟨w.heap.size, 1, none⟩ = some (.int .i64 n) ∧ w'.cell? ⟨w.heap.size, 2, none⟩ = some (.string s) ∧ w'.cell? ⟨w.heap.size, 3, none⟩ = some (.slice A f.len cap) ∧
      w'.cell? ⟨w.heap.size + 1, 0, none⟩ = some (.int .i64 k') ∧ w'.cell? ⟨w.heap.size + 1, 1, none⟩ = some (.int .i64 n') ∧ w'.cell? ⟨w.heap.size + 1, 2, none⟩ = some (.string s') ∧ w'.cell? ⟨w.heap.size + 1, 3, none⟩ = some (.slice B g.len cap'))
    (first | exact uw8 HLz.out.1.1 | exact uw8 HLab.out.1.1 | exact uw8 HLba.out.1.1 | exact uw8 HLa.out.1.1 | exact uw8 HLb.out.1.1 | exact uw8 HST14.out.1.1 | exact uw8 HST14.out.1.1.drew)
    (first
      | (go_at_call_of 7 k; (first | (refine (XA.out _ HLb.out.1.1.1).mono ?_; rintro e w5 ⟨A1, c1, rfl, hm⟩; have hm5 := kids_of_made hm; have HLba := Lib.hid (HLb.out.below hm5.2); have KA := Lib.hid (hm5.1.more (Nat.zero_le _) (Nat.le_refl _)); have KB := Lib.hid ((KBb.out.below hm5.2 (Nat.le_refl _)).more (Nat.zero_le _) hm5.2.size); clear hm hm5) | (refine (XA.out _ HST14.out.1.1.drew.1).mono ?_; rintro e w4 ⟨A1, c1, rfl, hm⟩; have hm4 := kids_of_made hm; have HLa := Lib.hid (HST14.out.below ((Below.refl v14.heap.size v14).drew.trans hm4.2)); have KAa := Lib.hid hm4.1; clear hm hm4)))
      | (go_at_call_of 7 k'; (first | (refine (XB.out _ HLa.out.1.1.1).mono ?_; rintro e w5 ⟨B1, c2, rfl, hm⟩; have hm5 := kids_of_made hm; have HLab := Lib.hid (HLa.out.below hm5.2); have KB := Lib.hid (hm5.1.more (Nat.zero_le _) (Nat.le_refl _)); have KA := Lib.hid ((KAa.out.below hm5.2 (Nat.le_refl _)).more (Nat.zero_le _) hm5.2.size); clear hm hm5) | (refine (XB.out _ HST14.out.1.1.drew.1).mono ?_; rintro e w4 ⟨B1, c2, rfl, hm⟩; have hm4 := kids_of_made hm; have HLb := Lib.hid (HST14.out.below ((Below.refl v14.heap.size v14).drew.trans hm4.2)); have KBb := Lib.hid hm4.1; clear hm hm4)))
      | (go_at_call 8; refine (XI.out _ _ _ _ _ KA.out KB.out (tab_below HT.out (by first | exact HLab.out.1.1.1 | exact HLba.out.1.1.1) hlt)).mono ?_; rintro e wz ⟨Az, cz, rfl, Lz, hoz, hnz, hlz, hbz⟩; have HLz := Lib.hid (by first | exact HLab.out.below hbz | exact HLba.out.below hbz); have HOZ := Lib.hid hoz; clear hoz hnz hlz hbz))
  clear a0 a1 a2 a3 b0 b1 b2 b3 HST14
  go_wp2_with fail
  refine (XEB.out _ _ _ 0 _ _ _ 0 _ HOZ.out.binds (Nat.le_refl _) HLz.out.1.2.1 HLz.out.1.2.2).mono ?_
  rintro e v16 ⟨rfl, hb⟩
  have HST16 := Lib.hid (HLz.out.below hb)
  clear hb HLz HOZ
  go_wp2_with fail
  refine (XHG.out _ _ _ _ _ HST16.out.2.binds (Nat.le_refl _)).mono ?_
  rintro e v17 ⟨rfl, hb⟩
  have HB17 := Lib.hid (HST16.out.below hb).1.1.1
  clear hb HST16
  go_wp2_with fail
  go_ret
  exact ⟨rfl, HB17.out⟩
end Go.Proofs.YtkefpickpjjllaaDoor
