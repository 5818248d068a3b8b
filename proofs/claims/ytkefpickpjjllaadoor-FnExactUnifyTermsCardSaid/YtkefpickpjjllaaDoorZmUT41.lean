/- A map of nodes as impl holds it; impl.alike. Condition: the nodes lie in memory and are well-formed. -/
import Derived.Test.YtkefpickpjjllaaDoorProg
import Derived.Test.YtkefpickpjjllaaDoorMatch
import Derived.Test.YtkefpickpjjllaaDoorMatS
import Derived.Maps.Own
import Derived.Maps.OwnOps
import Derived.Maps.OwnSet
import Derived.Test.YtkefpickpjjllaaDoorZmUT40
import Derived.Test.YtkefpickpjjllaaDoorZmUT35
import Derived.Deep.RegionHeld3
namespace Go.Proofs.YtkefpickpjjllaaDoor
open Go.RowKit Go.Maps

/-- A node as an element of a map: held as it is. -/
def heldR (v : Value) : Option (DataW Value × List MemPlace) := some (.held v, [])
theorem heldR_inv {v u : Value} {ps : List MemPlace} {z : DataW Value} (h : heldR v = some (z, ps)) (hz : z = .held u) : v = u := by
  unfold heldR at h
  subst hz
  injection h with h
  injection h with h _
  injection h
theorem zeroN (w : World) : (zeroValue 53).run Tryd.prog w = .ok .nilIface w := by kernel_rfl
theorem lawN : Keyed Tryd.prog 67 := int_keyed Tryd.underlying67
/-- The map in block mb holds the nodes of what st knows. -/
def MpS (w : World) (lo hi mb : Nat) (st : St) : Prop := ∃ D : DataW Value, w.ownsMap Tryd.prog 67 heldR mb st.length D ∧ IsMap D ∧ (∀ n, has D (.int .i64 n) = (lkS st n).isSome) ∧
  ∀ n m, lkS st n = some m → shapeT m.k m.n m.s m.f 30 = true ∧ ∃ v, D.atKey (.int .i64 n) (.held .nilIface) = .held v ∧ NdV w lo hi m.k m.n m.s m.f v
theorem MpS.wrote {w w' : World} {lo hi mb : Nat} {st : St} {L : List Nat} (h : MpS w lo hi mb st) (hb : Wrote L w w') (hg : mb ∉ L) (hh : hi ≤ w.heap.size) (hL : ∀ x ∈ L, hi ≤ x) : MpS w' lo hi mb st := by
  obtain ⟨D, hD, h1, h2, h3⟩ := h
  have hlt := hD.lt
  obtain ⟨es, clock, he, r⟩ := hD
  refine ⟨D, ⟨es, clock, (hb.block mb hlt hg).trans he, r⟩, h1, h2, fun n m hm => ?_⟩
  obtain ⟨a, v, b, c⟩ := h3 n m hm
  exact ⟨a, v, b, c.keep (fun p _ hp => hb.cell (by omega) fun e => by have := hL _ e; omega) (Nat.le_refl _) (Nat.le_refl _)⟩
theorem MpS.below {w w' : World} {lo hi mb : Nat} {st : St} (h : MpS w lo hi mb st) (hb : Below w.heap.size w w') (hh : hi ≤ w.heap.size) : MpS w' lo hi mb st := h.wrote (.of_below hb []) (by simp) hh (by simp)
theorem MpS.lt {w : World} {lo hi mb : Nat} {st : St} (h : MpS w lo hi mb st) : mb < w.heap.size := by
  obtain ⟨D, hD, _⟩ := h
  exact hD.lt
/-- One more. -/
theorem MpS.put {w w1 : World} {lo hi mb : Nat} {st : St} {D : DataW Value} {n : Int} {m : Nd} {v : Value} (h1 : IsMap D) (h2 : ∀ n, has D (.int .i64 n) = (lkS st n).isSome)
    (h3 : ∀ n m, lkS st n = some m → shapeT m.k m.n m.s m.f 30 = true ∧ ∃ v, D.atKey (.int .i64 n) (.held .nilIface) = .held v ∧ NdV w lo hi m.k m.n m.s m.f v) (hm : hi ≤ mb) (hh : hi ≤ w.heap.size)
    (hD : w1.ownsMap Tryd.prog 67 heldR mb (st.length + 1) (D.put (.int .i64 n) (.held v))) (hg : w.grownBy w1 (some mb)) (hs : shapeT m.k m.n m.s m.f 30 = true) (hv : NdV w lo hi m.k m.n m.s m.f v) : MpS w1 lo hi mb ((n, m) :: st) := by
  have far : ∀ p : Addr, lo ≤ p.block → p.block < hi → w1.cell? p = w.cell? p := fun p _ hp => World.cell?_of_block (hg.block p.block (by omega) (by simp; omega))
  refine ⟨_, hD, h1.put _ _, fun x => ?_, fun x o ho => ?_⟩
  · by_cases e : x = n
    · subst e
      rw [has_put_same h1 (show WideAt.IsKeyLit (.int .i64 x) from trivial), lkS_same]; rfl
    · rw [has_put_other (fun h => e (by injection h)), lkS_other _ _ _ _ e, h2]
  · by_cases e : x = n
    · subst e
      rw [lkS_same] at ho
      injection ho with ho
      subst ho
      exact ⟨hs, v, atKey_put_same h1 (show WideAt.IsKeyLit (.int .i64 x) from trivial) _ _, hv.keep far (Nat.le_refl _) (Nat.le_refl _)⟩
    · rw [lkS_other _ _ _ _ e] at ho
      obtain ⟨a, u, b, c⟩ := h3 x o ho
      exact ⟨a, u, (atKey_put_other (fun h => e (by injection h)) _ _).trans b, c.keep far (Nat.le_refl _) (Nat.le_refl _)⟩

set_option maxRecDepth 100000 in
/-- impl.alike. -/
theorem alike_any (s s' : ByteArray) (A B : Option Addr) (l l' cap cap' : Nat) (w : World) :
    Calls Tryd.prog 76 #[.agg #[.string s, .slice A l cap], .agg #[.string s', .slice B l' cap']] w fun e w' => e = .returned (.bool (s.data.toList == s'.data.toList && l == l')) ∧ Below w.heap.size w w' := by
  have HT := Lib.hid (two_alloc w (.cells #[.string s, .slice A l cap] 105) (.cells #[.string s', .slice B l' cap'] 105))
  by_cases h3 : s.data.toList = s'.data.toList
  · have t3 : (s.toList == s'.toList) = true := by rw [ByteArray.toList_eq, ByteArray.toList_eq, h3]; simp
    by_cases h4 : l = l'
    · subst h4
      have HV : Hid ((s.data.toList == s'.data.toList && l == l) = true) := Lib.hid (by rw [h3]; simp)
      have t5 : ((l : Int) == (l : Int)) = true := by simp
      generalize (s.data.toList == s'.data.toList && l == l) = r at *
      clear h3
      go_enter Tryd.func76, Tryd.ntmps76
      go_wp2_with fail
      go_ret
      rw [HV.out]; exact ⟨rfl, HT.out⟩
    · have HV : Hid ((s.data.toList == s'.data.toList && l == l') = false) := Lib.hid (by rw [show (l == l') = false by simpa using h4]; simp)
      have t5 : ((l : Int) == (l' : Int)) = false := by rw [beq_eq_false_iff_ne]; exact fun e => h4 (Int.ofNat.inj e)
      generalize (s.data.toList == s'.data.toList && l == l') = r at *
      clear h3 h4
      go_enter Tryd.func76, Tryd.ntmps76
      go_wp2_with fail
      go_ret
      rw [HV.out]; exact ⟨rfl, HT.out⟩
  · have HV : Hid ((s.data.toList == s'.data.toList && l == l') = false) := Lib.hid (by rw [show (s.data.toList == s'.data.toList) = false by simpa using h3]; rfl)
    have t3 : (s.toList == s'.toList) = false := by rw [ByteArray.toList_eq, ByteArray.toList_eq]; simpa using h3
    generalize (s.data.toList == s'.data.toList && l == l') = r at *
    clear h3
    go_enter Tryd.func76, Tryd.ntmps76
    go_wp2_with fail
    go_ret
    rw [HV.out]; exact ⟨rfl, HT.out⟩

end Go.Proofs.YtkefpickpjjllaaDoor

/- impl.resolver.resolve. Condition: the nodes that the variables are bound to lie in memory and are well-formed; the bindings are acyclic. -/
namespace Go.Proofs.YtkefpickpjjllaaDoor
open Go.RowKit Go.Maps

theorem mpS_wrote {w w' : World} {lo hi mb : Nat} {st : St} {L : List Nat} (h : MpS w lo hi mb st) (hb : Wrote L w w') (hg : mb ∉ L) (hh : hi ≤ w.heap.size) (hL : ∀ x ∈ L, x < lo ∨ hi ≤ x) : MpS w' lo hi mb st := by
  obtain ⟨D, hD, h1, h2, h3⟩ := h
  have hlt := hD.lt
  obtain ⟨es, clock, he, r⟩ := hD
  refine ⟨D, ⟨es, clock, (hb.block mb hlt hg).trans he, r⟩, h1, h2, fun n m hm => ?_⟩
  obtain ⟨a, v, b, c⟩ := h3 n m hm
  exact ⟨a, v, b, c.keep (fun p hl hp => hb.cell (by omega) fun e => by have := hL _ e; omega) (Nat.le_refl _) (Nat.le_refl _)⟩
theorem own_size {P : Program} {w : World} {k : TypeId} {R : Value → Option (DataW Value × List MemPlace)} {b n : Nat} {D : DataW Value} (h : w.ownsMap P k R b n D) : w.ownsMap P k R b (size D) D := by
  obtain ⟨es, clock, hb, F, _, rfl⟩ := h
  refine ⟨es, clock, hb, F, ?_, rfl⟩
  rw [size_eq, length_sorted]
  simp
/-- The old blocks of what resolve hands back, and those of its state that it only reads. -/
def RsO (lo hi bb rs x : Nat) : Prop := (lo ≤ x ∧ x < hi) ∨ x = bb ∨ x = rs
/-- The map of what was resolved, in block qb: the nodes of what the variables R stand for in the end, in old blocks or in G. -/
def RsD (w : World) (qb : Nat) (O : Nat → Prop) (G : List Nat) (σ : Sub) : Prop :=
  ∃ (D : DataW Value) (R : List Int), w.ownsMap Tryd.prog 67 heldR qb (size D) D ∧ Tidy D ∧ size D = R.length ∧ R.Nodup ∧ (∀ x ∈ R, 0 ≤ x ∧ x ≤ 25) ∧ (∀ n, has D (.int .i64 n) = true ↔ n ∈ R) ∧
    ∀ n ∈ R, ∃ v, D.atKey (.int .i64 n) (.held .nilIface) = .held v ∧ NdVIn w (fun x => (O x ∨ x ∈ G) ∧ x < w.heap.size ∧ x ≠ qb) (fin σ n).k (fin σ n).n (fin σ n).s (fin σ n).f v
theorem RsD.lt {w : World} {qb : Nat} {O : Nat → Prop} {G : List Nat} {σ : Sub} (h : RsD w qb O G σ) : qb < w.heap.size := by
  obtain ⟨D, R, hD, _⟩ := h
  exact hD.lt
theorem RsD.wrote {w w' : World} {qb : Nat} {O : Nat → Prop} {G L : List Nat} {σ : Sub} (h : RsD w qb O G σ) (hb : Wrote L w w') (hL : ∀ x ∈ L, x ≠ qb ∧ x ∉ G ∧ ¬ O x) : RsD w' qb O G σ := by
  obtain ⟨D, R, hD, h1, h2, h3, h4, h5, h6⟩ := h
  have hlt := hD.lt
  obtain ⟨es, clock, he, r⟩ := hD
  refine ⟨D, R, ⟨es, clock, (hb.block qb hlt fun e => (hL _ e).1 rfl).trans he, r⟩, h1, h2, h3, h4, h5, fun n hn => ?_⟩
  obtain ⟨v, b, c⟩ := h6 n hn
  refine ⟨v, b, c.keep (fun p hp => hb.cell hp.2.1 fun e => ?_) fun x hx => ⟨hx.1, Nat.lt_of_lt_of_le hx.2.1 hb.size, hx.2.2⟩⟩
  have := hL _ e
  rcases hp.1 with h | h
  · exact this.2.2 h
  · exact this.2.1 h
/-- One more. -/
theorem RsD.put {w w1 : World} {qb : Nat} {O : Nat → Prop} {G G' : List Nat} {σ : Sub} {D : DataW Value} {R : List Int} {n : Int} {v : Value} (h1 : Tidy D) (h2 : size D = R.length) (h3 : R.Nodup) (h4 : ∀ x ∈ R, 0 ≤ x ∧ x ≤ 25) (h5 : ∀ n, has D (.int .i64 n) = true ↔ n ∈ R)
    (h6 : ∀ n ∈ R, ∃ v, D.atKey (.int .i64 n) (.held .nilIface) = .held v ∧ NdVIn w (fun x => (O x ∨ x ∈ G) ∧ x < w.heap.size ∧ x ≠ qb) (fin σ n).k (fin σ n).n (fin σ n).s (fin σ n).f v)
    (hD : w1.ownsMap Tryd.prog 67 heldR qb (size D + 1) (D.put (.int .i64 n) (.held v))) (hg : w.grownBy w1 (some qb)) (hn : 0 ≤ n ∧ n ≤ 25) (hG : ∀ x ∈ G, x ∈ G')
    (hv : NdVIn w (fun x => (O x ∨ x ∈ G') ∧ x < w.heap.size ∧ x ≠ qb) (fin σ n).k (fin σ n).n (fin σ n).s (fin σ n).f v) : RsD w1 qb O G' σ := by
  have far : ∀ p : Addr, p.block < w.heap.size → p.block ≠ qb → w1.cell? p = w.cell? p := fun p hp hq => World.cell?_of_block (hg.block p.block hp (by simp; omega))
  have hs := hg.size
  have hv1 := hv.keep (w' := w1) (P' := fun x => (O x ∨ x ∈ G') ∧ x < w1.heap.size ∧ x ≠ qb) (fun p hp => far p hp.2.1 hp.2.2) fun x hx => ⟨hx.1, by omega, hx.2.2⟩
  have old : ∀ x ∈ R, x ≠ n → ∃ v', (D.put (.int .i64 n) (.held v)).atKey (.int .i64 x) (.held .nilIface) = .held v' ∧ NdVIn w1 (fun x => (O x ∨ x ∈ G') ∧ x < w1.heap.size ∧ x ≠ qb) (fin σ x).k (fin σ x).n (fin σ x).s (fin σ x).f v' := fun x hx e => by
    obtain ⟨u, b, c⟩ := h6 x hx
    exact ⟨u, (atKey_put_other (fun h => e (by injection h)) _ _).trans b, c.keep (fun p hp => far p hp.2.1 hp.2.2) fun x hx => ⟨hx.1.imp id (hG x), by omega, hx.2.2⟩⟩
  have new : (D.put (.int .i64 n) (.held v)).atKey (.int .i64 n) (.held .nilIface) = .held v := atKey_put_same h1.isMap (show WideAt.IsKeyLit (.int .i64 n) from trivial) _ _
  have hput := size_put h1 (k := .int .i64 n) (.held v)
  by_cases hm : n ∈ R
  · rw [if_pos ((h5 n).2 hm)] at hput
    refine ⟨_, R, own_size hD, h1.put (show WideAt.IsKeyLit (.int .i64 n) from trivial) _, by rw [hput, h2], h3, h4, fun x => ?_, fun x hx => ?_⟩
    · by_cases e : x = n
      · subst e
        rw [has_put_same h1.isMap (show WideAt.IsKeyLit (.int .i64 x) from trivial)]
        exact ⟨fun _ => hm, fun _ => rfl⟩
      · rw [has_put_other (fun h => e (by injection h)), h5]
    · by_cases e : x = n
      · subst e; exact ⟨v, new, hv1⟩
      · exact old x hx e
  · have hf : has D (.int .i64 n) = false := by
      cases h : has D (.int .i64 n) with
      | false => rfl
      | true => exact absurd ((h5 n).1 h) hm
    rw [hf] at hput
    refine ⟨_, n :: R, own_size hD, h1.put (show WideAt.IsKeyLit (.int .i64 n) from trivial) _, by rw [hput]; simp [h2], List.nodup_cons.2 ⟨hm, h3⟩, fun x hx => ?_, fun x => ?_, fun x hx => ?_⟩
    · rcases List.mem_cons.1 hx with rfl | hx
      · exact hn
      · exact h4 x hx
    · by_cases e : x = n
      · subst e
        rw [has_put_same h1.isMap (show WideAt.IsKeyLit (.int .i64 x) from trivial)]
        exact ⟨fun _ => by simp, fun _ => rfl⟩
      · rw [has_put_other (fun h => e (by injection h)), h5]
        simp [e]
    · by_cases e : x = n
      · subst e; exact ⟨v, new, hv1⟩
      · exact old x ((List.mem_cons.1 hx).resolve_left e) e
/-- The resolver in block rs: the map bb of what variables are bound to, the map qb of what was resolved. -/
def RsI (lo hi bb rs qb : Nat) (σ : Sub) (w : World) (_ : Unit) (Q G : List Nat) : Prop :=
  Q = [qb] ∧ Blk w rs 89 #[.map (some bb), .map (some qb)] ∧ MpS w lo hi bb σ ∧ RsD w qb (RsO lo hi bb rs) G σ ∧ (∀ x ∈ G, x < w.heap.size)
theorem RsI.keep {lo hi bb rs qb : Nat} {σ : Sub} {w w' : World} {a : Unit} {Q G L : List Nat} (h : RsI lo hi bb rs qb σ w a Q G) (hbb : hi ≤ bb) (hw : Wrote L w w') (hL : ∀ x ∈ L, x ∉ Q ∧ x ∉ G ∧ ¬ RsO lo hi bb rs x) : RsI lo hi bb rs qb σ w' a Q G := by
  obtain ⟨rfl, h1, h2, h3, h4⟩ := h
  have hlt := h2.lt
  refine ⟨rfl, hw.blk h1 fun e => (hL _ e).2.2 (.inr (.inr rfl)), mpS_wrote h2 hw (fun e => (hL _ e).2.2 (.inr (.inl rfl))) (by omega) fun x hx => ?_, h3.wrote hw fun x hx => ⟨fun e => (hL _ hx).1 (by simp [e]), (hL _ hx).2⟩, fun x hx => Nat.lt_of_lt_of_le (h4 x hx) hw.size⟩
  by_cases e : x < lo
  · exact .inl e
  · refine .inr ?_
    by_cases e2 : x < hi
    · exact absurd (.inl ⟨by omega, e2⟩) (hL x hx).2.2
    · omega
/-- The contract of resolve. -/
def RsC (lo hi bb rs qb B : Nat) (σ : Sub) (x : Int) : Prop := ∀ (Q G : List Nat) (w : World), RsI lo hi bb rs qb σ w () Q G → B ≤ w.heap.size → (0 ≤ x ∧ x ≤ 25) →
  Calls Tryd.prog 45 #[.pointer (some ⟨rs, 0, none⟩), .int .i64 x] w fun e w' => ∃ Q' G' v, e = .returned v ∧ RsI lo hi bb rs qb σ w' () Q' G' ∧ Wrote Q w w' ∧ (∀ x ∈ Q', x ∈ Q ∨ w.heap.size ≤ x) ∧ (∀ x ∈ G', x ∈ G ∨ w.heap.size ≤ x) ∧ (∀ x ∈ G, x ∈ G') ∧ NdVIn w' (Fresh4 (RsO lo hi bb rs) G' w.heap.size w'.heap.size Q') (fin σ x).k (fin σ x).n (fin σ x).s (fin σ x).f v
theorem rs_ef : ∀ args w, (callFunc 45 args).run Tryd.prog w = .ok (.enter 45 args) w := fun _ _ => by kernel_rfl
theorem rs_rep (lo hi bb rs qb B : Nat) (σ : Sub) (hbb : hi ≤ bb) (hB : hi ≤ B ∧ bb < B ∧ rs < B) : RepV (α := Unit) 45 #[.pointer (some ⟨rs, 0, none⟩)] #[] (RsI lo hi bb rs qb σ) (RsO lo hi bb rs) B (RsC lo hi bb rs qb B σ) (fun _ => 0) (fun a _ => a) (fun _ n => fin σ n) where
  keep := fun h hw hL => h.keep hbb hw hL
  lt := fun {w a Q G} h x hx => by
    obtain ⟨rfl, _, _, h3, h4⟩ := h
    rcases hx with hx | hx
    · simp at hx; subst hx; exact h3.lt
    · exact h4 x hx
  old := fun x hx => by
    rcases hx with h | rfl | rfl
    · omega
    · exact hB.2.1
    · exact hB.2.2
  len := fun _ _ => Nat.zero_le _
  call := fun a Q G n w h hw _ hn hv => by
    have := hv Q G w h hw hn
    simpa using this
/-- The blocks that were made, but for qb. -/
def newB (n0 n1 qb : Nat) : List Nat := (List.range n1).filter fun x => decide (n0 ≤ x ∧ x ≠ qb)
theorem mem_newB {n0 n1 qb x : Nat} : x ∈ newB n0 n1 qb ↔ x < n1 ∧ n0 ≤ x ∧ x ≠ qb := by unfold newB; simp
end Go.Proofs.YtkefpickpjjllaaDoor

/- impl.resolver.resolve, walked. Condition: as in RsI. -/
namespace Go.Proofs.YtkefpickpjjllaaDoor
open Go.RowKit Go.Maps

/-- Behind the call of replaceVars: what resolve stores, and what it hands back. -/
theorem rs_after {lo hi bb rs qb : Nat} {σ : Sub} {w w3 : World} {a : Unit} {Q3 G G3 : List Nat} {x : Int} {v3 : Value} (hbb : hi ≤ bb) (hq : hi ≤ qb ∧ qb ≠ bb ∧ qb ≠ rs) (hx : 0 ≤ x ∧ x ≤ 25) (hkey : keyOf Tryd.prog 67 (.int .i64 x) = some (.int .i64 x))
    (hI3 : RsI lo hi bb rs qb σ w3 a Q3 G3) (hw3 : Wrote [qb] w.drew w3) (hg3 : ∀ y ∈ G3, y ∈ G ∨ w.drew.heap.size ≤ y) (hgg3 : ∀ y ∈ G, y ∈ G3)
    (hv3 : NdVIn w3 (Fresh4 (RsO lo hi bb rs) G3 w.drew.heap.size w3.heap.size Q3) (fin σ x).k (fin σ x).n (fin σ x).s (fin σ x).f v3) :
    ∃ w5, (w3.cell? ⟨rs, 0, none⟩ = some (.map (some bb)) ∧ w3.cell? ⟨rs, 1, none⟩ = some (.map (some qb))) ∧ (Instr.mapUpdate 66 (.map (some qb)) (.int .i64 x) v3).run Tryd.prog w3 = .ok () w5 ∧ (w5.cell? ⟨rs, 0, none⟩ = some (.map (some bb)) ∧ w5.cell? ⟨rs, 1, none⟩ = some (.map (some qb))) ∧
      (Instr.lookup 66 (.map (some qb)) (.int .i64 x) false).run Tryd.prog w5 = .ok v3 w5 ∧ (∃ T z, v3 = .iface T z) ∧
      (∃ (Q' G' : List Nat) (v' : Value), (Ending.returned v3 = .returned v') ∧ RsI lo hi bb rs qb σ w5 () Q' G' ∧ Wrote [qb] w w5 ∧ (∀ y ∈ Q', y ∈ [qb] ∨ w.heap.size ≤ y) ∧ (∀ y ∈ G', y ∈ G ∨ w.heap.size ≤ y) ∧ (∀ y ∈ G, y ∈ G') ∧ NdVIn w5 (Fresh4 (RsO lo hi bb rs) G' w.heap.size w5.heap.size Q') (fin σ x).k (fin σ x).n (fin σ x).s (fin σ x).f v') := by
  have hs3 := hw3.size
  obtain ⟨rfl, hblk3, hmp3, ⟨D3, R3, hD3, b1, b2, b3, b4, b5, b6⟩, hG3⟩ := hI3
  have x0 := hblk3.cell 0
  have x1 := hblk3.cell 1
  simp only [List.getElem?_toArray, List.getElem?_cons_zero, List.getElem?_cons_succ] at x0 x1
  have hr3 : R3.length ≤ 26 := nodup_len 26 R3 b3 fun y hy => by have := b4 y hy; omega
  obtain ⟨w5, hrun, hD5, hgr⟩ := hD3.update (t := 66) lawN Tryd.underlying66 (by unfold maxLen; omega) (val := v3) hkey (d := .held v3) (ps := []) rfl
  have hgr2 := hgr.size
  have hW5 : Wrote [qb] w3 w5 := ⟨hgr.os, hgr.tape, hgr.output, hgr.size, fun y hy hn => hgr.block y hy fun e => hn (by simpa using e)⟩
  have hsq : qb < w3.heap.size := hD3.lt
  have hb5 := hW5.blk hblk3 (by simp; omega)
  have y0 := hb5.cell 0
  have y1 := hb5.cell 1
  simp only [List.getElem?_toArray, List.getElem?_cons_zero, List.getElem?_cons_succ] at y0 y1
  have hvn : NdVIn w3 (fun y => (RsO lo hi bb rs y ∨ y ∈ G3 ++ newB w.heap.size w3.heap.size qb) ∧ y < w3.heap.size ∧ y ≠ qb) (fin σ x).k (fin σ x).n (fin σ x).s (fin σ x).f v3 := hv3.keep (fun _ _ => rfl) fun y hy => ⟨by
    have hyq : y ≠ qb := by simpa using hy.2.2
    rcases hy.1 with h | h | h
    · exact .inl h
    · exact .inr (by simp [h])
    · exact .inr (List.mem_append_right _ (mem_newB.2 ⟨hy.2.1, h, hyq⟩)), hy.2.1, by simpa using hy.2.2⟩
  have hd5 := RsD.put (G' := G3 ++ newB w.heap.size w3.heap.size qb) b1 b2 b3 b4 b5 b6 hD5 hgr hx (fun y hy => List.mem_append_left _ hy) hvn
  obtain ⟨v6, ps6, hrun6, hvr6⟩ := hD5.lookup (t := 66) lawN Tryd.underlying66 (zeroN w5) (zd := .held .nilIface) (zp := []) rfl hkey
  rw [atKey_put_same b1.isMap (show WideAt.IsKeyLit (.int .i64 x) from trivial)] at hvr6
  have hv6 := heldR_inv hvr6 rfl
  rw [hv6] at hrun6
  have hif := hvn.iface
  refine ⟨w5, ⟨x0, x1⟩, hrun, ⟨y0, y1⟩, hrun6, hif, ?_⟩
  refine ⟨[qb], G3 ++ newB w.heap.size w3.heap.size qb, v3, rfl, ⟨rfl, hb5, mpS_wrote hmp3 hW5 (by simp; omega) (by have := hmp3.lt; omega) (fun y hy => by simp at hy; omega), hd5, fun y hy => ?_⟩, ?_, fun y hy => .inl hy, fun y hy => ?_, fun y hy => List.mem_append_left _ (hgg3 y hy), ?_⟩
  · rcases List.mem_append.1 hy with hy | hy
    · exact Nat.lt_of_lt_of_le (hG3 y hy) hgr2
    · have := (mem_newB.1 hy).1; omega
  · exact ((Wrote.of_below (Below.refl w.heap.size w).drew [qb]).trans hw3).trans hW5
  · rcases List.mem_append.1 hy with hy | hy
    · exact hg3 y hy
    · exact .inr (mem_newB.1 hy).2.1
  · refine hvn.keep (fun p hp => hW5.cell hp.2.1 (by simpa using hp.2.2)) fun y hy => ⟨?_, Nat.lt_of_lt_of_le hy.2.1 hgr2, by simpa using hy.2.2⟩
    exact hy.1.imp id .inl

set_option maxRecDepth 100000 in
set_option maxHeartbeats 4000000 in
/-- impl.resolver.resolve, from its contract at the variables of what the variable is bound to. -/
theorem rsC_of (lo hi bb rs qb B : Nat) (σ : Sub) (hσ : Ok2 σ) (hbb : hi ≤ bb) (hB : hi ≤ B ∧ bb < B ∧ rs < B) (hq : hi ≤ qb ∧ qb ≠ bb ∧ qb ≠ rs) (hsz : ∀ x m, lk σ x = some m → nodes m.f ≤ 2097152) (x : Int) (h : ∀ t y, lk σ x = some t → occN t y → RsC lo hi bb rs qb B σ y) : RsC lo hi bb rs qb B σ x := by
  intro Q G w hI hBw hx
  have hI0 := hI
  obtain ⟨rfl, hblk, hmp, hrd, hGl⟩ := hI
  have hkey : keyOf Tryd.prog 67 (.int .i64 x) = some (.int .i64 x) := keyOf_int_mk Tryd.underlying67 (WalkArith.wf_i64 (by omega))
  have c0 := hblk.cell 0
  have c1 := hblk.cell 1
  simp only [List.getElem?_toArray, List.getElem?_cons_zero, List.getElem?_cons_succ] at c0 c1
  obtain ⟨D, R, hD, d1, d2, d3, d4, d5, d6⟩ := hrd
  have HD := Lib.hid hD
  have hrn : R.length ≤ 26 := nodup_len 26 R d3 fun y hy => by have := d4 y hy; omega
  by_cases hm : x ∈ R
  · have hh := (d5 x).2 hm
    have HH := Lib.hid hh
    obtain ⟨u, hat, hu⟩ := d6 x hm
    have HAT := Lib.hid hat
    have HR : Hid (∃ (Q' G' : List Nat) (v' : Value), (Ending.returned u = .returned v') ∧ RsI lo hi bb rs qb σ w () Q' G' ∧ Wrote [qb] w w ∧ (∀ y ∈ Q', y ∈ [qb] ∨ w.heap.size ≤ y) ∧ (∀ y ∈ G', y ∈ G ∨ w.heap.size ≤ y) ∧ (∀ y ∈ G, y ∈ G') ∧ NdVIn w (Fresh4 (RsO lo hi bb rs) G' w.heap.size w.heap.size Q') (fin σ x).k (fin σ x).n (fin σ x).s (fin σ x).f v') :=
      Lib.hid ⟨[qb], G, u, rfl, hI0, .refl _ _, fun y hy => .inl hy, fun y hy => .inl hy, fun y hy => hy, hu.keep (fun _ _ => rfl) fun y hy => ⟨hy.1.imp id .inl, hy.2.1, by simpa using hy.2.2⟩⟩
    obtain ⟨T3, z3, rfl⟩ := hu.iface
    clear hI0 hblk hmp hGl hD d1 d2 d3 d4 d5 d6 hh hat hu h
    go_enter Tryd.func45, Tryd.ntmps45
    go_wp2_with (at_lookup; refine wpList_lookup_own_ok _ rfl _ _ 66 rfl 67 53 lawN Tryd.underlying66 heldR (zeroN _) (.held .nilIface) [] rfl qb _ D rfl HD.out _ _ rfl hkey ?_; intro v ps hv; rw [HH.out]; have hv2 := heldR_inv hv HAT.out; subst hv2; clear hv)
    go_ret
    exact HR.out
  · have hh : has D (.int .i64 x) = false := by
      cases h : has D (.int .i64 x) with
      | false => rfl
      | true => exact absurd ((d5 x).1 h) hm
    have HH := Lib.hid hh
    obtain ⟨E, hE, e1, e2, e3⟩ := hmp
    have HE := Lib.hid hE
    cases hlk : lk σ x with
    | none =>
      have he : has E (.int .i64 x) = false := by rw [e2]; show (lk σ x).isSome = false; rw [hlk]; rfl
      have HHE := Lib.hid he
      have hfin := hσ.inv.free x hlk
      have HR : Hid (∃ (Q' G' : List Nat) (v' : Value), (Ending.returned (.iface 67 (.int .i64 x)) = .returned v') ∧ RsI lo hi bb rs qb σ w () Q' G' ∧ Wrote [qb] w w ∧ (∀ y ∈ Q', y ∈ [qb] ∨ w.heap.size ≤ y) ∧ (∀ y ∈ G', y ∈ G ∨ w.heap.size ≤ y) ∧ (∀ y ∈ G, y ∈ G') ∧ NdVIn w (Fresh4 (RsO lo hi bb rs) G' w.heap.size w.heap.size Q') (fin σ x).k (fin σ x).n (fin σ x).s (fin σ x).f v') :=
        Lib.hid ⟨[qb], G, _, rfl, hI0, .refl _ _, fun y hy => .inl hy, fun y hy => .inl hy, fun y hy => hy, by rw [hfin]; exact .inl ⟨rfl, rfl⟩⟩
      clear hI0 hblk hGl hD d1 d2 d3 d4 d5 d6 hh h hE e1 e2 e3 he hfin
      go_enter Tryd.func45, Tryd.ntmps45
      go_wp2_with (first
        | (at_lookup; refine wpList_lookup_own_ok _ rfl _ _ 66 rfl 67 53 lawN Tryd.underlying66 heldR (zeroN _) (.held .nilIface) [] rfl qb _ D rfl HD.out _ _ rfl hkey ?_; intro v ps hv; rw [HH.out]; clear hv)
        | (at_lookup; refine wpList_lookup_own_ok _ rfl _ _ 66 rfl 67 53 lawN Tryd.underlying66 heldR (zeroN _) (.held .nilIface) [] rfl bb _ E rfl HE.out _ _ rfl hkey ?_; intro v ps hv; rw [HHE.out]; clear hv))
      go_ret
      exact HR.out
    | some m =>
      have he : has E (.int .i64 x) = true := by rw [e2]; show (lk σ x).isSome = true; rw [hlk]; rfl
      have HHE := Lib.hid he
      obtain ⟨hsh, u, hat, hu⟩ := e3 x m hlk
      have HAT := Lib.hid hat
      have hsx := hI0.2.2.1.lt
      have hR := fun w1 (h1 : RsI lo hi bb rs qb σ w1 () [qb] G) (h2 : w.heap.size ≤ w1.heap.size) (h3 : NdV w1 lo hi m.k m.n m.s m.f u) => rvT_any rs_ef (rs_rep lo hi bb rs qb B σ hbb hB) m.s m.f m.k m.n 30 u lo hi () [qb] G w1 hsh (fun y hy => h m y hlk hy) h3 (by omega) (fun y hy => by simp at hy; omega) h1 (by omega) (by show 0 + nodes m.f ≤ 2097152; have := hsz x m hlk; omega)
      have efs : ∀ a : Value, (#[Value.pointer (some ⟨rs, 0, none⟩)] : Array Value) = #[Value.pointer (some ⟨rs, 0, none⟩)] := fun _ => rfl
      have hout : rpT (fun (a : Unit) _ => a) (fun _ n => fin σ n) () m.k m.n m.s m.f = fin σ x := by
        rw [hσ.inv.bound x m hlk]
        unfold rpT suN
        by_cases hk : m.k = 1
        · rw [if_pos hk, if_pos hk]
        · rw [if_neg hk, if_neg hk, suF_rp]
      rw [hout] at hR
      have HRV := Lib.hid hR
      have hdrew : RsI lo hi bb rs qb σ w.drew () [qb] G := hI0.keep hbb ((Wrote.refl [] w).trans (.of_below (Below.refl w.heap.size w).drew [])) (fun y hy => nomatch hy)
      have HDR := Lib.hid hdrew
      have hu2 : NdV w.drew lo hi m.k m.n m.s m.f u := hu.keep (fun _ _ _ => rfl) (Nat.le_refl _) (Nat.le_refl _)
      have HU2 := Lib.hid hu2
      have hmf : ∀ (fn : Fn) (first cap : Array Value) (w : World), (Instr.makeFunc fn first cap).run Tryd.prog w = .ok (.func fn first cap) w := fun _ _ _ _ => rfl
      obtain ⟨T3, z3, rfl⟩ := hu.iface
      have HX := Lib.hid hx
      clear hI0 hblk hGl hD d1 d2 d3 d4 d5 d6 hh h hE e1 e2 e3 he hat hu hu2 hdrew hR hout efs hx
      go_enter Tryd.func45, Tryd.ntmps45
      go_wp2_with (first
        | (at_lookup; refine wpList_lookup_own_ok _ rfl _ _ 66 rfl 67 53 lawN Tryd.underlying66 heldR (zeroN _) (.held .nilIface) [] rfl qb _ D rfl HD.out _ _ rfl hkey ?_; intro v ps hv; rw [HH.out]; clear hv)
        | (at_lookup; refine wpList_lookup_own_ok _ rfl _ _ 66 rfl 67 53 lawN Tryd.underlying66 heldR (zeroN _) (.held .nilIface) [] rfl bb _ E rfl HE.out _ _ rfl hkey ?_; intro v ps hv; rw [HHE.out]; have hv2 := heldR_inv hv HAT.out; subst hv2; clear hv))
      go_region_held3 (fun w' => w'.cell? ⟨rs, 0, none⟩ = some (.map (some bb)) ∧ w'.cell? ⟨rs, 1, none⟩ = some (.map (some qb)))
        (first | exact ⟨y0, y1⟩ | exact ⟨x0, x1⟩ | exact ⟨c0, c1⟩)
        ((go_at_call 35
          refine (HRV.out _ HDR.out (Nat.le_refl _) HU2.out).mono ?_
          rintro e w3 ⟨Q3, G3, v3, rfl, hI3, hw3, hq3, hg3, hgg3, hv3⟩
          have hAF := rs_after hbb hq HX.out hkey hI3 hw3 hg3 hgg3 hv3
          obtain ⟨w5, ⟨x0, x1⟩, hrun, ⟨y0, y1⟩, hrun6, ⟨T6, z6, rfl⟩, hres⟩ := hAF
          have HR := Lib.hid hres
          clear hI3 hw3 hq3 hg3 hgg3 hv3 hres))
      go_wp2_with fail
      go_ret
      exact HR.out
/-- impl.resolver.resolve: what the variable stands for in the end. -/
theorem rsC_any (lo hi bb rs qb B : Nat) (σ : Sub) (hσ : Ok2 σ) (hbb : hi ≤ bb) (hB : hi ≤ B ∧ bb < B ∧ rs < B) (hq : hi ≤ qb ∧ qb ≠ bb ∧ qb ≠ rs) (hsz : ∀ x m, lk σ x = some m → nodes m.f ≤ 2097152) : ∀ x, RsC lo hi bb rs qb B σ x :=
  sub_ind hσ fun x h => rsC_of lo hi bb rs qb B σ hσ hbb hB hq hsz x h
end Go.Proofs.YtkefpickpjjllaaDoor
