/- The map of impl.ApplyBinds, and the function that it hands on. Condition: the map holds the nodes of valid terms. -/
import Derived.Test.YtplledmhbbmgiaaDoorProg
import Derived.Test.YtplledmhbbmgiaaDoorApZ
import Derived.Test.YtplledmhbbmgiaaDoorVt
import Derived.Maps.Own
import Derived.Maps.OwnOps
import Derived.Maps.OwnSet
namespace Go.Proofs.YtplledmhbbmgiaaDoor
open Go.RowKit Go.Maps

/-- A node as an element of a map: held as it is. -/
def heldA (v : Value) : Option (DataW Value × List MemPlace) := some (.held v, [])
theorem heldA_inv {v u : Value} {ps : List MemPlace} {z : DataW Value} (h : heldA v = some (z, ps)) (hz : z = .held u) : v = u := by
  unfold heldA at h
  subst hz
  injection h with h
  injection h with h _
  injection h
theorem zeroA (w : World) : (zeroValue 50).run Tryd.prog w = .ok .nilIface w := by kernel_rfl
theorem lawA : Keyed Tryd.prog 63 := int_keyed Tryd.underlying63

theorem NdRowIn.of_range {w : World} {P : Nat → Prop} {lo hi : Nat} (hP : ∀ x, lo ≤ x → x < hi → P x) (f : Fr) : ∀ b o, NdRow w lo hi f b o → NdRowIn w P f b o := by
  induction f with
  | nil => intro b o _; trivial
  | cons k n s kids rest ihk ihr =>
    rintro b o ⟨⟨v, hv, hw⟩, hr⟩
    refine ⟨⟨v, hv, ?_⟩, ihr b (o + 1) hr⟩
    rcases hw with h | h | ⟨h1, A, cap, h2, h3, h4, h5⟩
    · exact .inl h
    · exact .inr (.inl h)
    · refine .inr (.inr ⟨h1, A, cap, h2, h3, h4, fun hp => ?_⟩)
      obtain ⟨b', e, hb, hb2, hrow⟩ := h5 hp
      exact ⟨b', e, hP _ hb hb2, ihk b' 0 hrow⟩
theorem NdVIn.of_range {w : World} {P : Nat → Prop} {lo hi : Nat} (hP : ∀ x, lo ≤ x → x < hi → P x) {k n : Int} {s : ByteArray} {kids : Fr} {v : Value} (h : NdV w lo hi k n s kids v) : NdVIn w P k n s kids v := by
  rcases h with h | h | ⟨h1, A, cap, h2, h3, h4, h5⟩
  · exact .inl h
  · exact .inr (.inl h)
  · refine .inr (.inr ⟨h1, A, cap, h2, h3, h4, fun hp => ?_⟩)
    obtain ⟨b', e, hb, hb2, hrow⟩ := h5 hp
    exact ⟨b', e, hP _ hb hb2, NdRowIn.of_range hP kids b' 0 hrow⟩

/-- The map in block mb holds the nodes of what F knows; these lie behind it, to below hi. -/
def MpA (w : World) (mb hi c : Nat) (F : Int → Option Nd) : Prop := ∃ D : DataW Value, w.ownsMap Tryd.prog 63 heldA mb c D ∧ IsMap D ∧ (∀ n, has D (.int .i64 n) = (F n).isSome) ∧
  ∀ n m, F n = some m → validT m.k m.n m.s m.f = true ∧ ∃ v, D.atKey (.int .i64 n) (.held .nilIface) = .held v ∧ NdV w (mb + 1) hi m.k m.n m.s m.f v
theorem MpA.wrote {w w' : World} {mb hi hi' c : Nat} {F : Int → Option Nd} {L : List Nat} (h : MpA w mb hi c F) (hb : Wrote L w w') (hh : hi ≤ w.heap.size) (hL : ∀ x ∈ L, x < mb ∨ hi ≤ x) (hm : mb < hi) (hH : hi ≤ hi') : MpA w' mb hi' c F := by
  obtain ⟨D, hD, h1, h2, h3⟩ := h
  have hlt := hD.lt
  obtain ⟨es, clock, he, r⟩ := hD
  refine ⟨D, ⟨es, clock, (hb.block mb hlt fun e => by have := hL _ e; omega).trans he, r⟩, h1, h2, fun n m hm => ?_⟩
  obtain ⟨a, v, b, c⟩ := h3 n m hm
  exact ⟨a, v, b, c.keep (fun p hl hp => hb.cell (by omega) fun e => by have := hL _ e; omega) (Nat.le_refl _) hH⟩
theorem MpA.below {w w' : World} {mb hi hi' c : Nat} {F : Int → Option Nd} (h : MpA w mb hi c F) (hb : Below w.heap.size w w') (hh : hi ≤ w.heap.size) (hm : mb < hi) (hH : hi ≤ hi') : MpA w' mb hi' c F := h.wrote (.of_below hb []) hh (by simp) hm hH
def updB (F : Int → Option Nd) (n : Int) (m : Nd) (x : Int) : Option Nd := if x = n then some m else F x
theorem updB_same (F : Int → Option Nd) (n : Int) (m : Nd) : updB F n m n = some m := if_pos rfl
theorem updB_other (F : Int → Option Nd) {n x : Int} (m : Nd) (h : ¬ x = n) : updB F n m x = F x := if_neg h
/-- One more. -/
theorem MpA.put {w w1 : World} {mb hi c : Nat} {F : Int → Option Nd} {D : DataW Value} {n : Int} {m : Nd} {v : Value} (h1 : IsMap D) (h2 : ∀ n, has D (.int .i64 n) = (F n).isSome)
    (h3 : ∀ n m, F n = some m → validT m.k m.n m.s m.f = true ∧ ∃ v, D.atKey (.int .i64 n) (.held .nilIface) = .held v ∧ NdV w (mb + 1) hi m.k m.n m.s m.f v) (hh : hi ≤ w.heap.size)
    (hD : w1.ownsMap Tryd.prog 63 heldA mb (c + 1) (D.put (.int .i64 n) (.held v))) (hg : w.grownBy w1 (some mb)) (hs : validT m.k m.n m.s m.f = true) (hv : NdV w (mb + 1) hi m.k m.n m.s m.f v) : MpA w1 mb w1.heap.size (c + 1) (updB F n m) := by
  have hs1 := hg.size
  have far : ∀ p : Addr, mb + 1 ≤ p.block → p.block < hi → w1.cell? p = w.cell? p := fun p hl hp => World.cell?_of_block (hg.block p.block (by omega) (by simp; omega))
  refine ⟨_, hD, h1.put _ _, fun x => ?_, fun x o ho => ?_⟩
  · by_cases e : x = n
    · subst e
      rw [has_put_same h1 (show WideAt.IsKeyLit (.int .i64 x) from trivial), updB_same]; rfl
    · rw [has_put_other (fun h => e (by injection h)), updB_other F m e, h2]
  · by_cases e : x = n
    · subst e
      rw [updB_same] at ho
      injection ho with ho
      subst ho
      exact ⟨hs, v, atKey_put_same h1 (show WideAt.IsKeyLit (.int .i64 x) from trivial) _ _, hv.keep far (Nat.le_refl _) (by omega)⟩
    · rw [updB_other F m e] at ho
      obtain ⟨a, u, b, c⟩ := h3 x o ho
      exact ⟨a, u, (atKey_put_other (fun h => e (by injection h)) _ _).trans b, c.keep far (Nat.le_refl _) (by omega)⟩

/-- The place of the function's state: the box cb leads to the map mb. -/
def ApI (mb cb hi c : Nat) (F : Int → Option Nd) (w : World) (_ : Unit) (Q : List Nat) : Prop := Q = [] ∧ w.cell? ⟨cb, 0, none⟩ = some (.map (some mb)) ∧ MpA w mb hi c F ∧ hi ≤ w.heap.size
theorem ap_ef : ∀ args w, (callFunc 39 args).run Tryd.prog w = .ok (.enter 39 args) w := fun _ _ => by kernel_rfl

set_option maxRecDepth 100000 in
set_option maxHeartbeats 2000000 in
/-- The function that ApplyBinds hands on. -/
theorem ap_rep (ns : List Int) (g : Fr) (mb cb hi c : Nat) (F : Int → Option Nd) (hF : ∀ x, F x = fdB ns g x) (h1 : mb < cb) (h2 : cb < hi) : RepC (α := Unit) 39 #[] #[.pointer (some ⟨cb, 0, none⟩)] (ApI mb cb hi c F) (fun x => mb ≤ x ∧ x < hi) hi (fun _ => 0) (fun a _ => a) (apO ns g) where
  keep := fun {w w' a Q L} h hw hL => by
    obtain ⟨rfl, hc, hM, hs⟩ := h
    have hL2 : ∀ x ∈ L, x < mb ∨ hi ≤ x := fun x hx => by have := (hL x hx).2; omega
    exact ⟨rfl, (hw.cell (by show cb < _; omega) fun e => by have := hL2 _ e; simp only at this; omega).trans hc, hM.wrote hw hs hL2 (by omega) (Nat.le_refl _), Nat.le_trans hs hw.size⟩
  lt := fun {w a Q} h x hx => by
    obtain ⟨rfl, _⟩ := h
    cases hx
  old := fun x hx => hx.2
  len := fun _ _ => Nat.zero_le _
  call := fun a Q n w h hB _ hn => by
    have h0 := h
    obtain ⟨rfl, hc, hM, hs⟩ := h
    obtain ⟨D, hD, hI, hH, hX⟩ := hM
    have hkey : keyOf Tryd.prog 63 (.int .i64 n) = some (.int .i64 n) := keyOf_int_mk Tryd.underlying63 (WalkArith.wf_i64 (by omega))
    have hhn := hH n
    have HD := Lib.hid hD
    cases hlk : F n with
    | none =>
      have ho : apO ns g a n = ⟨1, n, ⟨#[]⟩, .nil⟩ := by unfold apO; rw [← hF, hlk]; rfl
      rw [hlk] at hhn
      have HHN : Hid (has D (.int .i64 n) = false) := Lib.hid hhn
      have HR : Hid (∃ (Q' : List Nat) (v : Value), (Ending.returned (.iface 63 (.int .i64 n)) = .returned v) ∧ ApI mb cb hi c F w a Q' ∧ Wrote [] w w ∧ (∀ x ∈ Q', x ∈ ([] : List Nat) ∨ w.heap.size ≤ x) ∧ NdVIn w (Fresh3 (fun x => mb ≤ x ∧ x < hi) w.heap.size w.heap.size Q') (apO ns g a n).k (apO ns g a n).n (apO ns g a n).s (apO ns g a n).f v) :=
        Lib.hid ⟨[], _, rfl, h0, .refl _ _, (fun x hx => nomatch hx), by rw [ho]; exact .inl ⟨rfl, rfl⟩⟩
      clear hD hI hH hX hhn hlk ho h0
      go_enter Tryd.func39, Tryd.ntmps39
      go_wp2_with (at_lookup; refine wpList_lookup_own_ok _ rfl _ _ 62 rfl 63 50 lawA Tryd.underlying62 heldA (zeroA _) (.held .nilIface) [] rfl mb c D rfl HD.out _ _ rfl hkey ?_; intro v ps hv; rw [HHN.out]; clear hv)
      go_ret
      exact HR.out
    | some o =>
      have ho : apO ns g a n = o := by unfold apO; rw [← hF, hlk]; rfl
      rw [hlk] at hhn
      have HHN : Hid (has D (.int .i64 n) = true) := Lib.hid hhn
      obtain ⟨hso, u, hat, hu⟩ := hX n o hlk
      have HAT := Lib.hid hat
      have HR : Hid (∃ (Q' : List Nat) (v : Value), (Ending.returned u = .returned v) ∧ ApI mb cb hi c F w a Q' ∧ Wrote [] w w ∧ (∀ x ∈ Q', x ∈ ([] : List Nat) ∨ w.heap.size ≤ x) ∧ NdVIn w (Fresh3 (fun x => mb ≤ x ∧ x < hi) w.heap.size w.heap.size Q') (apO ns g a n).k (apO ns g a n).n (apO ns g a n).s (apO ns g a n).f v) :=
        Lib.hid ⟨[], u, rfl, h0, .refl _ _, (fun x hx => nomatch hx), by rw [ho]; exact NdVIn.of_range (fun x a b => ⟨.inl ⟨by omega, b⟩, by omega, by simp⟩) hu⟩
      obtain ⟨T3, z3, rfl⟩ := hu.iface
      clear hD hI hH hX hhn hlk ho h0 hat hu
      go_enter Tryd.func39, Tryd.ntmps39
      go_wp2_with (at_lookup; refine wpList_lookup_own_ok _ rfl _ _ 62 rfl 63 50 lawA Tryd.underlying62 heldA (zeroA _) (.held .nilIface) [] rfl mb c D rfl HD.out _ _ rfl hkey ?_; intro v ps hv; rw [HHN.out]; have hv2 := heldA_inv hv HAT.out; subst hv2; clear hv)
      go_ret
      exact HR.out

theorem wfF_ap {ns : List Int} {g : Fr} (ha : allB g = true) (f : Fr) : ∀ d, shapeF f d = true → wfF (apF ns g f) = true := by
  induction f with
  | nil => intro d _; rfl
  | cons k n s kids rest ihk ihr =>
    intro d h
    rw [shapeF_cons, Bool.and_eq_true] at h
    rw [apF_cons, wfF_cons, ihr d h.2]
    by_cases hk : k = 1
    · subst hk
      have h3 := (validT_fits (apO_good (ns := ns) ha h.1)).1
      have e : apT ns g 1 n s kids = apO ns g () n := by unfold apT rpT; rw [if_pos rfl]
      rw [e, wfT_shape h3, wfF_shape _ 29 (shapeT_kids h3)]
      rfl
    · rw [apT_other hk]
      show ((wfT k n s (apF ns g kids).len && wfF (apF ns g kids)) && true) = true
      rw [apF_len, wfT_shape h.1, ihk (d - 1) (shapeT_kids h.1)]
      rfl
theorem wf_ap {ns : List Int} {g : Fr} (ha : allB g = true) {k n d : Int} {s : ByteArray} {f : Fr} (h : shapeT k n s f d = true) : wfT (apT ns g k n s f).k (apT ns g k n s f).n (apT ns g k n s f).s (apT ns g k n s f).f.len = true ∧ wfF (apT ns g k n s f).f = true := by
  by_cases hk : k = 1
  · subst hk
    have h3 := (validT_fits (apO_good (ns := ns) ha h)).1
    have e : apT ns g 1 n s f = apO ns g () n := by unfold apT rpT; rw [if_pos rfl]
    rw [e]
    exact ⟨wfT_shape h3, wfF_shape _ 29 (shapeT_kids h3)⟩
  · rw [apT_other hk]
    exact ⟨by show wfT k n s (apF ns g f).len = true; rw [apF_len]; exact wfT_shape h, wfF_ap ha f (d - 1) (shapeT_kids h)⟩
theorem RC.wrote {w wk wl : World} {H : Nat} {L : List Nat} (h : RC w H wk) (hb : Wrote L wk wl) (hL : ∀ x ∈ L, H < x) : RC w H wl :=
  ⟨hb.blk h.1 fun e => by have := hL _ e; omega, h.2.1, h.2.2.trans (hb.below h.2.2.size fun x hx => by have := hL x hx; have := h.2.1; omega)⟩
end Go.Proofs.YtplledmhbbmgiaaDoor
