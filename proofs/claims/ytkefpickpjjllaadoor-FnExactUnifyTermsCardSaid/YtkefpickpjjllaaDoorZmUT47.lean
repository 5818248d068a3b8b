/- impl.nodeOf, impl.TermValid. Condition: the term lies in memory, the table of signs in its variable. -/
import Derived.Test.YtkefpickpjjllaaDoorImplV
import Derived.Test.YtkefpickpjjllaaDoorZmUT46
import Derived.Test.YtkefpickpjjllaaDoorProg
import Derived.Test.YtkefpickpjjllaaDoorMake
import Derived.Test.YtkefpickpjjllaaDoorEq
import Derived.Test.YtkefpickpjjllaaDoorZmUT45
import Derived.Test.YtkefpickpjjllaaDoorZmUT43
import Derived.Sort.OwnSortedInts
import Derived.Test.YtkefpickpjjllaaDoorZmUT40
import Derived.Test.YtkefpickpjjllaaDoorZmUT41
import Derived.Test.YtkefpickpjjllaaDoorZmUT42
import Derived.Test.YtkefpickpjjllaaDoorTermOf
import Derived.Deep.RegionHeld3
namespace Go.Proofs.YtkefpickpjjllaaDoor.Full
open Go.RowKit

def NodeRes (w : World) (k n : Int) (s : ByteArray) (kids : Fr) (e : Ending) (w' : World) : Prop :=
  Below w.heap.size w w' ∧ ((validT k n s kids = true ∧ ∃ v, e = .returned (.tuple #[v, .bool true]) ∧ NdV w' w.heap.size w'.heap.size k n s kids v) ∨ (validT k n s kids = false ∧ e = .returned (.tuple #[.nilIface, .bool false])))

set_option maxRecDepth 100000 in
set_option maxHeartbeats 1000000 in
/-- impl.nodeOf. -/
theorem nodeOf_any (k n : Int) (s : ByteArray) (f : Fr) (A : Option Addr) (cap lo hi : Nat) (w : World) (hk : KidsAt w lo hi f A cap) (hh : hi ≤ w.heap.size) (hf : Fits k n s) (hnd : nodes f ≤ 1048576) (ht : nv.Tab w) :
    Calls Tryd.prog 33 #[.agg #[.int .i64 k, .int .i64 n, .string s, .slice A f.len cap]] w fun e w' => NodeRes w k n s f e w' := by
  have hlt := tab_lt ht
  have C1 := fun w1 (hb : Below w.heap.size w w1) (hm : Blk w1 (w.heap.size + 1) 99 #[.int .i64 120]) =>
    mkT_any s f k n 1 120 A cap lo hi (w.heap.size + 1) w1 (hk.below hb hh) (Nat.le_trans hh hb.size) hf hnd (by omega) (tab_below ht hb hlt) hm (by omega) (by omega) (by omega) (by omega)
  rw [okT_valid] at C1
  have H1 := Lib.hid C1
  clear C1 hk hf hnd ht
  go_enter Tryd.func33, Tryd.ntmps33
  go_wp2_with fail
  refine (H1.out _ ?below ?blk).mono ?_
  case below => exact two_alloc w _ _
  case blk =>
    have h := Blk.new (w.alloc (.cells #[.int .i64 k, .int .i64 n, .string s, .slice A f.len cap] 31)) 99 #[.int .i64 120]
    simpa using h
  rintro e w2 ⟨hg, hr⟩
  have hb := below_grownBy (two_alloc w _ _) (by omega) hg
  have hsz := (two_alloc w (.cells #[.int .i64 k, .int .i64 n, .string s, .slice A f.len cap] 31) (.cells #[.int .i64 120] 99)).size
  rcases hr with ⟨hok, v, rfl, hv, _⟩ | ⟨hok, rfl, _⟩
  · have R : Hid (NodeRes w k n s f (.returned (.tuple #[v, .bool true])) w2) := Lib.hid ⟨hb, .inl ⟨hok, v, rfl, hv.keep (fun _ _ _ => rfl) hsz (Nat.le_refl _)⟩⟩
    clear hg hb hsz hok hv
    go_wp2_with fail
    go_ret2
    exact R.out
  · have R : Hid (NodeRes w k n s f (.returned (.tuple #[.nilIface, .bool false])) w2) := Lib.hid ⟨hb, .inr ⟨hok, rfl⟩⟩
    clear hg hb hsz hok
    go_wp2_with fail
    go_ret2
    exact R.out

end Go.Proofs.YtkefpickpjjllaaDoor.Full

/- impl.nodesOfBoth. Condition: the terms lie in memory, the table of signs in its variable. -/
namespace Go.Proofs.YtkefpickpjjllaaDoor.Full
open Go.RowKit

def BothRes (w : World) (k n : Int) (s : ByteArray) (f : Fr) (k' n' : Int) (s' : ByteArray) (g : Fr) (e : Ending) (w' : World) : Prop :=
  Below w.heap.size w w' ∧ (((validT k n s f = true ∧ validT k' n' s' g = true) ∧ ∃ v v', e = .returned (.tuple #[v, v', .bool true]) ∧ NdV w' 0 w'.heap.size k n s f v ∧ NdV w' 0 w'.heap.size k' n' s' g v') ∨
    (¬ (validT k n s f = true ∧ validT k' n' s' g = true) ∧ e = .returned (.tuple #[.nilIface, .nilIface, .bool false])))

set_option maxRecDepth 100000 in
set_option maxHeartbeats 2000000 in
/-- impl.nodesOfBoth. -/
theorem both_any (k n : Int) (s : ByteArray) (f : Fr) (k' n' : Int) (s' : ByteArray) (g : Fr) (A B : Option Addr) (cap cap' lo hi lo' hi' : Nat) (w : World)
    (hk : KidsAt w lo hi f A cap) (hk' : KidsAt w lo' hi' g B cap') (hh : hi ≤ w.heap.size) (hh' : hi' ≤ w.heap.size) (hf : Fits k n s) (hf' : Fits k' n' s') (hnd : nodes f ≤ 1048576) (hnd' : nodes g ≤ 1048576) (ht : nv.Tab w) :
    Calls Tryd.prog 23 #[.agg #[.int .i64 k, .int .i64 n, .string s, .slice A f.len cap], .agg #[.int .i64 k', .int .i64 n', .string s', .slice B g.len cap']] w fun e w' => BothRes w k n s f k' n' s' g e w' := by
  have hlt := tab_lt ht
  have C1 := fun w1 (hb : Below w.heap.size w w1) => nodeOf_any k n s f A cap lo hi w1 (hk.below hb hh) (Nat.le_trans hh hb.size) hf hnd (tab_below ht hb hlt)
  have C2 := fun w1 (hb : Below w.heap.size w w1) => nodeOf_any k' n' s' g B cap' lo' hi' w1 (hk'.below hb hh') (Nat.le_trans hh' hb.size) hf' hnd' (tab_below ht hb hlt)
  have HT := Lib.hid (two_alloc w (.cells #[.int .i64 k, .int .i64 n, .string s, .slice A f.len cap] 31) (.cells #[.int .i64 k', .int .i64 n', .string s', .slice B g.len cap'] 31))
  have H1 := Lib.hid C1
  have H2 := Lib.hid C2
  clear C1 C2 hk hk' hh hh' hf hf' hnd hnd' ht
  go_enter Tryd.func23, Tryd.ntmps23
  go_wp2_with fail
  refine (H1.out _ HT.out).mono ?_
  rintro e w2 ⟨hb, hr⟩
  have hbw : Below w.heap.size w w2 := HT.out.trans (hb.mono HT.out.size)
  rcases hr with ⟨hok, v, rfl, hv⟩ | ⟨hok, rfl⟩
  · obtain ⟨_, _, _, _, b0, b1, b2, b3⟩ := box8 (hb.mono (by simp))
    have HB := Lib.hid hbw
    have HOK := Lib.hid hok
    have HV := Lib.hid hv
    obtain ⟨T1, x1, rfl⟩ := hv.iface
    clear hb hbw hok hv
    go_wp2_with fail
    refine (H2.out _ HB.out).mono ?_
    rintro e w3 ⟨hb, hr⟩
    have hbw : Below w.heap.size w w3 := HB.out.trans (hb.mono HB.out.size)
    rcases hr with ⟨hok', v', rfl, hv'⟩ | ⟨hok', rfl⟩
    · obtain ⟨T2, x2, rfl⟩ := hv'.iface
      have R : Hid (BothRes w k n s f k' n' s' g (.returned (.tuple #[.iface T1 x1, .iface T2 x2, .bool true])) w3) := Lib.hid ⟨hbw, .inl ⟨⟨HOK.out, hok'⟩, _, _, rfl, HV.out.keep (fun p _ hp => hb.block p hp) (Nat.zero_le _) hb.size, hv'.keep (fun _ _ _ => rfl) (Nat.zero_le _) (Nat.le_refl _)⟩⟩
      clear hb hbw hok' hv' b0 b1 b2 b3
      go_wp2_with fail
      go_ret3
      exact R.out
    · have R : Hid (BothRes w k n s f k' n' s' g (.returned (.tuple #[.nilIface, .nilIface, .bool false])) w3) := Lib.hid ⟨hbw, .inr ⟨(by rintro ⟨_, h⟩; rw [hok'] at h; cases h), rfl⟩⟩
      clear hb hbw hok' b0 b1 b2 b3
      go_wp2_with fail
      go_ret3
      exact R.out
  · have R : Hid (BothRes w k n s f k' n' s' g (.returned (.tuple #[.nilIface, .nilIface, .bool false])) w2) := Lib.hid ⟨hbw, .inr ⟨(by rintro ⟨h, _⟩; rw [hok] at h; cases h), rfl⟩⟩
    clear hb hbw hok
    go_wp2_with fail
    go_ret3
    exact R.out
end Go.Proofs.YtkefpickpjjllaaDoor.Full

/- impl.unifier.unifyParts, unifyKids: their state and their contracts. No condition. -/
namespace Go.Proofs.YtkefpickpjjllaaDoor.Full
open Go.RowKit Go.Maps

/-- The trail: the variables in the order in which they were bound. -/
def trl (σ : Sub) : List Int := (σ.map (·.1)).reverse
theorem trl_cons (v : Int) (m : Nd) (σ : Sub) : trl ((v, m) :: σ) = trl σ ++ [v] := by unfold trl; simp
theorem trl_len (σ : Sub) : (trl σ).length = σ.length := by unfold trl; simp
theorem trl_mem (σ : Sub) (x : Int) : x ∈ trl σ ↔ (lkS σ x).isSome = true := by
  unfold trl
  rw [List.mem_reverse]
  induction σ with
  | nil => simp [lkS]
  | cons p σ ih =>
    obtain ⟨v, m⟩ := p
    by_cases e : x = v
    · subst e; rw [lkS_same]; simp
    · rw [lkS_other _ _ _ _ e, ← ih]; simp [e]
/-- The unifier between two calls: what is bound, what is done. -/
def UpS (w : World) (lo hi ub mb db base : Nat) (σ : Sub) (P : List (Addr × Addr)) (tv : Value) : Prop :=
  UnU w lo hi ub mb db base σ (trl σ) tv ∧ PdM w db P ∧ DnP w lo hi σ P ∧ Ok2 σ ∧ BiS 26 σ
/-- What a call leaves: whether it succeeded, and, if so, just the model's bindings; what was bound stays bound; only the unifier and its trail are written. -/
def UpRes (w : World) (lo hi ub mb db base : Nat) (σ : Sub) (tv : Value) (r : Option Sub) (e : Ending) (w' : World) : Prop :=
  ∃ (σ' : Sub) (P' : List (Addr × Addr)) (tv' : Value), e = .returned (.bool r.isSome) ∧ UpS w' lo hi ub mb db base σ' P' tv' ∧ (r = none ∨ r = some σ') ∧ (∃ l, σ' = l ++ σ) ∧ Wrote (ub :: mb :: db :: ownV tv) w w' ∧ (∀ x ∈ ownV tv', x ∈ ownV tv ∨ w.heap.size ≤ x)
/-- How the blocks lie to each other. -/
def UpO (lo hi ub mb db base : Nat) : Prop := lo ≤ hi ∧ (hi ≤ ub ∧ hi ≤ mb ∧ hi ≤ db) ∧ (ub ≠ mb ∧ ub ≠ db ∧ mb ≠ db) ∧ (ub < base ∧ mb < base ∧ db < base)
/-- The contract of unifyParts where the model unifies within depth N. -/
def UpT (N : Nat) : Prop := ∀ (lo hi ub mb db base : Nat) (σ : Sub) (P : List (Addr × Addr)) (tv : Value) (a b : Nd) (va vb : Value) (r : Option Sub) (w : World), UpO lo hi ub mb db base → UpS w lo hi ub mb db base σ P tv → base ≤ w.heap.size →
  NdV w lo hi a.k a.n a.s a.f va → NdV w lo hi b.k b.n b.s b.f vb → shapeT a.k a.n a.s a.f 30 = true → shapeT b.k b.n b.s b.f 30 = true → unT N σ a b = some r →
  Calls Tryd.prog 42 #[.pointer (some ⟨ub, 0, none⟩), va, vb] w fun e w' => UpRes w lo hi ub mb db base σ tv r e w'
/-- The contract of unifyKids. -/
def UkT (N : Nat) : Prop := ∀ (lo hi ub mb db base : Nat) (σ : Sub) (P : List (Addr × Addr)) (tv : Value) (s s' : ByteArray) (f g : Fr) (A B : Option Addr) (ca cb : Nat) (r : Option Sub) (w : World), UpO lo hi ub mb db base → UpS w lo hi ub mb db base σ P tv → base ≤ w.heap.size →
  NdS w lo hi f A ca → NdS w lo hi g B cb → shapeF f 29 = true → shapeF g 29 = true → ((s.data.toList == s'.data.toList && f.len == g.len) = true → unRow (unT N) σ f g = some r) → ((s.data.toList == s'.data.toList && f.len == g.len) = false → r = none) →
  Calls Tryd.prog 61 #[.pointer (some ⟨ub, 0, none⟩), .agg #[.string s, .slice A f.len ca], .agg #[.string s', .slice B g.len cb]] w fun e w' => UpRes w lo hi ub mb db base σ tv r e w'
theorem UpS.below {w w' : World} {lo hi ub mb db base : Nat} {σ : Sub} {P : List (Addr × Addr)} {tv : Value} (h : UpS w lo hi ub mb db base σ P tv) (hb : Below w.heap.size w w') (ho : UpO lo hi ub mb db base) (hbs : base ≤ w.heap.size) : UpS w' lo hi ub mb db base σ P tv := by
  obtain ⟨hU, hP, hD, h1, h2⟩ := h
  obtain ⟨o1, o2, o3, o4⟩ := ho
  obtain ⟨es, clock, he, hr⟩ := hP
  exact ⟨hU.below hb (by omega), ⟨es, clock, (hb.block db (by omega)).trans he, PdE.keep (fun p ⟨t, cs, h⟩ => ⟨t, cs, h.below hb h.lt⟩) _ _ hr⟩, hD.keep fun p _ hp => hb.cell (by omega), h1, h2⟩
/-- Success without a binding. -/
theorem UpS.done {w w' : World} {lo hi ub mb db base : Nat} {σ : Sub} {P : List (Addr × Addr)} {tv : Value} (h : UpS w lo hi ub mb db base σ P tv) (hb : Below w.heap.size w w') (ho : UpO lo hi ub mb db base) (hbs : base ≤ w.heap.size) : UpRes w lo hi ub mb db base σ tv (some σ) (.returned (.bool true)) w' :=
  ⟨σ, P, tv, rfl, h.below hb ho hbs, .inr rfl, ⟨[], rfl⟩, .of_below hb _, fun _ hx => .inl hx⟩
/-- Failure without a binding. -/
theorem UpS.fails {w w' : World} {lo hi ub mb db base : Nat} {σ : Sub} {P : List (Addr × Addr)} {tv : Value} (h : UpS w lo hi ub mb db base σ P tv) (hb : Below w.heap.size w w') (ho : UpO lo hi ub mb db base) (hbs : base ≤ w.heap.size) : UpRes w lo hi ub mb db base σ tv none (.returned (.bool false)) w' :=
  ⟨σ, P, tv, rfl, h.below hb ho hbs, .inl rfl, ⟨[], rfl⟩, .of_below hb _, fun _ hx => .inl hx⟩
end Go.Proofs.YtkefpickpjjllaaDoor.Full

/- slices.Clone and slices.Sort of variables. No condition. -/
namespace Go.Proofs.YtkefpickpjjllaaDoor
open Go.RowKit Go.Sort

theorem clone_any (w : World) (T : List Int) (tv : Value) (base : Nat) (ho : w.ownsRow base 67 1 tv T.length (T.map (Value.int .i64))) (hT : T.length ≤ 1000) :
    Calls Tryd.prog 43 #[tv] w fun e w' => ∃ v', e = .returned v' ∧ w'.ownsRow w.heap.size 67 1 v' T.length (T.map (Value.int .i64)) ∧ Below w.heap.size w w' := by
  have ho' := ho
  rcases ho.2 with ⟨rfl, h1⟩ | ⟨g, cap, cur, rfl, hbg, hg, hnc, hcm, hcs, htake⟩
  · have h0 : T = [] := by
      cases T with
      | nil => rfl
      | cons a T => simp at h1
    subst h0
    refine (AnyG.slices_Clone_int_nil cloneL 0 0 w).mono ?_
    rintro e w' ⟨rfl, rfl⟩
    exact ⟨_, rfl, World.ownsRow_nil _ _ _ _, Below.refl _ _⟩
  · refine (AnyG.slices_Clone_int cloneL g 0 T.length cap T w (Nat.le_refl _) (by omega) fun j hj => ?_).mono ?_
    · have h3 := (World.ownsRow.cells ho' (g := g) rfl) j (.int .i64 (T.getD j 0)) (by simp [hj])
      have e : (⟨g, 0, none⟩ : Addr).add j = ⟨g, 0 + j, none⟩ := by unfold Addr.add; split <;> simp_all
      rwa [e] at h3
    · rintro e w' ⟨v', rfl, h1, _, h2⟩
      rw [List.take_length] at h1
      exact ⟨v', rfl, h1, h2⟩
theorem sort_any (w : World) (T : List Int) (v : Value) (base : Nat) (ho : w.ownsRow base 67 1 v T.length (T.map (Value.int .i64))) (hT : T.length ≤ 1000) :
    Calls Tryd.prog 44 #[v] w fun e w' => e = .returned (.tuple #[]) ∧ w'.ownsRow base 67 1 v T.length ((T.mergeSort fun x y => decide (x ≤ y)).map (Value.int .i64)) ∧ Wrote (ownV v) w w' := by
  rcases ho.2 with ⟨rfl, h1⟩ | ⟨g, cap, cur, rfl, hbg, hg, hnc, hcm, hcs, htake⟩
  · have h0 : T = [] := by
      cases T with
      | nil => rfl
      | cons a T => simp at h1
    subst h0
    refine (AnyM.slices_Sort_int_none sortL none 0 w).mono ?_
    rintro e w' ⟨rfl, rfl⟩
    exact ⟨rfl, by simpa using World.ownsRow_nil _ _ _ _, .refl _ _⟩
  · refine (AnyM.slices_Sort_int sortL g 0 cap T w (holds_of_blockI hg (by simpa using htake)) (Blk.lt hg) (by omega)).mono ?_
    rintro e w' ⟨rfl, n, os, rfl⟩
    have hg2 := grownBy_sortedI (w := w) (g := g) (n := n) (os := os) (T.mergeSort fun x y => decide (x ≤ y)).toArray
    exact ⟨rfl, ownsRow_sortedI (by simp) hbg hg hnc hcm hcs, ⟨hg2.os, hg2.tape, hg2.output, hg2.size, fun x hx hn => hg2.block x hx fun e => hn (by injection e with e; subst e; simp [ownV, Value.ownBlock])⟩⟩
end Go.Proofs.YtkefpickpjjllaaDoor

/- impl.unifier.bindings: what its loop keeps. No condition. -/
namespace Go.Proofs.YtkefpickpjjllaaDoor
open Go.RowKit Go.Maps

theorem PartB.rebase {w0 w wr : World} {ns : List Int} {f : Fr} {g k : Nat} (h : PartB w ns f g k wr) (hb : Below w0.heap.size w0 w) : PartB w0 ns f g k wr := by
  obtain ⟨cur, L, h1, h2, h3, h4, h5, h6, h7⟩ := h
  exact ⟨cur, L, h1, h2, h3, h4, h5, Nat.le_trans hb.size h6, hb.trans (h7.mono hb.size)⟩
theorem PartB.wrote {w wr wl : World} {ns : List Int} {f : Fr} {g k : Nat} {L' : List Nat} (h : PartB w ns f g k wr) (hw : Wrote L' wr wl) (hL : ∀ x ∈ L', w.heap.size ≤ x ∧ x < g) : PartB w ns f g k wl := by
  obtain ⟨cur, L, h1, h2, h3, h4, h5, h6, h7⟩ := h
  have hg : g ∉ L' := fun e => by have := (hL g e).2; omega
  refine ⟨cur, L, hw.blk h1 hg, h2, OwnB.keep _ _ g 0 L h3 (fun j _ => World.cell?_of_block (hw.block g h1.lt hg)) (fun x hx => hw.block x (h5 x hx).2 fun e => ?_), h4, fun x hx => ⟨(h5 x hx).1, Nat.lt_of_lt_of_le (h5 x hx).2 hw.size⟩, h6, h7.trans (hw.below h7.size fun x e => (hL x e).1)⟩
  have := (h5 x hx).1
  have := (hL x e).2
  omega
theorem PartB.lt {w wr : World} {ns : List Int} {f : Fr} {g k : Nat} (h : PartB w ns f g k wr) : g < wr.heap.size ∧ w.heap.size ≤ g := by
  obtain ⟨cur, L, h1, _, _, _, _, h6, _⟩ := h
  exact ⟨h1.lt, h6⟩
theorem rwL_drop (σ : Sub) : ∀ (ns : List Int) (j : Nat), j < ns.length → (rwL σ ns).drop j = .cons (fin σ (ns.getD j 0)).k (fin σ (ns.getD j 0)).n (fin σ (ns.getD j 0)).s (fin σ (ns.getD j 0)).f ((rwL σ ns).drop (j + 1))
  | [], j, h => absurd h (Nat.not_lt_zero _)
  | n :: ns, 0, _ => by
    cases ns <;> rfl
  | n :: ns, j + 1, h => by
    have := rwL_drop σ ns j (Nat.lt_of_succ_lt_succ h)
    simpa [rwL, Fr.drop] using this
theorem okL_take {σ : Sub} {ns : List Int} {j : Nat} (h : j < ns.length) : okL σ (ns.take (j + 1)) = (okL σ (ns.take j) && validT (fin σ (ns.getD j 0)).k (fin σ (ns.getD j 0)).n (fin σ (ns.getD j 0)).s (fin σ (ns.getD j 0)).f) := by rw [take_getD ns j h, okL_snoc]
theorem okL_bad {σ : Sub} {ns : List Int} {j : Nat} (h : j < ns.length) (hv : validT (fin σ (ns.getD j 0)).k (fin σ (ns.getD j 0)).n (fin σ (ns.getD j 0)).s (fin σ (ns.getD j 0)).f = false) : okL σ ns = false := by
  unfold okL
  rw [List.all_eq_false]
  exact ⟨ns.getD j 0, by rw [List.getD_eq_getElem?_getD, List.getElem?_eq_getElem h]; simp, by rw [hv]; simp⟩
/-- What bindings leaves. -/
def BisRes (w : World) (R : Option (List Int × Fr)) (e : Ending) (w' : World) : Prop :=
  (∃ ns f A, R = some (ns, f) ∧ e = .returned (.tuple #[.slice A f.len f.len, .bool true]) ∧ MadeB w ns f A f.len w') ∨
  (R = none ∧ e = .returned (.tuple #[.slice none 0 0, .bool false]) ∧ Below w.heap.size w w')
/-- The loop: j bindings are in the list in block g; w2 is the world ahead of the resolver. -/
def BiP (w2 : World) (lo hi mb rs qb g : Nat) (σ : Sub) (ns : List Int) (j : Nat) (wr : World) : Prop :=
  ∃ G, RsI lo hi mb rs qb σ wr () [qb] G ∧ (∀ x ∈ G, g < x) ∧ PartB w2 ns (rwL σ ns) g j wr ∧ okL σ (ns.take j) = true
/-- Behind the call of resolve and of validTermOf: the term is there, in old order. -/
theorem BiP.step {w2 wr w3 w4 : World} {lo hi mb rs qb g j : Nat} {σ : Sub} {ns : List Int} {G G3 : List Nat} {A : Option Addr} {c : Nat} {m : Nd}
    (hj : j < ns.length) (hm : fin σ (ns.getD j 0) = m) (hval : validT m.k m.n m.s m.f = true) (hrng : InI (ns.getD j 0)) (hbb : hi ≤ mb) (hq : w2.heap.size ≤ qb ∧ qb < g ∧ rs < g ∧ mb < g ∧ hi ≤ g) (hok : okL σ (ns.take j) = true) (hGg : ∀ x ∈ G, g < x)
    (hp : PartB w2 ns (rwL σ ns) g j wr) (hw3 : Wrote [qb] wr w3) (hI3 : RsI lo hi mb rs qb σ w3 () [qb] G3) (hg3 : ∀ y ∈ G3, y ∈ G ∨ wr.heap.size ≤ y) (hmd : Made w3 m.f A c w4) :
    BiP w2 lo hi mb rs qb g σ ns (j + 1) ((((((w4.alloc (.cells #[.int .i64 m.k, .int .i64 m.n, .string m.s, .slice A m.f.len c] 31)).setCell ⟨g, j * 5, none⟩ (.int .i64 (ns.getD j 0))).setCell ⟨g, j * 5 + 1, none⟩ (.int .i64 m.k)).setCell ⟨g, j * 5 + 2, none⟩ (.int .i64 m.n)).setCell ⟨g, j * 5 + 3, none⟩ (.string m.s)).setCell ⟨g, j * 5 + 4, none⟩ (.slice A m.f.len c)) := by
  have hlt := hp.lt
  have hs3 := hw3.size
  have hp3 := hp.wrote hw3 fun x hx => by simp at hx; omega
  have hd4 := made_below hmd
  have hb5 : Below w4.heap.size w4 (w4.alloc (.cells #[.int .i64 m.k, .int .i64 m.n, .string m.s, .slice A m.f.len c] 31)) := (Below.refl _ _).alloc (Nat.le_refl _) _
  have hm5 : Made w3 m.f A c (w4.alloc (.cells #[.int .i64 m.k, .int .i64 m.n, .string m.s, .slice A m.f.len c] 31)) := by
    obtain ⟨L, ho, hn, hl, hb⟩ := hmd
    exact ⟨L, ho.below hb5 ho.lt, hn, fun x hx => ⟨(hl x hx).1, Nat.lt_of_lt_of_le (hl x hx).2 hb5.size⟩, hb.trans (hb5.mono hb.size)⟩
  have hdr := rwL_drop σ ns j hj
  rw [hm] at hdr
  have hsh : shapeT m.k m.n m.s m.f 30 = true := by unfold validT at hval; rw [Bool.and_eq_true] at hval; exact hval.1
  have hstep := hp3.step (rwL_len σ ns).symm hdr (by rw [rwL_len]; exact hj) hrng (shapeT_small hsh).1 hm5
  have hg3' : ∀ x ∈ G3, g < x := fun x hx => by
    rcases hg3 x hx with h | h
    · exact hGg x h
    · omega
  have hwg : Wrote [g] w3 ((((((w4.alloc (.cells #[.int .i64 m.k, .int .i64 m.n, .string m.s, .slice A m.f.len c] 31)).setCell ⟨g, j * 5, none⟩ (.int .i64 (ns.getD j 0))).setCell ⟨g, j * 5 + 1, none⟩ (.int .i64 m.k)).setCell ⟨g, j * 5 + 2, none⟩ (.int .i64 m.n)).setCell ⟨g, j * 5 + 3, none⟩ (.string m.s)).setCell ⟨g, j * 5 + 4, none⟩ (.slice A m.f.len c)) :=
    (((((Wrote.of_below (hd4.trans (hb5.mono hd4.size)) [g]).set_ (.inl (by simp)) _).set_ (.inl (by simp)) _).set_ (.inl (by simp)) _).set_ (.inl (by simp)) _).set_ (.inl (by simp)) _
  refine ⟨G3, hI3.keep hbb hwg fun x hx => ?_, hg3', hstep, ?_⟩
  · obtain rfl : x = g := by simpa using hx
    refine ⟨by simp; omega, fun e => by have := hg3' _ e; omega, ?_⟩
    rintro (h | h | h) <;> omega
  · rw [okL_take hj, hok, hm, hval]; rfl
end Go.Proofs.YtkefpickpjjllaaDoor

/- impl.unifier.unifyParts, from the contract of unifyKids. Condition: the nodes lie in memory and are well-formed. -/
namespace Go.Proofs.YtkefpickpjjllaaDoor.Full
open Go.RowKit Go.Maps

theorem pdE_keep {w w' : World} : ∀ (es : List MapEntry) (P : List (Addr × Addr)), (∀ x ∈ P, (Lies w x.1 → Lies w' x.1) ∧ (Lies w x.2 → Lies w' x.2)) → PdE w es P → PdE w' es P
  | [], _, _, h => h
  | _ :: es, _, hk, ⟨p', q', P', e, a, b, c, d, h⟩ => by
    subst e
    have h1 := hk (p', q') (by simp)
    exact ⟨p', q', P', rfl, a, b, h1.1 c, h1.2 d, pdE_keep es P' (fun x hx => hk x (by simp [hx])) h⟩
/-- What is done is so behind a call that writes only the unifier. -/
theorem done_kept {w w' : World} {lo hi ub mb db base : Nat} {σ : Sub} {P : List (Addr × Addr)} (hP : PdM w db P) (hD : DnP w lo hi σ P) (ho : UpO lo hi ub mb db base) {tv : Value} (hv : ∀ x ∈ ownV tv, base ≤ x) (hbs : base ≤ w.heap.size) (hk : Wrote (ub :: mb :: ownV tv) w w') : PdM w' db P ∧ DnP w' lo hi σ P := by
  obtain ⟨o1, ⟨o2, o3, o4⟩, ⟨o5, o6, o7⟩, o8, o9, o10⟩ := ho
  have hno : ∀ x, x < base → x ≠ ub → x ≠ mb → x ∉ ub :: mb :: ownV tv := fun x hx h1 h2 h => by
    rcases List.mem_cons.1 h with h | h
    · exact h1 h
    · rcases List.mem_cons.1 h with h | h
      · exact h2 h
      · have := hv x h; omega
  have hblk : ∀ x, x < hi → w'.heap[x]? = w.heap[x]? := fun x hx => hk.block x (by omega) (hno x (by omega) (by omega) (by omega))
  obtain ⟨es, clock, he, hr⟩ := hP
  refine ⟨⟨es, clock, (hk.block db (by omega) (hno db o10 (by omega) (by omega))).trans he, pdE_keep _ _ (fun x hx => ?_) hr⟩, hD.keep fun p _ hp => World.cell?_of_block (hblk p.block hp)⟩
  obtain ⟨f, g, b, b', e, h1, h2, _⟩ := hD x hx
  subst e
  exact ⟨fun ⟨t, cs, h⟩ => ⟨t, cs, (hblk b h1.2).trans h⟩, fun ⟨t, cs, h⟩ => ⟨t, cs, (hblk b' h2.2).trans h⟩⟩
/-- What bind leaves, as a call of unifyParts. -/
theorem up_of_bind {w w' : World} {lo hi ub mb db base : Nat} {σ : Sub} {P : List (Addr × Addr)} {v : Int} {m : Nd} {r : Option Sub} {e : Ending} (hP : PdM w db P) (hD : DnP w lo hi σ P) (h1 : Ok2 σ) (h2 : BiS 26 σ) (ho : UpO lo hi ub mb db base)
    (hv : lk σ v = none) (hvr : 0 ≤ v ∧ v ≤ 25) (hwk : m.k = 1 → lk σ m.n = none) (hwv : wvN m) (hoc : ∀ y, occN m y → InB 26 y)
    (hr : occN (suN (fin σ) m) v → r = none) (hr2 : ¬ occN (suN (fin σ) m) v → r = some ((v, m) :: σ)) {tv : Value} (htv : ∀ x ∈ ownV tv, base ≤ x) (hbs : base ≤ w.heap.size) (h : BnRes w lo hi ub mb db base σ (trl σ) tv v m e w') : UpRes w lo hi ub mb db base σ tv r e w' := by
  obtain ⟨b, tv2, rfl, hb, ht, hf, hk, hown⟩ := h
  obtain ⟨hP', hD'⟩ := done_kept hP hD ho htv hbs hk
  have hk' : Wrote (ub :: mb :: db :: ownV tv) w w' := ⟨hk.os, hk.tape, hk.output, hk.size, fun x hx hn => hk.block x hx fun h => hn (by
    simp only [List.mem_cons] at h ⊢
    rcases h with h | h | h
    · exact .inl h
    · exact .inr (.inl h)
    · exact .inr (.inr (.inr h)))⟩
  cases b with
  | true =>
    have hno := hb.1 rfl
    rw [hr2 hno]
    refine ⟨(v, m) :: σ, P, tv2, rfl, ⟨by rw [trl_cons]; exact ht rfl, hP', hD'.bind v m, ⟨hv, hwv, hno, hwk, h1⟩, h2.cons ⟨hvr.1, by omega⟩ hoc⟩, .inr rfl, ⟨[(v, m)], rfl⟩, hk', hown⟩
  | false =>
    have hyes : occN (suN (fin σ) m) v := by
      by_cases h : occN (suN (fin σ) m) v
      · exact h
      · exact absurd (hb.2 h) (by simp)
    rw [hr hyes]
    exact ⟨σ, P, tv2, rfl, ⟨hf rfl, hP', hD', h1, h2⟩, .inl rfl, ⟨[], rfl⟩, hk', hown⟩
end Go.Proofs.YtkefpickpjjllaaDoor.Full
