/- Where the comparison of two nodes is 0, the terms are the same: plain mathematics. No condition. -/
import Derived.Test.YtplmkighekjipaaDoorZmA42
import Derived.Test.YtplmkighekjipaaDoorZmA28
import Derived.Test.YtplmkighekjipaaDoorProg
import Derived.Test.YtplmkighekjipaaDoorZmA23
import Derived.Test.YtplmkighekjipaaDoorZmA41
import Derived.Test.YtplmkighekjipaaDoorTo
import Derived.Test.YtplmkighekjipaaDoorZmA40
import Derived.Test.YtplmkighekjipaaDoorZmA43
import Derived.Deep.RegionHeld3
namespace Go.Proofs.YtplmkighekjipaaDoor
open Go.RowKit

theorem cmpH_zero {k n : Int} {s : ByteArray} {f : Fr} {k' n' : Int} {s' : ByteArray} {g : Fr} {d d' : Int} (h : shapeT k n s f d = true) (h' : shapeT k' n' s' g d' = true) (hc : f.len = g.len → (cmpF f g = 0 ↔ eqF f g = true)) :
    cmpT k n s f k' n' s' g = 0 ↔ eqT k n s f k' n' s' g = true := by
  have r := shapeT_kind h
  have r' := shapeT_kind h'
  have hz := lessI_zero
  unfold cmpT cmpH eqT
  simp only [Bool.and_eq_true, beq_iff_eq]
  by_cases e : k = 3
  · by_cases e' : k' = 3
    · subst e e'
      obtain ⟨rfl, _⟩ := shapeT_struct h
      obtain ⟨rfl, _⟩ := shapeT_struct h'
      by_cases el : f.len = g.len
      · rw [if_pos (show rankT 3 f.len = rankT 3 g.len by rw [el]), if_pos rfl, if_pos (by rw [el])]
        have hn : s.toList = s'.toList ↔ s.data.toList = s'.data.toList := by rw [ByteArray.toList_eq, ByteArray.toList_eq]
        have hl := lessS_zero s s'
        rw [beq_iff_eq] at hl
        by_cases en : s.toList = s'.toList
        · rw [if_pos en, hc el]
          constructor
          · intro h; exact ⟨rfl, rfl, hn.1 en, h⟩
          · rintro ⟨_, _, _, h⟩; exact h
        · rw [if_neg en, hl]
          constructor
          · intro h; exact absurd h en
          · rintro ⟨_, _, h, _⟩; exact absurd (hn.2 h) en
      · have hne : ¬ eqF f g = true := fun h => el (eqF_len f g h)
        by_cases er : rankT 3 f.len = rankT 3 g.len
        · rw [if_pos er, if_pos rfl, if_neg el, hz]
          constructor
          · intro h; omega
          · rintro ⟨_, _, _, h⟩; exact absurd h hne
        · rw [if_neg er, hz]
          constructor
          · intro h; exact absurd h er
          · rintro ⟨_, _, _, h⟩; exact absurd h hne
    · subst e
      have hr : rankT 3 f.len ≠ rankT k' g.len := by
        unfold rankT
        rw [if_neg (show ¬ (k' = 3 ∧ 0 < g.len) from fun h => e' h.1)]
        split <;> omega
      rw [if_neg hr, hz]
      constructor
      · intro h; exact absurd h hr
      · rintro ⟨h, _⟩; exact absurd h.symm e'
  · obtain ⟨rfl, rfl, _⟩ := shapeT_leaf h e
    have q : rankT k Fr.nil.len = k := by unfold rankT; rw [if_neg (fun h => e h.1)]
    by_cases e' : k' = 3
    · subst e'
      have hr : rankT k Fr.nil.len ≠ rankT 3 g.len := by
        rw [q]
        unfold rankT
        split <;> omega
      rw [if_neg hr, hz]
      constructor
      · intro h; exact absurd h hr
      · rintro ⟨h, _⟩; exact absurd h e
    · obtain ⟨rfl, rfl, _⟩ := shapeT_leaf h' e'
      have q' : rankT k' Fr.nil.len = k' := by unfold rankT; rw [if_neg (fun h => e' h.1)]
      rw [q, q']
      by_cases ek : k = k'
      · rw [if_pos ek, if_neg e, hz]
        constructor
        · intro h; exact ⟨ek, h, rfl, rfl⟩
        · rintro ⟨_, h, _⟩; exact h
      · rw [if_neg ek, hz]
        constructor
        · intro h; exact absurd h ek
        · rintro ⟨h, _⟩; exact absurd h ek
theorem cmpF_zero (f : Fr) : ∀ (g : Fr) (d d' : Int), shapeF f d = true → shapeF g d' = true → f.len = g.len → (cmpF f g = 0 ↔ eqF f g = true) := by
  induction f with
  | nil =>
    intro g d d' _ _ hl
    cases g with
    | nil => exact ⟨fun _ => rfl, fun _ => rfl⟩
    | cons _ _ _ _ _ => simp [Fr.len] at hl
  | cons k n s kids rest ihk ihr =>
    intro g d d' hf hg hl
    cases g with
    | nil => simp [Fr.len] at hl
    | cons k' n' s' kids' rest' =>
      rw [shapeF_cons, Bool.and_eq_true] at hf hg
      simp only [Fr.len] at hl
      have h1 := cmpH_zero hf.1 hg.1 fun hl => ihk kids' (d - 1) (d' - 1) (shapeT_kids hf.1) (shapeT_kids hg.1) hl
      have h2 := ihr rest' d d' hf.2 hg.2 (by omega)
      rw [cmpF_cons]
      have e : eqF (.cons k n s kids rest) (.cons k' n' s' kids' rest') = (eqT k n s kids k' n' s' kids' && eqF rest rest') := by simp only [eqF, eqT, Bool.and_assoc]
      rw [e, Bool.and_eq_true]
      split
      · rename_i h
        rw [h2]
        exact ⟨fun h' => ⟨h1.1 h, h'⟩, fun h' => h'.2⟩
      · rename_i h
        exact ⟨fun h' => absurd h' h, fun h' => absurd (h1.2 h'.1) h⟩
/-- The comparison is 0 just where the terms are the same. -/
theorem cmpT_zero {k n : Int} {s : ByteArray} {f : Fr} {k' n' : Int} {s' : ByteArray} {g : Fr} {d d' : Int} (h : shapeT k n s f d = true) (h' : shapeT k' n' s' g d' = true) : (cmpT k n s f k' n' s' g == 0) = eqT k n s f k' n' s' g := by
  rw [Bool.eq_iff_iff, beq_iff_eq]
  exact cmpH_zero h h' fun hl => cmpF_zero f g (d - 1) (d' - 1) (shapeT_kids h) (shapeT_kids h') hl
end Go.Proofs.YtplmkighekjipaaDoor

/- impl.nodesOfBoth. Condition: the terms lie in memory, the table of signs in its variable. -/
namespace Go.Proofs.YtplmkighekjipaaDoor
open Go.RowKit

def BothRes (w : World) (k n : Int) (s : ByteArray) (f : Fr) (k' n' : Int) (s' : ByteArray) (g : Fr) (e : Ending) (w' : World) : Prop :=
  Below w.heap.size w w' ∧ (((validT k n s f = true ∧ validT k' n' s' g = true) ∧ ∃ v v', e = .returned (.tuple #[v, v', .bool true]) ∧ NdV w' 0 w'.heap.size k n s f v ∧ NdV w' 0 w'.heap.size k' n' s' g v') ∨
    (¬ (validT k n s f = true ∧ validT k' n' s' g = true) ∧ e = .returned (.tuple #[.nilIface, .nilIface, .bool false])))

set_option maxRecDepth 100000 in
set_option maxHeartbeats 2000000 in
/-- impl.nodesOfBoth. -/
theorem both_any (k n : Int) (s : ByteArray) (f : Fr) (k' n' : Int) (s' : ByteArray) (g : Fr) (A B : Option Addr) (cap cap' lo hi lo' hi' : Nat) (w : World)
    (hk : KidsAt w lo hi f A cap) (hk' : KidsAt w lo' hi' g B cap') (hh : hi ≤ w.heap.size) (hh' : hi' ≤ w.heap.size) (hf : Fits k n s) (hf' : Fits k' n' s') (hnd : nodes f ≤ 1048576) (hnd' : nodes g ≤ 1048576) (ht : nv.Tab w) :
    Calls Tryd.prog 38 #[.agg #[.int .i64 k, .int .i64 n, .string s, .slice A f.len cap], .agg #[.int .i64 k', .int .i64 n', .string s', .slice B g.len cap']] w fun e w' => BothRes w k n s f k' n' s' g e w' := by
  have hlt := tab_lt ht
  have C1 := fun w1 (hb : Below w.heap.size w w1) => nodeOf_any k n s f A cap lo hi w1 (hk.below hb hh) (Nat.le_trans hh hb.size) hf hnd (tab_below ht hb hlt)
  have C2 := fun w1 (hb : Below w.heap.size w w1) => nodeOf_any k' n' s' g B cap' lo' hi' w1 (hk'.below hb hh') (Nat.le_trans hh' hb.size) hf' hnd' (tab_below ht hb hlt)
  have HT := Lib.hid (two_alloc w (.cells #[.int .i64 k, .int .i64 n, .string s, .slice A f.len cap] 28) (.cells #[.int .i64 k', .int .i64 n', .string s', .slice B g.len cap'] 28))
  have H1 := Lib.hid C1
  have H2 := Lib.hid C2
  clear C1 C2 hk hk' hh hh' hf hf' hnd hnd' ht
  go_enter Tryd.func38, Tryd.ntmps38
  go_wp2_with fail
  refine (H1.out _ HT.out).mono ?_
  rintro e w2 ⟨hb, hr⟩
  have hbw : Below w.heap.size w w2 := HT.out.trans (hb.mono HT.out.size)
  rcases hr with ⟨hok, v, rfl, hv⟩ | ⟨hok, rfl⟩
  · obtain ⟨_, _, _, _, b0, b1, b2, b3⟩ := box8 (hb.mono (by simp))
    have HB := Lib.hid hbw
    have HOK := Lib.hid hok
    have HV := Lib.hid hv
    obtain ⟨T1, x1, rfl⟩ := hv.iface
    clear hb hbw hok hv
    go_wp2_with fail
    refine (H2.out _ HB.out).mono ?_
    rintro e w3 ⟨hb, hr⟩
    have hbw : Below w.heap.size w w3 := HB.out.trans (hb.mono HB.out.size)
    rcases hr with ⟨hok', v', rfl, hv'⟩ | ⟨hok', rfl⟩
    · obtain ⟨T2, x2, rfl⟩ := hv'.iface
      have R : Hid (BothRes w k n s f k' n' s' g (.returned (.tuple #[.iface T1 x1, .iface T2 x2, .bool true])) w3) := Lib.hid ⟨hbw, .inl ⟨⟨HOK.out, hok'⟩, _, _, rfl, HV.out.keep (fun p _ hp => hb.cell hp) (Nat.zero_le _) hb.size, hv'.keep (fun _ _ _ => rfl) (Nat.zero_le _) (Nat.le_refl _)⟩⟩
      clear hb hbw hok' hv' b0 b1 b2 b3
      go_wp2_with fail
      go_ret3
      exact R.out
    · have R : Hid (BothRes w k n s f k' n' s' g (.returned (.tuple #[.nilIface, .nilIface, .bool false])) w3) := Lib.hid ⟨hbw, .inr ⟨(by rintro ⟨_, h⟩; rw [hok'] at h; cases h), rfl⟩⟩
      clear hb hbw hok' b0 b1 b2 b3
      go_wp2_with fail
      go_ret3
      exact R.out
  · have R : Hid (BothRes w k n s f k' n' s' g (.returned (.tuple #[.nilIface, .nilIface, .bool false])) w2) := Lib.hid ⟨hbw, .inr ⟨(by rintro ⟨h, _⟩; rw [hok] at h; cases h), rfl⟩⟩
    clear hb hbw hok
    go_wp2_with fail
    go_ret3
    exact R.out
end Go.Proofs.YtplmkighekjipaaDoor

/- What every law's walk shares. No condition. -/
namespace Go.Proofs.YtplmkighekjipaaDoor
open Go.RowKit

theorem nodes_le_wt (f : Fr) : nodes f ≤ f.len + wt f := by
  induction f with
  | nil => exact Nat.le_refl _
  | cons k n s kids rest h1 h2 => simp only [nodes, Fr.len, wt]; omega
theorem kids_of_made {w w' : World} {f : Fr} {A : Option Addr} {cap : Nat} (h : Made w f A cap w') : KidsAt w' w.heap.size w'.heap.size f A cap ∧ Below w.heap.size w w' := by
  obtain ⟨L, ho, _, hL, hb⟩ := h
  exact ⟨ho.kids hL, hb⟩

end Go.Proofs.YtplmkighekjipaaDoor

/- spec.VariantTerms, impl.VariantTerms. Condition: the terms lie in memory, the table of signs in its variable. -/
namespace Go.Proofs.YtplmkighekjipaaDoor
open Go.RowKit

/-- What both VariantTerms answer. -/
def vrC (k n : Int) (s : ByteArray) (f : Fr) (k' n' : Int) (s' : ByteArray) (g : Fr) : Bool := eqT k (renN (canV k n f) k n) s (renF (canV k n f) f) k' (renN (canV k' n' g) k' n') s' (renF (canV k' n' g) g)
def vrB (k n : Int) (s : ByteArray) (f : Fr) (k' n' : Int) (s' : ByteArray) (g : Fr) : Bool := validT k n s f && (validT k' n' s' g && vrC k n s f k' n' s' g)
/-- Both boxes lie there. -/
def VB (w : World) (a b : Array Value) (wk : World) : Prop := Below w.heap.size w wk ∧ Blk wk w.heap.size 28 a ∧ Blk wk (w.heap.size + 1) 28 b
theorem VB.next {w wk wl : World} {a b : Array Value} (h : VB w a b wk) (hb : Below wk.heap.size wk wl) : VB w a b wl := ⟨h.1.trans (hb.mono h.1.size), h.2.1.below hb h.2.1.lt, h.2.2.below hb h.2.2.lt⟩
theorem VB.drew {w wk : World} {a b : Array Value} (h : VB w a b wk) : VB w a b wk.drew := h.next (Below.refl _ _).drew
theorem VB.made (w : World) (a b : Array Value) : VB w a b ((w.alloc (.cells a 28)).alloc (.cells b 28)) := by
  refine ⟨two_alloc w _ _, (Blk.new w _ _).alloc _, ?_⟩
  have h := Blk.new (w.alloc (.cells a 28)) 28 b
  simpa using h
theorem VB.cells {w wk : World} {x0 x1 x2 x3 y0 y1 y2 y3 : Value} (h : VB w #[x0, x1, x2, x3] #[y0, y1, y2, y3] wk) : wk.cell? ⟨w.heap.size, 0, none⟩ = some x0 ∧ wk.cell? ⟨w.heap.size, 1, none⟩ = some x1 ∧ wk.cell? ⟨w.heap.size, 2, none⟩ = some x2 ∧ wk.cell? ⟨w.heap.size, 3, none⟩ = some x3 ∧
    wk.cell? ⟨w.heap.size + 1, 0, none⟩ = some y0 ∧ wk.cell? ⟨w.heap.size + 1, 1, none⟩ = some y1 ∧ wk.cell? ⟨w.heap.size + 1, 2, none⟩ = some y2 ∧ wk.cell? ⟨w.heap.size + 1, 3, none⟩ = some y3 := by
  obtain ⟨a0, a1, a2, a3⟩ := cells4i h.2.1
  obtain ⟨b0, b1, b2, b3⟩ := cells4i h.2.2
  exact ⟨a0, a1, a2, a3, b0, b1, b2, b3⟩

end Go.Proofs.YtplmkighekjipaaDoor

/- impl.sameNode. Condition: the nodes lie in memory and are well-formed. -/
namespace Go.Proofs.YtplmkighekjipaaDoor
open Go.RowKit

set_option maxRecDepth 100000 in
/-- impl.sameNode. -/
theorem sameNode_any (k n : Int) (s : ByteArray) (f : Fr) (k' n' : Int) (s' : ByteArray) (g : Fr) (d : Int) (v v' : Value) (lo hi lo' hi' : Nat) (w : World) (h : shapeT k n s f d = true) (h' : shapeT k' n' s' g d = true) (hv : NdV w lo hi k n s f v) (hv' : NdV w lo' hi' k' n' s' g v') (hh : hi ≤ w.heap.size) (hh' : hi' ≤ w.heap.size) :
    Calls Tryd.prog 39 #[v, v'] w fun e w' => e = .returned (.bool (eqT k n s f k' n' s' g)) ∧ Below w.heap.size w w' := by
  have C1 := cmV_any s f s' g k n k' n' d v v' lo hi lo' hi' w h h' hv hv' hh hh'
  have hz := cmpT_zero h h'
  obtain ⟨T, x, rfl⟩ := hv.iface
  obtain ⟨T', x', rfl⟩ := hv'.iface
  generalize cmpT k n s f k' n' s' g = c at *
  generalize eqT k n s f k' n' s' g = b at *
  have H1 := Lib.hid C1
  have HZ := Lib.hid hz
  clear C1 hz hv hv' h h' hh hh'
  go_enter Tryd.func39, Tryd.ntmps39
  go_wp2_with fail
  refine H1.out.mono ?_
  rintro e w2 ⟨rfl, hb⟩
  have HB := Lib.hid hb
  clear hb
  go_wp2_with fail
  go_ret
  first
    | (rw [HZ.out]; exact ⟨rfl, HB.out⟩)
    | (refine ⟨?_, HB.out⟩; rw [← HZ.out])

end Go.Proofs.YtplmkighekjipaaDoor
