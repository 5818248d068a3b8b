/- impl's compareStructures, and the order of nodes whole. Condition: the nodes lie in memory. -/
import Derived.Test.YtkgihpddjppmdaaDoorProg
import Derived.Test.YtkgihpddjppmdaaDoorZmAB48
import Derived.Test.YtkgihpddjppmdaaDoorTermOf
import Derived.Test.YtkgihpddjppmdaaDoorImplV
import Derived.Test.YtkgihpddjppmdaaDoorZmAB44
import Derived.Maps.Own
import Derived.Maps.OwnOps
import Derived.Maps.OwnSet
namespace Go.Proofs.YtkgihpddjppmdaaDoor
open Go.RowKit

theorem box4 {w w' : World} {t : TypeId} {a b a' b' : Value} (hb : Below (w.heap.size + 2) ((w.alloc (.cells #[a, b] t)).alloc (.cells #[a', b'] t)) w') :
    w'.cell? ⟨w.heap.size, 0, none⟩ = some a ∧ w'.cell? ⟨w.heap.size, 1, none⟩ = some b ∧ w'.cell? ⟨w.heap.size + 1, 0, none⟩ = some a' ∧ w'.cell? ⟨w.heap.size + 1, 1, none⟩ = some b' := by
  have h1 := ((Blk.new w t #[a, b]).alloc (.cells #[a', b'] t)).below hb (by omega)
  have h0 := Blk.new (w.alloc (.cells #[a, b] t)) t #[a', b']
  rw [show (w.alloc (.cells #[a, b] t)).heap.size = w.heap.size + 1 by simp] at h0
  have h2 := h0.below hb (by omega)
  exact ⟨h1.cell 0, h1.cell 1, h2.cell 0, h2.cell 1⟩

theorem boxC {w w' : World} {t : TypeId} {a b a' b' : Value} (hb : Below (w.heap.size + 2) ((w.alloc (.cells #[a, b] t)).alloc (.cells #[a', b'] t)) w') : w'.cell? ⟨w.heap.size, 1, none⟩ = some b := (box4 hb).2.1
theorem boxD {w w' : World} {t : TypeId} {a b a' b' : Value} (hb : Below (w.heap.size + 2) ((w.alloc (.cells #[a, b] t)).alloc (.cells #[a', b'] t)) w') : w'.cell? ⟨w.heap.size + 1, 1, none⟩ = some b' := (box4 hb).2.2.2
/-- From c on, the rows F and G are in the order v. -/
def ContC (c : Int) (F G : Fr) (v : Int) : Prop := (if c = 0 then cmpF F G else c) = v

set_option maxRecDepth 100000 in
set_option maxHeartbeats 4000000 in
theorem cmSt_of (s : ByteArray) (f : Fr) (s' : ByteArray) (g : Fr) (h : ∀ i k n s kids rest k' n' s' kids' rest', f.drop i = .cons k n s kids rest → g.drop i = .cons k' n' s' kids' rest' → CmV s kids s' kids') : CmSt s f s' g := by
  intro d A B cap cap' lo hi lo' hi' w hs hs' hk hk' hh hh'
  have HK := Lib.hid hk
  have HK' := Lib.hid hk'
  have HH := Lib.hid h
  have HHI := Lib.hid hh
  have HHI' := Lib.hid hh'
  have HSH := Lib.hid hs
  have HSH' := Lib.hid hs'
  have hl := hk.1
  have hm := hk.2.1
  have hl' := hk'.1
  have hm' := hk'.2.1
  unfold maxLen at hm hm'
  clear hk hk' h hh hh' hs hs'
  have HE : Hid (cmpSt s f s' g = if firstOf (lessI f.len g.len) (lessS s s') = 0 then cmpF f g else firstOf (lessI f.len g.len) (lessS s s')) := Lib.hid rfl
  have HL : Hid (firstOf (lessI f.len g.len) (lessS s s') = 0 → f.len = g.len) := Lib.hid (fun h => by
    unfold firstOf at h
    by_cases h0 : lessI f.len g.len = 0
    · have := (lessI_zero _ _).1 h0; omega
    · rw [if_neg h0] at h; exact absurd h h0)
  have hz := fun i => (Blk.new ((w.alloc (.cells #[.string s, .slice A f.len cap] 84)).alloc (.cells #[.string s', .slice B g.len cap'] 84)) 3 #[.int .i64 (lessI f.len g.len), .int .i64 (lessS s s')]).cell i
  have HZ := Lib.hid hz
  clear hz
  generalize hv : cmpSt s f s' g = v at *
  have HC : Hid (ContC (firstOf (lessI f.len g.len) (lessS s s')) f g v) := Lib.hid HE.out.symm
  clear hv HE
  generalize hz0 : firstOf (lessI f.len g.len) (lessS s s') = z0 at *
  have HZ0 := Lib.hid hz0
  clear hz0
  go_enter Tryd.func50, Tryd.ntmps50
  go_wp2_with fail
  go_region_held3 (fun w' => w'.cell? ⟨w.heap.size, 0, none⟩ = some (.string s) ∧ w'.cell? ⟨w.heap.size, 1, none⟩ = some (.slice A f.len cap) ∧ w'.cell? ⟨w.heap.size + 1, 0, none⟩ = some (.string s') ∧ w'.cell? ⟨w.heap.size + 1, 1, none⟩ = some (.slice B g.len cap'))
    (first | exact box4 (t := 84) (by repeat (first | exact Below.refl _ _ | refine Below.drew ?_ | refine Below.alloc ?_ (by simp <;> omega) _)) | go_keep)
    (first
      | (go_at_call 47; refine (cmpInt_any _ _ _).mono ?_; rintro e w2 ⟨rfl, rfl⟩)
      | (go_at_call 59; refine (cmpStr_any _ _ _).mono ?_; rintro e w2 ⟨rfl, rfl⟩)
      | (go_at_call 58; refine (or_any (lessI f.len g.len) (lessS s s') _ _ ?_ ?_).mono ?_; (have hz := HZ.out 0; simpa using hz); (have hz := HZ.out 1; simpa using hz); rintro e w2 ⟨rfl, rfl⟩))
  rw [HZ0.out]
  go_wp2_with fail
  go_loopw [5, 6] (fun c i wr => ∃ (j : Nat) (z : Int), j ≤ f.len ∧ i = .int .i64 j ∧ c = .int .i64 z ∧ ContC z (f.drop j) (g.drop j) v ∧ (z = 0 → f.len = g.len) ∧ shapeF (f.drop j) d = true ∧ shapeF (g.drop j) d = true ∧
      wr.cell? ⟨w.heap.size, 1, none⟩ = some (.slice A f.len cap) ∧ wr.cell? ⟨w.heap.size + 1, 1, none⟩ = some (.slice B g.len cap') ∧ w.heap.size + 1 < wr.heap.size ∧ Below w.heap.size w wr) (fun _ i _ => f.len - (intOf i).toNat)
  case atStart => exact ⟨0, z0, Nat.zero_le _, rfl, rfl, HC.out, HL.out, HSH.out, HSH'.out, boxC (w := w) (t := 84) (a := .string s) (b := .slice A f.len cap) (a' := .string s') (b' := .slice B g.len cap') (by repeat (first | exact Below.refl _ _ | refine Below.drew ?_ | refine Below.alloc ?_ (by simp <;> omega) _)), boxD (w := w) (t := 84) (a := .string s) (b := .slice A f.len cap) (a' := .string s') (b' := .slice B g.len cap') (by repeat (first | exact Below.refl _ _ | refine Below.drew ?_ | refine Below.alloc ?_ (by simp <;> omega) _)), by simp <;> omega, (by repeat (first | exact Below.refl _ _ | refine Below.drew ?_ | refine Below.alloc ?_ (by simp <;> omega) _))⟩
  case round =>
    obtain ⟨j, z, hj, rfl, rfl, hc, hl0, hsh, hsh', q1, q2, hsz, hbw⟩ := hrel
    by_cases hz : z = 0
    · subst hz
      have hlen := hl0 rfl
      by_cases hlt : j < f.len
      · have hltg : j < g.len := by omega
        have HLEN := Lib.hid hlen
        clear hlen hl0
        obtain ⟨kk, nn, s1, kids, hd⟩ := Fr.drop_cons j f hlt
        obtain ⟨kk', nn', s1', kids', hd'⟩ := Fr.drop_cons j g hltg
        obtain ⟨b, rfl, hlb, hbb, hrow⟩ := HK.out.2.2 (by omega)
        obtain ⟨b', rfl, hlb', hbb', hrow'⟩ := HK'.out.2.2 (by omega)
        obtain ⟨x1, hx1, hn1⟩ := hrow.elem hd
        obtain ⟨x2, hx2, hn2⟩ := hrow'.elem hd'
        rw [Nat.zero_add] at hx1 hx2
        rw [hd] at hsh
        rw [hd'] at hsh'
        rw [shapeF_cons, Bool.and_eq_true] at hsh hsh'
        have hlo : (⟨b, j, none⟩ : Addr).block < w.heap.size := Nat.lt_of_lt_of_le hbb HHI.out
        have hlo' : (⟨b', j, none⟩ : Addr).block < w.heap.size := Nat.lt_of_lt_of_le hbb' HHI'.out
        have k0 := (hbw.cell (p := ⟨b, j, none⟩) hlo).trans hx1
        have j0 := (hbw.cell (p := ⟨b', j, none⟩) hlo').trans hx2
        have hcc : ContC 0 (.cons kk nn s1 kids (f.drop (j + 1))) (.cons kk' nn' s1' kids' (g.drop (j + 1))) v := by rw [← hd, ← hd']; exact hc
        have HCC : Hid (ContC (cmpT kk nn s1 kids kk' nn' s1' kids') (f.drop (j + 1)) (g.drop (j + 1)) v) := Lib.hid (by
          unfold ContC at hcc ⊢
          rw [if_pos rfl, cmpF_cons] at hcc
          exact hcc)
        have C1 : ∀ w1, Below wr.heap.size wr w1 → _ := fun w1 hb1 =>
          HH.out _ _ _ _ _ _ _ _ _ _ _ hd hd' kk nn kk' nn' d x1 x2 lo hi lo' hi' w1 hsh.1 hsh'.1 (hn1.keep (fun p _ hp => (hbw.trans (hb1.mono hbw.size)).cell (by have := HHI.out; omega)) (Nat.le_refl _) (Nat.le_refl _)) (hn2.keep (fun p _ hp => (hbw.trans (hb1.mono hbw.size)).cell (by have := HHI'.out; omega)) (Nat.le_refl _) (Nat.le_refl _))
            (Nat.le_trans HHI.out (hbw.trans (hb1.mono hbw.size)).size) (Nat.le_trans HHI'.out (hbw.trans (hb1.mono hbw.size)).size)
        generalize cmpT kk nn s1 kids kk' nn' s1' kids' = t at *
        have H1 := Lib.hid C1
        have HB := Lib.hid hbw
        have HS1 := Lib.hid hsh.2
        have HS2 := Lib.hid hsh'.2
        clear C1 hbw hc hcc hsh hsh' hx1 hx2 hn1 hn2 hrow hrow' hd hd' hlo hlo'
        go_wp2_with fail
        go_still_tail 10, (by kernel_rfl)
        change wpList _ _ _ _ _ wr.drew
        have hbd : Below wr.heap.size wr wr.drew := (Below.refl _ _).drew
        generalize wr.drew = w2 at hbd ⊢
        have HD := Lib.hid hbd
        clear hbd k0 j0
        go_wp2_with fail
        refine (H1.out _ HD.out).mono ?_
        rintro e w3 ⟨rfl, hb3⟩
        have h3 := HD.out.trans (hb3.mono HD.out.size)
        have q1' := (h3.cell (p := ⟨w.heap.size, 1, none⟩) (by simp only; omega)).trans q1
        have q2' := (h3.cell (p := ⟨w.heap.size + 1, 1, none⟩) (by simp only; omega)).trans q2
        have hsz' : w.heap.size + 1 < w3.heap.size := Nat.lt_of_lt_of_le hsz h3.size
        have HB3 := Lib.hid h3
        clear hb3 h3
        go_wp2_with fail
        go_roundw
        case rel => exact ⟨j + 1, t, by omega, by go_num, rfl, HCC.out, fun _ => HLEN.out, HS1.out, HS2.out, q1', q2', hsz', HB.out.trans (HB3.out.mono HB.out.size)⟩
        case measure => simp [intOf]; omega
      · obtain rfl : j = f.len := by omega
        have HE : Hid (v = 0) := Lib.hid (by
          have h1 := Fr.drop_len f
          unfold ContC at hc
          rw [if_pos rfl, h1] at hc
          rw [← hc]; rfl)
        have HB := Lib.hid hbw
        clear hbw hc hsh hsh' hl0 hlen
        go_wp2_with fail
        go_ret
        rw [HE.out]
        exact ⟨rfl, HB.out⟩
    · have HE : Hid (v = z) := Lib.hid (by
        unfold ContC at hc
        rw [if_neg hz] at hc
        exact hc.symm)
      have tz : (z == 0) = false := by rw [beq_eq_false_iff_ne]; exact hz
      have HB := Lib.hid hbw
      clear hbw hc hsh hsh' hl0 hz
      go_wp2_with fail
      go_ret
      rw [HE.out]
      exact ⟨rfl, HB.out⟩
theorem cv_all (N : Nat) : ∀ (s : ByteArray) (f : Fr) (s' : ByteArray) (g : Fr), f.size ≤ N → CmV s f s' g := by
  induction N with
  | zero =>
    intro s f s' g hf
    refine cmV_of s f s' g (cmSt_of s f s' g fun i k n s kids rest k' n' s' kids' rest' hd _ => ?_)
    have h1 := Fr.size_drop i f
    rw [hd] at h1
    simp only [Fr.size] at h1
    omega
  | succ N ih =>
    intro s f s' g hf
    refine cmV_of s f s' g (cmSt_of s f s' g fun i k n s kids rest k' n' s' kids' rest' hd _ => ih s kids s' kids' ?_)
    have h1 := Fr.size_drop i f
    rw [hd] at h1
    simp only [Fr.size] at h1
    omega
/-- impl's compareNodes. -/
theorem cmV_any (s : ByteArray) (f : Fr) (s' : ByteArray) (g : Fr) : CmV s f s' g := cv_all f.size s f s' g (Nat.le_refl _)
end Go.Proofs.YtkgihpddjppmdaaDoor

/- Where the comparison of two nodes is 0, the terms are the same: plain mathematics. No condition. -/
namespace Go.Proofs.YtkgihpddjppmdaaDoor
open Go.RowKit

theorem cmpH_zero {k n : Int} {s : ByteArray} {f : Fr} {k' n' : Int} {s' : ByteArray} {g : Fr} {d d' : Int} (h : shapeT k n s f d = true) (h' : shapeT k' n' s' g d' = true) (hc : f.len = g.len → (cmpF f g = 0 ↔ eqF f g = true)) :
    cmpT k n s f k' n' s' g = 0 ↔ eqT k n s f k' n' s' g = true := by
  have r := shapeT_kind h
  have r' := shapeT_kind h'
  have hz := lessI_zero
  unfold cmpT cmpH eqT
  simp only [Bool.and_eq_true, beq_iff_eq]
  by_cases e : k = 3
  · by_cases e' : k' = 3
    · subst e e'
      obtain ⟨rfl, _⟩ := shapeT_struct h
      obtain ⟨rfl, _⟩ := shapeT_struct h'
      by_cases el : f.len = g.len
      · rw [if_pos (show rankT 3 f.len = rankT 3 g.len by rw [el]), if_pos rfl, if_pos (by rw [el])]
        have hn : s.toList = s'.toList ↔ s.data.toList = s'.data.toList := by rw [ByteArray.toList_eq, ByteArray.toList_eq]
        have hl := lessS_zero s s'
        rw [beq_iff_eq] at hl
        by_cases en : s.toList = s'.toList
        · rw [if_pos en, hc el]
          constructor
          · intro h; exact ⟨rfl, rfl, hn.1 en, h⟩
          · rintro ⟨_, _, _, h⟩; exact h
        · rw [if_neg en, hl]
          constructor
          · intro h; exact absurd h en
          · rintro ⟨_, _, h, _⟩; exact absurd (hn.2 h) en
      · have hne : ¬ eqF f g = true := fun h => el (eqF_len f g h)
        by_cases er : rankT 3 f.len = rankT 3 g.len
        · rw [if_pos er, if_pos rfl, if_neg el, hz]
          constructor
          · intro h; omega
          · rintro ⟨_, _, _, h⟩; exact absurd h hne
        · rw [if_neg er, hz]
          constructor
          · intro h; exact absurd h er
          · rintro ⟨_, _, _, h⟩; exact absurd h hne
    · subst e
      have hr : rankT 3 f.len ≠ rankT k' g.len := by
        unfold rankT
        rw [if_neg (show ¬ (k' = 3 ∧ 0 < g.len) from fun h => e' h.1)]
        split <;> omega
      rw [if_neg hr, hz]
      constructor
      · intro h; exact absurd h hr
      · rintro ⟨h, _⟩; exact absurd h.symm e'
  · obtain ⟨rfl, rfl, _⟩ := shapeT_leaf h e
    have q : rankT k Fr.nil.len = k := by unfold rankT; rw [if_neg (fun h => e h.1)]
    by_cases e' : k' = 3
    · subst e'
      have hr : rankT k Fr.nil.len ≠ rankT 3 g.len := by
        rw [q]
        unfold rankT
        split <;> omega
      rw [if_neg hr, hz]
      constructor
      · intro h; exact absurd h hr
      · rintro ⟨h, _⟩; exact absurd h e
    · obtain ⟨rfl, rfl, _⟩ := shapeT_leaf h' e'
      have q' : rankT k' Fr.nil.len = k' := by unfold rankT; rw [if_neg (fun h => e' h.1)]
      rw [q, q']
      by_cases ek : k = k'
      · rw [if_pos ek, if_neg e, hz]
        constructor
        · intro h; exact ⟨ek, h, rfl, rfl⟩
        · rintro ⟨_, h, _⟩; exact h
      · rw [if_neg ek, hz]
        constructor
        · intro h; exact absurd h ek
        · rintro ⟨h, _⟩; exact absurd h ek
theorem cmpF_zero (f : Fr) : ∀ (g : Fr) (d d' : Int), shapeF f d = true → shapeF g d' = true → f.len = g.len → (cmpF f g = 0 ↔ eqF f g = true) := by
  induction f with
  | nil =>
    intro g d d' _ _ hl
    cases g with
    | nil => exact ⟨fun _ => rfl, fun _ => rfl⟩
    | cons _ _ _ _ _ => simp [Fr.len] at hl
  | cons k n s kids rest ihk ihr =>
    intro g d d' hf hg hl
    cases g with
    | nil => simp [Fr.len] at hl
    | cons k' n' s' kids' rest' =>
      rw [shapeF_cons, Bool.and_eq_true] at hf hg
      simp only [Fr.len] at hl
      have h1 := cmpH_zero hf.1 hg.1 fun hl => ihk kids' (d - 1) (d' - 1) (shapeT_kids hf.1) (shapeT_kids hg.1) hl
      have h2 := ihr rest' d d' hf.2 hg.2 (by omega)
      rw [cmpF_cons]
      have e : eqF (.cons k n s kids rest) (.cons k' n' s' kids' rest') = (eqT k n s kids k' n' s' kids' && eqF rest rest') := by simp only [eqF, eqT, Bool.and_assoc]
      rw [e, Bool.and_eq_true]
      split
      · rename_i h
        rw [h2]
        exact ⟨fun h' => ⟨h1.1 h, h'⟩, fun h' => h'.2⟩
      · rename_i h
        exact ⟨fun h' => absurd h' h, fun h' => absurd (h1.2 h'.1) h⟩
/-- The comparison is 0 just where the terms are the same. -/
theorem cmpT_zero {k n : Int} {s : ByteArray} {f : Fr} {k' n' : Int} {s' : ByteArray} {g : Fr} {d d' : Int} (h : shapeT k n s f d = true) (h' : shapeT k' n' s' g d' = true) : (cmpT k n s f k' n' s' g == 0) = eqT k n s f k' n' s' g := by
  rw [Bool.eq_iff_iff, beq_iff_eq]
  exact cmpH_zero h h' fun hl => cmpF_zero f g (d - 1) (d' - 1) (shapeT_kids h) (shapeT_kids h') hl
end Go.Proofs.YtkgihpddjppmdaaDoor

/- impl.nodesOfBoth. Condition: the terms lie in memory, the table of signs in its variable. -/
namespace Go.Proofs.YtkgihpddjppmdaaDoor
open Go.RowKit

def BothRes (w : World) (k n : Int) (s : ByteArray) (f : Fr) (k' n' : Int) (s' : ByteArray) (g : Fr) (e : Ending) (w' : World) : Prop :=
  Below w.heap.size w w' ∧ (((validT k n s f = true ∧ validT k' n' s' g = true) ∧ ∃ v v', e = .returned (.tuple #[v, v', .bool true]) ∧ NdV w' 0 w'.heap.size k n s f v ∧ NdV w' 0 w'.heap.size k' n' s' g v') ∨
    (¬ (validT k n s f = true ∧ validT k' n' s' g = true) ∧ e = .returned (.tuple #[.nilIface, .nilIface, .bool false])))

set_option maxRecDepth 100000 in
set_option maxHeartbeats 2000000 in
/-- impl.nodesOfBoth. -/
theorem both_any (k n : Int) (s : ByteArray) (f : Fr) (k' n' : Int) (s' : ByteArray) (g : Fr) (A B : Option Addr) (cap cap' lo hi lo' hi' : Nat) (w : World)
    (hk : KidsAt w lo hi f A cap) (hk' : KidsAt w lo' hi' g B cap') (hh : hi ≤ w.heap.size) (hh' : hi' ≤ w.heap.size) (hf : Fits k n s) (hf' : Fits k' n' s') (hnd : nodes f ≤ 1048576) (hnd' : nodes g ≤ 1048576) (ht : nv.Tab w) :
    Calls Tryd.prog 21 #[.agg #[.int .i64 k, .int .i64 n, .string s, .slice A f.len cap], .agg #[.int .i64 k', .int .i64 n', .string s', .slice B g.len cap']] w fun e w' => BothRes w k n s f k' n' s' g e w' := by
  have hlt := tab_lt ht
  have C1 := fun w1 (hb : Below w.heap.size w w1) => nodeOf_any k n s f A cap lo hi w1 (hk.below hb hh) (Nat.le_trans hh hb.size) hf hnd (tab_below ht hb hlt)
  have C2 := fun w1 (hb : Below w.heap.size w w1) => nodeOf_any k' n' s' g B cap' lo' hi' w1 (hk'.below hb hh') (Nat.le_trans hh' hb.size) hf' hnd' (tab_below ht hb hlt)
  have HT := Lib.hid (two_alloc w (.cells #[.int .i64 k, .int .i64 n, .string s, .slice A f.len cap] 25) (.cells #[.int .i64 k', .int .i64 n', .string s', .slice B g.len cap'] 25))
  have H1 := Lib.hid C1
  have H2 := Lib.hid C2
  clear C1 C2 hk hk' hh hh' hf hf' hnd hnd' ht
  go_enter Tryd.func21, Tryd.ntmps21
  go_wp2_with fail
  refine (H1.out _ HT.out).mono ?_
  rintro e w2 ⟨hb, hr⟩
  have hbw : Below w.heap.size w w2 := HT.out.trans (hb.mono HT.out.size)
  rcases hr with ⟨hok, v, rfl, hv⟩ | ⟨hok, rfl⟩
  · obtain ⟨_, _, _, _, b0, b1, b2, b3⟩ := box8 (hb.mono (by simp))
    have HB := Lib.hid hbw
    have HOK := Lib.hid hok
    have HV := Lib.hid hv
    obtain ⟨T1, x1, rfl⟩ := hv.iface
    clear hb hbw hok hv
    go_wp2_with fail
    refine (H2.out _ HB.out).mono ?_
    rintro e w3 ⟨hb, hr⟩
    have hbw : Below w.heap.size w w3 := HB.out.trans (hb.mono HB.out.size)
    rcases hr with ⟨hok', v', rfl, hv'⟩ | ⟨hok', rfl⟩
    · obtain ⟨T2, x2, rfl⟩ := hv'.iface
      have R : Hid (BothRes w k n s f k' n' s' g (.returned (.tuple #[.iface T1 x1, .iface T2 x2, .bool true])) w3) := Lib.hid ⟨hbw, .inl ⟨⟨HOK.out, hok'⟩, _, _, rfl, HV.out.keep (fun p _ hp => hb.cell hp) (Nat.zero_le _) hb.size, hv'.keep (fun _ _ _ => rfl) (Nat.zero_le _) (Nat.le_refl _)⟩⟩
      clear hb hbw hok' hv' b0 b1 b2 b3
      go_wp2_with fail
      go_ret3
      exact R.out
    · have R : Hid (BothRes w k n s f k' n' s' g (.returned (.tuple #[.nilIface, .nilIface, .bool false])) w3) := Lib.hid ⟨hbw, .inr ⟨(by rintro ⟨_, h⟩; rw [hok'] at h; cases h), rfl⟩⟩
      clear hb hbw hok' b0 b1 b2 b3
      go_wp2_with fail
      go_ret3
      exact R.out
  · have R : Hid (BothRes w k n s f k' n' s' g (.returned (.tuple #[.nilIface, .nilIface, .bool false])) w2) := Lib.hid ⟨hbw, .inr ⟨(by rintro ⟨h, _⟩; rw [hok] at h; cases h), rfl⟩⟩
    clear hb hbw hok
    go_wp2_with fail
    go_ret3
    exact R.out
end Go.Proofs.YtkgihpddjppmdaaDoor

/- impl.sameNode. Condition: the nodes lie in memory and are well-formed. -/
namespace Go.Proofs.YtkgihpddjppmdaaDoor
open Go.RowKit

set_option maxRecDepth 100000 in
/-- impl.sameNode. -/
theorem sameNode_any (k n : Int) (s : ByteArray) (f : Fr) (k' n' : Int) (s' : ByteArray) (g : Fr) (d : Int) (v v' : Value) (lo hi lo' hi' : Nat) (w : World) (h : shapeT k n s f d = true) (h' : shapeT k' n' s' g d = true) (hv : NdV w lo hi k n s f v) (hv' : NdV w lo' hi' k' n' s' g v') (hh : hi ≤ w.heap.size) (hh' : hi' ≤ w.heap.size) :
    Calls Tryd.prog 37 #[v, v'] w fun e w' => e = .returned (.bool (eqT k n s f k' n' s' g)) ∧ Below w.heap.size w w' := by
  have C1 := cmV_any s f s' g k n k' n' d v v' lo hi lo' hi' w h h' hv hv' hh hh'
  have hz := cmpT_zero h h'
  obtain ⟨T, x, rfl⟩ := hv.iface
  obtain ⟨T', x', rfl⟩ := hv'.iface
  generalize cmpT k n s f k' n' s' g = c at *
  generalize eqT k n s f k' n' s' g = b at *
  have H1 := Lib.hid C1
  have HZ := Lib.hid hz
  clear C1 hz hv hv' h h' hh hh'
  go_enter Tryd.func37, Tryd.ntmps37
  go_wp2_with fail
  refine H1.out.mono ?_
  rintro e w2 ⟨rfl, hb⟩
  have HB := Lib.hid hb
  clear hb
  go_wp2_with fail
  go_ret
  first
    | (rw [HZ.out]; exact ⟨rfl, HB.out⟩)
    | (refine ⟨?_, HB.out⟩; rw [← HZ.out])

end Go.Proofs.YtkgihpddjppmdaaDoor

/- A map of nodes as impl holds it; impl.alike. Condition: the nodes lie in memory and are well-formed. -/
namespace Go.Proofs.YtkgihpddjppmdaaDoor
open Go.RowKit Go.Maps

/-- A node as an element of a map: held as it is. -/
def heldR (v : Value) : Option (DataW Value × List MemPlace) := some (.held v, [])
theorem heldR_inv {v u : Value} {ps : List MemPlace} {z : DataW Value} (h : heldR v = some (z, ps)) (hz : z = .held u) : v = u := by
  unfold heldR at h
  subst hz
  injection h with h
  injection h with h _
  injection h
theorem zeroN (w : World) : (zeroValue 44).run Tryd.prog w = .ok .nilIface w := by kernel_rfl
theorem lawN : Keyed Tryd.prog 48 := int_keyed Tryd.underlying48
/-- The map in block mb holds the nodes of what st knows. -/
def MpS (w : World) (lo hi mb : Nat) (st : St) : Prop := ∃ D : DataW Value, w.ownsMap Tryd.prog 48 heldR mb st.length D ∧ IsMap D ∧ (∀ n, has D (.int .i64 n) = (lkS st n).isSome) ∧
  ∀ n m, lkS st n = some m → shapeT m.k m.n m.s m.f 30 = true ∧ ∃ v, D.atKey (.int .i64 n) (.held .nilIface) = .held v ∧ NdV w lo hi m.k m.n m.s m.f v
theorem MpS.wrote {w w' : World} {lo hi mb : Nat} {st : St} {L : List Nat} (h : MpS w lo hi mb st) (hb : Wrote L w w') (hg : mb ∉ L) (hh : hi ≤ w.heap.size) (hL : ∀ x ∈ L, hi ≤ x) : MpS w' lo hi mb st := by
  obtain ⟨D, hD, h1, h2, h3⟩ := h
  have hlt := hD.lt
  obtain ⟨es, clock, he, r⟩ := hD
  refine ⟨D, ⟨es, clock, (hb.block mb hlt hg).trans he, r⟩, h1, h2, fun n m hm => ?_⟩
  obtain ⟨a, v, b, c⟩ := h3 n m hm
  exact ⟨a, v, b, c.keep (fun p _ hp => hb.cell (by omega) fun e => by have := hL _ e; omega) (Nat.le_refl _) (Nat.le_refl _)⟩
theorem MpS.below {w w' : World} {lo hi mb : Nat} {st : St} (h : MpS w lo hi mb st) (hb : Below w.heap.size w w') (hh : hi ≤ w.heap.size) : MpS w' lo hi mb st := h.wrote (.of_below hb []) (by simp) hh (by simp)
theorem MpS.lt {w : World} {lo hi mb : Nat} {st : St} (h : MpS w lo hi mb st) : mb < w.heap.size := by
  obtain ⟨D, hD, _⟩ := h
  exact hD.lt
/-- One more. -/
theorem MpS.put {w w1 : World} {lo hi mb : Nat} {st : St} {D : DataW Value} {n : Int} {m : Nd} {v : Value} (h1 : IsMap D) (h2 : ∀ n, has D (.int .i64 n) = (lkS st n).isSome)
    (h3 : ∀ n m, lkS st n = some m → shapeT m.k m.n m.s m.f 30 = true ∧ ∃ v, D.atKey (.int .i64 n) (.held .nilIface) = .held v ∧ NdV w lo hi m.k m.n m.s m.f v) (hm : hi ≤ mb) (hh : hi ≤ w.heap.size)
    (hD : w1.ownsMap Tryd.prog 48 heldR mb (st.length + 1) (D.put (.int .i64 n) (.held v))) (hg : w.grownBy w1 (some mb)) (hs : shapeT m.k m.n m.s m.f 30 = true) (hv : NdV w lo hi m.k m.n m.s m.f v) : MpS w1 lo hi mb ((n, m) :: st) := by
  have far : ∀ p : Addr, lo ≤ p.block → p.block < hi → w1.cell? p = w.cell? p := fun p _ hp => World.cell?_of_block (hg.block p.block (by omega) (by simp; omega))
  refine ⟨_, hD, h1.put _ _, fun x => ?_, fun x o ho => ?_⟩
  · by_cases e : x = n
    · subst e
      rw [has_put_same h1 (show WideAt.IsKeyLit (.int .i64 x) from trivial), lkS_same]; rfl
    · rw [has_put_other (fun h => e (by injection h)), lkS_other _ _ _ _ e, h2]
  · by_cases e : x = n
    · subst e
      rw [lkS_same] at ho
      injection ho with ho
      subst ho
      exact ⟨hs, v, atKey_put_same h1 (show WideAt.IsKeyLit (.int .i64 x) from trivial) _ _, hv.keep far (Nat.le_refl _) (Nat.le_refl _)⟩
    · rw [lkS_other _ _ _ _ e] at ho
      obtain ⟨a, u, b, c⟩ := h3 x o ho
      exact ⟨a, u, (atKey_put_other (fun h => e (by injection h)) _ _).trans b, c.keep far (Nat.le_refl _) (Nat.le_refl _)⟩

set_option maxRecDepth 100000 in
/-- impl.alike. -/
theorem alike_any (s s' : ByteArray) (A B : Option Addr) (l l' cap cap' : Nat) (w : World) :
    Calls Tryd.prog 44 #[.agg #[.string s, .slice A l cap], .agg #[.string s', .slice B l' cap']] w fun e w' => e = .returned (.bool (s.data.toList == s'.data.toList && l == l')) ∧ Below w.heap.size w w' := by
  have HT := Lib.hid (two_alloc w (.cells #[.string s, .slice A l cap] 84) (.cells #[.string s', .slice B l' cap'] 84))
  by_cases h3 : s.data.toList = s'.data.toList
  · have t3 : (s.toList == s'.toList) = true := by rw [ByteArray.toList_eq, ByteArray.toList_eq, h3]; simp
    by_cases h4 : l = l'
    · subst h4
      have HV : Hid ((s.data.toList == s'.data.toList && l == l) = true) := Lib.hid (by rw [h3]; simp)
      have t5 : ((l : Int) == (l : Int)) = true := by simp
      generalize (s.data.toList == s'.data.toList && l == l) = r at *
      clear h3
      go_enter Tryd.func44, Tryd.ntmps44
      go_wp2_with fail
      go_ret
      rw [HV.out]; exact ⟨rfl, HT.out⟩
    · have HV : Hid ((s.data.toList == s'.data.toList && l == l') = false) := Lib.hid (by rw [show (l == l') = false by simpa using h4]; simp)
      have t5 : ((l : Int) == (l' : Int)) = false := by rw [beq_eq_false_iff_ne]; exact fun e => h4 (Int.ofNat.inj e)
      generalize (s.data.toList == s'.data.toList && l == l') = r at *
      clear h3 h4
      go_enter Tryd.func44, Tryd.ntmps44
      go_wp2_with fail
      go_ret
      rw [HV.out]; exact ⟨rfl, HT.out⟩
  · have HV : Hid ((s.data.toList == s'.data.toList && l == l') = false) := Lib.hid (by rw [show (s.data.toList == s'.data.toList) = false by simpa using h3]; rfl)
    have t3 : (s.toList == s'.toList) = false := by rw [ByteArray.toList_eq, ByteArray.toList_eq]; simpa using h3
    generalize (s.data.toList == s'.data.toList && l == l') = r at *
    clear h3
    go_enter Tryd.func44, Tryd.ntmps44
    go_wp2_with fail
    go_ret
    rw [HV.out]; exact ⟨rfl, HT.out⟩

end Go.Proofs.YtkgihpddjppmdaaDoor
