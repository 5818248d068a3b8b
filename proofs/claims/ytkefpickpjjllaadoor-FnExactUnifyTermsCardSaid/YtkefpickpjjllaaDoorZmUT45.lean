/- What lies at one place reads as one row of nodes. Condition: the rows are well-formed. -/
import Derived.Test.YtkefpickpjjllaaDoorProg
import Derived.Test.YtkefpickpjjllaaDoorNode
import Derived.Test.YtkefpickpjjllaaDoorValid
import Derived.Test.YtkefpickpjjllaaDoorZmUT44
import Derived.Test.YtkefpickpjjllaaDoorZmUT34
import Derived.Test.YtkefpickpjjllaaDoorZmUT43
import Derived.Test.YtkefpickpjjllaaDoorZmUT41
import Derived.Deep.LoopGhost
import Derived.Test.YtkefpickpjjllaaDoorSpecC
import Derived.Test.YtkefpickpjjllaaDoorImplV
import Derived.WalkLawsBesides
import Derived.Deep.RegionHeld3
import Derived.StillTailTactics
namespace Go.Proofs.YtkefpickpjjllaaDoor
open Go.RowKit

theorem own_is {k n : Int} {s : ByteArray} {len : Nat} (h : ownB k n s len = true) : (k ≠ 3 → s.data.toList = [] ∧ len = 0) ∧ (k = 3 → n = 0) := by
  unfold ownB noName at h
  simp only [Bool.or_eq_true, Bool.and_eq_true, beq_iff_eq, decide_eq_true_eq, List.isEmpty_iff] at h
  rcases h with (⟨h1, ⟨⟨h2, h3⟩, h4⟩, h5⟩ | ⟨h1, ⟨⟨h2, h3⟩, h4⟩, h5⟩) | ⟨h1, ⟨h2, h3⟩, h4⟩
  · exact ⟨fun _ => ⟨h4, h5⟩, fun h => by omega⟩
  · exact ⟨fun _ => ⟨h4, h5⟩, fun h => by omega⟩
  · exact ⟨fun h => absurd h1 h, fun _ => h2⟩
theorem len_nil {f : Fr} (h : f.len = 0) : f = .nil := by
  cases f with
  | nil => rfl
  | cons _ _ _ _ _ => simp [Fr.len] at h
theorem bytes_nil {s s' : ByteArray} (h : s.data.toList = []) (h' : s'.data.toList = []) : s = s' := by
  cases s; cases s'; congr 1; exact Array.toList_inj.1 (by simpa using h.trans h'.symm)
theorem NdRow.det {w : World} {lo hi lo' hi' : Nat} (f : Fr) : ∀ (g : Fr) (b o : Nat) (d d' : Int), shapeF f d = true → shapeF g d' = true → f.len = g.len → NdRow w lo hi f b o → NdRow w lo' hi' g b o → f = g := by
  induction f with
  | nil => intro g b o d d' _ _ hl _ _; exact (len_nil hl.symm).symm
  | cons k n s kids rest ihk ihr =>
    intro g b o d d' hf hg hl h1 h2
    cases g with
    | nil => simp [Fr.len] at hl
    | cons k' n' s' kids' rest' =>
      rw [shapeF_cons, Bool.and_eq_true] at hf hg
      obtain ⟨⟨v, hv, hw⟩, hr⟩ := h1
      obtain ⟨⟨v', hv', hw'⟩, hr'⟩ := h2
      obtain rfl : v = v' := by rw [hv] at hv'; injection hv'
      obtain rfl := ihr rest' b (o + 1) d d' hf.2 hg.2 (by simpa [Fr.len] using hl) hr hr'
      have f1 := hf.1
      have g1 := hg.1
      unfold shapeT at f1 g1
      simp only [Bool.and_eq_true, decide_eq_true_eq] at f1 g1
      obtain ⟨_, f2, f3⟩ := f1
      obtain ⟨_, g2, g3⟩ := g1
      rcases hw with ⟨rfl, rfl⟩ | ⟨rfl, rfl⟩ | ⟨rfl, A, cap, rfl, _, _, h5⟩ <;> rcases hw' with ⟨rfl, e⟩ | ⟨rfl, e⟩ | ⟨rfl, A', cap', e, _, _, h5'⟩
      · injection e with _ e
        injection e with _ e
        obtain ⟨a1, a2⟩ := (own_is f2).1 (by decide)
        obtain ⟨b1, b2⟩ := (own_is g2).1 (by decide)
        rw [e, bytes_nil a1 b1, len_nil a2, len_nil b2]
      · injection e with e _; cases e
      · injection e with e _; cases e
      · injection e with e _; cases e
      · injection e with _ e
        injection e with _ e
        obtain ⟨a1, a2⟩ := (own_is f2).1 (by decide)
        obtain ⟨b1, b2⟩ := (own_is g2).1 (by decide)
        rw [e, bytes_nil a1 b1, len_nil a2, len_nil b2]
      · injection e with e _; cases e
      · injection e with e _; cases e
      · injection e with e _; cases e
      · injection e with _ e
        injection e with e
        have e1 := congrArg (fun a : Array Value => a.toList) e
        simp only [List.cons.injEq, Value.string.injEq, Value.slice.injEq, and_true] at e1
        obtain ⟨rfl, rfl, e2, _⟩ := e1
        rw [(own_is f2).2 rfl, (own_is g2).2 rfl]
        by_cases hz : kids.len = 0
        · rw [len_nil hz, len_nil (e2.symm.trans hz)]
        · obtain ⟨b1, p1, _, _, p2⟩ := h5 (by omega)
          obtain ⟨b2, p3, _, _, p4⟩ := h5' (by omega)
          have e3 : b1 = b2 := by
            rw [p1] at p3
            injection p3 with p3
            injection p3
          subst e3
          rw [ihk kids' b1 0 (d - 1) (d' - 1) f3 g3 e2 p2 p4]
end Go.Proofs.YtkefpickpjjllaaDoor

/- What is done already: pairs of rows of nodes that stand for the same. No condition. -/
namespace Go.Proofs.YtkefpickpjjllaaDoor
open Go.RowKit Go.Maps

/-- At the places of a pair lie rows of one length that stand for the same. -/
def DnQ (w : World) (lo hi : Nat) (σ : Sub) (x : Addr × Addr) : Prop := ∃ (f g : Fr) (b b' : Nat), x = (⟨b, 0, none⟩, ⟨b', 0, none⟩) ∧ (lo ≤ b ∧ b < hi) ∧ (lo ≤ b' ∧ b' < hi) ∧ f.len = g.len ∧ shapeF f 30 = true ∧ shapeF g 30 = true ∧ NdRow w lo hi f b 0 ∧ NdRow w lo hi g b' 0 ∧ suF (fin σ) f = suF (fin σ) g
def DnP (w : World) (lo hi : Nat) (σ : Sub) (P : List (Addr × Addr)) : Prop := ∀ x ∈ P, DnQ w lo hi σ x
theorem DnP.nil (w : World) (lo hi : Nat) (σ : Sub) : DnP w lo hi σ [] := fun x hx => by cases hx
theorem DnP.keep {w w' : World} {lo hi : Nat} {σ : Sub} {P : List (Addr × Addr)} (h : DnP w lo hi σ P) (hk : ∀ p : Addr, lo ≤ p.block → p.block < hi → w'.cell? p = w.cell? p) : DnP w' lo hi σ P := fun x hx => by
  obtain ⟨f, g, b, b', e, h1, h2, h3, h4, h5, h6, h7, h8⟩ := h x hx
  exact ⟨f, g, b, b', e, h1, h2, h3, h4, h5, NdRow.keep hk (Nat.le_refl _) (Nat.le_refl _) f b 0 (fun j _ => hk ⟨b, 0 + j, none⟩ h1.1 h1.2) h6, NdRow.keep hk (Nat.le_refl _) (Nat.le_refl _) g b' 0 (fun j _ => hk ⟨b', 0 + j, none⟩ h2.1 h2.2) h7, h8⟩
theorem fin_bind (σ : Sub) (v : Int) (m : Nd) (f : Fr) : suF (fin ((v, m) :: σ)) f = suF (one v (suN (fin σ) m)) (suF (fin σ) f) := (su_comp (fin σ) (one v (suN (fin σ) m)) f).symm
/-- A binding more leaves what stands for the same. -/
theorem DnP.bind {w : World} {lo hi : Nat} {σ : Sub} {P : List (Addr × Addr)} (h : DnP w lo hi σ P) (v : Int) (m : Nd) : DnP w lo hi ((v, m) :: σ) P := fun x hx => by
  obtain ⟨f, g, b, b', e, h1, h2, h3, h4, h5, h6, h7, h8⟩ := h x hx
  exact ⟨f, g, b, b', e, h1, h2, h3, h4, h5, h6, h7, by rw [fin_bind, fin_bind, h8]⟩
theorem DnP.add {w : World} {lo hi : Nat} {σ : Sub} {P : List (Addr × Addr)} (h : DnP w lo hi σ P) {f g : Fr} {b b' : Nat} (h1 : lo ≤ b ∧ b < hi) (h2 : lo ≤ b' ∧ b' < hi) (h3 : f.len = g.len) (h4 : shapeF f 30 = true) (h5 : shapeF g 30 = true)
    (h6 : NdRow w lo hi f b 0) (h7 : NdRow w lo hi g b' 0) (h8 : suF (fin σ) f = suF (fin σ) g) : DnP w lo hi σ (P ++ [(⟨b, 0, none⟩, ⟨b', 0, none⟩)]) := fun x hx => by
  rcases List.mem_append.1 hx with hx | hx
  · exact h x hx
  · obtain rfl : x = _ := by simpa using hx
    exact ⟨f, g, b, b', rfl, h1, h2, h3, h4, h5, h6, h7, h8⟩
/-- Rows at the places of a pair stand for the same. -/
theorem DnP.hit {w : World} {lo hi : Nat} {σ : Sub} {P : List (Addr × Addr)} (h : DnP w lo hi σ P) {f g : Fr} {b b' : Nat} (hm : ((⟨b, 0, none⟩, ⟨b', 0, none⟩) : Addr × Addr) ∈ P) (hl : f.len = g.len)
    (h4 : shapeF f 30 = true) (h5 : shapeF g 30 = true) (h6 : NdRow w lo hi f b 0) (h7 : NdRow w lo hi g b' 0) (hf : ∀ f' g' : Fr, f'.len = g'.len → NdRow w lo hi f' b 0 → NdRow w lo hi g' b' 0 → f'.len = f.len) : suF (fin σ) f = suF (fin σ) g := by
  obtain ⟨f', g', c, c', e, _, _, k3, k4, k5, k6, k7, k8⟩ := h _ hm
  injection e with e1 e2
  injection e1 with e1
  injection e2 with e2
  subst e1 e2
  have hl' := hf f' g' k3 k6 k7
  rw [NdRow.det f f' b 0 30 30 h4 k4 hl'.symm h6 k6, NdRow.det g g' b' 0 30 30 h5 k5 (by omega) h7 k7]
  exact k8
end Go.Proofs.YtkefpickpjjllaaDoor

/- What is done already: pairs of rows of nodes, each the whole of its block, that stand for the same. No condition. -/
namespace Go.Proofs.YtkefpickpjjllaaDoor.Full
open Go.RowKit Go.Maps

/-- At the places of a pair lie rows of one length that stand for the same. -/
def DnQ (w : World) (lo hi : Nat) (σ : Sub) (x : Addr × Addr) : Prop := ∃ (f g : Fr) (b b' : Nat), x = (⟨b, 0, none⟩, ⟨b', 0, none⟩) ∧ (lo ≤ b ∧ b < hi) ∧ (lo ≤ b' ∧ b' < hi) ∧ f.len = g.len ∧ shapeF f 30 = true ∧ shapeF g 30 = true ∧ (w.cell? ⟨b, f.len, none⟩ = none ∧ Go.Proofs.YtkefpickpjjllaaDoor.NdRow w lo hi f b 0) ∧ (w.cell? ⟨b', g.len, none⟩ = none ∧ Go.Proofs.YtkefpickpjjllaaDoor.NdRow w lo hi g b' 0) ∧ suF (fin σ) f = suF (fin σ) g
def DnP (w : World) (lo hi : Nat) (σ : Sub) (P : List (Addr × Addr)) : Prop := ∀ x ∈ P, DnQ w lo hi σ x
theorem DnP.nil (w : World) (lo hi : Nat) (σ : Sub) : DnP w lo hi σ [] := fun x hx => by cases hx
theorem DnP.keep {w w' : World} {lo hi : Nat} {σ : Sub} {P : List (Addr × Addr)} (h : DnP w lo hi σ P) (hk : ∀ p : Addr, lo ≤ p.block → p.block < hi → w'.cell? p = w.cell? p) : DnP w' lo hi σ P := fun x hx => by
  obtain ⟨f, g, b, b', e, h1, h2, h3, h4, h5, h6, h7, h8⟩ := h x hx
  exact ⟨f, g, b, b', e, h1, h2, h3, h4, h5, ⟨(hk _ h1.1 h1.2).trans h6.1, Go.Proofs.YtkefpickpjjllaaDoor.NdRow.keep hk (Nat.le_refl _) (Nat.le_refl _) f b 0 (fun j _ => hk ⟨b, 0 + j, none⟩ h1.1 h1.2) h6.2⟩, ⟨(hk _ h2.1 h2.2).trans h7.1, Go.Proofs.YtkefpickpjjllaaDoor.NdRow.keep hk (Nat.le_refl _) (Nat.le_refl _) g b' 0 (fun j _ => hk ⟨b', 0 + j, none⟩ h2.1 h2.2) h7.2⟩, h8⟩
/-- A binding more leaves what stands for the same. -/
theorem DnP.bind {w : World} {lo hi : Nat} {σ : Sub} {P : List (Addr × Addr)} (h : DnP w lo hi σ P) (v : Int) (m : Nd) : DnP w lo hi ((v, m) :: σ) P := fun x hx => by
  obtain ⟨f, g, b, b', e, h1, h2, h3, h4, h5, h6, h7, h8⟩ := h x hx
  exact ⟨f, g, b, b', e, h1, h2, h3, h4, h5, h6, h7, by rw [fin_bind, fin_bind, h8]⟩
theorem DnP.add {w : World} {lo hi : Nat} {σ : Sub} {P : List (Addr × Addr)} (h : DnP w lo hi σ P) {f g : Fr} {b b' : Nat} (h1 : lo ≤ b ∧ b < hi) (h2 : lo ≤ b' ∧ b' < hi) (h3 : f.len = g.len) (h4 : shapeF f 30 = true) (h5 : shapeF g 30 = true)
    (h6 : w.cell? ⟨b, f.len, none⟩ = none ∧ Go.Proofs.YtkefpickpjjllaaDoor.NdRow w lo hi f b 0) (h7 : w.cell? ⟨b', g.len, none⟩ = none ∧ Go.Proofs.YtkefpickpjjllaaDoor.NdRow w lo hi g b' 0) (h8 : suF (fin σ) f = suF (fin σ) g) : DnP w lo hi σ (P ++ [(⟨b, 0, none⟩, ⟨b', 0, none⟩)]) := fun x hx => by
  rcases List.mem_append.1 hx with hx | hx
  · exact h x hx
  · obtain rfl : x = _ := by simpa using hx
    exact ⟨f, g, b, b', rfl, h1, h2, h3, h4, h5, h6, h7, h8⟩
/-- Rows at the places of a pair stand for the same. -/
theorem DnP.hit {w : World} {lo hi : Nat} {σ : Sub} {P : List (Addr × Addr)} (h : DnP w lo hi σ P) {f g : Fr} {b b' : Nat} (hm : ((⟨b, 0, none⟩, ⟨b', 0, none⟩) : Addr × Addr) ∈ P) 
    (h4 : shapeF f 30 = true) (h5 : shapeF g 30 = true) (h6 : w.cell? ⟨b, f.len, none⟩ = none ∧ Go.Proofs.YtkefpickpjjllaaDoor.NdRow w lo hi f b 0) (h7 : w.cell? ⟨b', g.len, none⟩ = none ∧ Go.Proofs.YtkefpickpjjllaaDoor.NdRow w lo hi g b' 0) : suF (fin σ) f = suF (fin σ) g := by
  obtain ⟨f', g', c, c', e, _, _, k3, k4, k5, k6, k7, k8⟩ := h _ hm
  injection e with e1 e2
  injection e1 with e1
  injection e2 with e2
  subst e1 e2
  have hl' := one_len k6.1 h6.1 k6.2 h6.2
  rw [Go.Proofs.YtkefpickpjjllaaDoor.NdRow.det f f' b 0 30 30 h4 k4 hl'.symm h6.2 k6.2, Go.Proofs.YtkefpickpjjllaaDoor.NdRow.det g g' b' 0 30 30 h5 k5 (one_len k7.1 h7.1 k7.2 h7.2).symm h7.2 k7.2]
  exact k8
end Go.Proofs.YtkefpickpjjllaaDoor.Full

/- impl.newUnifier. No condition. -/
namespace Go.Proofs.YtkefpickpjjllaaDoor
open Go.RowKit Go.Maps

set_option maxRecDepth 100000 in
set_option maxHeartbeats 1000000 in
/-- impl.newUnifier: no bindings, nothing done. -/
theorem newU_any (w : World) (lo hi : Nat) : Calls Tryd.prog 24 #[] w fun e w' => ∃ ub mb db, e = .returned (.pointer (some ⟨ub, 0, none⟩)) ∧ w.heap.size ≤ ub ∧ w.heap.size ≤ mb ∧ w.heap.size ≤ db ∧ ub ≠ mb ∧ ub ≠ db ∧ mb ≠ db ∧ ub < w'.heap.size ∧ mb < w'.heap.size ∧ db < w'.heap.size ∧
    UnU w' lo hi ub mb db w'.heap.size [] [] (.slice none 0 0) ∧ PdM w' db [] ∧ Below w.heap.size w w' := by
  have hmm := @run_makeMap Tryd.prog
  go_enter Tryd.func24, Tryd.ntmps24
  go_wp2_with fail
  go_ret
  have hb2 : Below w.heap.size w ((w.alloc (.map #[] 0)).alloc (.map #[] 0)) := two_alloc w _ _
  have hs2 : ((w.alloc (.map #[] 0)).alloc (.map #[] 0)).heap.size = w.heap.size + 1 + 1 := by simp
  have hs1 : (w.alloc (.map #[] 0)).heap.size = w.heap.size + 1 := by simp
  have hM : MpS (w.alloc (.map #[] 0)) lo hi w.heap.size [] := ⟨.map [], World.ownsMap_made w _ _ _, isMap_empty, fun _ => rfl, fun n m hm => by cases hm⟩
  have hd := heap_alloc_new (w.alloc (.map #[] 0)) (.map #[] 0)
  rw [hs1] at hd
  generalize hw1 : w.alloc (.map #[] 0) = w1 at *
  have hd3 := (heap_alloc_old (r := w.heap.size + 1) (w1.alloc (.map #[] 0)) (.cells #[.map (some w.heap.size), .slice none 0 0, .map (some (w.heap.size + 1))] 83) (by rw [hs2]; omega)).trans hd
  have hq := Blk.new (w1.alloc (.map #[] 0)) 83 #[.map (some w.heap.size), .slice none 0 0, .map (some (w.heap.size + 1))]
  rw [hs2] at hq
  have hs3 : ((w1.alloc (.map #[] 0)).alloc (.cells #[.map (some w.heap.size), .slice none 0 0, .map (some (w.heap.size + 1))] 83)).heap.size = w.heap.size + 1 + 1 + 1 := by simp [hs1]
  refine ⟨w.heap.size + 1 + 1, w.heap.size, w.heap.size + 1, rfl, by omega, by omega, by omega, by omega, by omega, by omega, by omega, by omega, by omega, ⟨hq, World.ownsRow_nil _ _ _ _, ?_⟩, ⟨#[], 0, hd3, rfl⟩, hb2.alloc hb2.size _⟩
  obtain ⟨D, ⟨es, clock, he, r⟩, h1, h2, h3⟩ := hM
  exact ⟨D, ⟨es, clock, (heap_alloc_old (r := w.heap.size) _ _ (by rw [hs2]; omega)).trans ((heap_alloc_old (r := w.heap.size) w1 _ (by omega)).trans he), r⟩, h1, h2, fun n m hm => by cases hm⟩
end Go.Proofs.YtkefpickpjjllaaDoor

/- impl.newUnifier. No condition. -/
namespace Go.Proofs.YtkefpickpjjllaaDoor.Full
open Go.RowKit Go.Maps

set_option maxRecDepth 100000 in
set_option maxHeartbeats 1000000 in
/-- impl.newUnifier: no bindings, nothing done. -/
theorem newU_any (w : World) (lo hi : Nat) : Calls Tryd.prog 24 #[] w fun e w' => ∃ ub mb db, e = .returned (.pointer (some ⟨ub, 0, none⟩)) ∧ w.heap.size ≤ ub ∧ w.heap.size ≤ mb ∧ w.heap.size ≤ db ∧ ub ≠ mb ∧ ub ≠ db ∧ mb ≠ db ∧ ub < w'.heap.size ∧ mb < w'.heap.size ∧ db < w'.heap.size ∧
    UnU w' lo hi ub mb db w'.heap.size [] [] (.slice none 0 0) ∧ PdM w' db [] ∧ Below w.heap.size w w' := by
  have hmm := @run_makeMap Tryd.prog
  go_enter Tryd.func24, Tryd.ntmps24
  go_wp2_with fail
  go_ret
  have hb2 : Below w.heap.size w ((w.alloc (.map #[] 0)).alloc (.map #[] 0)) := two_alloc w _ _
  have hs2 : ((w.alloc (.map #[] 0)).alloc (.map #[] 0)).heap.size = w.heap.size + 1 + 1 := by simp
  have hs1 : (w.alloc (.map #[] 0)).heap.size = w.heap.size + 1 := by simp
  have hM : MpS (w.alloc (.map #[] 0)) lo hi w.heap.size [] := ⟨.map [], World.ownsMap_made w _ _ _, isMap_empty, fun _ => rfl, fun n m hm => by cases hm⟩
  have hd := heap_alloc_new (w.alloc (.map #[] 0)) (.map #[] 0)
  rw [hs1] at hd
  generalize hw1 : w.alloc (.map #[] 0) = w1 at *
  have hd3 := (heap_alloc_old (r := w.heap.size + 1) (w1.alloc (.map #[] 0)) (.cells #[.map (some w.heap.size), .slice none 0 0, .map (some (w.heap.size + 1))] 83) (by rw [hs2]; omega)).trans hd
  have hq := Blk.new (w1.alloc (.map #[] 0)) 83 #[.map (some w.heap.size), .slice none 0 0, .map (some (w.heap.size + 1))]
  rw [hs2] at hq
  have hs3 : ((w1.alloc (.map #[] 0)).alloc (.cells #[.map (some w.heap.size), .slice none 0 0, .map (some (w.heap.size + 1))] 83)).heap.size = w.heap.size + 1 + 1 + 1 := by simp [hs1]
  refine ⟨w.heap.size + 1 + 1, w.heap.size, w.heap.size + 1, rfl, by omega, by omega, by omega, by omega, by omega, by omega, by omega, by omega, by omega, ⟨hq, World.ownsRow_nil _ _ _ _, ?_⟩, ⟨#[], 0, hd3, rfl⟩, hb2.alloc hb2.size _⟩
  obtain ⟨D, ⟨es, clock, he, r⟩, h1, h2, h3⟩ := hM
  exact ⟨D, ⟨es, clock, (heap_alloc_old (r := w.heap.size) _ _ (by rw [hs2]; omega)).trans ((heap_alloc_old (r := w.heap.size) w1 _ (by omega)).trans he), r⟩, h1, h2, fun n m hm => by cases hm⟩
end Go.Proofs.YtkefpickpjjllaaDoor.Full

/- unifier.meaning. Condition: the node and the map of bindings lie in memory. -/
namespace Go.Proofs.YtkefpickpjjllaaDoor.Full
open Go.RowKit Go.Maps

set_option maxRecDepth 100000 in
set_option maxHeartbeats 4000000 in
theorem meaning_any (σ : Sub) (hσ : Ok2 σ) (m0 : Nd) (v0 : Value) (lo hi mb ub : Nat) (w : World) (hv : NdV w lo hi m0.k m0.n m0.s m0.f v0) (hh : hi ≤ w.heap.size) (hub : ub < w.heap.size) (hU : w.cell? ⟨ub, 0, none⟩ = some (.map (some mb))) (hK : MpS w lo hi mb σ) (hs : shapeT m0.k m0.n m0.s m0.f 30 = true) :
    Calls Tryd.prog 59 #[.pointer (some ⟨ub, 0, none⟩), v0] w fun e w' => ∃ v', e = .returned v' ∧ NdV w' lo hi (wk σ m0).k (wk σ m0).n (wk σ m0).s (wk σ m0).f v' ∧ shapeT (wk σ m0).k (wk σ m0).n (wk σ m0).s (wk σ m0).f 30 = true ∧ Below w.heap.size w w' := by
  have HST : Hid (∃ m : Nd, wl σ m ≤ wl σ m0 ∧ wk σ m = wk σ m0 ∧ shapeT m.k m.n m.s m.f 30 = true ∧ NdV w lo hi m.k m.n m.s m.f v0) := Lib.hid ⟨m0, Nat.le_refl _, rfl, hs, hv⟩
  have HK := Lib.hid hK
  have HOK := Lib.hid hσ
  have HUB := Lib.hid hU
  clear hv hK hs hσ hU
  generalize wl σ m0 = n0 at *
  generalize wk σ m0 = mE at *
  go_enter Tryd.func59, Tryd.ntmps59
  go_wp2_with fail
  go_loopg [1] n0 (fun gk nv wr => ∃ m : Nd, wl σ m ≤ gk ∧ wk σ m = mE ∧ shapeT m.k m.n m.s m.f 30 = true ∧ NdV wr lo hi m.k m.n m.s m.f nv ∧ Below w.heap.size w wr)
  case atStart =>
    obtain ⟨m, h1, h2, h3, h4⟩ := HST.out
    exact ⟨m, h1, h2, h3, h4, .refl _ _⟩
  case round =>
    obtain ⟨m, h1, h2, h3, h4, h5⟩ := hrel
    have hU := (h5.cell (p := ⟨ub, 0, none⟩) hub).trans HUB.out
    have hKr := HK.out.below h5 hh
    have HB := Lib.hid h5
    have hsw := h5.size
    have H4 := Lib.hid h4
    have H2 := Lib.hid h2
    have HSH := Lib.hid h3
    rcases h4 with ⟨hk1, hvv⟩ | ⟨hk1, hvv⟩ | ⟨hk1, A, cap, hvv, hkk⟩
    · subst hvv
      obtain ⟨hms, hmf, hn0⟩ := shapeT_var (by rw [hk1] at h3; exact h3)
      have HKN := Lib.hid hKr
      obtain ⟨D, hD, hI, hH, hX⟩ := hKr
      have hkey : keyOf Tryd.prog 67 (.int .i64 m.n) = some (.int .i64 m.n) := keyOf_int_mk Tryd.underlying67 (WalkArith.wf_i64 (by omega))
      have hhn := hH m.n
      have HD := Lib.hid hD
      cases hlk : lkS σ m.n with
      | none =>
        rw [hlk] at hhn
        have HHN : Hid (has D (.int .i64 m.n) = false) := Lib.hid hhn
        have HE : Hid (m = mE) := Lib.hid ((wk_stop σ m (.inr hlk)).1.symm.trans h2)
        clear h1 h2 h3 h5 hD hI hH hX hhn hlk HST hk1 hms hmf hn0
        go_wp2_with (at_lookup; refine wpList_lookup_own_ok _ rfl _ _ 66 rfl 67 53 lawN Tryd.underlying66 heldR (zeroN _) (.held .nilIface) [] rfl mb σ.length D rfl HD.out _ _ rfl hkey ?_; intro v ps hv; rw [HHN.out]; clear hv)
        go_ret
        exact ⟨_, rfl, by rw [← HE.out]; exact H4.out, by rw [← HE.out]; exact HSH.out, HB.out⟩
      | some t =>
        rw [hlk] at hhn
        have HHN : Hid (has D (.int .i64 m.n) = true) := Lib.hid hhn
        obtain ⟨hso, u, hat, hu⟩ := hX m.n t hlk
        have HAT := Lib.hid hat
        have hst := wk_step σ m t HOK.out hk1 hlk
        have hgk : 1 ≤ gk := by have := hst.2; omega
        have HNX : Hid (∃ m : Nd, wl σ m ≤ gk - 1 ∧ wk σ m = mE ∧ shapeT m.k m.n m.s m.f 30 = true ∧ NdV wr lo hi m.k m.n m.s m.f u ∧ Below w.heap.size w wr) := Lib.hid ⟨t, by have := hst.2; omega, hst.1.symm.trans h2, hso, hu, h5⟩
        obtain ⟨T3, z3, rfl⟩ := hu.iface
        clear h1 h2 h3 h5 hD hI hH hX hhn hlk HST hk1 hms hmf hn0 hat hu hst hso
        go_wp2_with (at_lookup; refine wpList_lookup_own_ok _ rfl _ _ 66 rfl 67 53 lawN Tryd.underlying66 heldR (zeroN _) (.held .nilIface) [] rfl mb σ.length D rfl HD.out _ _ rfl hkey ?_; intro v ps hv; rw [HHN.out]; have hv2 := heldR_inv hv HAT.out; subst hv2; clear hv)
        go_roundg (gk - 1)
        case measure => omega
        case rel => exact HNX.out
    · subst hvv
      have HE : Hid (m = mE) := Lib.hid ((wk_stop σ m (.inl (by rw [hk1]; omega))).1.symm.trans h2)
      clear h1 h2 h3 h5 hKr HST hk1
      go_wp2_with fail
      go_ret
      exact ⟨_, rfl, by rw [← HE.out]; exact H4.out, by rw [← HE.out]; exact HSH.out, HB.out⟩
    · subst hvv
      have HE : Hid (m = mE) := Lib.hid ((wk_stop σ m (.inl (by rw [hk1]; omega))).1.symm.trans h2)
      clear h1 h2 h3 h5 hKr HST hk1 hkk
      go_wp2_with fail
      go_ret
      exact ⟨_, rfl, by rw [← HE.out]; exact H4.out, by rw [← HE.out]; exact HSH.out, HB.out⟩
end Go.Proofs.YtkefpickpjjllaaDoor.Full

/- spec.CompareTerms: the model's standard order. Condition: both terms lie in memory. -/
namespace Go.Proofs.YtkefpickpjjllaaDoor
open Go.RowKit

def lessI (a b : Int) : Int := if a < b then -1 else if b < a then 1 else 0
def lessS (a b : ByteArray) : Int := if Op.bytesLess a.toList b.toList = true then -1 else if (a.toList == b.toList) = true then 0 else 1
def rankT (k : Int) (len : Nat) : Int := if k = 3 ∧ 0 < len then 4 else k
/-- The order of two terms, their arguments being in the order c. -/
def cmpH (k n : Int) (s : ByteArray) (len : Nat) (k' n' : Int) (s' : ByteArray) (len' : Nat) (c : Int) : Int :=
  if rankT k len = rankT k' len' then (if k = 3 then (if len = len' then (if (s.toList == s'.toList) = true then c else lessS s s') else lessI len len') else lessI n n') else lessI (rankT k len) (rankT k' len')
def cmpF : Fr → Fr → Int
  | .cons k n s kids rest, .cons k' n' s' kids' rest' => if cmpH k n s kids.len k' n' s' kids'.len (cmpF kids kids') = 0 then cmpF rest rest' else cmpH k n s kids.len k' n' s' kids'.len (cmpF kids kids')
  | _, _ => 0
def cmpT (k n : Int) (s : ByteArray) (f : Fr) (k' n' : Int) (s' : ByteArray) (g : Fr) : Int := cmpH k n s f.len k' n' s' g.len (cmpF f g)
theorem lessI_range (a b : Int) : -1 ≤ lessI a b ∧ lessI a b ≤ 1 := by unfold lessI; split <;> (try split) <;> omega
theorem lessS_range (a b : ByteArray) : -1 ≤ lessS a b ∧ lessS a b ≤ 1 := by unfold lessS; split <;> (try split) <;> omega
theorem cmpH_range (k n : Int) (s : ByteArray) (len : Nat) (k' n' : Int) (s' : ByteArray) (len' : Nat) (c : Int) (h : -1 ≤ c ∧ c ≤ 1) : -1 ≤ cmpH k n s len k' n' s' len' c ∧ cmpH k n s len k' n' s' len' c ≤ 1 := by
  unfold cmpH
  repeat' split
  · exact h
  · exact lessS_range _ _
  · exact lessI_range _ _
  · exact lessI_range _ _
  · exact lessI_range _ _
theorem cmpF_range (f : Fr) : ∀ g, -1 ≤ cmpF f g ∧ cmpF f g ≤ 1 := by
  induction f with
  | nil => intro g; simp only [cmpF]; omega
  | cons k n s kids rest ihk ihr =>
    intro g
    cases g with
    | nil => simp only [cmpF]; omega
    | cons k' n' s' kids' rest' =>
      simp only [cmpF]
      split
      · exact ihr rest'
      · exact cmpH_range _ _ _ _ _ _ _ _ _ (ihk kids')
theorem cmpF_cons (k n : Int) (s : ByteArray) (kids rest : Fr) (k' n' : Int) (s' : ByteArray) (kids' rest' : Fr) :
    cmpF (.cons k n s kids rest) (.cons k' n' s' kids' rest') = if cmpT k n s kids k' n' s' kids' = 0 then cmpF rest rest' else cmpT k n s kids k' n' s' kids' := rfl

/-- The boxes of two arguments, read in a later world. -/
theorem box8 {w w' : World} {t : TypeId} {a b c d a' b' c' d' : Value} (hb : Below (w.heap.size + 2) ((w.alloc (.cells #[a, b, c, d] t)).alloc (.cells #[a', b', c', d'] t)) w') :
    w'.cell? ⟨w.heap.size, 0, none⟩ = some a ∧ w'.cell? ⟨w.heap.size, 1, none⟩ = some b ∧ w'.cell? ⟨w.heap.size, 2, none⟩ = some c ∧ w'.cell? ⟨w.heap.size, 3, none⟩ = some d ∧
      w'.cell? ⟨w.heap.size + 1, 0, none⟩ = some a' ∧ w'.cell? ⟨w.heap.size + 1, 1, none⟩ = some b' ∧ w'.cell? ⟨w.heap.size + 1, 2, none⟩ = some c' ∧ w'.cell? ⟨w.heap.size + 1, 3, none⟩ = some d' := by
  have h1 := cells4 (((Blk.new w t #[a, b, c, d]).alloc (.cells #[a', b', c', d'] t)).below hb (by omega))
  have h0 := Blk.new (w.alloc (.cells #[a, b, c, d] t)) t #[a', b', c', d']
  rw [show (w.alloc (.cells #[a, b, c, d] t)).heap.size = w.heap.size + 1 by simp] at h0
  have h2 := cells4 (h0.below hb (by omega))
  exact ⟨h1.1, h1.2.1, h1.2.2.1, h1.2.2.2, h2.1, h2.2.1, h2.2.2.1, h2.2.2.2⟩

theorem boxA {w w' : World} {t : TypeId} {a b c d a' b' c' d' : Value} (hb : Below (w.heap.size + 2) ((w.alloc (.cells #[a, b, c, d] t)).alloc (.cells #[a', b', c', d'] t)) w') : w'.cell? ⟨w.heap.size, 3, none⟩ = some d := (box8 hb).2.2.2.1
theorem boxB {w w' : World} {t : TypeId} {a b c d a' b' c' d' : Value} (hb : Below (w.heap.size + 2) ((w.alloc (.cells #[a, b, c, d] t)).alloc (.cells #[a', b', c', d'] t)) w') : w'.cell? ⟨w.heap.size + 1, 3, none⟩ = some d' := (box8 hb).2.2.2.2.2.2.2

end Go.Proofs.YtkefpickpjjllaaDoor

/- impl.nodesOfBoth. Condition: the terms lie in memory, the table of signs in its variable. -/
namespace Go.Proofs.YtkefpickpjjllaaDoor
open Go.RowKit

def BothRes (w : World) (k n : Int) (s : ByteArray) (f : Fr) (k' n' : Int) (s' : ByteArray) (g : Fr) (e : Ending) (w' : World) : Prop :=
  Below w.heap.size w w' ∧ (((validT k n s f = true ∧ validT k' n' s' g = true) ∧ ∃ v v', e = .returned (.tuple #[v, v', .bool true]) ∧ NdV w' 0 w'.heap.size k n s f v ∧ NdV w' 0 w'.heap.size k' n' s' g v') ∨
    (¬ (validT k n s f = true ∧ validT k' n' s' g = true) ∧ e = .returned (.tuple #[.nilIface, .nilIface, .bool false])))

set_option maxRecDepth 100000 in
set_option maxHeartbeats 2000000 in
/-- impl.nodesOfBoth. -/
theorem both_any (k n : Int) (s : ByteArray) (f : Fr) (k' n' : Int) (s' : ByteArray) (g : Fr) (A B : Option Addr) (cap cap' lo hi lo' hi' : Nat) (w : World)
    (hk : KidsAt w lo hi f A cap) (hk' : KidsAt w lo' hi' g B cap') (hh : hi ≤ w.heap.size) (hh' : hi' ≤ w.heap.size) (hf : Fits k n s) (hf' : Fits k' n' s') (hnd : nodes f ≤ 1048576) (hnd' : nodes g ≤ 1048576) (ht : nv.Tab w) :
    Calls Tryd.prog 23 #[.agg #[.int .i64 k, .int .i64 n, .string s, .slice A f.len cap], .agg #[.int .i64 k', .int .i64 n', .string s', .slice B g.len cap']] w fun e w' => BothRes w k n s f k' n' s' g e w' := by
  have hlt := tab_lt ht
  have C1 := fun w1 (hb : Below w.heap.size w w1) => nodeOf_any k n s f A cap lo hi w1 (hk.below hb hh) (Nat.le_trans hh hb.size) hf hnd (tab_below ht hb hlt)
  have C2 := fun w1 (hb : Below w.heap.size w w1) => nodeOf_any k' n' s' g B cap' lo' hi' w1 (hk'.below hb hh') (Nat.le_trans hh' hb.size) hf' hnd' (tab_below ht hb hlt)
  have HT := Lib.hid (two_alloc w (.cells #[.int .i64 k, .int .i64 n, .string s, .slice A f.len cap] 31) (.cells #[.int .i64 k', .int .i64 n', .string s', .slice B g.len cap'] 31))
  have H1 := Lib.hid C1
  have H2 := Lib.hid C2
  clear C1 C2 hk hk' hh hh' hf hf' hnd hnd' ht
  go_enter Tryd.func23, Tryd.ntmps23
  go_wp2_with fail
  refine (H1.out _ HT.out).mono ?_
  rintro e w2 ⟨hb, hr⟩
  have hbw : Below w.heap.size w w2 := HT.out.trans (hb.mono HT.out.size)
  rcases hr with ⟨hok, v, rfl, hv⟩ | ⟨hok, rfl⟩
  · obtain ⟨_, _, _, _, b0, b1, b2, b3⟩ := box8 (hb.mono (by simp))
    have HB := Lib.hid hbw
    have HOK := Lib.hid hok
    have HV := Lib.hid hv
    obtain ⟨T1, x1, rfl⟩ := hv.iface
    clear hb hbw hok hv
    go_wp2_with fail
    refine (H2.out _ HB.out).mono ?_
    rintro e w3 ⟨hb, hr⟩
    have hbw : Below w.heap.size w w3 := HB.out.trans (hb.mono HB.out.size)
    rcases hr with ⟨hok', v', rfl, hv'⟩ | ⟨hok', rfl⟩
    · obtain ⟨T2, x2, rfl⟩ := hv'.iface
      have R : Hid (BothRes w k n s f k' n' s' g (.returned (.tuple #[.iface T1 x1, .iface T2 x2, .bool true])) w3) := Lib.hid ⟨hbw, .inl ⟨⟨HOK.out, hok'⟩, _, _, rfl, HV.out.keep (fun p _ hp => hb.cell hp) (Nat.zero_le _) hb.size, hv'.keep (fun _ _ _ => rfl) (Nat.zero_le _) (Nat.le_refl _)⟩⟩
      clear hb hbw hok' hv' b0 b1 b2 b3
      go_wp2_with fail
      go_ret3
      exact R.out
    · have R : Hid (BothRes w k n s f k' n' s' g (.returned (.tuple #[.nilIface, .nilIface, .bool false])) w3) := Lib.hid ⟨hbw, .inr ⟨(by rintro ⟨_, h⟩; rw [hok'] at h; cases h), rfl⟩⟩
      clear hb hbw hok' b0 b1 b2 b3
      go_wp2_with fail
      go_ret3
      exact R.out
  · have R : Hid (BothRes w k n s f k' n' s' g (.returned (.tuple #[.nilIface, .nilIface, .bool false])) w2) := Lib.hid ⟨hbw, .inr ⟨(by rintro ⟨h, _⟩; rw [hok] at h; cases h), rfl⟩⟩
    clear hb hbw hok
    go_wp2_with fail
    go_ret3
    exact R.out
end Go.Proofs.YtkefpickpjjllaaDoor
