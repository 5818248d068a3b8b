/- What a variable stands for in the end is well-formed. No condition. -/
import Derived.Test.YtkefpickpjjllaaDoorZmUT42
import Derived.Test.YtkefpickpjjllaaDoorZmUT35
import Derived.Test.YtkefpickpjjllaaDoorZmUT36
import Derived.Shelf.SlGeneric
import Derived.Shelf.SlicesG.Clone
import Derived.Shelf.SortM.Plain
import Derived.Shelf.SortM.SortNone
import Derived.Ground.SlgnProg
import Derived.Ground.SlgmProg
import Derived.Test.YtkefpickpjjllaaDoorProg
import Derived.Test.YtkefpickpjjllaaDoorZmUT41
import Derived.Test.YtkefpickpjjllaaDoorZmUT34
import Derived.Deep.LoopGhost
namespace Go.Proofs.YtkefpickpjjllaaDoor
open Go.RowKit

def WfN (m : Nd) : Prop := wfT m.k m.n m.s m.f.len = true ∧ wfF m.f = true
def I64 (n : Int) : Prop := -9223372036854775808 ≤ n ∧ n ≤ 9223372036854775807
theorem wf_vNd {n : Int} (h : I64 n) : WfN (vNd n) := by
  refine ⟨?_, rfl⟩
  show wfT 1 n ⟨#[]⟩ 0 = true
  unfold wfT
  rw [decide_eq_true h.1, decide_eq_true h.2]
  rfl
theorem wf_var {k n : Int} {s : ByteArray} {len : Nat} (h : wfT k n s len = true) (hk : k = 1) : I64 n := by
  subst hk
  unfold wfT at h
  simp only [Bool.and_eq_true, Bool.or_eq_true, decide_eq_true_eq, beq_iff_eq] at h
  rcases h with (⟨_, ⟨⟨h1, h2⟩, _⟩, _⟩ | ⟨h, _⟩) | ⟨h, _⟩
  · exact ⟨h1, h2⟩
  · omega
  · omega
theorem wf_suN {τ : Int → Nd} {m : Nd} (hm : WfN m) (hf : ∀ y, occN m y → I64 y → WfN (τ y)) (hF : (∀ y, occF m.f y → I64 y → WfN (τ y)) → wfF (suF τ m.f) = true) : WfN (suN τ m) := by
  by_cases hk : m.k = 1
  · rw [show suN τ m = τ m.n by unfold suN; rw [if_pos hk]]
    exact hf m.n (by unfold occN; rw [if_pos hk]) (wf_var hm.1 hk)
  · rw [show suN τ m = ⟨m.k, m.n, m.s, suF τ m.f⟩ by unfold suN; rw [if_neg hk]]
    refine ⟨by show wfT m.k m.n m.s (suF τ m.f).len = true; rw [suF_len]; exact hm.1, hF fun y hy => hf y (by unfold occN; rw [if_neg hk]; exact hy)⟩
theorem wf_suF {τ : Int → Nd} : ∀ f : Fr, wfF f = true → (∀ y, occF f y → I64 y → WfN (τ y)) → wfF (suF τ f) = true := by
  intro f
  induction f with
  | nil => intro _ _; rfl
  | cons k n s kids rest ihk ihr =>
    intro h ho
    rw [wfF_cons, Bool.and_eq_true, Bool.and_eq_true] at h
    have h1 : ∀ y, occN ⟨k, n, s, kids⟩ y → I64 y → WfN (τ y) := fun y hy => ho y (.inl hy)
    have h2 := wf_suN (τ := τ) (m := ⟨k, n, s, kids⟩) h.1 h1 fun h3 => ihk h.1.2 h3
    rw [suF_cons]
    rw [wfF_cons, h2.1, h2.2, ihr h.2 fun y hy => ho y (.inr hy)]
    rfl
/-- .. if what the variables are bound to is. -/
theorem fin_wf {σ : Sub} (hσ : Ok2 σ) (hb : ∀ x m, lk σ x = some m → shapeT m.k m.n m.s m.f 30 = true) : ∀ x, I64 x → WfN (fin σ x) := by
  refine sub_ind hσ fun x ih hx => ?_
  cases hl : lk σ x with
  | none => rw [hσ.inv.free x hl]; exact wf_vNd hx
  | some m =>
    have hs := hb x m hl
    rw [hσ.inv.bound x m hl]
    have hw : WfN m := ⟨wfT_shape hs, wfF_shape m.f _ (shapeT_kids hs)⟩
    refine wf_suN hw (fun y hy hi => ih m y hl hy hi) fun h => wf_suF m.f hw.2 h
end Go.Proofs.YtkefpickpjjllaaDoor

/- What is bound is well-formed and small. No condition. -/
namespace Go.Proofs.YtkefpickpjjllaaDoor
open Go.RowKit

def ShL (σ : Sub) : Prop := ∀ v m, (v, m) ∈ σ → Tm m
theorem ShL.cons {σ : Sub} (h : ShL σ) {v : Int} {m : Nd} (hm : Tm m) : ShL ((v, m) :: σ) := by
  intro v' m' hp
  rcases List.mem_cons.1 hp with hp | hp
  · injection hp with e1 e2
    subst e2
    exact hm
  · exact h v' m' hp
theorem ShL.all {σ : Sub} (h : ShL σ) {n : Int} {m : Nd} (hl : lk σ n = some m) : Tm m := by
  change (σ.find? fun p => p.1 == n).map (·.2) = some m at hl
  cases hf : σ.find? (fun p => p.1 == n) with
  | none => rw [hf] at hl; cases hl
  | some p =>
    rw [hf] at hl
    injection hl with hl
    subst hl
    exact h p.1 p.2 (List.mem_of_find?_eq_some hf)
theorem wk_tm : ∀ (σ : Sub) (m : Nd), ShL σ → Tm m → Tm (wk σ m)
  | [], _, _, hm => hm
  | (v, t) :: σ, m, h, hm => by
    have h' : ShL σ := fun v' m' hp => h v' m' (List.mem_cons_of_mem _ hp)
    by_cases hc : (wk σ m).k = 1 ∧ (wk σ m).n = v
    · simp only [wk, if_pos hc]
      exact h v t (List.mem_cons_self ..)
    · simp only [wk, if_neg hc]
      exact wk_tm σ m h' hm
theorem unT_sh (N : Nat) : ∀ (σ : Sub) (a b : Nd) (σ' : Sub), unT N σ a b = some (some σ') → ShL σ → Tm a → Tm b → ShL σ' := by
  induction N with
  | zero => intro σ a b σ' h; cases h
  | succ N ih =>
    have row : ∀ (f : Fr) (σ : Sub) (g : Fr) (σ' : Sub), unRow (unT N) σ f g = some (some σ') → ShL σ → TmF f → TmF g → ShL σ' := by
      intro f
      induction f with
      | nil =>
        intro σ g σ' h hσ _ _
        cases g with
        | nil => injection h with h; injection h with h; subst h; exact hσ
        | cons => injection h with h; injection h with h; subst h; exact hσ
      | cons k n s f rest _ ihr =>
        intro σ g σ' h hσ hf hg
        cases g with
        | nil => injection h with h; injection h with h; subst h; exact hσ
        | cons k' n' s' f' rest' =>
          simp only [unRow] at h
          cases hu : unT N σ ⟨k, n, s, f⟩ ⟨k', n', s', f'⟩ with
          | none => rw [hu] at h; cases h
          | some o =>
            rw [hu] at h
            cases o with
            | none => cases h
            | some σ1 => exact ihr σ1 rest' σ' h (ih σ _ _ σ1 hu hσ hf.cons.1 hg.cons.1) hf.cons.2 hg.cons.2
    intro σ a b σ' h hσ ha hb
    have wa := wk_tm σ a hσ ha
    have wb := wk_tm σ b hσ hb
    rw [unT] at h
    split at h
    · split at h
      · injection h with h; injection h with h; subst h; exact hσ
      · split at h
        · cases h
        · injection h with h; injection h with h; subst h
          exact hσ.cons wb
    · split at h
      · split at h
        · cases h
        · injection h with h; injection h with h; subst h
          exact hσ.cons wa
      · split at h
        · exact row _ σ _ σ' h hσ wa.kids wb.kids
        · cases h
theorem un_sh {σ' : Sub} {a b : Nd} (h : Un [] a b (some σ')) (ha : Tm a) (hb : Tm b) : ShL σ' := by
  obtain ⟨N, h⟩ := h
  exact unT_sh N [] a b σ' h (fun v m hp => by cases hp) ha hb
end Go.Proofs.YtkefpickpjjllaaDoor

/- The layings of slices.Clone and slices.Sort at this program: the numbers that its text has here. No condition. -/
namespace Go.Proofs.YtkefpickpjjllaaDoor
open Go.Proofs Go.Shelf
def cloneL_ren : Go.Shelf.Ren := ⟨fun | 41 => 43 | n => n, fun | 22 => 81 | 23 => 67 | 4 => 4 | n => n, fun | n => n⟩
theorem cloneL : Go.Proofs.SlLaysN.n41 Tryd.prog cloneL_ren := {
  mixed := by kernel_rfl
  f41 := ⟨Tryd.f43.name, by decide, Tryd.func43.trans (congrArg some (by kernel_rfl))⟩
  t4 := Tryd.underlying4
  a4 := Tryd.isAgg4
  z4 := Tryd.sizeOf4
  v4 := Tryd.zeroValue4
  t22 := Tryd.underlying81
  a22 := Tryd.isAgg81
  z22 := Tryd.sizeOf81
  v22 := Tryd.zeroValue81
  t23 := Tryd.underlying67
  a23 := Tryd.isAgg67
  z23 := Tryd.sizeOf67
  v23 := Tryd.zeroValue67
  i23 := by kernel_rfl }
def sortL_ren : Go.Shelf.Ren := ⟨fun | 5 => 44 | 8 => 63 | 7 => 62 | 19 => 86 | 20 => 87 | 10 => 77 | 11 => 78 | 12 => 79 | 13 => 80 | 14 => 81 | 15 => 82 | 16 => 83 | 17 => 84 | 18 => 85 | 30 => 92 | 31 => 93 | 32 => 94 | 33 => 95 | 34 => 96 | 35 => 97 | 40 => 99 | n => n, fun | 23 => 81 | 25 => 67 | 3 => 3 | 32 => 118 | 22 => 81 | 0 => 0 | 44 => 148 | 46 => 150 | 4 => 4 | 36 => 140 | 35 => 139 | 41 => 145 | 5 => 5 | 9 => 9 | 53 => 153 | 57 => 157 | 63 => 161 | 64 => 162 | n => n, fun | n => n⟩
theorem sortL : Go.Proofs.SlLaysM.n5 Tryd.prog sortL_ren := {
  mixed := by kernel_rfl
  f5 := ⟨Tryd.f44.name, by decide, Tryd.func44.trans (congrArg some (by kernel_rfl))⟩
  f7 := ⟨Tryd.f62.name, by decide, Tryd.func62.trans (congrArg some (by kernel_rfl))⟩
  f8 := Tryd.func63.trans (congrArg some (by kernel_rfl))
  f10 := ⟨Tryd.f77.name, by decide, Tryd.func77.trans (congrArg some (by kernel_rfl))⟩
  f11 := ⟨Tryd.f78.name, by decide, Tryd.func78.trans (congrArg some (by kernel_rfl))⟩
  f12 := ⟨Tryd.f79.name, by decide, Tryd.func79.trans (congrArg some (by kernel_rfl))⟩
  f13 := ⟨Tryd.f80.name, by decide, Tryd.func80.trans (congrArg some (by kernel_rfl))⟩
  f14 := ⟨Tryd.f81.name, by decide, Tryd.func81.trans (congrArg some (by kernel_rfl))⟩
  f15 := ⟨Tryd.f82.name, by decide, Tryd.func82.trans (congrArg some (by kernel_rfl))⟩
  f16 := ⟨Tryd.f83.name, by decide, Tryd.func83.trans (congrArg some (by kernel_rfl))⟩
  f17 := ⟨Tryd.f84.name, by decide, Tryd.func84.trans (congrArg some (by kernel_rfl))⟩
  f18 := ⟨Tryd.f85.name, by decide, Tryd.func85.trans (congrArg some (by kernel_rfl))⟩
  f19 := Tryd.func86.trans (congrArg some (by kernel_rfl))
  f20 := Tryd.func87.trans (congrArg some (by kernel_rfl))
  f30 := ⟨Tryd.f92.name, by decide, Tryd.func92.trans (congrArg some (by kernel_rfl))⟩
  f31 := Tryd.func93.trans (congrArg some (by kernel_rfl))
  f32 := Tryd.func94.trans (congrArg some (by kernel_rfl))
  f33 := ⟨Tryd.f95.name, by decide, Tryd.func95.trans (congrArg some (by kernel_rfl))⟩
  f34 := ⟨Tryd.f96.name, by decide, Tryd.func96.trans (congrArg some (by kernel_rfl))⟩
  f35 := ⟨Tryd.f97.name, by decide, Tryd.func97.trans (congrArg some (by kernel_rfl))⟩
  f40 := ⟨Tryd.f99.name, by decide, Tryd.func99.trans (congrArg some (by kernel_rfl))⟩
  t0 := Tryd.underlying0
  a0 := Tryd.isAgg0
  z0 := Tryd.sizeOf0
  v0 := Tryd.zeroValue0
  t3 := Tryd.underlying3
  a3 := Tryd.isAgg3
  z3 := Tryd.sizeOf3
  v3 := Tryd.zeroValue3
  t4 := Tryd.underlying4
  a4 := Tryd.isAgg4
  z4 := Tryd.sizeOf4
  v4 := Tryd.zeroValue4
  t5 := Tryd.underlying5
  a5 := Tryd.isAgg5
  z5 := Tryd.sizeOf5
  v5 := Tryd.zeroValue5
  t9 := Tryd.underlying9
  a9 := Tryd.isAgg9
  z9 := Tryd.sizeOf9
  v9 := Tryd.zeroValue9
  t22 := Tryd.underlying81
  a22 := Tryd.isAgg81
  z22 := Tryd.sizeOf81
  v22 := Tryd.zeroValue81
  t23 := Tryd.underlying81
  a23 := Tryd.isAgg81
  z23 := Tryd.sizeOf81
  v23 := Tryd.zeroValue81
  t25 := Tryd.underlying67
  a25 := Tryd.isAgg67
  z25 := Tryd.sizeOf67
  v25 := Tryd.zeroValue67
  t32 := Tryd.underlying118
  a32 := Tryd.isAgg118
  z32 := Tryd.sizeOf118
  v32 := Tryd.zeroValue118
  t35 := Tryd.underlying139
  a35 := Tryd.isAgg139
  z35 := Tryd.sizeOf139
  v35 := Tryd.zeroValue139
  t36 := Tryd.underlying140
  a36 := Tryd.isAgg140
  z36 := Tryd.sizeOf140
  v36 := Tryd.zeroValue140
  t41 := Tryd.underlying145
  a41 := Tryd.isAgg145
  z41 := Tryd.sizeOf145
  v41 := Tryd.zeroValue145
  t44 := Tryd.underlying148
  a44 := Tryd.isAgg148
  z44 := Tryd.sizeOf148
  v44 := Tryd.zeroValue148
  t46 := Tryd.underlying150
  a46 := Tryd.isAgg150
  z46 := Tryd.sizeOf150
  v46 := Tryd.zeroValue150
  t53 := Tryd.underlying153
  a53 := Tryd.isAgg153
  z53 := Tryd.sizeOf153
  v53 := Tryd.zeroValue153
  t57 := Tryd.underlying157
  a57 := Tryd.isAgg157
  z57 := Tryd.sizeOf157
  v57 := Tryd.zeroValue157
  t63 := Tryd.underlying161
  a63 := Tryd.isAgg161
  z63 := Tryd.sizeOf161
  v63 := Tryd.zeroValue161
  t64 := Tryd.underlying162
  a64 := Tryd.isAgg162
  z64 := Tryd.sizeOf162
  v64 := Tryd.zeroValue162 }
end Go.Proofs.YtkefpickpjjllaaDoor

/- The variables that were followed (a map of bools, as impl.occurs keeps it). No condition. -/
namespace Go.Proofs.YtkefpickpjjllaaDoor
open Go.RowKit Go.Maps

theorem zeroB (w : World) : (zeroValue 4).run Tryd.prog w = .ok (.bool false) w := by kernel_rfl
/-- The map in block sb holds true at the variables of S, and nothing else. -/
def SeenB (w : World) (sb : Nat) (S : List Int) : Prop := ∃ D : DataW Value, w.ownsMap Tryd.prog 67 heldR sb S.length D ∧ IsMap D ∧ (∀ n : Int, n ∈ S → D.atKey (.int .i64 n) (.held (.bool false)) = .held (.bool true)) ∧
  ∀ n : Int, n ∉ S → D.atKey (.int .i64 n) (.held (.bool false)) = .held (.bool false)
theorem SeenB.wrote {w w' : World} {sb : Nat} {S : List Int} {L : List Nat} (h : SeenB w sb S) (hb : Wrote L w w') (hg : sb ∉ L) : SeenB w' sb S := by
  obtain ⟨D, hD, h1, h2, h3⟩ := h
  have hlt := hD.lt
  obtain ⟨es, clock, he, r⟩ := hD
  exact ⟨D, ⟨es, clock, (hb.block sb hlt hg).trans he, r⟩, h1, h2, h3⟩
theorem SeenB.below {w w' : World} {sb : Nat} {S : List Int} (h : SeenB w sb S) (hb : Below w.heap.size w w') : SeenB w' sb S := h.wrote (.of_below hb []) (by simp)
theorem SeenB.lt {w : World} {sb : Nat} {S : List Int} (h : SeenB w sb S) : sb < w.heap.size := by
  obtain ⟨D, hD, _⟩ := h
  exact hD.lt
/-- Reading it. -/
theorem SeenB.look {w : World} {sb : Nat} {S : List Int} (h : SeenB w sb S) {n : Int} (hn : 0 ≤ n ∧ n < 26) : (Instr.lookup 134 (.map (some sb)) (.int .i64 n) false).run Tryd.prog w = .ok (.bool (decide (n ∈ S))) w := by
  obtain ⟨D, hD, h1, h2, h3⟩ := h
  have hkey : keyOf Tryd.prog 67 (.int .i64 n) = some (.int .i64 n) := keyOf_int_mk Tryd.underlying67 (WalkArith.wf_i64 (by omega))
  obtain ⟨v, ps, hrun, hv⟩ := hD.lookup lawN Tryd.underlying134 (zeroB w) (zd := .held (.bool false)) (zp := []) rfl hkey
  rw [hrun]
  by_cases hm : n ∈ S
  · rw [heldR_inv hv (h2 n hm)]
    simp [hm]
  · rw [heldR_inv hv (h3 n hm)]
    simp [hm]
/-- One more. -/
theorem SeenB.put {w1 : World} {sb : Nat} {S : List Int} {D : DataW Value} {n : Int} (h1 : IsMap D) (h2 : ∀ n : Int, n ∈ S → D.atKey (.int .i64 n) (.held (.bool false)) = .held (.bool true))
    (h3 : ∀ n : Int, n ∉ S → D.atKey (.int .i64 n) (.held (.bool false)) = .held (.bool false)) (hD : w1.ownsMap Tryd.prog 67 heldR sb (S.length + 1) (D.put (.int .i64 n) (.held (.bool true)))) : SeenB w1 sb (n :: S) := by
  refine ⟨_, hD, h1.put _ _, fun x hx => ?_, fun x hx => ?_⟩
  · by_cases e : x = n
    · subst e
      exact atKey_put_same h1 (show WideAt.IsKeyLit (.int .i64 x) from trivial) _ _
    · rw [atKey_put_other (fun h => e (by injection h))]
      rcases List.mem_cons.1 hx with h | h
      · exact absurd h e
      · exact h2 x h
  · have e : x ≠ n := fun e => hx (by simp [e])
    rw [atKey_put_other (fun h => e (by injection h))]
    exact h3 x fun h => hx (List.mem_cons_of_mem _ h)
/-- Following one variable more: what is settled then. -/
theorem closed_var {σ : Sub} {v x : Int} {t : Nd} {S S' : List Int} (hl : lk σ x = some t) (hc : Closed σ v (x :: S) S') (hz : ∀ z, occN t z → Stl σ v S' z) : Closed σ v S S' := by
  intro y hy hyS
  by_cases e : y = x
  · subst e
    exact ⟨t, hl, hz⟩
  · exact hc y hy fun h => by
      rcases List.mem_cons.1 h with h | h
      · exact e h
      · exact hyS h
end Go.Proofs.YtkefpickpjjllaaDoor

/- unifier.meaning. Condition: the node and the map of bindings lie in memory. -/
namespace Go.Proofs.YtkefpickpjjllaaDoor
open Go.RowKit Go.Maps

set_option maxRecDepth 100000 in
set_option maxHeartbeats 4000000 in
theorem meaning_any (σ : Sub) (hσ : Ok2 σ) (m0 : Nd) (v0 : Value) (lo hi mb ub : Nat) (w : World) (hv : NdV w lo hi m0.k m0.n m0.s m0.f v0) (hh : hi ≤ w.heap.size) (hub : ub < w.heap.size) (hU : w.cell? ⟨ub, 0, none⟩ = some (.map (some mb))) (hK : MpS w lo hi mb σ) (hs : shapeT m0.k m0.n m0.s m0.f 30 = true) :
    Calls Tryd.prog 59 #[.pointer (some ⟨ub, 0, none⟩), v0] w fun e w' => ∃ v', e = .returned v' ∧ NdV w' lo hi (wk σ m0).k (wk σ m0).n (wk σ m0).s (wk σ m0).f v' ∧ shapeT (wk σ m0).k (wk σ m0).n (wk σ m0).s (wk σ m0).f 30 = true ∧ Below w.heap.size w w' := by
  have HST : Hid (∃ m : Nd, wl σ m ≤ wl σ m0 ∧ wk σ m = wk σ m0 ∧ shapeT m.k m.n m.s m.f 30 = true ∧ NdV w lo hi m.k m.n m.s m.f v0) := Lib.hid ⟨m0, Nat.le_refl _, rfl, hs, hv⟩
  have HK := Lib.hid hK
  have HOK := Lib.hid hσ
  have HUB := Lib.hid hU
  clear hv hK hs hσ hU
  generalize wl σ m0 = n0 at *
  generalize wk σ m0 = mE at *
  go_enter Tryd.func59, Tryd.ntmps59
  go_wp2_with fail
  go_loopg [1] n0 (fun gk nv wr => ∃ m : Nd, wl σ m ≤ gk ∧ wk σ m = mE ∧ shapeT m.k m.n m.s m.f 30 = true ∧ NdV wr lo hi m.k m.n m.s m.f nv ∧ Below w.heap.size w wr)
  case atStart =>
    obtain ⟨m, h1, h2, h3, h4⟩ := HST.out
    exact ⟨m, h1, h2, h3, h4, .refl _ _⟩
  case round =>
    obtain ⟨m, h1, h2, h3, h4, h5⟩ := hrel
    have hU := (h5.cell (p := ⟨ub, 0, none⟩) hub).trans HUB.out
    have hKr := HK.out.below h5 hh
    have HB := Lib.hid h5
    have hsw := h5.size
    have H4 := Lib.hid h4
    have H2 := Lib.hid h2
    have HSH := Lib.hid h3
    rcases h4 with ⟨hk1, hvv⟩ | ⟨hk1, hvv⟩ | ⟨hk1, A, cap, hvv, hkk⟩
    · subst hvv
      obtain ⟨hms, hmf, hn0⟩ := shapeT_var (by rw [hk1] at h3; exact h3)
      have HKN := Lib.hid hKr
      obtain ⟨D, hD, hI, hH, hX⟩ := hKr
      have hkey : keyOf Tryd.prog 67 (.int .i64 m.n) = some (.int .i64 m.n) := keyOf_int_mk Tryd.underlying67 (WalkArith.wf_i64 (by omega))
      have hhn := hH m.n
      have HD := Lib.hid hD
      cases hlk : lkS σ m.n with
      | none =>
        rw [hlk] at hhn
        have HHN : Hid (has D (.int .i64 m.n) = false) := Lib.hid hhn
        have HE : Hid (m = mE) := Lib.hid ((wk_stop σ m (.inr hlk)).1.symm.trans h2)
        clear h1 h2 h3 h5 hD hI hH hX hhn hlk HST hk1 hms hmf hn0
        go_wp2_with (at_lookup; refine wpList_lookup_own_ok _ rfl _ _ 66 rfl 67 53 lawN Tryd.underlying66 heldR (zeroN _) (.held .nilIface) [] rfl mb σ.length D rfl HD.out _ _ rfl hkey ?_; intro v ps hv; rw [HHN.out]; clear hv)
        go_ret
        exact ⟨_, rfl, by rw [← HE.out]; exact H4.out, by rw [← HE.out]; exact HSH.out, HB.out⟩
      | some t =>
        rw [hlk] at hhn
        have HHN : Hid (has D (.int .i64 m.n) = true) := Lib.hid hhn
        obtain ⟨hso, u, hat, hu⟩ := hX m.n t hlk
        have HAT := Lib.hid hat
        have hst := wk_step σ m t HOK.out hk1 hlk
        have hgk : 1 ≤ gk := by have := hst.2; omega
        have HNX : Hid (∃ m : Nd, wl σ m ≤ gk - 1 ∧ wk σ m = mE ∧ shapeT m.k m.n m.s m.f 30 = true ∧ NdV wr lo hi m.k m.n m.s m.f u ∧ Below w.heap.size w wr) := Lib.hid ⟨t, by have := hst.2; omega, hst.1.symm.trans h2, hso, hu, h5⟩
        obtain ⟨T3, z3, rfl⟩ := hu.iface
        clear h1 h2 h3 h5 hD hI hH hX hhn hlk HST hk1 hms hmf hn0 hat hu hst hso
        go_wp2_with (at_lookup; refine wpList_lookup_own_ok _ rfl _ _ 66 rfl 67 53 lawN Tryd.underlying66 heldR (zeroN _) (.held .nilIface) [] rfl mb σ.length D rfl HD.out _ _ rfl hkey ?_; intro v ps hv; rw [HHN.out]; have hv2 := heldR_inv hv HAT.out; subst hv2; clear hv)
        go_roundg (gk - 1)
        case measure => omega
        case rel => exact HNX.out
    · subst hvv
      have HE : Hid (m = mE) := Lib.hid ((wk_stop σ m (.inl (by rw [hk1]; omega))).1.symm.trans h2)
      clear h1 h2 h3 h5 hKr HST hk1
      go_wp2_with fail
      go_ret
      exact ⟨_, rfl, by rw [← HE.out]; exact H4.out, by rw [← HE.out]; exact HSH.out, HB.out⟩
    · subst hvv
      have HE : Hid (m = mE) := Lib.hid ((wk_stop σ m (.inl (by rw [hk1]; omega))).1.symm.trans h2)
      clear h1 h2 h3 h5 hKr HST hk1 hkk
      go_wp2_with fail
      go_ret
      exact ⟨_, rfl, by rw [← HE.out]; exact H4.out, by rw [← HE.out]; exact HSH.out, HB.out⟩
end Go.Proofs.YtkefpickpjjllaaDoor

/- unifier.occurs. Condition: the node, the map of bindings and the map of what was followed lie in memory. -/
namespace Go.Proofs.YtkefpickpjjllaaDoor
open Go.RowKit Go.Maps

/-- What occurs leaves. -/
def OcRes (σ : Sub) (v : Int) (m : Nd) (w : World) (sb : Nat) (S : List Int) (e : Ending) (w' : World) : Prop :=
  ∃ (b : Bool) (S' : List Int), e = .returned (.bool b) ∧ Wrote [sb] w w' ∧ SeenB w' sb S' ∧ (∀ x ∈ S, x ∈ S') ∧ S'.Nodup ∧ (∀ x ∈ S', 0 ≤ x ∧ x < (26 : Nat)) ∧ (b = true → ∃ y, occN m y ∧ Rch σ v y) ∧ (b = false → Closed σ v S S' ∧ ∀ y, occN m y → Stl σ v S' y)
def OcP (σ : Sub) (v : Int) (m : Nd) : Prop := ∀ (S : List Int) (val : Value) (lo hi mb ub sb : Nat) (w : World), S.Nodup → (∀ x ∈ S, 0 ≤ x ∧ x < (26 : Nat)) → NdV w lo hi m.k m.n m.s m.f val → shapeT m.k m.n m.s m.f 30 = true → hi ≤ w.heap.size → hi ≤ sb → sb ≠ mb → ub < w.heap.size → ub ≠ sb → w.cell? ⟨ub, 0, none⟩ = some (.map (some mb)) → MpS w lo hi mb σ → SeenB w sb S →
  Calls Tryd.prog 75 #[.pointer (some ⟨ub, 0, none⟩), .int .i64 v, val, .map (some sb)] w fun e w' => OcRes σ v m w sb S e w'
theorem closed_refl (σ : Sub) (v : Int) (S : List Int) : Closed σ v S S := fun _ hy h => absurd hy h
set_option maxRecDepth 100000 in
set_option maxHeartbeats 4000000 in
/-- A variable. -/
theorem ocVar (σ : Sub) (v x : Int) (h : ∀ t, lk σ x = some t → OcP σ v t) : OcP σ v (vNd x) := by
  intro S val lo hi mb ub sb w hnd hrg hv hs hh hsb hne hub hus hU hK hS
  have hn0 : 0 ≤ x ∧ x ≤ 25 := (shapeT_var hs).2.2
  rcases hv with ⟨_, rfl⟩ | ⟨hk1, _⟩ | ⟨hk1, _⟩
  · have HKN := Lib.hid hK
    have HSN := Lib.hid hS
    have hlook := hS.look (show 0 ≤ x ∧ x < 26 by omega)
    obtain ⟨D, hD, hI, hH, hX⟩ := hK
    have hkey : keyOf Tryd.prog 67 (.int .i64 x) = some (.int .i64 x) := keyOf_int_mk Tryd.underlying67 (WalkArith.wf_i64 (by omega))
    have hhn := hH x
    have HD := Lib.hid hD
    have HND := Lib.hid (And.intro hnd hrg)
    cases hlk : lkS σ x with
    | none =>
      rw [hlk] at hhn
      have HHN : Hid (has D (.int .i64 x) = false) := Lib.hid hhn
      have HLK := Lib.hid hlk
      clear hD hI hH hX hhn hlk hnd hrg h hs hlook
      show Calls _ _ #[_, _, .iface 67 (.int .i64 x), _] _ _
      generalize hb : (x == v) = b
      have HB := Lib.hid hb
      go_enter Tryd.func75, Tryd.ntmps75
      go_wp2_with (at_lookup; refine wpList_lookup_own_ok _ rfl _ _ 66 rfl 67 53 lawN Tryd.underlying66 heldR (zeroN _) (.held .nilIface) [] rfl mb σ.length D rfl HD.out _ _ rfl hkey ?_; intro v9 ps hv9; rw [HHN.out]; clear hv9)
      go_ret
      refine ⟨b, S, rfl, .refl _ _, HSN.out, fun _ h => h, HND.out.1, HND.out.2, fun hbt => ?_, fun hbf => ⟨closed_refl σ v S, fun y hy => ?_⟩⟩
      · have e : x = v := by have := HB.out; rw [hbt] at this; simpa using this
        subst e
        exact ⟨x, (occN_var x x).2 rfl, .here HLK.out⟩
      · have e : x ≠ v := by have := HB.out; rw [hbf] at this; simpa using this
        rw [(occN_var x y).1 hy]
        exact .inr ⟨HLK.out, e⟩
    | some t =>
      rw [hlk] at hhn
      have HHN : Hid (has D (.int .i64 x) = true) := Lib.hid hhn
      have HLK := Lib.hid hlk
      obtain ⟨hso, u, hat, hu⟩ := hX x t hlk
      have HAT := Lib.hid hat
      have HC := Lib.hid (h t hlk)
      have HUU := Lib.hid hU
      show Calls _ _ #[_, _, .iface 67 (.int .i64 x), _] _ _
      by_cases hm : x ∈ S
      · rw [decide_eq_true hm] at hlook
        obtain ⟨T3, z3, rfl⟩ := hu.iface
        have HM := Lib.hid hm
        clear hD hI hH hX hhn hlk hnd hrg h hs hat hu hm hso
        go_enter Tryd.func75, Tryd.ntmps75
        go_wp2_with (at_lookup; refine wpList_lookup_own_ok _ rfl _ _ 66 rfl 67 53 lawN Tryd.underlying66 heldR (zeroN _) (.held .nilIface) [] rfl mb σ.length D rfl HD.out _ _ rfl hkey ?_; intro v9 ps hv9; rw [HHN.out]; have hv2 := heldR_inv hv9 HAT.out; subst hv2; clear hv9)
        go_ret
        exact ⟨false, S, rfl, .refl _ _, HSN.out, fun _ h => h, HND.out.1, HND.out.2, fun h => (by cases h), fun _ => ⟨closed_refl σ v S, fun y hy => by rw [(occN_var x y).1 hy]; exact .inl HM.out⟩⟩
      · rw [decide_eq_false hm] at hlook
        obtain ⟨D2, hD2, hI2, ha2, hb2⟩ := HSN.out
        have HD2 := Lib.hid hD2
        have PUT := fun w1 h4 => SeenB.put (w1 := w1) (sb := sb) (S := S) (n := x) hI2 ha2 hb2 h4
        have HP := Lib.hid PUT
        have HU := Lib.hid (And.intro hso hu)
        have HM := Lib.hid hm
        have hS26 : S.length ≤ 26 := nodup_len 26 S hnd hrg
        have hmlt := HKN.out.lt
        obtain ⟨T3, z3, rfl⟩ := hu.iface
        clear hD hI hH hX hhn hlk hnd hrg h hs hat hu hm hso hD2 hI2 ha2 hb2 PUT
        go_enter Tryd.func75, Tryd.ntmps75
        go_wp2_with (first
          | (at_lookup; refine wpList_lookup_own_ok _ rfl _ _ 66 rfl 67 53 lawN Tryd.underlying66 heldR (zeroN _) (.held .nilIface) [] rfl mb σ.length D rfl HD.out _ _ rfl hkey ?_; intro v9 ps hv9; rw [HHN.out]; have hv2 := heldR_inv hv9 HAT.out; subst hv2; clear hv9)
          | (at_mapUpdate; refine wpList_mapUpdate_own _ rfl _ _ _ 134 rfl 67 4 lawN Tryd.underlying134 heldR sb S.length D2 rfl HD2.out (by unfold maxLen; omega) _ _ _ rfl rfl hkey (.held (.bool true)) [] rfl ?_; intro w1 hown1 hgrow1; have HO1 := Lib.hid hown1; have HG1 := Lib.hid hgrow1; clear hown1 hgrow1))
        have hw1 : Wrote [sb] w w1 := ⟨HG1.out.os, HG1.out.tape, HG1.out.output, HG1.out.size, fun x hx hn => HG1.out.block x hx fun e => hn (by simpa using e)⟩
        have hnd1 : (x :: S).Nodup := List.nodup_cons.2 ⟨HM.out, HND.out.1⟩
        have hrg1 : ∀ y ∈ x :: S, 0 ≤ y ∧ y < (26 : Nat) := fun y hy => by
          rcases List.mem_cons.1 hy with e | e
          · subst e; omega
          · exact HND.out.2 y e
        have hs1 := hw1.size
        refine (HC.out (x :: S) (.iface T3 z3) lo hi mb ub sb w1 hnd1 hrg1 (HU.out.2.keep (fun p _ hp => hw1.cell (by omega) (by simp; omega)) (Nat.le_refl _) (Nat.le_refl _)) HU.out.1 (by omega) hsb hne (by omega) hus ((hw1.cell (p := ⟨ub, 0, none⟩) hub (by simpa using hus)).trans HUU.out) (HKN.out.wrote hw1 (by simpa using fun e => hne e.symm) hh (by simp; omega)) (HP.out w1 HO1.out)).mono ?_
        rintro e w2 ⟨b, S', rfl, g1, g2, g3, g4, g5, g6, g7⟩
        have HR : Hid (OcRes σ v (vNd x) w sb S (.returned (.bool b)) w2) := Lib.hid ⟨b, S', rfl, hw1.trans g1, g2, fun y hy => g3 y (List.mem_cons_of_mem _ hy), g4, g5, fun hb => by
          obtain ⟨y, h1, h2⟩ := g6 hb
          exact ⟨x, (occN_var x x).2 rfl, .step x y t HLK.out h1 h2⟩, fun hb => by
          obtain ⟨h1, h2⟩ := g7 hb
          exact ⟨closed_var HLK.out h1 h2, fun y hy => by rw [(occN_var x y).1 hy]; exact .inl (g3 x (List.mem_cons_self ..))⟩⟩
        clear hw1 hnd1 hrg1 g1 g2 g3 g4 g5 g6 g7
        go_wp2_with fail
        go_ret
        exact HR.out
  · exact absurd hk1 (by show (1 : Int) ≠ 2; omega)
  · exact absurd hk1 (by show (1 : Int) ≠ 3; omega)
theorem occ_drop {k n : Int} {s : ByteArray} {kids rest : Fr} {y : Int} (hy : occN ⟨k, n, s, kids⟩ y) : ∀ (i : Nat) (f : Fr), f.drop i = .cons k n s kids rest → occF f y := by
  intro i
  induction i with
  | zero =>
    intro f h
    have e : f.drop 0 = f := by cases f <;> rfl
    rw [e] at h
    subst h
    exact .inl hy
  | succ i ih =>
    intro f h
    cases f with
    | nil => cases h
    | cons k' n' s' kids' rest' => exact .inr (ih rest' h)
set_option maxRecDepth 100000 in
set_option maxHeartbeats 4000000 in
/-- A structure. -/
theorem ocStruct (σ : Sub) (v n : Int) (s : ByteArray) (f : Fr) (h : ∀ i k n s kids rest, f.drop i = .cons k n s kids rest → OcP σ v ⟨k, n, s, kids⟩) : OcP σ v ⟨3, n, s, f⟩ := by
  intro S val lo hi mb ub sb w hnd hrg hv hs hh hsb hne hub hus hU hK hS
  rcases hv with ⟨hk1, _⟩ | ⟨hk1, _⟩ | ⟨_, A, cap, rfl, hk⟩
  · exact absurd hk1 (by show (3 : Int) ≠ 1; omega)
  · exact absurd hk1 (by show (3 : Int) ≠ 2; omega)
  · have hk' : NdS w lo hi f A cap := hk
    have hsf := shapeF_mono f 29 30 (by omega) (shapeT_kids hs)
    have hb0 : Below w.heap.size w (w.alloc (.cells #[.string s, .slice A f.len cap] 105)) := (Below.refl _ _).alloc (Nat.le_refl _) _
    have hsw := hb0.size
    have hl := hk'.1
    have hm := hk'.2.1
    unfold maxLen at hm
    have hslt := hS.lt
    have HST : Hid (SeenB (w.alloc (.cells #[.string s, .slice A f.len cap] 105)) sb S ∧ S.Nodup ∧ (∀ x ∈ S, 0 ≤ x ∧ x < (26 : Nat)) ∧ shapeF f 30 = true) := Lib.hid ⟨hS.below hb0, hnd, hrg, hsf⟩
    have HB0 := Lib.hid hb0
    have HK := Lib.hid hk'
    have HH := Lib.hid h
    have HKN := Lib.hid hK
    have HUU := Lib.hid hU
    show Calls _ _ #[_, _, .iface 105 (.agg #[.string s, .slice A f.len cap]), _] _ _
    generalize hn : f.len = len at *
    have HN := Lib.hid hn
    clear h hk hk' hnd hrg hs hsf hU hK hS hb0 hn
    go_enter Tryd.func75, Tryd.ntmps75
    go_wp2_with fail
    generalize (w.alloc (.cells #[.string s, .slice A len cap] 105)) = w1 at *
    go_loopw [49] (fun i wr => ∃ (j : Nat) (S1 : List Int), j ≤ len ∧ i = .int .i64 j ∧ SeenB wr sb S1 ∧ (∀ x ∈ S, x ∈ S1) ∧ S1.Nodup ∧ (∀ x ∈ S1, 0 ≤ x ∧ x < (26 : Nat)) ∧ Closed σ v S S1 ∧ (∀ y, occF f y → Stl σ v S1 y ∨ occF (f.drop j) y) ∧ shapeF (f.drop j) 30 = true ∧ Wrote [sb] w1 wr) (fun i _ => len - (intOf i).toNat)
    case atStart => exact ⟨0, S, Nat.zero_le _, rfl, HST.out.1, fun _ h => h, HST.out.2.1, HST.out.2.2.1, closed_refl σ v S, fun y hy => .inr hy, HST.out.2.2.2, .refl _ _⟩
    case round =>
      obtain ⟨j, S1, hj, rfl, hS1, hsub, hnd, hrg, hcl, hoc, hsh, hw⟩ := hrel
      by_cases hlt : j < len
      · obtain ⟨kk, nn, sk, kids, hd⟩ := Fr.drop_cons j f (by rw [HN.out]; exact hlt)
        obtain ⟨b, rfl, hlb, hbb, hrow⟩ := HK.out.2.2 (by rw [HN.out]; omega)
        obtain ⟨vv, hcell, hnv⟩ := hrow.elem hd
        rw [Nat.zero_add] at hcell
        rw [hd, shapeF_cons, Bool.and_eq_true] at hsh
        have hw0 : Wrote [sb] w wr := (Wrote.of_below HB0.out _).trans hw
        have hkeep : ∀ p : Addr, p.block < hi → wr.cell? p = w.cell? p := fun p hp => hw0.cell (by omega) (by simp; omega)
        have k0 := (hkeep ⟨b, j, none⟩ hbb).trans hcell
        have hs0 := hw0.size
        have C1 := HH.out _ _ _ _ _ _ hd S1 vv lo hi mb ub sb wr hnd hrg (hnv.keep (fun p _ hp => hkeep p hp) (Nat.le_refl _) (Nat.le_refl _)) hsh.1 (by omega) hsb hne (by omega) hus ((hw0.cell (p := ⟨ub, 0, none⟩) hub (by simpa using hus)).trans HUU.out) (HKN.out.wrote hw0 (by simpa using fun e => hne e.symm) hh (by simp; omega)) hS1
        obtain ⟨T1, z1, rfl⟩ := hnv.iface
        have H1 := Lib.hid C1
        have HF := Lib.hid (And.intro hsub (And.intro hcl (And.intro hoc (And.intro hsh.2 (And.intro hw hd)))))
        clear C1 hS1 hsub hnd hrg hcl hoc hsh hw hw0 hkeep hrow hcell hnv hd
        go_wp2_with fail
        refine H1.out.mono ?_
        rintro e w3 ⟨bb, S2, rfl, g1, g2, g3, g4, g5, g6, g7⟩
        obtain ⟨hsub, hcl, hoc, hs2, hw, hd⟩ := HF.out
        cases bb
        · obtain ⟨c1, c2⟩ := g7 rfl
          have HNX := Lib.hid (show SeenB w3 sb S2 ∧ (∀ x ∈ S, x ∈ S2) ∧ S2.Nodup ∧ (∀ x ∈ S2, 0 ≤ x ∧ x < (26 : Nat)) ∧ Closed σ v S S2 ∧ (∀ y, occF f y → Stl σ v S2 y ∨ occF (f.drop (j + 1)) y) ∧ shapeF (f.drop (j + 1)) 30 = true ∧ Wrote [sb] w1 w3 from
            ⟨g2, fun x hx => g3 x (hsub x hx), g4, g5, closed_trans hcl c1 g3, fun y hy => by
              rcases hoc y hy with e | e
              · exact .inl (stl_more g3 e)
              · rw [hd] at e
                rcases e with e | e
                · exact .inl (c2 y e)
                · exact .inr e, hs2, hw.trans g1⟩)
          clear g1 g2 g3 g4 g5 g6 g7 c1 c2 hsub hcl hoc hs2 hw hd
          go_wp2_with fail
          go_roundw
          case rel => exact ⟨j + 1, S2, by omega, by go_num, HNX.out⟩
          case measure => simp [intOf]; omega
        · obtain ⟨y, hy, hr⟩ := g6 rfl
          have HR : Hid (OcRes σ v ⟨3, n, s, f⟩ w sb S (.returned (.bool true)) w3) := Lib.hid ⟨true, S2, rfl, ((Wrote.of_below HB0.out _).trans hw).trans g1, g2, fun x hx => g3 x (hsub x hx), g4, g5, fun _ => ⟨y, by
            unfold occN
            rw [if_neg (show (3 : Int) ≠ 1 by omega)]
            exact occ_drop hy j f hd, hr⟩, fun h => (by cases h)⟩
          clear g1 g2 g3 g4 g5 g6 g7 hsub hcl hoc hs2 hw hd hy hr
          go_wp2_with fail
          go_ret
          exact HR.out
      · obtain rfl : j = len := by omega
        have HR : Hid (OcRes σ v ⟨3, n, s, f⟩ w sb S (.returned (.bool false)) wr) := Lib.hid ⟨false, S1, rfl, (Wrote.of_below HB0.out _).trans hw, hS1, hsub, hnd, hrg, fun h => (by cases h), fun _ => ⟨hcl, fun y hy => by
          unfold occN at hy
          rw [if_neg (show (3 : Int) ≠ 1 by omega)] at hy
          rcases hoc y hy with e | e
          · exact e
          · have h1 := Fr.drop_len f
            rw [HN.out] at h1
            rw [h1] at e
            exact e.elim⟩⟩
        clear hS1 hsub hnd hrg hcl hoc hsh hw
        go_wp2_with fail
        go_ret
        exact HR.out
end Go.Proofs.YtkefpickpjjllaaDoor
