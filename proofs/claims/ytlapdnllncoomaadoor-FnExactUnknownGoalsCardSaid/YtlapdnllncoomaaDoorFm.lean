/- Goals in memory: their forms, elements of a row of goals. Condition: the goals lie in memory. -/
import Derived.Test.YtlapdnllncoomaaDoorProg
import Derived.Test.YtlapdnllncoomaaDoorCvI
import Derived.Test.YtlapdnllncoomaaDoorTermOf
namespace Go.Proofs.YtlapdnllncoomaaDoor
open Go.RowKit Go.ChangeShapes

@[go_sem] theorem mth_pf (d : Nat) (x : Value) (w : World) : (method (d + 3) 74 x "loop.example/prologserver/impl.form").run Tryd.prog w = .ok (117, x) w := by kernel_rfl
set_option maxRecDepth 100000 in
/-- plainGoal.form. -/
theorem formP_any (s : ByteArray) (A : Option Addr) (len cap : Nat) (w : World) :
    Calls Tryd.prog 117 #[.agg #[.string s, .slice A len cap]] w fun e w' => e = .returned (.agg #[.string s, .slice A len cap]) ∧ Below w.heap.size w w' := by
  have HB : ∀ o o', Hid (Below w.heap.size w ((w.alloc o).alloc o')) := fun o o' => Lib.hid (two_alloc w o o')
  have hq := Blk.new (w.alloc (.cells #[.string s, .slice A len cap] 74)) 60 #[.string s, .slice A len cap]
  rw [show (w.alloc (.cells #[.string s, .slice A len cap] 74)).heap.size = w.heap.size + 1 by simp] at hq
  have HQ := Lib.hid hq
  clear hq
  go_enter Tryd.func117, Tryd.ntmps117
  go_wp2_with fail
  refine bodyPost_ret (v := .agg #[.string s, .slice A len cap]) ?_ rfl ⟨rfl, (HB _ _).out⟩
  exact results_cell_row Tryd.results117 _ _ (w.heap.size + 1) _ _ _ _ rfl HQ.out Tryd.underlying60 rfl (by kernel_rfl)

theorem GlRow.at_ {w : World} {lo hi : Nat} : ∀ (f : Fr) (i b o : Nat), GlRow w lo hi f b o → GlRow w lo hi (f.drop i) b (o + i)
  | .nil, i, _, _, _ => by cases i <;> trivial
  | .cons _ _ _ _ _, 0, _, _, h => h
  | .cons _ _ _ _ rest, i + 1, b, o, h => by
    have := GlRow.at_ rest i b (o + 1) h.2
    rw [show o + 1 + i = o + (i + 1) by omega] at this
    exact this
theorem GlRow.elem {w : World} {lo hi i b o : Nat} {f rest kids : Fr} {k n : Int} {s : ByteArray} (h : GlRow w lo hi f b o) (hd : f.drop i = .cons k n s kids rest) :
    ∃ v A cap, w.cell? ⟨b, o + i, none⟩ = some v ∧ GIs (gk s kids.len) s A kids.len cap v ∧ NdS w lo hi kids A cap := by
  have := GlRow.at_ f i b o h
  rw [hd] at this
  exact this.1
theorem allG_elem {k n : Int} {s : ByteArray} {kids rest : Fr} : ∀ (f : Fr) (i : Nat), f.drop i = .cons k n s kids rest → allG f = true → goalV k n s kids = true
  | .nil, i, h, _ => by cases i <;> cases h
  | .cons _ _ _ _ _, 0, h, ha => by
    injection h with h1 h2 h3 h4 h5
    subst h1 h2 h3 h4
    exact (Bool.and_eq_true _ _ ▸ ha).1
  | .cons _ _ _ _ rest, i + 1, h, ha => allG_elem rest i h (Bool.and_eq_true _ _ ▸ ha).2
theorem valid_shape2 {k n : Int} {s : ByteArray} {f : Fr} (h : validT k n s f = true) : shapeT k n s f 30 = true ∧ nodes f ≤ 119 := by
  unfold validT at h
  rw [Bool.and_eq_true, decide_eq_true_iff] at h
  exact ⟨h.1, by omega⟩
/-- A goal in memory: whether it is plain, and what then. -/
theorem goal_plain {k n : Int} {s : ByteArray} {kids : Fr} (h : goalV k n s kids = true) (hg : gk s kids.len = 3) : plainK k s kids.len = true ∧ k = 3 ∧ n = 0 ∧ validT 3 0 s kids = true := by
  have hp : plainV k n s kids = true := by rw [plainV_goal, h, hg]; rfl
  unfold plainV at hp
  rw [Bool.and_eq_true] at hp
  have h3 := hp.2
  unfold plainK at h3
  rw [Bool.and_eq_true, beq_iff_eq] at h3
  obtain ⟨rfl, _⟩ := h3
  have hv := hp.1
  have hs := (valid_shape2 hv).1
  obtain ⟨rfl, _⟩ := shapeT_struct hs
  exact ⟨hp.2, rfl, rfl, hv⟩
theorem goal_other {k n : Int} {s : ByteArray} {kids : Fr} (h : goalV k n s kids = true) (hg : gk s kids.len ≠ 3) : plainK k s kids.len = false := by
  have hp : plainV k n s kids = false := by rw [plainV_goal, h]; simpa using hg
  have hv : validT k n s kids = true := by
    unfold goalV at h
    rw [Bool.and_eq_true] at h
    exact h.1
  unfold plainV at hp
  rw [hv] at hp
  exact hp

@[go_sem] theorem mth_bf (d : Nat) (x : Value) (w : World) : (method (d + 3) 137 x "loop.example/prologserver/impl.form").run Tryd.prog w = .ok (121, x) w := by kernel_rfl
@[go_sem] theorem mth_cf (d : Nat) (x : Value) (w : World) : (method (d + 3) 136 x "loop.example/prologserver/impl.form").run Tryd.prog w = .ok (120, x) w := by kernel_rfl
set_option maxRecDepth 100000 in
/-- builtinGoal.form. -/
theorem formB_any (s : ByteArray) (A : Option Addr) (len cap : Nat) (w : World) :
    Calls Tryd.prog 121 #[.agg #[.string s, .slice A len cap]] w fun e w' => e = .returned (.agg #[.string s, .slice A len cap]) ∧ Below w.heap.size w w' := by
  have HB : ∀ o o', Hid (Below w.heap.size w ((w.alloc o).alloc o')) := fun o o' => Lib.hid (two_alloc w o o')
  have hq := Blk.new (w.alloc (.cells #[.string s, .slice A len cap] 137)) 60 #[.string s, .slice A len cap]
  rw [show (w.alloc (.cells #[.string s, .slice A len cap] 137)).heap.size = w.heap.size + 1 by simp] at hq
  have HQ := Lib.hid hq
  clear hq
  go_enter Tryd.func121, Tryd.ntmps121
  go_wp2_with fail
  refine bodyPost_ret (v := .agg #[.string s, .slice A len cap]) ?_ rfl ⟨rfl, (HB _ _).out⟩
  exact results_cell_row Tryd.results121 _ _ (w.heap.size + 1) _ _ _ _ rfl HQ.out Tryd.underlying60 rfl (by kernel_rfl)
set_option maxRecDepth 100000 in
/-- cutGoal.form. -/
theorem formC_any (w : World) :
    Calls Tryd.prog 120 #[.agg #[]] w fun e w' => e = .returned (.agg #[.string ⟨#[33]⟩, .slice none 0 0]) ∧ Below w.heap.size w w' := by
  have HB : ∀ o o', Hid (Below w.heap.size w ((w.alloc o).alloc o')) := fun o o' => Lib.hid (two_alloc w o o')
  have hq := Blk.new (w.alloc (.cells #[] 136)) 60 #[.string ⟨#[33]⟩, .slice none 0 0]
  rw [show (w.alloc (.cells #[] 136)).heap.size = w.heap.size + 1 by simp] at hq
  have HQ := Lib.hid hq
  clear hq
  go_enter Tryd.func120, Tryd.ntmps120
  go_wp2_with fail
  refine bodyPost_ret (v := .agg #[.string ⟨#[33]⟩, .slice none 0 0]) ?_ rfl ⟨rfl, (HB _ _).out⟩
  exact results_cell_row Tryd.results120 _ _ (w.heap.size + 1) _ _ _ _ rfl HQ.out Tryd.underlying60 rfl (by kernel_rfl)
/-- The form of a goal, as a node. -/
theorem GIs.node {w : World} {lo hi : Nat} {k n : Int} {s : ByteArray} {kids : Fr} {v : Value} {A : Option Addr} {cap : Nat} (hv : goalV k n s kids = true) (hg : GIs (gk s kids.len) s A kids.len cap v) (hn : NdS w lo hi kids A cap) :
    k = 3 ∧ shapeT k n s kids 30 = true ∧ ((v = .iface 136 (.agg #[]) ∧ s = ⟨#[33]⟩ ∧ kids = .nil) ∨ v = .iface 137 (.agg #[.string s, .slice A kids.len cap]) ∨ v = .iface 74 (.agg #[.string s, .slice A kids.len cap])) := by
  have hval : validT k n s kids = true := by
    unfold goalV at hv
    rw [Bool.and_eq_true] at hv
    exact hv.1
  have hk : k = 3 := by
    by_cases h : k = 3
    · exact h
    · rw [goalV_other h] at hv; cases hv
  refine ⟨hk, (valid_shape2 hval).1, ?_⟩
  rcases hg with ⟨h, rfl⟩ | ⟨_, rfl⟩ | ⟨_, rfl⟩
  · refine .inl ⟨rfl, ?_⟩
    unfold gk at h
    have hc : cutB s kids.len = true := by
      by_cases hc : cutB s kids.len = true
      · exact hc
      · rw [if_neg hc] at h
        split at h
        · omega
        · split at h <;> omega
    unfold cutB at hc
    simp only [Bool.and_eq_true, beq_iff_eq] at hc
    refine ⟨?_, ?_⟩
    · have h1 := hc.1
      cases s
      rename_i d
      simp only at h1
      congr 1
      exact Array.toList_inj.1 (by simpa using h1)
    · cases kids with
      | nil => rfl
      | cons _ _ _ _ _ => simp [Fr.len] at hc
  · exact .inr (.inl rfl)
  · exact .inr (.inr rfl)
theorem nd_form {w : World} {lo hi : Nat} {n : Int} {s : ByteArray} {kids : Fr} {A : Option Addr} {cap : Nat} (hn : NdS w lo hi kids A cap) : NdV w lo hi 3 n s kids (.iface 60 (.agg #[.string s, .slice A kids.len cap])) := .inr (.inr ⟨rfl, A, cap, rfl, hn⟩)
theorem nd_cut (w : World) (lo hi : Nat) (n : Int) : NdV w lo hi 3 n ⟨#[33]⟩ .nil (.iface 60 (.agg #[.string ⟨#[33]⟩, .slice none 0 0])) := .inr (.inr ⟨rfl, none, 0, rfl, Nat.le_refl _, by unfold maxLen; omega, fun h => absurd h (Nat.lt_irrefl _)⟩)
end Go.Proofs.YtlapdnllncoomaaDoor
