/- FnExactAnswerGoals: for every argument the law returns true: the function of impl answers as the model does and writes into no argument. Condition: the table of signs reads as the program's own text lays it (the card ties it). -/
import Derived.Test.YtnkaafimnkigpaaDoorCards
import Derived.Test.YtnkaafimnkigpaaDoorTie
import Derived.Test.YtnkaafimnkigpaaDoorLaw
import Derived.Test.YtnkaafimnkigpaaDoorFacts
import Derived.Test.YtnkaafimnkigpaaDoorOpen
import Derived.Test.YtnkaafimnkigpaaDoorLaid2
import Derived.Test.YtnkaafimnkigpaaDoorOpenS
import Derived.Test.YtnkaafimnkigpaaDoorAn
import Derived.Test.YtnkaafimnkigpaaDoorZmAG52
namespace Go.Proofs.YtnkaafimnkigpaaDoor.fnExactAnswerGoals
open Go.ChangeShapes Go.WideShapes Go.ChangeAt Go.RowKit
open Go.ChangeMaps (open_string shut_string)

theorem laid_met (os : Os) : laidMet Tryd.prog Rows.fnExactAnswerGoalsRow.laid ((laidWorld2 os).forCall (fun _ _ => 0) ⟨#[], #[.slice none 0 0, .agg #[.slice none 0 0]], []⟩).memory :=
  laidMet_of_run' 8 (by kernel_rfl) (by kernel_rfl)
theorem reads (os : Os) {H : Type} (enc : TypeId × Value → H) : ∃ ds gs places, DataW.whole enc Tryd.prog ((laidWorld2 os).forCall (fun _ _ => 0) ⟨#[], #[.slice none 0 0, .agg #[.slice none 0 0]], []⟩).memory Tryd.f5.params.toList Rows.fnExactAnswerGoalsSpec.vars false (#[.slice none 0 0, .agg #[.slice none 0 0]] : Array Value).toList 8 = some (ds, gs, places) :=
  ⟨[.nil, .agg [.nil]], [Rows.laid_loop_example_prologserver_impl_signNames, Rows.laid_loop_example_prologserver_impl_operatorRows], MemPlace.row ⟨1, 0, none⟩ 15 ++ MemPlace.row ⟨0, 0, none⟩ 42, by kernel_rfl⟩

set_option maxRecDepth 100000 in
theorem lifted (os : Os) (started : os.Started) (H : Type) (enc : TypeId × Value → H) (F : Stop.Interp) :
    ReturnsInHanded {} Tryd.checked os 5 .any ((OpenSpec.ofChange Rows.fnExactAnswerGoalsSpec).preRow enc Tryd.prog Tryd.f5 Rows.fnExactAnswerGoalsRow.domain false Rows.fnExactAnswerGoalsRow.laid) (((OpenSpec.ofChange Rows.fnExactAnswerGoalsSpec).at F).post enc Tryd.prog Tryd.f5 false true false false) := by
  obtain ⟨xs, ys, places, hx⟩ := reads os enc
  refine returnsInHanded_of_row (C := Tryd.checked) (s := OpenSpec.ofChange Rows.fnExactAnswerGoalsSpec) own started (by kernel_rfl) Tryd.func5
    (witness_row_at (enc := enc) (C := Tryd.checked) false (laidWorld2 os) #[.slice none 0 0, .agg #[.slice none 0 0]] rfl (by kernel_rfl) (by kernel_rfl) (by kernel_rfl)
      (OpenSpec.preRow_of_cond 8 hx (by kernel_rfl) (fun k hk => by cases hk) (by kernel_rfl) (laid_met os))) ?_
  intro W base args ds gs before hval hW _ _ _ hL _ _
  obtain ⟨hT, hO⟩ := tabs_of_laid hL
  have hW' := hW
  obtain ⟨p, q, hA0, hV, rfl, hfz, hnd⟩ := hW
  have hA : DataW.TrodAll enc Tryd.prog W 0 (fun _ => true) true Tryd.f5.params.toList args.toList ds p := hA0
  rw [Tryd.params5] at hA hval
  obtain ⟨v0, vs0, d0, ds0, p0, q0, hargs, rfl, rfl, h0, r0⟩ := trodAll_cons hA
  obtain ⟨v1, vs1, d1, ds1, p1, q1, rfl, rfl, rfl, h1, r1⟩ := trodAll_cons r0
  obtain ⟨rfl, rfl, rfl⟩ := trodAll_nil r1
  obtain rfl : args = #[v0, v1] := by cases args; simp_all
  obtain ⟨g1, g2, rfl⟩ : ∃ g1 g2, gs = [g1, g2] := by
    obtain ⟨_, _, _, _, d0, _, _, _, _, _, d1, _, e, _⟩ := trodVars_two hV
    exact ⟨d0, d1, e⟩
  obtain ⟨A0, f0, c0, rfl, hk0⟩ := open_terms (hval 0 22 v0 rfl rfl) h0
  obtain ⟨A1, f1, c1, rfl, hk1⟩ := open_answer (hval 1 41 v1 rfl rfl) h1
  refine (lawAg_any f0 A0 c0 f1 A1 c1 W hk0 hk1 hT hO).mono fun e W' ⟨he, hb⟩ => ?_
  subst he
  exact ⟨_, rfl, post_true (by kernel_rfl) (by kernel_rfl) (by kernel_rfl) rfl hW' hb⟩

set_option maxHeartbeats 10000000 in
theorem closed : joinedFacts Tryd.prog 5 Tryd.f5 (OpenSpec.ofChange Rows.fnExactAnswerGoalsSpec).bare Rows.fnExactAnswerGoalsRow = true := by
  have hl : Rows.fnExactAnswerGoalsRow.lifted = false := rfl
  have hm : Rows.fnExactAnswerGoalsRow.make = Make.cut := rfl
  unfold joinedFacts
  rw [hl, hm]
  repeat' (with_reducible refine tt ?_ ?_)
  all_goals first
    | with_reducible exact fLaidOut
    | with_reducible exact fMapsRowed
    | with_reducible exact fStops
    | with_reducible exact fKnobs
    | with_reducible exact fHeard
    | with_reducible exact fEnter
    | with_reducible exact fLifts
    | with_reducible exact fMake
    | as_aux_lemma => kernel_rfl

theorem said : Rows.FnExactAnswerGoalsSaid :=
  OpenClaim.holds_of_cond 5 Tryd.f5 rfl rfl rfl rfl rfl rfl rfl ⟨rfl, rfl, rfl, rfl, rfl⟩ rfl rfl rfl rfl rfl (by kernel_rfl) Tryd.func5 closed
    (of_decide_eq_true (by kernel_rfl)) (by unfold Func.isWrapper; first | (rw [if_pos (by decide +kernel)]; kernel_rfl) | (rw [if_neg (by decide +kernel)]; exact ⟨rfl, rfl⟩))
    (fun os started H enc _ F => by rw [OpenClaim.pre_eq_preRow]; exact lifted os started H enc F)

theorem plain (f : FuncId) (fn : Func) (hf : Tryd.pinned.checked.prog.funcNamed "loop.example/prologserver/laws.FnExactAnswerGoals" = some f) (hfn : Tryd.pinned.checked.prog.funcs[f]? = some fn) :
    true = Tryd.pinned.checked.prog.looks [] ∧ ∀ (j : Nat) t, fn.params[j]? = some t → Tryd.pinned.checked.prog.wantsStandIn t = false := by
  obtain rfl : f = 5 := Option.some.inj ((show Tryd.prog.funcNamed "loop.example/prologserver/laws.FnExactAnswerGoals" = some 5 by kernel_rfl).symm.trans hf) |>.symm
  obtain rfl : fn = Tryd.f5 := (Option.some.inj (Tryd.func5.symm.trans hfn)).symm
  refine ⟨by kernel_rfl, fun j t ht => ?_⟩
  rw [Tryd.params5] at ht
  have ho : t = 22 ∨ t = 41 := by
    have := Array.mem_of_getElem? ht
    simp at this
    first
      | omega
      | exact this
      | (rcases this with h | h; exact .inr h; exact .inl h)
      | (rcases this with h | h | h <;> simp [h])
  rcases ho with rfl | rfl
  · exact (show Tryd.prog.wantsStandIn 22 = false by kernel_rfl)
  · exact (show Tryd.prog.wantsStandIn 41 = false by kernel_rfl)

theorem wfText : Rows.fnExactAnswerGoalsRow.wfByText (OpenSpec.ofChange Rows.fnExactAnswerGoalsSpec) = true := by kernel_rfl
theorem mainText : Tryd.pinned.checked.prog.mainIs = some (Rows.fnExactAnswerGoalsCard.stood.harness.1, Rows.fnExactAnswerGoalsCard.stood.harness.2.toList) := by kernel_rfl
theorem goesText : false = Rows.fnExactAnswerGoalsRow.goesBy Tryd.pinned.checked.prog := by kernel_rfl
/-- The card. -/
theorem card : Rows.FnExactAnswerGoalsCardSaid :=
  Claim7.holds_tied_plain_at .later [] _ _ _ _ said (fun _ h => by cases h) wfText (fun _ h => by cases h) fnExactAnswerGoals_row_tie rfl ⟨rfl, rfl⟩ mainText rfl plain goesText
end Go.Proofs.YtnkaafimnkigpaaDoor.fnExactAnswerGoals
