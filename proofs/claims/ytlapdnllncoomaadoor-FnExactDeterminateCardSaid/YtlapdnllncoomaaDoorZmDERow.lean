/- FnExactDeterminate: for every argument the law returns true: the function of impl answers as the model does and writes into no argument. Condition: the table of signs reads as the program's own text lays it (the card ties it). -/
import Derived.Test.YtlapdnllncoomaaDoorCards
import Derived.Test.YtlapdnllncoomaaDoorTie
import Derived.Test.YtlapdnllncoomaaDoorLaw
import Derived.Test.YtlapdnllncoomaaDoorFacts
import Derived.Test.YtlapdnllncoomaaDoorOpen
import Derived.Test.YtlapdnllncoomaaDoorOpenC
import Derived.Test.YtlapdnllncoomaaDoorLaidA
import Derived.Test.YtlapdnllncoomaaDoorZmDE52
namespace Go.Proofs.YtlapdnllncoomaaDoor.fnExactDeterminate
open Go.ChangeShapes Go.WideShapes Go.ChangeAt Go.RowKit
open Go.ChangeMaps (open_string shut_string)

theorem laid_met (os : Os) : laidMet Tryd.prog Rows.fnExactDeterminateRow.laid ((laidWorldA os).forCall (fun _ _ => 0) ⟨#[], #[.slice none 0 0, .string ByteArray.empty, .int .i64 0], []⟩).memory :=
  laidMet_of_run' 8 (by kernel_rfl) (by kernel_rfl)
theorem reads (os : Os) {H : Type} (enc : TypeId × Value → H) : ∃ ds gs places, DataW.whole enc Tryd.prog ((laidWorldA os).forCall (fun _ _ => 0) ⟨#[], #[.slice none 0 0, .string ByteArray.empty, .int .i64 0], []⟩).memory Tryd.f5.params.toList Rows.fnExactDeterminateSpec.vars false (#[.slice none 0 0, .string ByteArray.empty, .int .i64 0] : Array Value).toList 8 = some (ds, gs, places) :=
  ⟨[.nil, .lit (.string []), .lit (.int .i64 0)], [Rows.laid_loop_example_prologserver_impl_signNames, Rows.laid_loop_example_prologserver_impl_operatorRows], MemPlace.row ⟨0, 0, none⟩ 15 ++ MemPlace.row ⟨2, 0, none⟩ 42, by kernel_rfl⟩

set_option maxRecDepth 100000 in
theorem lifted (os : Os) (started : os.Started) (H : Type) (enc : TypeId × Value → H) (F : Stop.Interp) :
    ReturnsInHanded {} Tryd.checked os 5 .any ((OpenSpec.ofChange Rows.fnExactDeterminateSpec).preRow enc Tryd.prog Tryd.f5 Rows.fnExactDeterminateRow.domain false Rows.fnExactDeterminateRow.laid) (((OpenSpec.ofChange Rows.fnExactDeterminateSpec).at F).post enc Tryd.prog Tryd.f5 false true false false) := by
  obtain ⟨xs, ys, places, hx⟩ := reads os enc
  refine returnsInHanded_of_row (C := Tryd.checked) (s := OpenSpec.ofChange Rows.fnExactDeterminateSpec) own started (by kernel_rfl) Tryd.func5
    (witness_row_at (enc := enc) (C := Tryd.checked) false (laidWorldA os) #[.slice none 0 0, .string ByteArray.empty, .int .i64 0] rfl (by kernel_rfl) (by kernel_rfl) (by kernel_rfl)
      (OpenSpec.preRow_of_cond 8 hx (by kernel_rfl) (fun k hk => by cases hk) (by kernel_rfl) (laid_met os))) ?_
  intro W base args ds gs before hval hW _ _ _ hL _ _
  obtain ⟨hT, hO, hP⟩ := tabA_of_laid hL
  have hW' := hW
  obtain ⟨p, q, hA0, hV, rfl, hfz, hnd⟩ := hW
  have hA : DataW.TrodAll enc Tryd.prog W 0 (fun _ => true) true Tryd.f5.params.toList args.toList ds p := hA0
  rw [Tryd.params5] at hA hval
  obtain ⟨v0, vs0, d0, ds0, p0, q0, hargs, rfl, rfl, h0, r0⟩ := trodAll_cons hA
  obtain ⟨v1, vs1, d1, ds1, p1, q1, rfl, rfl, rfl, h1, r1⟩ := trodAll_cons r0
  obtain ⟨v2, vs2, d2, ds2, p2, q2, rfl, rfl, rfl, h2, r2⟩ := trodAll_cons r1
  obtain ⟨rfl, rfl, rfl⟩ := trodAll_nil r2
  obtain rfl : args = #[v0, v1, v2] := by cases args; simp_all
  obtain ⟨g1, g2, rfl⟩ : ∃ g1 g2, gs = [g1, g2] := by
    obtain ⟨_, _, _, _, d0, _, _, _, _, _, d1, _, e, _⟩ := trodVars_two hV
    exact ⟨d0, d1, e⟩
  obtain ⟨A0, cs0, cp0, rfl, hk0⟩ := open_clauses (hval 0 33 v0 rfl rfl) h0
  obtain ⟨s1, rfl, rfl, rfl, hs1⟩ := open_string Tryd.underlying9 (hval 1 9 v1 rfl rfl) h1
  obtain ⟨x2, rfl, rfl, rfl, hx2⟩ := open_int Tryd.underlying3 (hval 2 3 v2 rfl rfl) h2
  refine (lawDe_any cs0 A0 cp0 s1 x2 W hk0 hs1 hT hO hP).mono fun e W' ⟨he, hb⟩ => ?_
  subst he
  exact ⟨_, rfl, post_true (by kernel_rfl) (by kernel_rfl) (by kernel_rfl) rfl hW' hb⟩

set_option maxHeartbeats 10000000 in
theorem closed : joinedFacts Tryd.prog 5 Tryd.f5 (OpenSpec.ofChange Rows.fnExactDeterminateSpec).bare Rows.fnExactDeterminateRow = true := by
  have hl : Rows.fnExactDeterminateRow.lifted = false := rfl
  have hm : Rows.fnExactDeterminateRow.make = Make.cut := rfl
  unfold joinedFacts
  rw [hl, hm]
  repeat' (with_reducible refine tt ?_ ?_)
  all_goals first
    | with_reducible exact fLaidOut
    | with_reducible exact fMapsRowed
    | with_reducible exact fStops
    | with_reducible exact fKnobs
    | with_reducible exact fHeard
    | with_reducible exact fEnter
    | with_reducible exact fLifts
    | with_reducible exact fMake
    | as_aux_lemma => kernel_rfl

theorem said : Rows.FnExactDeterminateSaid :=
  OpenClaim.holds_of_cond 5 Tryd.f5 rfl rfl rfl rfl rfl rfl rfl ⟨rfl, rfl, rfl, rfl, rfl⟩ rfl rfl rfl rfl rfl (by kernel_rfl) Tryd.func5 closed
    (of_decide_eq_true (by kernel_rfl)) (by unfold Func.isWrapper; first | (rw [if_pos (by decide +kernel)]; kernel_rfl) | (rw [if_neg (by decide +kernel)]; exact ⟨rfl, rfl⟩))
    (fun os started H enc _ F => by rw [OpenClaim.pre_eq_preRow]; exact lifted os started H enc F)

theorem plain (f : FuncId) (fn : Func) (hf : Tryd.pinned.checked.prog.funcNamed "loop.example/prologserver/laws.FnExactDeterminate" = some f) (hfn : Tryd.pinned.checked.prog.funcs[f]? = some fn) :
    true = Tryd.pinned.checked.prog.looks [] ∧ ∀ (j : Nat) t, fn.params[j]? = some t → Tryd.pinned.checked.prog.wantsStandIn t = false := by
  obtain rfl : f = 5 := Option.some.inj ((show Tryd.prog.funcNamed "loop.example/prologserver/laws.FnExactDeterminate" = some 5 by kernel_rfl).symm.trans hf) |>.symm
  obtain rfl : fn = Tryd.f5 := (Option.some.inj (Tryd.func5.symm.trans hfn)).symm
  refine ⟨by kernel_rfl, fun j t ht => ?_⟩
  rw [Tryd.params5] at ht
  have ho : t = 33 ∨ t = 3 ∨ t = 9 := by
    have := Array.mem_of_getElem? ht
    simp at this
    first
      | omega
      | exact this
      | (rcases this with h | h; exact .inr h; exact .inl h)
      | (rcases this with h | h | h <;> simp [h])
  rcases ho with rfl | rfl | rfl
  · exact (show Tryd.prog.wantsStandIn 33 = false by kernel_rfl)
  · exact (show Tryd.prog.wantsStandIn 3 = false by kernel_rfl)
  · exact (show Tryd.prog.wantsStandIn 9 = false by kernel_rfl)

theorem wfText : Rows.fnExactDeterminateRow.wfByText (OpenSpec.ofChange Rows.fnExactDeterminateSpec) = true := by kernel_rfl
theorem mainText : Tryd.pinned.checked.prog.mainIs = some (Rows.fnExactDeterminateCard.stood.harness.1, Rows.fnExactDeterminateCard.stood.harness.2.toList) := by kernel_rfl
theorem goesText : false = Rows.fnExactDeterminateRow.goesBy Tryd.pinned.checked.prog := by kernel_rfl
/-- The card. -/
theorem card : Rows.FnExactDeterminateCardSaid :=
  Claim7.holds_tied_plain_at .later [] _ _ _ _ said (fun _ h => by cases h) wfText (fun _ h => by cases h) fnExactDeterminate_row_tie rfl ⟨rfl, rfl⟩ mainText rfl plain goesText
end Go.Proofs.YtlapdnllncoomaaDoor.fnExactDeterminate
