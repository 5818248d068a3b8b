/- FnExactWriteTerm: for every argument the law returns true: the function of impl answers as the model does and writes into no argument. Condition: the table of signs reads as the program's own text lays it (the card ties it). -/
import Derived.Test.YtmgfndgmebignaaDoorCards
import Derived.Test.YtmgfndgmebignaaDoorTie
import Derived.Test.YtmgfndgmebignaaDoorLaw
import Derived.Test.YtmgfndgmebignaaDoorFacts
import Derived.Test.YtmgfndgmebignaaDoorOpen
import Derived.Test.YtmgfndgmebignaaDoorLaidA
import Derived.Test.YtmgfndgmebignaaDoorZmWR52
namespace Go.Proofs.YtmgfndgmebignaaDoor.fnExactWriteTerm
open Go.ChangeShapes Go.WideShapes Go.ChangeAt Go.RowKit
open Go.ChangeMaps (open_string shut_string)

theorem laid_met (os : Os) : laidMet Tryd.prog Rows.fnExactWriteTermRow.laid ((laidWorldA os).forCall (fun _ _ => 0) ⟨#[], #[.agg #[.int .i64 0, .int .i64 0, .string ByteArray.empty, .slice none 0 0]], []⟩).memory :=
  laidMet_of_run' 8 (by kernel_rfl) (by kernel_rfl)
theorem reads (os : Os) {H : Type} (enc : TypeId × Value → H) : ∃ ds gs places, DataW.whole enc Tryd.prog ((laidWorldA os).forCall (fun _ _ => 0) ⟨#[], #[.agg #[.int .i64 0, .int .i64 0, .string ByteArray.empty, .slice none 0 0]], []⟩).memory Tryd.f3.params.toList Rows.fnExactWriteTermSpec.vars false (#[.agg #[.int .i64 0, .int .i64 0, .string ByteArray.empty, .slice none 0 0]] : Array Value).toList 8 = some (ds, gs, places) :=
  ⟨[.agg [.lit (.int .i64 0), .lit (.int .i64 0), .lit (.string []), .nil]], [Rows.laid_loop_example_prologserver_impl_signNames, Rows.laid_loop_example_prologserver_impl_operatorRows], MemPlace.row ⟨1, 0, none⟩ 15 ++ MemPlace.row ⟨0, 0, none⟩ 42, by kernel_rfl⟩

set_option maxRecDepth 100000 in
theorem lifted (os : Os) (started : os.Started) (H : Type) (enc : TypeId × Value → H) (F : Stop.Interp) :
    ReturnsInHanded {} Tryd.checked os 3 .any ((OpenSpec.ofChange Rows.fnExactWriteTermSpec).preRow enc Tryd.prog Tryd.f3 Rows.fnExactWriteTermRow.domain false Rows.fnExactWriteTermRow.laid) (((OpenSpec.ofChange Rows.fnExactWriteTermSpec).at F).post enc Tryd.prog Tryd.f3 false true false false) := by
  obtain ⟨xs, ys, places, hx⟩ := reads os enc
  refine returnsInHanded_of_row (C := Tryd.checked) (s := OpenSpec.ofChange Rows.fnExactWriteTermSpec) own started (by kernel_rfl) Tryd.func3
    (witness_row_at (enc := enc) (C := Tryd.checked) false (laidWorldA os) #[.agg #[.int .i64 0, .int .i64 0, .string ByteArray.empty, .slice none 0 0]] rfl (by kernel_rfl) (by kernel_rfl) (by kernel_rfl)
      (OpenSpec.preRow_of_cond 8 hx (by kernel_rfl) (fun k hk => by cases hk) (by kernel_rfl) (laid_met os))) ?_
  intro W base args ds gs before hval hW _ _ _ hL _ _
  obtain ⟨hT, hO, hP⟩ := tabA_of_laid hL
  have hW' := hW
  obtain ⟨p, q, hA0, hV, rfl, hfz, hnd⟩ := hW
  have hA : DataW.TrodAll enc Tryd.prog W 0 (fun _ => true) true Tryd.f3.params.toList args.toList ds p := hA0
  rw [Tryd.params3] at hA hval
  obtain ⟨v0, vs0, d0, ds0, p0, q0, hargs, rfl, rfl, h0, r0⟩ := trodAll_cons hA
  obtain ⟨rfl, rfl, rfl⟩ := trodAll_nil r0
  obtain rfl : args = #[v0] := by cases args; simp_all
  obtain ⟨g1, g2, rfl⟩ : ∃ g1 g2, gs = [g1, g2] := by
    obtain ⟨_, _, _, _, d0, _, _, _, _, _, d1, _, e, _⟩ := trodVars_two hV
    exact ⟨d0, d1, e⟩
  obtain ⟨k0, n0, s0, A0, f0, c0, rfl, hf0, hk0⟩ := open_term (hval 0 24 v0 rfl rfl) h0
  refine (lawWr_any k0 n0 s0 f0 A0 c0 W hk0 hf0 hT hO hP).mono fun e W' ⟨he, hb⟩ => ?_
  subst he
  exact ⟨_, rfl, post_true (by kernel_rfl) (by kernel_rfl) (by kernel_rfl) rfl hW' hb⟩

set_option maxHeartbeats 10000000 in
theorem closed : joinedFacts Tryd.prog 3 Tryd.f3 (OpenSpec.ofChange Rows.fnExactWriteTermSpec).bare Rows.fnExactWriteTermRow = true := by
  have hl : Rows.fnExactWriteTermRow.lifted = false := rfl
  have hm : Rows.fnExactWriteTermRow.make = Make.cut := rfl
  unfold joinedFacts
  rw [hl, hm]
  repeat' (with_reducible refine tt ?_ ?_)
  all_goals first
    | with_reducible exact fLaidOut
    | with_reducible exact fMapsRowed
    | with_reducible exact fStops
    | with_reducible exact fKnobs
    | with_reducible exact fHeard
    | with_reducible exact fEnter
    | with_reducible exact fLifts
    | with_reducible exact fMake
    | as_aux_lemma => kernel_rfl

theorem said : Rows.FnExactWriteTermSaid :=
  OpenClaim.holds_of_cond 3 Tryd.f3 rfl rfl rfl rfl rfl rfl rfl ⟨rfl, rfl, rfl, rfl, rfl⟩ rfl rfl rfl rfl rfl (by kernel_rfl) Tryd.func3 closed
    (of_decide_eq_true (by kernel_rfl)) (by unfold Func.isWrapper; first | (rw [if_pos (by decide +kernel)]; kernel_rfl) | (rw [if_neg (by decide +kernel)]; exact ⟨rfl, rfl⟩))
    (fun os started H enc _ F => by rw [OpenClaim.pre_eq_preRow]; exact lifted os started H enc F)

theorem plain (f : FuncId) (fn : Func) (hf : Tryd.pinned.checked.prog.funcNamed "loop.example/prologserver/laws.FnExactWriteTerm" = some f) (hfn : Tryd.pinned.checked.prog.funcs[f]? = some fn) :
    true = Tryd.pinned.checked.prog.looks [] ∧ ∀ (j : Nat) t, fn.params[j]? = some t → Tryd.pinned.checked.prog.wantsStandIn t = false := by
  obtain rfl : f = 3 := Option.some.inj ((show Tryd.prog.funcNamed "loop.example/prologserver/laws.FnExactWriteTerm" = some 3 by kernel_rfl).symm.trans hf) |>.symm
  obtain rfl : fn = Tryd.f3 := (Option.some.inj (Tryd.func3.symm.trans hfn)).symm
  refine ⟨by kernel_rfl, fun j t ht => ?_⟩
  rw [Tryd.params3] at ht
  obtain rfl : t = 24 := by simpa using Array.mem_of_getElem? ht
  exact (show Tryd.prog.wantsStandIn 24 = false by kernel_rfl)

theorem wfText : Rows.fnExactWriteTermRow.wfByText (OpenSpec.ofChange Rows.fnExactWriteTermSpec) = true := by kernel_rfl
theorem mainText : Tryd.pinned.checked.prog.mainIs = some (Rows.fnExactWriteTermCard.stood.harness.1, Rows.fnExactWriteTermCard.stood.harness.2.toList) := by kernel_rfl
theorem goesText : false = Rows.fnExactWriteTermRow.goesBy Tryd.pinned.checked.prog := by kernel_rfl
/-- The card. -/
theorem card : Rows.FnExactWriteTermCardSaid :=
  Claim7.holds_tied_plain_at .later [] _ _ _ _ said (fun _ h => by cases h) wfText (fun _ h => by cases h) fnExactWriteTerm_row_tie rfl ⟨rfl, rfl⟩ mainText rfl plain goesText
end Go.Proofs.YtmgfndgmebignaaDoor.fnExactWriteTerm
