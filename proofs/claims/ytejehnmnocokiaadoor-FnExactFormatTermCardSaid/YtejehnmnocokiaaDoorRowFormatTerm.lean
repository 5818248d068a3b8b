/- FnExactFormatTerm: for every argument the law returns true: the function of impl answers as the model does and writes into no argument. Condition: the table of signs reads as the program's own text lays it (the card ties it). -/
import Derived.Test.YtejehnmnocokiaaDoorCards
import Derived.Test.YtejehnmnocokiaaDoorTie
import Derived.Test.YtejehnmnocokiaaDoorLaw
import Derived.Test.YtejehnmnocokiaaDoorFacts
import Derived.Test.YtejehnmnocokiaaDoorOpen
import Derived.Test.YtejehnmnocokiaaDoorLaidT
import Derived.Test.YtejehnmnocokiaaDoorLawFm
namespace Go.Proofs.YtejehnmnocokiaaDoor.fnExactFormatTerm
open Go.ChangeShapes Go.WideShapes Go.ChangeAt Go.RowKit
open Go.ChangeMaps (open_string shut_string)

theorem laid_met (os : Os) : laidMet Tryd.prog Rows.fnExactFormatTermRow.laid ((laidWorldT os).forCall (fun _ _ => 0) ⟨#[], #[.agg #[.int .i64 0, .int .i64 0, .string ByteArray.empty, .slice none 0 0]], []⟩).memory :=
  laidMet_of_run' 8 (by kernel_rfl) (by kernel_rfl)
theorem reads (os : Os) {H : Type} (enc : TypeId × Value → H) : ∃ ds gs places, DataW.whole enc Tryd.prog ((laidWorldT os).forCall (fun _ _ => 0) ⟨#[], #[.agg #[.int .i64 0, .int .i64 0, .string ByteArray.empty, .slice none 0 0]], []⟩).memory Tryd.f3.params.toList Rows.fnExactFormatTermSpec.vars false (#[.agg #[.int .i64 0, .int .i64 0, .string ByteArray.empty, .slice none 0 0]] : Array Value).toList 8 = some (ds, gs, places) :=
  ⟨[.agg [.lit (.int .i64 0), .lit (.int .i64 0), .lit (.string []), .nil]], [Rows.laid_loop_example_prologserver_impl_signNames], MemPlace.row ⟨0, 0, none⟩ 15, by kernel_rfl⟩

set_option maxHeartbeats 10000000 in
theorem closed : joinedFacts Tryd.prog 3 Tryd.f3 (OpenSpec.ofChange Rows.fnExactFormatTermSpec).bare Rows.fnExactFormatTermRow = true := by
  have hl : Rows.fnExactFormatTermRow.lifted = false := rfl
  have hm : Rows.fnExactFormatTermRow.make = Make.cut := rfl
  unfold joinedFacts
  rw [hl, hm]
  repeat' (with_reducible refine tt ?_ ?_)
  all_goals first
    | with_reducible exact fLaidOut
    | with_reducible exact fMapsRowed
    | with_reducible exact fStops
    | with_reducible exact fKnobs
    | with_reducible exact fHeard
    | with_reducible exact fEnter
    | with_reducible exact fLifts
    | with_reducible exact fMake
    | as_aux_lemma => kernel_rfl

theorem plain (f : FuncId) (fn : Func) (hf : Tryd.pinned.checked.prog.funcNamed "loop.example/prologserver/laws.FnExactFormatTerm" = some f) (hfn : Tryd.pinned.checked.prog.funcs[f]? = some fn) :
    true = Tryd.pinned.checked.prog.looks [] ∧ ∀ (j : Nat) t, fn.params[j]? = some t → Tryd.pinned.checked.prog.wantsStandIn t = false := by
  obtain rfl : f = 3 := Option.some.inj ((show Tryd.prog.funcNamed "loop.example/prologserver/laws.FnExactFormatTerm" = some 3 by kernel_rfl).symm.trans hf) |>.symm
  obtain rfl : fn = Tryd.f3 := (Option.some.inj (Tryd.func3.symm.trans hfn)).symm
  refine ⟨by kernel_rfl, fun j t ht => ?_⟩
  rw [Tryd.params3] at ht
  obtain rfl : t = 24 := by simpa using Array.mem_of_getElem? ht
  exact (show Tryd.prog.wantsStandIn 24 = false by kernel_rfl)

theorem wfText : Rows.fnExactFormatTermRow.wfByText (OpenSpec.ofChange Rows.fnExactFormatTermSpec) = true := by kernel_rfl
theorem mainText : Tryd.pinned.checked.prog.mainIs = some (Rows.fnExactFormatTermCard.stood.harness.1, Rows.fnExactFormatTermCard.stood.harness.2.toList) := by kernel_rfl
theorem goesText : false = Rows.fnExactFormatTermRow.goesBy Tryd.pinned.checked.prog := by kernel_rfl
end Go.Proofs.YtejehnmnocokiaaDoor.fnExactFormatTerm
