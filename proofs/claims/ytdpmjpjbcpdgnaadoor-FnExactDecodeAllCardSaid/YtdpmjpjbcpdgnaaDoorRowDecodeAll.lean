/- FnExactDecodeAll: for every argument the law returns true: the function of impl answers as the model does and writes into no argument. Condition: the table of signs reads as the program's own text lays it (the card ties it). -/
import Derived.Test.YtdpmjpjbcpdgnaaDoorCards
import Derived.Test.YtdpmjpjbcpdgnaaDoorTie
import Derived.Test.YtdpmjpjbcpdgnaaDoorFzL
import Derived.Test.YtdpmjpjbcpdgnaaDoorFacts
import Derived.Test.YtdpmjpjbcpdgnaaDoorFzLDA
namespace Go.Proofs.YtdpmjpjbcpdgnaaDoor.fnExactDecodeAll
open Go.ChangeShapes Go.WideShapes Go.ChangeAt Go.RowKit
open Go.ChangeMaps (open_string shut_string)

theorem laid_met (os : Os) : laidMet Tryd.prog Rows.fnExactDecodeAllRow.laid ((laidWorldS os).forCall (fun _ _ => 0) ⟨#[], #[.slice none 0 0], []⟩).memory :=
  laidMet_of_run (ps := [.cell 1 0, .cell (lowS + 1) 0, .cell 0 0, .cell lowS 0]) 8 (by kernel_rfl) (by kernel_rfl) (by kernel_rfl)
theorem reads (os : Os) {H : Type} (enc : TypeId × Value → H) : ∃ ds gs places, DataW.whole enc Tryd.prog ((laidWorldS os).forCall (fun _ _ => 0) ⟨#[], #[.slice none 0 0], []⟩).memory Tryd.f10.params.toList Rows.fnExactDecodeAllSpec.vars false (#[.slice none 0 0] : Array Value).toList 8 = some (ds, gs, places) :=
  ⟨[.nil], [tok enc (.iface 116 (.pointer (some ⟨lowS, 0, none⟩))), tok enc (.iface 116 (.pointer (some ⟨lowS + 1, 0, none⟩)))], [.cell 0 0, .cell 1 0], by kernel_rfl⟩

set_option maxRecDepth 100000 in
theorem lifted (os : Os) (started : os.Started) (H : Type) (enc : TypeId × Value → H) (F : Stop.Interp) :
    ReturnsInHanded {} Tryd.checked os 10 .any ((OpenSpec.ofChange Rows.fnExactDecodeAllSpec).preRow enc Tryd.prog Tryd.f10 Rows.fnExactDecodeAllRow.domain false Rows.fnExactDecodeAllRow.laid) (((OpenSpec.ofChange Rows.fnExactDecodeAllSpec).at F).post enc Tryd.prog Tryd.f10 false true false false) := by
  obtain ⟨xs, ys, places, hx⟩ := reads os enc
  refine returnsInHanded_of_row (C := Tryd.checked) (s := OpenSpec.ofChange Rows.fnExactDecodeAllSpec) own started (by kernel_rfl) Tryd.func10
    (witness_row_at (enc := enc) (C := Tryd.checked) false (laidWorldS os) #[.slice none 0 0] rfl (by kernel_rfl) (by kernel_rfl) (by kernel_rfl)
      (OpenSpec.preRow_of_cond 8 hx (by kernel_rfl) (fun k hk => by cases hk) (by kernel_rfl) (laid_met os))) ?_
  intro W base args ds gs before hval hW _ _ _ hL _ _
  obtain ⟨eB, eP, hE⟩ := er_of_laid hL
  have hW' := hW
  obtain ⟨p, q, hA0, hV, rfl, hfz, hnd⟩ := hW
  have hA : DataW.TrodAll enc Tryd.prog W 0 (fun _ => true) true Tryd.f10.params.toList args.toList ds p := hA0
  rw [Tryd.params10] at hA hval
  obtain ⟨v0, vs0, d0, ds0, p0, q0, hargs, rfl, rfl, h0, r0⟩ := trodAll_cons hA
  obtain ⟨rfl, rfl, rfl⟩ := trodAll_nil r0
  obtain rfl : args = #[v0] := by cases args; simp_all
  obtain ⟨g1, g2, rfl⟩ : ∃ g1 g2, gs = [g1, g2] := by
    obtain ⟨_, _, _, _, d0, _, _, _, _, _, d1, _, e, _⟩ := trodVars_two hV
    exact ⟨d0, d1, e⟩
  obtain ⟨A0, l0, c0, rfl, ha0, hc0, hm0, hn0⟩ := openU (hval 0 22 v0 rfl rfl) h0
  refine (lawDA_any A0 c0 l0 W eB eP ha0 hc0 hm0 hE).mono fun e W' ⟨he, hb⟩ => ?_
  subst he
  exact ⟨_, rfl, post_true (by kernel_rfl) (by kernel_rfl) (by kernel_rfl) rfl hW' hb⟩

set_option maxHeartbeats 10000000 in
theorem closed : joinedFacts Tryd.prog 10 Tryd.f10 (OpenSpec.ofChange Rows.fnExactDecodeAllSpec).bare Rows.fnExactDecodeAllRow = true := by
  have hl : Rows.fnExactDecodeAllRow.lifted = false := rfl
  have hm : Rows.fnExactDecodeAllRow.make = Make.cut := rfl
  unfold joinedFacts
  rw [hl, hm]
  repeat' (with_reducible refine tt ?_ ?_)
  all_goals first
    | with_reducible exact fLaidOut
    | with_reducible exact fMapsRowed
    | with_reducible exact fStops
    | with_reducible exact fKnobs
    | with_reducible exact fHeard
    | with_reducible exact fEnter
    | with_reducible exact fLifts
    | with_reducible exact fMake
    | as_aux_lemma => kernel_rfl

theorem said : Rows.FnExactDecodeAllSaid :=
  OpenClaim.holds_of_cond 10 Tryd.f10 rfl rfl rfl rfl rfl rfl rfl ⟨rfl, rfl, rfl, rfl, rfl⟩ rfl rfl rfl rfl rfl (by kernel_rfl) Tryd.func10 closed
    (of_decide_eq_true (by kernel_rfl)) (by unfold Func.isWrapper; first | (rw [if_pos (by decide +kernel)]; kernel_rfl) | (rw [if_neg (by decide +kernel)]; exact ⟨rfl, rfl⟩))
    (fun os started H enc _ F => by rw [OpenClaim.pre_eq_preRow]; exact lifted os started H enc F)

theorem plain (f : FuncId) (fn : Func) (hf : Tryd.pinned.checked.prog.funcNamed "loop.example/prologserver/laws.FnExactDecodeAll" = some f) (hfn : Tryd.pinned.checked.prog.funcs[f]? = some fn) :
    true = Tryd.pinned.checked.prog.looks [] ∧ ∀ (j : Nat) t, fn.params[j]? = some t → Tryd.pinned.checked.prog.wantsStandIn t = false := by
  obtain rfl : f = 10 := Option.some.inj ((show Tryd.prog.funcNamed "loop.example/prologserver/laws.FnExactDecodeAll" = some 10 by kernel_rfl).symm.trans hf) |>.symm
  obtain rfl : fn = Tryd.f10 := (Option.some.inj (Tryd.func10.symm.trans hfn)).symm
  refine ⟨by kernel_rfl, fun j t ht => ?_⟩
  rw [Tryd.params10] at ht
  obtain rfl : t = 22 := by simpa using Array.mem_of_getElem? ht
  exact (show Tryd.prog.wantsStandIn 22 = false by kernel_rfl)

theorem wfText : Rows.fnExactDecodeAllRow.wfByText (OpenSpec.ofChange Rows.fnExactDecodeAllSpec) = true := by kernel_rfl
theorem mainText : Tryd.pinned.checked.prog.mainIs = some (Rows.fnExactDecodeAllCard.stood.harness.1, Rows.fnExactDecodeAllCard.stood.harness.2.toList) := by kernel_rfl
theorem goesText : false = Rows.fnExactDecodeAllRow.goesBy Tryd.pinned.checked.prog := by kernel_rfl
/-- The card. -/
theorem card : Rows.FnExactDecodeAllCardSaid :=
  Claim7.holds_tied_plain_at .later [] _ _ _ _ said (fun _ h => by cases h) wfText (fun _ h => by cases h) fnExactDecodeAll_row_tie rfl ⟨rfl, rfl⟩ mainText rfl plain goesText
end Go.Proofs.YtdpmjpjbcpdgnaaDoor.fnExactDecodeAll
