/- FnExactFormatClause: for every argument the law returns true: the function of impl answers as the model does and writes into no argument. Condition: the table of signs reads as the program's own text lays it (the card ties it). -/
import Derived.Test.YtmgfndgmebignaaGreatDoorProg
import Derived.Test.YtmgfndgmebignaaGreatDoorZmFQ51
import Derived.Test.YtmgfndgmebignaaGreatDoorZmFQ49
import Derived.Test.YtmgfndgmebignaaGreatDoorZmFQ52
import Derived.Deep.RegionHeld3
import Derived.Test.YtmgfndgmebignaaGreatDoorCards
import Derived.Test.YtmgfndgmebignaaGreatDoorTie
import Derived.Test.YtmgfndgmebignaaGreatDoorLaw
import Derived.Test.YtmgfndgmebignaaGreatDoorFacts
import Derived.Test.YtmgfndgmebignaaGreatDoorOpen
import Derived.Test.YtmgfndgmebignaaGreatDoorOpenC
import Derived.Test.YtmgfndgmebignaaGreatDoorLaidA
/- The law FnExactFormatClause, walked. Condition: the argument lies in memory, the tables of signs, of operators and of powers of ten in their variables. -/
namespace Go.Proofs.YtmgfndgmebignaaGreatDoor
open Go.RowKit

set_option maxRecDepth 100000 in
set_option maxHeartbeats 4000000 in
theorem lawFC_any (c : Cl) (A : Option Addr) (cap : Nat) (B : Option Addr) (capB : Nat) (w : World) (hk : KidsAt w 0 w.heap.size c.kids A cap) (hkb : KidsAt w 0 w.heap.size c.body B capB) (hf : Fits c.k c.n c.s) (ht : nv.Tab w) (ho : op.OpTab w) (hp : Lib.TabIs Tryz.prog w "internal/strconv.uint64pow10" .u64 Lib.pow10Tab) :
    Calls Tryz.prog 3 #[.agg #[.int .i64 c.k, .int .i64 c.n, .string c.s, .slice A c.kids.len cap, .slice B c.body.len capB]] w fun e w' => e = .returned (.bool true) ∧ Below w.heap.size w w' := by
  have C1 := fun w1 (hb : Below w.heap.size w w1) => szC_any c A B cap capB 0 w.heap.size 1048576 w1 (hk.below hb (Nat.le_refl _)) (hkb.below hb (Nat.le_refl _)) hb.size hf (by omega) (by omega)
  have hr := szC_range c 1048576 (by omega)
  generalize szC c 1048576 = r at *
  have H1 := Lib.hid C1
  have HK := Lib.hid hk
  have HKB := Lib.hid hkb
  have HT := Lib.hid ht
  have HO := Lib.hid ho
  have HPT := Lib.hid (Lib.tabBelow_of_tabIs hp)
  have HF := Lib.hid hf
  have r1 := hr.1
  have r2 := hr.2.1
  clear C1 hk hkb ht ho hf hp
  have hb1 : ∀ o, Below w.heap.size w (w.alloc o) := fun o => (Below.refl _ _).alloc (Nat.le_refl _) _
  have HB1 := Lib.hid hb1
  clear hb1
  by_cases hneg : r < 0
  · clear hr
    obtain ⟨k, n, s, f, g⟩ := c
    simp only at *
    go_enter Tryz.func3, Tryz.ntmps3
    go_wp2_with fail
    refine (H1.out _ (HB1.out _)).mono ?_
    rintro e w2 ⟨rfl, hb⟩
    have HB := Lib.hid hb
    clear hb
    go_wp2_with fail
    go_ret
    exact ⟨rfl, (HB1.out _).trans (HB.out.mono (by simp))⟩
  · have hwt : wtC c ≤ 1048576 := by have := hr.2.2 (by omega); omega
    have hwn := wtC_nodes c
    have CT := fun w1 (hb : Below w.heap.size w w1) => toC_any c A B cap capB 0 w.heap.size w1 (HK.out.below hb (Nat.le_refl _)) (HKB.out.below hb (Nat.le_refl _)) hb.size hwt
    have CS := fun w1 A1 cap1 B1 capB1 lo hi (hk : KidsAt w1 lo hi c.kids A1 cap1) (hkb : KidsAt w1 lo hi c.body B1 capB1) hh => wr.specFC_any c A1 B1 cap1 capB1 lo hi w1 hk hkb hh HF.out (by omega) (by omega)
    have CI := fun w1 A1 cap1 B1 capB1 lo hi (hk : KidsAt w1 lo hi c.kids A1 cap1) (hkb : KidsAt w1 lo hi c.body B1 capB1) hh (hb : Below w.heap.size w w1) => wr.implFC_any c A1 B1 cap1 capB1 lo hi w1 hk hkb hh HF.out (by omega) (by omega) (HT.out.below hb) (HO.out.below hb) (HPT.out _ hb)
    have CE := fun w1 A1 cap1 B1 capB1 lo hi A2 cap2 B2 capB2 lo2 hi2 (hk : KidsAt w1 lo hi c.kids A1 cap1) (hkb : KidsAt w1 lo hi c.body B1 capB1) hh (hk2 : KidsAt w1 lo2 hi2 c.kids A2 cap2) (hkb2 : KidsAt w1 lo2 hi2 c.body B2 capB2) hh2 => eqC_any c A1 B1 A2 B2 cap1 capB1 cap2 capB2 lo hi lo2 hi2 w1 hk hkb hk2 hkb2 hh hh2
    generalize hv : (⟨(wr.fcB c).toArray⟩ : ByteArray) = v at *
    have HT' := Lib.hid CT
    have HS := Lib.hid CS
    have HI := Lib.hid CI
    have HE := Lib.hid CE
    have hmd : ∀ w1 A1 cap1 B1 capB1 w2, MadeCl w1 c A1 cap1 B1 capB1 w2 → KidsAt w2 w1.heap.size w2.heap.size c.kids A1 cap1 ∧ KidsAt w2 w1.heap.size w2.heap.size c.body B1 capB1 ∧ Below w1.heap.size w1 w2 := fun _ _ _ _ _ _ h => h.at_
    have HMD := Lib.hid hmd
    clear CT CS CI CE hr hwt hwn hv hmd
    obtain ⟨k, n, s, f, g⟩ := c
    simp only at *
    go_enter Tryz.func3, Tryz.ntmps3
    go_wp2_with fail
    refine (H1.out _ (HB1.out _)).mono ?_
    rintro e w2 ⟨rfl, hb⟩
    have hq := (Blk.new w 26 #[.int .i64 k, .int .i64 n, .string s, .slice A f.len cap, .slice B g.len capB]).below hb (by simp)
    have hb2 : Below w.heap.size w w2 := (HB1.out _).trans (hb.mono (by simp))
    have hsz2 : w.heap.size < w2.heap.size := by have := hb.size; simp at this; omega
    obtain ⟨a0, a1, a2, a3, a4⟩ := ccells5 hq
    have HQ := Lib.hid hq
    have HB2 := Lib.hid hb2
    clear hb hq hb2
    go_wp2_with fail
    refine (HT'.out _ HB2.out).mono ?_
    rintro e w3 ⟨A1, cap1, B1, capB1, rfl, hm⟩
    have HM1 := Lib.hid (HMD.out _ _ _ _ _ _ hm)
    clear hm a0 a1 a2 a3 a4
    go_wp2_with fail
    refine (HS.out _ _ _ _ _ _ _ HM1.out.1 HM1.out.2.1 (Nat.le_refl _)).mono ?_
    rintro e w4 ⟨rfl, hb4⟩
    have hb4' := HM1.out.2.2.trans (hb4.mono HM1.out.2.2.size)
    have hb4w : Below w.heap.size w w4 := HB2.out.trans (hb4'.mono (by omega))
    have hq4 := HQ.out.below hb4' hsz2
    obtain ⟨a0, a1, a2, a3, a4⟩ := ccells5 hq4
    have HQ4 := Lib.hid hq4
    have HB4 := Lib.hid hb4w
    have hsz4 : w.heap.size < w4.heap.size := by have := hb4'.size; omega
    clear hb4 hb4' hb4w hq4 HM1 HQ HB2
    go_wp2_with fail
    refine (HT'.out _ HB4.out).mono ?_
    rintro e w5 ⟨A2, cap2, B2, capB2, rfl, hm⟩
    have hm2 := HMD.out _ _ _ _ _ _ hm
    have hb5 : Below w.heap.size w w5 := HB4.out.trans (hm2.2.2.mono (by omega))
    have hq5 := HQ4.out.below hm2.2.2 hsz4
    have hsz5 : w.heap.size < w5.heap.size := by have := hm2.2.2.size; omega
    have HQ5 := Lib.hid hq5
    have HB5 := Lib.hid hb5
    have HK5 := Lib.hid hm2.1
    have HKB5 := Lib.hid hm2.2.1
    clear hm hm2 hb5 hq5 a0 a1 a2 a3 a4 HQ4 HB4
    go_wp2_with fail
    refine (HI.out _ _ _ _ _ _ _ (HK5.out.below ((Below.refl _ _).alloc (Nat.le_refl _) _) (Nat.le_refl _)) (HKB5.out.below ((Below.refl _ _).alloc (Nat.le_refl _) _) (Nat.le_refl _)) (by simp) (HB5.out.trans (((Below.refl _ _).alloc (Nat.le_refl _) _).mono (Nat.le_of_lt hsz5)))).mono ?_
    rintro e w6 ⟨rfl, hb6⟩
    have hq6 := (Blk.new w5 33 #[.int .i64 k, .int .i64 n, .string s, .slice A2 f.len cap2, .slice B2 g.len capB2]).below hb6 (by simp)
    have hb56 : Below w5.heap.size w5 w6 := ((Below.refl _ _).alloc (Nat.le_refl _) _).trans (hb6.mono (by simp))
    have hp6 := HQ5.out.below hb56 hsz5
    have hk6 := HK5.out.below hb56 (Nat.le_refl _)
    have hkb6 := HKB5.out.below hb56 (Nat.le_refl _)
    have hbw6 : Below w.heap.size w w6 := HB5.out.trans (hb56.mono (by omega))
    have hsz6 : w5.heap.size < w6.heap.size := by have := hb6.size; simp at this; omega
    obtain ⟨a0, a1, a2, a3, a4⟩ := ccells5 hp6
    obtain ⟨x0, x1, x2, x3, x4⟩ := ccells5 hq6
    have HK6 := Lib.hid hk6
    have HKB6 := Lib.hid hkb6
    have HB6 := Lib.hid hbw6
    have HQ6 := Lib.hid hq6
    have HP6 := Lib.hid hp6
    have HS6 := Lib.hid hb56.size
    clear hb6 hq6 hb56 hp6 hk6 hkb6 hbw6
    have tv : (v.toList != v.toList) = false := by simp
    have hal := HS6.out
    go_wp2_with fail
    go_region_held3 (fun w' => w'.cell? ⟨w5.heap.size, 0, none⟩ = some (.int .i64 k) ∧ w'.cell? ⟨w5.heap.size, 1, none⟩ = some (.int .i64 n) ∧ w'.cell? ⟨w5.heap.size, 2, none⟩ = some (.string s) ∧ w'.cell? ⟨w5.heap.size, 3, none⟩ = some (.slice A2 f.len cap2) ∧ w'.cell? ⟨w5.heap.size, 4, none⟩ = some (.slice B2 g.len capB2) ∧
        w'.cell? ⟨w.heap.size, 0, none⟩ = some (.int .i64 k) ∧ w'.cell? ⟨w.heap.size, 1, none⟩ = some (.int .i64 n) ∧ w'.cell? ⟨w.heap.size, 2, none⟩ = some (.string s) ∧ w'.cell? ⟨w.heap.size, 3, none⟩ = some (.slice A f.len cap) ∧ w'.cell? ⟨w.heap.size, 4, none⟩ = some (.slice B g.len capB))
      (first | exact ⟨z0, z1, z2, z3, z4, z5, z6, z7, z8, z9⟩ | exact ⟨y0, y1, y2, y3, y4, y5, y6, y7, y8, y9⟩ | exact ⟨x0, x1, x2, x3, x4, a0, a1, a2, a3, a4⟩)
      (first
        | (go_at_call 10
           refine (HT'.out _ HB6.out.drew).mono ?_
           rintro e w7 ⟨A3, cap3, B3, capB3, rfl, hm⟩
           have hm7 := HMD.out _ _ _ _ _ _ hm
           have hd7 : Below w6.heap.size w6 w7 := (Below.refl w6.heap.size w6).drew.trans hm7.2.2
           obtain ⟨y0, y1, y2, y3, y4⟩ := ccells5 (HQ6.out.below hd7 hsz6)
           obtain ⟨y5, y6, y7, y8, y9⟩ := ccells5 (HP6.out.below hd7 (by omega))
           have hk7 := HK6.out.below hd7 HS6.out
           have hkb7 := HKB6.out.below hd7 HS6.out
           have hs7 : w6.heap.size ≤ w7.heap.size := hd7.size
           have hb7 : Below w.heap.size w w7 := HB6.out.trans (hd7.mono (by omega))
           have HM7 := Lib.hid hm7
           have HK7 := Lib.hid hk7
           have HKB7 := Lib.hid hkb7
           have HB7 := Lib.hid hb7
           clear hm hm7 hk7 hkb7 hb7 hd7)
        | (go_at_call 12
           refine (HE.out _ _ _ _ _ _ _ _ _ _ _ _ _ HK7.out HKB7.out (by omega) HM7.out.1 HM7.out.2.1 (Nat.le_refl _)).mono ?_
           rintro e w8 ⟨rfl, hb8⟩
           have HB8 := Lib.hid hb8
           have z0 := (hb8.cell (p := ⟨w5.heap.size, 0, none⟩) (by simp only; omega)).trans y0
           have z1 := (hb8.cell (p := ⟨w5.heap.size, 1, none⟩) (by simp only; omega)).trans y1
           have z2 := (hb8.cell (p := ⟨w5.heap.size, 2, none⟩) (by simp only; omega)).trans y2
           have z3 := (hb8.cell (p := ⟨w5.heap.size, 3, none⟩) (by simp only; omega)).trans y3
           have z4 := (hb8.cell (p := ⟨w5.heap.size, 4, none⟩) (by simp only; omega)).trans y4
           have z5 := (hb8.cell (p := ⟨w.heap.size, 0, none⟩) (by simp only; omega)).trans y5
           have z6 := (hb8.cell (p := ⟨w.heap.size, 1, none⟩) (by simp only; omega)).trans y6
           have z7 := (hb8.cell (p := ⟨w.heap.size, 2, none⟩) (by simp only; omega)).trans y7
           have z8 := (hb8.cell (p := ⟨w.heap.size, 3, none⟩) (by simp only; omega)).trans y8
           have z9 := (hb8.cell (p := ⟨w.heap.size, 4, none⟩) (by simp only; omega)).trans y9
           clear hb8))
    go_wp2_with fail
    go_ret
    exact ⟨rfl, HB7.out.trans (HB8.out.mono HB7.out.size)⟩
end Go.Proofs.YtmgfndgmebignaaGreatDoor

namespace Go.Proofs.YtmgfndgmebignaaGreatDoor.fnExactFormatClause
open Go.ChangeShapes Go.WideShapes Go.ChangeAt Go.RowKit
open Go.ChangeMaps (open_string shut_string)

theorem laid_met (os : Os) : laidMet Tryz.prog Rows.fnExactFormatClauseRow.laid ((laidWorldA os).forCall (fun _ _ => 0) ⟨#[], #[.agg #[.int .i64 0, .int .i64 0, .string ByteArray.empty, .slice none 0 0, .slice none 0 0]], []⟩).memory :=
  laidMet_of_run' 8 (by kernel_rfl) (by kernel_rfl)
theorem reads (os : Os) {H : Type} (enc : TypeId × Value → H) : ∃ ds gs places, DataW.whole enc Tryz.prog ((laidWorldA os).forCall (fun _ _ => 0) ⟨#[], #[.agg #[.int .i64 0, .int .i64 0, .string ByteArray.empty, .slice none 0 0, .slice none 0 0]], []⟩).memory Tryz.f3.params.toList Rows.fnExactFormatClauseSpec.vars false (#[.agg #[.int .i64 0, .int .i64 0, .string ByteArray.empty, .slice none 0 0, .slice none 0 0]] : Array Value).toList 8 = some (ds, gs, places) :=
  ⟨[.agg [.agg [.lit (.int .i64 0), .lit (.int .i64 0), .lit (.string []), .nil], .nil]], [Rows.laid_loop_example_prologserver_impl_signNames, Rows.laid_loop_example_prologserver_impl_operatorRows], MemPlace.row ⟨2, 0, none⟩ 15 ++ MemPlace.row ⟨1, 0, none⟩ 42, by kernel_rfl⟩

set_option maxRecDepth 100000 in
theorem lifted (os : Os) (started : os.Started) (H : Type) (enc : TypeId × Value → H) (F : Stop.Interp) :
    ReturnsInHanded {} Tryz.checked os 3 .any ((OpenSpec.ofChange Rows.fnExactFormatClauseSpec).preRow enc Tryz.prog Tryz.f3 Rows.fnExactFormatClauseRow.domain false Rows.fnExactFormatClauseRow.laid) (((OpenSpec.ofChange Rows.fnExactFormatClauseSpec).at F).post enc Tryz.prog Tryz.f3 false true false false) := by
  obtain ⟨xs, ys, places, hx⟩ := reads os enc
  refine returnsInHanded_of_row (C := Tryz.checked) (s := OpenSpec.ofChange Rows.fnExactFormatClauseSpec) own started (by kernel_rfl) Tryz.func3
    (witness_row_at (enc := enc) (C := Tryz.checked) false (laidWorldA os) #[.agg #[.int .i64 0, .int .i64 0, .string ByteArray.empty, .slice none 0 0, .slice none 0 0]] rfl (by kernel_rfl) (by kernel_rfl) (by kernel_rfl)
      (OpenSpec.preRow_of_cond 8 hx (by kernel_rfl) (fun k hk => by cases hk) (by kernel_rfl) (laid_met os))) ?_
  intro W base args ds gs before hval hW _ _ _ hL _ _
  obtain ⟨hT, hO, hP⟩ := tabA_of_laid hL
  have hW' := hW
  obtain ⟨p, q, hA0, hV, rfl, hfz, hnd⟩ := hW
  have hA : DataW.TrodAll enc Tryz.prog W 0 (fun _ => true) true Tryz.f3.params.toList args.toList ds p := hA0
  rw [Tryz.params3] at hA hval
  obtain ⟨v0, vs0, d0, ds0, p0, q0, hargs, rfl, rfl, h0, r0⟩ := trodAll_cons hA
  obtain ⟨rfl, rfl, rfl⟩ := trodAll_nil r0
  obtain rfl : args = #[v0] := by cases args; simp_all
  obtain ⟨g1, g2, rfl⟩ : ∃ g1 g2, gs = [g1, g2] := by
    obtain ⟨_, _, _, _, d0, _, _, _, _, _, d1, _, e, _⟩ := trodVars_two hV
    exact ⟨d0, d1, e⟩
  obtain ⟨c0, A0, cp0, B0, cb0, rfl, hf0, hk0, hb0⟩ := open_clause (hval 0 26 v0 rfl rfl) h0
  refine (lawFC_any c0 A0 cp0 B0 cb0 W hk0 hb0 hf0 hT hO hP).mono fun e W' ⟨he, hb⟩ => ?_
  subst he
  exact ⟨_, rfl, post_true (by kernel_rfl) (by kernel_rfl) (by kernel_rfl) rfl hW' hb⟩

set_option maxHeartbeats 10000000 in
theorem closed : joinedFacts Tryz.prog 3 Tryz.f3 (OpenSpec.ofChange Rows.fnExactFormatClauseSpec).bare Rows.fnExactFormatClauseRow = true := by
  have hl : Rows.fnExactFormatClauseRow.lifted = false := rfl
  have hm : Rows.fnExactFormatClauseRow.make = Make.cut := rfl
  unfold joinedFacts
  rw [hl, hm]
  repeat' (with_reducible refine tt ?_ ?_)
  all_goals first
    | with_reducible exact fLaidOut
    | with_reducible exact fMapsRowed
    | with_reducible exact fStops
    | with_reducible exact fKnobs
    | with_reducible exact fHeard
    | with_reducible exact fEnter
    | with_reducible exact fLifts
    | with_reducible exact fMake
    | as_aux_lemma => kernel_rfl

theorem said : Rows.FnExactFormatClauseSaid :=
  OpenClaim.holds_of_cond 3 Tryz.f3 rfl rfl rfl rfl rfl rfl rfl ⟨rfl, rfl, rfl, rfl, rfl⟩ rfl rfl rfl rfl rfl (by kernel_rfl) Tryz.func3 closed
    (of_decide_eq_true (by kernel_rfl)) (by unfold Func.isWrapper; first | (rw [if_pos (by decide +kernel)]; kernel_rfl) | (rw [if_neg (by decide +kernel)]; exact ⟨rfl, rfl⟩))
    (fun os started H enc _ F => by rw [OpenClaim.pre_eq_preRow]; exact lifted os started H enc F)

theorem plain (f : FuncId) (fn : Func) (hf : Tryz.pinned.checked.prog.funcNamed "loop.example/prologserver/laws.FnExactFormatClause" = some f) (hfn : Tryz.pinned.checked.prog.funcs[f]? = some fn) :
    true = Tryz.pinned.checked.prog.looks [] ∧ ∀ (j : Nat) t, fn.params[j]? = some t → Tryz.pinned.checked.prog.wantsStandIn t = false := by
  obtain rfl : f = 3 := Option.some.inj ((show Tryz.prog.funcNamed "loop.example/prologserver/laws.FnExactFormatClause" = some 3 by kernel_rfl).symm.trans hf) |>.symm
  obtain rfl : fn = Tryz.f3 := (Option.some.inj (Tryz.func3.symm.trans hfn)).symm
  refine ⟨by kernel_rfl, fun j t ht => ?_⟩
  rw [Tryz.params3] at ht
  obtain rfl : t = 26 := by simpa using Array.mem_of_getElem? ht
  exact (show Tryz.prog.wantsStandIn 26 = false by kernel_rfl)

theorem wfText : Rows.fnExactFormatClauseRow.wfByText (OpenSpec.ofChange Rows.fnExactFormatClauseSpec) = true := by kernel_rfl
theorem mainText : Tryz.pinned.checked.prog.mainIs = some (Rows.fnExactFormatClauseCard.stood.harness.1, Rows.fnExactFormatClauseCard.stood.harness.2.toList) := by kernel_rfl
theorem goesText : false = Rows.fnExactFormatClauseRow.goesBy Tryz.pinned.checked.prog := by kernel_rfl
/-- The card. -/
theorem card : Rows.FnExactFormatClauseCardSaid :=
  Claim7.holds_tied_plain_at .later [] _ _ _ _ said (fun _ h => by cases h) wfText (fun _ h => by cases h) fnExactFormatClause_row_tie rfl ⟨rfl, rfl⟩ mainText rfl plain goesText
end Go.Proofs.YtmgfndgmebignaaGreatDoor.fnExactFormatClause
