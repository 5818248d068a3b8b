/- What the laws' proofs share: the arguments read behind the call as before; the two errors out of the row's condition; the witness's world; parameters are opened. No condition of its own. -/
import Derived.Test.YtdpmjpjbcpdgnaaDoorRows
import Derived.Test.YtdpmjpjbcpdgnaaDoorFzI
import Derived.ProofKit
import Derived.OpenShut
import Derived.OpenVars
import Derived.ShutString
import Derived.ChangeSlices
import Derived.Deep.DeepHandedRow
import Derived.Lib.LaidTab
import Derived.Lib.SmallJoins
import Derived.Stop.LaidTwo
import Derived.RowKit
namespace Go.Proofs.YtdpmjpjbcpdgnaaDoor
open Go.ChangeShapes Go.WideShapes Go.ChangeAt Go.RowKit

theorem own : ownKnob Tryd.prog.godebug = none := by kernel_rfl
theorem laidOut : laidOutB Tryd.prog = true := by kernel_rfl
section
variable {H : Type} {enc : TypeId × Value → H}

theorem trodAll_below {P : Program} (hl : laidOutB P = true) {W W' : World} (hb : Below W.heap.size W W') :
    ∀ {ts : List TypeId} {vs : List Value} {ds : List (DataW H)} {ps : List MemPlace}, (ts.all fun t => P.readableRec t && decide (t < P.types.size)) = true →
      DataW.TrodAll enc P W 0 (fun _ => true) true ts vs ds ps → DataW.TrodAll enc P W' 0 (fun b => decide (b < W.heap.size)) true ts vs ds ps
  | [], [], [], _, _, h => h
  | [], [], _ :: _, _, _, h => h.elim
  | [], _ :: _, _, _, _, h => h.elim
  | _ :: _, [], _, _, _, h => h.elim
  | _ :: _, _ :: _, [], _, _, h => h.elim
  | t :: ts, v :: vs, d :: ds, ps, hr, h => by
    obtain ⟨p, q, h1, h2, e⟩ := h
    simp only [List.all_cons, Bool.and_eq_true, decide_eq_true_eq] at hr
    refine ⟨p, q, Below.trod hl hr.1.1 hr.1.2 h1 hb ?_, trodAll_below hl hb hr.2 h2, e⟩
    obtain ⟨m, hm⟩ := h1
    exact DataW.trod_lt m _ _ _ hm

/-- A law that answered true and wrote nothing that was there meets its row. -/
theorem post_true {f : Func} {s : ChangeSpec} {apart : Bool} {W W' : World} {args : Array Value} {ds gs : List (DataW H)} {before : List MemPlace}
    (hf : f.resultTypes = #[4]) (hr : (f.params.toList.all fun t => Tryd.prog.readableRec t && decide (t < Tryd.prog.types.size)) = true) (hv : varsRowed Tryd.prog s.vars = true)
    (hs : s.fn H (ds ++ gs) = { results := [.lit (.bool true)], args := ds, vars := gs })
    (hW : DataW.Whole enc Tryd.prog f.params.toList s.vars apart W args.toList ds gs before) (hb : Below W.heap.size W W') :
    s.post enc Tryd.prog f apart true false false W args (.bool true) W' := by
  have hW' := hW
  obtain ⟨p, q, hA, hV, rfl, hfz, hnd⟩ := hW
  refine ⟨ds, gs, p ++ q, [], p, q, hW', ?_, ?_, ?_, hb.frame _, fun h => by cases h⟩
  · rw [hs, hf]
    exact trodAll_mk1 (shut_bool Tryd.underlying4 _)
  · rw [hs]
    exact trodAll_below laidOut hb hr hA
  · rw [hs]
    exact Below.trodVars laidOut hb hv hV
end


/-! ### The two errors -/
theorem gB : Tryd.prog.globalNamed "loop.example/prologserver/impl.errBroken" = some 0 := by kernel_rfl
theorem gP : Tryd.prog.globalNamed "loop.example/prologserver/impl.errPart" = some 1 := by kernel_rfl
theorem gBType : (Tryd.prog.globals[0]?).map (·.type) = some 69 := by kernel_rfl
theorem gPType : (Tryd.prog.globals[1]?).map (·.type) = some 69 := by kernel_rfl
theorem cellsES : Tryd.prog.cellsOf 145 = 1 := by kernel_rfl
theorem cellsStr : Tryd.prog.cellsOf 9 = 1 := by kernel_rfl
theorem starES : "*" ++ "errors.errorString" = "*errors.errorString" := by decide
theorem rowES (u : TypeId) (h : Tryd.prog.typeName? 3 u = some "*errors.errorString") : u = 116 :=
  typeName_ptr_named (nm := "errors.errorString") (by rw [starES]; kernel_rfl) (by kernel_rfl) (by decide) u (by rw [starES]; exact h)
theorem er_of_laid {W : World} (h : laidMet Tryd.prog [("loop.example/prologserver/impl.errPart", Rows.laid_loop_example_prologserver_impl_errPart), ("loop.example/prologserver/impl.errBroken", Rows.laid_loop_example_prologserver_impl_errBroken)] W) : ∃ eB eP, Er W eB eP := by
  obtain ⟨a0, a1, s0, s1, c0, c1, t0, t1, hv0, hv1, hc0, hs0, hz0, hc1, hs1, hz1, hne, hb0, hb1⟩ := laid_sentinels2 h gP gPType gB gBType Tryd.underlying69 rowES Tryd.underlying116 Tryd.underlying145 rfl rfl Tryd.underlying9 cellsES cellsStr
  exact ⟨a1, a0, by simpa using World.var?_cell gB hv1 0, by simpa using World.var?_cell gP hv0 0, fun e => hne e.symm, ⟨c1, t1, hb1⟩, ⟨c0, t0, hb0⟩⟩
def msgB : ByteArray := ⟨#[116, 104, 101, 114, 101, 32, 99, 97, 110, 110, 111, 116, 32, 98, 101, 32, 97, 32, 102, 114, 97, 109, 101]⟩
def msgP : ByteArray := ⟨#[98, 121, 116, 101, 115, 32, 111, 102, 32, 97, 32, 102, 114, 97, 109, 101, 32, 97, 114, 101, 32, 109, 105, 115, 115, 105, 110, 103]⟩
noncomputable def lowS : Nat := (World.holding Tryd.prog default ⟨#[], #[], []⟩).heap.size
/-- A world for the witness: the two errors laid. -/
noncomputable def laidWorldS (os : Os) : World :=
  let w0 := World.holding Tryd.prog os ⟨#[.cells #[.string msgB] 145, .cells #[.string msgP] 145], #[], []⟩
  { w0 with heap := (w0.heap.modify 0 fun
      | .cells _ t frozen => .cells #[.iface 116 (.pointer (some ⟨lowS, 0, none⟩))] t frozen
      | o => o).modify 1 fun
      | .cells _ t frozen => .cells #[.iface 116 (.pointer (some ⟨lowS + 1, 0, none⟩))] t frozen
      | o => o }

/-! ### Parameters -/
theorem cellsU8 : Tryd.prog.cellsOf 5 = 1 := by kernel_rfl
section
variable {H : Type} {enc : TypeId × Value → H} {w : World} {sp : Nat → Bool} {held : Bool} {r : Reach} {b0 : Nat} {v : Value} {d : DataW H} {ps : List MemPlace}
/-- Bytes that a caller hands in. -/
def InU (w : World) (v : Value) : Prop := ∃ (A : Option Addr) (l : List UInt8) (cap : Nat), v = .slice A l.length cap ∧ AtU w w.heap.size A l ∧ l.length ≤ cap ∧ cap ≤ maxLen ∧ (A = none → l.length = 0 ∧ cap = 0)
theorem inU_of {fuel : Nat} {x : DataW H × List MemPlace} (hf : DataW.trod enc Tryd.prog w 0 sp held fuel 22 [v] = some x) : InU w v := by
  rcases open_ints Tryd.underlying22 Tryd.underlying5 cellsU8 hf with ⟨hcs, _⟩ | ⟨a, len, cap, zs, hcs, _, hl, hm, hz, _, hcell, hwz⟩
  · simp at hcs
    subst hcs
    exact ⟨none, [], 0, rfl, fun h => absurd h (Nat.lt_irrefl 0), Nat.le_refl _, Nat.zero_le _, fun _ => ⟨rfl, rfl⟩⟩
  · simp at hcs
    subst hcs
    have hzl : len ≤ zs.length := by rw [hz]; split <;> omega
    have hlen : ((zs.take len).map fun z => UInt8.ofNat z.toNat).length = len := by rw [List.length_map, List.length_take]; omega
    refine ⟨some a, (zs.take len).map fun z => UInt8.ofNat z.toNat, cap, by rw [hlen], fun hp => ?_, by rw [hlen]; exact hl, hm, fun h => by cases h⟩
    rw [hlen] at hp
    obtain ⟨b, o, spot⟩ := a
    have h0 := hcell 0 (by omega)
    have hspot : spot = none := by simpa [Addr.add] using World.cell?_spot h0
    subst hspot
    have add_here : ∀ n : Nat, (⟨b, o, none⟩ : Addr).add n = ⟨b, o + n, none⟩ := fun n => by unfold Addr.add; split <;> simp_all
    refine ⟨b, o, rfl, ?_, fun i hi => ?_⟩
    · rw [add_here] at h0
      exact World.block_lt_of_cell? w _ h0
    · rw [hlen] at hi
      have hi' := hcell i (by omega)
      rw [add_here] at hi'
      have hr := range_u8 hwz i
      rw [← List.getD_eq_getElem?_getD] at hr
      rw [hi']
      have e : ((zs.take len).map fun z => UInt8.ofNat z.toNat).getD i 0 = UInt8.ofNat ((zs.getD i 0).toNat) := by
        simp only [List.getD, List.getElem?_map, List.getElem?_take, if_pos hi, List.getElem?_eq_getElem (show i < zs.length by omega), Option.map_some, Option.getD_some]
      rw [e, UInt8.toNat_ofNat']
      have h1 := hr.1
      have h2 := hr.2
      have : ((((zs.getD i 0).toNat % 2 ^ 8 : Nat)) : Int) = zs.getD i 0 := by omega
      rw [this]
set_option maxRecDepth 100000 in
theorem openU (hval : Value.okWide Tryd.prog w r b0 22 v) (hd : DataW.Trod enc Tryd.prog w 0 sp held 22 v d ps) : InU w v := by
  obtain ⟨a1, len, cap, rfl⟩ := okWide_slice Tryd.underlying22 hval
  obtain ⟨fuel, hf⟩ := hd
  exact inU_of (by simpa [Value.cells] using hf)
set_option maxRecDepth 100000 in
/-- A decoder that a caller hands in. -/
theorem openD (hval : Value.okWide Tryd.prog w r b0 48 v) (hd : DataW.Trod enc Tryd.prog w 0 sp held 48 v d ps) : ∃ (v0 : Value) (br : Bool), v = .agg #[v0, .bool br] ∧ InU w v0 := by
  obtain ⟨v0, v1, y0, y1, n, rfl, _, _, h0, h1⟩ := Joins.open_agg2 Tryd.underlying48 (by kernel_rfl) (by kernel_rfl) hval hd
  obtain ⟨b, hb, _⟩ := DataW.trod_bool Tryd.underlying4 h1
  simp only [List.cons.injEq, and_true] at hb
  subst hb
  exact ⟨v0, b, rfl, inU_of h0⟩
end
end Go.Proofs.YtdpmjpjbcpdgnaaDoor
