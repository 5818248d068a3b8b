/- spec.l1Struct of a row of arguments that the call owns; spec.l1Var, spec.l1Int. Condition: the row is owned. -/
import Derived.Test.YtkgihpddjppmdaaDoorProg
import Derived.Test.YtkgihpddjppmdaaDoorDrR
import Derived.Test.YtkgihpddjppmdaaDoorTb
import Derived.Deep.AppendLies
import Derived.Deep.AppendSrc
import Derived.OwnWalk
namespace Go.Proofs.YtkgihpddjppmdaaDoor
open Go.RowKit

theorem infoTd : (Tryd.prog.info? 25).map (fun i => (i.zero, i.size, i.bytes)) = some (some (.agg #[.int .i64 0, .int .i64 0, .string ByteArray.empty, .slice none 0 0]), 4, 56) := by kernel_rfl
theorem two_new (w : World) (o o' : Obj) : Below w.heap.size w ((w.alloc o).alloc o') := ((Below.refl _ _).alloc (Nat.le_refl _) _).alloc (by simp) _
/-- The row lies elsewhere. -/
theorem OwnAt.moved {w w' : World} (f : Fr) : ∀ b o b' o' L, OwnAt w f b o L → (∀ j, j < f.len * 4 → w'.cell? ⟨b', o' + j, none⟩ = w.cell? ⟨b, o + j, none⟩) → (∀ x ∈ L, w'.heap[x]? = w.heap[x]?) → OwnAt w' f b' o' L := by
  induction f with
  | nil => intro b o b' o' L h _ _; exact h
  | cons k n s kids rest _ ihr =>
    rintro b o b' o' L ⟨A, cap, L1, L2, rfl, hf, ⟨c0, c1, c2, c3⟩, h1, h2, h3, hr⟩ hc hL
    simp only [Fr.len] at hc
    refine ⟨A, cap, L1, L2, rfl, hf, ⟨(hc 0 (by omega)).trans c0, (hc 1 (by omega)).trans c1, (hc 2 (by omega)).trans c2, (hc 3 (by omega)).trans c3⟩, h1, h2, ?_, ihr b (o + 4) b' (o' + 4) L2 hr (fun j hj => ?_) fun x hx => hL x (by simp [hx])⟩
    · have ho : OwnS w kids A cap L1 := ⟨h1, h2, h3⟩
      exact (ho.keep fun x hx => hL x (by simp [hx])).2.2
    · have := hc (4 + j) (by omega)
      rwa [← Nat.add_assoc, ← Nat.add_assoc] at this
theorem OwnAt.ones {w : World} (f : Fr) : ∀ b o L, OwnAt w f b o L → ∀ j, j < f.len * 4 → ∃ u, w.cell? ⟨b, o + j, none⟩ = some u ∧ u.oneCell' = true := by
  induction f with
  | nil => intro b o L _ j hj; simp [Fr.len] at hj
  | cons k n s kids rest _ ihr =>
    rintro b o L ⟨A, cap, L1, L2, rfl, hf, ⟨c0, c1, c2, c3⟩, h1, h2, h3, hr⟩ j hj
    simp only [Fr.len] at hj
    match j with
    | 0 => exact ⟨_, c0, rfl⟩
    | 1 => exact ⟨_, c1, rfl⟩
    | 2 => exact ⟨_, c2, rfl⟩
    | 3 => exact ⟨_, c3, rfl⟩
    | j + 4 =>
      have := ihr b (o + 4) L2 hr j (by omega)
      rwa [show o + 4 + j = o + (j + 4) by omega] at this

/-- What an append of the row to an empty one leaves. -/
def App0 (w : World) (g : Fr) (h : Nat) (L : List Nat) (v : Value) (w' : World) : Prop :=
  ∃ A' cap' L', v = .slice A' g.len cap' ∧ OwnS w' g A' cap' L' ∧ L'.Nodup ∧ (∀ x ∈ L', x ∈ L ∨ x = h ∨ (w.heap.size ≤ x ∧ x < w'.heap.size)) ∧ w.grownBy w' (some h) ∧ (g.len = 0 → A' = some ⟨h, 0, none⟩ ∧ cap' = 0 ∧ w' = w)
set_option maxRecDepth 100000 in
theorem app0_run {w : World} {g : Fr} {B : Option Addr} {capB h : Nat} {L : List Nat} (hblk : Blk w h 25 #[]) (ho : OwnS w g B capB L) (hn : L.Nodup) (hL : h ∉ L) (hg : g.len ≤ 1048576) (ty : TypeId) :
    ∃ v w', (Builtin.append_ #[23, 23] ty #[.slice (some ⟨h, 0, none⟩) 0 0, .slice B g.len capB]).run Tryd.prog w = .ok v w' ∧ App0 w g h L v w' := by
  obtain ⟨i0, hi0, hz0, hz1, hz2⟩ := info_parts infoTd
  rcases Nat.eq_zero_or_pos g.len with hz | hp
  · have hnil : g = .nil := by
      cases g with
      | nil => rfl
      | cons _ _ _ _ _ => simp [Fr.len] at hz
    subst hnil
    have hsrc : Src Tryd.prog i0.size 23 (.slice B 0 capB) 0 [] w := by
      cases B with
      | none => exact Src.ofNil (w := w) Tryd.underlying23 capB
      | some a => exact Src.ofSlice (w := w) Tryd.underlying23 a 0 capB [] (by simp) (fun j u hj => by simp at hj) (fun u hu => by simp at hu)
    have hrun := run_append_room_src (P := Tryd.prog) w 23 23 ty 25 i0 Tryd.underlying23 hi0 h 0 0 0 (.slice B 0 capB) 0 [] hsrc (by omega) (fun j hj => by simp at hj) (fun j hj => by simp at hj)
    exact ⟨_, _, hrun, some ⟨h, 0, none⟩, 0, [], rfl, ⟨Nat.le_refl _, Nat.zero_le _, .inl ⟨rfl, rfl⟩⟩, List.nodup_nil, fun x hx => by simp at hx, ⟨rfl, rfl, rfl, Nat.le_refl _, fun _ _ _ => rfl⟩, fun _ => ⟨rfl, rfl, rfl⟩⟩
  · rcases ho.2.2 with ⟨h0, _⟩ | ⟨b, L', cs, rfl, rfl, hb, hcs, hown⟩
    · omega
    · have hnl : (cs.toList.take (g.len * 4)).length = g.len * 4 := by
        have := ho.1
        simp
        omega
      have hown1 : w.ownsRow h 25 4 (.slice (some ⟨h, 0, none⟩) 0 0) 0 [] :=
        ⟨rfl, .inr ⟨h, 0, #[], rfl, Nat.le_refl _, hblk, Nat.le_refl _, Nat.zero_le _, rfl, rfl⟩⟩
      obtain ⟨v', w', hrun, hrow, hgr, hnn, hloc⟩ := run_append_own_at (P := Tryd.prog) w h 23 ty 25 i0 _ 4 56 Tryd.underlying23 hi0 hz0 hz1 hz2 rfl (by omega) (.slice (some ⟨h, 0, none⟩) 0 0) 0 _ hown1 ⟨b, 0, none⟩ g.len capB (cs.toList.take (g.len * 4)) hnl
        (fun j u hj => by
          rw [List.getElem?_take] at hj
          split at hj
          · have : w.cell? ⟨b, j, none⟩ = some u := by rw [hb.cell]; simpa using hj
            have e : (⟨b, 0, none⟩ : Addr).add j = ⟨b, j, none⟩ := by
              unfold Addr.add
              split
              · rename_i h0
                subst h0
                rfl
              · simp
            rw [e]
            exact this
          · cases hj)
        (fun u hu => by
          obtain ⟨j, hj⟩ := List.mem_iff_getElem?.1 hu
          rw [List.getElem?_take] at hj
          split at hj
          · rename_i hlt
            obtain ⟨u', hc, h1⟩ := OwnAt.ones g b 0 L' hown j hlt
            rw [Nat.zero_add, hb.cell] at hc
            have : cs[j]? = some u := by simpa using hj
            rw [this] at hc
            cases hc
            exact h1
          · cases hj)
        (by unfold maxLen; omega) (by omega) (by have := Blk.lt hblk; omega)
      rcases hrow.2 with ⟨_, h0⟩ | ⟨g', cap', cur, rfl, hg', hh', hr1, hr2, hr3, hr4⟩
      · omega
      · rw [Nat.zero_add] at hr1 hr4 hrow
        have hcell : ∀ j, w'.cell? ⟨g', j, none⟩ = cur[j]? := fun j => Blk.cell (w := w') (t := 25) hh' j
        have hcur : ∀ j, j < g.len * 4 → cur[j]? = (cs.toList.take (g.len * 4))[j]? := fun j hj => by
          have e := congrArg (fun l => l[j]?) hr4
          simp only [List.getElem?_take, if_pos hj, List.nil_append] at e ⊢
          simpa using e
        have hkeep : ∀ x, x < w.heap.size → x ≠ h → w'.heap[x]? = w.heap[x]? := fun x hx hne => hgr.block x hx (by simp [Value.ownBlock]; exact hne)
        obtain ⟨hb0, hn'⟩ := List.nodup_cons.1 hn
        have hlx : ∀ x ∈ L', x < w.heap.size := fun x hx => ho.lt x (by simp [hx])
        have hloc' : g' = h ∨ w.heap.size ≤ g' := by
          rcases hloc with h1 | h1
          · left; simpa [Value.ownBlock] using h1
          · right; simp [Value.ownBlock] at h1; omega
        refine ⟨_, w', hrun, some ⟨g', 0, none⟩, cap', g' :: L', by rw [Nat.zero_add], ⟨hr1, hr2, .inr ⟨g', L', cur, rfl, rfl, hh', hr3, OwnAt.moved g b 0 g' 0 L' hown (fun j hj => ?_) fun x hx => ?_⟩⟩, List.nodup_cons.2 ⟨fun hx => ?_, hn'⟩, fun x hx => ?_, hgr, fun h0 => by omega⟩
        · rw [Nat.zero_add, hcell, hcur j hj, hb.cell, List.getElem?_take, if_pos hj]
          simp
        · exact hkeep x (hlx x hx) fun e => hL (by subst e; simp [hx])
        · rcases hloc' with h1 | h1
          · subst h1; exact hL (by simp [hx])
          · have := hlx g' hx; omega
        · rcases List.mem_cons.1 hx with rfl | hx
          · rcases hloc' with h1 | h1
            · exact .inr (.inl h1)
            · exact .inr (.inr ⟨h1, Blk.lt (w := w') hh'⟩)
          · exact .inl (by simp [hx])
theorem wpList_app0 {ops : Array Oper} {rest : List Oper} {o : Oper} {a : Act} {Q : Exit → Act → World → Prop} (hgd : o.guard = none) (sx x : Operand)
    (ho : o.op = .call { callee := .builtin .append, args := #[sx, x], argTypes := #[23, 23] })
    {w : World} {g : Fr} {B : Option Addr} {capB h : Nat} {L : List Nat} (hblk : Blk w h 25 #[]) (hos : OwnS w g B capB L) (hn : L.Nodup) (hL : h ∉ L) (hg : g.len ≤ 1048576) (hs : a.eval sx = .slice (some ⟨h, 0, none⟩) 0 0) (hx : a.eval x = .slice B g.len capB)
    (hK : ∀ v w', App0 w g h L v w' → wpList Tryd.prog ops Q rest (a.put o.dst v) w') : wpList Tryd.prog ops Q (o :: rest) a w := by
  refine wpList_plain hgd fun K' hK' => ?_
  obtain ⟨v, w', hrun, hd⟩ := app0_run hblk hos hn hL hg o.type
  unfold Oper.wp
  simp [execOp, ho, resolve, invoke, builtin, hs, hx, hrun, Result.andThen]
  exact hK' _ _ (hK v w' hd)

/-- What spec.l1Struct leaves. -/
def StR (w : World) (name : ByteArray) (f : Fr) (L : List Nat) (e : Ending) (w' : World) : Prop :=
  ∃ A' cap' L', e = .returned (.agg #[.int .i64 3, .int .i64 0, .string name, .slice A' f.len cap']) ∧ OwnS w' f A' cap' L' ∧ L'.Nodup ∧ (∀ x ∈ L', x ∈ L ∨ (w.heap.size ≤ x ∧ x < w'.heap.size)) ∧ Below w.heap.size w w' ∧ (f.len = 0 → A' = some ⟨w.heap.size + 1, 0, none⟩ ∧ cap' = 0 ∧ Blk w' (w.heap.size + 1) 25 #[])
set_option maxRecDepth 100000 in
set_option maxHeartbeats 2000000 in
/-- spec.l1Struct. -/
theorem structN_any (name : ByteArray) (f : Fr) (B : Option Addr) (capB : Nat) (L : List Nat) (w : World) (ho : OwnS w f B capB L) (hn : L.Nodup) (hl : f.len ≤ 1048576) :
    Calls Tryd.prog 29 #[.string name, .slice B f.len capB] w fun e w' => StR w name f L e w' := by
  have hb2 := two_new w (.cells #[.int .i64 0, .int .i64 0, .string ⟨#[]⟩, .slice none 0 0] 25) (.cells #[] 25)
  have hblk : Blk ((w.alloc (.cells #[.int .i64 0, .int .i64 0, .string ⟨#[]⟩, .slice none 0 0] 25)).alloc (.cells #[] 25)) (w.heap.size + 1) 25 #[] := by
    have h := Blk.new (w.alloc (.cells #[.int .i64 0, .int .i64 0, .string ⟨#[]⟩, .slice none 0 0] 25)) 25 #[]
    simpa using h
  have hq : Blk ((w.alloc (.cells #[.int .i64 0, .int .i64 0, .string ⟨#[]⟩, .slice none 0 0] 25)).alloc (.cells #[] 25)) w.heap.size 25 #[.int .i64 0, .int .i64 0, .string ⟨#[]⟩, .slice none 0 0] := (Blk.new w _ _).alloc _
  have ho2 := ho.below hb2 ho.lt
  have hnl : w.heap.size + 1 ∉ L := fun e => by have := ho.lt _ e; omega
  have hsz : ((w.alloc (.cells #[.int .i64 0, .int .i64 0, .string ⟨#[]⟩, .slice none 0 0] 25)).alloc (.cells #[] 25)).heap.size = w.heap.size + 2 := by simp
  have HB2 := Lib.hid hb2
  have HBLK := Lib.hid hblk
  have HQ := Lib.hid hq
  have HO2 := Lib.hid ho2
  have HN := Lib.hid hn
  have HNL := Lib.hid hnl
  have HL := Lib.hid hl
  have HSZ := Lib.hid hsz
  have HLT := Lib.hid ho.lt
  clear hb2 hblk hq ho2 hn hnl hl hsz ho
  go_enter Tryd.func29, Tryd.ntmps29
  go_wp2_with (at_builtin; go_must (refine wpList_app0 rfl _ _ rfl HBLK.out HO2.out HN.out HNL.out HL.out rfl rfl ?_); rintro v w6 ⟨A', cap', L', rfl, hown, hnd, hlx, hgr, h0⟩; have H0 := Lib.hid h0; clear h0; have hq6 := HQ.out.keep (hgr.block _ HQ.out.lt (by simp)); obtain ⟨d0, d1, d2, d3⟩ := cells4i hq6; obtain ⟨g0, g1, g2, g3⟩ := frozen4 hq6; have HQ6 := Lib.hid hq6; have HOWN := Lib.hid hown; have HND := Lib.hid hnd; have HLX := Lib.hid hlx; have HGR := Lib.hid hgr; clear hq6 hown hnd hlx hgr)
  have e1 := (((HQ6.out.set_ 0 (.int .i64 3)).set_ 1 (.int .i64 0)).set_ 2 (.string name)).set_ 3 (.slice A' f.len cap')
  have hs := HSZ.out
  have hg6 := HGR.out.size
  have hbw : Below w.heap.size w w6 := HB2.out.grown HGR.out HB2.out.size fun g hg => by
    have : w.heap.size + 1 = g := by simpa using hg
    omega
  have hns : ∀ x ∈ L', x ≠ w.heap.size := fun x hx e => by
    rcases HLX.out x hx with h | h | h
    · have := HLT.out x h; omega
    · omega
    · omega
  refine bodyPost_ret (v := .agg #[.int .i64 3, .int .i64 0, .string name, .slice A' f.len cap']) ?_ rfl ⟨A', cap', L', rfl, ?_, HND.out, ?_, ?_, fun h => ?_⟩
  · exact results_cell_row Tryd.results29 _ _ w.heap.size _ _ _ _ rfl e1 Tryd.underlying25 rfl (by kernel_rfl)
  · refine HOWN.out.keep fun x hx => ?_
    have hne := hns x hx
    rw [heap_setCell_other _ _ _ _ hne, heap_setCell_other _ _ _ _ hne, heap_setCell_other _ _ _ _ hne, heap_setCell_other _ _ _ _ hne]
  · intro x hx
    have hxl := HOWN.out.lt x hx
    rcases HLX.out x hx with h | h | h
    · exact .inl h
    · exact .inr ⟨by omega, by simpa [World.setCell] using hxl⟩
    · exact .inr ⟨by omega, by simpa [World.setCell] using hxl⟩
  · exact (((hbw.setCell (p := ⟨w.heap.size, 0, none⟩) (Nat.le_refl _) _).setCell (p := ⟨w.heap.size, 1, none⟩) (Nat.le_refl _) _).setCell (p := ⟨w.heap.size, 2, none⟩) (Nat.le_refl _) _).setCell (p := ⟨w.heap.size, 3, none⟩) (Nat.le_refl _) _
  · obtain ⟨r1, r2, r3⟩ := H0.out h
    refine ⟨r1, r2, ?_⟩
    rw [r3]
    exact (((HBLK.out.far (by simp) _).far (by simp) _).far (by simp) _).far (by simp) _
/-- What it leaves, with what was drawn before. -/
theorem StR.made {rb : Nat} {w0 w1 w2 : World} {name : ByteArray} {f : Fr} {L : List Nat} {e : Ending} (h : StR w1 name f L e w2) (hL : ∀ x ∈ L, w0.heap.size ≤ x) (hw : Wrote [rb] w0 w1) :
    ∃ A cap, e = .returned (.agg #[.int .i64 3, .int .i64 0, .string name, .slice A f.len cap]) ∧ MadeW rb w0 f A cap w2 ∧ Below w1.heap.size w1 w2 := by
  obtain ⟨A, cap, L', rfl, ho, hn, hx, hb, _⟩ := h
  refine ⟨A, cap, rfl, ⟨L', ho, hn, fun x hx' => ⟨?_, ho.lt x hx'⟩, hw.trans (.of_below hb _)⟩, hb⟩
  rcases hx x hx' with h | h
  · exact hL x h
  · exact Nat.le_trans hw.size h.1
end Go.Proofs.YtkgihpddjppmdaaDoor
