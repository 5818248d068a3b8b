/- impl.programOf: the clauses' index. Condition: the clauses lie in memory, both tables in their variables. -/
import Derived.Test.YtlapdnllncoomaaDoorProg
import Derived.Test.YtlapdnllncoomaaDoorCvI
import Derived.Test.YtlapdnllncoomaaDoorPk
import Derived.Test.YtlapdnllncoomaaDoorClT
import Derived.Deep.RegionHeld3
import Derived.Deep.AppendLies
import Derived.OwnWalk
namespace Go.Proofs.YtlapdnllncoomaaDoor
open Go.RowKit Go.WideMaps Go.Maps Go.ChangeShapes

theorem infoCl : (Tryd.prog.info? 91).map (fun i => (i.zero, i.size, i.bytes)) = some (some (.agg #[.string ByteArray.empty, .slice none 0 0, .slice none 0 0]), 3, 64) := by kernel_rfl
theorem infoIx : (Tryd.prog.info? 3).map (fun i => (i.zero, i.size, i.bytes)) = some (some (.int .i64 0), 1, 8) := by kernel_rfl
theorem zeroIx (w : World) : (zeroValue 35).run Tryd.prog w = .ok (.slice none 0 0) w := by kernel_rfl

set_option maxRecDepth 100000 in
/-- plainGoal.pred. -/
theorem pred_any (s : ByteArray) (A : Option Addr) (len cap : Nat) (w : World) :
    Calls Tryd.prog 67 #[.agg #[.string s, .slice A len cap]] w fun e w' => e = .returned (.agg #[.string s, .int .i64 (len : Int)]) ∧ Below w.heap.size w w' := by
  have HB : ∀ o o', Hid (Below w.heap.size w ((w.alloc o).alloc o')) := fun o o' => Lib.hid (two_alloc w o o')
  have hq := Blk.new (w.alloc (.cells #[.string s, .slice A len cap] 74)) 88 #[.string s, .int .i64 (len : Int)]
  rw [show (w.alloc (.cells #[.string s, .slice A len cap] 74)).heap.size = w.heap.size + 1 by simp] at hq
  have HQ := Lib.hid hq
  clear hq
  go_enter Tryd.func67, Tryd.ntmps67
  go_wp2_with fail
  refine bodyPost_ret (v := .agg #[.string s, .int .i64 (len : Int)]) ?_ rfl ⟨rfl, (HB _ _).out⟩
  exact results_cell_row Tryd.results67 _ _ (w.heap.size + 1) _ _ _ _ rfl HQ.out Tryd.underlying88 rfl (by kernel_rfl)

theorem bl_step {W x y : World} (hx : Below W.heap.size W x) (hb : Below x.heap.size x y) : Below W.heap.size W y := hx.trans (hb.mono hx.size)
theorem bl_alloc {W x : World} (h : Below W.heap.size W x) (o : Obj) : Below W.heap.size W (x.alloc o) := h.alloc h.size o
theorem grown_of_below {w x : World} (h : Below w.heap.size w x) : w.grownBy x none := ⟨h.os, h.tape, h.output, h.size, fun k hk _ => h.block k hk⟩
theorem grown_trans {w x y : World} {r : Option Nat} (h1 : w.grownBy x r) (h2 : x.grownBy y r) : w.grownBy y r := grownBy_trans h1 h2
theorem grown_none {w x : World} {r : Option Nat} (h : w.grownBy x none) : w.grownBy x r := ⟨h.os, h.tape, h.output, h.size, fun k hk _ => h.block k hk (by simp)⟩
/-- Groups over a world that wrote nothing old. -/
theorem groups_below {w x : World} {base b n : Nat} {D : DataW Unit} (h : w.ownsGroups Tryd.prog 88 base 3 .i64 b n D) (hb : Below w.heap.size w x) : x.ownsGroups Tryd.prog 88 base 3 .i64 b n D :=
  h.kept (grown_of_below hb) (by simp) fun es clock _ y _ => by cases y.val.ownBlock <;> simp

/-- 'index[k] = append(index[k], i)', from the append on: what the store will leave. -/
def IxDone (x : World) (M n : Nat) (D : DataW Unit) (key : Value) (kl : Lit) (v : Value) (zs : List Int) (j : Int) (v' : Value) (w4 : World) : Prop :=
  x.grownBy w4 v.ownBlock ∧ ∃ w5, (Instr.mapUpdate 71 (.map (some M)) key v').run Tryd.prog w4 = .ok () w5 ∧ w4.grownBy w5 (some M) ∧
    w5.ownsGroups Tryd.prog 88 (M + 1) 3 .i64 M (n + 1) (D.put kl (rowDatum .i64 v' (zs ++ [j]))) ∧ w4.ownsInts (M + 1) 3 .i64 v' (zs ++ [j]) ∧ (v'.ownBlock = v.ownBlock ∨ ∃ g, v'.ownBlock = some g ∧ x.heap.size ≤ g)
set_option maxRecDepth 100000 in
theorem step_idx {ops : Array Oper} {o : Oper} {a : Act} {K : Act → World → Prop} {Q : Exit → Act → World → Prop} {E : Prop} (hgd : o.guard = none) (s x : Operand)
    (ho : o.op = .call { callee := .builtin .append, args := #[s, x], argTypes := #[35, 35] })
    {y x1 : World} {M n : Nat} {D : DataW Unit} {key : Value} {kl : Lit} {v : Value} {zs : List Int} {j : Int} {ab : Nat}
    (hoi : x1.ownsInts (M + 1) 3 .i64 v zs) (hback : x1.groupBack Tryd.prog 71 88 (M + 1) 3 .i64 M n D key kl v) (hxy : x1.grownBy y none)
    (hz : zs.length ≤ n) (hn : n ≤ 1048576) (hj : (Lit.int .i64 j).wf = true) (hM : M + 1 ≤ x1.heap.size)
    (hs : a.eval s = v) (hx : a.eval x = .slice (some ⟨ab, 0, none⟩) 1 1) (hblk : Blk y ab 3 #[.int .i64 j])
    (h : ∀ v' w4, IxDone x1 M n D key kl v zs j v' w4 → K (a.put o.dst v') w4) :
    if Region.wanted o (yielded ops a.tmps) = true then Oper.wp Tryd.prog o a y K Q else E := by
  obtain ⟨i0, hi0, hz0, hz1, hz2⟩ := info_parts infoIx
  have hoy : y.ownsRow (M + 1) 3 1 v zs.length (zs.map (Value.int .i64)) := hoi.1.kept hxy (by cases v.ownBlock <;> simp)
  refine step_append_lies y hgd s x 35 ho (M + 1) 3 i0 (.int .i64 0) 1 8 Tryd.underlying35 hi0 hz0 hz1 hz2 rfl (by decide) v zs.length _ hs hoy ⟨ab, 0, none⟩ 1 1 [.int .i64 j] hx rfl (World.news_of_block (cs := #[.int .i64 j]) (fr := (0, 0)) hblk) (by simp [Value.oneCell']) (by decide) (by unfold maxLen; omega) (by omega) (Nat.le_trans hM hxy.size) y.heap.size rfl ?_
  intro g cap w4 hown4 hgrow hat hlt
  have hg1 : x1.grownBy w4 v.ownBlock := grownBy_trans (grown_none hxy) hgrow
  have hoi4 : w4.ownsInts (M + 1) 3 .i64 (.slice (some ⟨g, 0, none⟩) (zs.length + 1) cap) (zs ++ [j]) := by
    refine ⟨by simpa using hown4, fun z hzz => ?_⟩
    rcases List.mem_append.1 hzz with hzz | hzz
    · exact hoi.2 z hzz
    · simp at hzz; subst hzz; exact hj
  have hloc : (Value.slice (some ⟨g, 0, none⟩) (zs.length + 1) cap).ownBlock = v.ownBlock ∨ ∃ g', (Value.slice (some ⟨g, 0, none⟩) (zs.length + 1) cap).ownBlock = some g' ∧ x1.heap.size ≤ g' := by
    rcases hat with h | h
    · exact .inl (by rw [h]; rfl)
    · exact .inr ⟨g, rfl, by rw [h]; exact hxy.size⟩
  obtain ⟨w5, hrun, hg5, hgr⟩ := hback w4 _ (zs ++ [j]) hg1 hoi4 (by simp; omega) hloc
  exact h _ w4 ⟨hg1, w5, hrun, hgr, hg5, hoi4, hloc⟩

/-- The loop's relation: j clauses are read. -/
def PgP (w : World) (cs : List Cl) (M j : Nat) (wr : World) : Prop :=
  Below w.heap.size w wr ∧ w.heap.size + 1 < M ∧ M + 2 ≤ wr.heap.size ∧ Blk wr w.heap.size 73 #[.slice none 0 0, .map none] ∧
    (∃ cur, Blk wr (w.heap.size + 1) 91 cur ∧ cur.size = cs.length * 3) ∧
    Blk wr (M + 1) 73 #[.slice (some ⟨w.heap.size + 1, 0, none⟩) cs.length cs.length, .map (some M)] ∧
    ∃ D : DataW Unit, wr.ownsGroups Tryd.prog 88 (M + 1) 3 .i64 M j D ∧ IsMap D ∧ ∀ l, HoldsD D l (idxF (cs.take j) 0 l)
theorem PgP.next {w wr x : World} {cs : List Cl} {M j : Nat} (h : PgP w cs M j wr) (hb : Below wr.heap.size wr x) : PgP w cs M j x := by
  obtain ⟨h1, h2, h3, h4, ⟨cur, h5, h6⟩, h7, D, h8, h9, h10⟩ := h
  exact ⟨h1.trans (hb.mono h1.size), h2, Nat.le_trans h3 hb.size, h4.below hb h4.lt, ⟨cur, h5.below hb h5.lt, h6⟩, h7.below hb h7.lt, D, groups_below h8 hb, h9, h10⟩
theorem PgP.cell {w wr : World} {cs : List Cl} {M j : Nat} (h : PgP w cs M j wr) (hj : j < cs.length) (i : Nat) (hi : i < 3) : (∃ v, wr.cell? ⟨w.heap.size + 1, j * 3 + i, none⟩ = some v) ∧ wr.frozen? ⟨w.heap.size + 1, j * 3 + i, none⟩ = false := by
  obtain ⟨_, _, _, _, ⟨cur, h5, h6⟩, _⟩ := h
  refine ⟨?_, h5.frozen _⟩
  rw [h5.cell]
  exact ⟨_, Array.getElem?_eq_getElem (by omega)⟩
set_option maxHeartbeats 1000000 in
/-- The store of a clause into the row. -/
theorem PgP.store {w wr : World} {cs : List Cl} {M j : Nat} (h : PgP w cs M j wr) (i0 i1 i2 : Nat) (a b c : Value) : PgP w cs M j (((wr.setCell ⟨w.heap.size + 1, i0, none⟩ a).setCell ⟨w.heap.size + 1, i1, none⟩ b).setCell ⟨w.heap.size + 1, i2, none⟩ c) := by
  obtain ⟨h1, h2, h3, h4, ⟨cur, h5, h6⟩, h7, D, h8, h9, h10⟩ := h
  have hg : wr.grownBy (((wr.setCell ⟨w.heap.size + 1, i0, none⟩ a).setCell ⟨w.heap.size + 1, i1, none⟩ b).setCell ⟨w.heap.size + 1, i2, none⟩ c) (some (w.heap.size + 1)) :=
    grownBy_set (grownBy_set (grownBy_set (show wr.grownBy wr (some (w.heap.size + 1)) from ⟨rfl, rfl, rfl, Nat.le_refl _, fun _ _ _ => rfl⟩) (.inr rfl) _) (.inr rfl) _) (.inr rfl) _
  refine ⟨((h1.setCell (by simp) _).setCell (by simp) _).setCell (by simp) _, h2, by simpa [World.setCell] using h3, ((h4.far (by simp) _).far (by simp) _).far (by simp) _, ⟨_, ((h5.set_ i0 a).set_ i1 b).set_ i2 c, by simpa using h6⟩, ((h7.far (by simp; omega) _).far (by simp; omega) _).far (by simp; omega) _, D, h8.kept hg (by simp; omega) (h8.rowsAbove (fun j hj => by cases hj; omega)), h9, h10⟩
/-- The index has clause j. -/
theorem PgP.step {w wr x w4 w5 : World} {cs : List Cl} {M j : Nat} {c : Cl} {rest : List Cl} {D : DataW Unit} {v v' : Value} {zs : List Int} (h : PgP w cs M j wr) (hd : cs.drop j = c :: rest) (hj : j < cs.length) (hx : Below wr.heap.size wr x)
    (hM : IsMap D) (hH : ∀ l, HoldsD D l (idxF (cs.take j) 0 l))
    (hat : D.atKey (pk c.s c.kids.len) .nil = rowDatum .i64 v zs) (hoi : x.ownsInts (M + 1) 3 .i64 v zs) (hg4 : x.grownBy w4 v.ownBlock) (hg5 : w4.grownBy w5 (some M))
    (ho5 : w5.ownsGroups Tryd.prog 88 (M + 1) 3 .i64 M (j + 1) (D.put (pk c.s c.kids.len) (rowDatum .i64 v' (zs ++ [(j : Int)])))) (hoi4 : w4.ownsInts (M + 1) 3 .i64 v' (zs ++ [(j : Int)])) : PgP w cs M (j + 1) w5 := by
  obtain ⟨h1, h2, h3, h4, ⟨cur, h5, h6⟩, h7, _⟩ := h.next hx
  have hz := (hH (pk c.s c.kids.len)).eq hat hoi
  have hlen : (cs.take j).length = j := by simp; omega
  have hvb : ∀ g, v.ownBlock = some g → M + 1 ≤ g ∧ ∃ ys, Blk x g 3 ys := fun g hg => by
    refine ⟨(hoi.1.lt g hg).1, ?_⟩
    rcases hoi.1.2 with ⟨rfl, _⟩ | ⟨g', cap, cur, rfl, _, hh, _⟩
    · simp [Value.ownBlock] at hg
    · simp [Value.ownBlock] at hg
      subst hg
      exact ⟨cur, hh⟩
  have keep : ∀ g t ys, Blk x g t ys → t ≠ 3 → g ≠ M → Blk w5 g t ys := fun g t ys hb ht hgm => by
    have h1 := hb.lt
    refine (hb.keep (hg4.block g h1 fun e => ?_)).keep (hg5.block g (Nat.lt_of_lt_of_le h1 hg4.size) (by simpa using hgm))
    obtain ⟨_, ys', hy⟩ := hvb g e.symm
    have h2 := hb.symm.trans hy
    simp at h2
    exact ht h2.2
  have hb5 : Below w.heap.size w w5 := ⟨hg5.os.trans (hg4.os.trans h1.os), hg5.tape.trans (hg4.tape.trans h1.tape), hg5.output.trans (hg4.output.trans h1.output), Nat.le_trans h1.size (Nat.le_trans hg4.size hg5.size), fun k hk => by
    have := h1.size
    rw [hg5.block k (by have := hg4.size; omega) (by simp; omega), hg4.block k (by omega) (fun e => by have := (hvb k e.symm).1; omega)]
    exact h1.block k hk⟩
  refine ⟨hb5, h2, Nat.le_trans h3 (Nat.le_trans hg4.size hg5.size), keep _ _ _ h4 (by decide) (by omega), ⟨cur, keep _ _ _ h5 (by decide) (by omega), h6⟩, keep _ _ _ h7 (by decide) (by omega), _, ho5, hM.put _ _, ?_⟩
  rw [take_cl cs j hd]
  subst hz
  have hst := HoldsD.step (w := w4) (base := M + 1) (e := 3) (v' := v') (cs := cs.take j) (c := c) hH hM
  rw [hlen] at hst
  exact hst hoi4
end Go.Proofs.YtlapdnllncoomaaDoor
