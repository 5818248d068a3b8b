/- impl.programOf: the clauses' index. Condition: the clauses lie in memory, both tables in their variables. -/
import Derived.Test.YtihmgodiiohdnaaGreatDoorProg
import Derived.Test.YtihmgodiiohdnaaGreatDoorZmPP49
import Derived.Deep.RegionHeld3
import Derived.Deep.AppendLies
import Derived.OwnWalk
import Derived.Test.YtihmgodiiohdnaaGreatDoorMk
import Derived.WalkKit
import Derived.WalkSpells
import Derived.Outline
import Derived.Lib.SlBytesConst
import Derived.Test.YtihmgodiiohdnaaGreatDoorEq
import Derived.Test.YtihmgodiiohdnaaGreatDoorPair
import Derived.Test.YtihmgodiiohdnaaGreatDoorAs
import Derived.Test.YtihmgodiiohdnaaGreatDoorSpecL
import Derived.Shelf.Strconv.AppendIntPublic10
import Derived.Test.YtihmgodiiohdnaaGreatDoorZmPP45
import Derived.Lib.AppendIntMem
import Derived.Lib.AppendStr
import Derived.Lib.OthersKept
import Derived.Test.YtihmgodiiohdnaaGreatDoorAll
import Derived.Test.YtihmgodiiohdnaaGreatDoorOwn
import Derived.Test.YtihmgodiiohdnaaGreatDoorOpA
import Derived.Laws.Rows
import Derived.Below
import Derived.Lib.Hide
import Derived.Maps.Own
import Derived.Maps.OwnOps
import Derived.Maps.OwnSet
import Derived.StringKeys
import Derived.Deep.QuietTactic
import Derived.BigQuiet
import Derived.Test.YtihmgodiiohdnaaGreatDoorZmPP46
namespace Go.Proofs.YtihmgodiiohdnaaGreatDoor
open Go.RowKit Go.WideMaps Go.Maps Go.ChangeShapes

theorem infoCl : (Tryz.prog.info? 56).map (fun i => (i.zero, i.size, i.bytes)) = some (some (.agg #[.string ByteArray.empty, .slice none 0 0, .slice none 0 0]), 3, 64) := by kernel_rfl
theorem infoIx : (Tryz.prog.info? 3).map (fun i => (i.zero, i.size, i.bytes)) = some (some (.int .i64 0), 1, 8) := by kernel_rfl
theorem zeroIx (w : World) : (zeroValue 78).run Tryz.prog w = .ok (.slice none 0 0) w := by kernel_rfl

set_option maxRecDepth 100000 in
/-- plainGoal.pred. -/
theorem pred_any (s : ByteArray) (A : Option Addr) (len cap : Nat) (w : World) :
    Calls Tryz.prog 30 #[.agg #[.string s, .slice A len cap]] w fun e w' => e = .returned (.agg #[.string s, .int .i64 (len : Int)]) ∧ Below w.heap.size w w' := by
  have HB : ∀ o o', Hid (Below w.heap.size w ((w.alloc o).alloc o')) := fun o o' => Lib.hid (two_alloc w o o')
  have hq := Blk.new (w.alloc (.cells #[.string s, .slice A len cap] 53)) 80 #[.string s, .int .i64 (len : Int)]
  rw [show (w.alloc (.cells #[.string s, .slice A len cap] 53)).heap.size = w.heap.size + 1 by simp] at hq
  have HQ := Lib.hid hq
  clear hq
  go_enter Tryz.func30, Tryz.ntmps30
  go_wp2_with fail
  refine bodyPost_ret (v := .agg #[.string s, .int .i64 (len : Int)]) ?_ rfl ⟨rfl, (HB _ _).out⟩
  exact results_cell_row Tryz.results30 _ _ (w.heap.size + 1) _ _ _ _ rfl HQ.out Tryz.underlying80 rfl (by kernel_rfl)

theorem bl_step {W x y : World} (hx : Below W.heap.size W x) (hb : Below x.heap.size x y) : Below W.heap.size W y := hx.trans (hb.mono hx.size)
theorem bl_alloc {W x : World} (h : Below W.heap.size W x) (o : Obj) : Below W.heap.size W (x.alloc o) := h.alloc h.size o
theorem grown_of_below {w x : World} (h : Below w.heap.size w x) : w.grownBy x none := ⟨h.os, h.tape, h.output, h.size, fun k hk _ => h.block k hk⟩
theorem grown_trans {w x y : World} {r : Option Nat} (h1 : w.grownBy x r) (h2 : x.grownBy y r) : w.grownBy y r := grownBy_trans h1 h2
theorem grown_none {w x : World} {r : Option Nat} (h : w.grownBy x none) : w.grownBy x r := ⟨h.os, h.tape, h.output, h.size, fun k hk _ => h.block k hk (by simp)⟩
/-- Groups over a world that wrote nothing old. -/
theorem groups_below {w x : World} {base b n : Nat} {D : DataW Unit} (h : w.ownsGroups Tryz.prog 80 base 3 .i64 b n D) (hb : Below w.heap.size w x) : x.ownsGroups Tryz.prog 80 base 3 .i64 b n D :=
  h.kept (grown_of_below hb) (by simp) fun es clock _ y _ => by cases y.val.ownBlock <;> simp

/-- 'index[k] = append(index[k], i)', from the append on: what the store will leave. -/
def IxDone (x : World) (M n : Nat) (D : DataW Unit) (key : Value) (kl : Lit) (v : Value) (zs : List Int) (j : Int) (v' : Value) (w4 : World) : Prop :=
  x.grownBy w4 v.ownBlock ∧ ∃ w5, (Instr.mapUpdate 43 (.map (some M)) key v').run Tryz.prog w4 = .ok () w5 ∧ w4.grownBy w5 (some M) ∧
    w5.ownsGroups Tryz.prog 80 (M + 1) 3 .i64 M (n + 1) (D.put kl (rowDatum .i64 v' (zs ++ [j]))) ∧ w4.ownsInts (M + 1) 3 .i64 v' (zs ++ [j]) ∧ (v'.ownBlock = v.ownBlock ∨ ∃ g, v'.ownBlock = some g ∧ x.heap.size ≤ g)
set_option maxRecDepth 100000 in
theorem step_idx {ops : Array Oper} {o : Oper} {a : Act} {K : Act → World → Prop} {Q : Exit → Act → World → Prop} {E : Prop} (hgd : o.guard = none) (s x : Operand)
    (ho : o.op = .call { callee := .builtin .append, args := #[s, x], argTypes := #[78, 78] })
    {y x1 : World} {M n : Nat} {D : DataW Unit} {key : Value} {kl : Lit} {v : Value} {zs : List Int} {j : Int} {ab : Nat}
    (hoi : x1.ownsInts (M + 1) 3 .i64 v zs) (hback : x1.groupBack Tryz.prog 43 80 (M + 1) 3 .i64 M n D key kl v) (hxy : x1.grownBy y none)
    (hz : zs.length ≤ n) (hn : n ≤ 1048576) (hj : (Lit.int .i64 j).wf = true) (hM : M + 1 ≤ x1.heap.size)
    (hs : a.eval s = v) (hx : a.eval x = .slice (some ⟨ab, 0, none⟩) 1 1) (hblk : Blk y ab 3 #[.int .i64 j])
    (h : ∀ v' w4, IxDone x1 M n D key kl v zs j v' w4 → K (a.put o.dst v') w4) :
    if Region.wanted o (yielded ops a.tmps) = true then Oper.wp Tryz.prog o a y K Q else E := by
  obtain ⟨i0, hi0, hz0, hz1, hz2⟩ := info_parts infoIx
  have hoy : y.ownsRow (M + 1) 3 1 v zs.length (zs.map (Value.int .i64)) := hoi.1.kept hxy (by cases v.ownBlock <;> simp)
  refine step_append_lies y hgd s x 78 ho (M + 1) 3 i0 (.int .i64 0) 1 8 Tryz.underlying78 hi0 hz0 hz1 hz2 rfl (by decide) v zs.length _ hs hoy ⟨ab, 0, none⟩ 1 1 [.int .i64 j] hx rfl (World.news_of_block (cs := #[.int .i64 j]) (fr := (0, 0)) hblk) (by simp [Value.oneCell']) (by decide) (by unfold maxLen; omega) (by omega) (Nat.le_trans hM hxy.size) y.heap.size rfl ?_
  intro g cap w4 hown4 hgrow hat hlt
  have hg1 : x1.grownBy w4 v.ownBlock := grownBy_trans (grown_none hxy) hgrow
  have hoi4 : w4.ownsInts (M + 1) 3 .i64 (.slice (some ⟨g, 0, none⟩) (zs.length + 1) cap) (zs ++ [j]) := by
    refine ⟨by simpa using hown4, fun z hzz => ?_⟩
    rcases List.mem_append.1 hzz with hzz | hzz
    · exact hoi.2 z hzz
    · simp at hzz; subst hzz; exact hj
  have hloc : (Value.slice (some ⟨g, 0, none⟩) (zs.length + 1) cap).ownBlock = v.ownBlock ∨ ∃ g', (Value.slice (some ⟨g, 0, none⟩) (zs.length + 1) cap).ownBlock = some g' ∧ x1.heap.size ≤ g' := by
    rcases hat with h | h
    · exact .inl (by rw [h]; rfl)
    · exact .inr ⟨g, rfl, by rw [h]; exact hxy.size⟩
  obtain ⟨w5, hrun, hg5, hgr⟩ := hback w4 _ (zs ++ [j]) hg1 hoi4 (by simp; omega) hloc
  exact h _ w4 ⟨hg1, w5, hrun, hgr, hg5, hoi4, hloc⟩

/-- The loop's relation: j clauses are read. -/
def PgP (w : World) (cs : List Cl) (M j : Nat) (wr : World) : Prop :=
  Below w.heap.size w wr ∧ w.heap.size + 1 < M ∧ M + 2 ≤ wr.heap.size ∧ Blk wr w.heap.size 45 #[.slice none 0 0, .map none] ∧
    (∃ cur, Blk wr (w.heap.size + 1) 56 cur ∧ cur.size = cs.length * 3) ∧
    Blk wr (M + 1) 45 #[.slice (some ⟨w.heap.size + 1, 0, none⟩) cs.length cs.length, .map (some M)] ∧
    ∃ D : DataW Unit, wr.ownsGroups Tryz.prog 80 (M + 1) 3 .i64 M j D ∧ IsMap D ∧ ∀ l, HoldsD D l (idxF (cs.take j) 0 l)
theorem PgP.next {w wr x : World} {cs : List Cl} {M j : Nat} (h : PgP w cs M j wr) (hb : Below wr.heap.size wr x) : PgP w cs M j x := by
  obtain ⟨h1, h2, h3, h4, ⟨cur, h5, h6⟩, h7, D, h8, h9, h10⟩ := h
  exact ⟨h1.trans (hb.mono h1.size), h2, Nat.le_trans h3 hb.size, h4.below hb h4.lt, ⟨cur, h5.below hb h5.lt, h6⟩, h7.below hb h7.lt, D, groups_below h8 hb, h9, h10⟩
theorem PgP.cell {w wr : World} {cs : List Cl} {M j : Nat} (h : PgP w cs M j wr) (hj : j < cs.length) (i : Nat) (hi : i < 3) : (∃ v, wr.cell? ⟨w.heap.size + 1, j * 3 + i, none⟩ = some v) ∧ wr.frozen? ⟨w.heap.size + 1, j * 3 + i, none⟩ = false := by
  obtain ⟨_, _, _, _, ⟨cur, h5, h6⟩, _⟩ := h
  refine ⟨?_, h5.frozen _⟩
  rw [h5.cell]
  exact ⟨_, Array.getElem?_eq_getElem (by omega)⟩
set_option maxHeartbeats 1000000 in
/-- The store of a clause into the row. -/
theorem PgP.store {w wr : World} {cs : List Cl} {M j : Nat} (h : PgP w cs M j wr) (i0 i1 i2 : Nat) (a b c : Value) : PgP w cs M j (((wr.setCell ⟨w.heap.size + 1, i0, none⟩ a).setCell ⟨w.heap.size + 1, i1, none⟩ b).setCell ⟨w.heap.size + 1, i2, none⟩ c) := by
  obtain ⟨h1, h2, h3, h4, ⟨cur, h5, h6⟩, h7, D, h8, h9, h10⟩ := h
  have hg : wr.grownBy (((wr.setCell ⟨w.heap.size + 1, i0, none⟩ a).setCell ⟨w.heap.size + 1, i1, none⟩ b).setCell ⟨w.heap.size + 1, i2, none⟩ c) (some (w.heap.size + 1)) :=
    grownBy_set (grownBy_set (grownBy_set (show wr.grownBy wr (some (w.heap.size + 1)) from ⟨rfl, rfl, rfl, Nat.le_refl _, fun _ _ _ => rfl⟩) (.inr rfl) _) (.inr rfl) _) (.inr rfl) _
  refine ⟨((h1.setCell (by simp) _).setCell (by simp) _).setCell (by simp) _, h2, by simpa [World.setCell] using h3, ((h4.far (by simp) _).far (by simp) _).far (by simp) _, ⟨_, ((h5.set_ i0 a).set_ i1 b).set_ i2 c, by simpa using h6⟩, ((h7.far (by simp; omega) _).far (by simp; omega) _).far (by simp; omega) _, D, h8.kept hg (by simp; omega) (h8.rowsAbove (fun j hj => by cases hj; omega)), h9, h10⟩
/-- The index has clause j. -/
theorem PgP.step {w wr x w4 w5 : World} {cs : List Cl} {M j : Nat} {c : Cl} {rest : List Cl} {D : DataW Unit} {v v' : Value} {zs : List Int} (h : PgP w cs M j wr) (hd : cs.drop j = c :: rest) (hj : j < cs.length) (hx : Below wr.heap.size wr x)
    (hM : IsMap D) (hH : ∀ l, HoldsD D l (idxF (cs.take j) 0 l))
    (hat : D.atKey (pk c.s c.kids.len) .nil = rowDatum .i64 v zs) (hoi : x.ownsInts (M + 1) 3 .i64 v zs) (hg4 : x.grownBy w4 v.ownBlock) (hg5 : w4.grownBy w5 (some M))
    (ho5 : w5.ownsGroups Tryz.prog 80 (M + 1) 3 .i64 M (j + 1) (D.put (pk c.s c.kids.len) (rowDatum .i64 v' (zs ++ [(j : Int)])))) (hoi4 : w4.ownsInts (M + 1) 3 .i64 v' (zs ++ [(j : Int)])) : PgP w cs M (j + 1) w5 := by
  obtain ⟨h1, h2, h3, h4, ⟨cur, h5, h6⟩, h7, _⟩ := h.next hx
  have hz := (hH (pk c.s c.kids.len)).eq hat hoi
  have hlen : (cs.take j).length = j := by simp; omega
  have hvb : ∀ g, v.ownBlock = some g → M + 1 ≤ g ∧ ∃ ys, Blk x g 3 ys := fun g hg => by
    refine ⟨(hoi.1.lt g hg).1, ?_⟩
    rcases hoi.1.2 with ⟨rfl, _⟩ | ⟨g', cap, cur, rfl, _, hh, _⟩
    · simp [Value.ownBlock] at hg
    · simp [Value.ownBlock] at hg
      subst hg
      exact ⟨cur, hh⟩
  have keep : ∀ g t ys, Blk x g t ys → t ≠ 3 → g ≠ M → Blk w5 g t ys := fun g t ys hb ht hgm => by
    have h1 := hb.lt
    refine (hb.keep (hg4.block g h1 fun e => ?_)).keep (hg5.block g (Nat.lt_of_lt_of_le h1 hg4.size) (by simpa using hgm))
    obtain ⟨_, ys', hy⟩ := hvb g e.symm
    have h2 := hb.symm.trans hy
    simp at h2
    exact ht h2.2
  have hb5 : Below w.heap.size w w5 := ⟨hg5.os.trans (hg4.os.trans h1.os), hg5.tape.trans (hg4.tape.trans h1.tape), hg5.output.trans (hg4.output.trans h1.output), Nat.le_trans h1.size (Nat.le_trans hg4.size hg5.size), fun k hk => by
    have := h1.size
    rw [hg5.block k (by have := hg4.size; omega) (by simp; omega), hg4.block k (by omega) (fun e => by have := (hvb k e.symm).1; omega)]
    exact h1.block k hk⟩
  refine ⟨hb5, h2, Nat.le_trans h3 (Nat.le_trans hg4.size hg5.size), keep _ _ _ h4 (by decide) (by omega), ⟨cur, keep _ _ _ h5 (by decide) (by omega), h6⟩, keep _ _ _ h7 (by decide) (by omega), _, ho5, hM.put _ _, ?_⟩
  rw [take_cl cs j hd]
  subst hz
  have hst := HoldsD.step (w := w4) (base := M + 1) (e := 3) (v' := v') (cs := cs.take j) (c := c) hH hM
  rw [hlen] at hst
  exact hst hoi4
end Go.Proofs.YtihmgodiiohdnaaGreatDoor

/- impl.programOf: what the row of its clauses holds, beside the index. Condition: none of its own. -/
namespace Go.Proofs.YtihmgodiiohdnaaGreatDoor
open Go.RowKit Go.WideMaps Go.Maps Go.ChangeShapes

/-- Clause i of the row in block R; what it leads to lies in blocks of which No holds. -/
def CtAt (w : World) (No : Nat → Prop) (R i : Nat) (c : Cl) : Prop :=
  ∃ (A : Option Addr) (cap : Nat) (G : Option Addr) (gcap lo hi : Nat), w.cell? ⟨R, i * 3, none⟩ = some (.string c.s) ∧ w.cell? ⟨R, i * 3 + 1, none⟩ = some (.slice A c.kids.len cap) ∧ w.cell? ⟨R, i * 3 + 2, none⟩ = some (.slice G c.body.len gcap) ∧
    (∀ b, lo ≤ b → b < hi → No b) ∧ NdS w lo hi c.kids A cap ∧ GlS w lo hi c.body G gcap
def Cts (w : World) (No : Nat → Prop) (R : Nat) : List Cl → Nat → Prop
  | [], _ => True
  | c :: cs, i => CtAt w No R i c ∧ Cts w No R cs (i + 1)
theorem CtAt.keep {w w' : World} {No No' : Nat → Prop} {R i : Nat} {c : Cl} (h : CtAt w No R i c) (hk : ∀ p : Addr, No p.block → w'.cell? p = w.cell? p) (hN : ∀ b, No b → No' b)
    (hR : ∀ j, i * 3 ≤ j → j < i * 3 + 3 → w'.cell? ⟨R, j, none⟩ = w.cell? ⟨R, j, none⟩) : CtAt w' No' R i c := by
  obtain ⟨A, cap, G, gcap, lo, hi, h0, h1, h2, h3, h4, h5⟩ := h
  exact ⟨A, cap, G, gcap, lo, hi, (hR _ (by omega) (by omega)).trans h0, (hR _ (by omega) (by omega)).trans h1, (hR _ (by omega) (by omega)).trans h2, fun b h h' => hN b (h3 b h h'),
    h4.keep (fun p hl hh => hk p (h3 _ hl hh)) (Nat.le_refl _) (Nat.le_refl _), h5.keep (fun p hl hh => hk p (h3 _ hl hh)) (Nat.le_refl _) (Nat.le_refl _)⟩
theorem Cts.keep {w w' : World} {No No' : Nat → Prop} {R : Nat} (hk : ∀ p : Addr, No p.block → w'.cell? p = w.cell? p) (hN : ∀ b, No b → No' b) : ∀ (cs : List Cl) (i : Nat), (∀ j, j < (i + cs.length) * 3 → w'.cell? ⟨R, j, none⟩ = w.cell? ⟨R, j, none⟩) → Cts w No R cs i → Cts w' No' R cs i
  | [], _, _, _ => trivial
  | c :: cs, i, hR, h => ⟨h.1.keep hk hN fun j _ hj => hR j (by simp only [List.length_cons]; omega), Cts.keep hk hN cs (i + 1) (fun j hj => hR j (by simp only [List.length_cons]; omega)) h.2⟩
theorem Cts.snoc {w : World} {No : Nat → Prop} {R n : Nat} {c : Cl} (hc : CtAt w No R n c) : ∀ (cs : List Cl) (i : Nat), i + cs.length = n → Cts w No R cs i → Cts w No R (cs ++ [c]) i
  | [], i, h, _ => by
    obtain rfl : i = n := by simpa using h
    exact ⟨hc, trivial⟩
  | c' :: cs, i, h, hcs => ⟨hcs.1, Cts.snoc hc cs (i + 1) (by simp only [List.length_cons] at h; omega) hcs.2⟩
theorem Cts.get {w : World} {No : Nat → Prop} {R : Nat} {c : Cl} {rest : List Cl} : ∀ (cs : List Cl) (i j : Nat), cs.drop j = c :: rest → Cts w No R cs i → CtAt w No R (i + j) c
  | [], _, _, h, _ => by simp at h
  | c' :: cs, i, 0, h, hcs => by
    simp at h
    obtain ⟨rfl, _⟩ := h
    exact hcs.1
  | c' :: cs, i, j + 1, h, hcs => by
    have := Cts.get cs (i + 1) j (by simpa using h) hcs.2
    rwa [show i + 1 + j = i + (j + 1) by omega] at this

section
variable {P : Program} {k e : TypeId} {base b n : Nat} {q : IntKind} {D : DataW Unit} {w w4 w5 : World} {key v v' : Value} {kl : Lit}
/-- What the look-up hands over avoids what the groups avoid. -/
theorem at_shuns {t E : TypeId} (h : w.ownsGroups P k base e q b n D) (K : Keyed P k) (ht : P.underlying t = some (.map k E)) (hz : (zeroValue E).run P w = .ok (.slice none 0 0) w) (hkey : keyOf P k key = some kl)
    (hrun : (Instr.lookup t (.map (some b)) key false).run P w = .ok v w) {No : Nat → Prop} (hs : w.Shuns b No) : ∀ g, v.ownBlock = some g → ¬ No g := by
  obtain ⟨es, clock, hb, F, _⟩ := h
  intro g hg
  rcases Maps.fit_look false K ht hz hb F hkey with ⟨r, _⟩ | ⟨x, y, hx, _, r, _⟩
  · have e1 : v = .slice none 0 0 := by
      have := hrun.symm.trans r
      simpa using this
    subst e1
    cases hg
  · have e1 : v = x.val := by
      have := hrun.symm.trans r
      simpa using this
    subst e1
    exact hs es clock hb x hx g hg
/-- Behind the store they avoid it still. -/
theorem back_shuns {t E : TypeId} {zs : List Int} (h : w.ownsGroups P k base e q b n D) (K : Keyed P k) (ht : P.underlying t = some (.map k E)) (hn : n < maxLen) (hkey : keyOf P k key = some kl) (hu : w.ownsInts base e q v zs)
    (hg : w.grownBy w4 v.ownBlock) (hrun : (Instr.mapUpdate t (.map (some b)) key v').run P w4 = .ok () w5) {No : Nat → Prop} (hs : w.Shuns b No) (hno : ∀ g, v'.ownBlock = some g → ¬ No g) : w5.Shuns b No := by
  obtain ⟨es, clock, hb, F, hsz, _, hbb, _⟩ := h
  have hlt : b < w.heap.size := (Array.getElem?_eq_some_iff.1 hb).1
  have hne : some b ≠ v.ownBlock := fun e1 => Nat.lt_irrefl _ (Nat.lt_of_lt_of_le hbb (hu.1.lt b e1.symm).1)
  obtain ⟨es2, clock2, hb2, who⟩ := stored_who K ht ((hg.block b hlt hne).trans hb) F (Nat.lt_of_le_of_lt hsz hn) hkey hrun
  intro es3 clock3 hb3 y hy g hyg
  have e3 : es3 = es2 := by
    have := hb3.symm.trans hb2
    simp at this
    exact this.1
  subst e3
  rcases who y hy with h1 | h1
  · exact hs es clock hb y h1.1 g hyg
  · exact hno g (h1.2 ▸ hyg)
end

/-- j clauses stand in the row. -/
def PgC (w : World) (cs : List Cl) (M j : Nat) (wr : World) : Prop :=
  ∃ No : Nat → Prop, wr.Shuns M No ∧ (∀ g, No g → M + 1 < g ∧ g < wr.heap.size) ∧ Cts wr No (w.heap.size + 1) (cs.take j) 0
def PgX (w : World) (cs : List Cl) (M j i : Nat) (wr : World) : Prop := PgP w cs M j wr ∧ PgC w cs M i wr
theorem PgX.next {w wr x : World} {cs : List Cl} {M j i : Nat} (h : PgX w cs M j i wr) (hb : Below wr.heap.size wr x) : PgX w cs M j i x := by
  obtain ⟨hp, No, h1, h2, h3⟩ := h
  have hM := hp.2.2.1
  have hR := hp.2.1
  exact ⟨hp.next hb, No, h1.kept (grown_of_below hb) (by omega) (by simp), fun g hg => ⟨(h2 g hg).1, Nat.lt_of_lt_of_le (h2 g hg).2 hb.size⟩,
    Cts.keep (fun p hp => hb.cell (h2 _ hp).2) (fun _ h => h) _ 0 (fun j _ => hb.cell (p := ⟨w.heap.size + 1, j, none⟩) (show w.heap.size + 1 < wr.heap.size by omega)) h3⟩
theorem grown3 (w2 : World) (R i0 i1 i2 : Nat) (a b c : Value) : w2.grownBy (((w2.setCell ⟨R, i0, none⟩ a).setCell ⟨R, i1, none⟩ b).setCell ⟨R, i2, none⟩ c) (some R) :=
  grownBy_set (grownBy_set (grownBy_set (show w2.grownBy w2 (some R) from ⟨rfl, rfl, rfl, Nat.le_refl _, fun _ _ _ => rfl⟩) (.inr rfl) _) (.inr rfl) _) (.inr rfl) _
set_option maxHeartbeats 1000000 in
/-- The store of clause j into the row. -/
theorem PgX.store {w wr w2 : World} {cs : List Cl} {M j : Nat} {c : Cl} {rest : List Cl} {A G : Option Addr} {cap gcap lo : Nat} (h : PgX w cs M j j wr) (hd : cs.drop j = c :: rest) (hj : j < cs.length) (hb : Below wr.heap.size wr w2) (hlo : wr.heap.size ≤ lo)
    (hn : NdS w2 lo w2.heap.size c.kids A cap) (hg : GlS w2 lo w2.heap.size c.body G gcap) :
    PgX w cs M j (j + 1) (((w2.setCell ⟨w.heap.size + 1, j * 3, none⟩ (.string c.s)).setCell ⟨w.heap.size + 1, j * 3 + 1, none⟩ (.slice A c.kids.len cap)).setCell ⟨w.heap.size + 1, j * 3 + 2, none⟩ (.slice G c.body.len gcap)) := by
  obtain ⟨hp, No, h1, h2, h3⟩ := h
  have hp2 := hp.next hb
  have hM := hp.2.2.1
  have hR := hp.2.1
  refine ⟨hp2.store _ _ _ _ _ _, ?_⟩
  obtain ⟨_, _, _, _, ⟨cur, h5, h6⟩, _⟩ := hp2
  obtain ⟨_, _, _, _, _, _, D, hD, _⟩ := hp
  have hgr := grown3 w2 (w.heap.size + 1) (j * 3) (j * 3 + 1) (j * 3 + 2) (.string c.s) (.slice A c.kids.len cap) (.slice G c.body.len gcap)
  have q := ((h5.set_ (j * 3) (.string c.s)).set_ (j * 3 + 1) (.slice A c.kids.len cap)).set_ (j * 3 + 2) (.slice G c.body.len gcap)
  have hsz := hb.size
  have hs3 := hgr.size
  have far : ∀ p : Addr, p.block ≠ w.heap.size + 1 → p.block < w2.heap.size → (((w2.setCell ⟨w.heap.size + 1, j * 3, none⟩ (.string c.s)).setCell ⟨w.heap.size + 1, j * 3 + 1, none⟩ (.slice A c.kids.len cap)).setCell ⟨w.heap.size + 1, j * 3 + 2, none⟩ (.slice G c.body.len gcap)).cell? p = w2.cell? p := fun p hne hlt =>
    World.cell?_of_block (hgr.block p.block hlt (by simpa using hne))
  have hlen : (cs.take j).length = j := by simp; omega
  generalize (((w2.setCell ⟨w.heap.size + 1, j * 3, none⟩ (.string c.s)).setCell ⟨w.heap.size + 1, j * 3 + 1, none⟩ (.slice A c.kids.len cap)).setCell ⟨w.heap.size + 1, j * 3 + 2, none⟩ (.slice G c.body.len gcap)) = w3 at *
  refine ⟨fun g => No g ∨ (wr.heap.size ≤ g ∧ g < w2.heap.size), ?_, ?_, ?_⟩
  · exact ((h1.reno hD fun g hg => hg.imp_right (·.1)).kept (grown_of_below hb) (by omega) (by simp)).kept hgr (by omega) (by simp; omega)
  · rintro g (hg | hg)
    · have := h2 g hg
      exact ⟨this.1, by omega⟩
    · exact ⟨by omega, by omega⟩
  · rw [take_cl cs j hd]
    refine Cts.snoc (n := j) ?_ _ _ (by rw [hlen]; omega) (Cts.keep (w := wr) (No := No) (fun p hp => ?_) (fun _ h => .inl h) _ 0 (fun i hi => ?_) h3)
    · refine ⟨A, cap, G, gcap, lo, w2.heap.size, ?_, ?_, ?_, fun b h h' => .inr ⟨by omega, h'⟩, hn.keep (fun p hl hh => far p (by omega) hh) (Nat.le_refl _) (Nat.le_refl _), hg.keep (fun p hl hh => far p (by omega) hh) (Nat.le_refl _) (Nat.le_refl _)⟩
      · rw [q.cell]
        simp [Array.getElem?_setIfInBounds]
        omega
      · rw [q.cell]
        simp [Array.getElem?_setIfInBounds]
        omega
      · rw [q.cell]
        simp [Array.getElem?_setIfInBounds]
        omega
    · have := h2 _ hp
      rw [far p (by omega) (by omega), hb.cell this.2]
    · rw [hlen] at hi
      rw [q.cell]
      simp only [Array.getElem?_setIfInBounds]
      rw [if_neg (by omega), if_neg (by omega), if_neg (by omega), ← h5.cell]
      exact hb.cell (p := ⟨w.heap.size + 1, i, none⟩) (show w.heap.size + 1 < wr.heap.size by omega)
/-- The index has clause j, too. -/
theorem PgC.back {w x w4 w5 : World} {cs : List Cl} {M i : Nat} {v v' : Value} (h : PgC w cs M i x) (hR : w.heap.size + 1 < M) (hM : M < x.heap.size) (hv : ∀ g, v.ownBlock = some g → M + 1 ≤ g) (hsv : ∀ No : Nat → Prop, x.Shuns M No → ∀ g, v.ownBlock = some g → ¬ No g)
    (hg4 : x.grownBy w4 v.ownBlock) (hg5 : w4.grownBy w5 (some M)) (hloc : v'.ownBlock = v.ownBlock ∨ ∃ g, v'.ownBlock = some g ∧ x.heap.size ≤ g)
    (hs5 : ∀ No : Nat → Prop, x.Shuns M No → (∀ g, v'.ownBlock = some g → ¬ No g) → w5.Shuns M No) : PgC w cs M i w5 := by
  obtain ⟨No, h1, h2, h3⟩ := h
  have hsz : x.heap.size ≤ w5.heap.size := Nat.le_trans hg4.size hg5.size
  have blk : ∀ b, b < x.heap.size → v.ownBlock ≠ some b → b ≠ M → w5.heap[b]? = x.heap[b]? := fun b hb hn hm =>
    (hg5.block b (Nat.lt_of_lt_of_le hb hg4.size) (by simpa using hm)).trans (hg4.block b hb fun e => hn e.symm)
  refine ⟨No, hs5 No h1 fun g hg hN => ?_, fun g hg => ⟨(h2 g hg).1, by have := (h2 g hg).2; omega⟩, Cts.keep (fun p hp => ?_) (fun _ h => h) _ 0 (fun j _ => ?_) h3⟩
  · rcases hloc with e | ⟨g', e, hg'⟩
    · exact hsv No h1 g (e ▸ hg) hN
    · rw [e] at hg
      cases hg
      have := (h2 g hN).2
      omega
  · have := h2 _ hp
    exact World.cell?_of_block (blk p.block this.2 (fun e => hsv No h1 _ e hp) (by omega))
  · refine World.cell?_of_block (a := ⟨w.heap.size + 1, j, none⟩) (blk (w.heap.size + 1) (by omega) (fun e => ?_) (by omega))
    have := hv _ e
    omega
theorem PgX.step {w wr x w4 : World} {cs : List Cl} {M j : Nat} {c : Cl} {rest : List Cl} {D : DataW Unit} {v v' : Value} {zs : List Int} (h : PgX w cs M j (j + 1) wr) (hd : cs.drop j = c :: rest) (hj : j < cs.length) (hx : Below wr.heap.size wr x)
    (hD : wr.ownsGroups Tryz.prog 80 (M + 1) 3 .i64 M j D) (hjl : j < maxLen) (hM : IsMap D) (hH : ∀ l, HoldsD D l (idxF (cs.take j) 0 l)) (hkey : keyOf Tryz.prog 80 (.agg #[.string c.s, .int .i64 (c.kids.len : Int)]) = some (pk c.s c.kids.len))
    (hrun : (Instr.lookup 43 (.map (some M)) (.agg #[.string c.s, .int .i64 (c.kids.len : Int)]) false).run Tryz.prog x = .ok v x)
    (hat : D.atKey (pk c.s c.kids.len) .nil = rowDatum .i64 v zs) (hoi : x.ownsInts (M + 1) 3 .i64 v zs) (hd1 : IxDone x M j D (.agg #[.string c.s, .int .i64 (c.kids.len : Int)]) (pk c.s c.kids.len) v zs j v' w4) :
    ∃ w5, (Instr.mapUpdate 43 (.map (some M)) (.agg #[.string c.s, .int .i64 (c.kids.len : Int)]) v').run Tryz.prog w4 = .ok () w5 ∧ w4.grownBy w5 (some M) ∧ PgX w cs M (j + 1) (j + 1) w5 := by
  obtain ⟨hg4, w5, hrun5, hg5, ho5, hoi4, hloc⟩ := hd1
  have hn := h.next hx
  refine ⟨w5, hrun5, hg5, h.1.step hd hj hx hM hH hat hoi hg4 hg5 ho5 hoi4, hn.2.back hn.1.2.1 (by have := hn.1.2.2.1; omega) (fun g hg => (hoi.1.lt g hg).1) (fun No hs => at_shuns (groups_below hD hx) lawK Tryz.underlying43 (zeroIx _) hkey hrun hs) hg4 hg5 hloc fun No hs hno => back_shuns (groups_below hD hx) lawK Tryz.underlying43 hjl hkey hoi hg4 hrun5 hs hno⟩
/-- What stands in the row in the end. -/
theorem PgC.done {w wr : World} {cs : List Cl} {M : Nat} (h : PgC w cs M cs.length wr) (hR : w.heap.size + 1 < M) : Cts wr (fun g => w.heap.size + 1 < g ∧ g < wr.heap.size) (w.heap.size + 1) cs 0 := by
  obtain ⟨No, _, h2, h3⟩ := h
  rw [List.take_length] at h3
  exact Cts.keep (fun _ _ => rfl) (fun b hb => by have := h2 b hb; exact ⟨by omega, this.2⟩) cs 0 (fun _ _ => rfl) h3
end Go.Proofs.YtihmgodiiohdnaaGreatDoor

/- impl.programOf walked; impl.ProgramValid. Condition: the clauses lie in memory, both tables in their variables. -/
namespace Go.Proofs.YtihmgodiiohdnaaGreatDoor
open Go.RowKit Go.WideMaps Go.Maps Go.ChangeShapes

/-- What impl.programOf leaves. -/
def POr (w : World) (cs : List Cl) (e : Ending) (w' : World) : Prop :=
  Below w.heap.size w w' ∧ ((progV cs = false ∧ e = .returned (.tuple #[.agg #[.slice none 0 0, .map none], .bool false])) ∨
    (progV cs = true ∧ ∃ R M, e = .returned (.tuple #[.agg #[.slice R cs.length cs.length, .map (some M)], .bool true]) ∧ w.heap.size ≤ M ∧ M < w'.heap.size ∧
      ∃ D : DataW Unit, w'.ownsGroups Tryz.prog 80 (M + 1) 3 .i64 M cs.length D ∧ (∀ l, HoldsD D l (idxF cs 0 l)) ∧ ∃ r, R = some ⟨r, 0, none⟩ ∧ w.heap.size ≤ r ∧ r < w'.heap.size ∧ Cts w' (fun g => w.heap.size ≤ g ∧ g < w'.heap.size) r cs 0))
theorem PgP.start {w w1 : World} {cs : List Cl} {base : Nat} {xs : List Value} (h1 : (w.alloc (.cells #[.slice none 0 0, .map none] 45)).grownBy w1 none)
    (hown : w1.ownsRow base 56 3 (.slice (some ⟨w.heap.size + 1, 0, none⟩) cs.length cs.length) cs.length xs) :
    PgP w cs w1.heap.size 0 ((w1.alloc (.map #[] 0)).alloc (.cells #[.slice (some ⟨w.heap.size + 1, 0, none⟩) cs.length cs.length, .map (some w1.heap.size)] 45)) := by
  have e0 : (w.alloc (.cells #[.slice none 0 0, .map none] 45)).heap.size = w.heap.size + 1 := by simp
  have e1 : (w1.alloc (.map #[] 0)).heap.size = w1.heap.size + 1 := by simp
  have hb0 : Below w.heap.size w w1 := ((Below.refl _ _).alloc (Nat.le_refl _) _).grown h1 (by rw [e0]; omega) (fun k hk => by cases hk)
  have hblk : ∃ cur, Blk w1 (w.heap.size + 1) 56 cur ∧ cur.size = cs.length * 3 := by
    rcases hown.2 with ⟨h', _⟩ | ⟨g', cap', cur, h', _, hb, _, _, hs, _⟩
    · simp at h'
    · simp only [Value.slice.injEq, Option.some.injEq, Addr.mk.injEq, and_true, true_and] at h'
      obtain ⟨h', h''⟩ := h'
      subst h'
      exact ⟨cur, hb, by rw [hs, ← h'']⟩
  obtain ⟨cur, hc, hcs⟩ := hblk
  have hq : Blk w1 w.heap.size 45 #[.slice none 0 0, .map none] := (Blk.new w _ _).keep (h1.block w.heap.size (by rw [e0]; omega) (by simp))
  have hlt := hc.lt
  have hb2 : Below w1.heap.size w1 ((w1.alloc (.map #[] 0)).alloc (.cells #[.slice (some ⟨w.heap.size + 1, 0, none⟩) cs.length cs.length, .map (some w1.heap.size)] 45)) := two_alloc _ _ _
  have hnew := Blk.new (w1.alloc (.map #[] 0)) 45 #[.slice (some ⟨w.heap.size + 1, 0, none⟩) cs.length cs.length, .map (some w1.heap.size)]
  rw [e1] at hnew
  refine ⟨hb0.trans (hb2.mono hb0.size), by omega, by simp, hq.below hb2 hq.lt, ⟨cur, hc.below hb2 hc.lt, hcs⟩, hnew, .map [], ?_, isMap_empty, fun l => .inl ⟨rfl, rfl⟩⟩
  exact groups_below (World.ownsGroups_made (H := Unit) w1 Tryz.prog 80 3 .i64) ((Below.refl _ _).alloc (Nat.le_refl _) _)

theorem PgX.start {w w1 : World} {cs : List Cl} {base : Nat} {xs : List Value} (h1 : (w.alloc (.cells #[.slice none 0 0, .map none] 45)).grownBy w1 none)
    (hown : w1.ownsRow base 56 3 (.slice (some ⟨w.heap.size + 1, 0, none⟩) cs.length cs.length) cs.length xs) :
    PgX w cs w1.heap.size 0 0 ((w1.alloc (.map #[] 0)).alloc (.cells #[.slice (some ⟨w.heap.size + 1, 0, none⟩) cs.length cs.length, .map (some w1.heap.size)] 45)) :=
  ⟨PgP.start h1 hown, fun _ => False, (World.Shuns_made w1 _).kept (World.grownBy_alloc _ _ none) (by simp) (by simp), fun _ h => h.elim, by rw [List.take_zero]; trivial⟩

/-- Blocks of other types stand through the append and the store. -/
theorem ix_keep {x w4 w5 : World} {M : Nat} {v : Value} {zs : List Int} (hoi : x.ownsInts (M + 1) 3 .i64 v zs) (hg4 : x.grownBy w4 v.ownBlock) (hg5 : w4.grownBy w5 (some M)) {g : Nat} {t : TypeId} {ys : Array Value} (hb : Blk x g t ys) (ht : t ≠ 3) (hgm : g ≠ M) :
    Blk w4 g t ys ∧ Blk w5 g t ys := by
  have h1 := hb.lt
  have h4 : Blk w4 g t ys := hb.keep (hg4.block g h1 fun e => by
    rcases hoi.1.2 with ⟨rfl, _⟩ | ⟨g', cap, cur, rfl, _, hh, _⟩
    · simp [Value.ownBlock] at e
    · simp [Value.ownBlock] at e
      subst e
      have h2 := hb.symm.trans hh
      simp at h2
      exact ht h2.2)
  exact ⟨h4, h4.keep (hg5.block g h4.lt (by simpa using hgm))⟩
/-- The cells that the region reads. -/
def IxS (M cb : Nat) (s : ByteArray) (A : Option Addr) (len cap : Nat) (x : World) : Prop :=
  x.cell? ⟨M + 1, 1, none⟩ = some (.map (some M)) ∧ x.cell? ⟨cb, 0, none⟩ = some (.string s) ∧ x.cell? ⟨cb, 1, none⟩ = some (.slice A len cap)

set_option maxRecDepth 100000 in
set_option maxHeartbeats 4000000 in
/-- impl.programOf. -/
theorem progOfn_any (cs : List Cl) (A : Option Addr) (cap lo hi : Nat) (w : World) (hk : ClS w lo hi cs A cap) (hh : hi ≤ w.heap.size) (hnd : cs.length + ndQs cs ≤ 1048576) (ht : nv.Tab w) (ho : op.OpTab w) :
    Calls Tryz.prog 16 #[.slice A cs.length cap] w fun e w' => POr w cs e w' := by
  have hmm := @run_makeMap Tryz.prog
  have hl : cs.length ≤ 1048576 := by omega
  have HE : Hid (progV cs = (decide (cs.length ≤ 20) && allC cs)) := Lib.hid rfl
  have HK := Lib.hid hk
  have HHI := Lib.hid hh
  have HND := Lib.hid hnd
  have HT := Lib.hid ht
  have HO := Lib.hid ho
  have hst := fun w1 base xs h1 => PgX.start (w := w) (w1 := w1) (cs := cs) (base := base) (xs := xs) h1
  have HST := Lib.hid hst
  clear hk hh hnd ht ho hst
  generalize hn : cs.length = len at *
  have HN := Lib.hid hn
  clear hn
  have hb0 : Below w.heap.size w (w.alloc (.cells #[.slice none 0 0, .map none] 45)) := (Below.refl _ _).alloc (Nat.le_refl _) _
  have hq0 := Blk.new w 45 #[.slice none 0 0, .map none]
  have HB0 := Lib.hid hb0
  have HQ0 := Lib.hid hq0
  clear hb0 hq0
  by_cases h6 : len ≤ 20
  · have t6 : ¬ ((len : Int) > 20) := by omega
    obtain ⟨i0, hi0, hz0, hz1, hz2⟩ := info_parts infoCl
    go_enter Tryz.func16, Tryz.ntmps16
    go_wp2_with (at_make; go_must (refine wpList_make_full _ rfl _ _ 42 rfl (w.heap.size + 1) 56 i0 _ 3 Tryz.underlying42 hi0 hz0 hz1 .i64 .i64 _ _ len rfl rfl rfl rfl (by rw [hz2]; omega) (by unfold maxLen; omega) (by simp) ?_); intro w1 hown hgrow)
    rw [show (w.alloc (.cells #[.slice none 0 0, .map none] 45)).heap.size = w.heap.size + 1 by simp] at hown
    have hp0 := HST.out w1 _ _ hgrow hown
    have hM0 : w.heap.size + 1 < w1.heap.size := hp0.1.2.1
    have HP0 := Lib.hid hp0
    clear hp0 hown hgrow HST hi0 hz0 hz1 hz2 HB0 HQ0
    generalize w1.heap.size = M at *
    go_loopw [20] (fun i wr => ∃ (j : Nat), j ≤ len ∧ i = .int .i64 j ∧ allC (cs.drop j) = allC cs ∧ PgX w cs M j j wr) (fun i _ => len - (intOf i).toNat)
    case atStart => exact ⟨0, Nat.zero_le _, rfl, rfl, HP0.out⟩
    case round =>
      obtain ⟨j, hj, rfl, hv, hpart⟩ := hrel
      have HPT := Lib.hid hpart
      by_cases hlt : j < len
      · have hltf : j < cs.length := by rw [HN.out]; exact hlt
        obtain ⟨c, hd⟩ := drop_cl cs j hltf
        obtain ⟨b, o, rfl, hlb, hbb, hrow⟩ := HK.out.2.2 (by rw [HN.out]; omega)
        obtain ⟨hfit, A', cap', B', capB', c0, c1, c2, c3, c4, hkid, hbd⟩ := ClAt.elem j cs b o hrow hd
        rw [hd] at hv
        have hv2 : (clauseV c && allC (cs.drop (j + 1))) = allC cs := hv
        have hb := hpart.1.1
        have hlo : (⟨b, o, none⟩ : Addr).block < w.heap.size := Nat.lt_of_lt_of_le hbb HHI.out
        have k0 := (hb.cell (p := ⟨b, o + j * 5, none⟩) hlo).trans c0
        have k1 := (hb.cell (p := ⟨b, o + j * 5 + 1, none⟩) hlo).trans c1
        have k2 := (hb.cell (p := ⟨b, o + j * 5 + 2, none⟩) hlo).trans c2
        have k3 := (hb.cell (p := ⟨b, o + j * 5 + 3, none⟩) hlo).trans c3
        have k4 := (hb.cell (p := ⟨b, o + j * 5 + 4, none⟩) hlo).trans c4
        have hwe := ndQs_le cs j hd
        have hwn := hwe
        have hkl : c.kids.len ≤ maxLen := Nat.le_trans hkid.1 hkid.2.1
        have hb1 : Below wr.heap.size wr (wr.alloc (.cells #[.int .i64 c.k, .int .i64 c.n, .string c.s, .slice A' c.kids.len cap', .slice B' c.body.len capB'] 32)) := (Below.refl _ _).alloc (Nat.le_refl _) _
        have hbw1 := hb.trans (hb1.mono hb.size)
        have C1 := clauseOf_any c A' B' cap' capB' lo hi _ (hkid.below hbw1 HHI.out) (hbd.below hbw1 HHI.out) (Nat.le_trans HHI.out hbw1.size) hfit (by have := HND.out; omega) (by have := HND.out; omega) (HT.out.below hbw1) (HO.out.below hbw1)
        have nextOf := fun x (h : Below wr.heap.size wr x) => HPT.out.next h
        have hkey := pk_key c.s c.kids.len hfit.2.2 hkl
        have H1 := Lib.hid C1
        have HB := Lib.hid hb
        have HB1 := Lib.hid hb1
        have HEE := Lib.hid hv2
        have HNX := Lib.hid nextOf
        have HKY := Lib.hid hkey
        have HD := Lib.hid hd
        have HKL := Lib.hid hkl
        clear C1 hb hb1 hbw1 hv hv2 c0 c1 c2 c3 c4 hkid hbd hrow hfit hd hlo hpart hltf hwe hwn nextOf hkey hkl HK
        obtain ⟨ck, cn, csx, ckids, cbody⟩ := c
        simp only at *
        go_wp2_with fail
        refine H1.out.mono ?_
        rintro e w2 ⟨hb2, hr⟩
        have hb12 : Below wr.heap.size wr w2 := HB1.out.trans (hb2.mono HB1.out.size)
        have hp2 := HNX.out w2 hb12
        rcases hr with ⟨hok, rfl⟩ | ⟨hok, A2, cap2, G, gcap, rfl, hnk, hgk⟩
        · have HV : Hid (progV cs = false) := Lib.hid (by rw [HE.out, ← HEE.out, hok]; simp)
          have hq := hp2.1.2.2.2.1
          have r0 := hq.cell 0
          have r1 := hq.cell 1
          have f0 := hq.frozen 0
          have f1 := hq.frozen 1
          simp only [List.getElem?_toArray, List.getElem?_cons_zero, List.getElem?_cons_succ] at r0 r1
          have hlt2 : w.heap.size < w2.heap.size := hq.lt
          have HQ2 := Lib.hid hq
          have HBW := Lib.hid hp2.1.1
          clear hok hb2 hb12 hp2 hq k0 k1 k2 k3 k4
          go_wp2_with fail
          refine bodyPost_ret (v := .tuple #[.agg #[.slice none 0 0, .map none], .bool false]) ?_ rfl ⟨?_, .inl ⟨HV.out, rfl⟩⟩
          · exact results_cell_row3 Tryz.results16 _ _ w.heap.size _ _ _ rfl (((HQ2.out.set_ 0 _).set_ 1 _).alloc _) Tryz.underlying45 rfl (by kernel_rfl)
          · exact ((HBW.out.setCell (Nat.le_refl _) _).setCell (Nat.le_refl _) _).alloc (by simpa [World.setCell] using HBW.out.size) _
        · have HF : Hid (allC (cs.drop (j + 1)) = allC cs) := Lib.hid (by rw [← HEE.out, hok]; rfl)
          obtain ⟨⟨v0, d0⟩, g0⟩ := hp2.1.cell (by rw [HN.out]; exact hlt) 0 (by omega)
          obtain ⟨⟨v1, d1⟩, g1⟩ := hp2.1.cell (by rw [HN.out]; exact hlt) 1 (by omega)
          obtain ⟨⟨v2, d2⟩, g2⟩ := hp2.1.cell (by rw [HN.out]; exact hlt) 2 (by omega)
          simp only [Nat.add_zero] at d0 g0
          have p0 := hp2.1.2.2.2.2.2.1.cell 0
          have hw2 : w.heap.size + 1 < w2.heap.size := by have := hp2.1.2.1; have := hp2.1.2.2.1; omega
          have hst := (PgX.store HPT.out HD.out (by rw [HN.out]; exact hlt) hb12 HB1.out.size hnk hgk).next ((Below.refl _ _).alloc (Nat.le_refl _) (.cells #[.string csx, .slice A2 ckids.len cap2, .slice G cbody.len gcap] 56))
          have hq4 := Blk.new (((w2.setCell ⟨w.heap.size + 1, j * 3, none⟩ (.string csx)).setCell ⟨w.heap.size + 1, j * 3 + 1, none⟩ (.slice A2 ckids.len cap2)).setCell ⟨w.heap.size + 1, j * 3 + 2, none⟩ (.slice G cbody.len gcap)) 56 #[.string csx, .slice A2 ckids.len cap2, .slice G cbody.len gcap]
          rw [show (((w2.setCell ⟨w.heap.size + 1, j * 3, none⟩ (.string csx)).setCell ⟨w.heap.size + 1, j * 3 + 1, none⟩ (.slice A2 ckids.len cap2)).setCell ⟨w.heap.size + 1, j * 3 + 2, none⟩ (.slice G cbody.len gcap)).heap.size = w2.heap.size by simp [World.setCell]] at hq4
          simp only [List.getElem?_toArray, List.getElem?_cons_zero] at p0
          rw [HN.out] at p0
          have HST := Lib.hid hst
          have HQ4 := Lib.hid hq4
          have hMw : M + 2 ≤ w2.heap.size := hp2.1.2.2.1
          have HM2 := Lib.hid hMw
          have hcb : M + 1 < w2.heap.size := by omega
          clear hok hb2 hb12 hp2 hst hq4 k0 k1 k2 k3 k4 hMw hnk hgk
          go_wp2_with fail
          generalize w2.heap.size = cb at *
          generalize ((((w2.setCell ⟨w.heap.size + 1, j * 3, none⟩ (.string csx)).setCell ⟨w.heap.size + 1, j * 3 + 1, none⟩ (.slice A2 ckids.len cap2)).setCell ⟨w.heap.size + 1, j * 3 + 2, none⟩ (.slice G cbody.len gcap)).alloc (.cells #[.string csx, .slice A2 ckids.len cap2, .slice G cbody.len gcap] 56)) = W0 at *
          have hpp := HST.out
          have hqc := HQ4.out
          obtain ⟨_, _, hMs, _, _, hqp, D, hD, hIM, hH⟩ := id hpp.1
          rw [HN.out] at hqp
          have hgr := fun x (hb : Below W0.heap.size W0 x) => groups_below hD hb
          have hbp := fun x (hb : Below W0.heap.size W0 x) => hqp.below hb hqp.lt
          have hbc := fun x (hb : Below W0.heap.size W0 x) => hqc.below hb hqc.lt
          have hsc : ∀ x, Below W0.heap.size W0 x → IxS M cb csx A2 ckids.len cap2 x := fun x hb => ⟨(hbp x hb).cell 1, (hbc x hb).cell 0, (hbc x hb).cell 1⟩
          have hmx : ∀ x, Below W0.heap.size W0 x → M + 1 ≤ x.heap.size := fun x hb => by have := hb.size; omega
          have hst2 := fun x v zs u w6 (hb : Below W0.heap.size W0 x) hrun hat hoi hd1 => PgX.step (x := x) (v := v) (zs := zs) (v' := u) (w4 := w6) hpp HD.out (by rw [HN.out]; exact hlt) hb hD (by unfold maxLen; omega) hIM hH HKY.out hrun hat hoi hd1
          have hkk := HKY.out
          have hs0 := hsc W0 (Below.refl _ _)
          have HGR := Lib.hid hgr
          have HBP := Lib.hid hbp
          have HBC := Lib.hid hbc
          have HSC := Lib.hid hsc
          have HMX := Lib.hid hmx
          have HST2 := Lib.hid hst2
          have HKK := Lib.hid hkk
          have HWF : Hid ((Lit.int .i64 (j : Int)).wf = true) := Lib.hid (WalkArith.wf_i64 (by omega))
          have HJL : Hid (j ≤ 1048576) := Lib.hid (by omega)
          clear hpp hqc hMs hqp hD hIM hH hgr hbp hbc hsc hmx hst2 hkk HST HQ4 HKY HNX H1 HB HB1 d0 d1 d2 g0 g1 g2 p0 HPT
          generalize hkl : ckids.len = kl at *
          have hkl2 : kl ≤ maxLen := HKL.out
          clear hkl
          obtain ⟨y0, y1, y2⟩ := id hs0
          go_region_held3 (fun x => x.cell? ⟨M + 1, 1, none⟩ = some (.map (some M)) ∧ x.cell? ⟨cb, 0, none⟩ = some (.string csx) ∧ x.cell? ⟨cb, 1, none⟩ = some (.slice A2 kl cap2))
            (first | exact hs5 | exact hs4 | exact hs0 | exact HSC.out _ (by repeat (first | exact HX2.out | exact HX1.out | exact Below.refl _ _ | apply Below.drew | apply bl_alloc)))
            (first
              | (refine step_idx (by rfl) _ _ (by rfl) (x1 := w4) (y := w4.alloc (.cells #[.int .i64 (j : Int)] 3)) (ab := w4.heap.size) HOI.out HBK.out (World.grownBy_alloc w4 _ none) HZL.out HJL.out HWF.out (HMX.out _ (HX2.out)) (by rfl) (by rfl) (Blk.new w4 _ _) ?_
                 rintro u w6 hd1
                 obtain ⟨w7, hrun7, hg7, hst7⟩ := HST2.out _ _ _ _ _ HX2.out hrun HAT.out HOI.out hd1
                 have hg6 := hd1.1
                 have k1 := ix_keep HOI.out hg6 hg7 (HBP.out _ (HX2.out)) (by decide) (by omega)
                 have k2 := ix_keep HOI.out hg6 hg7 (HBC.out _ (HX2.out)) (by decide) (by omega)
                 have hs4 : IxS M cb csx A2 kl cap2 w6 := ⟨k1.1.cell 1, k2.1.cell 0, k2.1.cell 1⟩
                 have hs5 : IxS M cb csx A2 kl cap2 w7 := ⟨k1.2.cell 1, k2.2.cell 0, k2.2.cell 1⟩
                 have HSTEP := Lib.hid hst7
                 clear k1 k2 hg6 hg7 hd1 hst7)
              | (refine step_idx (by rfl) _ _ (by rfl) (x1 := w4.alloc (.cells #[.int .i64 (j : Int)] 3)) (y := w4.alloc (.cells #[.int .i64 (j : Int)] 3)) (ab := w4.heap.size) HOI'.out HBK'.out ((show (w4.alloc (.cells #[.int .i64 (j : Int)] 3)).grownBy (w4.alloc (.cells #[.int .i64 (j : Int)] 3)) none from ⟨rfl, rfl, rfl, Nat.le_refl _, fun _ _ _ => rfl⟩)) HZL'.out HJL.out HWF.out (HMX.out _ (bl_alloc HX2.out _)) (by rfl) (by rfl) (Blk.new w4 _ _) ?_
                 rintro u w6 hd1
                 obtain ⟨w7, hrun7, hg7, hst7⟩ := HST2.out _ _ _ _ _ (bl_alloc HX2.out _) hrun' HAT'.out HOI'.out hd1
                 have hg6 := hd1.1
                 have k1 := ix_keep HOI'.out hg6 hg7 (HBP.out _ (bl_alloc HX2.out _)) (by decide) (by omega)
                 have k2 := ix_keep HOI'.out hg6 hg7 (HBC.out _ (bl_alloc HX2.out _)) (by decide) (by omega)
                 have hs4 : IxS M cb csx A2 kl cap2 w6 := ⟨k1.1.cell 1, k2.1.cell 0, k2.1.cell 1⟩
                 have hs5 : IxS M cb csx A2 kl cap2 w7 := ⟨k1.2.cell 1, k2.2.cell 0, k2.2.cell 1⟩
                 have HSTEP := Lib.hid hst7
                 clear k1 k2 hg6 hg7 hd1 hst7)
              | (refine step_idx (by rfl) _ _ (by rfl) (x1 := w4) (y := w4) (ab := w3.heap.size) HOI.out HBK.out ((show w4.grownBy w4 none from ⟨rfl, rfl, rfl, Nat.le_refl _, fun _ _ _ => rfl⟩)) HZL.out HJL.out HWF.out (HMX.out _ (HX2.out)) (by rfl) (by rfl) ((Blk.new w3 3 #[.int .i64 (j : Int)]).below HB4.out (Blk.new w3 3 #[.int .i64 (j : Int)]).lt) ?_
                 rintro u w6 hd1
                 obtain ⟨w7, hrun7, hg7, hst7⟩ := HST2.out _ _ _ _ _ HX2.out hrun HAT.out HOI.out hd1
                 have hg6 := hd1.1
                 have k1 := ix_keep HOI.out hg6 hg7 (HBP.out _ (HX2.out)) (by decide) (by omega)
                 have k2 := ix_keep HOI.out hg6 hg7 (HBC.out _ (HX2.out)) (by decide) (by omega)
                 have hs4 : IxS M cb csx A2 kl cap2 w6 := ⟨k1.1.cell 1, k2.1.cell 0, k2.1.cell 1⟩
                 have hs5 : IxS M cb csx A2 kl cap2 w7 := ⟨k1.2.cell 1, k2.2.cell 0, k2.2.cell 1⟩
                 have HSTEP := Lib.hid hst7
                 clear k1 k2 hg6 hg7 hd1 hst7)
              | (refine step_idx (by rfl) _ _ (by rfl) (x1 := w4) (y := w4) (ab := W0.heap.size) HOI.out HBK.out ((show w4.grownBy w4 none from ⟨rfl, rfl, rfl, Nat.le_refl _, fun _ _ _ => rfl⟩)) HZL.out HJL.out HWF.out (HMX.out _ (HX2.out)) (by rfl) (by rfl) (((Blk.new W0.drew 3 #[.int .i64 (j : Int)]).below HB3.out (Blk.new W0.drew 3 #[.int .i64 (j : Int)]).lt).below HB4.out ((Blk.new W0.drew 3 #[.int .i64 (j : Int)]).below HB3.out (Blk.new W0.drew 3 #[.int .i64 (j : Int)]).lt).lt) ?_
                 rintro u w6 hd1
                 obtain ⟨w7, hrun7, hg7, hst7⟩ := HST2.out _ _ _ _ _ HX2.out hrun HAT.out HOI.out hd1
                 have hg6 := hd1.1
                 have k1 := ix_keep HOI.out hg6 hg7 (HBP.out _ (HX2.out)) (by decide) (by omega)
                 have k2 := ix_keep HOI.out hg6 hg7 (HBC.out _ (HX2.out)) (by decide) (by omega)
                 have hs4 : IxS M cb csx A2 kl cap2 w6 := ⟨k1.1.cell 1, k2.1.cell 0, k2.1.cell 1⟩
                 have hs5 : IxS M cb csx A2 kl cap2 w7 := ⟨k1.2.cell 1, k2.2.cell 0, k2.2.cell 1⟩
                 have HSTEP := Lib.hid hst7
                 clear k1 k2 hg6 hg7 hd1 hst7)
              | (go_at_call 30
                 refine (pred_any csx A2 kl cap2 _).mono ?_
                 first
                   | (have hz := HX1.out.size
                      rintro e w4 ⟨rfl, hb4⟩
                      have hx2 : Below W0.heap.size W0 w4 := bl_step (by repeat (first | exact HX1.out | apply bl_alloc)) hb4
                      obtain ⟨v, zs, hrun, hat, hoi, hzl, hbk⟩ := (HGR.out w4 hx2).at lawK Tryz.underlying43 (zeroIx _) (by unfold maxLen; omega) HKK.out
                      obtain ⟨v', zs', hrun', hat', hoi', hzl', hbk'⟩ := (HGR.out _ (bl_alloc hx2 (.cells #[.int .i64 (j : Int)] 3))).at lawK Tryz.underlying43 (zeroIx _) (by unfold maxLen; omega) HKK.out
                      have HX2 := Lib.hid hx2
                      have HB4 := Lib.hid hb4
                      have HAT := Lib.hid hat
                      have HOI := Lib.hid hoi
                      have HZL := Lib.hid hzl
                      have HBK := Lib.hid hbk
                      have HAT' := Lib.hid hat'
                      have HOI' := Lib.hid hoi'
                      have HZL' := Lib.hid hzl'
                      have HBK' := Lib.hid hbk'
                      clear hz hx2 hb4 hat hoi hzl hbk hat' hoi' hzl' hbk')
                   | (rintro e w3 ⟨rfl, hb3⟩
                      have HX1 : Hid (Below W0.heap.size W0 w3) := Lib.hid (bl_step (by repeat (first | exact Below.refl _ _ | apply Below.drew | apply bl_alloc)) hb3)
                      have HB3 := Lib.hid hb3
                      clear hb3)
                   | fail))
          all_goals
            go_wp2_with fail
            go_roundw
            case rel => exact ⟨j + 1, by omega, by go_num, HF.out, HSTEP.out⟩
            case measure => simp [intOf]; omega
      · obtain rfl : j = len := by omega
        have HV : Hid (progV cs = true) := Lib.hid (by
          rw [HE.out, ← hv, List.drop_eq_nil_of_le (by rw [HN.out]; exact Nat.le_refl _), decide_eq_true h6]; rfl)
        obtain ⟨⟨hbw, hM1, hM2, hq, _, hq1, D, hD, _, hH⟩, hC⟩ := hpart
        have hCt := PgC.done (cs := cs) (by rw [HN.out]; exact hC) hM1
        rw [HN.out] at hq1
        have x0 := hq1.cell 0
        have x1 := hq1.cell 1
        have r0 := hq.cell 0
        have r1 := hq.cell 1
        have f0 := hq.frozen 0
        have f1 := hq.frozen 1
        simp only [List.getElem?_toArray, List.getElem?_cons_zero, List.getElem?_cons_succ] at x0 x1 r0 r1
        have hg : ∀ a b : Value, wr.grownBy ((wr.setCell ⟨w.heap.size, 0, none⟩ a).setCell ⟨w.heap.size, 1, none⟩ b) (some w.heap.size) := fun a b =>
          grownBy_set (grownBy_set (show wr.grownBy wr (some w.heap.size) from ⟨rfl, rfl, rfl, Nat.le_refl _, fun _ _ _ => rfl⟩) (.inr rfl) _) (.inr rfl) _
        have hfin : ∀ a b : Value, POr w cs (.returned (.tuple #[.agg #[.slice (some ⟨w.heap.size + 1, 0, none⟩) j j, .map (some M)], .bool true])) ((wr.setCell ⟨w.heap.size, 0, none⟩ a).setCell ⟨w.heap.size, 1, none⟩ b) := fun a b =>
          ⟨(hbw.setCell (Nat.le_refl _) _).setCell (Nat.le_refl _) _, .inr ⟨HV.out, some ⟨w.heap.size + 1, 0, none⟩, M, by rw [HN.out], by omega, by simp [World.setCell]; omega, D, by rw [HN.out]; exact hD.kept (hg a b) (by simp; omega) (hD.rowsAbove (fun i hi => by cases hi; omega)), by rw [List.take_of_length_le (by rw [HN.out]; exact Nat.le_refl _)] at hH; exact hH, w.heap.size + 1, rfl, by omega, by simp [World.setCell]; omega, Cts.keep (fun p hp => World.cell?_of_block ((hg a b).block p.block hp.2 (by simp; omega))) (fun g hg => ⟨by omega, by simp [World.setCell]; exact hg.2⟩) cs 0 (fun j _ => World.cell?_of_block (a := ⟨w.heap.size + 1, j, none⟩) ((hg a b).block _ (show w.heap.size + 1 < wr.heap.size by omega) (by simp))) hCt⟩⟩
        have HFIN := Lib.hid hfin
        have HQ := Lib.hid hq
        clear hv hbw hM1 hM2 hq hq1 hD hH hg hfin HPT hC hCt
        go_wp2_with fail
        refine bodyPost_ret (v := .tuple #[.agg #[.slice (some ⟨w.heap.size + 1, 0, none⟩) j j, .map (some M)], .bool true]) ?_ rfl (HFIN.out _ _)
        exact results_cell_row3 Tryz.results16 _ _ w.heap.size _ _ _ rfl ((HQ.out.set_ 0 _).set_ 1 _) Tryz.underlying45 rfl (by kernel_rfl)
  · have t6 : (len : Int) > 20 := by omega
    have HV : Hid (progV cs = false) := Lib.hid (by rw [HE.out, decide_eq_false h6]; rfl)
    go_enter Tryz.func16, Tryz.ntmps16
    go_wp2_with fail
    refine bodyPost_ret (v := .tuple #[.agg #[.slice none 0 0, .map none], .bool false]) ?_ rfl ⟨?_, .inl ⟨HV.out, rfl⟩⟩
    · exact results_cell_row3 Tryz.results16 _ _ w.heap.size _ _ _ rfl HQ0.out Tryz.underlying45 rfl (by kernel_rfl)
    · exact HB0.out
/-- As before. -/
theorem progOf_any (cs : List Cl) (A : Option Addr) (cap lo hi : Nat) (w : World) (hk : ClS w lo hi cs A cap) (hh : hi ≤ w.heap.size) (hnd : cs.length + wtCs cs ≤ 1048576) (ht : nv.Tab w) (ho : op.OpTab w) :
    Calls Tryz.prog 16 #[.slice A cs.length cap] w fun e w' => POr w cs e w' := progOfn_any cs A cap lo hi w hk hh (by have := nd_of_wt cs; omega) ht ho
end Go.Proofs.YtihmgodiiohdnaaGreatDoor

/- laws.markText, markTermS, markTerm: rows of terms are marked. Condition: the call owns the row. -/
namespace Go.Proofs.YtihmgodiiohdnaaGreatDoor
open Go.RowKit

theorem one_byte (j : Nat) (w : World) : (convert 22 9 (.slice (some ⟨w.heap.size, 0, none⟩) 1 1)).run Tryz.prog (w.alloc (.cells #[.int .u8 (48 + (j : Int) % 10)] 5)) =
    .ok (.string ⟨[UInt8.ofNat (48 + j % 10)].toArray⟩) (w.alloc (.cells #[.int .u8 (48 + (j : Int) % 10)] 5)) := by
  refine run_convert_bytes_back _ _ _ 5 ⟨w.heap.size, 0, none⟩ 1 [UInt8.ofNat (48 + j % 10)] Tryz.underlying22 Tryz.underlying5 Tryz.underlying9 fun i hi => ?_
  obtain rfl : i = 0 := by simpa using hi
  have h := (Blk.new w 5 #[.int .u8 (48 + (j : Int) % 10)]).cell 0
  have e : ((UInt8.ofNat (48 + j % 10)).toNat : Int) = 48 + (j : Int) % 10 := by
    rw [UInt8.toNat_ofNat']
    omega
  show (w.alloc _).cell? ⟨w.heap.size, 0, none⟩ = some (.int .u8 ((UInt8.ofNat (48 + j % 10)).toNat : Int))
  rw [h, e]
  rfl
theorem digs_step (fu j : Nat) (out : List UInt8) (hj : j ≤ fu) (h0 : ¬ j = 0) : ∃ fu', j / 10 ≤ fu' ∧ digs fu j out = digs fu' (j / 10) (UInt8.ofNat (48 + j % 10) :: out) := by
  cases fu with
  | zero => omega
  | succ fu => exact ⟨fu, by omega, by simp only [digs]; rw [if_neg h0]⟩
theorem digs_zero (fu : Nat) (out : List UInt8) : digs fu 0 out = out := by
  cases fu with
  | zero => rfl
  | succ fu => rfl
theorem str_cons (d : UInt8) (out : List UInt8) : (.string (⟨[d].toArray⟩ ++ ⟨out.toArray⟩) : Value) = .string ⟨(d :: out).toArray⟩ := congrArg Value.string (ByteArray.mk_append_mk [d] out)
/-- What marking a row leaves: the marked row, in the same blocks; no other block was written. -/
def MarkedS (w : World) (f : Fr) (A : Option Addr) (cap : Nat) (L : List Nat) (k : Nat) (e : Ending) (w' : World) : Prop :=
  e = .returned (.int .i64 ((k + 3 * nodes f : Nat) : Int)) ∧ OwnS w' (markF f k) A cap L ∧ Wrote L w w'
end Go.Proofs.YtihmgodiiohdnaaGreatDoor

/- laws.heldTermS, heldTerm: a marked row still holds its marks. Condition: the marked row lies in memory. -/
namespace Go.Proofs.YtihmgodiiohdnaaGreatDoor
open Go.RowKit

end Go.Proofs.YtihmgodiiohdnaaGreatDoor

/- laws.eqClause, eqClauseS of equal clauses; markClause, heldClause; markClauseS. Condition: the clauses lie in memory (mark: the call owns them). -/
namespace Go.Proofs.YtihmgodiiohdnaaGreatDoor
open Go.RowKit

def ndC (c : Cl) : Nat := nodes c.kids + nodes c.body
def ndCs : List Cl → Nat
  | [] => 0
  | c :: cs => 1 + ndC c + ndCs cs
/-- The clause, its rows marked from k on: the head's row, then the body's. -/
def markC (c : Cl) (k : Nat) : Cl := ⟨c.k, c.n, c.s, markF c.kids k, markF c.body (k + 3 * nodes c.kids)⟩
/-- The blocks of a clause whose rows a call made. -/
def OwnCl (w : World) (c : Cl) (A : Option Addr) (cap : Nat) (B : Option Addr) (capB : Nat) (L1 L2 : List Nat) : Prop := OwnS w c.kids A cap L1 ∧ OwnS w c.body B capB L2 ∧ (L1 ++ L2).Nodup
/-- The loop's relation of markClauseS: the clauses from i on are as they were. -/
def McP (w : World) (cs : List Cl) (b cap : Nat) (L : List Nat) (i : Nat) (wr : World) : Prop :=
  ∃ Lb xs, (b :: Lb).Nodup ∧ (∀ x ∈ b :: Lb, x ∈ L) ∧ OwnC wr (cs.drop i) b (i * 5) Lb ∧ Blk wr b 32 xs ∧ xs.size = cap * 5 ∧ Wrote L w wr
/-- What a round meets. -/
def McOpen (w : World) (cs : List Cl) (b cap : Nat) (L : List Nat) (i kk : Nat) (kids body : Fr) (A' : Option Addr) (cap' : Nat) (B' : Option Addr) (capB' : Nat) (wr : World) : Prop :=
  (∃ v0 v1, wr.cell? ⟨b, i * 5, none⟩ = some v0 ∧ wr.cell? ⟨b, i * 5 + 1, none⟩ = some v1) ∧
  b < wr.heap.size ∧ (∀ j, wr.frozen? ⟨b, j, none⟩ = false) ∧
  ∃ K1 K2 : List Nat, K1.Nodup ∧ K2.Nodup ∧ ∀ w1 : World, Below wr.heap.size ((wr.setCell ⟨b, i * 5, none⟩ (.int .i64 (kk : Int))).setCell ⟨b, i * 5 + 1, none⟩ (.int .i64 ((kk : Int) + 1))) w1 →
    ((∃ v, w1.cell? ⟨b, i * 5 + 2, none⟩ = some v) ∧ w1.frozen? ⟨b, i * 5 + 2, none⟩ = false ∧ w1.cell? ⟨b, i * 5 + 3, none⟩ = some (.slice A' kids.len cap')) ∧
    OwnS (w1.setCell ⟨b, i * 5 + 2, none⟩ (.string (mtext (kk + 2)))) kids A' cap' K1 ∧
    ∀ w4, Wrote K1 (w1.setCell ⟨b, i * 5 + 2, none⟩ (.string (mtext (kk + 2)))) w4 → w4.cell? ⟨b, i * 5 + 4, none⟩ = some (.slice B' body.len capB') ∧ OwnS w4 body B' capB' K2 ∧ ∀ w5, Wrote K2 w4 w5 → McP w cs b cap L (i + 1) w5
theorem McP.open_ {w wr : World} {cs : List Cl} {b cap i : Nat} {L : List Nat} {c : Cl} {rest : List Cl} (h : McP w cs b cap L i wr) (hd : cs.drop i = c :: rest) (kk : Nat) :
    ∃ A' cap' B' capB', McOpen w cs b cap L i kk c.kids c.body A' cap' B' capB' wr := by
  obtain ⟨Lb, xs, hnd, hLL, hback, hblk, hsz, hwr⟩ := h
  have e1 : cs.drop (i + 1) = rest := by rw [← List.tail_drop, hd]; rfl
  rw [hd] at hback
  obtain ⟨A', cap', B', capB', L1, L2, L3, rfl, hfit, ⟨c0, c1, c2, c3, c4⟩, hown, hownb, hr⟩ := hback
  have hlt := hblk.lt
  obtain ⟨hb0, hnd'⟩ := List.nodup_cons.1 hnd
  obtain ⟨hn1', hn23, h123⟩ := List.nodup_append.1 hnd'
  obtain ⟨hn2', hn3', h23⟩ := List.nodup_append.1 hn23
  have hb1 : b ∉ L1 := fun h => hb0 (by simp [h])
  have hb2 : b ∉ L2 := fun h => hb0 (by simp [h])
  have hb3 : b ∉ L3 := fun h => hb0 (by simp [h])
  have l1 : ∀ x ∈ L1, x < wr.heap.size := fun x hx => hown.lt x hx
  have l2 : ∀ x ∈ L2, x < wr.heap.size := fun x hx => hownb.lt x hx
  have l3 : ∀ x ∈ L3, x < wr.heap.size := fun x hx => OwnC.lt _ b (i * 5 + 5) L3 hr x hx
  refine ⟨A', cap', B', capB', ⟨⟨_, _, c0, c1⟩, hlt, fun j => hblk.frozen j, L1, L2, hn1', hn2', fun w1 hw1 => ?_⟩⟩
  have q1 := ((hblk.set_ (i * 5) (.int .i64 (kk : Int))).set_ (i * 5 + 1) (.int .i64 ((kk : Int) + 1))).below hw1 hlt
  have q3 := q1.set_ (i * 5 + 2) (.string (mtext (kk + 2)))
  have d2 : ∃ v, w1.cell? ⟨b, i * 5 + 2, none⟩ = some v := by
    rw [q1.cell]
    simp only [Array.getElem?_setIfInBounds]
    rw [if_neg (by omega), if_neg (by omega), ← hblk.cell]
    exact ⟨_, c2⟩
  have d3 : w1.cell? ⟨b, i * 5 + 3, none⟩ = some (.slice A' c.kids.len cap') := by
    rw [q1.cell]
    simp only [Array.getElem?_setIfInBounds]
    rw [if_neg (by omega), if_neg (by omega), ← hblk.cell]
    exact c3
  have d5 : (w1.setCell ⟨b, i * 5 + 2, none⟩ (.string (mtext (kk + 2)))).cell? ⟨b, i * 5 + 4, none⟩ = some (.slice B' c.body.len capB') := by
    rw [q3.cell]
    simp only [Array.getElem?_setIfInBounds]
    rw [if_neg (by omega), if_neg (by omega), if_neg (by omega), ← hblk.cell]
    exact c4
  have d4 : w1.frozen? ⟨b, i * 5 + 2, none⟩ = false := q1.frozen _
  have far : ∀ x, x < wr.heap.size → x ≠ b → (w1.setCell ⟨b, i * 5 + 2, none⟩ (.string (mtext (kk + 2)))).heap[x]? = wr.heap[x]? := fun x hx hne => by
    rw [heap_setCell_other _ _ _ _ (show x ≠ b from hne), hw1.block x hx, heap_setCell_other _ _ _ _ (show x ≠ b from hne), heap_setCell_other _ _ _ _ (show x ≠ b from hne)]
  have hs3 : wr.heap.size ≤ (w1.setCell ⟨b, i * 5 + 2, none⟩ (.string (mtext (kk + 2)))).heap.size := by
    have := hw1.size; simpa [World.setCell] using this
  have hw3 : Wrote L w (w1.setCell ⟨b, i * 5 + 2, none⟩ (.string (mtext (kk + 2)))) :=
    hwr.trans ⟨hw1.os, hw1.tape, hw1.output, hs3, fun x hx hn => far x hx fun e => hn (hLL x (by simp [e]))⟩
  refine ⟨⟨d2, d4, d3⟩, ?_⟩
  generalize w1.setCell ⟨b, i * 5 + 2, none⟩ (.string (mtext (kk + 2))) = w3 at *
  refine ⟨hown.keep fun x hx => far x (l1 x hx) fun e => hb1 (e ▸ hx), fun w4 hw4 => ?_⟩
  have q4 := hw4.blk q3 hb1
  have hs34 := hw4.size
  refine ⟨(hw4.cell (p := ⟨b, i * 5 + 4, none⟩) q3.lt hb1).trans d5, hownb.keep fun x hx => ?_, fun w5 hw5 => ?_⟩
  · have := l2 x hx
    rw [hw4.block x (by omega) fun h => h123 x h x (by simp [hx]) rfl]
    exact far x (l2 x hx) fun e => hb2 (e ▸ hx)
  · have q5 := hw5.blk q4 hb2
    refine ⟨L3, _, List.nodup_cons.2 ⟨hb3, hn3'⟩, fun x hx => hLL x ?_, ?_, q5, by simpa using hsz, (hw3.trans (hw4.more fun x hx => hLL x (by simp [hx]))).trans (hw5.more fun x hx => hLL x (by simp [hx]))⟩
    · rcases List.mem_cons.1 hx with rfl | hx
      · simp
      · simp [hx]
    · rw [e1, show (i + 1) * 5 = i * 5 + 5 by omega]
      refine OwnC.keep rest b (i * 5 + 5) L3 hr (fun j hj => ?_) fun x hx => ?_
      · rw [q5.cell, hblk.cell]
        simp only [Array.getElem?_setIfInBounds]
        rw [if_neg (by omega), if_neg (by omega), if_neg (by omega)]
      · have := l3 x hx
        rw [hw5.block x (by omega) fun h => h23 x h x hx rfl, hw4.block x (by omega) fun h => h123 x h x (by simp [hx]) rfl]
        exact far x (l3 x hx) fun e => hb3 (e ▸ hx)

end Go.Proofs.YtihmgodiiohdnaaGreatDoor

/- impl.ProgramValid; the law FnExactProgramValid, walked. Condition: the argument lies in memory, both tables in their variables. -/
namespace Go.Proofs.YtihmgodiiohdnaaGreatDoor
open Go.RowKit

set_option maxRecDepth 100000 in
/-- impl.ProgramValid. -/
theorem implPVn_any (cs : List Cl) (A : Option Addr) (cap lo hi : Nat) (w : World) (hk : ClS w lo hi cs A cap) (hh : hi ≤ w.heap.size) (hnd : cs.length + ndQs cs ≤ 1048576) (ht : nv.Tab w) (ho : op.OpTab w) :
    Calls Tryz.prog 6 #[.slice A cs.length cap] w fun e w' => e = .returned (.bool (progV cs)) ∧ Below w.heap.size w w' := by
  have C1 := progOfn_any cs A cap lo hi w hk hh hnd ht ho
  have H1 := Lib.hid C1
  clear C1 hk hnd ht ho
  generalize cs.length = len at *
  go_enter Tryz.func6, Tryz.ntmps6
  go_wp2_with fail
  refine H1.out.mono ?_
  rintro e w2 ⟨hb, hr⟩
  have HB2 := Lib.hid hb
  rcases hr with ⟨hok, rfl⟩ | ⟨hok, R, M, rfl, _⟩
  all_goals
    have HOK := Lib.hid hok
    clear hb hok
    go_wp2_with fail
    go_ret
    rw [HOK.out]; exact ⟨rfl, HB2.out.alloc HB2.out.size _⟩

/-- As before. -/
theorem implPV_any (cs : List Cl) (A : Option Addr) (cap lo hi : Nat) (w : World) (hk : ClS w lo hi cs A cap) (hh : hi ≤ w.heap.size) (hnd : cs.length + wtCs cs ≤ 1048576) (ht : nv.Tab w) (ho : op.OpTab w) :
    Calls Tryz.prog 6 #[.slice A cs.length cap] w fun e w' => e = .returned (.bool (progV cs)) ∧ Below w.heap.size w w' := implPVn_any cs A cap lo hi w hk hh (by have := nd_of_wt cs; omega) ht ho

end Go.Proofs.YtihmgodiiohdnaaGreatDoor

/- impl.splitList: the elements with which a node begins as a list, and what follows. Condition: the node lies in memory. -/
namespace Go.Proofs.YtihmgodiiohdnaaGreatDoor
open Go.RowKit

/-- The values xs are the nodes of the row f. -/
def NDesc (w : World) (lo hi : Nat) : Fr → List Value → Prop
  | .nil, xs => xs = []
  | .cons k n s kids rest, xs => ∃ x ys, xs = x :: ys ∧ NdV w lo hi k n s kids x ∧ NDesc w lo hi rest ys
section
variable {w w' : World} {lo hi : Nat}
theorem NDesc.len (f : Fr) : ∀ xs, NDesc w lo hi f xs → xs.length = f.len := by
  induction f with
  | nil => rintro xs rfl; rfl
  | cons k n s kids rest _ ih =>
    rintro xs ⟨x, ys, rfl, _, h⟩
    simp only [List.length_cons, Fr.len, ih ys h]
theorem NDesc.snoc (f : Fr) {k n : Int} {s : ByteArray} {kids : Fr} {x : Value} (hx : NdV w lo hi k n s kids x) : ∀ xs, NDesc w lo hi f xs → NDesc w lo hi (f.app (.cons k n s kids .nil)) (xs ++ [x]) := by
  induction f with
  | nil => rintro xs rfl; exact ⟨x, [], rfl, hx, rfl⟩
  | cons k' n' s' kids' rest _ ih =>
    rintro xs ⟨y, ys, rfl, hy, h⟩
    exact ⟨y, _, rfl, hy, ih ys h⟩
theorem NDesc.row {lo' hi' g : Nat} (hk : ∀ p : Addr, lo ≤ p.block → p.block < hi → w'.cell? p = w.cell? p) (hL : lo' ≤ lo) (hH : hi ≤ hi') (f : Fr) : ∀ xs o, NDesc w lo hi f xs → (∀ j u, xs[j]? = some u → w'.cell? ⟨g, o + j, none⟩ = some u) → NdRow w' lo' hi' f g o := by
  induction f with
  | nil => intro xs o _ _; trivial
  | cons k n s kids rest _ ih =>
    rintro xs o ⟨x, ys, rfl, hx, h⟩ hc
    refine ⟨⟨x, hc 0 x rfl, ?_⟩, ih ys (o + 1) h fun j u hu => ?_⟩
    · rcases hx.keep hk hL hH with h | h | ⟨h1, A, cap, h2, h3⟩
      · exact .inl h
      · exact .inr (.inl h)
      · exact .inr (.inr ⟨h1, A, cap, h2, h3.1, h3.2.1, h3.2.2⟩)
    · have := hc (j + 1) u (by simpa using hu)
      rwa [show o + (j + 1) = o + 1 + j by omega] at this
end

/-- What splitList answers. -/
def SplitRes (w : World) (F T : Fr) (e : Ending) (w' : World) : Prop :=
  Below w.heap.size w w' ∧ ∃ A cap v', e = .returned (.tuple #[.slice A F.len cap, v']) ∧ NdS w' 0 w'.heap.size F A cap ∧ ∃ k n s f, T = .cons k n s f .nil ∧ NdV w' 0 w'.heap.size k n s f v'
/-- The loop's relation. -/
def SpP (w : World) (lo hi : Nat) (F T : Fr) (k n : Int) (s : ByteArray) (f : Fr) (x : Value) (acc : Fr) (v : Value) (wr : World) : Prop :=
  NdV w lo hi k n s f x ∧ (∃ xs, wr.ownsRow w.heap.size 115 1 v acc.len xs ∧ NDesc w lo hi acc xs) ∧ acc.app (fronts k s f) = F ∧ tails k n s f = T ∧ Below w.heap.size w wr
/-- What splitList answers, by the blocks: the row is new, the nodes are the old ones. -/
def SplitR2 (w : World) (lo hi : Nat) (F T : Fr) (e : Ending) (w' : World) : Prop :=
  Below w.heap.size w w' ∧ ∃ v v', e = .returned (.tuple #[v, v']) ∧ (∃ xs, w'.ownsRow w.heap.size 115 1 v F.len xs ∧ NDesc w lo hi F xs) ∧ ∃ k n s f, T = .cons k n s f .nil ∧ NdV w lo hi k n s f v'
theorem SpP.fin {w wr : World} {lo hi : Nat} {F T : Fr} {k n : Int} {s : ByteArray} {f : Fr} {x : Value} {acc : Fr} {v : Value} (h : SpP w lo hi F T k n s f x acc v wr) (hp : pairB k s f.len = false) (o : Obj) :
    SplitR2 w lo hi F T (.returned (.tuple #[v, x])) (wr.alloc o) := by
  obtain ⟨hx, ⟨xs, ho, hD⟩, hF, hT, hb⟩ := h
  rw [(pair_no n hp).1, app_nil] at hF
  rw [(pair_no n hp).2] at hT
  subst hF hT
  exact ⟨hb.alloc hb.size o, v, x, rfl, ⟨xs, ho.alloc o, hD⟩, k, n, s, f, rfl, hx⟩
theorem SplitR2.res {w w' : World} {lo hi : Nat} {F T : Fr} {e : Ending} (h : SplitR2 w lo hi F T e w') (hh : hi ≤ w.heap.size) : SplitRes w F T e w' := by
  obtain ⟨hb2, v, x, rfl, ⟨xs, ho2, hD⟩, k, n, s, f, rfl, hx⟩ := h
  have hk : ∀ p : Addr, lo ≤ p.block → p.block < hi → w'.cell? p = w.cell? p := fun p _ hp => hb2.cell (by omega)
  refine ⟨hb2, ?_⟩
  rcases ho2.2 with ⟨rfl, h0⟩ | ⟨g, cap, cur, rfl, hbg, hg, hnc, hcm, hcs, htake⟩
  · have hnil : F = .nil := by
      cases F with
      | nil => rfl
      | cons _ _ _ _ _ => simp [Fr.len] at h0
    subst hnil
    exact ⟨none, 0, x, rfl, ⟨Nat.le_refl _, Nat.zero_le _, fun h => absurd h (Nat.lt_irrefl 0)⟩, k, n, s, f, rfl, hx.keep hk (Nat.zero_le _) (Nat.le_trans hh hb2.size)⟩
  · refine ⟨_, cap, x, rfl, ⟨hnc, hcm, fun _ => ⟨g, rfl, Nat.zero_le _, Blk.lt hg, ?_⟩⟩, k, n, s, f, rfl, hx.keep hk (Nat.zero_le _) (Nat.le_trans hh hb2.size)⟩
    refine NDesc.row hk (Nat.zero_le _) (Nat.le_trans hh hb2.size) F xs 0 hD fun j u hu => ?_
    have h3 := (World.ownsRow.cells ho2 (g := g) rfl) j u hu
    have e : (⟨g, 0, none⟩ : Addr).add j = ⟨g, 0 + j, none⟩ := by unfold Addr.add; split <;> simp_all
    rwa [e] at h3

set_option maxRecDepth 100000 in
set_option maxHeartbeats 8000000 in
/-- impl.splitList, by the blocks. -/
theorem split2_any (k n : Int) (s : ByteArray) (f : Fr) (v : Value) (lo hi : Nat) (w : World) (hv : NdV w lo hi k n s f v) (hh : hi ≤ w.heap.size) (hnd : nodes f ≤ 1048576) :
    Calls Tryz.prog 69 #[v] w fun e w' => SplitR2 w lo hi (fronts k s f) (tails k n s f) e w' := by
  have hst : SpP w lo hi (fronts k s f) (tails k n s f) k n s f v .nil (.slice none 0 0) w := ⟨hv, ⟨[], World.ownsRow_nil w _ _ _, rfl⟩, rfl, rfl, Below.refl _ _⟩
  have HST := Lib.hid hst
  have HND := Lib.hid hnd
  have HHI := Lib.hid hh
  obtain ⟨i0, hi0, hz0, hz1, hz2⟩ := info_parts infoN
  clear hst hnd hh
  obtain ⟨T0, x0, rfl⟩ := hv.iface
  clear hv
  go_enter Tryz.func69, Tryz.ntmps69
  go_wp2_with fail
  go_loopw [4, 0] (fun u x wr => ∃ (k' n' : Int) (s' : ByteArray) (f' acc : Fr) (v x' : Value), v = u ∧ x' = x ∧ SpP w lo hi (fronts k s f) (tails k n s f) k' n' s' f' x' acc v wr) (fun u _ _ => (fronts k s f).len - lenOf u)
  case atStart => exact ⟨_, _, _, _, _, _, _, rfl, rfl, HST.out⟩
  case round =>
    obtain ⟨k', n', s', f', acc, v, x', rfl, rfl, hp⟩ := hrel
    cases hpb : pairB k' s' f'.len
    · have HR := Lib.hid fun o => hp.fin hpb o
      obtain ⟨hx, -, -, -, -⟩ := hp
      rcases hx with ⟨rfl, rfl⟩ | ⟨rfl, rfl⟩ | ⟨rfl, A, cap, rfl, hk⟩
      · clear hpb
        go_wp2_with fail
        go_ret2
        exact HR.out _
      · clear hpb
        go_wp2_with fail
        go_ret2
        exact HR.out _
      · clear hk
        generalize f'.len = len at *
        cases h2 : dotB s'
        · have t1 : (s'.toList == [46]) = false := by rw [ByteArray.toList_eq]; exact h2
          have t2 : (!(s'.toList == [46])) = true := by rw [t1]; rfl
          have t3 : (s'.toList != [46]) = true := t2
          clear h2 hpb
          go_wp2_with fail
          go_ret2
          exact HR.out _
        · have t1 : (s'.toList == [46]) = true := by rw [ByteArray.toList_eq]; exact h2
          have t3 : (s'.toList != [46]) = false := by show (!(s'.toList == [46])) = false; rw [t1]; rfl
          have h3 : ¬ len = 2 := fun e => by subst e; simp [pairB, h2] at hpb
          have t4 : ((len : Int) != 2) = true := by simp; omega
          clear h2 hpb h3
          go_wp2_with fail
          go_ret2
          exact HR.out _
    · obtain ⟨hl2, rfl, hdot⟩ := pairB_len hpb
      obtain ⟨k1, n1, s1, kd1, k2, n2, s2, kd2, rfl, hfr, htl⟩ := pair_yes n' hpb
      obtain ⟨hx, ⟨xs, hown, hD⟩, hF, hT, hb⟩ := hp
      rcases hx with ⟨h, _⟩ | ⟨h, _⟩ | ⟨_, A, cap, rfl, hk⟩
      · omega
      · omega
      obtain ⟨b, rfl, hlb, hbb, hrow⟩ := hk.2.2 (by simp [Fr.len])
      obtain ⟨y1, d0, hv1⟩ := hrow.elem (i := 0) rfl
      obtain ⟨y2, d1, hv2⟩ := hrow.elem (i := 1) rfl
      simp only [Nat.add_zero, Nat.zero_add] at d0 d1
      have hHI := HHI.out
      have hlo : b < w.heap.size := by omega
      have c0 := (hb.cell (p := ⟨b, 0, none⟩) hlo).trans d0
      have hcap := hk.2.1
      have hcl := hk.1
      have t1 : (s'.toList == [46]) = true := by rw [ByteArray.toList_eq]; exact hdot
      have t3 : (s'.toList != [46]) = false := by show (!(s'.toList == [46])) = false; rw [t1]; rfl
      have hvl := hown.lt
      have hacc : acc.len < 1048577 := by
        have h1 := congrArg Fr.len hF
        have h2 := len_le_nodes (fronts k s f)
        rw [Fr.len_app] at h1
        have h3 := fronts_nodes k s f
        have := HND.out
        omega
      have hmeas : (fronts k s f).len - (acc.len + 1) < (fronts k s f).len - lenOf v := by
        have h1 := congrArg Fr.len hF
        rw [Fr.len_app, hfr] at h1
        simp only [Fr.len] at h1
        have hlv : lenOf v = acc.len := by
          rcases hown.2 with ⟨rfl, h0⟩ | ⟨g, cap', cur, rfl, _⟩
          · simp only [lenOf]; omega
          · rfl
        rw [hlv]
        omega
      obtain ⟨T1, z1, rfl⟩ := hv1.iface
      have hbs := hb.size
      have STEP : ∀ w6 g cap4, (((wr.alloc (.cells #[.string s', .slice (some ⟨b, 0, none⟩) (Fr.cons k1 n1 s1 kd1 (.cons k2 n2 s2 kd2 .nil)).len cap] 84)).alloc (.cells #[.iface T1 z1] 115)).grownBy w6 v.ownBlock) → w6.ownsRow w.heap.size 115 1 (.slice (some ⟨g, 0, none⟩) (acc.len + 1) cap4) (acc.len + 1) (xs ++ [.iface T1 z1]) →
          SpP w lo hi (fronts k s f) (tails k n s f) k2 n2 s2 kd2 y2 (acc.app (.cons k1 n1 s1 kd1 .nil)) (.slice (some ⟨g, 0, none⟩) (acc.len + 1) cap4) w6 ∧ w6.cell? ⟨b, 1, none⟩ = some y2 ∧ w6.cell? ⟨wr.heap.size, 1, none⟩ = some (.slice (some ⟨b, 0, none⟩) (Fr.cons k1 n1 s1 kd1 (.cons k2 n2 s2 kd2 .nil)).len cap) := fun w6 g cap4 hg ho => by
        have hb5 := (hb.alloc hb.size (.cells #[.string s', .slice (some ⟨b, 0, none⟩) (Fr.cons k1 n1 s1 kd1 (.cons k2 n2 s2 kd2 .nil)).len cap] 84)).alloc (by simp; omega) (.cells #[.iface T1 z1] 115)
        have hb6 : Below w.heap.size w w6 := hb5.grown hg hb5.size fun g hg => (hvl g hg).1
        have hq := ((Blk.new wr 84 #[.string s', .slice (some ⟨b, 0, none⟩) (Fr.cons k1 n1 s1 kd1 (.cons k2 n2 s2 kd2 .nil)).len cap]).alloc (.cells #[.iface T1 z1] 115)).keep (hg.block wr.heap.size (by simp; omega) fun e => by have := (hvl _ e.symm).2; omega)
        refine ⟨⟨hv2, ⟨_, ?_, NDesc.snoc acc hv1 xs hD⟩, ?_, ?_, hb6⟩, (hb6.cell (p := ⟨b, 1, none⟩) hlo).trans d1, hq.cell 1⟩
        · rw [Fr.len_app]; exact ho
        · rw [app_assoc]; rw [hfr] at hF; exact hF
        · rw [← hT, htl]
      have hnew := Blk.new (wr.alloc (.cells #[.string s', .slice (some ⟨b, 0, none⟩) 2 cap] 84)) 115 #[.iface T1 z1]
      rw [show (wr.alloc (.cells #[.string s', .slice (some ⟨b, 0, none⟩) 2 cap] 84)).heap.size = wr.heap.size + 1 by simp] at hnew
      have HNEW := Lib.hid hnew
      clear hnew
      have HSTEP := Lib.hid STEP
      have HM := Lib.hid hmeas
      have HOWN := Lib.hid hown
      have hbw : b < wr.heap.size := by omega
      simp only [Fr.len, Nat.zero_add, Nat.reduceAdd] at HSTEP hcl
      clear hpb hdot hfr htl hF hT hb hk hrow d0 d1 hv1 hv2 hown hD hmeas STEP hl2 hvl
      unfold maxLen at hcap
      simp only [Fr.len, Nat.zero_add, Nat.reduceAdd]
      go_wp2_with (at_builtin; go_must (refine wpList_append_lies _ rfl _ _ _ rfl w.heap.size 115 i0 _ 1 16 Tryz.underlying51 hi0 hz0 hz1 hz2 rfl (by omega) v acc.len xs rfl ((HOWN.out.alloc _).alloc _) ⟨wr.heap.size + 1, 0, none⟩ 1 1 [.iface T1 z1] rfl rfl (World.news_of_block (cs := #[.iface T1 z1]) (t := 115) (fr := (0, 0)) HNEW.out) (by simp [Value.oneCell']) (by omega) (by unfold maxLen; omega) (by omega) (by simp; omega) (wr.heap.size + 1 + 1) (by simp) ?_); intro g cap4 w6 hown6 hgrow hat hlt6; obtain ⟨hsp, e1, x1⟩ := HSTEP.out w6 g cap4 hgrow hown6; have HSP := Lib.hid hsp; clear hsp hown6 hgrow hat)
      go_roundw
      case rel => exact ⟨_, _, _, _, _, _, _, rfl, rfl, HSP.out⟩
      case measure => exact HM.out
/-- impl.splitList. -/
theorem split_any (k n : Int) (s : ByteArray) (f : Fr) (v : Value) (lo hi : Nat) (w : World) (hv : NdV w lo hi k n s f v) (hh : hi ≤ w.heap.size) (hnd : nodes f ≤ 1048576) :
    Calls Tryz.prog 69 #[v] w fun e w' => SplitRes w (fronts k s f) (tails k n s f) e w' :=
  (split2_any k n s f v lo hi w hv hh hnd).mono fun _ _ h => h.res hh
end Go.Proofs.YtihmgodiiohdnaaGreatDoor

/- The layings of the numbers' texts (strconv) at this program: the numbers that its text has here. No condition. -/
namespace Go.Proofs.YtihmgodiiohdnaaGreatDoor
open Go.Proofs Go.Shelf
def laysAI_ren : Go.Shelf.Ren := ⟨fun | 176 => 68 | 249 => 81 | 288 => 99 | 283 => 114 | 284 => 115 | 285 => 116 | 286 => 117 | 129 => 128 | 317 => 127 | 318 => 129 | 319 => 130 | 320 => 131 | 337 => 134 | 338 => 135 | n => n, fun | 37 => 22 | 2 => 2 | 3 => 3 | 53 => 162 | 4 => 4 | 9 => 9 | 171 => 173 | 0 => 0 | 173 => 176 | 212 => 180 | 51 => 181 | 5 => 5 | 20 => 20 | 213 => 182 | 46 => 183 | 232 => 188 | 233 => 189 | n => n, fun | 17 => 1 | 18 => 3 | 19 => 4 | n => n⟩
theorem laysAI : Go.Proofs.LaysM.n176 Tryz.prog laysAI_ren := {
  mixed := by kernel_rfl
  f129 := Tryz.func128.trans (congrArg some (by kernel_rfl))
  f176 := Tryz.func68.trans (congrArg some (by kernel_rfl))
  f249 := Tryz.func81.trans (congrArg some (by kernel_rfl))
  f283 := Tryz.func114.trans (congrArg some (by kernel_rfl))
  f284 := Tryz.func115.trans (congrArg some (by kernel_rfl))
  f285 := Tryz.func116.trans (congrArg some (by kernel_rfl))
  f286 := Tryz.func117.trans (congrArg some (by kernel_rfl))
  f288 := Tryz.func99.trans (congrArg some (by kernel_rfl))
  f317 := Tryz.func127.trans (congrArg some (by kernel_rfl))
  f318 := Tryz.func129.trans (congrArg some (by kernel_rfl))
  f319 := Tryz.func130.trans (congrArg some (by kernel_rfl))
  f320 := Tryz.func131.trans (congrArg some (by kernel_rfl))
  f337 := Tryz.func134.trans (congrArg some (by kernel_rfl))
  f338 := Tryz.func135.trans (congrArg some (by kernel_rfl))
  t0 := Tryz.underlying0
  a0 := Tryz.isAgg0
  z0 := Tryz.sizeOf0
  v0 := Tryz.zeroValue0
  t2 := Tryz.underlying2
  a2 := Tryz.isAgg2
  z2 := Tryz.sizeOf2
  v2 := Tryz.zeroValue2
  t3 := Tryz.underlying3
  a3 := Tryz.isAgg3
  z3 := Tryz.sizeOf3
  v3 := Tryz.zeroValue3
  t4 := Tryz.underlying4
  a4 := Tryz.isAgg4
  z4 := Tryz.sizeOf4
  v4 := Tryz.zeroValue4
  t5 := Tryz.underlying5
  a5 := Tryz.isAgg5
  z5 := Tryz.sizeOf5
  v5 := Tryz.zeroValue5
  t9 := Tryz.underlying9
  a9 := Tryz.isAgg9
  z9 := Tryz.sizeOf9
  v9 := Tryz.zeroValue9
  t20 := Tryz.underlying20
  a20 := Tryz.isAgg20
  z20 := Tryz.sizeOf20
  v20 := Tryz.zeroValue20
  t37 := Tryz.underlying22
  a37 := Tryz.isAgg22
  z37 := Tryz.sizeOf22
  v37 := Tryz.zeroValue22
  t46 := Tryz.underlying183
  a46 := Tryz.isAgg183
  z46 := Tryz.sizeOf183
  v46 := Tryz.zeroValue183
  t51 := Tryz.underlying181
  a51 := Tryz.isAgg181
  z51 := Tryz.sizeOf181
  v51 := Tryz.zeroValue181
  t53 := Tryz.underlying162
  a53 := Tryz.isAgg162
  z53 := Tryz.sizeOf162
  v53 := Tryz.zeroValue162
  t171 := Tryz.underlying173
  a171 := Tryz.isAgg173
  z171 := Tryz.sizeOf173
  v171 := Tryz.zeroValue173
  t173 := Tryz.underlying176
  a173 := Tryz.isAgg176
  z173 := Tryz.sizeOf176
  v173 := Tryz.zeroValue176
  t212 := Tryz.underlying180
  a212 := Tryz.isAgg180
  z212 := Tryz.sizeOf180
  v212 := Tryz.zeroValue180
  t213 := Tryz.underlying182
  a213 := Tryz.isAgg182
  z213 := Tryz.sizeOf182
  t232 := Tryz.underlying188
  a232 := Tryz.isAgg188
  z232 := Tryz.sizeOf188
  v232 := Tryz.zeroValue188
  t233 := Tryz.underlying189
  a233 := Tryz.isAgg189
  z233 := Tryz.sizeOf189
  v233 := Tryz.zeroValue189
  g17 := by kernel_rfl
  g18 := by kernel_rfl
  g19 := by kernel_rfl
  i0 := by kernel_rfl
  i2 := by kernel_rfl
  i3 := by kernel_rfl
  i4 := by kernel_rfl
  i5 := by kernel_rfl
  i9 := by kernel_rfl
  i20 := by kernel_rfl
  i37 := by kernel_rfl
  i46 := by kernel_rfl
  i51 := by kernel_rfl
  i53 := by kernel_rfl
  i171 := by kernel_rfl
  i173 := by kernel_rfl
  i212 := by kernel_rfl
  i232 := by kernel_rfl
  i233 := by kernel_rfl
  m17 := by kernel_rfl
  m18 := by kernel_rfl
  m19 := by kernel_rfl }
end Go.Proofs.YtihmgodiiohdnaaGreatDoor

/- A writer of texts in memory: its text is a row of bytes that it owns; what writing leaves as it was. Condition: none of its own. -/
namespace Go.Proofs.YtihmgodiiohdnaaGreatDoor
open Go.RowKit

theorem infoU8 : (Tryz.prog.info? 5).map (fun i => (i.zero, i.size, i.bytes)) = some (some (.int .u8 0), 1, 1) := by kernel_rfl
/-- What lies below block mb, and all blocks but mb that are no rows of bytes, stand. -/
def TF (mb : Nat) (w w' : World) : Prop := Below mb w w' ∧ Lib.OthersKept 5 (some mb) w w'
theorem TF.refl (mb : Nat) (w : World) : TF mb w w := ⟨Below.refl _ _, Lib.OthersKept.refl _ _ _⟩
theorem TF.trans {mb : Nat} {a b c : World} (h : TF mb a b) (k : TF mb b c) : TF mb a c := ⟨h.1.trans k.1, h.2.trans k.2⟩
theorem TF.below {mb : Nat} {w w' : World} (h : Below w.heap.size w w') (hm : mb ≤ w.heap.size) : TF mb w w' :=
  ⟨h.mono hm, fun k o hk _ _ => by
    have hlt : k < w.heap.size := (Array.getElem?_eq_some_iff.1 hk).1
    rw [h.block k hlt]; exact hk⟩
theorem TF.appInt {mb : Nat} {w w' : World} (h : Below (mb + 1) w w') (k : Lib.OthersKept 5 none w w') : TF mb w w' :=
  ⟨h.mono (Nat.le_succ _), fun i o hi _ ho => k i o hi (by simp) ho⟩
theorem TF.set_ {mb : Nat} {w w' : World} (h : TF mb w w') (i : Nat) (v : Value) : TF mb w (w'.setCell ⟨mb, i, none⟩ v) := ⟨h.1.setCell (Nat.le_refl _) _, h.2.setCell _ rfl _⟩

/-- The function that writes parts: the writer's own. -/
def fW (mb : Nat) : Value := .func (.func 53) #[.pointer (some ⟨mb, 0, none⟩)] #[]
def TW (mb : Nat) (bs : List UInt8) (w : World) : Prop := ∃ tv, Blk w mb 60 #[tv, fW mb] ∧ w.ownsRow (mb + 1) 5 1 tv bs.length (Lib.byteCells bs)
theorem TW.below {mb : Nat} {bs : List UInt8} {w w' : World} (h : TW mb bs w) (hb : Below w.heap.size w w') : TW mb bs w' := by
  obtain ⟨tv, hq, ho⟩ := h
  exact ⟨tv, hq.below hb hq.lt, ho.kept (row := none) ⟨hb.os, hb.tape, hb.output, hb.size, fun k hk _ => hb.block k hk⟩ (by cases tv.ownBlock <;> simp)⟩
theorem row_form {w : World} {base : Nat} {e : TypeId} {v : Value} {n : Nat} {xs : List Value} (h : w.ownsRow base e 1 v n xs) : ∃ A c, v = .slice A n c ∧ n ≤ c ∧ c ≤ maxLen := by
  rcases h.2 with ⟨rfl, h0⟩ | ⟨g, cap, cur, rfl, _, _, h1, h2, _⟩
  · exact ⟨none, 0, by rw [h0], by omega, Nat.zero_le _⟩
  · exact ⟨_, cap, rfl, h1, h2⟩
theorem row_kind {w : World} {base : Nat} {e : TypeId} {v : Value} {n : Nat} {xs : List Value} (h : w.ownsRow base e 1 v n xs) : ∀ g, v.ownBlock = some g → ∃ c fz, w.heap[g]? = some (.cells c e fz) := by
  intro g hg
  rcases h.2 with ⟨rfl, _⟩ | ⟨g', cap, cur, rfl, _, hb, _⟩
  · cases hg
  · obtain rfl : g' = g := by simpa [Value.ownBlock] using hg
    exact ⟨_, _, hb⟩
/-- One byte more. -/
theorem TW.step {mb g cap : Nat} {bs add : List UInt8} {w w1 w6 : World} {tv : Value} (hq : Blk w mb 60 #[tv, fW mb]) (ho : w.ownsRow (mb + 1) 5 1 tv bs.length (Lib.byteCells bs)) (h1 : Below w.heap.size w w1)
    (hg : w1.grownBy w6 tv.ownBlock) (ho6 : w6.ownsRow (mb + 1) 5 1 (.slice (some ⟨g, 0, none⟩) (bs.length + add.length) cap) (bs.length + add.length) (Lib.byteCells bs ++ Lib.byteCells add)) :
    TW mb (bs ++ add) (w6.setCell ⟨mb, 0, none⟩ (.slice (some ⟨g, 0, none⟩) (bs.length + add.length) cap)) ∧ TF mb w (w6.setCell ⟨mb, 0, none⟩ (.slice (some ⟨g, 0, none⟩) (bs.length + add.length) cap)) ∧ Blk w6 mb 60 #[tv, fW mb] := by
  have hmlt := hq.lt
  have hne : some mb ≠ tv.ownBlock := fun e => by have := (ho.lt mb e.symm).1; omega
  have hq1 := hq.below h1 hmlt
  have hq6 : Blk w6 mb 60 #[tv, fW mb] := hq1.keep (hg.block mb (Nat.lt_of_lt_of_le hmlt h1.size) hne)
  have h2 : TF mb w w6 := by
    refine ⟨(h1.mono (Nat.le_of_lt hmlt)).grown hg (Nat.le_trans (Nat.le_of_lt hmlt) h1.size) fun k hk => by have := (ho.lt k hk).1; omega, ?_⟩
    refine (TF.below h1 (Nat.le_of_lt hmlt)).2.grown hg fun k hk => ?_
    obtain ⟨c, fz, hc⟩ := row_kind ho k hk
    exact ⟨c, fz, (h1.block k (ho.lt k hk).2).trans hc⟩
  refine ⟨⟨.slice (some ⟨g, 0, none⟩) (bs.length + add.length) cap, ?_, ?_⟩, h2.set_ 0 _, hq6⟩
  · have h := hq6.set_ 0 (.slice (some ⟨g, 0, none⟩) (bs.length + add.length) cap)
    simpa using h
  · have e1 : (bs ++ add).length = bs.length + add.length := List.length_append
    have e2 : Lib.byteCells (bs ++ add) = Lib.byteCells bs ++ Lib.byteCells add := by simp [Lib.byteCells]
    rw [e1, e2]
    refine ho6.kept (row := some mb) ⟨rfl, rfl, rfl, by simp [World.setCell], fun k _ hk => ?_⟩ (.inr fun e => ?_)
    · exact heap_setCell_other _ _ _ _ fun e => hk (by rw [e])
    · have := (ho6.lt mb e).1
      omega

section
variable {P : Program} (w : World)
/-- 'append' of a string's bytes at a step of a region that draws its order. -/
theorem step_append_str {ops : Array Oper} {o : Oper} {a : Act} {K : Act → World → Prop} {Q : Exit → Act → World → Prop} {E : Prop} (hgd : o.guard = none) (sl x : Operand) (t u : TypeId)
    (ho : o.op = .call { callee := .builtin .append, args := #[sl, x], argTypes := #[t, u] })
    (base : Nat) (e : TypeId) (i : TypeInfo) (ht : P.underlying t = some (.slice e)) (hu : P.underlying u = some .string) (hi : P.info? e = some i) (hz : i.zero = some (.int .u8 0))
    (hsize : i.size = 1) (hby : i.bytes = 1)
    (v : Value) (n : Nat) (xs : List Value) (hs : a.eval sl = v) (hown : w.ownsRow base e 1 v n xs) (s : ByteArray) (hx : a.eval x = .string s)
    (h0 : 0 < s.size) (h63 : n + s.size ≤ maxLen) (hbytes : n + s.size ≤ 140737488355328) (hbase : base ≤ w.heap.size)
    (h : ∀ g cap w', w'.ownsRow base e 1 (.slice (some ⟨g, 0, none⟩) (n + s.size) cap) (n + s.size) (xs ++ Lib.strCells s) → w.grownBy w' v.ownBlock → K (a.put o.dst (.slice (some ⟨g, 0, none⟩) (n + s.size) cap)) w') :
    if Region.wanted o (yielded ops a.tmps) = true then Oper.wp P o a w K Q else E := by
  have hw : Region.wanted o (yielded ops a.tmps) = true := by simp [Region.wanted, hgd]
  rw [if_pos hw]
  obtain ⟨v', w', hr, h2, h3, _⟩ := Lib.run_append_own_string (P := P) w base t u o.type e i ht hu hi hz hsize hby v n xs hown s h63 hbytes hbase
  unfold Oper.wp execOp
  simp only [ho, resolve, invoke, builtin, Sem.run_bind, Sem.run_pure, Result.andThen_ok, List.map_toArray, List.map_cons, List.map_nil, hs, hx, hr]
  rcases h2.2 with ⟨rfl, he⟩ | ⟨g, cap, cur, rfl, _⟩
  · omega
  · exact h g cap w' h2 h3
end
end Go.Proofs.YtihmgodiiohdnaaGreatDoor

/- impl.termWriter: writeTerm, writeList, writeParts. Condition: the nodes lie in memory below the writer and are well-formed; the table of powers of ten in its variable. -/
namespace Go.Proofs.YtihmgodiiohdnaaGreatDoor
open Go.RowKit

theorem TW.step1 {mb g cap : Nat} {bs : List UInt8} {c : UInt8} {x : Int} {w w6 : World} {tv : Value} (hq : Blk w mb 60 #[tv, fW mb]) (ho : w.ownsRow (mb + 1) 5 1 tv bs.length (Lib.byteCells bs)) (hc : (c.toNat : Int) = x)
    (hg : (w.alloc (.cells #[.int .u8 x] 5)).grownBy w6 tv.ownBlock) (ho6 : w6.ownsRow (mb + 1) 5 1 (.slice (some ⟨g, 0, none⟩) (bs.length + 1) cap) (bs.length + 1) (Lib.byteCells bs ++ [.int .u8 x])) :
    TW mb (bs ++ [c]) (w6.setCell ⟨mb, 0, none⟩ (.slice (some ⟨g, 0, none⟩) (bs.length + 1) cap)) ∧ TF mb w (w6.setCell ⟨mb, 0, none⟩ (.slice (some ⟨g, 0, none⟩) (bs.length + 1) cap)) ∧ Blk w6 mb 60 #[tv, fW mb] :=
  TW.step (add := [c]) hq ho ((Below.refl _ _).alloc (Nat.le_refl _) _) hg (by
    have e : Lib.byteCells [c] = [.int .u8 x] := by rw [← hc]; rfl
    rw [e]; exact ho6)
/-- Blocks that a writer leaves: below it, and rows of nodes. -/
def Kp (mb : Nat) (w : World) (g : Nat) : Prop := g < mb ∨ (g ≠ mb ∧ ∃ cs fr, w.heap[g]? = some (.cells cs 115 fr))
theorem Kp.keep {mb g : Nat} {w w' : World} (h : Kp mb w g) (ht : TF mb w w') : Kp mb w' g ∧ ∀ j, w'.cell? ⟨g, j, none⟩ = w.cell? ⟨g, j, none⟩ := by
  rcases h with h | ⟨h, cs, fr, hb⟩
  · exact ⟨.inl h, fun j => ht.1.cell (p := ⟨g, j, none⟩) h⟩
  · have h2 := ht.2 g _ hb (by simpa using h) (fun c fz e => by injection e with _ e2 _; exact absurd e2 (by decide))
    exact ⟨.inr ⟨h, cs, fr, h2⟩, fun j => World.cell?_of_block (h2.trans hb.symm)⟩
/-- A row of nodes that is written. -/
def PR (w : World) (lo hi mb : Nat) (F : Fr) (A : Option Addr) (cap : Nat) : Prop :=
  F.len ≤ cap ∧ cap ≤ maxLen ∧ (0 < F.len → ∃ g, A = some ⟨g, 0, none⟩ ∧ Kp mb w g ∧ ∀ j k n s kids rest, F.drop j = .cons k n s kids rest → ∃ v, w.cell? ⟨g, j, none⟩ = some v ∧ NdV w lo hi k n s kids v)
theorem PR.keep {w w' : World} {lo hi mb : Nat} {F : Fr} {A : Option Addr} {cap : Nat} (h : PR w lo hi mb F A cap) (hh : hi ≤ mb) (ht : TF mb w w') : PR w' lo hi mb F A cap := by
  refine ⟨h.1, h.2.1, fun hp => ?_⟩
  obtain ⟨g, e, hk, hall⟩ := h.2.2 hp
  refine ⟨g, e, (hk.keep ht).1, fun j k n s kids rest hd => ?_⟩
  obtain ⟨v, hc, hv⟩ := hall j k n s kids rest hd
  exact ⟨v, ((hk.keep ht).2 j).trans hc, hv.keep (fun p _ hp => ht.1.cell (by omega)) (Nat.le_refl _) (Nat.le_refl _)⟩
theorem PR.old {w : World} {lo hi mb : Nat} {f : Fr} {A : Option Addr} {cap : Nat} (h : NdS w lo hi f A cap) (hh : hi ≤ mb) : PR w lo hi mb f A cap := by
  refine ⟨h.1, h.2.1, fun hp => ?_⟩
  obtain ⟨b, e, hl, hb, hrow⟩ := h.2.2 hp
  refine ⟨b, e, .inl (by omega), fun j k n s kids rest hd => ?_⟩
  obtain ⟨v, hc, hv⟩ := hrow.elem hd
  rw [Nat.zero_add] at hc
  exact ⟨v, hc, hv⟩
theorem ndesc_at {w : World} {lo hi : Nat} : ∀ (F : Fr) (xs : List Value), NDesc w lo hi F xs → ∀ j k n s kids rest, F.drop j = .cons k n s kids rest → ∃ v, xs[j]? = some v ∧ NdV w lo hi k n s kids v
  | .nil, xs, _, j, k, n, s, kids, rest, hd => by cases j <;> cases hd
  | .cons k' n' s' kids' rest', xs, h, 0, k, n, s, kids, rest, hd => by
    obtain ⟨x, ys, rfl, hx, _⟩ := h
    injection hd with h1 h2 h3 h4 h5
    subst h1 h2 h3 h4
    exact ⟨x, rfl, hx⟩
  | .cons k' n' s' kids' rest', xs, h, j + 1, k, n, s, kids, rest, hd => by
    obtain ⟨x, ys, rfl, _, h2⟩ := h
    obtain ⟨v, hv, hn⟩ := ndesc_at rest' ys h2 j k n s kids rest hd
    exact ⟨v, by simpa using hv, hn⟩
theorem PR.new {w w' : World} {lo hi mb : Nat} {F : Fr} {v : Value} {xs : List Value} (h : w'.ownsRow w.heap.size 115 1 v F.len xs) (hD : NDesc w lo hi F xs) (hb : Below w.heap.size w w') (hh : hi ≤ mb) (hm : mb < w.heap.size) : ∃ A cap, v = .slice A F.len cap ∧ PR w' lo hi mb F A cap := by
  rcases h.2 with ⟨rfl, h0⟩ | ⟨g, cap, cur, rfl, hbg, hg, hnc, hcm, hcs, htake⟩
  · exact ⟨none, 0, by rw [h0], by omega, Nat.zero_le _, fun hp => by omega⟩
  · refine ⟨some ⟨g, 0, none⟩, cap, rfl, hnc, hcm, fun _ => ⟨g, rfl, .inr ⟨by omega, _, _, hg⟩, fun j k n s kids rest hd => ?_⟩⟩
    obtain ⟨u, hu, hn⟩ := ndesc_at F xs hD j k n s kids rest hd
    refine ⟨u, ?_, hn.keep (fun p _ hp => hb.cell (by omega)) (Nat.le_refl _) (Nat.le_refl _)⟩
    have h3 := World.ownsRow.cells h (g := g) rfl j u hu
    have e : (⟨g, 0, none⟩ : Addr).add j = ⟨g, j, none⟩ := by unfold Addr.add; split <;> simp_all
    rwa [e] at h3
/-- What is still to be written of a row, from element j on. -/
def remB (j : Nat) (f : Fr) : List UInt8 := if j = 0 then (match txs f with | [] => [] | t :: ts => t ++ ts.flatMap (fun x => 44 :: x)) else (txs f).flatMap (fun x => 44 :: x)
theorem remB_zero (k n : Int) (s : ByteArray) (kids rest : Fr) : remB 0 (.cons k n s kids rest) = txT k n s kids ++ remB 1 rest := by
  unfold remB
  rw [if_pos rfl, if_neg (by decide), txs_cons]
theorem remB_step (j : Nat) (hj : j ≠ 0) (k n : Int) (s : ByteArray) (kids rest : Fr) : remB j (.cons k n s kids rest) = 44 :: (txT k n s kids ++ remB (j + 1) rest) := by
  unfold remB
  rw [if_neg hj, if_neg (by omega), txs_cons, List.flatMap_cons]
  rfl
theorem remB_nil (j : Nat) : remB j .nil = [] := by unfold remB; split <;> rfl
theorem moreB_rem (f : Fr) (h : f.len ≠ 0) : moreB 0 f = 40 :: remB 0 f := by
  cases f with
  | nil => exact absurd rfl h
  | cons k n s kids rest => rfl
theorem fr_facts (N : Nat) : ∀ (k n : Int) (s : ByteArray) (f : Fr) (d : Int), f.size ≤ N → shapeT k n s f d = true → shapeF (fronts k s f) d = true ∧ (∀ j k' n' s' kids rest, (fronts k s f).drop j = .cons k' n' s' kids rest → kids.size < f.size) ∧ ∀ k' n' s' f', tails k n s f = .cons k' n' s' f' .nil → shapeT k' n' s' f' d = true ∧ f'.size ≤ f.size ∧ (pairB k s f.len = true → f'.size < f.size) := by
  induction N with
  | zero =>
    intro k n s f d hf hs
    have hp : pairB k s f.len = false := by
      cases f with
      | nil => unfold pairB; simp [Fr.len]
      | cons _ _ _ _ _ => simp [Fr.size] at hf
    rw [(pair_no n hp).1, (pair_no n hp).2]
    refine ⟨rfl, fun j _ _ _ _ _ h => by (cases j <;> cases h), fun k' n' s' f' h => ?_⟩
    simp only [Fr.cons.injEq, and_true] at h
    obtain ⟨rfl, rfl, rfl, rfl⟩ := h
    exact ⟨hs, Nat.le_refl _, fun e => by rw [hp] at e; cases e⟩
  | succ N ih =>
    intro k n s f d hf hs
    cases hp : pairB k s f.len
    · rw [(pair_no n hp).1, (pair_no n hp).2]
      refine ⟨rfl, fun j _ _ _ _ _ h => by (cases j <;> cases h), fun k' n' s' f' h => ?_⟩
      simp only [Fr.cons.injEq, and_true] at h
      obtain ⟨rfl, rfl, rfl, rfl⟩ := h
      exact ⟨hs, Nat.le_refl _, fun e => by cases e⟩
    · obtain ⟨k1, n1, s1, kd1, k2, n2, s2, kd2, rfl, hfr, htl⟩ := pair_yes n hp
      have hk := shapeT_kids hs
      rw [shapeF_cons, shapeF_cons, Bool.and_eq_true, Bool.and_eq_true] at hk
      have up : ∀ {k n : Int} {s : ByteArray} {f : Fr}, shapeT k n s f (d - 1) = true → shapeT k n s f d = true := fun {k n s f} h => by
        have := shapeF_mono (.cons k n s f .nil) (d - 1) d (by omega) (by rw [shapeF_cons, h]; rfl)
        rw [shapeF_cons, Bool.and_eq_true] at this
        exact this.1
      simp only [Fr.size] at hf
      obtain ⟨a1, a2, a3⟩ := ih k2 n2 s2 kd2 d (by omega) (up hk.2.1)
      rw [hfr, htl]
      refine ⟨by rw [shapeF_cons, up hk.1, a1]; rfl, fun j k' n' s' kids rest h => ?_, fun k' n' s' f' h => ?_⟩
      · cases j with
        | zero =>
          injection h with h1 h2 h3 h4 h5
          subst h4
          simp only [Fr.size]; omega
        | succ j =>
          have := a2 j k' n' s' kids rest h
          simp only [Fr.size]; omega
      · obtain ⟨b1, b2, _⟩ := a3 k' n' s' f' h
        exact ⟨b1, by simp only [Fr.size]; omega, fun _ => by simp only [Fr.size]; omega⟩

abbrev Pow10 (mb : Nat) (w : World) : Prop := Lib.TabBelow Tryz.prog mb w "internal/strconv.uint64pow10" .u64 Lib.pow10Tab
def TwC (s : ByteArray) (f : Fr) : Prop := ∀ (k n d : Int) (v : Value) (lo hi mb : Nat) (bs : List UInt8) (w : World), shapeT k n s f d = true → NdV w lo hi k n s f v → hi ≤ mb → TW mb bs w → bs.length + (txT k n s f).length ≤ 1073741824 → Pow10 mb w → nodes f ≤ 1048576 →
  Calls Tryz.prog 53 #[.pointer (some ⟨mb, 0, none⟩), v] w fun e w' => e = .returned (.tuple #[]) ∧ TW mb (bs ++ txT k n s f) w' ∧ TF mb w w'

set_option maxRecDepth 100000 in
set_option maxHeartbeats 4000000 in
/-- termWriter.writeParts. -/
theorem parts_of (F : Fr) (h : ∀ j k n s kids rest, F.drop j = .cons k n s kids rest → TwC s kids) (d : Int) (A : Option Addr) (cap lo hi mb : Nat) (bs : List UInt8) (w : World) (hs : shapeF F d = true) (hp : PR w lo hi mb F A cap) (hh : hi ≤ mb) (hw : TW mb bs w) (hl : bs.length + (remB 0 F).length ≤ 1073741824) (ht : Pow10 mb w) (hnd : nodes F ≤ 1048576) :
    Calls Tryz.prog 71 #[.pointer (some ⟨mb, 0, none⟩), .slice A F.len cap] w fun e w' => e = .returned (.tuple #[]) ∧ TW mb (bs ++ remB 0 F) w' ∧ TF mb w w' := by
  have hlen : F.len ≤ 1048576 := by have := len_le_nodes F; omega
  obtain ⟨i0, hi0, hz0, hz1, hz2⟩ := info_parts infoU8
  have HP := Lib.hid hp
  have HH := Lib.hid h
  have HS := Lib.hid hs
  have HHI := Lib.hid hh
  have HW := Lib.hid hw
  have HL := Lib.hid hl
  have HT := Lib.hid ht
  have HND := Lib.hid hnd
  clear h hs hp hh hw hl ht hnd
  generalize hn : F.len = len at *
  have HN := Lib.hid hn
  clear hn
  go_enter Tryz.func71, Tryz.ntmps71
  go_wp2_with fail
  go_loopw [8] (fun i wr => ∃ (j : Nat) (b2 : List UInt8), j ≤ len ∧ i = .int .i64 j ∧ TW mb b2 wr ∧ TF mb w wr ∧ b2 ++ remB j (F.drop j) = bs ++ remB 0 F) (fun i _ => len - (intOf i).toNat)
  case atStart => exact ⟨0, bs, Nat.zero_le _, rfl, HW.out, TF.refl _ _, rfl⟩
  case round =>
    obtain ⟨j, b2, hj, rfl, hw, htf, hb⟩ := hrel
    by_cases hlt : j < len
    · obtain ⟨kk, nn, ss, kids, hd⟩ := Fr.drop_cons j F (by rw [HN.out]; exact hlt)
      have hp := HP.out.keep HHI.out htf
      obtain ⟨g, rfl, hkp, hall⟩ := hp.2.2 (by rw [HN.out]; omega)
      obtain ⟨gv, hc, hv⟩ := hall j _ _ _ _ _ hd
      have hsh := shape_drop F j d hd HS.out
      have C := HH.out j _ _ _ _ _ hd
      rw [hd] at hb
      obtain ⟨tv, hq, ho⟩ := hw
      obtain ⟨A0, c0, rfl, hc1, hc2⟩ := row_form ho
      have y0 := hq.cell 0
      have y1 := hq.cell 1
      have yf := hq.frozen 0
      simp only [List.getElem?_toArray, List.getElem?_cons_zero, List.getElem?_cons_succ] at y0 y1
      unfold fW at y1
      have hmw := hq.lt
      have hndk : nodes kids ≤ 1048576 := Nat.le_trans (nodes_drop_elem j F hd) HND.out
      have HBB := Lib.hid hb
      have HTF := Lib.hid htf
      have HV := Lib.hid hv
      have HSH := Lib.hid hsh
      have HC := Lib.hid C
      have HO := Lib.hid ho
      have HQ := Lib.hid hq
      have HNK := Lib.hid hndk
      obtain ⟨T0, x0, rfl⟩ := hv.iface
      have hbl := congrArg List.length hb
      clear hb htf hv hsh C ho hq hall hkp hp hndk hd
      have hBL := HL.out
      by_cases hj0 : j = 0
      · subst hj0
        have hstep : b2 ++ (txT kk nn ss kids ++ remB 1 (F.drop 1)) = bs ++ remB 0 F := by have := HBB.out; rwa [remB_zero] at this
        have HST := Lib.hid hstep
        have hll : b2.length + (txT kk nn ss kids).length ≤ 1073741824 := by have := congrArg List.length hstep; simp only [List.length_append] at this; omega
        have C2 := HC.out kk nn d (.iface T0 x0) lo hi mb b2 wr HSH.out HV.out HHI.out ⟨_, HQ.out, HO.out⟩ hll (HT.out.on HTF.out.1) HNK.out
        have H2 := Lib.hid C2
        clear C2 hstep hbl hll
        go_wp2_with fail
        refine H2.out.mono ?_
        rintro e w3 ⟨rfl, hw3, htf3⟩
        have HW3 := Lib.hid hw3
        have HTF3 := Lib.hid (HTF.out.trans htf3)
        have HE3 : Hid ((b2 ++ txT kk nn ss kids) ++ remB (0 + 1) (F.drop (0 + 1)) = bs ++ remB 0 F) := Lib.hid (by rw [List.append_assoc]; exact HST.out)
        clear hw3 htf3
        go_wp2_with fail
        go_roundw
        case rel => exact ⟨0 + 1, _, by omega, by go_num, HW3.out, HTF3.out, HE3.out⟩
        case measure => simp [intOf]; omega
      · have hstep : b2 ++ 44 :: (txT kk nn ss kids ++ remB (j + 1) (F.drop (j + 1))) = bs ++ remB 0 F := by have := HBB.out; rwa [remB_step j hj0] at this
        have HST := Lib.hid hstep
        have hll : b2.length + 1 + (txT kk nn ss kids).length ≤ 1073741824 := by have := congrArg List.length hstep; simp only [List.length_append, List.length_cons] at this; omega
        have hjp : (0 : Int) < j := by omega
        clear hstep hbl
        go_wp2_with (at_builtin; go_must (refine wpList_append_lies _ rfl _ _ _ rfl (mb + 1) 5 i0 _ 1 1 Tryz.underlying22 hi0 hz0 hz1 hz2 rfl (by omega) _ (b2).length (Lib.byteCells (b2)) rfl (HO.out.alloc _) ⟨wr.heap.size, 0, none⟩ 1 1 [.int .u8 44] rfl rfl (World.news_of_block (cs := #[.int .u8 44]) (t := 5) (fr := (0, 0)) (Blk.new wr 5 #[.int .u8 44])) (by simp [Value.oneCell']) (by omega) (by unfold maxLen; omega) (by omega) (by simp; omega) (wr.heap.size + 1) (by simp) ?_); intro g9 cap9 w9 hown9 hgrow9 _ _; have hst9 := TW.step1 (c := 44) HQ.out HO.out rfl hgrow9 hown9; have y9 := hst9.2.2.cell 0; have yf9 := hst9.2.2.frozen 0; simp only [List.getElem?_toArray, List.getElem?_cons_zero] at y9; have HS9 := Lib.hid (And.intro hst9.1 hst9.2.1); clear hown9 hgrow9 hst9; refine Hid.out ?_)
        refine Lib.hid ?_
        have HTF9 := HTF.out.trans HS9.out.2
        obtain ⟨tv9, hq9, ho9⟩ := HS9.out.1
        have C2 := HC.out kk nn d (.iface T0 x0) lo hi mb (b2 ++ [44]) _ HSH.out (HV.out.keep (fun p _ hp => HS9.out.2.1.cell (by have := HHI.out; omega)) (Nat.le_refl _) (Nat.le_refl _)) HHI.out HS9.out.1 (by simp only [List.length_append, List.length_cons, List.length_nil]; omega) (HT.out.on HTF9.1) HNK.out
        have z1 := hq9.cell 1
        simp only [List.getElem?_toArray, List.getElem?_cons_zero, List.getElem?_cons_succ] at z1
        unfold fW at z1
        have H2 := Lib.hid C2
        have HTF10 := Lib.hid HTF9
        clear C2 HTF9 hq9 ho9
        go_wp2_with fail
        refine H2.out.mono ?_
        rintro e w3 ⟨rfl, hw3, htf3⟩
        have HW3 := Lib.hid hw3
        have HTF3 := Lib.hid (HTF10.out.trans htf3)
        have HE3 : Hid ((b2 ++ [44] ++ txT kk nn ss kids) ++ remB (j + 1) (F.drop (j + 1)) = bs ++ remB 0 F) := Lib.hid (by rw [← HST.out]; simp)
        clear hw3 htf3
        go_wp2_with fail
        go_roundw
        case rel => exact ⟨j + 1, _, by omega, by go_num, HW3.out, HTF3.out, HE3.out⟩
        case measure => simp [intOf]; omega
    · obtain rfl : j = len := by omega
      have hfin : b2 = bs ++ remB 0 F := by
        have h1 := Fr.drop_len F
        rw [HN.out] at h1
        rw [← hb, h1, remB_nil, List.append_nil]
      have HFN : Hid (TW mb (bs ++ remB 0 F) wr ∧ TF mb w wr) := Lib.hid (by rw [← hfin]; exact ⟨hw, htf⟩)
      clear hw htf hb hfin
      go_wp2_with fail
      go_end0
      exact ⟨rfl, HFN.out⟩
end Go.Proofs.YtihmgodiiohdnaaGreatDoor

/- impl.termWriter: writeList, writeTerm. Condition: the nodes lie in memory below the writer and are well-formed; the table of powers of ten in its variable. -/
namespace Go.Proofs.YtihmgodiiohdnaaGreatDoor
open Go.RowKit

theorem txT_rem {k n : Int} {s : ByteArray} {f : Fr} (hp : pairB k s f.len = true) {k' n' : Int} {s' : ByteArray} {f' : Fr} (ht : tails k n s f = .cons k' n' s' f' .nil) : txT k n s f = 91 :: (remB 0 (fronts k s f) ++ (endB k' n' s' f' ++ [93])) := by
  obtain ⟨k1, n1, s1, kd1, r, hf, hx⟩ := txT_list hp ht
  rw [hx, hf, remB_zero]
  unfold remB
  rw [if_neg (by decide)]
  simp
set_option maxRecDepth 100000 in
set_option maxHeartbeats 4000000 in
/-- termWriter.writeList. -/
theorem wlist_of (k n d : Int) (s : ByteArray) (f : Fr) (hp : pairB k s f.len = true) (hs : shapeT k n s f d = true) (h : ∀ s' f', f'.size < f.size → TwC s' f') (A : Option Addr) (cap lo hi mb : Nat) (bs : List UInt8) (w : World) (hr : PR w lo hi mb (fronts k s f) A cap)
    (k' n' : Int) (s' : ByteArray) (f' : Fr) (htl : tails k n s f = .cons k' n' s' f' .nil) (v : Value) (hv : NdV w lo hi k' n' s' f' v) (hh : hi ≤ mb) (hw : TW mb bs w) (hl : bs.length + (txT k n s f).length ≤ 1073741824) (ht : Pow10 mb w) (hnf : nodes (fronts k s f) ≤ 1048576) (hnt : nodes f' ≤ 1048576) :
    Calls Tryz.prog 70 #[.pointer (some ⟨mb, 0, none⟩), .slice A (fronts k s f).len cap, v] w fun e w' => e = .returned (.tuple #[]) ∧ TW mb (bs ++ txT k n s f) w' ∧ TF mb w w' := by
  obtain ⟨i0, hi0, hz0, hz1, hz2⟩ := info_parts infoU8
  obtain ⟨a1, a2, a3⟩ := fr_facts f.size k n s f d (Nat.le_refl _) hs
  obtain ⟨b1, _, b3⟩ := a3 k' n' s' f' htl
  have hb3 := b3 hp
  have hT := txT_rem hp htl
  rw [hT] at hl ⊢
  simp only [List.length_cons, List.length_append, List.length_nil] at hl
  have hm0 : mb < w.heap.size := by obtain ⟨_, hq, _⟩ := hw; exact hq.lt
  have C1 := fun wx (htf : TF mb w wx) (hw : TW mb (bs ++ [91]) wx) => parts_of (fronts k s f) (fun j k n s kids rest hd => h s kids (a2 j k n s kids rest hd)) d A cap lo hi mb (bs ++ [91]) wx a1 (hr.keep hh htf) hh hw (by simp only [List.length_append, List.length_cons, List.length_nil]; omega) (ht.on htf.1) hnf
  have C2 := fun wx (htf : TF mb w wx) => emptyList_any k' n' s' f' v lo hi wx (hv.keep (fun p _ hp => htf.1.cell (by omega)) (Nat.le_refl _) (Nat.le_refl _))
  have C3 := fun wx b2 (htf : TF mb w wx) (hw : TW mb b2 wx) (hl : b2.length + (txT k' n' s' f').length ≤ 1073741824) => h s' f' hb3 k' n' d v lo hi mb b2 wx b1 (hv.keep (fun p _ hp => htf.1.cell (by omega)) (Nat.le_refl _) (Nat.le_refl _)) hh hw hl (ht.on htf.1) hnt
  have HE : Hid (endB k' n' s' f' = if nilB k' s' f'.len = true then [] else 124 :: txT k' n' s' f') := Lib.hid rfl
  obtain ⟨T0, x0, rfl⟩ := hv.iface
  have H1 := Lib.hid C1
  have H3 := Lib.hid C3
  generalize remB 0 (fronts k s f) = RB at *
  generalize (fronts k s f).len = fl at *
  clear C1 C3 hp hs h hr hh ht hnf hnt a1 a2 a3 b1 b3 hb3 hT htl hv
  obtain ⟨tv0, hq0, ho0⟩ := hw
  obtain ⟨A0, c0, rfl, _, _⟩ := row_form ho0
  have p00 := hq0.cell 0
  have p10 := hq0.cell 1
  have pf0 := hq0.frozen 0
  simp only [List.getElem?_toArray, List.getElem?_cons_zero, List.getElem?_cons_succ] at p00 p10
  unfold fW at p10
  have hm0 := hq0.lt
  have HO0 := Lib.hid ho0
  have HQ0 := Lib.hid hq0
  clear hq0 ho0
  go_enter Tryz.func70, Tryz.ntmps70
  go_wp2_with (at_builtin; go_must (refine wpList_append_lies _ rfl _ _ _ rfl (mb + 1) 5 i0 _ 1 1 Tryz.underlying22 hi0 hz0 hz1 hz2 rfl (by omega) _ (bs).length (Lib.byteCells (bs)) rfl (HO0.out.alloc _) ⟨w.heap.size, 0, none⟩ 1 1 [.int .u8 91] rfl rfl (World.news_of_block (cs := #[.int .u8 91]) (t := 5) (fr := (0, 0)) (Blk.new w 5 #[.int .u8 91])) (by simp [Value.oneCell']) (by omega) (by unfold maxLen; omega) (by omega) (by simp; omega) (w.heap.size + 1) (by simp) ?_); intro g1 cap1 w1 hown1 hgrow1 _ _; have hst1 := TW.step1 (c := 91) HQ0.out HO0.out rfl hgrow1 hown1; have y1 := hst1.2.2.cell 0; have yf1 := hst1.2.2.frozen 0; simp only [List.getElem?_toArray, List.getElem?_cons_zero] at y1; have HS1 := Lib.hid (And.intro hst1.1 hst1.2.1); clear hown1 hgrow1 hst1; refine Hid.out ?_)
  refine Lib.hid ?_
  have HTF1 := Lib.hid HS1.out.2
  have hA1 := HS1.out.1
  have C4 := H1.out _ HTF1.out hA1
  have H4 := Lib.hid C4
  clear C4 hA1
  go_wp2_with fail
  refine H4.out.mono ?_
  rintro e w2 ⟨rfl, hw2, htf2⟩
  have HW2 := Lib.hid hw2
  have HTF2 := Lib.hid (HTF1.out.trans htf2)
  have C5 := C2 w2 HTF2.out
  have H5 := Lib.hid C5
  clear hw2 htf2 C5 C2
  go_wp2_with fail
  refine H5.out.mono ?_
  rintro e w3 ⟨rfl, hb3⟩
  have hmb2 : mb ≤ w2.heap.size := Nat.le_trans (Nat.le_of_lt hm0) HTF2.out.1.size
  have HW3 := Lib.hid (HW2.out.below hb3)
  have HTF3 := Lib.hid (HTF2.out.trans (TF.below hb3 hmb2))
  clear hb3
  cases hnil : nilB k' s' f'.len
  · have HEE : Hid (endB k' n' s' f' = 124 :: txT k' n' s' f') := Lib.hid (by rw [HE.out, hnil]; rfl)
    rw [HEE.out] at hl
    simp only [List.length_cons] at hl
    have hz3 : (bs ++ [91] ++ RB).length + (txT k' n' s' f').length + 1 ≤ 1073741824 := by simp only [List.length_append, List.length_cons, List.length_nil]; omega
    have hw3 := HW3.out
    generalize hB3 : bs ++ [91] ++ RB = B3 at *
    have HB3 := Lib.hid hB3
    clear hB3
    clear hnil
    obtain ⟨tv3, hq3, ho3⟩ := hw3
    obtain ⟨A3, c3, rfl, _, _⟩ := row_form ho3
    have p03 := hq3.cell 0
    have p13 := hq3.cell 1
    have pf3 := hq3.frozen 0
    simp only [List.getElem?_toArray, List.getElem?_cons_zero, List.getElem?_cons_succ] at p03 p13
    unfold fW at p13
    have hm3 := hq3.lt
    have HO3 := Lib.hid ho3
    have HQ3 := Lib.hid hq3
    clear hq3 ho3
    go_wp2_with (at_builtin; go_must (refine wpList_append_lies _ rfl _ _ _ rfl (mb + 1) 5 i0 _ 1 1 Tryz.underlying22 hi0 hz0 hz1 hz2 rfl (by omega) _ (B3).length (Lib.byteCells (B3)) rfl (HO3.out.alloc _) ⟨w3.heap.size, 0, none⟩ 1 1 [.int .u8 124] rfl rfl (World.news_of_block (cs := #[.int .u8 124]) (t := 5) (fr := (0, 0)) (Blk.new w3 5 #[.int .u8 124])) (by simp [Value.oneCell']) (by omega) (by unfold maxLen; omega) (by omega) (by simp; omega) (w3.heap.size + 1) (by simp) ?_); intro g4 cap4 w4 hown4 hgrow4 _ _; have hst4 := TW.step1 (c := 124) HQ3.out HO3.out rfl hgrow4 hown4; have y4 := hst4.2.2.cell 0; have yf4 := hst4.2.2.frozen 0; simp only [List.getElem?_toArray, List.getElem?_cons_zero] at y4; have HS4 := Lib.hid (And.intro hst4.1 hst4.2.1); clear hown4 hgrow4 hst4; refine Hid.out ?_)
    refine Lib.hid ?_
    have HTF4 := Lib.hid (HTF3.out.trans HS4.out.2)
    obtain ⟨tv5, hq5, _⟩ := HS4.out.1
    have p15 := hq5.cell 1
    simp only [List.getElem?_toArray, List.getElem?_cons_zero, List.getElem?_cons_succ] at p15
    unfold fW at p15
    have C6 := H3.out _ _ HTF4.out HS4.out.1 (by simp only [List.length_append, List.length_cons, List.length_nil]; omega)
    have H6 := Lib.hid C6
    clear C6 hq5
    go_wp2_with fail
    refine H6.out.mono ?_
    rintro e w6 ⟨rfl, hw6, htf6⟩
    have HTF6 := Lib.hid (HTF4.out.trans htf6)
    have hz6 : (B3 ++ [124] ++ txT k' n' s' f').length ≤ 1073741824 := by simp only [List.length_append, List.length_cons, List.length_nil]; omega
    clear htf6
    generalize hB6 : B3 ++ [124] ++ txT k' n' s' f' = B6 at *
    have HB6 := Lib.hid hB6
    clear hB6
    obtain ⟨tv6, hq6, ho6⟩ := hw6
    obtain ⟨A6, c6, rfl, _, _⟩ := row_form ho6
    have p06 := hq6.cell 0
    have p16 := hq6.cell 1
    have pf6 := hq6.frozen 0
    simp only [List.getElem?_toArray, List.getElem?_cons_zero, List.getElem?_cons_succ] at p06 p16
    unfold fW at p16
    have hm6 := hq6.lt
    have HO6 := Lib.hid ho6
    have HQ6 := Lib.hid hq6
    clear hq6 ho6
    go_wp2_with (at_builtin; go_must (refine wpList_append_lies _ rfl _ _ _ rfl (mb + 1) 5 i0 _ 1 1 Tryz.underlying22 hi0 hz0 hz1 hz2 rfl (by omega) _ (B6).length (Lib.byteCells (B6)) rfl (HO6.out.alloc _) ⟨w6.heap.size, 0, none⟩ 1 1 [.int .u8 93] rfl rfl (World.news_of_block (cs := #[.int .u8 93]) (t := 5) (fr := (0, 0)) (Blk.new w6 5 #[.int .u8 93])) (by simp [Value.oneCell']) (by omega) (by unfold maxLen; omega) (by omega) (by simp; omega) (w6.heap.size + 1) (by simp) ?_); intro g7 cap7 w7 hown7 hgrow7 _ _; have hst7 := TW.step1 (c := 93) HQ6.out HO6.out rfl hgrow7 hown7; have y7 := hst7.2.2.cell 0; have yf7 := hst7.2.2.frozen 0; simp only [List.getElem?_toArray, List.getElem?_cons_zero] at y7; have HS7 := Lib.hid (And.intro hst7.1 hst7.2.1); clear hown7 hgrow7 hst7; refine Hid.out ?_)
    refine Lib.hid ?_
    have HFN : Hid (TW mb (bs ++ 91 :: (RB ++ (endB k' n' s' f' ++ [93]))) _ ∧ TF mb w _) := Lib.hid ⟨by
      have e : B6 ++ [93] = bs ++ 91 :: (RB ++ (endB k' n' s' f' ++ [93])) := by rw [← HB6.out, ← HB3.out, HEE.out]; simp
      rw [← e]; exact HS7.out.1, HTF6.out.trans HS7.out.2⟩
    go_wp2_with fail
    go_end0
    exact ⟨rfl, HFN.out⟩
  · have HEE : Hid (endB k' n' s' f' = []) := Lib.hid (by rw [HE.out, hnil]; rfl)
    have hz3 : (bs ++ [91] ++ RB).length ≤ 1073741824 := by simp only [List.length_append, List.length_cons, List.length_nil]; omega
    have hw3 := HW3.out
    generalize hB3 : bs ++ [91] ++ RB = B3 at *
    have HB3 := Lib.hid hB3
    clear hB3
    clear hnil
    obtain ⟨tv8, hq8, ho8⟩ := hw3
    obtain ⟨A8, c8, rfl, _, _⟩ := row_form ho8
    have p08 := hq8.cell 0
    have p18 := hq8.cell 1
    have pf8 := hq8.frozen 0
    simp only [List.getElem?_toArray, List.getElem?_cons_zero, List.getElem?_cons_succ] at p08 p18
    unfold fW at p18
    have hm8 := hq8.lt
    have HO8 := Lib.hid ho8
    have HQ8 := Lib.hid hq8
    clear hq8 ho8
    go_wp2_with (at_builtin; go_must (refine wpList_append_lies _ rfl _ _ _ rfl (mb + 1) 5 i0 _ 1 1 Tryz.underlying22 hi0 hz0 hz1 hz2 rfl (by omega) _ (B3).length (Lib.byteCells (B3)) rfl (HO8.out.alloc _) ⟨w3.heap.size, 0, none⟩ 1 1 [.int .u8 93] rfl rfl (World.news_of_block (cs := #[.int .u8 93]) (t := 5) (fr := (0, 0)) (Blk.new w3 5 #[.int .u8 93])) (by simp [Value.oneCell']) (by omega) (by unfold maxLen; omega) (by omega) (by simp; omega) (w3.heap.size + 1) (by simp) ?_); intro g9 cap9 w9 hown9 hgrow9 _ _; have hst9 := TW.step1 (c := 93) HQ8.out HO8.out rfl hgrow9 hown9; have y9 := hst9.2.2.cell 0; have yf9 := hst9.2.2.frozen 0; simp only [List.getElem?_toArray, List.getElem?_cons_zero] at y9; have HS9 := Lib.hid (And.intro hst9.1 hst9.2.1); clear hown9 hgrow9 hst9; refine Hid.out ?_)
    refine Lib.hid ?_
    have HFN : Hid (TW mb (bs ++ 91 :: (RB ++ (endB k' n' s' f' ++ [93]))) _ ∧ TF mb w _) := Lib.hid ⟨by
      have e : B3 ++ [93] = bs ++ 91 :: (RB ++ (endB k' n' s' f' ++ [93])) := by rw [← HB3.out, HEE.out]; simp
      rw [← e]; exact HS9.out.1, HTF3.out.trans HS9.out.2⟩
    go_wp2_with fail
    go_end0
    exact ⟨rfl, HFN.out⟩
end Go.Proofs.YtihmgodiiohdnaaGreatDoor

/- impl.termWriter: writeTerm at every node; impl.FormatTerm. Condition: the nodes lie in memory below the writer and are well-formed; the table of powers of ten in its variable. -/
namespace Go.Proofs.YtihmgodiiohdnaaGreatDoor
open Go.RowKit

theorem appInt_any (B n : Nat) (i : Int) (h0 : -9223372036854775808 ≤ i) (h1 : i ≤ 9223372036854775807) (sv : Value) (xs : List Value) (w : World) (hown : w.ownsRow B 5 1 sv n xs) (hBw : B ≤ w.heap.size) (hlim : n + 21 ≤ 140737488355328)
    (htab : Lib.TabBelow Tryz.prog B w "internal/strconv.uint64pow10" .u64 Lib.pow10Tab) :
    Calls Tryz.prog 68 #[sv, .int .i64 i, .int .i64 10] w fun e w' => ∃ v', e = .returned v' ∧ w'.ownsRow B 5 1 v' (n + (Lib.itoa i).length) (xs ++ Lib.byteCells (Lib.itoa i)) ∧ Below B w w' ∧ Lib.OthersKept 5 none w w' := Any.strconv_AppendInt_10 laysAI B n i h0 h1 sv xs w hown hBw hlim htab
theorem byteCells_app (a b : List UInt8) : Lib.byteCells (a ++ b) = Lib.byteCells a ++ Lib.byteCells b := by simp [Lib.byteCells]

theorem name_pos3 {l : List UInt8} (h : nv.nameB l = true) : l ≠ [] := fun e => by subst e; exact absurd h (by decide)
theorem TF.blk {mb g : Nat} {t : TypeId} {cs : Array Value} {w w' : World} (h : TF mb w w') (hq : Blk w g t cs) (hg : g ≠ mb) (ht : t ≠ 5) : Blk w' g t cs :=
  hq.keep ((h.2 g _ hq (by simpa using hg) fun c fz e => by injection e with _ e2 _; exact ht e2).trans hq.symm)
theorem TW.mid {mb : Nat} {bs : List UInt8} {w w1 w6 : World} {tv : Value} (hq : Blk w mb 60 #[tv, fW mb]) (ho : w.ownsRow (mb + 1) 5 1 tv bs.length (Lib.byteCells bs)) (h1 : Below w.heap.size w w1) (hg : w1.grownBy w6 tv.ownBlock) : TF mb w w6 := by
  have hmlt := hq.lt
  refine ⟨(h1.mono (Nat.le_of_lt hmlt)).grown hg (Nat.le_trans (Nat.le_of_lt hmlt) h1.size) fun k hk => by have := (ho.lt k hk).1; omega, ?_⟩
  refine (TF.below h1 (Nat.le_of_lt hmlt)).2.grown hg fun k hk => ?_
  obtain ⟨c, fz, hc⟩ := row_kind ho k hk
  exact ⟨c, fz, (h1.block k (ho.lt k hk).2).trans hc⟩
theorem fr_nodes (N : Nat) : ∀ (k n : Int) (s : ByteArray) (f : Fr), f.size ≤ N → nodes (fronts k s f) ≤ nodes f ∧ ∀ k' n' s' f', tails k n s f = .cons k' n' s' f' .nil → nodes f' ≤ nodes f := by
  induction N with
  | zero =>
    intro k n s f hf
    have hp : pairB k s f.len = false := by
      cases f with
      | nil => unfold pairB; simp [Fr.len]
      | cons _ _ _ _ _ => simp [Fr.size] at hf
    rw [(pair_no n hp).1, (pair_no n hp).2]
    refine ⟨Nat.zero_le _, fun k' n' s' f' h => ?_⟩
    simp only [Fr.cons.injEq, and_true] at h
    obtain ⟨rfl, rfl, rfl, rfl⟩ := h
    exact Nat.le_refl _
  | succ N ih =>
    intro k n s f hf
    cases hp : pairB k s f.len
    · rw [(pair_no n hp).1, (pair_no n hp).2]
      refine ⟨Nat.zero_le _, fun k' n' s' f' h => ?_⟩
      simp only [Fr.cons.injEq, and_true] at h
      obtain ⟨rfl, rfl, rfl, rfl⟩ := h
      exact Nat.le_refl _
    · obtain ⟨k1, n1, s1, kd1, k2, n2, s2, kd2, rfl, hfr, htl⟩ := pair_yes n hp
      simp only [Fr.size] at hf
      obtain ⟨a1, a2⟩ := ih k2 n2 s2 kd2 (by omega)
      rw [hfr, htl]
      refine ⟨by simp only [nodes]; omega, fun k' n' s' f' h => ?_⟩
      have := a2 k' n' s' f' h
      simp only [nodes]; omega

set_option maxRecDepth 100000 in
set_option maxHeartbeats 8000000 in
/-- termWriter.writeTerm. -/
theorem wterm_of (s : ByteArray) (f : Fr) (h : ∀ s' f', f'.size < f.size → TwC s' f') : TwC s f := by
  intro k n d v lo hi mb bs w hs hv hh hw hl ht hnd
  obtain ⟨i0, hi0, hz0, hz1, hz2⟩ := info_parts infoU8
  have hm0 : mb < w.heap.size := by obtain ⟨_, hq, _⟩ := hw; exact hq.lt
  have hkind := shapeT_kind3 hs
  rcases hv with ⟨rfl, rfl⟩ | ⟨rfl, rfl⟩ | ⟨rfl, A, cap, rfl, hnds⟩
  · have hn : 0 ≤ n ∧ n ≤ 25 := by omega
    have hT : Hid (txT 1 n s f = [UInt8.ofNat (65 + n.toNat)]) := Lib.hid (txT_var n s f)
    have hc : ((UInt8.ofNat (65 + n.toNat)).toNat : Int) = 65 + n := by rw [UInt8.toNat_ofNat']; omega
    have HC := Lib.hid hc
    have hl2 : bs.length ≤ 1073741824 := by omega
    generalize UInt8.ofNat (65 + n.toNat) = ch at *
    clear h hs hl ht hnd hkind hc
    obtain ⟨hn0, hn1⟩ := hn
    obtain ⟨tv1, hq1, ho1⟩ := hw
    obtain ⟨A1, c1, rfl, _, _⟩ := row_form ho1
    have p01 := hq1.cell 0
    have p11 := hq1.cell 1
    have pf1 := hq1.frozen 0
    simp only [List.getElem?_toArray, List.getElem?_cons_zero, List.getElem?_cons_succ] at p01 p11
    unfold fW at p11
    have hm1 := hq1.lt
    have HO1 := Lib.hid ho1
    have HQ1 := Lib.hid hq1
    clear hq1 ho1
    go_enter Tryz.func53, Tryz.ntmps53
    go_wp2_with (at_builtin; go_must (refine wpList_append_lies _ rfl _ _ _ rfl (mb + 1) 5 i0 _ 1 1 Tryz.underlying22 hi0 hz0 hz1 hz2 rfl (by omega) _ (bs).length (Lib.byteCells (bs)) rfl (HO1.out.alloc _) ⟨w.heap.size, 0, none⟩ 1 1 [.int .u8 (65 + n)] rfl rfl (World.news_of_block (cs := #[.int .u8 (65 + n)]) (t := 5) (fr := (0, 0)) (Blk.new w 5 #[.int .u8 (65 + n)])) (by simp [Value.oneCell']) (by omega) (by unfold maxLen; omega) (by omega) (by simp; omega) (w.heap.size + 1) (by simp) ?_); intro g1 cap1 w1 hown1 hgrow1 _ _; have hst1 := TW.step1 (c := ch) HQ1.out HO1.out HC.out hgrow1 hown1; have y1 := hst1.2.2.cell 0; have yf1 := hst1.2.2.frozen 0; simp only [List.getElem?_toArray, List.getElem?_cons_zero] at y1; have HS1 := Lib.hid (And.intro hst1.1 hst1.2.1); clear hown1 hgrow1 hst1; refine Hid.out ?_)
    refine Lib.hid ?_
    have HFN : Hid (TW mb (bs ++ txT 1 n s f) _ ∧ TF mb w _) := Lib.hid ⟨by rw [hT.out]; exact HS1.out.1, HS1.out.2⟩
    go_wp2_with fail
    go_end0
    exact ⟨rfl, HFN.out⟩
  · have hn : -999 ≤ n ∧ n ≤ 999 := by omega
    have hT : Hid (txT 2 n s f = Lib.itoa n) := Lib.hid (txT_int n s f)
    have hl2 : bs.length ≤ 1073741824 := by omega
    have HT := Lib.hid ht
    clear h hs hl hnd hkind ht
    obtain ⟨tv2, hq2, ho2⟩ := hw
    obtain ⟨A2, c2, rfl, _, _⟩ := row_form ho2
    have p02 := hq2.cell 0
    have p12 := hq2.cell 1
    have pf2 := hq2.frozen 0
    simp only [List.getElem?_toArray, List.getElem?_cons_zero, List.getElem?_cons_succ] at p02 p12
    unfold fW at p12
    have hm2 := hq2.lt
    have HO2 := Lib.hid ho2
    have HQ2 := Lib.hid hq2
    clear hq2 ho2
    have C1 := appInt_any (mb + 1) bs.length n (by omega) (by omega) (.slice A2 bs.length c2) (Lib.byteCells bs) w HO2.out (by omega) (by omega) fun w' hb => HT.out w' (hb.mono (Nat.le_succ _))
    have H1 := Lib.hid C1
    clear C1 hn
    go_enter Tryz.func53, Tryz.ntmps53
    go_wp2_with fail
    refine H1.out.mono ?_
    rintro e w3 ⟨v3, rfl, ho3, hb3, hk3⟩
    have htf := TF.appInt hb3 hk3
    have hq3 : Blk w3 mb 60 #[.slice A2 bs.length c2, fW mb] := HQ2.out.keep (hb3.block mb (by omega))
    have hfin : TW mb (bs ++ txT 2 n s f) (w3.setCell ⟨mb, 0, none⟩ v3) ∧ TF mb w (w3.setCell ⟨mb, 0, none⟩ v3) := by
      refine ⟨⟨v3, ?_, ?_⟩, htf.set_ 0 _⟩
      · have h := hq3.set_ 0 v3
        simpa using h
      · rw [hT.out, byteCells_app, List.length_append]
        refine ho3.kept (row := some mb) ⟨rfl, rfl, rfl, by simp [World.setCell], fun k _ hk => ?_⟩ (.inr fun e => ?_)
        · exact heap_setCell_other _ _ _ _ fun e => hk (by rw [e])
        · have := (ho3.lt mb e).1
          omega
    obtain ⟨A3, c3, rfl, _, _⟩ := row_form ho3
    have x0 := hq3.cell 0
    have xf := hq3.frozen 0
    simp only [List.getElem?_toArray, List.getElem?_cons_zero] at x0
    have HFN := Lib.hid hfin
    clear htf hfin ho3 hb3 hk3 hq3
    generalize (Lib.itoa n).length = il at *
    go_wp2_with fail
    go_end0
    exact ⟨rfl, HFN.out⟩
  · have hs3 := shapeT_struct hs
    have hs6 := nameB_size hs3.2.1
    have hspos : 0 < s.size := by
      have h1 : s.data.toList.length = s.size := rfl
      have h2 := List.length_pos_iff.2 (name_pos3 hs3.2.1)
      omega
    have hv3 : NdV w lo hi 3 n s f (.iface 84 (.agg #[.string s, .slice A f.len cap])) := .inr (.inr ⟨rfl, A, cap, rfl, hnds⟩)
    have hb0 : Below w.heap.size w (w.alloc (.cells #[.string s, .slice A f.len cap] 84)) := (Below.refl _ _).alloc (Nat.le_refl _) _
    have hq0 := Blk.new w 84 #[.string s, .slice A f.len cap]
    have C1 := split2_any 3 n s f (.iface 84 (.agg #[.string s, .slice A f.len cap])) lo hi (w.alloc (.cells #[.string s, .slice A f.len cap] 84)) (hv3.keep (fun p _ hp => hb0.cell (by omega)) (Nat.le_refl _) (Nat.le_refl _)) (Nat.le_trans (by omega) hb0.size) hnd
    have H1 := Lib.hid C1
    have HB0 := Lib.hid hb0
    have HQ0 := Lib.hid hq0
    have HW := Lib.hid hw
    have HH := Lib.hid h
    have HSH := Lib.hid hs
    have HT := Lib.hid ht
    have HND := Lib.hid hnds
    have HLL := Lib.hid hl
    have HN := Lib.hid hnd
    have hfl := Nat.le_trans hnds.1 hnds.2.1
    clear C1 hb0 hq0 h hs ht hnds hl hv3 hkind hnd hw
    go_enter Tryz.func53, Tryz.ntmps53
    go_wp2_with fail
    refine H1.out.mono ?_
    rintro e w2 ⟨hb2, v2, tl, rfl, ⟨xs, hown, hD⟩, k', n', s', f', htl, hv'⟩
    have hbw := HB0.out.trans (hb2.mono HB0.out.size)
    have hq2 := HQ0.out.below hb2 HQ0.out.lt
    have hw2 := HW.out.below hbw
    have htf2 := TF.below hbw (Nat.le_of_lt hm0)
    have hs2 := hbw.size
    obtain ⟨T9, x9, rfl⟩ := hv'.iface
    have z0 := hq2.cell 0
    have z1 := hq2.cell 1
    simp only [List.getElem?_toArray, List.getElem?_cons_zero, List.getElem?_cons_succ] at z0 z1
    have HQ2 := Lib.hid hq2
    have HTF2 := Lib.hid htf2
    have HW2 := Lib.hid hw2
    cases hp : pairB 3 s f.len
    · have hfr := (pair_no n hp).1
      have HTX : Hid (txT 3 n s f = s.data.toList ++ argsB (txs f)) := Lib.hid (txT_str hp)
      have HAM := Lib.hid (argsB_more f)
      rw [hfr] at hown
      obtain ⟨A9, c9, rfl, _, _⟩ := row_form hown
      have ez : (Fr.nil.len : Int) = 0 := rfl
      have hl6 : bs.length + s.size ≤ 1073741824 := by
        have h := HLL.out
        rw [HTX.out, List.length_append] at h
        have h1 : s.data.toList.length = s.size := rfl
        omega
      have hsb : w.heap.size ≠ mb := by omega
      clear hown hD hb2 hv' htl hq2 htf2 hbw hp hfr hs3
      obtain ⟨tv3, hq3, ho3⟩ := hw2
      obtain ⟨A3, c3, rfl, _, _⟩ := row_form ho3
      have p03 := hq3.cell 0
      have p13 := hq3.cell 1
      have pf3 := hq3.frozen 0
      simp only [List.getElem?_toArray, List.getElem?_cons_zero, List.getElem?_cons_succ] at p03 p13
      unfold fW at p13
      have hm3 := hq3.lt
      have HO3 := Lib.hid ho3
      have HQ3 := Lib.hid hq3
      clear hq3 ho3
      go_wp2_with fail
      go_region_law
        (first
          | (refine step_append_str (w2.drew) (by rfl) _ _ _ _ (by rfl) (mb + 1) 5 i0 Tryz.underlying22 Tryz.underlying9 hi0 hz0 hz1 hz2 _ bs.length (Lib.byteCells bs) (by rfl) HO3.out.drew s (by rfl) hspos (by unfold maxLen; omega) (by omega) (by show mb + 1 ≤ w2.heap.size; omega) ?_
             intro g6 cap6 w6 hown6 hgrow6
             have hst6 := TW.step (add := s.data.toList) HQ3.out HO3.out (Below.refl w2.heap.size w2).drew hgrow6 hown6
             have hmd6 := TW.mid HQ3.out HO3.out (Below.refl w2.heap.size w2).drew hgrow6
             have hq6 := hmd6.blk HQ2.out hsb (by decide)
             have y6 := hst6.2.2.cell 0
             have yf6 := hst6.2.2.frozen 0
             have u6 := hq6.cell 0
             simp only [List.getElem?_toArray, List.getElem?_cons_zero] at y6 u6
             have v6 := (hst6.2.1.blk HQ2.out hsb (by decide)).cell 0
             simp only [List.getElem?_toArray, List.getElem?_cons_zero] at v6
             have HS6 := Lib.hid (And.intro hst6.1 hst6.2.1)
             clear hown6 hgrow6 hst6 hmd6 hq6))
      all_goals
        have HX6 : Hid (TW mb (bs ++ s.data.toList) (w6.setCell ⟨mb, 0, none⟩ (.slice (some ⟨g6, 0, none⟩) (bs.length + s.size) cap6)) ∧ TF mb w2 (w6.setCell ⟨mb, 0, none⟩ (.slice (some ⟨g6, 0, none⟩) (bs.length + s.size) cap6))) := HS6
        clear HS6 y6 u6 v6 yf6 z0 z1 p03 p13 pf3
        generalize w6.setCell ⟨mb, 0, none⟩ (.slice (some ⟨g6, 0, none⟩) (bs.length + s.size) cap6) = W6 at *
        have hq6 := HX6.out.2.blk HQ2.out hsb (by decide)
        have zz1 := hq6.cell 1
        simp only [List.getElem?_toArray, List.getElem?_cons_zero, List.getElem?_cons_succ] at zz1
        have HQ6 := Lib.hid hq6
        have HTF6 := Lib.hid (HTF2.out.trans HX6.out.2)
        have hm6 : mb < W6.heap.size := Nat.lt_of_lt_of_le hm0 HTF6.out.1.size
        clear hq6
        by_cases h0 : f.len = 0
        · have HV : Hid (txT 3 n s f = s.data.toList) := Lib.hid (by rw [HTX.out, HAM.out, if_pos h0, List.append_nil])
          have HFN : Hid (TW mb (bs ++ txT 3 n s f) W6 ∧ TF mb w W6) := Lib.hid (by rw [HV.out]; exact ⟨HX6.out.1, HTF6.out⟩)
          rw [h0] at zz1
          have t0 : ¬ (0 : Int) < ((0 : Nat) : Int) := by decide
          clear h0
          go_wp2_with fail
          go_end0
          exact ⟨rfl, HFN.out⟩
        · have hB : bs ++ txT 3 n s f = bs ++ s.data.toList ++ [40] ++ remB 0 f ++ [41] := by rw [HTX.out, HAM.out, if_neg h0, moreB_rem f h0]; simp
          have HBE := Lib.hid hB
          have hlB : bs.length + s.size + 2 + (remB 0 f).length ≤ 1073741824 := by
            have h1 := congrArg List.length hB
            have h2 := HLL.out
            have h3 : s.data.toList.length = s.size := rfl
            simp only [List.length_append, List.length_cons, List.length_nil] at h1 h2
            omega
          have t0 : (0 : Int) < (f.len : Int) := by omega
          have hw6 := HX6.out.1
          generalize hB1 : bs ++ s.data.toList = B1 at *
          have hlb1 : B1.length ≤ bs.length + s.size := by rw [← hB1, List.length_append]; exact Nat.le_refl _
          have HB1 := Lib.hid hB1
          clear hB1 hB h0
          obtain ⟨tv7, hq7, ho7⟩ := hw6
          obtain ⟨A7, c7, rfl, _, _⟩ := row_form ho7
          have p07 := hq7.cell 0
          have p17 := hq7.cell 1
          have pf7 := hq7.frozen 0
          simp only [List.getElem?_toArray, List.getElem?_cons_zero, List.getElem?_cons_succ] at p07 p17
          unfold fW at p17
          have hm7 := hq7.lt
          have HO7 := Lib.hid ho7
          have HQ7 := Lib.hid hq7
          clear hq7 ho7
          go_wp2_with (at_builtin; go_must (refine wpList_append_lies _ rfl _ _ _ rfl (mb + 1) 5 i0 _ 1 1 Tryz.underlying22 hi0 hz0 hz1 hz2 rfl (by omega) _ (B1).length (Lib.byteCells (B1)) rfl (HO7.out.alloc _) ⟨W6.heap.size, 0, none⟩ 1 1 [.int .u8 40] rfl rfl (World.news_of_block (cs := #[.int .u8 40]) (t := 5) (fr := (0, 0)) (Blk.new W6 5 #[.int .u8 40])) (by simp [Value.oneCell']) (by omega) (by unfold maxLen; omega) (by omega) (by simp; omega) (W6.heap.size + 1) (by simp) ?_); intro g7 cap7 w7 hown7 hgrow7 _ _; have hst7 := TW.step1 (c := 40) HQ7.out HO7.out rfl hgrow7 hown7; have y7 := hst7.2.2.cell 0; have yf7 := hst7.2.2.frozen 0; simp only [List.getElem?_toArray, List.getElem?_cons_zero] at y7; have HS7 := Lib.hid (And.intro hst7.1 hst7.2.1); clear hown7 hgrow7 hst7; refine Hid.out ?_)
          refine Lib.hid ?_
          have hq7 := HS7.out.2.blk HQ6.out hsb (by decide)
          have zz7 := hq7.cell 1
          simp only [List.getElem?_toArray, List.getElem?_cons_zero, List.getElem?_cons_succ] at zz7
          have HTF7 := Lib.hid (HTF6.out.trans HS7.out.2)
          have C8 := parts_of f (fun j k n s kids rest hd => HH.out s kids (by have h1 := Fr.size_drop j f; rw [hd] at h1; simp only [Fr.size] at h1; omega)) (d - 1) A cap lo hi mb (B1 ++ [40]) _ (shapeT_kids HSH.out) (PR.old (HND.out.keep (fun p _ hp => HTF7.out.1.cell (by omega)) (Nat.le_refl _) (Nat.le_refl _)) hh) hh HS7.out.1 (by simp only [List.length_append, List.length_cons, List.length_nil]; omega) (HT.out.on HTF7.out.1) HN.out
          have H8 := Lib.hid C8
          clear C8 hq7 zz1
          go_wp2_with fail
          refine H8.out.mono ?_
          rintro e w8 ⟨rfl, hw8, htf8⟩
          have HTF8 := Lib.hid (HTF7.out.trans htf8)
          have hz8 : (B1 ++ [40] ++ remB 0 f).length ≤ 1073741824 := by simp only [List.length_append, List.length_cons, List.length_nil]; omega
          clear htf8
          generalize hB8 : B1 ++ [40] ++ remB 0 f = B8 at *
          have HB8 := Lib.hid hB8
          clear hB8
          obtain ⟨tv9, hq9, ho9⟩ := hw8
          obtain ⟨A9, c9, rfl, _, _⟩ := row_form ho9
          have p09 := hq9.cell 0
          have p19 := hq9.cell 1
          have pf9 := hq9.frozen 0
          simp only [List.getElem?_toArray, List.getElem?_cons_zero, List.getElem?_cons_succ] at p09 p19
          unfold fW at p19
          have hm9 := hq9.lt
          have HO9 := Lib.hid ho9
          have HQ9 := Lib.hid hq9
          clear hq9 ho9
          go_wp2_with (at_builtin; go_must (refine wpList_append_lies _ rfl _ _ _ rfl (mb + 1) 5 i0 _ 1 1 Tryz.underlying22 hi0 hz0 hz1 hz2 rfl (by omega) _ (B8).length (Lib.byteCells (B8)) rfl (HO9.out.alloc _) ⟨w8.heap.size, 0, none⟩ 1 1 [.int .u8 41] rfl rfl (World.news_of_block (cs := #[.int .u8 41]) (t := 5) (fr := (0, 0)) (Blk.new w8 5 #[.int .u8 41])) (by simp [Value.oneCell']) (by omega) (by unfold maxLen; omega) (by omega) (by simp; omega) (w8.heap.size + 1) (by simp) ?_); intro g9 cap9 w9 hown9 hgrow9 _ _; have hst9 := TW.step1 (c := 41) HQ9.out HO9.out rfl hgrow9 hown9; have y9 := hst9.2.2.cell 0; have yf9 := hst9.2.2.frozen 0; simp only [List.getElem?_toArray, List.getElem?_cons_zero] at y9; have HS9 := Lib.hid (And.intro hst9.1 hst9.2.1); clear hown9 hgrow9 hst9; refine Hid.out ?_)
          refine Lib.hid ?_
          have HFN : Hid (TW mb (bs ++ txT 3 n s f) _ ∧ TF mb w _) := Lib.hid ⟨by
            have e : B8 ++ [41] = bs ++ txT 3 n s f := by rw [HBE.out, ← HB8.out]
            rw [← e]; exact HS9.out.1, HTF8.out.trans HS9.out.2⟩
          go_wp2_with fail
          go_end0
          exact ⟨rfl, HFN.out⟩
    · obtain ⟨A9, c9, rfl, hPR⟩ := PR.new hown hD hb2 hh (by have := HB0.out.size; omega)
      have hpos : (fronts 3 s f).len ≠ 0 := by
        obtain ⟨k1, n1, s1, kd1, r, hf, _⟩ := txT_list hp htl
        rw [hf]; simp [Fr.len]
      obtain ⟨nf1, nf2⟩ := fr_nodes f.size 3 n s f (Nat.le_refl _)
      have C3 := wlist_of 3 n d s f hp HSH.out HH.out A9 c9 lo hi mb bs w2 hPR k' n' s' f' htl (.iface T9 x9) (hv'.keep (fun p _ hp => hb2.cell (by have := HB0.out.size; omega)) (Nat.le_refl _) (Nat.le_refl _)) hh hw2 HLL.out (HT.out.on htf2.1) (Nat.le_trans nf1 HN.out) (Nat.le_trans (nf2 k' n' s' f' htl) HN.out)
      have t0 : (0 : Int) < ((fronts 3 s f).len : Int) := by omega
      have H3 := Lib.hid C3
      clear C3 hown hD hb2 hv' htl hq2 htf2 hbw hp hs3 hw2 hPR hpos nf1 nf2
      generalize (fronts 3 s f).len = fl at *
      go_wp2_with fail
      refine H3.out.mono ?_
      rintro e w3 ⟨rfl, hw3, htf3⟩
      have HFN : Hid (TW mb (bs ++ txT 3 n s f) w3 ∧ TF mb w w3) := Lib.hid ⟨hw3, HTF2.out.trans htf3⟩
      clear hw3 htf3
      go_wp2_with fail
      first
        | (go_end0; exact ⟨rfl, HFN.out⟩)
        | ((try simp only [Exit.inBlock, Exit.then]); refine bodyPost_ret (results_none rfl _ _ _) rfl ?_; exact ⟨rfl, HFN.out⟩)
theorem tw_all (N : Nat) : ∀ (s : ByteArray) (f : Fr), f.size ≤ N → TwC s f := by
  induction N with
  | zero => exact fun s f hf => wterm_of s f fun s' f' h => by omega
  | succ N ih => exact fun s f hf => wterm_of s f fun s' f' h => ih s' f' (by omega)
end Go.Proofs.YtihmgodiiohdnaaGreatDoor

/- OpLevel: spec.l2Level, spec.OpLevel; impl.operatorTable, operator.leftLevel, impl.OpLevel; the law FnExactOpLevel walked. Condition: the table of operators lies in its variable. -/
namespace Go.Proofs.YtihmgodiiohdnaaGreatDoor.op
open Go.RowKit Go.WideMaps Go.Maps

/-- An operator reads as its level. -/
def opR : Value → Option (DataW Unit × List MemPlace)
  | .agg ⟨[.string _, .string _, .int .i64 l]⟩ => some (.lit (.int .i64 l), [])
  | _ => none
theorem opR_inv {v : Value} {z : DataW Unit × List MemPlace} (h : opR v = some z) : ∃ a b l, v = .agg #[.string a, .string b, .int .i64 l] ∧ z = (.lit (.int .i64 l), []) := by
  unfold opR at h
  split at h
  · cases h; exact ⟨_, _, _, rfl, rfl⟩
  · cases h

def opD (k : Nat) : DataW Unit := (tab.take k).foldl (fun D r => D.put (.string r.1) (.lit (.int .i64 r.2.2))) (.map [])
theorem opD_succ (k : Nat) (h : k < 14) : opD (k + 1) = (opD k).put (.string (nm k).data.toList) (.lit (.int .i64 (lv k))) := by
  have hl : k < tab.length := h
  have e : tab.take (k + 1) = tab.take k ++ [tab.getD k ([], [], 0)] := by
    rw [List.take_add_one, List.getElem?_eq_getElem hl]
    simp [List.getD, List.getElem?_eq_getElem hl]
  unfold opD
  rw [e, List.foldl_append]
  rfl
theorem fold_no (l : List UInt8) (z : DataW Unit) : ∀ (rs : List (List UInt8 × List UInt8 × Int)) (D : DataW Unit), (∀ r ∈ rs, r.1 ≠ l) →
    (rs.foldl (fun D r => D.put (.string r.1) (.lit (.int .i64 r.2.2))) D).atKey (.string l) z = D.atKey (.string l) z ∧
    has (rs.foldl (fun D r => D.put (.string r.1) (.lit (.int .i64 r.2.2))) D) (.string l) = has D (.string l)
  | [], D, _ => ⟨rfl, rfl⟩
  | r :: rs, D, h => by
    have h1 : r.1 ≠ l := h r (by simp)
    have hne : (Lit.string l) ≠ Lit.string r.1 := fun e => h1 (by injection e with e; exact e.symm)
    obtain ⟨h2, h3⟩ := fold_no l z rs (D.put (.string r.1) (.lit (.int .i64 r.2.2))) fun x hx => h x (by simp [hx])
    exact ⟨h2.trans (atKey_put_other hne _ _), h3.trans (has_put_other hne _)⟩
theorem at_no (l : List UInt8) (h : ∀ r ∈ tab, r.1 ≠ l) : (opD 14).atKey (.string l) (.lit (.int .i64 0)) = .lit (.int .i64 0) ∧ has (opD 14) (.string l) = false := by
  have h1 := fold_no l (.lit (.int .i64 0)) tab (.map []) h
  exact ⟨h1.1.trans rfl, h1.2.trans rfl⟩
theorem at_yes : ∀ r ∈ tab, (opD 14).atKey (.string r.1) (.lit (.int .i64 0)) = .lit (.int .i64 r.2.2) ∧ has (opD 14) (.string r.1) = true := by
  intro r hr
  simp only [tab, List.mem_cons, List.not_mem_nil, or_false] at hr
  rcases hr with rfl | rfl | rfl | rfl | rfl | rfl | rfl | rfl | rfl | rfl | rfl | rfl | rfl | rfl <;> exact ⟨by kernel_rfl, by kernel_rfl⟩
/-- What the full table answers. -/
theorem at_all (l : List UInt8) : ∃ ok : Bool, (opD 14).atKey (.string l) (.lit (.int .i64 0)) = .lit (.int .i64 (level l)) ∧ has (opD 14) (.string l) = ok ∧ (ok = true → 1 ≤ level l) ∧ (ok = false → level l = 0) := by
  by_cases h : ∃ r ∈ tab, r.1 = l
  · obtain ⟨r, hr, rfl⟩ := h
    obtain ⟨h1, h2⟩ := at_yes r hr
    refine ⟨true, by rw [h1, level_at r hr], h2, fun _ => ?_, fun e => by cases e⟩
    rw [level_at r hr]
    have all : ∀ r ∈ tab, 1 ≤ r.2.2 := by decide
    exact all r hr
  · have hn : ∀ r ∈ tab, r.1 ≠ l := fun r hr e => h ⟨r, hr, e⟩
    obtain ⟨h1, h2⟩ := at_no l hn
    exact ⟨false, by rw [h1, level_no l hn], h2, (fun e => by cases e), fun _ => level_no l hn⟩

theorem make_hint (t k e : TypeId) (kd : IntKind) (n : Int) (ht : Tryz.prog.underlying t = some (.map k e)) (w : World) :
    (Instr.makeMap t (some (.int kd n))).run Tryz.prog w = .ok (.map (some w.heap.size)) (w.alloc (.map #[] 0)) := by
  simp [Instr.makeMap, run_underlying ht]; rfl

theorem law : Keyed Tryz.prog 9 := string_keyed Tryz.underlying9
theorem key_ok (s : ByteArray) (hs : s.size ≤ maxLen) : keyOf Tryz.prog 9 (.string s) = some (.string s.data.toList) := keyOf_string_mk Tryz.underlying9 hs
theorem zero_op (w : World) : (zeroValue 112).run Tryz.prog w = .ok (.agg #[.string ⟨#[]⟩, .string ⟨#[]⟩, .int .i64 0]) w := by kernel_rfl
theorem nm_size (k : Nat) : (nm k).size ≤ maxLen := by
  rcases Nat.lt_or_ge k 14 with h | h
  · have all : ∀ j : Fin 14, (nm j.val).size ≤ 3 := by decide
    have := all ⟨k, h⟩
    simp only at this
    unfold maxLen; omega
  · unfold nm
    rw [List.getD, List.getElem?_eq_none (by exact h)]
    exact Nat.zero_le _

set_option maxRecDepth 100000 in
/-- impl.operatorTable. -/
theorem table_any (w : World) (ht : OpTab w) :
    Calls Tryz.prog 34 #[] w fun e w' => e = .returned (.map (some w.heap.size)) ∧ w'.ownsMap Tryz.prog 9 opR w.heap.size 14 (opD 14) ∧ Below w.heap.size w w' := by
  have hm := make_hint 61 9 112
  have HM := fun kd n w => hm kd n Tryz.underlying61 w
  clear hm
  have hb0 : Below w.heap.size w (w.alloc (.map #[] 0)) := (Below.refl _ _).alloc (Nat.le_refl _) _
  have ht1 := ht.below hb0
  obtain ⟨tt, fr, htab⟩ := ht1
  have HT := Lib.hid htab
  have HB0 := Lib.hid hb0
  clear htab hb0 ht
  go_enter Tryz.func34, Tryz.ntmps34
  go_wp2_with (refine wpList_load_row rfl 113 _ rfl 0 rfl tt _ fr _ HT.out Tryz.underlying113 rfl (by kernel_rfl) ?_)
  go_loopw [6] (fun i wr => ∃ k : Nat, k ≤ 14 ∧ i = .int .i64 k ∧ wr.ownsMap Tryz.prog 9 opR w.heap.size k (opD k) ∧ Below w.heap.size w wr) (fun i _ => 14 - (intOf i).toNat)
  case atStart => exact ⟨0, Nat.zero_le _, rfl, World.ownsMap_made _ _ _ _, HB0.out⟩
  case round =>
    obtain ⟨k, hk, rfl, hown, hbw⟩ := hrel
    by_cases h14 : k < 14
    · have hx := fun w => index_op k h14 w
      have hkey := key_ok (nm k) (nm_size k)
      have hs := opD_succ k h14
      have HS := Lib.hid hs
      have HB := Lib.hid hbw
      have hown1 := hown.alloc (.cells #[.string (nm k), .string (tx k), .int .i64 (lv k)] 112)
      have HO := Lib.hid hown1
      have him : (k : Int) < 14 := by omega
      clear hs hbw hown hown1
      generalize nm k = a at *
      generalize tx k = b at *
      generalize lv k = l at *
      go_wp2_with (first
        | (at_mapUpdate; refine wpList_mapUpdate_own _ rfl _ _ _ 61 rfl 9 112 law Tryz.underlying61 opR w.heap.size k _ rfl HO.out (by unfold maxLen; omega) _ _ _ rfl rfl hkey (.lit (.int .i64 l)) [] rfl ?_; intro w1 hown2 hgrow1)
        | fail)
      have R1 := HS.out.symm ▸ hown2
      have R2 := (HB.out.alloc HB.out.size (.cells #[.string a, .string b, .int .i64 l] 112)).grown hgrow1 (by simpa using Nat.le_succ_of_le HB.out.size) (fun j hj => by cases hj; exact Nat.le_refl _)
      have H1 := Lib.hid R1
      have H2 := Lib.hid R2
      clear R1 R2 hown2 hgrow1 hkey hx
      go_wp2_with fail
      go_roundw
      case rel => exact ⟨k + 1, by omega, by go_num, H1.out, H2.out⟩
      case measure => simp [intOf]; omega
    · obtain rfl : k = 14 := by omega
      have HO := Lib.hid hown
      have HB := Lib.hid hbw
      clear hown hbw
      go_wp2_with fail
      go_ret
      exact ⟨rfl, HO.out, HB.out⟩

def lmin (l : Int) : Int := if l ≤ 2 then l else 2
/-- operator.leftLevel. -/
theorem left_any (a b : ByteArray) (l : Int) (w : World) :
    Calls Tryz.prog 55 #[.agg #[.string a, .string b, .int .i64 l]] w fun e w' => e = .returned (.int .i64 (lmin l)) ∧ Below w.heap.size w w' := by
  have hb0 : ∀ o, Below w.heap.size w (w.alloc o) := fun o => (Below.refl _ _).alloc (Nat.le_refl _) _
  have HB := Lib.hid hb0
  clear hb0
  by_cases h : l ≤ 2
  · have HV : Hid (lmin l = l) := Lib.hid (if_pos h)
    go_enter Tryz.func55, Tryz.ntmps55
    go_wp2_with fail
    go_ret
    rw [HV.out]
    first | exact ⟨rfl, HB.out _⟩ | exact ⟨congrArg (fun x => Ending.returned (.int .i64 x)) (Int.min_eq_left h), HB.out _⟩
  · have HV : Hid (lmin l = 2) := Lib.hid (if_neg h)
    go_enter Tryz.func55, Tryz.ntmps55
    go_wp2_with fail
    go_ret
    rw [HV.out]
    first | exact ⟨rfl, HB.out _⟩ | exact ⟨congrArg (fun x => Ending.returned (.int .i64 x)) (Int.min_eq_right (by omega)), HB.out _⟩

end Go.Proofs.YtihmgodiiohdnaaGreatDoor.op

/- The table of operators as a map whose entries read as text and level. Condition: the table of operators lies in its variable. -/
namespace Go.Proofs.YtihmgodiiohdnaaGreatDoor.op
open Go.RowKit Go.WideMaps Go.Maps

/-- An operator reads as its name, its text and its level. -/
def opR2 : Value → Option (DataW Unit × List MemPlace)
  | .agg ⟨[.string a, .string b, .int .i64 l]⟩ => some (.agg [.lit (.string a.data.toList), .lit (.string b.data.toList), .lit (.int .i64 l)], [])
  | _ => none
theorem opR2_inv {v : Value} {s t : List UInt8} {l : Int} {ps : List MemPlace} (h : opR2 v = some (.agg [.lit (.string s), .lit (.string t), .lit (.int .i64 l)], ps)) : v = .agg #[.string ⟨s.toArray⟩, .string ⟨t.toArray⟩, .int .i64 l] := by
  unfold opR2 at h
  split at h
  · rename_i a b l'
    simp only [Option.some.injEq, Prod.mk.injEq, DataW.agg.injEq, List.cons.injEq, DataW.lit.injEq, Lit.string.injEq, Lit.int.injEq, true_and, and_true] at h
    obtain ⟨⟨h1, h2, rfl⟩, _⟩ := h
    rw [str_of h1, str_of h2]
  · cases h
def opE (r : List UInt8 × List UInt8 × Int) : DataW Unit := .agg [.lit (.string r.1), .lit (.string r.2.1), .lit (.int .i64 r.2.2)]
def opZ : DataW Unit := .agg [.lit (.string []), .lit (.string []), .lit (.int .i64 0)]
def opD2 (k : Nat) : DataW Unit := (tab.take k).foldl (fun D r => D.put (.string r.1) (opE r)) (.map [])
theorem opD2_succ (k : Nat) (h : k < 14) : opD2 (k + 1) = (opD2 k).put (.string (nm k).data.toList) (.agg [.lit (.string (nm k).data.toList), .lit (.string (tx k).data.toList), .lit (.int .i64 (lv k))]) := by
  have hl : k < tab.length := h
  have e : tab.take (k + 1) = tab.take k ++ [tab.getD k ([], [], 0)] := by
    rw [List.take_add_one, List.getElem?_eq_getElem hl]
    simp [List.getD, List.getElem?_eq_getElem hl]
  unfold opD2
  rw [e, List.foldl_append]
  rfl
theorem fold2_no (l : List UInt8) (z : DataW Unit) : ∀ (rs : List (List UInt8 × List UInt8 × Int)) (D : DataW Unit), (∀ r ∈ rs, r.1 ≠ l) →
    (rs.foldl (fun D r => D.put (.string r.1) (opE r)) D).atKey (.string l) z = D.atKey (.string l) z ∧
    has (rs.foldl (fun D r => D.put (.string r.1) (opE r)) D) (.string l) = has D (.string l)
  | [], D, _ => ⟨rfl, rfl⟩
  | r :: rs, D, h => by
    have h1 : r.1 ≠ l := h r (by simp)
    have hne : (Lit.string l) ≠ Lit.string r.1 := fun e => h1 (by injection e with e; exact e.symm)
    obtain ⟨h2, h3⟩ := fold2_no l z rs (D.put (.string r.1) (opE r)) fun x hx => h x (by simp [hx])
    exact ⟨h2.trans (atKey_put_other hne _ _), h3.trans (has_put_other hne _)⟩
theorem at2_yes : ∀ r ∈ tab, (opD2 14).atKey (.string r.1) opZ = opE r ∧ has (opD2 14) (.string r.1) = true := by
  intro r hr
  simp only [tab, List.mem_cons, List.not_mem_nil, or_false] at hr
  rcases hr with rfl | rfl | rfl | rfl | rfl | rfl | rfl | rfl | rfl | rfl | rfl | rfl | rfl | rfl <;> exact ⟨by kernel_rfl, by kernel_rfl⟩
/-- What the full table answers. -/
theorem at2_all (l : List UInt8) : (0 < level l ∧ (opD2 14).atKey (.string l) opZ = .agg [.lit (.string l), .lit (.string (wr.spB l)), .lit (.int .i64 (level l))] ∧ has (opD2 14) (.string l) = true) ∨
    (level l = 0 ∧ (opD2 14).atKey (.string l) opZ = .agg [.lit (.string []), .lit (.string []), .lit (.int .i64 0)] ∧ has (opD2 14) (.string l) = false) := by
  by_cases h : ∃ r ∈ tab, r.1 = l
  · obtain ⟨r, hr, rfl⟩ := h
    obtain ⟨h1, h2⟩ := at2_yes r hr
    have all : ∀ r ∈ tab, 0 < r.2.2 ∧ wr.spB r.1 = r.2.1 := by decide
    rw [level_at r hr, (all r hr).2]
    exact .inl ⟨(all r hr).1, h1, h2⟩
  · have hn : ∀ r ∈ tab, r.1 ≠ l := fun r hr e => h ⟨r, hr, e⟩
    have h1 := fold2_no l opZ tab (.map []) hn
    exact .inr ⟨level_no l hn, h1.1.trans rfl, h1.2.trans rfl⟩

set_option maxRecDepth 100000 in
/-- impl.operatorTable. -/
theorem table2_any (w : World) (ht : OpTab w) :
    Calls Tryz.prog 34 #[] w fun e w' => e = .returned (.map (some w.heap.size)) ∧ w'.ownsMap Tryz.prog 9 opR2 w.heap.size 14 (opD2 14) ∧ Below w.heap.size w w' := by
  have hm := make_hint 61 9 112
  have HM := fun kd n w => hm kd n Tryz.underlying61 w
  clear hm
  have hb0 : Below w.heap.size w (w.alloc (.map #[] 0)) := (Below.refl _ _).alloc (Nat.le_refl _) _
  have ht1 := ht.below hb0
  obtain ⟨tt, fr, htab⟩ := ht1
  have HT := Lib.hid htab
  have HB0 := Lib.hid hb0
  clear htab hb0 ht
  go_enter Tryz.func34, Tryz.ntmps34
  go_wp2_with (refine wpList_load_row rfl 113 _ rfl 0 rfl tt _ fr _ HT.out Tryz.underlying113 rfl (by kernel_rfl) ?_)
  go_loopw [6] (fun i wr => ∃ k : Nat, k ≤ 14 ∧ i = .int .i64 k ∧ wr.ownsMap Tryz.prog 9 opR2 w.heap.size k (opD2 k) ∧ Below w.heap.size w wr) (fun i _ => 14 - (intOf i).toNat)
  case atStart => exact ⟨0, Nat.zero_le _, rfl, World.ownsMap_made _ _ _ _, HB0.out⟩
  case round =>
    obtain ⟨k, hk, rfl, hown, hbw⟩ := hrel
    by_cases h14 : k < 14
    · have hx := fun w => index_op k h14 w
      have hkey := key_ok (nm k) (nm_size k)
      have hs := opD2_succ k h14
      have HS := Lib.hid hs
      have HB := Lib.hid hbw
      have hown1 := hown.alloc (.cells #[.string (nm k), .string (tx k), .int .i64 (lv k)] 112)
      have HO := Lib.hid hown1
      have him : (k : Int) < 14 := by omega
      clear hs hbw hown hown1
      generalize nm k = a at *
      generalize tx k = b at *
      generalize lv k = l at *
      go_wp2_with (first
        | (at_mapUpdate; refine wpList_mapUpdate_own _ rfl _ _ _ 61 rfl 9 112 law Tryz.underlying61 opR2 w.heap.size k _ rfl HO.out (by unfold maxLen; omega) _ _ _ rfl rfl hkey (.agg [.lit (.string a.data.toList), .lit (.string b.data.toList), .lit (.int .i64 l)]) [] rfl ?_; intro w1 hown2 hgrow1)
        | fail)
      have R1 := HS.out.symm ▸ hown2
      have R2 := (HB.out.alloc HB.out.size (.cells #[.string a, .string b, .int .i64 l] 112)).grown hgrow1 (by simpa using Nat.le_succ_of_le HB.out.size) (fun j hj => by cases hj; exact Nat.le_refl _)
      have H1 := Lib.hid R1
      have H2 := Lib.hid R2
      clear R1 R2 hown2 hgrow1 hkey hx
      go_wp2_with fail
      go_roundw
      case rel => exact ⟨k + 1, by omega, by go_num, H1.out, H2.out⟩
      case measure => simp [intOf]; omega
    · obtain rfl : k = 14 := by omega
      have HO := Lib.hid hown
      have HB := Lib.hid hbw
      clear hown hbw
      go_wp2_with fail
      go_ret
      exact ⟨rfl, HO.out, HB.out⟩
/-- The map of operators lies in block ob. -/
def OpM (w : World) (ob : Nat) : Prop := w.ownsMap Tryz.prog 9 opR2 ob 14 (opD2 14)
end Go.Proofs.YtihmgodiiohdnaaGreatDoor.op

/- An opWriter in memory. Condition: the nodes lie in memory below the writer and are well-formed; the table of powers of ten in its variable. -/
namespace Go.Proofs.YtihmgodiiohdnaaGreatDoor.wr
open Go.RowKit

/-- The function that writes parts: the writer's own. -/
def fW (mb : Nat) : Value := .func (.func 35) #[.pointer (some ⟨mb, 0, none⟩)] #[]
def TW (ob mb : Nat) (bs : List UInt8) (w : World) : Prop := ∃ tv, Blk w mb 63 #[tv, fW mb, .map (some ob)] ∧ w.ownsRow (mb + 1) 5 1 tv bs.length (Lib.byteCells bs)
theorem TW.below {ob mb : Nat} {bs : List UInt8} {w w' : World} (h : TW ob mb bs w) (hb : Below w.heap.size w w') : TW ob mb bs w' := by
  obtain ⟨tv, hq, ho⟩ := h
  exact ⟨tv, hq.below hb hq.lt, ho.kept (row := none) ⟨hb.os, hb.tape, hb.output, hb.size, fun k hk _ => hb.block k hk⟩ (by cases tv.ownBlock <;> simp)⟩
/-- One byte more. -/
theorem TW.step {ob mb g cap : Nat} {bs add : List UInt8} {w w1 w6 : World} {tv : Value} (hq : Blk w mb 63 #[tv, fW mb, .map (some ob)]) (ho : w.ownsRow (mb + 1) 5 1 tv bs.length (Lib.byteCells bs)) (h1 : Below w.heap.size w w1)
    (hg : w1.grownBy w6 tv.ownBlock) (ho6 : w6.ownsRow (mb + 1) 5 1 (.slice (some ⟨g, 0, none⟩) (bs.length + add.length) cap) (bs.length + add.length) (Lib.byteCells bs ++ Lib.byteCells add)) :
    TW ob mb (bs ++ add) (w6.setCell ⟨mb, 0, none⟩ (.slice (some ⟨g, 0, none⟩) (bs.length + add.length) cap)) ∧ TF mb w (w6.setCell ⟨mb, 0, none⟩ (.slice (some ⟨g, 0, none⟩) (bs.length + add.length) cap)) ∧ Blk w6 mb 63 #[tv, fW mb, .map (some ob)] := by
  have hmlt := hq.lt
  have hne : some mb ≠ tv.ownBlock := fun e => by have := (ho.lt mb e.symm).1; omega
  have hq1 := hq.below h1 hmlt
  have hq6 : Blk w6 mb 63 #[tv, fW mb, .map (some ob)] := hq1.keep (hg.block mb (Nat.lt_of_lt_of_le hmlt h1.size) hne)
  have h2 : TF mb w w6 := by
    refine ⟨(h1.mono (Nat.le_of_lt hmlt)).grown hg (Nat.le_trans (Nat.le_of_lt hmlt) h1.size) fun k hk => by have := (ho.lt k hk).1; omega, ?_⟩
    refine (TF.below h1 (Nat.le_of_lt hmlt)).2.grown hg fun k hk => ?_
    obtain ⟨c, fz, hc⟩ := row_kind ho k hk
    exact ⟨c, fz, (h1.block k (ho.lt k hk).2).trans hc⟩
  refine ⟨⟨.slice (some ⟨g, 0, none⟩) (bs.length + add.length) cap, ?_, ?_⟩, h2.set_ 0 _, hq6⟩
  · have h := hq6.set_ 0 (.slice (some ⟨g, 0, none⟩) (bs.length + add.length) cap)
    simpa using h
  · have e1 : (bs ++ add).length = bs.length + add.length := List.length_append
    have e2 : Lib.byteCells (bs ++ add) = Lib.byteCells bs ++ Lib.byteCells add := by simp [Lib.byteCells]
    rw [e1, e2]
    refine ho6.kept (row := some mb) ⟨rfl, rfl, rfl, by simp [World.setCell], fun k _ hk => ?_⟩ (.inr fun e => ?_)
    · exact heap_setCell_other _ _ _ _ fun e => hk (by rw [e])
    · have := (ho6.lt mb e).1
      omega
theorem TW.step1 {ob mb g cap : Nat} {bs : List UInt8} {c : UInt8} {x : Int} {w w6 : World} {tv : Value} (hq : Blk w mb 63 #[tv, fW mb, .map (some ob)]) (ho : w.ownsRow (mb + 1) 5 1 tv bs.length (Lib.byteCells bs)) (hc : (c.toNat : Int) = x)
    (hg : (w.alloc (.cells #[.int .u8 x] 5)).grownBy w6 tv.ownBlock) (ho6 : w6.ownsRow (mb + 1) 5 1 (.slice (some ⟨g, 0, none⟩) (bs.length + 1) cap) (bs.length + 1) (Lib.byteCells bs ++ [.int .u8 x])) :
    TW ob mb (bs ++ [c]) (w6.setCell ⟨mb, 0, none⟩ (.slice (some ⟨g, 0, none⟩) (bs.length + 1) cap)) ∧ TF mb w (w6.setCell ⟨mb, 0, none⟩ (.slice (some ⟨g, 0, none⟩) (bs.length + 1) cap)) ∧ Blk w6 mb 63 #[tv, fW mb, .map (some ob)] :=
  TW.step (add := [c]) hq ho ((Below.refl _ _).alloc (Nat.le_refl _) _) hg (by
    have e : Lib.byteCells [c] = [.int .u8 x] := by rw [← hc]; rfl
    rw [e]; exact ho6)
theorem TW.mid {ob mb : Nat} {bs : List UInt8} {w w1 w6 : World} {tv : Value} (hq : Blk w mb 63 #[tv, fW mb, .map (some ob)]) (ho : w.ownsRow (mb + 1) 5 1 tv bs.length (Lib.byteCells bs)) (h1 : Below w.heap.size w w1) (hg : w1.grownBy w6 tv.ownBlock) : TF mb w w6 := by
  have hmlt := hq.lt
  refine ⟨(h1.mono (Nat.le_of_lt hmlt)).grown hg (Nat.le_trans (Nat.le_of_lt hmlt) h1.size) fun k hk => by have := (ho.lt k hk).1; omega, ?_⟩
  refine (TF.below h1 (Nat.le_of_lt hmlt)).2.grown hg fun k hk => ?_
  obtain ⟨c, fz, hc⟩ := row_kind ho k hk
  exact ⟨c, fz, (h1.block k (ho.lt k hk).2).trans hc⟩
/-- The tables that a writer asks: powers of ten, and the map of operators. -/
def Pow10 (ob mb : Nat) (w : World) : Prop := Lib.TabBelow Tryz.prog mb w "internal/strconv.uint64pow10" .u64 Lib.pow10Tab ∧ ob < mb ∧ op.OpM w ob
theorem OpM_keep {w w' : World} {ob mb : Nat} (h : op.OpM w ob) (hb : Below mb w w') (ho : ob < mb) : op.OpM w' ob := by
  obtain ⟨es, clock, he, hr⟩ := h
  exact ⟨es, clock, (hb.block ob ho).trans he, hr⟩
theorem Pow10.on {w w' : World} {ob mb : Nat} (h : Pow10 ob mb w) (hb : Below mb w w') : Pow10 ob mb w' := ⟨h.1.on hb, h.2.1, OpM_keep h.2.2 hb h.2.1⟩
def OwC (s : ByteArray) (f : Fr) : Prop := ∀ (k n d : Int) (v : Value) (lo hi ob mb : Nat) (bs : List UInt8) (w : World), shapeT k n s f d = true → NdV w lo hi k n s f v → hi ≤ mb → TW ob mb bs w → bs.length + (txT k n s f).length ≤ 1073741824 → Pow10 ob mb w → nodes f ≤ 1048576 →
  Calls Tryz.prog 35 #[.pointer (some ⟨mb, 0, none⟩), v] w fun e w' => e = .returned (.tuple #[]) ∧ TW ob mb (bs ++ txT k n s f) w' ∧ TF mb w w'
def WtC (s : ByteArray) (f : Fr) : Prop := ∀ (k n d : Int) (v : Value) (lo hi ob mb : Nat) (bs : List UInt8) (w : World), infB k s f.len = false → shapeT k n s f d = true → NdV w lo hi k n s f v → hi ≤ mb → TW ob mb bs w → bs.length + (txT k n s f).length ≤ 1073741824 → Pow10 ob mb w → nodes f ≤ 1048576 →
  Calls Tryz.prog 53 #[.pointer (some ⟨mb, 0, none⟩), v] w fun e w' => e = .returned (.tuple #[]) ∧ TW ob mb (bs ++ txT k n s f) w' ∧ TF mb w w'
end Go.Proofs.YtihmgodiiohdnaaGreatDoor.wr
