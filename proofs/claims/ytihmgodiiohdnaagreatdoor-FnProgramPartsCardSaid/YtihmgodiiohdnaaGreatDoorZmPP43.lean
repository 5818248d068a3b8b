/- spec.l1Struct of a row of arguments that the call owns; spec.l1Var, spec.l1Int. Condition: the row is owned. -/
import Derived.Test.YtihmgodiiohdnaaGreatDoorProg
import Derived.Test.YtihmgodiiohdnaaGreatDoorDrR
import Derived.Test.YtihmgodiiohdnaaGreatDoorTb
import Derived.Deep.AppendLies
import Derived.Deep.AppendSrc
import Derived.OwnWalk
import Derived.Deep.QuietTactic
import Derived.BigQuiet
import Derived.IntWalk
import Derived.Test.YtihmgodiiohdnaaGreatDoorRct
namespace Go.Proofs.YtihmgodiiohdnaaGreatDoor
open Go.RowKit

theorem infoTd : (Tryz.prog.info? 30).map (fun i => (i.zero, i.size, i.bytes)) = some (some (.agg #[.int .i64 0, .int .i64 0, .string ByteArray.empty, .slice none 0 0]), 4, 56) := by kernel_rfl
theorem two_new (w : World) (o o' : Obj) : Below w.heap.size w ((w.alloc o).alloc o') := ((Below.refl _ _).alloc (Nat.le_refl _) _).alloc (by simp) _
/-- The row lies elsewhere. -/
theorem OwnAt.moved {w w' : World} (f : Fr) : ∀ b o b' o' L, OwnAt w f b o L → (∀ j, j < f.len * 4 → w'.cell? ⟨b', o' + j, none⟩ = w.cell? ⟨b, o + j, none⟩) → (∀ x ∈ L, w'.heap[x]? = w.heap[x]?) → OwnAt w' f b' o' L := by
  induction f with
  | nil => intro b o b' o' L h _ _; exact h
  | cons k n s kids rest _ ihr =>
    rintro b o b' o' L ⟨A, cap, L1, L2, rfl, hf, ⟨c0, c1, c2, c3⟩, h1, h2, h3, hr⟩ hc hL
    simp only [Fr.len] at hc
    refine ⟨A, cap, L1, L2, rfl, hf, ⟨(hc 0 (by omega)).trans c0, (hc 1 (by omega)).trans c1, (hc 2 (by omega)).trans c2, (hc 3 (by omega)).trans c3⟩, h1, h2, ?_, ihr b (o + 4) b' (o' + 4) L2 hr (fun j hj => ?_) fun x hx => hL x (by simp [hx])⟩
    · have ho : OwnS w kids A cap L1 := ⟨h1, h2, h3⟩
      exact (ho.keep fun x hx => hL x (by simp [hx])).2.2
    · have := hc (4 + j) (by omega)
      rwa [← Nat.add_assoc, ← Nat.add_assoc] at this
theorem OwnAt.ones {w : World} (f : Fr) : ∀ b o L, OwnAt w f b o L → ∀ j, j < f.len * 4 → ∃ u, w.cell? ⟨b, o + j, none⟩ = some u ∧ u.oneCell' = true := by
  induction f with
  | nil => intro b o L _ j hj; simp [Fr.len] at hj
  | cons k n s kids rest _ ihr =>
    rintro b o L ⟨A, cap, L1, L2, rfl, hf, ⟨c0, c1, c2, c3⟩, h1, h2, h3, hr⟩ j hj
    simp only [Fr.len] at hj
    match j with
    | 0 => exact ⟨_, c0, rfl⟩
    | 1 => exact ⟨_, c1, rfl⟩
    | 2 => exact ⟨_, c2, rfl⟩
    | 3 => exact ⟨_, c3, rfl⟩
    | j + 4 =>
      have := ihr b (o + 4) L2 hr j (by omega)
      rwa [show o + 4 + j = o + (j + 4) by omega] at this

/-- What an append of the row to an empty one leaves. -/
def App0 (w : World) (g : Fr) (h : Nat) (L : List Nat) (v : Value) (w' : World) : Prop :=
  ∃ A' cap' L', v = .slice A' g.len cap' ∧ OwnS w' g A' cap' L' ∧ L'.Nodup ∧ (∀ x ∈ L', x ∈ L ∨ x = h ∨ (w.heap.size ≤ x ∧ x < w'.heap.size)) ∧ w.grownBy w' (some h) ∧ (g.len = 0 → A' = some ⟨h, 0, none⟩ ∧ cap' = 0 ∧ w' = w)
set_option maxRecDepth 100000 in
theorem app0_run {w : World} {g : Fr} {B : Option Addr} {capB h : Nat} {L : List Nat} (hblk : Blk w h 30 #[]) (ho : OwnS w g B capB L) (hn : L.Nodup) (hL : h ∉ L) (hg : g.len ≤ 1048576) (ty : TypeId) :
    ∃ v w', (Builtin.append_ #[28, 28] ty #[.slice (some ⟨h, 0, none⟩) 0 0, .slice B g.len capB]).run Tryz.prog w = .ok v w' ∧ App0 w g h L v w' := by
  obtain ⟨i0, hi0, hz0, hz1, hz2⟩ := info_parts infoTd
  rcases Nat.eq_zero_or_pos g.len with hz | hp
  · have hnil : g = .nil := by
      cases g with
      | nil => rfl
      | cons _ _ _ _ _ => simp [Fr.len] at hz
    subst hnil
    have hsrc : Src Tryz.prog i0.size 28 (.slice B 0 capB) 0 [] w := by
      cases B with
      | none => exact Src.ofNil (w := w) Tryz.underlying28 capB
      | some a => exact Src.ofSlice (w := w) Tryz.underlying28 a 0 capB [] (by simp) (fun j u hj => by simp at hj) (fun u hu => by simp at hu)
    have hrun := run_append_room_src (P := Tryz.prog) w 28 28 ty 30 i0 Tryz.underlying28 hi0 h 0 0 0 (.slice B 0 capB) 0 [] hsrc (by omega) (fun j hj => by simp at hj) (fun j hj => by simp at hj)
    exact ⟨_, _, hrun, some ⟨h, 0, none⟩, 0, [], rfl, ⟨Nat.le_refl _, Nat.zero_le _, .inl ⟨rfl, rfl⟩⟩, List.nodup_nil, fun x hx => by simp at hx, ⟨rfl, rfl, rfl, Nat.le_refl _, fun _ _ _ => rfl⟩, fun _ => ⟨rfl, rfl, rfl⟩⟩
  · rcases ho.2.2 with ⟨h0, _⟩ | ⟨b, L', cs, rfl, rfl, hb, hcs, hown⟩
    · omega
    · have hnl : (cs.toList.take (g.len * 4)).length = g.len * 4 := by
        have := ho.1
        simp
        omega
      have hown1 : w.ownsRow h 30 4 (.slice (some ⟨h, 0, none⟩) 0 0) 0 [] :=
        ⟨rfl, .inr ⟨h, 0, #[], rfl, Nat.le_refl _, hblk, Nat.le_refl _, Nat.zero_le _, rfl, rfl⟩⟩
      obtain ⟨v', w', hrun, hrow, hgr, hnn, hloc⟩ := run_append_own_at (P := Tryz.prog) w h 28 ty 30 i0 _ 4 56 Tryz.underlying28 hi0 hz0 hz1 hz2 rfl (by omega) (.slice (some ⟨h, 0, none⟩) 0 0) 0 _ hown1 ⟨b, 0, none⟩ g.len capB (cs.toList.take (g.len * 4)) hnl
        (fun j u hj => by
          rw [List.getElem?_take] at hj
          split at hj
          · have : w.cell? ⟨b, j, none⟩ = some u := by rw [hb.cell]; simpa using hj
            have e : (⟨b, 0, none⟩ : Addr).add j = ⟨b, j, none⟩ := by
              unfold Addr.add
              split
              · rename_i h0
                subst h0
                rfl
              · simp
            rw [e]
            exact this
          · cases hj)
        (fun u hu => by
          obtain ⟨j, hj⟩ := List.mem_iff_getElem?.1 hu
          rw [List.getElem?_take] at hj
          split at hj
          · rename_i hlt
            obtain ⟨u', hc, h1⟩ := OwnAt.ones g b 0 L' hown j hlt
            rw [Nat.zero_add, hb.cell] at hc
            have : cs[j]? = some u := by simpa using hj
            rw [this] at hc
            cases hc
            exact h1
          · cases hj)
        (by unfold maxLen; omega) (by omega) (by have := Blk.lt hblk; omega)
      rcases hrow.2 with ⟨_, h0⟩ | ⟨g', cap', cur, rfl, hg', hh', hr1, hr2, hr3, hr4⟩
      · omega
      · rw [Nat.zero_add] at hr1 hr4 hrow
        have hcell : ∀ j, w'.cell? ⟨g', j, none⟩ = cur[j]? := fun j => Blk.cell (w := w') (t := 30) hh' j
        have hcur : ∀ j, j < g.len * 4 → cur[j]? = (cs.toList.take (g.len * 4))[j]? := fun j hj => by
          have e := congrArg (fun l => l[j]?) hr4
          simp only [List.getElem?_take, if_pos hj, List.nil_append] at e ⊢
          simpa using e
        have hkeep : ∀ x, x < w.heap.size → x ≠ h → w'.heap[x]? = w.heap[x]? := fun x hx hne => hgr.block x hx (by simp [Value.ownBlock]; exact hne)
        obtain ⟨hb0, hn'⟩ := List.nodup_cons.1 hn
        have hlx : ∀ x ∈ L', x < w.heap.size := fun x hx => ho.lt x (by simp [hx])
        have hloc' : g' = h ∨ w.heap.size ≤ g' := by
          rcases hloc with h1 | h1
          · left; simpa [Value.ownBlock] using h1
          · right; simp [Value.ownBlock] at h1; omega
        refine ⟨_, w', hrun, some ⟨g', 0, none⟩, cap', g' :: L', by rw [Nat.zero_add], ⟨hr1, hr2, .inr ⟨g', L', cur, rfl, rfl, hh', hr3, OwnAt.moved g b 0 g' 0 L' hown (fun j hj => ?_) fun x hx => ?_⟩⟩, List.nodup_cons.2 ⟨fun hx => ?_, hn'⟩, fun x hx => ?_, hgr, fun h0 => by omega⟩
        · rw [Nat.zero_add, hcell, hcur j hj, hb.cell, List.getElem?_take, if_pos hj]
          simp
        · exact hkeep x (hlx x hx) fun e => hL (by subst e; simp [hx])
        · rcases hloc' with h1 | h1
          · subst h1; exact hL (by simp [hx])
          · have := hlx g' hx; omega
        · rcases List.mem_cons.1 hx with rfl | hx
          · rcases hloc' with h1 | h1
            · exact .inr (.inl h1)
            · exact .inr (.inr ⟨h1, Blk.lt (w := w') hh'⟩)
          · exact .inl (by simp [hx])
theorem wpList_app0 {ops : Array Oper} {rest : List Oper} {o : Oper} {a : Act} {Q : Exit → Act → World → Prop} (hgd : o.guard = none) (sx x : Operand)
    (ho : o.op = .call { callee := .builtin .append, args := #[sx, x], argTypes := #[28, 28] })
    {w : World} {g : Fr} {B : Option Addr} {capB h : Nat} {L : List Nat} (hblk : Blk w h 30 #[]) (hos : OwnS w g B capB L) (hn : L.Nodup) (hL : h ∉ L) (hg : g.len ≤ 1048576) (hs : a.eval sx = .slice (some ⟨h, 0, none⟩) 0 0) (hx : a.eval x = .slice B g.len capB)
    (hK : ∀ v w', App0 w g h L v w' → wpList Tryz.prog ops Q rest (a.put o.dst v) w') : wpList Tryz.prog ops Q (o :: rest) a w := by
  refine wpList_plain hgd fun K' hK' => ?_
  obtain ⟨v, w', hrun, hd⟩ := app0_run hblk hos hn hL hg o.type
  unfold Oper.wp
  simp [execOp, ho, resolve, invoke, builtin, hs, hx, hrun, Result.andThen]
  exact hK' _ _ (hK v w' hd)

/-- What spec.l1Struct leaves. -/
def StR (w : World) (name : ByteArray) (f : Fr) (L : List Nat) (e : Ending) (w' : World) : Prop :=
  ∃ A' cap' L', e = .returned (.agg #[.int .i64 3, .int .i64 0, .string name, .slice A' f.len cap']) ∧ OwnS w' f A' cap' L' ∧ L'.Nodup ∧ (∀ x ∈ L', x ∈ L ∨ (w.heap.size ≤ x ∧ x < w'.heap.size)) ∧ Below w.heap.size w w' ∧ (f.len = 0 → A' = some ⟨w.heap.size + 1, 0, none⟩ ∧ cap' = 0 ∧ Blk w' (w.heap.size + 1) 30 #[])
set_option maxRecDepth 100000 in
set_option maxHeartbeats 2000000 in
/-- spec.l1Struct. -/
theorem structN_any (name : ByteArray) (f : Fr) (B : Option Addr) (capB : Nat) (L : List Nat) (w : World) (ho : OwnS w f B capB L) (hn : L.Nodup) (hl : f.len ≤ 1048576) :
    Calls Tryz.prog 27 #[.string name, .slice B f.len capB] w fun e w' => StR w name f L e w' := by
  have hb2 := two_new w (.cells #[.int .i64 0, .int .i64 0, .string ⟨#[]⟩, .slice none 0 0] 30) (.cells #[] 30)
  have hblk : Blk ((w.alloc (.cells #[.int .i64 0, .int .i64 0, .string ⟨#[]⟩, .slice none 0 0] 30)).alloc (.cells #[] 30)) (w.heap.size + 1) 30 #[] := by
    have h := Blk.new (w.alloc (.cells #[.int .i64 0, .int .i64 0, .string ⟨#[]⟩, .slice none 0 0] 30)) 30 #[]
    simpa using h
  have hq : Blk ((w.alloc (.cells #[.int .i64 0, .int .i64 0, .string ⟨#[]⟩, .slice none 0 0] 30)).alloc (.cells #[] 30)) w.heap.size 30 #[.int .i64 0, .int .i64 0, .string ⟨#[]⟩, .slice none 0 0] := (Blk.new w _ _).alloc _
  have ho2 := ho.below hb2 ho.lt
  have hnl : w.heap.size + 1 ∉ L := fun e => by have := ho.lt _ e; omega
  have hsz : ((w.alloc (.cells #[.int .i64 0, .int .i64 0, .string ⟨#[]⟩, .slice none 0 0] 30)).alloc (.cells #[] 30)).heap.size = w.heap.size + 2 := by simp
  have HB2 := Lib.hid hb2
  have HBLK := Lib.hid hblk
  have HQ := Lib.hid hq
  have HO2 := Lib.hid ho2
  have HN := Lib.hid hn
  have HNL := Lib.hid hnl
  have HL := Lib.hid hl
  have HSZ := Lib.hid hsz
  have HLT := Lib.hid ho.lt
  clear hb2 hblk hq ho2 hn hnl hl hsz ho
  go_enter Tryz.func27, Tryz.ntmps27
  go_wp2_with (at_builtin; go_must (refine wpList_app0 rfl _ _ rfl HBLK.out HO2.out HN.out HNL.out HL.out rfl rfl ?_); rintro v w6 ⟨A', cap', L', rfl, hown, hnd, hlx, hgr, h0⟩; have H0 := Lib.hid h0; clear h0; have hq6 := HQ.out.keep (hgr.block _ HQ.out.lt (by simp)); obtain ⟨d0, d1, d2, d3⟩ := cells4i hq6; obtain ⟨g0, g1, g2, g3⟩ := frozen4 hq6; have HQ6 := Lib.hid hq6; have HOWN := Lib.hid hown; have HND := Lib.hid hnd; have HLX := Lib.hid hlx; have HGR := Lib.hid hgr; clear hq6 hown hnd hlx hgr)
  have e1 := (((HQ6.out.set_ 0 (.int .i64 3)).set_ 1 (.int .i64 0)).set_ 2 (.string name)).set_ 3 (.slice A' f.len cap')
  have hs := HSZ.out
  have hg6 := HGR.out.size
  have hbw : Below w.heap.size w w6 := HB2.out.grown HGR.out HB2.out.size fun g hg => by
    have : w.heap.size + 1 = g := by simpa using hg
    omega
  have hns : ∀ x ∈ L', x ≠ w.heap.size := fun x hx e => by
    rcases HLX.out x hx with h | h | h
    · have := HLT.out x h; omega
    · omega
    · omega
  refine bodyPost_ret (v := .agg #[.int .i64 3, .int .i64 0, .string name, .slice A' f.len cap']) ?_ rfl ⟨A', cap', L', rfl, ?_, HND.out, ?_, ?_, fun h => ?_⟩
  · exact results_cell_row Tryz.results27 _ _ w.heap.size _ _ _ _ rfl e1 Tryz.underlying30 rfl (by kernel_rfl)
  · refine HOWN.out.keep fun x hx => ?_
    have hne := hns x hx
    rw [heap_setCell_other _ _ _ _ hne, heap_setCell_other _ _ _ _ hne, heap_setCell_other _ _ _ _ hne, heap_setCell_other _ _ _ _ hne]
  · intro x hx
    have hxl := HOWN.out.lt x hx
    rcases HLX.out x hx with h | h | h
    · exact .inl h
    · exact .inr ⟨by omega, by simpa [World.setCell] using hxl⟩
    · exact .inr ⟨by omega, by simpa [World.setCell] using hxl⟩
  · exact (((hbw.setCell (p := ⟨w.heap.size, 0, none⟩) (Nat.le_refl _) _).setCell (p := ⟨w.heap.size, 1, none⟩) (Nat.le_refl _) _).setCell (p := ⟨w.heap.size, 2, none⟩) (Nat.le_refl _) _).setCell (p := ⟨w.heap.size, 3, none⟩) (Nat.le_refl _) _
  · obtain ⟨r1, r2, r3⟩ := H0.out h
    refine ⟨r1, r2, ?_⟩
    rw [r3]
    exact (((HBLK.out.far (by simp) _).far (by simp) _).far (by simp) _).far (by simp) _
/-- What it leaves, with what was drawn before. -/
theorem StR.made {rb : Nat} {w0 w1 w2 : World} {name : ByteArray} {f : Fr} {L : List Nat} {e : Ending} (h : StR w1 name f L e w2) (hL : ∀ x ∈ L, w0.heap.size ≤ x) (hw : Wrote [rb] w0 w1) :
    ∃ A cap, e = .returned (.agg #[.int .i64 3, .int .i64 0, .string name, .slice A f.len cap]) ∧ MadeW rb w0 f A cap w2 ∧ Below w1.heap.size w1 w2 := by
  obtain ⟨A, cap, L', rfl, ho, hn, hx, hb, _⟩ := h
  refine ⟨A, cap, rfl, ⟨L', ho, hn, fun x hx' => ⟨?_, ho.lt x hx'⟩, hw.trans (.of_below hb _)⟩, hb⟩
  rcases hx x hx' with h | h
  · exact hL x h
  · exact Nat.le_trans hw.size h.1
end Go.Proofs.YtihmgodiiohdnaaGreatDoor

/- The source's methods pick, num, of. Condition: the source lies in memory. -/
namespace Go.Proofs.YtihmgodiiohdnaaGreatDoor
open Go.RowKit

theorem xor_i64 (a b : Nat) (ha : a < 2147483648) (hb : b < 2147483648) : ∃ y : Nat, bits .xor .i64 (a : Int) (b : Int) = (y : Int) ∧ y < 2147483648 := by
  have hx : a ^^^ b < 2 ^ 31 := Nat.xor_lt_two_pow (by omega) (by omega)
  have h1 : (BitVec.ofInt 64 (a : Int)).toNat = a := by
    rw [BitVec.ofInt_natCast, BitVec.toNat_ofNat]; exact Nat.mod_eq_of_lt (by omega)
  have h2 : (BitVec.ofInt 64 (b : Int)).toNat = b := by
    rw [BitVec.ofInt_natCast, BitVec.toNat_ofNat]; exact Nat.mod_eq_of_lt (by omega)
  refine ⟨a ^^^ b, ?_, by omega⟩
  show IntKind.i64.wrap ((BitVec.ofInt 64 (a : Int) ^^^ BitVec.ofInt 64 (b : Int)).toNat : Int) = _
  rw [BitVec.toNat_xor, h1, h2]
  simp [IntKind.wrap, IntKind.bits, IntKind.signed]
  omega
/-- The source behind a draw. -/
theorem Rd.next {w : World} {rb N : Nat} {A : Option Addr} {len cap p : Nat} (h1 : Blk w rb 72 #[.slice A len cap, .int .i64 (p : Int)]) (h2 : Bts w rb A len) (h3 : len ≤ 2000) (h4 : p ≤ N) :
    Rd (w.setCell ⟨rb, 1, none⟩ (.int .i64 ((p : Int) + 1))) rb (N + 1) ∧ Wrote [rb] w (w.setCell ⟨rb, 1, none⟩ (.int .i64 ((p : Int) + 1))) := by
  refine ⟨⟨A, len, cap, p + 1, ?_, h2.keep fun x hx => heap_setCell_other w ⟨rb, 1, none⟩ x _ (by show x ≠ rb; omega), h3, by omega⟩, (Wrote.refl _ _).set_ (.inl (by simp)) _⟩
  have := h1.set_ 1 (.int .i64 ((p : Int) + 1))
  simpa using this

set_option maxRecDepth 100000 in
set_option maxHeartbeats 4000000 in
/-- l18Rd.pick. -/
theorem pick_any (rb N : Nat) (n : Int) (w : World) (hr : Rd w rb N) (hN : N ≤ 1000000) (h0 : 1 ≤ n) (h1 : n ≤ 100000) :
    Calls Tryz.prog 21 #[.pointer (some ⟨rb, 0, none⟩), .int .i64 n] w fun e w' => PkR w rb N n e w' := by
  obtain ⟨A, len, cap, p, hq, hb, hl, hp⟩ := hr
  have hnx := Rd.next hq hb hl hp
  have x0 : w.cell? ⟨rb, 0, none⟩ = some (.slice A len cap) := hq.cell 0
  have x1 : w.cell? ⟨rb, 1, none⟩ = some (.int .i64 (p : Int)) := hq.cell 1
  have f1 := hq.frozen 1
  have hp1 : p ≤ 1000000 := by omega
  have HNX := Lib.hid hnx
  have HB := Lib.hid hb
  clear hq hb hnx hp
  have t0 : ¬ n < 1 := by omega
  have far : ∀ b o u, b < rb → (w.setCell ⟨rb, 1, none⟩ u).cell? ⟨b, o, none⟩ = w.cell? ⟨b, o, none⟩ := fun b o u h => World.cell?_setCell_other w _ _ _ (fun e => by injection e with e _ _; omega)
  have HF := Lib.hid far
  clear far
  rcases Nat.eq_zero_or_pos len with hz | hpos
  · subst hz
    have t1 : (((0 : Nat) : Int) == 0) = true := rfl
    go_enter Tryz.func21, Tryz.ntmps21
    go_wp2_with fail
    go_ret
    exact ⟨0, rfl, Int.le_refl _, by omega, HNX.out⟩
  · have t1 : ((len : Int) == 0) = false := by rw [beq_eq_false_iff_ne]; omega
    obtain ⟨b, o, rfl, hb, hc⟩ := HB.out hpos
    by_cases hlt : p < len
    · obtain ⟨c, h2, h3, h4⟩ := hc p hlt
      have k0 := (HF.out b (o + p) (.int .i64 ((p : Int) + 1)) hb).trans h2
      clear h2 hc HF HB
      go_enter Tryz.func21, Tryz.ntmps21
      go_wp2_with fail
      go_ret
      exact ⟨c % n, rfl, Int.emod_nonneg _ (by omega), Int.emod_lt_of_pos _ (by omega), HNX.out⟩
    · have e1 : ∃ i1 : Nat, (p : Int) % (len : Int) = (i1 : Int) ∧ i1 < len := ⟨p % len, by simp, Nat.mod_lt _ hpos⟩
      have e2 : ∃ i2 : Nat, ((p : Int) * 7 + 3) % (len : Int) = (i2 : Int) ∧ i2 < len := ⟨(p * 7 + 3) % len, by simp, Nat.mod_lt _ hpos⟩
      have e3 : ∃ q : Nat, (p : Int) / (len : Int) = (q : Int) ∧ q ≤ 1000000 := ⟨p / len, by simp, Nat.le_trans (Nat.div_le_self _ _) hp1⟩
      obtain ⟨i1, e1, l1⟩ := e1
      obtain ⟨i2, e2, l2⟩ := e2
      obtain ⟨q, e3, l3⟩ := e3
      obtain ⟨c1, h2, h3, h4⟩ := hc i1 l1
      obtain ⟨c2, g2, g3, g4⟩ := hc i2 l2
      have k1 := (HF.out b (o + i1) (.int .i64 ((p : Int) + 1)) hb).trans h2
      have k2 := (HF.out b (o + i2) (.int .i64 ((p : Int) + 1)) hb).trans g2
      obtain ⟨m1, rfl⟩ : ∃ m1 : Nat, c1 = (m1 : Int) := ⟨c1.toNat, by omega⟩
      obtain ⟨m2, rfl⟩ : ∃ m2 : Nat, c2 = (m2 : Int) := ⟨c2.toNat, by omega⟩
      have e4 : ∃ x : Nat, (m1 : Int) * 131 + (m2 : Int) * 1117 + (p : Int) * 29 + (q : Int) * 53 = (x : Int) ∧ x < 2147483648 := ⟨m1 * 131 + m2 * 1117 + p * 29 + q * 53, by omega, by omega⟩
      obtain ⟨x, e4, l4⟩ := e4
      have e5 : ∃ y : Nat, (x : Int) / 64 = (y : Int) ∧ y < 2147483648 := ⟨x / 64, by omega, by omega⟩
      obtain ⟨y, e5, l5⟩ := e5
      obtain ⟨z, e6, l6⟩ := xor_i64 x y l4 l5
      have q1 : IntKind.i64.wrap ((p : Int) * 7) = (p : Int) * 7 := IntWalk.i64_in _ (by omega)
      have q2 : IntKind.i64.wrap ((p : Int) * 7 + 3) = (p : Int) * 7 + 3 := IntWalk.i64_in _ (by omega)
      have q3 : IntKind.i64.wrap ((m1 : Int) * 131) = (m1 : Int) * 131 := IntWalk.i64_in _ (by omega)
      have q4 : IntKind.i64.wrap ((m2 : Int) * 1117) = (m2 : Int) * 1117 := IntWalk.i64_in _ (by omega)
      have q5 : IntKind.i64.wrap ((m1 : Int) * 131 + (m2 : Int) * 1117) = (m1 : Int) * 131 + (m2 : Int) * 1117 := IntWalk.i64_in _ (by omega)
      have q6 : IntKind.i64.wrap ((p : Int) * 29) = (p : Int) * 29 := IntWalk.i64_in _ (by omega)
      have q7 : IntKind.i64.wrap ((m1 : Int) * 131 + (m2 : Int) * 1117 + (p : Int) * 29) = (m1 : Int) * 131 + (m2 : Int) * 1117 + (p : Int) * 29 := IntWalk.i64_in _ (by omega)
      have q8 : IntKind.i64.wrap ((q : Int) * 53) = (q : Int) * 53 := IntWalk.i64_in _ (by omega)
      have q9 : IntKind.i64.wrap ((m1 : Int) * 131 + (m2 : Int) * 1117 + (p : Int) * 29 + (q : Int) * 53) = (x : Int) := by rw [e4]; exact IntWalk.i64_in _ (by omega)
      have z1 : (i1 : Int) < (len : Int) := by omega
      have z2 : (i2 : Int) < (len : Int) := by omega
      have z3 : (0 : Int) ≤ (i1 : Int) := by omega
      have z4 : (0 : Int) ≤ (i2 : Int) := by omega
      have HZ : Hid ((z : Int) % n < n ∧ 0 ≤ (z : Int) % n) := Lib.hid ⟨Int.emod_lt_of_pos _ (by omega), Int.emod_nonneg _ (by omega)⟩
      clear h2 g2 hc HF HB
      go_enter Tryz.func21, Tryz.ntmps21
      go_wp2_with fail
      go_quiet (fail)
      clear q1 q2 q3 q4 q5 q6 q7 q8 q9 e1 e2 e3 e4 z1 z2 z3 z4 k1 k2
      go_wp2_with fail
      go_ret
      have hd : Below (w.setCell ⟨rb, 1, none⟩ (.int .i64 ((p : Int) + 1))).heap.size (w.setCell ⟨rb, 1, none⟩ (.int .i64 ((p : Int) + 1))) ((w.setCell ⟨rb, 1, none⟩ (.int .i64 ((p : Int) + 1))).drewN nq) := ⟨rfl, rfl, rfl, Nat.le_refl _, fun _ _ => rfl⟩
      exact ⟨(z : Int) % n, rfl, HZ.out.2, HZ.out.1, HNX.out.1.below hd, HNX.out.2.trans (.of_below hd _)⟩

/-- A row of numbers in memory. -/
def IntsAt (w : World) (lo : Nat) (A : Option Addr) (zs : List Int) : Prop := ∃ b, A = some ⟨b, 0, none⟩ ∧ lo ≤ b ∧ b < w.heap.size ∧ ∀ (i : Nat) z, zs[i]? = some z → w.cell? ⟨b, i, none⟩ = some (.int .i64 z)
def StrsAt (w : World) (lo : Nat) (A : Option Addr) (ss : List ByteArray) : Prop := ∃ b, A = some ⟨b, 0, none⟩ ∧ lo ≤ b ∧ b < w.heap.size ∧ ∀ (i : Nat) z, ss[i]? = some z → w.cell? ⟨b, i, none⟩ = some (.string z)
def NmR (w : World) (rb N : Nat) (zs : List Int) (e : Ending) (w' : World) : Prop := ∃ z : Int, e = .returned (.int .i64 z) ∧ z ∈ zs ∧ Rd w' rb (N + 1) ∧ Wrote [rb] w w'
def OfR (w : World) (rb N : Nat) (ss : List ByteArray) (e : Ending) (w' : World) : Prop := ∃ z : ByteArray, e = .returned (.string z) ∧ z ∈ ss ∧ Rd w' rb (N + 1) ∧ Wrote [rb] w w'

set_option maxRecDepth 100000 in
/-- l18Rd.num. -/
theorem num_any (rb N : Nat) (zs : List Int) (A : Option Addr) (cap : Nat) (w : World) (hr : Rd w rb N) (hN : N ≤ 1000000) (hz : IntsAt w (rb + 1) A zs) (h1 : 1 ≤ zs.length) (h2 : zs.length ≤ 1000) :
    Calls Tryz.prog 59 #[.pointer (some ⟨rb, 0, none⟩), .slice A zs.length cap] w fun e w' => NmR w rb N zs e w' := by
  obtain ⟨b, rfl, hb1, hb2, hc⟩ := hz
  have C1 := pick_any rb N (zs.length : Int) w hr hN (by omega) (by omega)
  have HC := Lib.hid hc
  have HM : Hid (∀ (i : Nat) z, zs[i]? = some z → z ∈ zs) := Lib.hid fun i z h => List.mem_of_getElem? h
  have HG : Hid (∀ i : Nat, i < zs.length → ∃ z, zs[i]? = some z) := Lib.hid fun i h => ⟨_, List.getElem?_eq_getElem h⟩
  have H1 := Lib.hid C1
  clear C1 hc hr
  generalize hn : zs.length = len at *
  clear hn
  go_enter Tryz.func59, Tryz.ntmps59
  go_wp2_with fail
  refine H1.out.mono ?_
  rintro e w2 ⟨k, rfl, hk0, hk1, hr2, hw⟩
  obtain ⟨m, rfl⟩ : ∃ m : Nat, k = (m : Int) := ⟨k.toNat, by omega⟩
  obtain ⟨z, hz⟩ := HG.out m (by omega)
  have k0 := (hw.cell (p := ⟨b, m, none⟩) hb2 (by simp; omega)).trans (HC.out m z hz)
  have HR : Hid (NmR w rb N zs (.returned (.int .i64 z)) w2) := Lib.hid ⟨z, rfl, HM.out m z hz, hr2, hw⟩
  clear hr2 hw hz H1
  go_wp2_with fail
  go_ret
  exact HR.out
set_option maxRecDepth 100000 in
/-- l18Rd.of. -/
theorem of_any (rb N : Nat) (ss : List ByteArray) (A : Option Addr) (cap : Nat) (w : World) (hr : Rd w rb N) (hN : N ≤ 1000000) (hz : StrsAt w (rb + 1) A ss) (h1 : 1 ≤ ss.length) (h2 : ss.length ≤ 1000) :
    Calls Tryz.prog 37 #[.pointer (some ⟨rb, 0, none⟩), .slice A ss.length cap] w fun e w' => OfR w rb N ss e w' := by
  obtain ⟨b, rfl, hb1, hb2, hc⟩ := hz
  have C1 := pick_any rb N (ss.length : Int) w hr hN (by omega) (by omega)
  have HC := Lib.hid hc
  have HM : Hid (∀ (i : Nat) z, ss[i]? = some z → z ∈ ss) := Lib.hid fun i z h => List.mem_of_getElem? h
  have HG : Hid (∀ i : Nat, i < ss.length → ∃ z, ss[i]? = some z) := Lib.hid fun i h => ⟨_, List.getElem?_eq_getElem h⟩
  have H1 := Lib.hid C1
  clear C1 hc hr
  generalize hn : ss.length = len at *
  clear hn
  go_enter Tryz.func37, Tryz.ntmps37
  go_wp2_with fail
  refine H1.out.mono ?_
  rintro e w2 ⟨k, rfl, hk0, hk1, hr2, hw⟩
  obtain ⟨m, rfl⟩ : ∃ m : Nat, k = (m : Int) := ⟨k.toNat, by omega⟩
  obtain ⟨z, hz⟩ := HG.out m (by omega)
  have k0 := (hw.cell (p := ⟨b, m, none⟩) hb2 (by simp; omega)).trans (HC.out m z hz)
  have HR : Hid (OfR w rb N ss (.returned (.string z)) w2) := Lib.hid ⟨z, rfl, HM.out m z hz, hr2, hw⟩
  clear hr2 hw hz H1
  go_wp2_with fail
  go_ret
  exact HR.out
end Go.Proofs.YtihmgodiiohdnaaGreatDoor

/- Rows that are made beside one block that is written. spec.l18Open, l1Var, l1Int. Condition: the bytes lie in memory. -/
namespace Go.Proofs.YtihmgodiiohdnaaGreatDoor
open Go.RowKit

/-- As RowP, all of it elsewhere than block H. -/
def RowX (base H : Nat) (v : Value) (f : Fr) (w : World) : Prop :=
  ∃ xs L, w.ownsRow base 30 4 v f.len xs ∧ Desc w f xs L ∧ L.Nodup ∧ (∀ x ∈ L, base ≤ x ∧ x < w.heap.size ∧ x ≠ H) ∧ (∀ g, v.ownBlock = some g → g ∉ L ∧ g ≠ H)
section
variable {w w' : World} {base H rb : Nat} {v : Value} {f : Fr}
theorem RowP.x (h : RowP base v f w) (hH : w.heap.size ≤ H) : RowX base H v f w := by
  obtain ⟨xs, L, ho, hd, hn, hL, hv⟩ := h
  exact ⟨xs, L, ho, hd, hn, fun x hx => ⟨(hL x hx).1, (hL x hx).2, by have := (hL x hx).2; omega⟩, fun g hg => ⟨hv g hg, by have := (ho.lt g hg).2; omega⟩⟩
theorem RowX.p (h : RowX base H v f w) : RowP base v f w := by
  obtain ⟨xs, L, ho, hd, hn, hL, hv⟩ := h
  exact ⟨xs, L, ho, hd, hn, fun x hx => ⟨(hL x hx).1, (hL x hx).2.1⟩, fun g hg => (hv g hg).1⟩
/-- A world in which its blocks are as they were. -/
theorem RowX.keep (h : RowX base H v f w) (hk : ∀ x, base ≤ x → x < w.heap.size → x ≠ H → w'.heap[x]? = w.heap[x]?) (hs : w.heap.size ≤ w'.heap.size) : RowX base H v f w' := by
  obtain ⟨xs, L, ho, hd, hn, hL, hv⟩ := h
  have hlt := ho.lt
  refine ⟨xs, L, ⟨ho.1, ?_⟩, hd.keep f xs L fun x hx => hk x (hL x hx).1 (hL x hx).2.1 (hL x hx).2.2, hn, fun x hx => ⟨(hL x hx).1, Nat.lt_of_lt_of_le (hL x hx).2.1 hs, (hL x hx).2.2⟩, hv⟩
  rcases ho.2 with h | ⟨g, cap, cur, rfl, hg, hh, hr'⟩
  · exact .inl h
  · exact .inr ⟨g, cap, cur, rfl, hg, (hk g hg (hlt g rfl).2 (hv g rfl).2).trans hh, hr'⟩
theorem RowX.wrote (h : RowX base H v f w) (hr : rb < base) (hw : Wrote [rb] w w') : RowX base H v f w' := h.keep (fun x hx hl _ => hw.block x hl (by simp; omega)) hw.size
theorem RowX.below (h : RowX base H v f w) (hb : Below w.heap.size w w') : RowX base H v f w' := h.keep (fun x _ hl _ => hb.block x hl) hb.size
theorem RowX.set_ (h : RowX base H v f w) {p : Addr} (hp : p.block = H) (u : Value) : RowX base H v f (w.setCell p u) := h.keep (fun x _ _ hn => heap_setCell_other w p x u (by omega)) (by simp [World.setCell])
theorem RowX.setlo (h : RowX base H v f w) {p : Addr} (hp : p.block < base) (u : Value) : RowX base H v f (w.setCell p u) := h.keep (fun x hx _ _ => heap_setCell_other w p x u (by omega)) (by simp [World.setCell])
/-- One term more. -/
theorem RowX.step {w1 w2 w3 : World} {xs : List Value} {L : List Nat} {k n : Int} {s : ByteArray} {kids : Fr} {A : Option Addr} {cap cap' g : Nat} (hr : rb < base)
    (hD : Desc w f xs L) (hN : L.Nodup) (hL : ∀ x ∈ L, base ≤ x ∧ x < w.heap.size ∧ x ≠ H) (hv : ∀ g, v.ownBlock = some g → g ∉ L ∧ g ≠ H) (hvl : ∀ g, v.ownBlock = some g → g < w.heap.size) (hbase : base ≤ w.heap.size) (hH : H < w.heap.size)
    (hf : Fits k n s) (hm : MadeW rb w kids A cap w1) (hb2 : Below w1.heap.size w1 w2) (hg : w2.grownBy w3 v.ownBlock)
    (ho : w3.ownsRow base 30 4 (.slice (some ⟨g, 0, none⟩) (f.len + 1) cap') (f.len + 1) (xs ++ [.int .i64 k, .int .i64 n, .string s, .slice A kids.len cap])) (hat : v.ownBlock = some g ∨ g = w2.heap.size) :
    RowX base H (.slice (some ⟨g, 0, none⟩) (f.len + 1) cap') (f.app (.cons k n s kids .nil)) w3 := by
  obtain ⟨L', how, hn', hL', hb1⟩ := hm
  have h12 : w.heap.size ≤ w2.heap.size := Nat.le_trans hb1.size hb2.size
  have far : ∀ x, x < w1.heap.size → (∀ g, v.ownBlock = some g → x ≠ g) → w3.heap[x]? = w1.heap[x]? := fun x hx hne =>
    (hg.block x (Nat.lt_of_lt_of_le hx hb2.size) fun e => hne x e.symm rfl).trans (hb2.block x hx)
  have hlen : (f.app (.cons k n s kids .nil)).len = f.len + 1 := by rw [Fr.len_app]; rfl
  refine ⟨_, L ++ L', by rw [hlen]; exact ho, Desc.snoc f hf (how.keep fun x hx => far x (hL' x hx).2 fun g hg e => ?_) xs L (hD.keep f xs L fun x hx => ?_), List.nodup_append.2 ⟨hN, hn', fun a ha b hb e => ?_⟩, fun x hx => ?_, fun g' hg' => ?_⟩
  · have := hvl g hg; have := (hL' x hx).1; omega
  · rw [far x (Nat.lt_of_lt_of_le (hL x hx).2.1 hb1.size) fun g hg e => (hv g hg).1 (e ▸ hx)]
    exact hb1.block x (hL x hx).2.1 (by simp; have := (hL x hx).1; omega)
  · have := (hL a ha).2.1; have := (hL' b hb).1; omega
  · have hs3 := hg.size
    have := hb2.size
    rcases List.mem_append.1 hx with hx | hx
    · have := hL x hx; omega
    · have := hL' x hx; omega
  · have e : g = g' := by simpa [Value.ownBlock] using hg'
    subst e
    have := hb2.size
    rcases hat with h | rfl
    · refine ⟨fun hx => ?_, (hv g h).2⟩
      rcases List.mem_append.1 hx with hx | hx
      · exact (hv g h).1 hx
      · have := hvl g h; have := (hL' g hx).1; omega
    · refine ⟨fun hx => ?_, by omega⟩
      rcases List.mem_append.1 hx with hx | hx
      · have := (hL _ hx).2.1; omega
      · have := (hL' _ hx).2; omega
end

set_option maxRecDepth 100000 in
/-- spec.l1Var. -/
theorem var_any (n : Int) (w : World) : Calls Tryz.prog 57 #[.int .i64 n] w fun e w' => e = .returned (.agg #[.int .i64 1, .int .i64 n, .string ⟨#[]⟩, .slice none 0 0]) ∧ Below w.heap.size w w' := by
  have hq := Blk.new w 30 #[.int .i64 1, .int .i64 n, .string ⟨#[]⟩, .slice none 0 0]
  have HB : ∀ o, Hid (Below w.heap.size w (w.alloc o)) := fun o => Lib.hid ((Below.refl _ _).alloc (Nat.le_refl _) _)
  have HQ := Lib.hid hq
  clear hq
  go_enter Tryz.func57, Tryz.ntmps57
  go_wp2_with fail
  refine bodyPost_ret (v := .agg #[.int .i64 1, .int .i64 n, .string ⟨#[]⟩, .slice none 0 0]) ?_ rfl ⟨rfl, (HB _).out⟩
  exact results_cell_row Tryz.results57 _ _ w.heap.size _ _ _ _ rfl HQ.out Tryz.underlying30 rfl (by kernel_rfl)
set_option maxRecDepth 100000 in
/-- spec.l1Int. -/
theorem int_any (n : Int) (w : World) : Calls Tryz.prog 58 #[.int .i64 n] w fun e w' => e = .returned (.agg #[.int .i64 2, .int .i64 n, .string ⟨#[]⟩, .slice none 0 0]) ∧ Below w.heap.size w w' := by
  have hq := Blk.new w 30 #[.int .i64 2, .int .i64 n, .string ⟨#[]⟩, .slice none 0 0]
  have HB : ∀ o, Hid (Below w.heap.size w (w.alloc o)) := fun o => Lib.hid ((Below.refl _ _).alloc (Nat.le_refl _) _)
  have HQ := Lib.hid hq
  clear hq
  go_enter Tryz.func58, Tryz.ntmps58
  go_wp2_with fail
  refine bodyPost_ret (v := .agg #[.int .i64 2, .int .i64 n, .string ⟨#[]⟩, .slice none 0 0]) ?_ rfl ⟨rfl, (HB _).out⟩
  exact results_cell_row Tryz.results58 _ _ w.heap.size _ _ _ _ rfl HQ.out Tryz.underlying30 rfl (by kernel_rfl)
set_option maxRecDepth 100000 in
/-- spec.l18Open. -/
theorem open18_any (A : Option Addr) (len cap : Nat) (w : World) (hb : Bts w w.heap.size A len) (hc : len ≤ cap) (hm : cap ≤ maxLen) :
    Calls Tryz.prog 13 #[.slice A len cap] w fun e w' => e = .returned (.pointer (some ⟨w.heap.size, 0, none⟩)) ∧ Rd w' w.heap.size 0 ∧ Below w.heap.size w w' := by
  have HB : ∀ o, Hid (Below w.heap.size w (w.alloc o)) := fun o => Lib.hid ((Below.refl _ _).alloc (Nat.le_refl _) _)
  unfold maxLen at hm
  by_cases h2 : len ≤ 2000
  · have HR : Hid (Rd (w.alloc (.cells #[.slice A len cap, .int .i64 0] 72)) w.heap.size 0) := Lib.hid ⟨A, len, cap, 0, Blk.new w _ _, hb.keep fun x hx => (HB _).out.block x hx, h2, Nat.le_refl _⟩
    have t0 : ¬ (len : Int) > 2000 := by omega
    clear hb
    go_enter Tryz.func13, Tryz.ntmps13
    go_wp2_with fail
    go_ret
    exact ⟨rfl, HR.out, (HB _).out⟩
  · obtain ⟨b, o, rfl, hbb, hbc⟩ := hb (by omega)
    have HR : Hid (Rd (w.alloc (.cells #[.slice (some ⟨b, o, none⟩) 2000 cap, .int .i64 0] 72)) w.heap.size 0) := Lib.hid ⟨_, 2000, cap, 0, Blk.new w _ _, fun _ => ⟨b, o, rfl, hbb, fun i hi => by
      obtain ⟨n, h1, h3⟩ := hbc i (by omega)
      exact ⟨n, ((HB _).out.cell (p := ⟨b, o + i, none⟩) hbb).trans h1, h3⟩⟩, Nat.le_refl _, Nat.le_refl _⟩
    have t0 : (len : Int) > 2000 := by omega
    clear hb hbc
    go_enter Tryz.func13, Tryz.ntmps13
    go_wp2_with fail
    go_ret
    exact ⟨rfl, HR.out, (HB _).out⟩
end Go.Proofs.YtihmgodiiohdnaaGreatDoor

/- spec.l2Prime: what fails at once, brackets, lists, variables. Condition: the contracts of the functions that it calls. -/
namespace Go.Proofs.YtihmgodiiohdnaaGreatDoor.rdr
open Go.RowKit

theorem bA_at {s : ByteArray} {a : Nat} (h : a < s.size) (x : Int) : bA s a x = ((s[a].toNat : Int) == x) := atB_some (Lib.data_getElem? s a h)
set_option maxRecDepth 100000 in
set_option maxHeartbeats 4000000 in
theorem pr_fail (s : ByteArray) (a dp : Nat) (w : World) (hs : s.size ≤ 1000) (ha : a ≤ s.size) (hdp : dp ≤ 30) (h : dp < 1 ∨ s.size ≤ a) :
    Calls Tryz.prog 77 #[.string s, .int .i64 a, .int .i64 dp] w fun e w' => RdR w none e w' := by
  have hb0 : Below w.heap.size w (w.alloc (.cells #[.int .i64 0, .int .i64 0, .string ⟨#[]⟩, .slice none 0 0] 30)) := (Below.refl _ _).alloc (Nat.le_refl _) _
  have hq0 := Blk.new w 30 #[.int .i64 0, .int .i64 0, .string ⟨#[]⟩, .slice none 0 0]
  have hs0 : (w.alloc (.cells #[.int .i64 0, .int .i64 0, .string ⟨#[]⟩, .slice none 0 0] 30)).heap.size = w.heap.size + 1 := by simp
  have HB0 := Lib.hid hb0
  have HQ0 := Lib.hid hq0
  have HS0 := Lib.hid hs0
  clear hb0 hq0 hs0
  have C1 := fun w1 => fails_any a w1 (by omega)
  have H1 := Lib.hid C1
  clear C1
  by_cases h1 : dp < 1
  · have t0 : (dp : Int) < 1 := by omega
    clear h
    go_enter Tryz.func77, Tryz.ntmps77
    go_wp2_with fail
    refine (H1.out _).mono ?_
    intro e w2 hr2
    obtain ⟨hb, z, hz, rfl⟩ := hr2.none_
    have HZ := Lib.hid hz
    have HB2 := Lib.hid (HB0.out.trans (hb.mono HB0.out.size))
    have HQ2 := Lib.hid (HQ0.out.below hb HQ0.out.lt)
    clear hb hz
    obtain ⟨d0, d1, d2, d3⟩ := cells4i HQ2.out
    obtain ⟨f0, f1, f2, f3⟩ := frozen4 HQ2.out
    go_wp2_with fail
    refine bodyPost_ret (v := .tuple #[.agg #[.int .i64 0, .int .i64 0, .string ⟨#[]⟩, .slice none 0 0], .int .i64 z]) ?_ rfl (RdR.fin0 HB2.out HZ.out _ _ _ _)
    exact results_cell_row2 Tryz.results77 _ _ w.heap.size _ _ _ _ rfl (rset4 HQ2.out _ _ _ _) Tryz.underlying30 rfl (by kernel_rfl)
  · have t0 : ¬ (dp : Int) < 1 := by omega
    have t1 : (a : Int) ≥ (s.size : Int) := by omega
    clear h h1
    go_enter Tryz.func77, Tryz.ntmps77
    go_wp2_with fail
    refine (H1.out _).mono ?_
    intro e w2 hr2
    obtain ⟨hb, z, hz, rfl⟩ := hr2.none_
    have HZ := Lib.hid hz
    have HB2 := Lib.hid (HB0.out.trans (hb.mono HB0.out.size))
    have HQ2 := Lib.hid (HQ0.out.below hb HQ0.out.lt)
    clear hb hz
    obtain ⟨d0, d1, d2, d3⟩ := cells4i HQ2.out
    obtain ⟨f0, f1, f2, f3⟩ := frozen4 HQ2.out
    go_wp2_with fail
    refine bodyPost_ret (v := .tuple #[.agg #[.int .i64 0, .int .i64 0, .string ⟨#[]⟩, .slice none 0 0], .int .i64 z]) ?_ rfl (RdR.fin0 HB2.out HZ.out _ _ _ _)
    exact results_cell_row2 Tryz.results77 _ _ w.heap.size _ _ _ _ rfl (rset4 HQ2.out _ _ _ _) Tryz.underlying30 rfl (by kernel_rfl)
set_option maxRecDepth 100000 in
set_option maxHeartbeats 4000000 in
theorem pr_bra (n : Nat) (s : ByteArray) (a dp : Nat) (w : World) (hs : s.size ≤ 1000) (ha : a < s.size) (hdp : dp ≤ 30) (hd1 : 1 ≤ dp) (hb4 : bA s a 40 = true) (h : TC n) (hn : 8 * (s.size - a) ≤ n) :
    Calls Tryz.prog 77 #[.string s, .int .i64 a, .int .i64 dp] w fun e w' => RdR w (match rdT n s (a + 1) dp 3 with | none => none | some (t, e) => if bA s e 41 = true then some (t, e + 1) else none) e w' := by
  have hb0 : Below w.heap.size w (w.alloc (.cells #[.int .i64 0, .int .i64 0, .string ⟨#[]⟩, .slice none 0 0] 30)) := (Below.refl _ _).alloc (Nat.le_refl _) _
  have hq0 := Blk.new w 30 #[.int .i64 0, .int .i64 0, .string ⟨#[]⟩, .slice none 0 0]
  have hs0 : (w.alloc (.cells #[.int .i64 0, .int .i64 0, .string ⟨#[]⟩, .slice none 0 0] 30)).heap.size = w.heap.size + 1 := by simp
  have HB0 := Lib.hid hb0
  have HQ0 := Lib.hid hq0
  have HS0 := Lib.hid hs0
  clear hb0 hq0 hs0
  have C1 := h s (a + 1) dp 3 (w.alloc (.cells #[.int .i64 0, .int .i64 0, .string ⟨#[]⟩, .slice none 0 0] 30)) hs (by omega) hdp (by omega) (by omega)
  rw [show ((a + 1 : Nat) : Int) = (a : Int) + 1 by omega] at C1
  have t0 : ¬ (dp : Int) < 1 := by omega
  have t1 : ¬ (a : Int) ≥ (s.size : Int) := by omega
  have t2 : ((s[a].toNat : Int) == 40) = true := by rw [← bA_at ha]; exact hb4
  have hp := (rd_prog n).1 s (a + 1) dp 3
  cases hq : rdT n s (a + 1) dp 3 with
  | none =>
    show Calls Tryz.prog 77 #[.string s, .int .i64 a, .int .i64 dp] w fun e w' => RdR w none e w'
    rw [hq] at C1
    have H1 := Lib.hid C1
    clear C1 h hb4 hq hp
    go_enter Tryz.func77, Tryz.ntmps77
    go_wp2_with fail
    refine H1.out.mono ?_
    intro e w2 hr2
    obtain ⟨hb, z, hz, rfl⟩ := hr2.none_
    have HZ := Lib.hid hz
    have hzl := hz.2
    have HB2 := Lib.hid (HB0.out.trans (hb.mono HB0.out.size))
    have HQ2 := Lib.hid (HQ0.out.below hb HQ0.out.lt)
    clear hb hz
    have hl2 := HQ2.out.lt
    obtain ⟨d0, d1, d2, d3⟩ := cells4i HQ2.out
    obtain ⟨f0, f1, f2, f3⟩ := frozen4 HQ2.out
    go_wp2_with fail
    refine bodyPost_ret (v := .tuple #[.agg #[.int .i64 0, .int .i64 0, .string ⟨#[]⟩, .slice none 0 0], .int .i64 z]) ?_ rfl (RdR.fin0a HB2.out HZ.out _ _ _ _ _)
    exact results_cell_row2 Tryz.results77 _ _ w.heap.size _ _ _ _ rfl ((rset4 HQ2.out _ _ _ _).alloc _) Tryz.underlying30 rfl (by kernel_rfl)
  | some r =>
    obtain ⟨⟨k, m, s0, f⟩, p⟩ := r
    have hpr := hp _ _ hq
    rw [hq] at C1
    have C2 := fun w1 => sign_any s p 41 w1 (by unfold maxLen; omega) (by unfold maxLen; omega)
    have C3 := fun w1 => fails_any p w1 (by omega)
    have t3 : ¬ (p : Int) < 0 := by omega
    have hpl : p ≤ 1000 := by omega
    have H1 := Lib.hid C1
    have H3 := Lib.hid C3
    have HE : Hid (bA s p 41 = atB (sgC 41) s.data.toList p) := Lib.hid rfl
    generalize atB (sgC 41) s.data.toList p = ok at *
    have H2 := Lib.hid C2
    clear C1 C2 C3 h hb4 hq hp hpr
    show Calls Tryz.prog 77 #[.string s, .int .i64 a, .int .i64 dp] w fun e w' => RdR w (if bA s p 41 = true then some ((k, m, s0, f), p + 1) else none) e w'
    rw [HE.out]
    cases ok
    · go_enter Tryz.func77, Tryz.ntmps77
      go_wp2_with fail
      refine H1.out.mono ?_
      intro e w2 hr2
      obtain ⟨hb, A, cap, rfl, hf, hk⟩ := hr2.some_
      have HF := Lib.hid hf
      have hb3 : Below w2.heap.size w2 (w2.alloc (.cells #[.int .i64 k, .int .i64 m, .string s0, .slice A f.len cap] 30)) := (Below.refl _ _).alloc (Nat.le_refl _) _
      have hb02 := HB0.out.trans (hb.mono HB0.out.size)
      have HB3 := Lib.hid (hb02.trans (hb3.mono hb02.size))
      have HQ3 := Lib.hid ((HQ0.out.below hb HQ0.out.lt).alloc (.cells #[.int .i64 k, .int .i64 m, .string s0, .slice A f.len cap] 30))
      have HT3 := Lib.hid (Blk.new w2 30 #[.int .i64 k, .int .i64 m, .string s0, .slice A f.len cap])
      have HK3 := Lib.hid ((hk.below hb3 (Nat.le_refl _)).more (Nat.le_of_eq HS0.out.symm) hb3.size)
      clear hb hf hk hb3 hb02
      go_wp2_with fail
      generalize w2.alloc (.cells #[.int .i64 k, .int .i64 m, .string s0, .slice A f.len cap] 30) = w3 at *
      generalize w2.heap.size = G at *
      refine (H2.out _).mono ?_
      rintro e w4 ⟨rfl, hw⟩
      subst hw
      go_wp2_with fail
      refine (H3.out _).mono ?_
      intro e w5 hr2
      obtain ⟨hb, z, hz, rfl⟩ := hr2.none_
      have HZ := Lib.hid hz
      have HB2 := Lib.hid (HB3.out.trans (hb.mono HB3.out.size))
      have HQ2 := Lib.hid (HQ3.out.below hb HQ3.out.lt)
      clear hb hz
      obtain ⟨d0, d1, d2, d3⟩ := cells4i HQ2.out
      obtain ⟨f0, f1, f2, f3⟩ := frozen4 HQ2.out
      go_wp2_with fail
      refine bodyPost_ret (v := .tuple #[.agg #[.int .i64 0, .int .i64 0, .string ⟨#[]⟩, .slice none 0 0], .int .i64 z]) ?_ rfl (RdR.fin0 HB2.out HZ.out _ _ _ _)
      exact results_cell_row2 Tryz.results77 _ _ w.heap.size _ _ _ _ rfl (rset4 HQ2.out _ _ _ _) Tryz.underlying30 rfl (by kernel_rfl)
    · go_enter Tryz.func77, Tryz.ntmps77
      go_wp2_with fail
      refine H1.out.mono ?_
      intro e w2 hr2
      obtain ⟨hb, A, cap, rfl, hf, hk⟩ := hr2.some_
      have HF := Lib.hid hf
      have hb3 : Below w2.heap.size w2 (w2.alloc (.cells #[.int .i64 k, .int .i64 m, .string s0, .slice A f.len cap] 30)) := (Below.refl _ _).alloc (Nat.le_refl _) _
      have hb02 := HB0.out.trans (hb.mono HB0.out.size)
      have HB3 := Lib.hid (hb02.trans (hb3.mono hb02.size))
      have HQ3 := Lib.hid ((HQ0.out.below hb HQ0.out.lt).alloc (.cells #[.int .i64 k, .int .i64 m, .string s0, .slice A f.len cap] 30))
      have HT3 := Lib.hid (Blk.new w2 30 #[.int .i64 k, .int .i64 m, .string s0, .slice A f.len cap])
      have HK3 := Lib.hid ((hk.below hb3 (Nat.le_refl _)).more (Nat.le_of_eq HS0.out.symm) hb3.size)
      clear hb hf hk hb3 hb02
      go_wp2_with fail
      generalize w2.alloc (.cells #[.int .i64 k, .int .i64 m, .string s0, .slice A f.len cap] 30) = w3 at *
      generalize w2.heap.size = G at *
      refine (H2.out _).mono ?_
      rintro e w4 ⟨rfl, hw⟩
      subst hw
      obtain ⟨x0, x1, x2, x3⟩ := cells4i HT3.out
      obtain ⟨d0, d1, d2, d3⟩ := cells4i HQ3.out
      obtain ⟨f0, f1, f2, f3⟩ := frozen4 HQ3.out
      go_wp2_with fail
      refine bodyPost_ret (v := .tuple #[.agg #[.int .i64 k, .int .i64 m, .string s0, .slice A f.len cap], .int .i64 ((p : Int) + 1)]) ?_ rfl (RdR.fin (p := p + 1) HB3.out HF.out HK3.out _ _ _ _)
      exact results_cell_row2 Tryz.results77 _ _ w.heap.size _ _ _ _ rfl (rset4 HQ3.out _ _ _ _) Tryz.underlying30 rfl (by kernel_rfl)
set_option maxRecDepth 100000 in
set_option maxHeartbeats 4000000 in
theorem pr_list (n : Nat) (s : ByteArray) (a dp : Nat) (w : World) (hs : s.size ≤ 1000) (ha : a < s.size) (hdp : dp ≤ 30) (hd1 : 1 ≤ dp) (hb4 : bA s a 91 = true) (hb5 : bA s (a + 1) 93 = false) (h : IC n) (hn : 8 * (s.size - a) ≤ n) :
    Calls Tryz.prog 77 #[.string s, .int .i64 a, .int .i64 dp] w fun e w' => RdR w (rdI n s (a + 1) (dp - 1)) e w' := by
  have hb0 : Below w.heap.size w (w.alloc (.cells #[.int .i64 0, .int .i64 0, .string ⟨#[]⟩, .slice none 0 0] 30)) := (Below.refl _ _).alloc (Nat.le_refl _) _
  have hq0 := Blk.new w 30 #[.int .i64 0, .int .i64 0, .string ⟨#[]⟩, .slice none 0 0]
  have hs0 : (w.alloc (.cells #[.int .i64 0, .int .i64 0, .string ⟨#[]⟩, .slice none 0 0] 30)).heap.size = w.heap.size + 1 := by simp
  have HB0 := Lib.hid hb0
  have HQ0 := Lib.hid hq0
  have HS0 := Lib.hid hs0
  clear hb0 hq0 hs0
  have C1 := h s (a + 1) (dp - 1) (w.alloc (.cells #[.int .i64 0, .int .i64 0, .string ⟨#[]⟩, .slice none 0 0] 30)) hs (by omega) (by omega) (by omega)
  rw [show ((a + 1 : Nat) : Int) = (a : Int) + 1 by omega, show ((dp - 1 : Nat) : Int) = (dp : Int) - 1 by omega] at C1
  have t0 : ¬ (dp : Int) < 1 := by omega
  have t1 : ¬ (a : Int) ≥ (s.size : Int) := by omega
  have h91 : ((s[a].toNat : Int) == 91) = true := by rw [← bA_at ha]; exact hb4
  have t2 : ((s[a].toNat : Int) == 40) = false := by rw [beq_iff_eq] at h91; rw [beq_eq_false_iff_ne]; omega
  have C2 := fun w1 => sign_any s (a + 1) 93 w1 (by unfold maxLen; omega) (by unfold maxLen; omega)
  rw [show ((a + 1 : Nat) : Int) = (a : Int) + 1 by omega, show atB (sgC 93) s.data.toList (a + 1) = false from hb5] at C2
  have H2 := Lib.hid C2
  cases hq : rdI n s (a + 1) (dp - 1) with
  | none =>
    rw [hq] at C1
    have H1 := Lib.hid C1
    clear C1 C2 h hb4 hb5 hq
    go_enter Tryz.func77, Tryz.ntmps77
    go_wp2_with fail
    refine (H2.out _).mono ?_
    rintro e w4 ⟨rfl, hw⟩
    subst hw
    go_wp2_with fail
    refine H1.out.mono ?_
    intro e w2 hr2
    obtain ⟨hb, z, hz, rfl⟩ := hr2.none_
    have HZ := Lib.hid hz
    have hzl := hz.2
    have HB2 := Lib.hid (HB0.out.trans (hb.mono HB0.out.size))
    have HQ2 := Lib.hid (HQ0.out.below hb HQ0.out.lt)
    clear hb hz
    have hl2 := HQ2.out.lt
    obtain ⟨d0, d1, d2, d3⟩ := cells4i HQ2.out
    obtain ⟨f0, f1, f2, f3⟩ := frozen4 HQ2.out
    go_wp2_with fail
    refine bodyPost_ret (v := .tuple #[.agg #[.int .i64 0, .int .i64 0, .string ⟨#[]⟩, .slice none 0 0], .int .i64 z]) ?_ rfl (RdR.fin0 HB2.out HZ.out _ _ _ _)
    exact results_cell_row2 Tryz.results77 _ _ w.heap.size _ _ _ _ rfl (rset4 HQ2.out _ _ _ _) Tryz.underlying30 rfl (by kernel_rfl)
  | some r =>
    obtain ⟨⟨k, m, s0, f⟩, p⟩ := r
    rw [hq] at C1
    have H1 := Lib.hid C1
    clear C1 C2 h hb4 hb5 hq
    go_enter Tryz.func77, Tryz.ntmps77
    go_wp2_with fail
    refine (H2.out _).mono ?_
    rintro e w4 ⟨rfl, hw⟩
    subst hw
    go_wp2_with fail
    refine H1.out.mono ?_
    intro e w2 hr2
    obtain ⟨hb, A, cap, rfl, hf, hk⟩ := hr2.some_
    have HF := Lib.hid hf
    have HB2 := Lib.hid (HB0.out.trans (hb.mono HB0.out.size))
    have HQ2 := Lib.hid (HQ0.out.below hb HQ0.out.lt)
    have HK2 := Lib.hid (hk.more (Nat.le_of_eq HS0.out.symm) (Nat.le_refl _))
    clear hb hf hk
    obtain ⟨d0, d1, d2, d3⟩ := cells4i HQ2.out
    obtain ⟨f0, f1, f2, f3⟩ := frozen4 HQ2.out
    go_wp2_with fail
    refine bodyPost_ret (v := .tuple #[.agg #[.int .i64 k, .int .i64 m, .string s0, .slice A f.len cap], .int .i64 (p : Int)]) ?_ rfl (RdR.fin (p := p) HB2.out HF.out HK2.out _ _ _ _)
    exact results_cell_row2 Tryz.results77 _ _ w.heap.size _ _ _ _ rfl (rset4 HQ2.out _ _ _ _) Tryz.underlying30 rfl (by kernel_rfl)
set_option maxRecDepth 100000 in
set_option maxHeartbeats 4000000 in
theorem pr_var (s : ByteArray) (a dp : Nat) (w : World) (hs : s.size ≤ 1000) (ha : a < s.size) (hdp : dp ≤ 30) (hd1 : 1 ≤ dp) (hb4 : atB upC s.data.toList a = true) :
    Calls Tryz.prog 77 #[.string s, .int .i64 a, .int .i64 dp] w fun e w' => RdR w (some ((1, ((s.data.toList.getD a 0).toNat : Int) - 65, ⟨#[]⟩, .nil), a + 1)) e w' := by
  have hb0 : Below w.heap.size w (w.alloc (.cells #[.int .i64 0, .int .i64 0, .string ⟨#[]⟩, .slice none 0 0] 30)) := (Below.refl _ _).alloc (Nat.le_refl _) _
  have hq0 := Blk.new w 30 #[.int .i64 0, .int .i64 0, .string ⟨#[]⟩, .slice none 0 0]
  have hs0 : (w.alloc (.cells #[.int .i64 0, .int .i64 0, .string ⟨#[]⟩, .slice none 0 0] 30)).heap.size = w.heap.size + 1 := by simp
  have HB0 := Lib.hid hb0
  have HQ0 := Lib.hid hq0
  have HS0 := Lib.hid hs0
  clear hb0 hq0 hs0
  have t0 : ¬ (dp : Int) < 1 := by omega
  have t1 : ¬ (a : Int) ≥ (s.size : Int) := by omega
  have hup : 65 ≤ s[a].toNat ∧ s[a].toNat ≤ 90 := by
    rw [atB_some (Lib.data_getElem? s a ha)] at hb4
    unfold upC at hb4
    simpa using hb4
  have hget : s.data.toList.getD a 0 = s[a] := by
    rw [List.getD_eq_getElem?_getD, Lib.data_getElem? s a ha]; rfl
  rw [hget]
  have h255 : s[a].toNat < 256 := s[a].toNat_lt
  have t2 : ((s[a].toNat : Int) == 40) = false := by rw [beq_eq_false_iff_ne]; omega
  have t3 : ((s[a].toNat : Int) == 91) = false := by rw [beq_eq_false_iff_ne]; omega
  have t4 : (s[a].toNat : Int) ≥ 65 := by omega
  have t5 : decide ((s[a].toNat : Int) ≤ 90) = true := decide_eq_true (by omega)
  have t6 : (s[a].toNat : Int) ≤ 90 := by omega
  clear hb4 hget
  have C1 := fun z w1 => var_any z w1
  have H1 := Lib.hid C1
  have HU := Lib.hid hup
  clear C1 hup
  go_enter Tryz.func77, Tryz.ntmps77
  go_wp2_with fail
  refine (H1.out _ _).mono ?_
  rintro e w2 ⟨rfl, hb⟩
  have HB2 := Lib.hid (HB0.out.trans (hb.mono HB0.out.size))
  have HQ2 := Lib.hid (HQ0.out.below hb HQ0.out.lt)
  clear hb
  obtain ⟨d0, d1, d2, d3⟩ := cells4i HQ2.out
  obtain ⟨f0, f1, f2, f3⟩ := frozen4 HQ2.out
  go_wp2_with fail
  refine bodyPost_ret (v := .tuple #[.agg #[.int .i64 1, .int .i64 ((s[a].toNat : Int) - 65), .string ⟨#[]⟩, .slice none 0 0], .int .i64 ((a : Int) + 1)]) ?_ rfl (RdR.fin (p := a + 1) (f := .nil) HB2.out ⟨by omega, by have := HU.out; omega, by unfold maxLen; decide⟩ (KidsAt.nil _ _ _ _ _ (Nat.zero_le _)) _ _ _ _)
  exact results_cell_row2 Tryz.results77 _ _ w.heap.size _ _ _ _ rfl (rset4 HQ2.out _ _ _ _) Tryz.underlying30 rfl (by kernel_rfl)
end Go.Proofs.YtihmgodiiohdnaaGreatDoor.rdr

/- spec.l2Prime: numbers, names. Condition: the contracts of the functions that it calls. -/
namespace Go.Proofs.YtihmgodiiohdnaaGreatDoor.rdr
open Go.RowKit

theorem nuK_fits {g : Bool} {b : List UInt8} (h : nuK g b = true) : Fits 2 (nuV g b) ⟨#[]⟩ := by
  unfold nuK at h
  simp only [Bool.and_eq_true, decide_eq_true_eq] at h
  refine ⟨by omega, ?_, by unfold maxLen; decide⟩
  unfold nuV
  split <;> omega
/-- A byte that no digit and no sign of a number is. -/
theorem dg_or {s : ByteArray} {a : Nat} (ha : a < s.size) (h : atB dgC s.data.toList a = true ∨ (bA s a 45 = true ∧ atB dgC s.data.toList (a + 1) = true)) :
    (atB dgC s.data.toList a = true ∧ 48 ≤ s[a].toNat ∧ s[a].toNat ≤ 57) ∨ (atB dgC s.data.toList a = false ∧ s[a].toNat = 45 ∧ atB dgC s.data.toList (a + 1) = true) := by
  have hd : atB dgC s.data.toList a = dgC s[a] := atB_some (Lib.data_getElem? s a ha)
  rcases h with h | ⟨h1, h2⟩
  · refine .inl ⟨h, ?_⟩
    rw [hd] at h
    unfold dgC at h
    simpa using h
  · rw [bA_at ha, beq_iff_eq] at h1
    refine .inr ⟨?_, by omega, h2⟩
    rw [hd]
    unfold dgC
    rw [show decide (48 ≤ s[a].toNat) = false from decide_eq_false (by omega)]
    rfl
set_option maxRecDepth 100000 in
set_option maxHeartbeats 4000000 in
theorem pr_num (s : ByteArray) (a dp : Nat) (w : World) (hs : s.size ≤ 1000) (ha : a < s.size) (hdp : dp ≤ 30) (hd1 : 1 ≤ dp) (h : atB dgC s.data.toList a = true ∨ (bA s a 45 = true ∧ atB dgC s.data.toList (a + 1) = true)) :
    Calls Tryz.prog 77 #[.string s, .int .i64 a, .int .i64 dp] w fun e w' => RdR w (if nuK (nuG s.data.toList a) (nuB s.data.toList (nuF s.data.toList a)) = true then some ((2, nuV (nuG s.data.toList a) (nuB s.data.toList (nuF s.data.toList a)), ⟨#[]⟩, .nil), nuF s.data.toList a + nuD s.data.toList (nuF s.data.toList a)) else none) e w' := by
  have hb0 : Below w.heap.size w (w.alloc (.cells #[.int .i64 0, .int .i64 0, .string ⟨#[]⟩, .slice none 0 0] 30)) := (Below.refl _ _).alloc (Nat.le_refl _) _
  have hq0 := Blk.new w 30 #[.int .i64 0, .int .i64 0, .string ⟨#[]⟩, .slice none 0 0]
  have hs0 : (w.alloc (.cells #[.int .i64 0, .int .i64 0, .string ⟨#[]⟩, .slice none 0 0] 30)).heap.size = w.heap.size + 1 := by simp
  have HB0 := Lib.hid hb0
  have HQ0 := Lib.hid hq0
  have HS0 := Lib.hid hs0
  clear hb0 hq0 hs0
  have t0 : ¬ (dp : Int) < 1 := by omega
  have t1 : ¬ (a : Int) ≥ (s.size : Int) := by omega
  have hdg := dg_or ha h
  have CD := fun w1 => digit_any s a w1 (by unfold maxLen; omega) (by unfold maxLen; omega)
  have CE := fun w1 => digit_any s (a + 1) w1 (by unfold maxLen; omega) (by unfold maxLen; omega)
  rw [show ((a + 1 : Nat) : Int) = (a : Int) + 1 by omega] at CE
  have C1 := number_any s a (w.alloc (.cells #[.int .i64 0, .int .i64 0, .string ⟨#[]⟩, .slice none 0 0] 30)) (by omega) (by omega)
  have C3 := fun w1 => fails_any a w1 (by omega)
  have H3 := Lib.hid C3
  cases hK : nuK (nuG s.data.toList a) (nuB s.data.toList (nuF s.data.toList a)) with
  | true =>
    have hpr := (nu_prog hK).2
    have HFT := Lib.hid (nuK_fits hK)
    rw [if_pos rfl]
    unfold nuT nuE at C1
    rw [if_pos hK, if_pos hK] at C1
    generalize nuV (nuG s.data.toList a) (nuB s.data.toList (nuF s.data.toList a)) = v at *
    generalize nuF s.data.toList a + nuD s.data.toList (nuF s.data.toList a) = p at *
    have H1 := Lib.hid C1
    have t6 : ¬ (p : Int) < 0 := by omega
    clear C1 C3 h hK hpr
    rcases hdg with ⟨z1, z2, z3⟩ | ⟨z1, z2, z3⟩
    · have t2 : ((s[a].toNat : Int) == 40) = false := by rw [beq_eq_false_iff_ne]; omega
      have t3 : ((s[a].toNat : Int) == 91) = false := by rw [beq_eq_false_iff_ne]; omega
      have t4 : ¬ (s[a].toNat : Int) ≥ 65 := by omega
      rw [z1] at CD
      have HD := Lib.hid CD
      clear CD CE z1 z2 z3
      go_enter Tryz.func77, Tryz.ntmps77
      go_wp2_with fail
      refine (HD.out _).mono ?_
      rintro e w4 ⟨rfl, hw⟩
      subst hw
      go_wp2_with fail
      refine H1.out.mono ?_
      rintro e w2 ⟨rfl, hb⟩
      have HB2 := Lib.hid (HB0.out.trans (hb.mono HB0.out.size))
      have HQ2 := Lib.hid (HQ0.out.below hb HQ0.out.lt)
      clear hb
      have hl2 := HQ2.out.lt
      obtain ⟨d0, d1, d2, d3⟩ := cells4i HQ2.out
      obtain ⟨f0, f1, f2, f3⟩ := frozen4 HQ2.out
      go_wp2_with fail
      refine bodyPost_ret (v := .tuple #[.agg #[.int .i64 2, .int .i64 v, .string ⟨#[]⟩, .slice none 0 0], .int .i64 (p : Int)]) ?_ rfl (RdR.finA (p := p) (f := .nil) HB2.out HFT.out (KidsAt.nil _ _ _ _ _ (Nat.zero_le _)) _ _ _ _ _)
      exact results_cell_row2 Tryz.results77 _ _ w.heap.size _ _ _ _ rfl ((rset4 HQ2.out _ _ _ _).alloc _) Tryz.underlying30 rfl (by kernel_rfl)
    · have t2 : ((s[a].toNat : Int) == 40) = false := by rw [beq_eq_false_iff_ne]; omega
      have t3 : ((s[a].toNat : Int) == 91) = false := by rw [beq_eq_false_iff_ne]; omega
      have t4 : ¬ (s[a].toNat : Int) ≥ 65 := by omega
      have t5 : ((s[a].toNat : Int) == 45) = true := by rw [beq_iff_eq]; omega
      rw [z1] at CD
      rw [z3] at CE
      have HD := Lib.hid CD
      have HE2 := Lib.hid CE
      clear CD CE z1 z2 z3
      go_enter Tryz.func77, Tryz.ntmps77
      go_wp2_with fail
      refine (HD.out _).mono ?_
      rintro e w4 ⟨rfl, hw⟩
      subst hw
      go_wp2_with fail
      refine (HE2.out _).mono ?_
      rintro e w4 ⟨rfl, hw⟩
      subst hw
      go_wp2_with fail
      refine H1.out.mono ?_
      rintro e w2 ⟨rfl, hb⟩
      have HB2 := Lib.hid (HB0.out.trans (hb.mono HB0.out.size))
      have HQ2 := Lib.hid (HQ0.out.below hb HQ0.out.lt)
      clear hb
      have hl2 := HQ2.out.lt
      obtain ⟨d0, d1, d2, d3⟩ := cells4i HQ2.out
      obtain ⟨f0, f1, f2, f3⟩ := frozen4 HQ2.out
      go_wp2_with fail
      refine bodyPost_ret (v := .tuple #[.agg #[.int .i64 2, .int .i64 v, .string ⟨#[]⟩, .slice none 0 0], .int .i64 (p : Int)]) ?_ rfl (RdR.finA (p := p) (f := .nil) HB2.out HFT.out (KidsAt.nil _ _ _ _ _ (Nat.zero_le _)) _ _ _ _ _)
      exact results_cell_row2 Tryz.results77 _ _ w.heap.size _ _ _ _ rfl ((rset4 HQ2.out _ _ _ _).alloc _) Tryz.underlying30 rfl (by kernel_rfl)
  | false =>
    rw [if_neg (by decide)]
    unfold nuT nuE at C1
    rw [if_neg (by rw [hK]; decide), if_neg (by rw [hK]; decide)] at C1
    have H1 := Lib.hid C1
    clear C1 C3 h hK
    rcases hdg with ⟨z1, z2, z3⟩ | ⟨z1, z2, z3⟩
    · have t2 : ((s[a].toNat : Int) == 40) = false := by rw [beq_eq_false_iff_ne]; omega
      have t3 : ((s[a].toNat : Int) == 91) = false := by rw [beq_eq_false_iff_ne]; omega
      have t4 : ¬ (s[a].toNat : Int) ≥ 65 := by omega
      rw [z1] at CD
      have HD := Lib.hid CD
      clear CD CE z1 z2 z3
      go_enter Tryz.func77, Tryz.ntmps77
      go_wp2_with fail
      refine (HD.out _).mono ?_
      rintro e w4 ⟨rfl, hw⟩
      subst hw
      go_wp2_with fail
      refine H1.out.mono ?_
      rintro e w2 ⟨rfl, hb⟩
      have hb3 : Below w2.heap.size w2 (w2.alloc (.cells #[.int .i64 0, .int .i64 0, .string ⟨#[]⟩, .slice none 0 0] 30)) := (Below.refl _ _).alloc (Nat.le_refl _) _
      have hb02 := HB0.out.trans (hb.mono HB0.out.size)
      have HB3 := Lib.hid (hb02.trans (hb3.mono hb02.size))
      have HQ3 := Lib.hid ((HQ0.out.below hb HQ0.out.lt).alloc (.cells #[.int .i64 0, .int .i64 0, .string ⟨#[]⟩, .slice none 0 0] 30))
      clear hb hb3 hb02
      go_wp2_with fail
      generalize w2.alloc (.cells #[.int .i64 0, .int .i64 0, .string ⟨#[]⟩, .slice none 0 0] 30) = w3 at *
      refine (H3.out _).mono ?_
      intro e w5 hr2
      obtain ⟨hb, z, hz, rfl⟩ := hr2.none_
      have HZ := Lib.hid hz
      have HB2 := Lib.hid (HB3.out.trans (hb.mono HB3.out.size))
      have HQ2 := Lib.hid (HQ3.out.below hb HQ3.out.lt)
      clear hb hz
      obtain ⟨d0, d1, d2, d3⟩ := cells4i HQ2.out
      obtain ⟨f0, f1, f2, f3⟩ := frozen4 HQ2.out
      go_wp2_with fail
      refine bodyPost_ret (v := .tuple #[.agg #[.int .i64 0, .int .i64 0, .string ⟨#[]⟩, .slice none 0 0], .int .i64 z]) ?_ rfl (RdR.fin0 HB2.out HZ.out _ _ _ _)
      exact results_cell_row2 Tryz.results77 _ _ w.heap.size _ _ _ _ rfl (rset4 HQ2.out _ _ _ _) Tryz.underlying30 rfl (by kernel_rfl)
    · have t2 : ((s[a].toNat : Int) == 40) = false := by rw [beq_eq_false_iff_ne]; omega
      have t3 : ((s[a].toNat : Int) == 91) = false := by rw [beq_eq_false_iff_ne]; omega
      have t4 : ¬ (s[a].toNat : Int) ≥ 65 := by omega
      have t5 : ((s[a].toNat : Int) == 45) = true := by rw [beq_iff_eq]; omega
      rw [z1] at CD
      rw [z3] at CE
      have HD := Lib.hid CD
      have HE2 := Lib.hid CE
      clear CD CE z1 z2 z3
      go_enter Tryz.func77, Tryz.ntmps77
      go_wp2_with fail
      refine (HD.out _).mono ?_
      rintro e w4 ⟨rfl, hw⟩
      subst hw
      go_wp2_with fail
      refine (HE2.out _).mono ?_
      rintro e w4 ⟨rfl, hw⟩
      subst hw
      go_wp2_with fail
      refine H1.out.mono ?_
      rintro e w2 ⟨rfl, hb⟩
      have hb3 : Below w2.heap.size w2 (w2.alloc (.cells #[.int .i64 0, .int .i64 0, .string ⟨#[]⟩, .slice none 0 0] 30)) := (Below.refl _ _).alloc (Nat.le_refl _) _
      have hb02 := HB0.out.trans (hb.mono HB0.out.size)
      have HB3 := Lib.hid (hb02.trans (hb3.mono hb02.size))
      have HQ3 := Lib.hid ((HQ0.out.below hb HQ0.out.lt).alloc (.cells #[.int .i64 0, .int .i64 0, .string ⟨#[]⟩, .slice none 0 0] 30))
      clear hb hb3 hb02
      go_wp2_with fail
      generalize w2.alloc (.cells #[.int .i64 0, .int .i64 0, .string ⟨#[]⟩, .slice none 0 0] 30) = w3 at *
      refine (H3.out _).mono ?_
      intro e w5 hr2
      obtain ⟨hb, z, hz, rfl⟩ := hr2.none_
      have HZ := Lib.hid hz
      have HB2 := Lib.hid (HB3.out.trans (hb.mono HB3.out.size))
      have HQ2 := Lib.hid (HQ3.out.below hb HQ3.out.lt)
      clear hb hz
      obtain ⟨d0, d1, d2, d3⟩ := cells4i HQ2.out
      obtain ⟨f0, f1, f2, f3⟩ := frozen4 HQ2.out
      go_wp2_with fail
      refine bodyPost_ret (v := .tuple #[.agg #[.int .i64 0, .int .i64 0, .string ⟨#[]⟩, .slice none 0 0], .int .i64 z]) ?_ rfl (RdR.fin0 HB2.out HZ.out _ _ _ _)
      exact results_cell_row2 Tryz.results77 _ _ w.heap.size _ _ _ _ rfl (rset4 HQ2.out _ _ _ _) Tryz.underlying30 rfl (by kernel_rfl)
/-- What a byte is with which a name may begin. -/
theorem nm_or {s : ByteArray} {a : Nat} (ha : a < s.size) (h40 : bA s a 40 = false) (hl : ¬ (bA s a 91 = true ∧ bA s (a + 1) 93 = false)) (hu : atB upC s.data.toList a = false)
    (hd : ¬ (atB dgC s.data.toList a = true ∨ (bA s a 45 = true ∧ atB dgC s.data.toList (a + 1) = true))) :
    s[a].toNat ≠ 40 ∧ atB dgC s.data.toList a = false ∧ ((s[a].toNat = 91 ∧ bA s (a + 1) 93 = true) ∨ (s[a].toNat = 45 ∧ atB dgC s.data.toList (a + 1) = false) ∨ (s[a].toNat < 65 ∧ s[a].toNat ≠ 45) ∨ (90 < s[a].toNat ∧ s[a].toNat ≠ 91)) := by
  rw [bA_at ha] at h40 hl hd
  rw [atB_some (Lib.data_getElem? s a ha)] at hu
  have e40 : s[a].toNat ≠ 40 := by rw [beq_eq_false_iff_ne] at h40; omega
  have hu2 : ¬ (65 ≤ s[a].toNat ∧ s[a].toNat ≤ 90) := by
    intro hx
    unfold upC at hu
    rw [decide_eq_true hx.1, decide_eq_true hx.2] at hu
    cases hu
  refine ⟨e40, by rw [← Bool.not_eq_true]; exact fun hx => hd (.inl hx), ?_⟩
  by_cases c1 : s[a].toNat = 91
  · refine .inl ⟨c1, ?_⟩
    cases hx : bA s (a + 1) 93 with
    | true => rfl
    | false => exact absurd ⟨by rw [beq_iff_eq]; omega, hx⟩ hl
  · by_cases c2 : s[a].toNat = 45
    · refine .inr (.inl ⟨c2, ?_⟩)
      rw [← Bool.not_eq_true]
      exact fun hx => hd (.inr ⟨by rw [beq_iff_eq]; omega, hx⟩)
    · by_cases c3 : s[a].toNat < 65
      · exact .inr (.inr (.inl ⟨c3, c2⟩))
      · exact .inr (.inr (.inr ⟨by omega, c1⟩))
set_option maxRecDepth 100000 in
set_option maxHeartbeats 4000000 in
theorem pr_nmf (s : ByteArray) (a dp : Nat) (w : World) (hs : s.size ≤ 1000) (ha : a < s.size) (hdp : dp ≤ 30) (hd1 : 1 ≤ dp) (h40 : s[a].toNat ≠ 40) (hdg : atB dgC s.data.toList a = false) (hcs : (s[a].toNat = 91 ∧ bA s (a + 1) 93 = true) ∨ (s[a].toNat = 45 ∧ atB dgC s.data.toList (a + 1) = false) ∨ (s[a].toNat < 65 ∧ s[a].toNat ≠ 45) ∨ (90 < s[a].toNat ∧ s[a].toNat ≠ 91)) (h0 : nmN s a = 0) :
    Calls Tryz.prog 77 #[.string s, .int .i64 a, .int .i64 dp] w fun e w' => RdR w none e w' := by
  have hb0 : Below w.heap.size w (w.alloc (.cells #[.int .i64 0, .int .i64 0, .string ⟨#[]⟩, .slice none 0 0] 30)) := (Below.refl _ _).alloc (Nat.le_refl _) _
  have hq0 := Blk.new w 30 #[.int .i64 0, .int .i64 0, .string ⟨#[]⟩, .slice none 0 0]
  have hs0 : (w.alloc (.cells #[.int .i64 0, .int .i64 0, .string ⟨#[]⟩, .slice none 0 0] 30)).heap.size = w.heap.size + 1 := by simp
  have HB0 := Lib.hid hb0
  have HQ0 := Lib.hid hq0
  have HS0 := Lib.hid hs0
  clear hb0 hq0 hs0
  have t0 : ¬ (dp : Int) < 1 := by omega
  have t1 : ¬ (a : Int) ≥ (s.size : Int) := by omega
  have CD := fun w1 => digit_any s a w1 (by unfold maxLen; omega) (by unfold maxLen; omega)
  have CE := fun w1 => digit_any s (a + 1) w1 (by unfold maxLen; omega) (by unfold maxLen; omega)
  rw [show ((a + 1 : Nat) : Int) = (a : Int) + 1 by omega] at CE
  rw [hdg] at CD
  have C9 := fun w1 => sign_any s (a + 1) 93 w1 (by unfold maxLen; omega) (by unfold maxLen; omega)
  rw [show ((a + 1 : Nat) : Int) = (a : Int) + 1 by omega] at C9
  have CN := name_any s a (w.alloc (.cells #[.int .i64 0, .int .i64 0, .string ⟨#[]⟩, .slice none 0 0] 30)) (by omega) (by omega)
  clear hdg
  rw [show nmE s a = -1 by unfold nmE; rw [if_pos h0]] at CN
  have C3 := fun w1 => fails_any a w1 (by omega)
  have H3 := Lib.hid C3
  have H1 := Lib.hid CN
  clear CN C3 h0
  generalize nmS s a = n at *
  rcases hcs with ⟨z1, z2⟩ | ⟨z1, z2⟩ | ⟨z1, z2⟩ | ⟨z1, z2⟩
  · have t2 : ((s[a].toNat : Int) == 40) = false := by rw [beq_eq_false_iff_ne]; omega
    have t3 : ((s[a].toNat : Int) == 91) = true := by rw [beq_iff_eq]; omega
    have t4 : (s[a].toNat : Int) ≥ 65 := by omega
    have t5 : decide ((s[a].toNat : Int) ≤ 90) = false := decide_eq_false (by omega)
    have t6 : ((s[a].toNat : Int) == 45) = false := by rw [beq_eq_false_iff_ne]; omega
    rw [show atB (sgC 93) s.data.toList (a + 1) = true from z2] at C9
    have H9 := Lib.hid C9
    have HD := Lib.hid CD
    clear CD CE C9 z1 z2
    go_enter Tryz.func77, Tryz.ntmps77
    go_wp2_with fail
    refine (H9.out _).mono ?_
    rintro e w4 ⟨rfl, hw⟩
    subst hw
    go_wp2_with fail
    refine (HD.out _).mono ?_
    rintro e w4 ⟨rfl, hw⟩
    subst hw
    go_wp2_with fail
    refine H1.out.mono ?_
    rintro e w2 ⟨rfl, hb⟩
    have HB3 := Lib.hid (HB0.out.trans (hb.mono HB0.out.size))
    have HQ3 := Lib.hid (HQ0.out.below hb HQ0.out.lt)
    clear hb
    go_wp2_with fail
    refine (H3.out _).mono ?_
    intro e w5 hr2
    obtain ⟨hb, z, hz, rfl⟩ := hr2.none_
    have HZ := Lib.hid hz
    have HB2 := Lib.hid (HB3.out.trans (hb.mono HB3.out.size))
    have HQ2 := Lib.hid (HQ3.out.below hb HQ3.out.lt)
    clear hb hz
    obtain ⟨d0, d1, d2, d3⟩ := cells4i HQ2.out
    obtain ⟨f0, f1, f2, f3⟩ := frozen4 HQ2.out
    go_wp2_with fail
    refine bodyPost_ret (v := .tuple #[.agg #[.int .i64 0, .int .i64 0, .string ⟨#[]⟩, .slice none 0 0], .int .i64 z]) ?_ rfl (RdR.fin0 HB2.out HZ.out _ _ _ _)
    exact results_cell_row2 Tryz.results77 _ _ w.heap.size _ _ _ _ rfl (rset4 HQ2.out _ _ _ _) Tryz.underlying30 rfl (by kernel_rfl)
  · have t2 : ((s[a].toNat : Int) == 40) = false := by rw [beq_eq_false_iff_ne]; omega
    have t3 : ((s[a].toNat : Int) == 91) = false := by rw [beq_eq_false_iff_ne]; omega
    have t4 : ¬ (s[a].toNat : Int) ≥ 65 := by omega
    have t6 : ((s[a].toNat : Int) == 45) = true := by rw [beq_iff_eq]; omega
    rw [z2] at CE
    have HD := Lib.hid CD
    have HE2 := Lib.hid CE
    clear CD CE C9 z1 z2
    go_enter Tryz.func77, Tryz.ntmps77
    go_wp2_with fail
    refine (HD.out _).mono ?_
    rintro e w4 ⟨rfl, hw⟩
    subst hw
    go_wp2_with fail
    refine (HE2.out _).mono ?_
    rintro e w4 ⟨rfl, hw⟩
    subst hw
    go_wp2_with fail
    refine H1.out.mono ?_
    rintro e w2 ⟨rfl, hb⟩
    have HB3 := Lib.hid (HB0.out.trans (hb.mono HB0.out.size))
    have HQ3 := Lib.hid (HQ0.out.below hb HQ0.out.lt)
    clear hb
    go_wp2_with fail
    refine (H3.out _).mono ?_
    intro e w5 hr2
    obtain ⟨hb, z, hz, rfl⟩ := hr2.none_
    have HZ := Lib.hid hz
    have HB2 := Lib.hid (HB3.out.trans (hb.mono HB3.out.size))
    have HQ2 := Lib.hid (HQ3.out.below hb HQ3.out.lt)
    clear hb hz
    obtain ⟨d0, d1, d2, d3⟩ := cells4i HQ2.out
    obtain ⟨f0, f1, f2, f3⟩ := frozen4 HQ2.out
    go_wp2_with fail
    refine bodyPost_ret (v := .tuple #[.agg #[.int .i64 0, .int .i64 0, .string ⟨#[]⟩, .slice none 0 0], .int .i64 z]) ?_ rfl (RdR.fin0 HB2.out HZ.out _ _ _ _)
    exact results_cell_row2 Tryz.results77 _ _ w.heap.size _ _ _ _ rfl (rset4 HQ2.out _ _ _ _) Tryz.underlying30 rfl (by kernel_rfl)
  · have t2 : ((s[a].toNat : Int) == 40) = false := by rw [beq_eq_false_iff_ne]; omega
    have t3 : ((s[a].toNat : Int) == 91) = false := by rw [beq_eq_false_iff_ne]; omega
    have t4 : ¬ (s[a].toNat : Int) ≥ 65 := by omega
    have t6 : ((s[a].toNat : Int) == 45) = false := by rw [beq_eq_false_iff_ne]; omega
    have HD := Lib.hid CD
    clear CD CE C9 z1 z2
    go_enter Tryz.func77, Tryz.ntmps77
    go_wp2_with fail
    refine (HD.out _).mono ?_
    rintro e w4 ⟨rfl, hw⟩
    subst hw
    go_wp2_with fail
    refine H1.out.mono ?_
    rintro e w2 ⟨rfl, hb⟩
    have HB3 := Lib.hid (HB0.out.trans (hb.mono HB0.out.size))
    have HQ3 := Lib.hid (HQ0.out.below hb HQ0.out.lt)
    clear hb
    go_wp2_with fail
    refine (H3.out _).mono ?_
    intro e w5 hr2
    obtain ⟨hb, z, hz, rfl⟩ := hr2.none_
    have HZ := Lib.hid hz
    have HB2 := Lib.hid (HB3.out.trans (hb.mono HB3.out.size))
    have HQ2 := Lib.hid (HQ3.out.below hb HQ3.out.lt)
    clear hb hz
    obtain ⟨d0, d1, d2, d3⟩ := cells4i HQ2.out
    obtain ⟨f0, f1, f2, f3⟩ := frozen4 HQ2.out
    go_wp2_with fail
    refine bodyPost_ret (v := .tuple #[.agg #[.int .i64 0, .int .i64 0, .string ⟨#[]⟩, .slice none 0 0], .int .i64 z]) ?_ rfl (RdR.fin0 HB2.out HZ.out _ _ _ _)
    exact results_cell_row2 Tryz.results77 _ _ w.heap.size _ _ _ _ rfl (rset4 HQ2.out _ _ _ _) Tryz.underlying30 rfl (by kernel_rfl)
  · have t2 : ((s[a].toNat : Int) == 40) = false := by rw [beq_eq_false_iff_ne]; omega
    have t3 : ((s[a].toNat : Int) == 91) = false := by rw [beq_eq_false_iff_ne]; omega
    have t4 : (s[a].toNat : Int) ≥ 65 := by omega
    have t5 : decide ((s[a].toNat : Int) ≤ 90) = false := decide_eq_false (by omega)
    have t6 : ((s[a].toNat : Int) == 45) = false := by rw [beq_eq_false_iff_ne]; omega
    have HD := Lib.hid CD
    clear CD CE C9 z1 z2
    go_enter Tryz.func77, Tryz.ntmps77
    go_wp2_with fail
    refine (HD.out _).mono ?_
    rintro e w4 ⟨rfl, hw⟩
    subst hw
    go_wp2_with fail
    refine H1.out.mono ?_
    rintro e w2 ⟨rfl, hb⟩
    have HB3 := Lib.hid (HB0.out.trans (hb.mono HB0.out.size))
    have HQ3 := Lib.hid (HQ0.out.below hb HQ0.out.lt)
    clear hb
    go_wp2_with fail
    refine (H3.out _).mono ?_
    intro e w5 hr2
    obtain ⟨hb, z, hz, rfl⟩ := hr2.none_
    have HZ := Lib.hid hz
    have HB2 := Lib.hid (HB3.out.trans (hb.mono HB3.out.size))
    have HQ2 := Lib.hid (HQ3.out.below hb HQ3.out.lt)
    clear hb hz
    obtain ⟨d0, d1, d2, d3⟩ := cells4i HQ2.out
    obtain ⟨f0, f1, f2, f3⟩ := frozen4 HQ2.out
    go_wp2_with fail
    refine bodyPost_ret (v := .tuple #[.agg #[.int .i64 0, .int .i64 0, .string ⟨#[]⟩, .slice none 0 0], .int .i64 z]) ?_ rfl (RdR.fin0 HB2.out HZ.out _ _ _ _)
    exact results_cell_row2 Tryz.results77 _ _ w.heap.size _ _ _ _ rfl (rset4 HQ2.out _ _ _ _) Tryz.underlying30 rfl (by kernel_rfl)
set_option maxRecDepth 100000 in
set_option maxHeartbeats 4000000 in
theorem pr_atom (s : ByteArray) (a dp : Nat) (w : World) (hs : s.size ≤ 1000) (ha : a < s.size) (hdp : dp ≤ 30) (hd1 : 1 ≤ dp) (h40 : s[a].toNat ≠ 40) (hdg : atB dgC s.data.toList a = false) (hcs : (s[a].toNat = 91 ∧ bA s (a + 1) 93 = true) ∨ (s[a].toNat = 45 ∧ atB dgC s.data.toList (a + 1) = false) ∨ (s[a].toNat < 65 ∧ s[a].toNat ≠ 45) ∨ (90 < s[a].toNat ∧ s[a].toNat ≠ 91)) (h0 : nmN s a ≠ 0) (h1 : bA s (a + nmN s a) 40 = false) :
    Calls Tryz.prog 77 #[.string s, .int .i64 a, .int .i64 dp] w fun e w' => RdR w (some ((3, 0, nmS s a, .nil), a + nmN s a)) e w' := by
  have hb0 : Below w.heap.size w (w.alloc (.cells #[.int .i64 0, .int .i64 0, .string ⟨#[]⟩, .slice none 0 0] 30)) := (Below.refl _ _).alloc (Nat.le_refl _) _
  have hq0 := Blk.new w 30 #[.int .i64 0, .int .i64 0, .string ⟨#[]⟩, .slice none 0 0]
  have hs0 : (w.alloc (.cells #[.int .i64 0, .int .i64 0, .string ⟨#[]⟩, .slice none 0 0] 30)).heap.size = w.heap.size + 1 := by simp
  have HB0 := Lib.hid hb0
  have HQ0 := Lib.hid hq0
  have HS0 := Lib.hid hs0
  clear hb0 hq0 hs0
  have t0 : ¬ (dp : Int) < 1 := by omega
  have t1 : ¬ (a : Int) ≥ (s.size : Int) := by omega
  have CD := fun w1 => digit_any s a w1 (by unfold maxLen; omega) (by unfold maxLen; omega)
  have CE := fun w1 => digit_any s (a + 1) w1 (by unfold maxLen; omega) (by unfold maxLen; omega)
  rw [show ((a + 1 : Nat) : Int) = (a : Int) + 1 by omega] at CE
  rw [hdg] at CD
  have C9 := fun w1 => sign_any s (a + 1) 93 w1 (by unfold maxLen; omega) (by unfold maxLen; omega)
  rw [show ((a + 1 : Nat) : Int) = (a : Int) + 1 by omega] at C9
  have CN := name_any s a (w.alloc (.cells #[.int .i64 0, .int .i64 0, .string ⟨#[]⟩, .slice none 0 0] 30)) (by omega) (by omega)
  clear hdg
  rw [show nmE s a = ((a + nmN s a : Nat) : Int) by unfold nmE; rw [if_neg h0]] at CN
  have hnl := nmN_le s a
  have HFT : Hid (Fits 3 0 (nmS s a)) := Lib.hid ⟨by omega, by omega, by
    have h1 : (nmS s a).size ≤ s.size := by
      show ((s.data.toList.drop a).take (nmN s a)).length ≤ s.size
      rw [List.length_take, List.length_drop]
      have : s.data.toList.length = s.size := rfl
      omega
    unfold maxLen; omega⟩
  have C2 := fun w1 => sign_any s (a + nmN s a) 40 w1 (by unfold maxLen; omega) (by unfold maxLen; omega)
  rw [show atB (sgC 40) s.data.toList (a + nmN s a) = false from h1] at C2
  generalize nmS s a = n at *
  clear h1
  generalize hq : a + nmN s a = q at *
  have t9 : ¬ (q : Int) < 0 := by omega
  have H1 := Lib.hid CN
  have H2 := Lib.hid C2
  clear CN C2 h0 hq hnl
  rcases hcs with ⟨z1, z2⟩ | ⟨z1, z2⟩ | ⟨z1, z2⟩ | ⟨z1, z2⟩
  · have t2 : ((s[a].toNat : Int) == 40) = false := by rw [beq_eq_false_iff_ne]; omega
    have t3 : ((s[a].toNat : Int) == 91) = true := by rw [beq_iff_eq]; omega
    have t4 : (s[a].toNat : Int) ≥ 65 := by omega
    have t5 : decide ((s[a].toNat : Int) ≤ 90) = false := decide_eq_false (by omega)
    have t6 : ((s[a].toNat : Int) == 45) = false := by rw [beq_eq_false_iff_ne]; omega
    rw [show atB (sgC 93) s.data.toList (a + 1) = true from z2] at C9
    have H9 := Lib.hid C9
    have HD := Lib.hid CD
    clear CD CE C9 z1 z2
    go_enter Tryz.func77, Tryz.ntmps77
    go_wp2_with fail
    refine (H9.out _).mono ?_
    rintro e w4 ⟨rfl, hw⟩
    subst hw
    go_wp2_with fail
    refine (HD.out _).mono ?_
    rintro e w4 ⟨rfl, hw⟩
    subst hw
    go_wp2_with fail
    refine H1.out.mono ?_
    rintro e w2 ⟨rfl, hb⟩
    have HB3 := Lib.hid (HB0.out.trans (hb.mono HB0.out.size))
    have HQ3 := Lib.hid (HQ0.out.below hb HQ0.out.lt)
    clear hb
    go_wp2_with fail
    refine (H2.out _).mono ?_
    rintro e w4 ⟨rfl, hw⟩
    subst hw
    go_wp2_with fail
    refine (structN_any n .nil none 0 [] _ ⟨Nat.zero_le _, Nat.zero_le _, .inl ⟨rfl, rfl⟩⟩ List.nodup_nil (by decide)).mono ?_
    rintro e w5 ⟨A, cap, L, rfl, ho, -, -, hb, -⟩
    have hcap : cap ≤ maxLen := ho.2.1
    have HB2 := Lib.hid (HB3.out.trans (hb.mono HB3.out.size))
    have HQ2 := Lib.hid (HQ3.out.below hb HQ3.out.lt)
    have HCAP := Lib.hid hcap
    clear hb ho hcap
    obtain ⟨d0, d1, d2, d3⟩ := cells4i HQ2.out
    obtain ⟨f0, f1, f2, f3⟩ := frozen4 HQ2.out
    go_wp2_with fail
    refine bodyPost_ret (v := .tuple #[.agg #[.int .i64 3, .int .i64 0, .string n, .slice A 0 cap], .int .i64 (q : Int)]) ?_ rfl (RdR.fin (p := q) (f := .nil) HB2.out HFT.out (KidsAt.nil _ _ _ _ _ HCAP.out) _ _ _ _)
    exact results_cell_row2 Tryz.results77 _ _ w.heap.size _ _ _ _ rfl (rset4 HQ2.out _ _ _ _) Tryz.underlying30 rfl (by kernel_rfl)
  · have t2 : ((s[a].toNat : Int) == 40) = false := by rw [beq_eq_false_iff_ne]; omega
    have t3 : ((s[a].toNat : Int) == 91) = false := by rw [beq_eq_false_iff_ne]; omega
    have t4 : ¬ (s[a].toNat : Int) ≥ 65 := by omega
    have t6 : ((s[a].toNat : Int) == 45) = true := by rw [beq_iff_eq]; omega
    rw [z2] at CE
    have HD := Lib.hid CD
    have HE2 := Lib.hid CE
    clear CD CE C9 z1 z2
    go_enter Tryz.func77, Tryz.ntmps77
    go_wp2_with fail
    refine (HD.out _).mono ?_
    rintro e w4 ⟨rfl, hw⟩
    subst hw
    go_wp2_with fail
    refine (HE2.out _).mono ?_
    rintro e w4 ⟨rfl, hw⟩
    subst hw
    go_wp2_with fail
    refine H1.out.mono ?_
    rintro e w2 ⟨rfl, hb⟩
    have HB3 := Lib.hid (HB0.out.trans (hb.mono HB0.out.size))
    have HQ3 := Lib.hid (HQ0.out.below hb HQ0.out.lt)
    clear hb
    go_wp2_with fail
    refine (H2.out _).mono ?_
    rintro e w4 ⟨rfl, hw⟩
    subst hw
    go_wp2_with fail
    refine (structN_any n .nil none 0 [] _ ⟨Nat.zero_le _, Nat.zero_le _, .inl ⟨rfl, rfl⟩⟩ List.nodup_nil (by decide)).mono ?_
    rintro e w5 ⟨A, cap, L, rfl, ho, -, -, hb, -⟩
    have hcap : cap ≤ maxLen := ho.2.1
    have HB2 := Lib.hid (HB3.out.trans (hb.mono HB3.out.size))
    have HQ2 := Lib.hid (HQ3.out.below hb HQ3.out.lt)
    have HCAP := Lib.hid hcap
    clear hb ho hcap
    obtain ⟨d0, d1, d2, d3⟩ := cells4i HQ2.out
    obtain ⟨f0, f1, f2, f3⟩ := frozen4 HQ2.out
    go_wp2_with fail
    refine bodyPost_ret (v := .tuple #[.agg #[.int .i64 3, .int .i64 0, .string n, .slice A 0 cap], .int .i64 (q : Int)]) ?_ rfl (RdR.fin (p := q) (f := .nil) HB2.out HFT.out (KidsAt.nil _ _ _ _ _ HCAP.out) _ _ _ _)
    exact results_cell_row2 Tryz.results77 _ _ w.heap.size _ _ _ _ rfl (rset4 HQ2.out _ _ _ _) Tryz.underlying30 rfl (by kernel_rfl)
  · have t2 : ((s[a].toNat : Int) == 40) = false := by rw [beq_eq_false_iff_ne]; omega
    have t3 : ((s[a].toNat : Int) == 91) = false := by rw [beq_eq_false_iff_ne]; omega
    have t4 : ¬ (s[a].toNat : Int) ≥ 65 := by omega
    have t6 : ((s[a].toNat : Int) == 45) = false := by rw [beq_eq_false_iff_ne]; omega
    have HD := Lib.hid CD
    clear CD CE C9 z1 z2
    go_enter Tryz.func77, Tryz.ntmps77
    go_wp2_with fail
    refine (HD.out _).mono ?_
    rintro e w4 ⟨rfl, hw⟩
    subst hw
    go_wp2_with fail
    refine H1.out.mono ?_
    rintro e w2 ⟨rfl, hb⟩
    have HB3 := Lib.hid (HB0.out.trans (hb.mono HB0.out.size))
    have HQ3 := Lib.hid (HQ0.out.below hb HQ0.out.lt)
    clear hb
    go_wp2_with fail
    refine (H2.out _).mono ?_
    rintro e w4 ⟨rfl, hw⟩
    subst hw
    go_wp2_with fail
    refine (structN_any n .nil none 0 [] _ ⟨Nat.zero_le _, Nat.zero_le _, .inl ⟨rfl, rfl⟩⟩ List.nodup_nil (by decide)).mono ?_
    rintro e w5 ⟨A, cap, L, rfl, ho, -, -, hb, -⟩
    have hcap : cap ≤ maxLen := ho.2.1
    have HB2 := Lib.hid (HB3.out.trans (hb.mono HB3.out.size))
    have HQ2 := Lib.hid (HQ3.out.below hb HQ3.out.lt)
    have HCAP := Lib.hid hcap
    clear hb ho hcap
    obtain ⟨d0, d1, d2, d3⟩ := cells4i HQ2.out
    obtain ⟨f0, f1, f2, f3⟩ := frozen4 HQ2.out
    go_wp2_with fail
    refine bodyPost_ret (v := .tuple #[.agg #[.int .i64 3, .int .i64 0, .string n, .slice A 0 cap], .int .i64 (q : Int)]) ?_ rfl (RdR.fin (p := q) (f := .nil) HB2.out HFT.out (KidsAt.nil _ _ _ _ _ HCAP.out) _ _ _ _)
    exact results_cell_row2 Tryz.results77 _ _ w.heap.size _ _ _ _ rfl (rset4 HQ2.out _ _ _ _) Tryz.underlying30 rfl (by kernel_rfl)
  · have t2 : ((s[a].toNat : Int) == 40) = false := by rw [beq_eq_false_iff_ne]; omega
    have t3 : ((s[a].toNat : Int) == 91) = false := by rw [beq_eq_false_iff_ne]; omega
    have t4 : (s[a].toNat : Int) ≥ 65 := by omega
    have t5 : decide ((s[a].toNat : Int) ≤ 90) = false := decide_eq_false (by omega)
    have t6 : ((s[a].toNat : Int) == 45) = false := by rw [beq_eq_false_iff_ne]; omega
    have HD := Lib.hid CD
    clear CD CE C9 z1 z2
    go_enter Tryz.func77, Tryz.ntmps77
    go_wp2_with fail
    refine (HD.out _).mono ?_
    rintro e w4 ⟨rfl, hw⟩
    subst hw
    go_wp2_with fail
    refine H1.out.mono ?_
    rintro e w2 ⟨rfl, hb⟩
    have HB3 := Lib.hid (HB0.out.trans (hb.mono HB0.out.size))
    have HQ3 := Lib.hid (HQ0.out.below hb HQ0.out.lt)
    clear hb
    go_wp2_with fail
    refine (H2.out _).mono ?_
    rintro e w4 ⟨rfl, hw⟩
    subst hw
    go_wp2_with fail
    refine (structN_any n .nil none 0 [] _ ⟨Nat.zero_le _, Nat.zero_le _, .inl ⟨rfl, rfl⟩⟩ List.nodup_nil (by decide)).mono ?_
    rintro e w5 ⟨A, cap, L, rfl, ho, -, -, hb, -⟩
    have hcap : cap ≤ maxLen := ho.2.1
    have HB2 := Lib.hid (HB3.out.trans (hb.mono HB3.out.size))
    have HQ2 := Lib.hid (HQ3.out.below hb HQ3.out.lt)
    have HCAP := Lib.hid hcap
    clear hb ho hcap
    obtain ⟨d0, d1, d2, d3⟩ := cells4i HQ2.out
    obtain ⟨f0, f1, f2, f3⟩ := frozen4 HQ2.out
    go_wp2_with fail
    refine bodyPost_ret (v := .tuple #[.agg #[.int .i64 3, .int .i64 0, .string n, .slice A 0 cap], .int .i64 (q : Int)]) ?_ rfl (RdR.fin (p := q) (f := .nil) HB2.out HFT.out (KidsAt.nil _ _ _ _ _ HCAP.out) _ _ _ _)
    exact results_cell_row2 Tryz.results77 _ _ w.heap.size _ _ _ _ rfl (rset4 HQ2.out _ _ _ _) Tryz.underlying30 rfl (by kernel_rfl)
set_option maxRecDepth 100000 in
set_option maxHeartbeats 4000000 in
theorem pr_str (n0 : Nat) (s : ByteArray) (a dp : Nat) (w : World) (hs : s.size ≤ 1000) (ha : a < s.size) (hdp : dp ≤ 30) (hd1 : 1 ≤ dp) (h40 : s[a].toNat ≠ 40) (hdg : atB dgC s.data.toList a = false) (hcs : (s[a].toNat = 91 ∧ bA s (a + 1) 93 = true) ∨ (s[a].toNat = 45 ∧ atB dgC s.data.toList (a + 1) = false) ∨ (s[a].toNat < 65 ∧ s[a].toNat ≠ 45) ∨ (90 < s[a].toNat ∧ s[a].toNat ≠ 91)) (h0 : nmN s a ≠ 0) (h1 : bA s (a + nmN s a) 40 = true) (hS : SC n0) (hn : 8 * (s.size - a) ≤ n0) :
    Calls Tryz.prog 77 #[.string s, .int .i64 a, .int .i64 dp] w fun e w' => RdR w (match rdS n0 s (a + nmN s a + 1) (dp - 1) 41 41 .nil with | none => none | some (f, e) => some ((3, 0, nmS s a, f), e + 1)) e w' := by
  have hb0 : Below w.heap.size w (w.alloc (.cells #[.int .i64 0, .int .i64 0, .string ⟨#[]⟩, .slice none 0 0] 30)) := (Below.refl _ _).alloc (Nat.le_refl _) _
  have hq0 := Blk.new w 30 #[.int .i64 0, .int .i64 0, .string ⟨#[]⟩, .slice none 0 0]
  have hs0 : (w.alloc (.cells #[.int .i64 0, .int .i64 0, .string ⟨#[]⟩, .slice none 0 0] 30)).heap.size = w.heap.size + 1 := by simp
  have HB0 := Lib.hid hb0
  have HQ0 := Lib.hid hq0
  have HS0 := Lib.hid hs0
  clear hb0 hq0 hs0
  have t0 : ¬ (dp : Int) < 1 := by omega
  have t1 : ¬ (a : Int) ≥ (s.size : Int) := by omega
  have CD := fun w1 => digit_any s a w1 (by unfold maxLen; omega) (by unfold maxLen; omega)
  have CE := fun w1 => digit_any s (a + 1) w1 (by unfold maxLen; omega) (by unfold maxLen; omega)
  rw [show ((a + 1 : Nat) : Int) = (a : Int) + 1 by omega] at CE
  rw [hdg] at CD
  have C9 := fun w1 => sign_any s (a + 1) 93 w1 (by unfold maxLen; omega) (by unfold maxLen; omega)
  rw [show ((a + 1 : Nat) : Int) = (a : Int) + 1 by omega] at C9
  have CN := name_any s a (w.alloc (.cells #[.int .i64 0, .int .i64 0, .string ⟨#[]⟩, .slice none 0 0] 30)) (by omega) (by omega)
  clear hdg
  rw [show nmE s a = ((a + nmN s a : Nat) : Int) by unfold nmE; rw [if_neg h0]] at CN
  have hnl := nmN_le s a
  have HFT : Hid (Fits 3 0 (nmS s a)) := Lib.hid ⟨by omega, by omega, by
    have h1 : (nmS s a).size ≤ s.size := by
      show ((s.data.toList.drop a).take (nmN s a)).length ≤ s.size
      rw [List.length_take, List.length_drop]
      have : s.data.toList.length = s.size := rfl
      omega
    unfold maxLen; omega⟩
  have C2 := fun w1 => sign_any s (a + nmN s a) 40 w1 (by unfold maxLen; omega) (by unfold maxLen; omega)
  have hq1 : a + nmN s a < s.size := bA_lt h1
  rw [show atB (sgC 40) s.data.toList (a + nmN s a) = true from h1] at C2
  have CS := fun w1 => hS s (a + nmN s a + 1) (dp - 1) 41 41 w1 hs (by omega) (by omega) (by omega)
  rw [show ((a + nmN s a + 1 : Nat) : Int) = ((a + nmN s a : Nat) : Int) + 1 by omega, show ((dp - 1 : Nat) : Int) = (dp : Int) - 1 by omega, show (((41 : UInt8).toNat : Nat) : Int) = 41 from rfl] at CS
  have hpg := (rd_prog n0).2.2.2.1 s (a + nmN s a + 1) (dp - 1) 41 41 .nil
  generalize nmS s a = n at *
  clear h1
  generalize hq : a + nmN s a = q at *
  have t9 : ¬ (q : Int) < 0 := by omega
  have H1 := Lib.hid CN
  have H2 := Lib.hid C2
  clear CN C2 h0 hq hnl hS
  cases hr : rdS n0 s (q + 1) (dp - 1) 41 41 .nil with
  | none =>
    rw [hr] at CS
    have HS1 := Lib.hid CS
    clear CS hr hpg
    show Calls Tryz.prog 77 #[.string s, .int .i64 a, .int .i64 dp] w fun e w' => RdR w none e w'
    rcases hcs with ⟨z1, z2⟩ | ⟨z1, z2⟩ | ⟨z1, z2⟩ | ⟨z1, z2⟩
    · have t2 : ((s[a].toNat : Int) == 40) = false := by rw [beq_eq_false_iff_ne]; omega
      have t3 : ((s[a].toNat : Int) == 91) = true := by rw [beq_iff_eq]; omega
      have t4 : (s[a].toNat : Int) ≥ 65 := by omega
      have t5 : decide ((s[a].toNat : Int) ≤ 90) = false := decide_eq_false (by omega)
      have t6 : ((s[a].toNat : Int) == 45) = false := by rw [beq_eq_false_iff_ne]; omega
      rw [show atB (sgC 93) s.data.toList (a + 1) = true from z2] at C9
      have H9 := Lib.hid C9
      have HD := Lib.hid CD
      clear CD CE C9 z1 z2
      go_enter Tryz.func77, Tryz.ntmps77
      go_wp2_with fail
      refine (H9.out _).mono ?_
      rintro e w4 ⟨rfl, hw⟩
      subst hw
      go_wp2_with fail
      refine (HD.out _).mono ?_
      rintro e w4 ⟨rfl, hw⟩
      subst hw
      go_wp2_with fail
      refine H1.out.mono ?_
      rintro e w2 ⟨rfl, hb⟩
      have HB3 := Lib.hid (HB0.out.trans (hb.mono HB0.out.size))
      have HQ3 := Lib.hid (HQ0.out.below hb HQ0.out.lt)
      clear hb
      go_wp2_with fail
      refine (H2.out _).mono ?_
      rintro e w4 ⟨rfl, hw⟩
      subst hw
      go_wp2_with fail
      refine (HS1.out _).mono ?_
      intro e w5 hr2
      obtain ⟨hb, z, hz, rfl⟩ := hr2.none_
      have HZ := Lib.hid hz
      have hzl := hz.2
      have HB2 := Lib.hid (HB3.out.trans (hb.mono HB3.out.size))
      have HQ2 := Lib.hid (HQ3.out.below hb HQ3.out.lt)
      clear hb hz
      obtain ⟨d0, d1, d2, d3⟩ := cells4i HQ2.out
      obtain ⟨f0, f1, f2, f3⟩ := frozen4 HQ2.out
      go_wp2_with fail
      refine bodyPost_ret (v := .tuple #[.agg #[.int .i64 0, .int .i64 0, .string ⟨#[]⟩, .slice none 0 0], .int .i64 z]) ?_ rfl (RdR.fin0 HB2.out HZ.out _ _ _ _)
      exact results_cell_row2 Tryz.results77 _ _ w.heap.size _ _ _ _ rfl (rset4 HQ2.out _ _ _ _) Tryz.underlying30 rfl (by kernel_rfl)
    · have t2 : ((s[a].toNat : Int) == 40) = false := by rw [beq_eq_false_iff_ne]; omega
      have t3 : ((s[a].toNat : Int) == 91) = false := by rw [beq_eq_false_iff_ne]; omega
      have t4 : ¬ (s[a].toNat : Int) ≥ 65 := by omega
      have t6 : ((s[a].toNat : Int) == 45) = true := by rw [beq_iff_eq]; omega
      rw [z2] at CE
      have HD := Lib.hid CD
      have HE2 := Lib.hid CE
      clear CD CE C9 z1 z2
      go_enter Tryz.func77, Tryz.ntmps77
      go_wp2_with fail
      refine (HD.out _).mono ?_
      rintro e w4 ⟨rfl, hw⟩
      subst hw
      go_wp2_with fail
      refine (HE2.out _).mono ?_
      rintro e w4 ⟨rfl, hw⟩
      subst hw
      go_wp2_with fail
      refine H1.out.mono ?_
      rintro e w2 ⟨rfl, hb⟩
      have HB3 := Lib.hid (HB0.out.trans (hb.mono HB0.out.size))
      have HQ3 := Lib.hid (HQ0.out.below hb HQ0.out.lt)
      clear hb
      go_wp2_with fail
      refine (H2.out _).mono ?_
      rintro e w4 ⟨rfl, hw⟩
      subst hw
      go_wp2_with fail
      refine (HS1.out _).mono ?_
      intro e w5 hr2
      obtain ⟨hb, z, hz, rfl⟩ := hr2.none_
      have HZ := Lib.hid hz
      have hzl := hz.2
      have HB2 := Lib.hid (HB3.out.trans (hb.mono HB3.out.size))
      have HQ2 := Lib.hid (HQ3.out.below hb HQ3.out.lt)
      clear hb hz
      obtain ⟨d0, d1, d2, d3⟩ := cells4i HQ2.out
      obtain ⟨f0, f1, f2, f3⟩ := frozen4 HQ2.out
      go_wp2_with fail
      refine bodyPost_ret (v := .tuple #[.agg #[.int .i64 0, .int .i64 0, .string ⟨#[]⟩, .slice none 0 0], .int .i64 z]) ?_ rfl (RdR.fin0 HB2.out HZ.out _ _ _ _)
      exact results_cell_row2 Tryz.results77 _ _ w.heap.size _ _ _ _ rfl (rset4 HQ2.out _ _ _ _) Tryz.underlying30 rfl (by kernel_rfl)
    · have t2 : ((s[a].toNat : Int) == 40) = false := by rw [beq_eq_false_iff_ne]; omega
      have t3 : ((s[a].toNat : Int) == 91) = false := by rw [beq_eq_false_iff_ne]; omega
      have t4 : ¬ (s[a].toNat : Int) ≥ 65 := by omega
      have t6 : ((s[a].toNat : Int) == 45) = false := by rw [beq_eq_false_iff_ne]; omega
      have HD := Lib.hid CD
      clear CD CE C9 z1 z2
      go_enter Tryz.func77, Tryz.ntmps77
      go_wp2_with fail
      refine (HD.out _).mono ?_
      rintro e w4 ⟨rfl, hw⟩
      subst hw
      go_wp2_with fail
      refine H1.out.mono ?_
      rintro e w2 ⟨rfl, hb⟩
      have HB3 := Lib.hid (HB0.out.trans (hb.mono HB0.out.size))
      have HQ3 := Lib.hid (HQ0.out.below hb HQ0.out.lt)
      clear hb
      go_wp2_with fail
      refine (H2.out _).mono ?_
      rintro e w4 ⟨rfl, hw⟩
      subst hw
      go_wp2_with fail
      refine (HS1.out _).mono ?_
      intro e w5 hr2
      obtain ⟨hb, z, hz, rfl⟩ := hr2.none_
      have HZ := Lib.hid hz
      have hzl := hz.2
      have HB2 := Lib.hid (HB3.out.trans (hb.mono HB3.out.size))
      have HQ2 := Lib.hid (HQ3.out.below hb HQ3.out.lt)
      clear hb hz
      obtain ⟨d0, d1, d2, d3⟩ := cells4i HQ2.out
      obtain ⟨f0, f1, f2, f3⟩ := frozen4 HQ2.out
      go_wp2_with fail
      refine bodyPost_ret (v := .tuple #[.agg #[.int .i64 0, .int .i64 0, .string ⟨#[]⟩, .slice none 0 0], .int .i64 z]) ?_ rfl (RdR.fin0 HB2.out HZ.out _ _ _ _)
      exact results_cell_row2 Tryz.results77 _ _ w.heap.size _ _ _ _ rfl (rset4 HQ2.out _ _ _ _) Tryz.underlying30 rfl (by kernel_rfl)
    · have t2 : ((s[a].toNat : Int) == 40) = false := by rw [beq_eq_false_iff_ne]; omega
      have t3 : ((s[a].toNat : Int) == 91) = false := by rw [beq_eq_false_iff_ne]; omega
      have t4 : (s[a].toNat : Int) ≥ 65 := by omega
      have t5 : decide ((s[a].toNat : Int) ≤ 90) = false := decide_eq_false (by omega)
      have t6 : ((s[a].toNat : Int) == 45) = false := by rw [beq_eq_false_iff_ne]; omega
      have HD := Lib.hid CD
      clear CD CE C9 z1 z2
      go_enter Tryz.func77, Tryz.ntmps77
      go_wp2_with fail
      refine (HD.out _).mono ?_
      rintro e w4 ⟨rfl, hw⟩
      subst hw
      go_wp2_with fail
      refine H1.out.mono ?_
      rintro e w2 ⟨rfl, hb⟩
      have HB3 := Lib.hid (HB0.out.trans (hb.mono HB0.out.size))
      have HQ3 := Lib.hid (HQ0.out.below hb HQ0.out.lt)
      clear hb
      go_wp2_with fail
      refine (H2.out _).mono ?_
      rintro e w4 ⟨rfl, hw⟩
      subst hw
      go_wp2_with fail
      refine (HS1.out _).mono ?_
      intro e w5 hr2
      obtain ⟨hb, z, hz, rfl⟩ := hr2.none_
      have HZ := Lib.hid hz
      have hzl := hz.2
      have HB2 := Lib.hid (HB3.out.trans (hb.mono HB3.out.size))
      have HQ2 := Lib.hid (HQ3.out.below hb HQ3.out.lt)
      clear hb hz
      obtain ⟨d0, d1, d2, d3⟩ := cells4i HQ2.out
      obtain ⟨f0, f1, f2, f3⟩ := frozen4 HQ2.out
      go_wp2_with fail
      refine bodyPost_ret (v := .tuple #[.agg #[.int .i64 0, .int .i64 0, .string ⟨#[]⟩, .slice none 0 0], .int .i64 z]) ?_ rfl (RdR.fin0 HB2.out HZ.out _ _ _ _)
      exact results_cell_row2 Tryz.results77 _ _ w.heap.size _ _ _ _ rfl (rset4 HQ2.out _ _ _ _) Tryz.underlying30 rfl (by kernel_rfl)
  | some r =>
    obtain ⟨f, p⟩ := r
    have hp := hpg _ _ hr
    rw [hr] at CS
    have t8 : ¬ (p : Int) < 0 := by omega
    have hp2 : p ≤ 1000 := by omega
    have HS1 := Lib.hid CS
    clear CS hr hpg hp
    show Calls Tryz.prog 77 #[.string s, .int .i64 a, .int .i64 dp] w fun e w' => RdR w (some ((3, 0, n, f), p + 1)) e w'
    rcases hcs with ⟨z1, z2⟩ | ⟨z1, z2⟩ | ⟨z1, z2⟩ | ⟨z1, z2⟩
    · have t2 : ((s[a].toNat : Int) == 40) = false := by rw [beq_eq_false_iff_ne]; omega
      have t3 : ((s[a].toNat : Int) == 91) = true := by rw [beq_iff_eq]; omega
      have t4 : (s[a].toNat : Int) ≥ 65 := by omega
      have t5 : decide ((s[a].toNat : Int) ≤ 90) = false := decide_eq_false (by omega)
      have t6 : ((s[a].toNat : Int) == 45) = false := by rw [beq_eq_false_iff_ne]; omega
      rw [show atB (sgC 93) s.data.toList (a + 1) = true from z2] at C9
      have H9 := Lib.hid C9
      have HD := Lib.hid CD
      clear CD CE C9 z1 z2
      go_enter Tryz.func77, Tryz.ntmps77
      go_wp2_with fail
      refine (H9.out _).mono ?_
      rintro e w4 ⟨rfl, hw⟩
      subst hw
      go_wp2_with fail
      refine (HD.out _).mono ?_
      rintro e w4 ⟨rfl, hw⟩
      subst hw
      go_wp2_with fail
      refine H1.out.mono ?_
      rintro e w2 ⟨rfl, hb⟩
      have HB3 := Lib.hid (HB0.out.trans (hb.mono HB0.out.size))
      have HQ3 := Lib.hid (HQ0.out.below hb HQ0.out.lt)
      clear hb
      go_wp2_with fail
      refine (H2.out _).mono ?_
      rintro e w4 ⟨rfl, hw⟩
      subst hw
      go_wp2_with fail
      refine (HS1.out _).mono ?_
      intro e w5 hr2
      obtain ⟨hb, A, cap, rfl, hk⟩ := hr2.some_
      have HB2 := Lib.hid (HB3.out.trans (hb.mono HB3.out.size))
      have HQ2 := Lib.hid (HQ3.out.below hb HQ3.out.lt)
      have HK2 := Lib.hid (hk.more (lo' := w.heap.size + 1) (hi' := w5.heap.size) (by have := HQ3.out.lt; omega) (Nat.le_refl _))
      clear hb hk
      obtain ⟨d0, d1, d2, d3⟩ := cells4i HQ2.out
      obtain ⟨f0, f1, f2, f3⟩ := frozen4 HQ2.out
      go_wp2_with fail
      refine bodyPost_ret (v := .tuple #[.agg #[.int .i64 3, .int .i64 0, .string n, .slice A f.len cap], .int .i64 ((p : Int) + 1)]) ?_ rfl (RdR.fin (p := p + 1) HB2.out HFT.out HK2.out _ _ _ _)
      exact results_cell_row2 Tryz.results77 _ _ w.heap.size _ _ _ _ rfl (rset4 HQ2.out _ _ _ _) Tryz.underlying30 rfl (by kernel_rfl)
    · have t2 : ((s[a].toNat : Int) == 40) = false := by rw [beq_eq_false_iff_ne]; omega
      have t3 : ((s[a].toNat : Int) == 91) = false := by rw [beq_eq_false_iff_ne]; omega
      have t4 : ¬ (s[a].toNat : Int) ≥ 65 := by omega
      have t6 : ((s[a].toNat : Int) == 45) = true := by rw [beq_iff_eq]; omega
      rw [z2] at CE
      have HD := Lib.hid CD
      have HE2 := Lib.hid CE
      clear CD CE C9 z1 z2
      go_enter Tryz.func77, Tryz.ntmps77
      go_wp2_with fail
      refine (HD.out _).mono ?_
      rintro e w4 ⟨rfl, hw⟩
      subst hw
      go_wp2_with fail
      refine (HE2.out _).mono ?_
      rintro e w4 ⟨rfl, hw⟩
      subst hw
      go_wp2_with fail
      refine H1.out.mono ?_
      rintro e w2 ⟨rfl, hb⟩
      have HB3 := Lib.hid (HB0.out.trans (hb.mono HB0.out.size))
      have HQ3 := Lib.hid (HQ0.out.below hb HQ0.out.lt)
      clear hb
      go_wp2_with fail
      refine (H2.out _).mono ?_
      rintro e w4 ⟨rfl, hw⟩
      subst hw
      go_wp2_with fail
      refine (HS1.out _).mono ?_
      intro e w5 hr2
      obtain ⟨hb, A, cap, rfl, hk⟩ := hr2.some_
      have HB2 := Lib.hid (HB3.out.trans (hb.mono HB3.out.size))
      have HQ2 := Lib.hid (HQ3.out.below hb HQ3.out.lt)
      have HK2 := Lib.hid (hk.more (lo' := w.heap.size + 1) (hi' := w5.heap.size) (by have := HQ3.out.lt; omega) (Nat.le_refl _))
      clear hb hk
      obtain ⟨d0, d1, d2, d3⟩ := cells4i HQ2.out
      obtain ⟨f0, f1, f2, f3⟩ := frozen4 HQ2.out
      go_wp2_with fail
      refine bodyPost_ret (v := .tuple #[.agg #[.int .i64 3, .int .i64 0, .string n, .slice A f.len cap], .int .i64 ((p : Int) + 1)]) ?_ rfl (RdR.fin (p := p + 1) HB2.out HFT.out HK2.out _ _ _ _)
      exact results_cell_row2 Tryz.results77 _ _ w.heap.size _ _ _ _ rfl (rset4 HQ2.out _ _ _ _) Tryz.underlying30 rfl (by kernel_rfl)
    · have t2 : ((s[a].toNat : Int) == 40) = false := by rw [beq_eq_false_iff_ne]; omega
      have t3 : ((s[a].toNat : Int) == 91) = false := by rw [beq_eq_false_iff_ne]; omega
      have t4 : ¬ (s[a].toNat : Int) ≥ 65 := by omega
      have t6 : ((s[a].toNat : Int) == 45) = false := by rw [beq_eq_false_iff_ne]; omega
      have HD := Lib.hid CD
      clear CD CE C9 z1 z2
      go_enter Tryz.func77, Tryz.ntmps77
      go_wp2_with fail
      refine (HD.out _).mono ?_
      rintro e w4 ⟨rfl, hw⟩
      subst hw
      go_wp2_with fail
      refine H1.out.mono ?_
      rintro e w2 ⟨rfl, hb⟩
      have HB3 := Lib.hid (HB0.out.trans (hb.mono HB0.out.size))
      have HQ3 := Lib.hid (HQ0.out.below hb HQ0.out.lt)
      clear hb
      go_wp2_with fail
      refine (H2.out _).mono ?_
      rintro e w4 ⟨rfl, hw⟩
      subst hw
      go_wp2_with fail
      refine (HS1.out _).mono ?_
      intro e w5 hr2
      obtain ⟨hb, A, cap, rfl, hk⟩ := hr2.some_
      have HB2 := Lib.hid (HB3.out.trans (hb.mono HB3.out.size))
      have HQ2 := Lib.hid (HQ3.out.below hb HQ3.out.lt)
      have HK2 := Lib.hid (hk.more (lo' := w.heap.size + 1) (hi' := w5.heap.size) (by have := HQ3.out.lt; omega) (Nat.le_refl _))
      clear hb hk
      obtain ⟨d0, d1, d2, d3⟩ := cells4i HQ2.out
      obtain ⟨f0, f1, f2, f3⟩ := frozen4 HQ2.out
      go_wp2_with fail
      refine bodyPost_ret (v := .tuple #[.agg #[.int .i64 3, .int .i64 0, .string n, .slice A f.len cap], .int .i64 ((p : Int) + 1)]) ?_ rfl (RdR.fin (p := p + 1) HB2.out HFT.out HK2.out _ _ _ _)
      exact results_cell_row2 Tryz.results77 _ _ w.heap.size _ _ _ _ rfl (rset4 HQ2.out _ _ _ _) Tryz.underlying30 rfl (by kernel_rfl)
    · have t2 : ((s[a].toNat : Int) == 40) = false := by rw [beq_eq_false_iff_ne]; omega
      have t3 : ((s[a].toNat : Int) == 91) = false := by rw [beq_eq_false_iff_ne]; omega
      have t4 : (s[a].toNat : Int) ≥ 65 := by omega
      have t5 : decide ((s[a].toNat : Int) ≤ 90) = false := decide_eq_false (by omega)
      have t6 : ((s[a].toNat : Int) == 45) = false := by rw [beq_eq_false_iff_ne]; omega
      have HD := Lib.hid CD
      clear CD CE C9 z1 z2
      go_enter Tryz.func77, Tryz.ntmps77
      go_wp2_with fail
      refine (HD.out _).mono ?_
      rintro e w4 ⟨rfl, hw⟩
      subst hw
      go_wp2_with fail
      refine H1.out.mono ?_
      rintro e w2 ⟨rfl, hb⟩
      have HB3 := Lib.hid (HB0.out.trans (hb.mono HB0.out.size))
      have HQ3 := Lib.hid (HQ0.out.below hb HQ0.out.lt)
      clear hb
      go_wp2_with fail
      refine (H2.out _).mono ?_
      rintro e w4 ⟨rfl, hw⟩
      subst hw
      go_wp2_with fail
      refine (HS1.out _).mono ?_
      intro e w5 hr2
      obtain ⟨hb, A, cap, rfl, hk⟩ := hr2.some_
      have HB2 := Lib.hid (HB3.out.trans (hb.mono HB3.out.size))
      have HQ2 := Lib.hid (HQ3.out.below hb HQ3.out.lt)
      have HK2 := Lib.hid (hk.more (lo' := w.heap.size + 1) (hi' := w5.heap.size) (by have := HQ3.out.lt; omega) (Nat.le_refl _))
      clear hb hk
      obtain ⟨d0, d1, d2, d3⟩ := cells4i HQ2.out
      obtain ⟨f0, f1, f2, f3⟩ := frozen4 HQ2.out
      go_wp2_with fail
      refine bodyPost_ret (v := .tuple #[.agg #[.int .i64 3, .int .i64 0, .string n, .slice A f.len cap], .int .i64 ((p : Int) + 1)]) ?_ rfl (RdR.fin (p := p + 1) HB2.out HFT.out HK2.out _ _ _ _)
      exact results_cell_row2 Tryz.results77 _ _ w.heap.size _ _ _ _ rfl (rset4 HQ2.out _ _ _ _) Tryz.underlying30 rfl (by kernel_rfl)
end Go.Proofs.YtihmgodiiohdnaaGreatDoor.rdr
