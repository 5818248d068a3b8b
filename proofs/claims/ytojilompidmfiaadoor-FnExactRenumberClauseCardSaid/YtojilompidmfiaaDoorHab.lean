/- impl.headAndBody's append: a head, and a row of terms behind it, in one row. Condition: the call owns both. -/
import Derived.Test.YtojilompidmfiaaDoorProg
import Derived.Test.YtojilompidmfiaaDoorCl
import Derived.Test.YtojilompidmfiaaDoorMk
import Derived.Test.YtojilompidmfiaaDoorEq
import Derived.Deep.AppendLies
import Derived.Deep.AppendSrc
import Derived.OwnWalk
namespace Go.Proofs.YtojilompidmfiaaDoor
open Go.RowKit

theorem infoTm : (Tryd.prog.info? 29).map (fun i => (i.zero, i.size, i.bytes)) = some (some (.agg #[.int .i64 0, .int .i64 0, .string ByteArray.empty, .slice none 0 0]), 4, 56) := by kernel_rfl
/-- The row lies elsewhere. -/
theorem OwnAt.move {w w' : World} (f : Fr) : ∀ b o b' o' L, OwnAt w f b o L → (∀ j, j < f.len * 4 → w'.cell? ⟨b', o' + j, none⟩ = w.cell? ⟨b, o + j, none⟩) → (∀ x ∈ L, w'.heap[x]? = w.heap[x]?) → OwnAt w' f b' o' L := by
  induction f with
  | nil => intro b o b' o' L h _ _; exact h
  | cons k n s kids rest _ ihr =>
    rintro b o b' o' L ⟨A, cap, L1, L2, rfl, hf, ⟨c0, c1, c2, c3⟩, h1, h2, h3, hr⟩ hc hL
    simp only [Fr.len] at hc
    refine ⟨A, cap, L1, L2, rfl, hf, ⟨(hc 0 (by omega)).trans c0, (hc 1 (by omega)).trans c1, (hc 2 (by omega)).trans c2, (hc 3 (by omega)).trans c3⟩, h1, h2, ?_, ihr b (o + 4) b' (o' + 4) L2 hr (fun j hj => ?_) fun x hx => hL x (by simp [hx])⟩
    · have ho : OwnS w kids A cap L1 := ⟨h1, h2, h3⟩
      exact (ho.keep fun x hx => hL x (by simp [hx])).2.2
    · have := hc (4 + j) (by omega)
      rwa [← Nat.add_assoc, ← Nat.add_assoc] at this
theorem OwnAt.one {w : World} (f : Fr) : ∀ b o L, OwnAt w f b o L → ∀ j, j < f.len * 4 → ∃ u, w.cell? ⟨b, o + j, none⟩ = some u ∧ u.oneCell' = true := by
  induction f with
  | nil => intro b o L _ j hj; simp [Fr.len] at hj
  | cons k n s kids rest _ ihr =>
    rintro b o L ⟨A, cap, L1, L2, rfl, hf, ⟨c0, c1, c2, c3⟩, h1, h2, h3, hr⟩ j hj
    simp only [Fr.len] at hj
    match j with
    | 0 => exact ⟨_, c0, rfl⟩
    | 1 => exact ⟨_, c1, rfl⟩
    | 2 => exact ⟨_, c2, rfl⟩
    | 3 => exact ⟨_, c3, rfl⟩
    | j + 4 =>
      have := ihr b (o + 4) L2 hr j (by omega)
      rwa [show o + 4 + j = o + (j + 4) by omega] at this
/-- The blocks behind a row's own. -/
def tailL (f : Fr) (L : List Nat) : List Nat := if f.len = 0 then [] else L.tail

/-- What the append leaves. -/
def HabDone (w : World) (k n : Int) (s : ByteArray) (f g : Fr) (L1 L2 : List Nat) (h : Nat) (y : World) (v : Value) (y' : World) : Prop :=
  ∃ A' cap' b', v = .slice A' (g.len + 1) cap' ∧ Below w.heap.size w y' ∧ OwnS y' (.cons k n s f g) A' cap' (b' :: (L1 ++ tailL g L2)) ∧ (b' = h ∨ y.heap.size ≤ b') ∧ y.heap.size ≤ y'.heap.size

set_option maxRecDepth 100000 in
theorem hab_run {w y : World} {k n : Int} {s : ByteArray} {f g : Fr} {A B : Option Addr} {cap capB h : Nat} {L1 L2 : List Nat} (hw : Below w.heap.size w y) (hh : w.heap.size ≤ h) (hblk : Blk y h 29 #[.int .i64 k, .int .i64 n, .string s, .slice A f.len cap]) (hf : Fits k n s)
    (ho1 : OwnS y f A cap L1) (ho2 : OwnS y g B capB L2) (hL1 : h ∉ L1) (hL2 : h ∉ L2) (hg : g.len ≤ 1048576) (ty : TypeId) :
    ∃ v y', (Builtin.append_ #[27, 27] ty #[.slice (some ⟨h, 0, none⟩) 1 1, .slice B g.len capB]).run Tryd.prog y = .ok v y' ∧ HabDone w k n s f g L1 L2 h y v y' := by
  obtain ⟨i0, hi0, hz0, hz1, hz2⟩ := info_parts infoTm
  rcases Nat.eq_zero_or_pos g.len with hz | hp
  · have hnil : g = .nil := by
      cases g with
      | nil => rfl
      | cons _ _ _ _ _ => simp [Fr.len] at hz
    subst hnil
    have hsrc : Src Tryd.prog i0.size 27 (.slice B 0 capB) 0 [] y := by
      cases B with
      | none => exact Src.ofNil (w := y) Tryd.underlying27 capB
      | some a => exact Src.ofSlice (w := y) Tryd.underlying27 a 0 capB [] (by simp) (fun j u hj => by simp at hj) (fun u hu => by simp at hu)
    have hrun := run_append_room_src (P := Tryd.prog) y 27 27 ty 29 i0 Tryd.underlying27 hi0 h 0 1 1 (.slice B 0 capB) 0 [] hsrc (by omega) (fun j hj => by simp at hj) (fun j hj => by simp at hj)
    refine ⟨_, _, hrun, some ⟨h, 0, none⟩, 1, h, rfl, ?_, ⟨Nat.le_refl _, by unfold maxLen; omega, .inr ⟨h, L1 ++ tailL .nil L2, _, rfl, rfl, hblk, rfl, ⟨A, cap, L1, [], by simp [tailL, Fr.len], hf, ⟨hblk.cell 0, hblk.cell 1, hblk.cell 2, hblk.cell 3⟩, ho1.1, ho1.2.1, ho1.2.2, rfl⟩⟩⟩, .inl rfl, Nat.le_refl _⟩
    exact hw
  · rcases ho2.2.2 with ⟨h0, _⟩ | ⟨b, L', cs, rfl, rfl, hb, hcs, hown⟩
    · omega
    · have hnl : (cs.toList.take (g.len * 4)).length = g.len * 4 := by
        have := ho2.1
        simp
        omega
      have hown1 : y.ownsRow w.heap.size 29 4 (.slice (some ⟨h, 0, none⟩) 1 1) 1 [.int .i64 k, .int .i64 n, .string s, .slice A f.len cap] :=
        ⟨rfl, .inr ⟨h, 1, _, rfl, hh, hblk, Nat.le_refl _, by unfold maxLen; omega, rfl, rfl⟩⟩
      obtain ⟨v', y', hrun, hrow, hgr, hnn, hloc⟩ := run_append_own_at (P := Tryd.prog) y w.heap.size 27 ty 29 i0 _ 4 56 Tryd.underlying27 hi0 hz0 hz1 hz2 rfl (by omega) (.slice (some ⟨h, 0, none⟩) 1 1) 1 _ hown1 ⟨b, 0, none⟩ g.len capB (cs.toList.take (g.len * 4)) hnl
        (fun j u hj => by
          rw [List.getElem?_take] at hj
          split at hj
          · have : y.cell? ⟨b, j, none⟩ = some u := by rw [hb.cell]; simpa using hj
            have e : (⟨b, 0, none⟩ : Addr).add j = ⟨b, j, none⟩ := by
              unfold Addr.add
              split
              · rename_i h0
                subst h0
                rfl
              · simp
            rw [e]
            exact this
          · cases hj)
        (fun u hu => by
          obtain ⟨j, hj⟩ := List.mem_iff_getElem?.1 hu
          rw [List.getElem?_take] at hj
          split at hj
          · rename_i hlt
            obtain ⟨u', hc, h1⟩ := OwnAt.one g b 0 L' hown j hlt
            rw [Nat.zero_add, hb.cell] at hc
            have : cs[j]? = some u := by simpa using hj
            rw [this] at hc
            cases hc
            exact h1
          · cases hj)
        (by unfold maxLen; omega) (by omega) hw.size
      rcases hrow.2 with ⟨_, h0⟩ | ⟨g', cap', cur, rfl, hg', hh', hr1, hr2, hr3, hr4⟩
      · omega
      · have hb1 : h ≠ b := fun e => hL2 (by simp [e])
        have hcell : ∀ j, y'.cell? ⟨g', j, none⟩ = cur[j]? := fun j => Blk.cell (w := y') (t := 29) hh' j
        have hcur : ∀ j, j < 4 + g.len * 4 → cur[j]? = ([.int .i64 k, .int .i64 n, .string s, .slice A f.len cap] ++ cs.toList.take (g.len * 4))[j]? := fun j hj => by
          rw [← hr4, List.getElem?_take, if_pos (by omega)]
          simp
        have hkeep : ∀ x, x < y.heap.size → x ≠ h → y'.heap[x]? = y.heap[x]? := fun x hx hne => hgr.block x hx (by simp [Value.ownBlock]; exact hne)
        refine ⟨_, y', hrun, some ⟨g', 0, none⟩, cap', g', by rw [Nat.add_comm], ⟨hgr.os.trans hw.os, hgr.tape.trans hw.tape, hgr.output.trans hw.output, Nat.le_trans hw.size hgr.size, fun x hx => ?_⟩, ⟨by simp only [Fr.len]; omega, hr2, .inr ⟨g', L1 ++ tailL g (b :: L'), cur, rfl, rfl, hh', hr3, ?_⟩⟩, ?_, hgr.size⟩
        · rw [hkeep x (by have := hw.size; omega) (by omega)]
          exact hw.block x hx
        · have et : tailL g (b :: L') = L' := by unfold tailL; rw [if_neg (by omega)]; rfl
          rw [et]
          have hs1 : OwnS y' f A cap L1 := ho1.keep fun x hx => hkeep x (ho1.lt x hx) fun e => hL1 (e ▸ hx)
          refine ⟨A, cap, L1, L', rfl, hf, ⟨?_, ?_, ?_, ?_⟩, hs1.1, hs1.2.1, hs1.2.2, OwnAt.move g b 0 g' 4 L' hown (fun j hj => ?_) fun x hx => ?_⟩
          · rw [hcell, hcur _ (by omega)]; rfl
          · rw [hcell, hcur _ (by omega)]; rfl
          · rw [hcell, hcur _ (by omega)]; rfl
          · rw [hcell, hcur _ (by omega)]; rfl
          · have e4 : ([.int .i64 k, .int .i64 n, .string s, .slice A f.len cap] ++ cs.toList.take (g.len * 4))[4 + j]? = (cs.toList.take (g.len * 4))[j]? := by
              rw [List.getElem?_append_right (by simp)]
              simp
            rw [hcell, hcur _ (by omega), e4, Nat.zero_add, hb.cell, List.getElem?_take, if_pos hj]
            simp
          · have hx' : x ∈ b :: L' := by simp [hx]
            exact hkeep x (ho2.lt x hx') fun e => hL2 (e ▸ hx')
        · rcases hloc with h1 | h1
          · left
            simpa [Value.ownBlock] using h1
          · right
            simp [Value.ownBlock] at h1
            omega

theorem wpList_hab {ops : Array Oper} {rest : List Oper} {o : Oper} {a : Act} {Q : Exit → Act → World → Prop} (hgd : o.guard = none) (sx x : Operand)
    (ho : o.op = .call { callee := .builtin .append, args := #[sx, x], argTypes := #[27, 27] })
    {w y : World} {k n : Int} {s : ByteArray} {f g : Fr} {A B : Option Addr} {cap capB h : Nat} {L1 L2 : List Nat} (hw : Below w.heap.size w y) (hh : w.heap.size ≤ h) (hblk : Blk y h 29 #[.int .i64 k, .int .i64 n, .string s, .slice A f.len cap]) (hf : Fits k n s)
    (ho1 : OwnS y f A cap L1) (ho2 : OwnS y g B capB L2) (hL1 : h ∉ L1) (hL2 : h ∉ L2) (hg : g.len ≤ 1048576) (hs : a.eval sx = .slice (some ⟨h, 0, none⟩) 1 1) (hx : a.eval x = .slice B g.len capB)
    (hK : ∀ v y', HabDone w k n s f g L1 L2 h y v y' → wpList Tryd.prog ops Q rest (a.put o.dst v) y') : wpList Tryd.prog ops Q (o :: rest) a y := by
  refine wpList_plain hgd fun K' hK' => ?_
  obtain ⟨v, y', hrun, hd⟩ := hab_run hw hh hblk hf ho1 ho2 hL1 hL2 hg o.type
  unfold Oper.wp
  simp [execOp, ho, resolve, invoke, builtin, hs, hx, hrun, Result.andThen]
  exact hK' _ _ (hK v y' hd)

set_option maxRecDepth 100000 in
/-- impl.headAndBody. -/
theorem hab_any (k n : Int) (s : ByteArray) (f g : Fr) (A B : Option Addr) (cap capB : Nat) (L1 L2 : List Nat) (w : World) (ho1 : OwnS w f A cap L1) (ho2 : OwnS w g B capB L2) (hf : Fits k n s) (hg : g.len ≤ 1048576) :
    Calls Tryd.prog 63 #[.agg #[.int .i64 k, .int .i64 n, .string s, .slice A f.len cap, .slice B g.len capB]] w fun e w' => ∃ A' cap' b', e = .returned (.slice A' (g.len + 1) cap') ∧ Below w.heap.size w w' ∧ OwnS w' (.cons k n s f g) A' cap' (b' :: (L1 ++ tailL g L2)) ∧ w.heap.size ≤ b' ∧ b' < w'.heap.size := by
  have hb0 : Below w.heap.size w ((w.alloc (.cells #[.int .i64 k, .int .i64 n, .string s, .slice A f.len cap, .slice B g.len capB] 38)).alloc (.cells #[.int .i64 k, .int .i64 n, .string s, .slice A f.len cap] 29)) := two_alloc w _ _
  have hq : Blk ((w.alloc (.cells #[.int .i64 k, .int .i64 n, .string s, .slice A f.len cap, .slice B g.len capB] 38)).alloc (.cells #[.int .i64 k, .int .i64 n, .string s, .slice A f.len cap] 29)) (w.heap.size + 1) 29 #[.int .i64 k, .int .i64 n, .string s, .slice A f.len cap] := by
    have h := Blk.new (w.alloc (.cells #[.int .i64 k, .int .i64 n, .string s, .slice A f.len cap, .slice B g.len capB] 38)) 29 #[.int .i64 k, .int .i64 n, .string s, .slice A f.len cap]
    simpa using h
  have h1 := ho1.below hb0 ho1.lt
  have h2 := ho2.below hb0 ho2.lt
  have n1 : w.heap.size + 1 ∉ L1 := fun e => by have := ho1.lt _ e; omega
  have n2 : w.heap.size + 1 ∉ L2 := fun e => by have := ho2.lt _ e; omega
  have HB0 := Lib.hid hb0
  have HQ := Lib.hid hq
  have H1 := Lib.hid h1
  have H2 := Lib.hid h2
  have HF := Lib.hid hf
  have HG := Lib.hid hg
  have HN1 := Lib.hid n1
  have HN2 := Lib.hid n2
  clear ho1 ho2 hb0 hq h1 h2 hf hg n1 n2
  go_enter Tryd.func63, Tryd.ntmps63
  go_wp2_with (at_builtin; go_must (refine wpList_hab rfl _ _ rfl HB0.out (Nat.le_succ _) HQ.out HF.out H1.out H2.out HN1.out HN2.out HG.out rfl rfl ?_); rintro v y' ⟨A', cap', b', rfl, hbw, hown, hb1, hsz⟩)
  have R : Hid (Below w.heap.size w y' ∧ OwnS y' (.cons k n s f g) A' cap' (b' :: (L1 ++ tailL g L2)) ∧ w.heap.size ≤ b' ∧ b' < y'.heap.size) := Lib.hid ⟨hbw, hown, by
    rcases hb1 with h | h
    · omega
    · simp at h; omega, hown.lt b' (by simp)⟩
  clear hbw hown hb1 hsz
  go_ret
  exact ⟨A', cap', b', rfl, R.out⟩
end Go.Proofs.YtojilompidmfiaaDoor
