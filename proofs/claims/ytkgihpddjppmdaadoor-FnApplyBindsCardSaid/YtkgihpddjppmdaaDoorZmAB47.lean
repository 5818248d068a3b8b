/- impl.TermSame. Condition: the terms lie in blocks of their own. -/
import Derived.Test.YtkgihpddjppmdaaDoorProg
import Derived.Test.YtkgihpddjppmdaaDoorZmAB46
import Derived.Test.YtkgihpddjppmdaaDoorTb
import Derived.Laws.OwnMore
import Derived.Deep.AppendLies
import Derived.WalkKit
import Derived.WalkSpells
import Derived.Outline
import Derived.Deep.QuietTactic
import Derived.BigQuiet
import Derived.BigRegion
import Derived.RegionTactic
import Derived.ChangeAlike
import Derived.Deep.RegionLaw
import Derived.Deep.DeepCutAuto
namespace Go.Proofs.YtkgihpddjppmdaaDoor
open Go.RowKit Go.ChangeMaps Go.MapKept

def lenV : Value → Nat | .slice _ n _ => n | _ => 0
def mapLen (w : World) (mp : Nat) : Nat := match w.heap[mp]? with | some (.map es _) => es.size | _ => 0
/-- The loop's relation: the stack v holds the pairs xs; V is the answer that is still due. -/
def SsP (w0 : World) (V : Bool) (N mp base : Nat) (v : Value) (xs : List It) (wr : World) : Prop :=
  wr.ownsRow base 55 8 v xs.length (stC xs) ∧ (∀ x ∈ xs, x.ok wr) ∧ (stL xs ++ stM xs).Nodup ∧ (∀ y ∈ stL xs ++ stM xs, y < w0.heap.size) ∧ xs.all It.eq = V ∧
  (∃ es clock, wr.heap[mp]? = some (.map es clock) ∧ es.size + stN xs ≤ N ∧ ∀ e ∈ es.toList, ∃ b' q' n', e.key = kp ⟨b', 0, none⟩ q' n' ∧ b' ∉ stL xs ∧ b' < w0.heap.size ∧ ∃ tb cb, Blk wr b' tb cb) ∧ Below w0.heap.size w0 wr ∧ w0.heap.size ≤ mp ∧ mp < base
/-- .. with the last pair at hand. -/
theorem SsP.top {w0 wr : World} {V : Bool} {N mp base : Nat} {v : Value} {ys : List It} {x : It} (h : SsP w0 V N mp base v (ys ++ [x]) wr) :
    ∃ g cap, v = .slice (some ⟨g, 0, none⟩) (ys.length + 1) cap ∧ base ≤ g ∧ g < wr.heap.size ∧ ys.length + 1 ≤ cap ∧ cap ≤ maxLen ∧ ys.length + 1 ≤ N ∧ (∀ j u, x.cs[j]? = some u → wr.cell? ⟨g, ys.length * 8 + j, none⟩ = some u) := by
  obtain ⟨ho, _, _, _, _, ⟨es, clock, _, hN, _⟩, _⟩ := h
  have hl : (ys ++ [x]).length = ys.length + 1 := by simp
  rw [hl] at ho
  have ho' := ho
  rcases ho.2 with ⟨_, h⟩ | ⟨g, cap, cur, rfl, hg, hc, h1, h2, _⟩
  · omega
  · refine ⟨g, cap, rfl, hg, Blk.lt hc, h1, h2, ?_, fun j u hu => ?_⟩
    · have e : ∀ zs : List It, zs.length ≤ stN zs := fun zs => by
        induction zs with
        | nil => exact Nat.le_refl _
        | cons z zs ih =>
          have : stN (z :: zs) = nodes z.f + 1 + stN zs := rfl
          simp only [List.length_cons]; omega
      have := e (ys ++ [x])
      omega
    · have hj : j < 8 := by
        rcases Nat.lt_or_ge j 8 with h | h
        · exact h
        · rw [List.getElem?_eq_none (by simpa [It.cs, It.left, It.right] using h)] at hu; cases hu
      rw [World.ownsRow.cellAt ho' (ys.length * 8 + j) (by omega), stC_app, List.getElem?_append_right (by rw [stC_len]; omega), stC_len, Nat.add_sub_cancel_left]
      simpa [stC] using hu
theorem all_snoc {ys : List It} {x : It} {V : Bool} (h : (ys ++ [x]).all It.eq = V) : (x.eq = false → V = false) ∧ (x.eq = true → ys.all It.eq = V) := by
  rw [List.all_append] at h
  constructor <;> intro hx <;> simp [hx] at h <;> simp [h]
theorem SsP.pop {w0 wr wc : World} {V : Bool} {N mp base g cap : Nat} {ys : List It} {x : It} (h : SsP w0 V N mp base (.slice (some ⟨g, 0, none⟩) (ys.length + 1) cap) (ys ++ [x]) wr) (hx : x.eq = true) (hb : Below wr.heap.size wr wc) :
    SsP w0 V N mp base (.slice (some ⟨g, 0, none⟩) ys.length cap) ys wc ∧ mapLen wc mp = mapLen wr mp ∧ mapLen wr mp ≤ N := by
  obtain ⟨ho, hok, hnd, hlt, hall, ⟨es, clock, hm, hN, hk⟩, hbw, h1, h2⟩ := h
  rw [List.length_append, stC_app] at ho
  have ho' := ownsRow_pop ho (stC_len ys)
  have hmc : wc.heap[mp]? = some (.map es clock) := (hb.block mp (by
    rcases Nat.lt_or_ge mp wr.heap.size with h | h
    · exact h
    · rw [Array.getElem?_eq_none h] at hm; cases hm)).trans hm
  rw [stL_app, stM_app] at hnd hlt
  have hsL : ∀ y ∈ stL ys ++ stM ys, y ∈ (stL ys ++ stL [x]) ++ (stM ys ++ stM [x]) := fun y hy => by
    simp only [List.mem_append] at hy ⊢
    rcases hy with h | h
    · exact .inl (.inl h)
    · exact .inr (.inl h)
  have hlw : ∀ y ∈ stL ys ++ stM ys, y < wr.heap.size := fun y hy => Nat.lt_of_lt_of_le (hlt y (hsL y hy)) hbw.size
  refine ⟨⟨ho'.kept (row := none) ⟨hb.os, hb.tape, hb.output, hb.size, fun k hk _ => hb.block k hk⟩ (.inr (by simp [Value.ownBlock])), fun z hz => ?_, ?_, fun y hy => hlt y (hsL y hy), (all_snoc hall).2 hx, ⟨es, clock, hmc, ?_, fun e he => ?_⟩, hbw.trans (hb.mono hbw.size), h1, h2⟩, ?_, ?_⟩
  · have hz' := hok z (by simp [hz])
    exact ⟨hz'.1.below hb fun y hy => hlw y (List.mem_append.2 (.inl (List.mem_flatMap.2 ⟨z, hz, hy⟩))), hz'.2.below hb fun y hy => hlw y (List.mem_append.2 (.inr (List.mem_flatMap.2 ⟨z, hz, hy⟩)))⟩
  · refine List.Nodup.sublist ?_ hnd
    exact List.Sublist.append (List.sublist_append_left _ _) (List.sublist_append_left _ _)
  · rw [stN_app] at hN; omega
  · obtain ⟨b', q', n', e1, e2, e3, tb, cb, e4⟩ := hk e he
    rw [stL_app] at e2
    exact ⟨b', q', n', e1, fun h => e2 (List.mem_append.2 (.inl h)), e3, tb, cb, e4.below hb e4.lt⟩
  · simp only [mapLen, hm, hmc]
  · simp only [mapLen, hm]; omega
theorem infoP : (Tryd.prog.info? 55).map (fun i => (i.zero, i.size, i.bytes)) = some (some (.agg #[.int .i64 0, .int .i64 0, .string ⟨#[]⟩, .slice none 0 0, .int .i64 0, .int .i64 0, .string ⟨#[]⟩, .slice none 0 0]), 8, 112) := by kernel_rfl
theorem wrote_new {w w1 w2 : World} {L L' : List Nat} (h : Wrote L w w1) (k : Wrote L' w1 w2) (hL : ∀ x ∈ L', x ∈ L ∨ w.heap.size ≤ x) : Wrote L w w2 :=
  ⟨k.os.trans h.os, k.tape.trans h.tape, k.output.trans h.output, Nat.le_trans h.size k.size, fun x hx hn => (k.block x (Nat.lt_of_lt_of_le hx h.size) fun e => by
    rcases hL x e with h | h
    · exact hn h
    · omega).trans (h.block x hx hn)⟩
theorem stN_len (zs : List It) : zs.length ≤ stN zs := by
  induction zs with
  | nil => exact Nat.le_refl _
  | cons z zs ih =>
    have : stN (z :: zs) = nodes z.f + 1 + stN zs := rfl
    simp only [List.length_cons]; omega
theorem ownsRow_lenOf {w : World} {base : Nat} {e : TypeId} {size n : Nat} {v : Value} {xs : List Value} (h : w.ownsRow base e size v n xs) : lenV v = n := by
  rcases h.2 with ⟨rfl, hn⟩ | ⟨g, cap, cur, rfl, _⟩
  · simp [lenV, hn]
  · rfl
/-- The inner loop's relation: the stack v holds the pairs xs; what else was there is as it was, but for the stack's block g. -/
def SsI (wm : World) (base g : Nat) (v : Value) (xs : List It) (wr : World) : Prop :=
  wr.ownsRow base 55 8 v xs.length (stC xs) ∧ Wrote [g] wm wr ∧ (∀ y ∈ v.ownBlock.toList, y = g ∨ wm.heap.size ≤ y)
theorem SsI.step {wm wr w2 w4 : World} {base g g4 cap4 : Nat} {v : Value} {xs : List It} {z : It} (h : SsI wm base g v xs wr) (hb : Below wr.heap.size wr w2) (hg : w2.grownBy w4 v.ownBlock)
    (ho : w4.ownsRow base 55 8 (.slice (some ⟨g4, 0, none⟩) (xs.length + 1) cap4) (xs.length + 1) (stC xs ++ z.cs)) (hat : v.ownBlock = some g4 ∨ wr.heap.size ≤ g4) : SsI wm base g (.slice (some ⟨g4, 0, none⟩) (xs.length + 1) cap4) (xs ++ [z]) w4 := by
  obtain ⟨h1, h2, h3⟩ := h
  refine ⟨?_, ?_, fun y hy => ?_⟩
  · rw [List.length_append, stC_app]
    have e : stC [z] = z.cs := by simp [stC]
    rw [e]
    exact ho
  · have h4 : Wrote v.ownBlock.toList wr w4 := ⟨hg.os.trans hb.os, hg.tape.trans hb.tape, hg.output.trans hb.output, Nat.le_trans hb.size hg.size, fun x hx hn => (hg.block x (Nat.lt_of_lt_of_le hx hb.size) fun e => hn (by rw [← e]; simp)).trans (hb.block x hx)⟩
    exact wrote_new h2 h4 fun x hx => by
      rcases h3 x hx with h | h
      · exact .inl (by simp [h])
      · exact .inr h
  · have hy' : y = g4 := by simpa [Value.ownBlock] using hy
    subst hy'
    rcases hat with h | h
    · exact h3 y (by rw [h]; simp)
    · exact .inr (Nat.le_trans h2.size h)
/-- The popped pair's arguments lie on the stack, its rows are marked as seen. -/
theorem SsP.push {w0 wr wc wm wf : World} {V : Bool} {N mp base g : Nat} {v0 v : Value} {ys zs : List It} {x : It} {b b' : Nat} {L' M' : List Nat} {es : Array MapEntry} {clock : Nat} {q : Addr} {n : Int} {u : Value} {cs : Array Value}
    (h : SsP w0 V N mp base v0 (ys ++ [x]) wr) (hL : x.L = b :: L') (hM : x.M = b' :: M') (hz1 : ∀ z ∈ zs, z.ok wr) (hz2 : stL zs = L') (hz3 : stM zs = M') (hz4 : zs.all It.eq = x.eq) (hz5 : stN zs = nodes x.f)
    (hmp : wr.heap[mp]? = some (.map es clock)) (hbr : Below wr.heap.size wr wc) (hwo : ∀ i, i ≠ mp → wm.heap[i]? = wc.heap[i]?) (hwm : wm.heap[mp]? = some (.map (es.push { key := kp ⟨b, 0, none⟩ q n, val := u, born := clock }) (clock + 1)))
    (hws : wm.heap.size = wc.heap.size) (hos : wm.os = wc.os ∧ wm.tape = wc.tape ∧ wm.output = wc.output) (hgb : base ≤ g) (hin : SsI wm base g v (ys ++ zs) wf) (hblk : Blk wr b 25 cs) :
    SsP w0 V N mp base v (ys ++ zs) wf ∧ mapLen wf mp = es.size + 1 ∧ mapLen wr mp = es.size ∧ es.size + 1 ≤ N ∧ (ys ++ zs).length ≤ N := by
  obtain ⟨ho, hok, hnd, hlt, hall, ⟨es', clock', hm', hN, hk⟩, hbw, h1, h2⟩ := h
  rw [hmp] at hm'
  injection hm' with hm'
  injection hm' with e1 e2
  subst e1 e2
  obtain ⟨i1, i2, i3⟩ := hin
  have hmw : mp < wr.heap.size := by
    rcases Nat.lt_or_ge mp wr.heap.size with h | h
    · exact h
    · rw [Array.getElem?_eq_none h] at hmp; cases hmp
  have hmf : wf.heap[mp]? = some (.map (es.push { key := kp ⟨b, 0, none⟩ q n, val := u, born := clock }) (clock + 1)) := (i2.block mp (by have := hbr.size; omega) (by simp; omega)).trans hwm
  have hold : ∀ y, y < w0.heap.size → wf.heap[y]? = wr.heap[y]? := fun y hy => by
    have s1 := hbw.size
    have s2 := hbr.size
    rw [i2.block y (by omega) (by simp; omega), hwo y (by omega), hbr.block y (by omega)]
  rw [stL_app, stM_app] at hnd hlt
  have eL : stL [x] = b :: L' := by simp [stL, hL]
  have eM : stM [x] = b' :: M' := by simp [stM, hM]
  rw [eL, eM] at hnd hlt
  have sub : (stL ys ++ L' ++ (stM ys ++ M')).Sublist (stL ys ++ (b :: L') ++ (stM ys ++ (b' :: M'))) :=
    List.Sublist.append (List.Sublist.append (List.Sublist.refl _) (List.sublist_cons_self _ _)) (List.Sublist.append (List.Sublist.refl _) (List.sublist_cons_self _ _))
  have hnd2 := List.Nodup.sublist sub hnd
  have hlt2 : ∀ y ∈ stL ys ++ L' ++ (stM ys ++ M'), y < w0.heap.size := fun y hy => hlt y (sub.subset hy)
  have hbn : b ∉ stL ys ++ L' := fun hb => by
    have h3 : (stL ys ++ (b :: L')).Nodup := (List.nodup_append.1 hnd).1
    have h4 := List.nodup_append.1 h3
    rcases List.mem_append.1 hb with h | h
    · exact h4.2.2 b h b (by simp) rfl
    · exact (List.nodup_cons.1 h4.2.1).1 h
  have hN2 : stN (ys ++ zs) + 1 = stN (ys ++ [x]) := by
    rw [stN_app, stN_app, hz5]
    have : stN [x] = nodes x.f + 1 := by simp [stN]
    omega
  have hlen := stN_len (ys ++ zs)
  refine ⟨⟨i1, fun z hz => ?_, ?_, ?_, ?_, ⟨_, _, hmf, ?_, fun e he => ?_⟩, ?_, h1, h2⟩, ?_, ?_, ?_, ?_⟩
  · rcases List.mem_append.1 hz with hz | hz
    · have hz' := hok z (by simp [hz])
      exact ⟨hz'.1.keep fun y hy => hold y (hlt2 y (List.mem_append.2 (.inl (List.mem_append.2 (.inl (List.mem_flatMap.2 ⟨z, hz, hy⟩)))))), hz'.2.keep fun y hy => hold y (hlt2 y (List.mem_append.2 (.inr (List.mem_append.2 (.inl (List.mem_flatMap.2 ⟨z, hz, hy⟩))))))⟩
    · have hz' := hz1 z hz
      exact ⟨hz'.1.keep fun y hy => hold y (hlt2 y (List.mem_append.2 (.inl (List.mem_append.2 (.inr (by rw [← hz2]; exact List.mem_flatMap.2 ⟨z, hz, hy⟩)))))), hz'.2.keep fun y hy => hold y (hlt2 y (List.mem_append.2 (.inr (List.mem_append.2 (.inr (by rw [← hz3]; exact List.mem_flatMap.2 ⟨z, hz, hy⟩))))))⟩
  · rw [stL_app, stM_app, hz2, hz3]; exact hnd2
  · rw [stL_app, stM_app, hz2, hz3]; exact hlt2
  · rw [List.all_append, hz4]
    rw [List.all_append] at hall
    simpa using hall
  · rw [Array.size_push]; omega
  · rw [stL_app, hz2]
    rw [Array.toList_push, List.mem_append] at he
    rcases he with he | he
    · obtain ⟨c, q', n', e1, e2, e3, tb, cb, e4⟩ := hk e he
      refine ⟨c, q', n', e1, fun hc => e2 ?_, e3, tb, cb, e4.keep (hold c e3)⟩
      rw [stL_app, eL]
      rcases List.mem_append.1 hc with h | h
      · exact List.mem_append.2 (.inl h)
      · exact List.mem_append.2 (.inr (List.mem_cons_of_mem _ h))
    · have he' : e = { key := kp ⟨b, 0, none⟩ q n, val := u, born := clock } := by simpa using he
      subst he'
      have hb0 : b < w0.heap.size := hlt b (by simp)
      exact ⟨b, q, n, rfl, hbn, hb0, _, _, hblk.keep (hold b hb0)⟩
  · refine ⟨?_, ?_, ?_, ?_, fun y hy => (hold y hy).trans (hbw.block y hy)⟩
    · exact i2.os.trans (hos.1.trans (hbr.os.trans hbw.os))
    · exact i2.tape.trans (hos.2.1.trans (hbr.tape.trans hbw.tape))
    · exact i2.output.trans (hos.2.2.trans (hbr.output.trans hbw.output))
    · have := i2.size; have := hbr.size; have := hbw.size; omega
  · simp only [mapLen, hmf]; simp
  · simp only [mapLen, hmp]
  · omega
  · omega
theorem kp_eql {w : World} {p p' : Addr} {ca cb : Array Value} {ta tb : TypeId} (hne : p ≠ p') (ha : Blk w p.block ta ca) (hb : Blk w p'.block tb cb) :
    (binOp .eql 57 (.pointer (some p)) (.pointer (some p'))).run Tryd.prog w = .ok (.bool false) w := by
  have h := kp_ptr 9999 hne ha hb
  have e : ∀ x y, Op.equal 57 x y = Op.equalIn (9999 + 1) 57 x y := fun _ _ => rfl
  simp only [binOp]
  simp [e, h]

theorem boxes (w : World) (X Y : Array Value) : Blk (((w.alloc (.cells X 25)).alloc (.cells Y 25)).drew) w.heap.size 25 X ∧ Blk (((w.alloc (.cells X 25)).alloc (.cells Y 25)).drew) (w.heap.size + 1) 25 Y ∧ Below w.heap.size w (((w.alloc (.cells X 25)).alloc (.cells Y 25)).drew) := by
  refine ⟨(Blk.new w _ _).alloc _, ?_, (two_alloc w _ _).drew⟩
  have h := Blk.new (w.alloc (.cells X 25)) 25 Y
  rw [show (w.alloc (.cells X 25)).heap.size = w.heap.size + 1 by simp] at h
  exact h

set_option maxRecDepth 100000 in
set_option maxHeartbeats 4000000 in
theorem same_any (x0 : It) (w : World) (hok : x0.ok w) (hnd : (x0.L ++ x0.M).Nodup) (hlt : ∀ y ∈ x0.L ++ x0.M, y < w.heap.size) (hnodes : nodes x0.f ≤ 1048600) :
    Calls Tryd.prog 7 #[.agg #[.int .i64 x0.k, .int .i64 x0.n, .string x0.s, .slice x0.A x0.f.len x0.cap], .agg #[.int .i64 x0.k', .int .i64 x0.n', .string x0.s', .slice x0.B x0.g.len x0.cap']] w fun e w' => e = .returned (.bool x0.eq) ∧ Below w.heap.size w w' := by
  have hmm := @run_makeMap Tryd.prog
  have hst : ∀ W, W = (((w.alloc (.cells #[.int .i64 x0.k, .int .i64 x0.n, .string x0.s, .slice x0.A x0.f.len x0.cap] 25)).alloc (.cells #[.int .i64 x0.k', .int .i64 x0.n', .string x0.s', .slice x0.B x0.g.len x0.cap'] 25)).alloc (.map #[] 0)) →
      SsP w x0.eq (nodes x0.f + 1) (w.heap.size + 1 + 1) (w.heap.size + 1 + 1 + 1) (.slice (some ⟨w.heap.size + 1 + 1 + 1, 0, none⟩) 1 1) [x0] (W.alloc (.cells #[.int .i64 x0.k, .int .i64 x0.n, .string x0.s, .slice x0.A x0.f.len x0.cap, .int .i64 x0.k', .int .i64 x0.n', .string x0.s', .slice x0.B x0.g.len x0.cap'] 55)) := by
    rintro W rfl
    have hb2 := two_alloc w (.cells #[.int .i64 x0.k, .int .i64 x0.n, .string x0.s, .slice x0.A x0.f.len x0.cap] 25) (.cells #[.int .i64 x0.k', .int .i64 x0.n', .string x0.s', .slice x0.B x0.g.len x0.cap'] 25)
    have hs2 : ((w.alloc (.cells #[.int .i64 x0.k, .int .i64 x0.n, .string x0.s, .slice x0.A x0.f.len x0.cap] 25)).alloc (.cells #[.int .i64 x0.k', .int .i64 x0.n', .string x0.s', .slice x0.B x0.g.len x0.cap'] 25)).heap.size = w.heap.size + 1 + 1 := by simp
    generalize ((w.alloc (.cells #[.int .i64 x0.k, .int .i64 x0.n, .string x0.s, .slice x0.A x0.f.len x0.cap] 25)).alloc (.cells #[.int .i64 x0.k', .int .i64 x0.n', .string x0.s', .slice x0.B x0.g.len x0.cap'] 25)) = w2 at *
    have hs3 : (w2.alloc (.map #[] 0)).heap.size = w.heap.size + 1 + 1 + 1 := by simp [hs2]
    have hb3 := (hb2.alloc hb2.size (.map #[] 0)).alloc (by rw [hs3]; omega) (.cells #[.int .i64 x0.k, .int .i64 x0.n, .string x0.s, .slice x0.A x0.f.len x0.cap, .int .i64 x0.k', .int .i64 x0.n', .string x0.s', .slice x0.B x0.g.len x0.cap'] 55)
    have hq := Blk.new (w2.alloc (.map #[] 0)) 55 #[.int .i64 x0.k, .int .i64 x0.n, .string x0.s, .slice x0.A x0.f.len x0.cap, .int .i64 x0.k', .int .i64 x0.n', .string x0.s', .slice x0.B x0.g.len x0.cap']
    rw [hs3] at hq
    have hmp := heap_alloc_new w2 (.map #[] 0)
    rw [hs2] at hmp
    refine ⟨⟨rfl, .inr ⟨_, 1, _, rfl, Nat.le_refl _, hq, Nat.le_refl _, by unfold maxLen; omega, rfl, rfl⟩⟩, fun x hx => ?_, by simpa [stL, stM] using hnd, by simpa [stL, stM] using hlt, by simp, ⟨#[], 0, (heap_alloc_old (r := w.heap.size + 1 + 1) (w2.alloc (.map #[] 0)) _ (by rw [hs3]; omega)).trans hmp, by simp [stN], fun e he => by simp at he⟩, hb3, by omega, by omega⟩
    obtain rfl : x = x0 := by simpa using hx
    exact ⟨hok.1.below hb3 fun y hy => hlt y (by simp [hy]), hok.2.below hb3 fun y hy => hlt y (by simp [hy])⟩
  have HST := Lib.hid (hst _ rfl)
  have hN : nodes x0.f + 1 ≤ 1048601 := by omega
  generalize nodes x0.f + 1 = N at *
  have hb0 : ∀ W : World, Below w.heap.size w W → Below w.heap.size w W := fun _ h => h
  clear hst hok hnd hlt hnodes hb0
  generalize x0.eq = V at *
  generalize x0.f.len = fl at *
  generalize x0.g.len = gl at *
  go_enter Tryd.func7, Tryd.ntmps7
  go_wp2_with fail
  go_loopw [6] (fun v wr => ∃ (xs : List It) (v' : Value), v' = v ∧ SsP w V N (w.heap.size + 1 + 1) (w.heap.size + 1 + 1 + 1) v' xs wr) (fun v wr => (N + 1 - mapLen wr (w.heap.size + 1 + 1)) * 2097152 + lenV v)
  case atStart => exact ⟨_, _, rfl, HST.out⟩
  case round =>
    obtain ⟨xs, v, rfl, hp⟩ := hrel
    rcases List.eq_nil_or_concat xs with rfl | ⟨ys, x, rfl⟩
    · obtain ⟨A0, cap0, rfl⟩ : ∃ A cap, v = .slice A 0 cap := by
        rcases hp.1.2 with ⟨rfl, _⟩ | ⟨g, cap, cur, rfl, _⟩
        · exact ⟨none, 0, rfl⟩
        · exact ⟨_, cap, rfl⟩
      have HE : Hid (V = true) := Lib.hid hp.2.2.2.2.1.symm
      have HB := Lib.hid hp.2.2.2.2.2.2.1
      clear hp
      go_wp2_with fail
      go_ret
      rw [HE.out]
      exact ⟨rfl, HB.out⟩
    · rw [List.concat_eq_append] at hp
      obtain ⟨g, cap, rfl, hg1, hg2, hc1, hc2, hc3, hcell⟩ := hp.top
      have c0 := hcell 0 _ rfl
      have c1 := hcell 1 _ rfl
      have c2 := hcell 2 _ rfl
      have c3 := hcell 3 _ rfl
      have c4 := hcell 4 _ rfl
      have c5 := hcell 5 _ rfl
      have c6 := hcell 6 _ rfl
      have c7 := hcell 7 _ rfl
      unfold maxLen at hc2
      have HP := Lib.hid hp
      clear hp hcell
      generalize hm : ys.length = m at *
      have HM := Lib.hid hm
      clear hm
      simp only [Nat.add_zero] at c0
      have im0 : (0 : Int) ≤ (m : Int) := Int.natCast_nonneg _
      have im1 : (m : Int) < (m : Int) + 1 := by omega
      have em : ((m + 1 : Nat) : Int) - 1 = (m : Int) := by omega
      have em2 : ((m : Int) + 1) - 1 = (m : Int) := by omega
      go_wp2_with fail
      go_cut [7, 8] (fun u u' wx => ∃ hx hy : Nat, u = .pointer (some ⟨hx, 0, none⟩) ∧ u' = .pointer (some ⟨hy, 0, none⟩) ∧ Blk wx hx 25 #[.int .i64 x.k, .int .i64 x.n, .string x.s, .slice x.A x.f.len x.cap] ∧ Blk wx hy 25 #[.int .i64 x.k', .int .i64 x.n', .string x.s', .slice x.B x.g.len x.cap'] ∧ Below wr.heap.size wr wx ∧ wr.heap.size ≤ hx ∧ wr.heap.size ≤ hy)
      case first =>
        generalize x.f.len = l1 at *
        generalize x.g.len = l2 at *
        clear hg1
        go_region
        all_goals
          go_wp2_with fail
          go_meet
        all_goals first
          | (have tb := boxes wr #[.int .i64 x.k, .int .i64 x.n, .string x.s, .slice x.A l1 x.cap] #[.int .i64 x.k', .int .i64 x.n', .string x.s', .slice x.B l2 x.cap']
             with_reducible exact ⟨_, _, rfl, rfl, tb.1, tb.2.1, tb.2.2, Nat.le_refl _, Nat.le_succ _⟩)
          | (have tb := boxes wr #[.int .i64 x.k', .int .i64 x.n', .string x.s', .slice x.B l2 x.cap'] #[.int .i64 x.k, .int .i64 x.n, .string x.s, .slice x.A l1 x.cap]
             with_reducible exact ⟨_, _, rfl, rfl, tb.2.1, tb.1, tb.2.2, Nat.le_succ _, Nat.le_refl _⟩)
          | fail
      case rest =>
        obtain ⟨hx, hy, rfl, rfl, bx, bY, hb, hx1, hy1⟩ := hcut
        obtain ⟨a0, a1, a2, a3⟩ := cells4i bx
        obtain ⟨b0, b1, b2, b3⟩ := cells4i bY
        have hall := all_snoc HP.out.2.2.2.2.1
        have HF := Lib.hid hall.1
        have HBW : Hid (Below w.heap.size w wc) := Lib.hid (HP.out.2.2.2.2.2.2.1.trans (hb.mono HP.out.2.2.2.2.2.2.1.size))
        have HB := Lib.hid hb
        have HX := Lib.hid bx
        have HY := Lib.hid bY
        clear hall hb bx bY c0 c1 c2 c3 c4 c5 c6 c7
        by_cases e1 : x.k = x.k'
        case neg =>
          have HE : Hid (V = false) := Lib.hid (HF.out (by simp [It.eq, eqT, e1]))
          have t1 : (x.k != x.k') = true := by simpa using e1
          clear e1
          go_wp2_with fail
          go_ret
          rw [HE.out]
          exact ⟨rfl, HBW.out⟩
        have t1 : (x.k != x.k') = false := by simpa using e1
        by_cases e2 : x.n = x.n'
        case neg =>
          have HE : Hid (V = false) := Lib.hid (HF.out (by simp [It.eq, eqT, e2]))
          have t2 : (x.n != x.n') = true := by simpa using e2
          clear e2 e1
          go_wp2_with fail
          go_ret
          rw [HE.out]
          exact ⟨rfl, HBW.out⟩
        have t2 : (x.n != x.n') = false := by simpa using e2
        by_cases e3 : x.s.data.toList = x.s'.data.toList
        case neg =>
          have HE : Hid (V = false) := Lib.hid (HF.out (by simp only [It.eq, eqT]; rw [show (x.s.data.toList == x.s'.data.toList) = false by simpa using e3]; simp))
          have t4 : (!(x.s.toList == x.s'.toList)) = true := by rw [ByteArray.toList_eq, ByteArray.toList_eq]; simpa using e3
          have t3 : (x.s.toList != x.s'.toList) = true := t4
          clear e3 e2 e1
          go_wp2_with fail
          go_ret
          rw [HE.out]
          exact ⟨rfl, HBW.out⟩
        have t3 : (x.s.toList != x.s'.toList) = false := by rw [ByteArray.toList_eq, ByteArray.toList_eq, e3]; simp
        have t4 : (!(x.s.toList == x.s'.toList)) = false := t3
        by_cases e4 : x.f.len = x.g.len
        case neg =>
          have HE : Hid (V = false) := Lib.hid (HF.out (by
            have : eqF x.f x.g = false := by
              rw [← Bool.not_eq_true]
              exact fun hh => e4 (eqF_len _ _ hh)
            simp [It.eq, eqT, this]))
          have t5 : ((x.f.len : Int) != (x.g.len : Int)) = true := by
            rw [bne_iff_ne]
            exact fun e => e4 (Int.ofNat.inj e)
          clear e4 e3 e2 e1
          generalize x.f.len = l1 at *
          generalize x.g.len = l2 at *
          go_wp2_with fail
          go_ret
          rw [HE.out]
          exact ⟨rfl, HBW.out⟩
        have HQ : Hid (x.eq = eqF x.f x.g) := Lib.hid (by simp [It.eq, eqT, e1, e2, e3])
        have t5 : ((x.f.len : Int) != (x.g.len : Int)) = false := by rw [e4]; simp
        by_cases e5 : x.f.len = 0
        · have hxe : x.eq = true := by
            have f0 : x.f = .nil := by
              cases hf : x.f with
              | nil => rfl
              | cons _ _ _ _ _ => rw [hf] at e5; simp [Fr.len] at e5
            have g0 : x.g = .nil := by
              rw [e5] at e4
              cases hf : x.g with
              | nil => rfl
              | cons _ _ _ _ _ => rw [hf] at e4; simp [Fr.len] at e4
            rw [HQ.out, f0, g0]; rfl
          have hp := HP.out
          rw [← HM.out] at hp
          have hpop := hp.pop hxe HB.out
          rw [HM.out] at hpop
          have HPOP := Lib.hid hpop
          have t6 : ((x.f.len : Int) == 0) = true := by rw [e5]; rfl
          clear hp hpop hxe e1 e2 e3 e4 e5
          generalize x.f.len = l1 at *
          generalize x.g.len = l2 at *
          go_wp2_with fail
          go_roundw
          case rel => exact ⟨ys, _, rfl, HPOP.out.1⟩
          case measure =>
            rw [HPOP.out.2.1]
            simp only [lenV]
            omega
        · have hp := HP.out
          have hxok := hp.2.1 x (by simp)
          obtain ⟨b, L', cs, hA, hL, hbk, hcs, hoa⟩ : ∃ b L' cs, x.A = some ⟨b, 0, none⟩ ∧ x.L = b :: L' ∧ Blk wr b 25 cs ∧ cs.size = x.cap * 4 ∧ OwnAt wr x.f b 0 L' := hxok.1.2.2.resolve_left fun h => e5 h.1
          obtain ⟨b', M', cs', hB', hM', hbk', hcs', hob⟩ : ∃ b L' cs, x.B = some ⟨b, 0, none⟩ ∧ x.M = b :: L' ∧ Blk wr b 25 cs ∧ cs.size = x.cap' * 4 ∧ OwnAt wr x.g b 0 L' := hxok.2.2.2.resolve_left fun h => e5 (e4.trans h.1)
          have hPS := pairs_of wr x.f x.g b 0 b' 0 L' M' hoa hob e4
          have HPS := Lib.hid hPS
          have hnd := hp.2.2.1
          have hltw := hp.2.2.2.1
          obtain ⟨es, clock, hmm2, hN2, hkeys⟩ := hp.2.2.2.2.2.1
          have hbL : b ∈ stL (ys ++ [x]) := by rw [stL_app]; simp [stL, hL]
          have hbM : b' ∈ stM (ys ++ [x]) := by rw [stM_app]; simp [stM, hM']
          have hbb : b ≠ b' := fun e => (List.nodup_append.1 hnd).2.2 b hbL b' hbM e
          have hbw := hltw b (List.mem_append.2 (.inl hbL))
          have hbw' := hltw b' (List.mem_append.2 (.inr hbM))
          have hun : ∀ W : World, Below wr.heap.size wr W → Unseen W ⟨b, 0, none⟩ es.toList := fun W hW e he => by
            obtain ⟨c, q', n', k1, k2, k3, tb, cb, k4⟩ := hkeys e he
            exact ⟨_, q', n', k1, fun h => k2 (by injection h with h; rw [← h]; exact hbL), tb, cb, k4.below hW k4.lt⟩
          have hmpl : w.heap.size + 1 + 1 < wr.heap.size := by
            rcases Nat.lt_or_ge (w.heap.size + 1 + 1) wr.heap.size with h | h
            · exact h
            · rw [Array.getElem?_eq_none h] at hmm2; cases hmm2
          have HFACT : Hid (∀ W : World, Below wr.heap.size wr W → Blk W b 25 cs ∧ Blk W b' 25 cs' ∧ Unseen W ⟨b, 0, none⟩ es.toList ∧ W.heap[w.heap.size + 1 + 1]? = some (.map es clock)) := Lib.hid fun W hW =>
            ⟨hbk.below hW hbk.lt, hbk'.below hW hbk'.lt, hun W hW, (hW.block _ hmpl).trans hmm2⟩
          have HN2 := Lib.hid hN2
          have HMP := Lib.hid hmm2
          have HBLK := Lib.hid hbk
          have t6 : ((x.f.len : Int) == 0) = false := by rw [beq_eq_false_iff_ne]; omega
          have hl0 : 0 < x.f.len := Nat.pos_of_ne_zero e5
          have hcx := hxok.1.1
          have hcx' := hxok.2.1
          rw [hA] at a3 HX
          rw [hB'] at b3 HY
          rw [← e4] at b3 HY t5 hcx'
          have HL := Lib.hid hL
          have HM2 := Lib.hid hM'
          clear hp hxok hbk hbk' hoa hob hPS hnd hltw hmm2 hN2 hkeys hbL hbM hun hcs hcs' e1 e2 e3 e5 hA hB' hL hM'
          have HE4 := Lib.hid e4
          have hxl := HX.out.lt
          have hyl := HY.out.lt
          clear e4
          generalize hfl : x.f.len = len at *
          have HFL := Lib.hid hfl
          clear hfl
          have im : (0 : Int) < (len : Int) := by omega
          generalize wc = wq at *
          go_wp2_with fail
          go_cut [9] (fun u wx => ∃ hq : Nat, u = .pointer (some ⟨hq, 0, none⟩) ∧ Blk wx hq 59 #[.pointer (some ⟨b, 0, none⟩), .pointer (some ⟨b', 0, none⟩), .int .i64 (len : Int)] ∧ Below wq.heap.size wq wx)
          case first =>
            go_region
            all_goals
              go_wp2_with fail
              go_meet
            all_goals first
              | (have tb := Blk.new wq 59 #[.pointer (some ⟨b, 0, none⟩), .pointer (some ⟨b', 0, none⟩), .int .i64 (len : Int)]
                 exact ⟨_, rfl, tb, ((Below.refl wq.heap.size wq).alloc (Nat.le_refl _) _).drew⟩)
              | fail
          case rest =>
            obtain ⟨hq, rfl, bq, hbq⟩ := hcut
            have hbr : Below wr.heap.size wr wc := HB.out.trans (hbq.mono HB.out.size)
            have p0 := bq.cell 0
            have p1 := bq.cell 1
            have p2 := bq.cell 2
            simp only [List.getElem?_toArray, List.getElem?_cons_zero, List.getElem?_cons_succ] at p0 p1 p2
            obtain ⟨f1, f2, f3, f4⟩ := HFACT.out wc hbr
            have hne : (⟨b, 0, none⟩ : Addr) ≠ ⟨b', 0, none⟩ := fun e => hbb (by injection e)
            have q1 := kp_eql hne f1 f2
            have q2 := seen_miss (q := ⟨b', 0, none⟩) (n := (len : Int)) f4 f1 f3
            have q3 := seen_put (q := ⟨b', 0, none⟩) (n := (len : Int)) (.bool true) f4 f1 f3
            unfold kp at q2 q3
            have hwm := heap_setBlock_same f4 (.map (es.push { key := .agg #[.pointer (some ⟨b, 0, none⟩), .pointer (some ⟨b', 0, none⟩), .int .i64 (len : Int)], val := .bool true, born := clock }) (clock + 1))
            have hwo : ∀ i, i ≠ w.heap.size + 1 + 1 → (setBlock wc (w.heap.size + 1 + 1) (.map (es.push { key := .agg #[.pointer (some ⟨b, 0, none⟩), .pointer (some ⟨b', 0, none⟩), .int .i64 (len : Int)], val := .bool true, born := clock }) (clock + 1))).heap[i]? = wc.heap[i]? := fun i hi => heap_setBlock_other f4 _ hi
            have hws : (setBlock wc (w.heap.size + 1 + 1) (.map (es.push { key := .agg #[.pointer (some ⟨b, 0, none⟩), .pointer (some ⟨b', 0, none⟩), .int .i64 (len : Int)], val := .bool true, born := clock }) (clock + 1))).heap.size = wc.heap.size := by simp [setBlock]
            have hos : (setBlock wc (w.heap.size + 1 + 1) (.map (es.push { key := .agg #[.pointer (some ⟨b, 0, none⟩), .pointer (some ⟨b', 0, none⟩), .int .i64 (len : Int)], val := .bool true, born := clock }) (clock + 1))).os = wc.os ∧ (setBlock wc (w.heap.size + 1 + 1) (.map (es.push { key := .agg #[.pointer (some ⟨b, 0, none⟩), .pointer (some ⟨b', 0, none⟩), .int .i64 (len : Int)], val := .bool true, born := clock }) (clock + 1))).tape = wc.tape ∧ (setBlock wc (w.heap.size + 1 + 1) (.map (es.push { key := .agg #[.pointer (some ⟨b, 0, none⟩), .pointer (some ⟨b', 0, none⟩), .int .i64 (len : Int)], val := .bool true, born := clock }) (clock + 1))).output = wc.output := ⟨rfl, rfl, rfl⟩
            generalize hgen : setBlock wc (w.heap.size + 1 + 1) (.map (es.push { key := .agg #[.pointer (some ⟨b, 0, none⟩), .pointer (some ⟨b', 0, none⟩), .int .i64 (len : Int)], val := .bool true, born := clock }) (clock + 1)) = wm at *
            have hx2 : Blk wm hx _ _ := ((HX.out.below hbq hxl).keep (hwo hx (by omega)))
            have hy2 : Blk wm hy _ _ := ((HY.out.below hbq hyl).keep (hwo hy (by omega)))
            obtain ⟨a0, a1, a2, a3⟩ := cells4i hx2
            obtain ⟨b0, b1, b2, b3⟩ := cells4i hy2
            have HWM := Lib.hid hwm
            have HWO := Lib.hid hwo
            have HX2 := Lib.hid hx2
            have HY2 := Lib.hid hy2
            have HBR := Lib.hid hbr
            clear hwm hwo hx2 hy2 bq hbq hbr f1 f2 f3 f4 hne hgen HFACT
            go_wp2_with fail
            have HOS := Lib.hid hos
            have HWS := Lib.hid hws
            clear hos hws
            obtain ⟨zs, z1, z2, z3, z4, z5, z6, z7⟩ := HPS.out
            have hst : SsI wm (w.heap.size + 1 + 1 + 1) g (.slice (some ⟨g, 0, none⟩) m cap) ys wm := by
              have ho := HP.out.1
              rw [List.length_append, stC_app, HM.out] at ho
              have ho2 := ownsRow_pop ho (by rw [stC_len, HM.out])
              refine ⟨?_, .refl _ _, fun y hy => .inl (by simpa [Value.ownBlock] using hy)⟩
              rw [HM.out]
              refine (ho2.kept (row := none) ⟨HBR.out.os, HBR.out.tape, HBR.out.output, HBR.out.size, fun k hk _ => HBR.out.block k hk⟩ (.inr (by simp [Value.ownBlock]))).kept (row := some (w.heap.size + 1 + 1)) ⟨HOS.out.1, HOS.out.2.1, HOS.out.2.2, Nat.le_of_eq HWS.out.symm, fun k _ hk => HWO.out k fun e => hk (by rw [e])⟩ (.inr ?_)
              simp [Value.ownBlock]; omega
            have HZ := Lib.hid (And.intro z1 (And.intro z2 (And.intro z3 (And.intro z4 (And.intro z5 (And.intro z6 z7))))))
            have HSI := Lib.hid hst
            have hlenN : len ≤ 1048601 := by
              have h1 := HN2.out
              rw [stN_app] at h1
              have h2 : stN [x] = nodes x.f + 1 := by simp [stN]
              have h3 := len_le_nodes x.f
              rw [HFL.out] at h3
              omega
            have hmN : m ≤ 1048601 := by omega
            clear z1 z2 z3 z4 z5 z6 z7 hst p0 p1 p2 q1 q2 q3 HPS
            have hgs : g < wm.heap.size := by have := HWS.out; have := HBR.out.size; omega
            have hxs : hx < wm.heap.size := HX2.out.lt
            have hys : hy < wm.heap.size := HY2.out.lt
            obtain ⟨i0, hi0, hz0, hz1, hz2⟩ := info_parts infoP
            obtain ⟨w9, rfl⟩ : ∃ x : World, x = wr := ⟨_, rfl⟩
            clear a0 a1 a2 a3 b0 b1 b2 b3
            go_loopw [95, 6] (fun i v wr => ∃ (j : Nat) (v' : Value), j ≤ len ∧ i = .int .i64 j ∧ v' = v ∧ SsI wm (w.heap.size + 1 + 1 + 1) g v' (ys ++ zs.take j) wr) (fun i _ _ => len - (intOf i).toNat)
            case atStart => exact ⟨0, _, Nat.zero_le _, rfl, rfl, by rw [List.take_zero, List.append_nil]; exact HSI.out⟩
            case round =>
              obtain ⟨j, v, hj, rfl, rfl, hi⟩ := hrel
              have q3x := (hi.2.1.blk HX2.out (by simp; omega)).cell 3
              have q3y := (hi.2.1.blk HY2.out (by simp; omega)).cell 3
              simp only [List.getElem?_toArray, List.getElem?_cons_zero, List.getElem?_cons_succ] at q3x q3y
              have hsr : wm.heap.size ≤ wr.heap.size := hi.2.1.size
              by_cases hlt : j < len
              · have hjz : j < zs.length := by rw [HZ.out.1]; exact hlt
                have hz : zs[j]? = some zs[j] := List.getElem?_eq_getElem hjz
                generalize zs[j] = z at hz
                obtain ⟨⟨l0, l1, l2, l3⟩, ⟨r0, r1, r2, r3⟩⟩ := HZ.out.2.2.2.2.2.2 j z hz
                have hkeep : ∀ p : Addr, p.block < w.heap.size → wr.cell? p = w9.cell? p := fun p hp => World.cell?_of_block (by
                  have s1 := HBR.out.size
                  have s2 := HWS.out
                  have s3 := HP.out.2.2.2.2.2.2.1.size
                  rw [hi.2.1.block p.block (by omega) (by simp; omega), HWO.out p.block (by omega), HBR.out.block p.block (by omega)])
                have k0 := (hkeep ⟨b, 0 + j * 4, none⟩ hbw).trans l0
                have k1 := (hkeep ⟨b, 0 + j * 4 + 1, none⟩ hbw).trans l1
                have k2 := (hkeep ⟨b, 0 + j * 4 + 2, none⟩ hbw).trans l2
                have k3 := (hkeep ⟨b, 0 + j * 4 + 3, none⟩ hbw).trans l3
                have j0 := (hkeep ⟨b', 0 + j * 4, none⟩ hbw').trans r0
                have j1 := (hkeep ⟨b', 0 + j * 4 + 1, none⟩ hbw').trans r1
                have j2 := (hkeep ⟨b', 0 + j * 4 + 2, none⟩ hbw').trans r2
                have j3 := (hkeep ⟨b', 0 + j * 4 + 3, none⟩ hbw').trans r3
                simp only [It.left, It.right, List.getElem?_cons_zero, List.getElem?_cons_succ, Nat.zero_add] at k0 k1 k2 k3 j0 j1 j2 j3
                have hzt : zs.take (j + 1) = zs.take j ++ [z] := by rw [List.take_add_one, hz]; rfl
                have hln : (ys ++ zs.take j).length = m + j := by rw [List.length_append, HM.out, List.length_take]; omega
                have STEP := fun (w2 w4 : World) (g4 cap4 : Nat) hb hg ho hat => SsI.step (w2 := w2) (w4 := w4) (g4 := g4) (cap4 := cap4) (z := z) hi hb hg ho hat
                have hown := hi.1
                rw [hln] at STEP hown
                rw [List.append_assoc, ← hzt] at STEP
                have HSTEP := Lib.hid STEP
                have HOWN := Lib.hid hown
                have hvl := hown.lt
                have ij0 : (0 : Int) ≤ (j : Int) := Int.natCast_nonneg _
                have ij1 : (j : Int) < (len : Int) := by omega
                have hcs : z.cs = [.int .i64 z.k, .int .i64 z.n, .string z.s, .slice z.A z.f.len z.cap, .int .i64 z.k', .int .i64 z.n', .string z.s', .slice z.B z.g.len z.cap'] := rfl
                rw [hcs] at HSTEP
                clear STEP hi hkeep l0 l1 l2 l3 r0 r1 r2 r3 hz hzt hln hown hcs
                generalize stC (ys ++ zs.take j) = xs0 at *
                go_wp2_with fail
                go_region_law (first
                  | (refine step_append_lies _ (by rfl) _ _ _ (by rfl) (w.heap.size + 1 + 1 + 1) 55 i0 _ 8 112 Tryd.underlying56 hi0 hz0 hz1 hz2 rfl (by omega) v (m + j) xs0 (by rfl) ((World.ownsRow.drew HOWN.out).alloc _)
                       ⟨wr.heap.size, 0, none⟩ 1 1 [.int .i64 z.k, .int .i64 z.n, .string z.s, .slice z.A z.f.len z.cap, .int .i64 z.k', .int .i64 z.n', .string z.s', .slice z.B z.g.len z.cap'] (by rfl) (by rfl) (World.news_of_block (cs := #[.int .i64 z.k, .int .i64 z.n, .string z.s, .slice z.A z.f.len z.cap, .int .i64 z.k', .int .i64 z.n', .string z.s', .slice z.B z.g.len z.cap']) (fr := (0, 0)) (heap_alloc_new wr _)) (by simp [Value.oneCell'])
                       (by omega) (by unfold maxLen; omega) (by omega) (by simp; omega) (wr.heap.size + 1) (by simp) ?_
                     intro g4 cap4 w4 hown4 hgrow hat hlt4
                     have HOWN4 := Lib.hid hown4
                     have HGROW := Lib.hid hgrow
                     have HAT := Lib.hid hat
                     clear hown4 hgrow hat))
                all_goals
                  have HS5 := Lib.hid (HSTEP.out _ w4 g4 cap4 ((Below.refl _ _).alloc (Nat.le_refl _) _).drew HGROW.out HOWN4.out (by rcases HAT.out with h | h; exact .inl h; exact .inr (by omega)))
                  clear HSTEP HGROW HOWN4 HAT
                  go_wp2_with fail
                  go_roundw
                  case rel => exact ⟨j + 1, _, by omega, by go_num, rfl, HS5.out⟩
                  case measure => simp [intOf]; omega
              · obtain rfl : j = len := by omega
                have hzl : zs.take zs.length = zs := List.take_length
                have hi2 := hi
                rw [← HZ.out.1, hzl] at hi2
                have hp := HP.out.push (wm := wm) (wf := wr) HL.out HM2.out HZ.out.2.1 HZ.out.2.2.1 HZ.out.2.2.2.1 (HZ.out.2.2.2.2.1.trans HQ.out.symm) HZ.out.2.2.2.2.2.1 HMP.out HBR.out HWO.out HWM.out HWS.out HOS.out hg1 hi2 HBLK.out
                have HPP := Lib.hid hp
                clear hp hi hi2
                go_wp2_with fail
                have hml := ownsRow_lenOf HPP.out.1.1
                refine ⟨⟨_, _, rfl, HPP.out.1⟩, ?_⟩
                rw [HPP.out.2.1, HPP.out.2.2.1, hml]
                have m1 := HPP.out.2.2.2.1
                have m2 := HPP.out.2.2.2.2
                simp only [lenV]
                omega
end Go.Proofs.YtkgihpddjppmdaaDoor
