/- Making lists: plain facts for the law. No condition. -/
import Derived.Test.YtabkoofmfhbmhaaDoorProg
import Derived.Test.YtabkoofmfhbmhaaDoorZmMl44
import Derived.Test.YtabkoofmfhbmhaaDoorZmMl45
import Derived.Test.YtabkoofmfhbmhaaDoorZmMl48
import Derived.Test.YtabkoofmfhbmhaaDoorDrS
import Derived.Test.YtabkoofmfhbmhaaDoorOwn
import Derived.LaidEql
import Derived.Maps.Own
import Derived.KernelRfl
import Derived.Test.YtabkoofmfhbmhaaDoorEq
import Derived.Test.YtabkoofmfhbmhaaDoorValid
import Derived.Laws.AppendOwn
namespace Go.Proofs.YtabkoofmfhbmhaaDoor
open Go.RowKit

theorem chain_lists (F : Fr) (k n : Int) (s : ByteArray) (kids : Fr) : ∃ k' n' s' f', chain F (.cons k n s kids .nil) = .cons k' n' s' f' .nil ∧ fronts k' s' f' = F.app (fronts k s kids) ∧ tails k' n' s' f' = tails k n s kids := by
  induction F with
  | nil => exact ⟨k, n, s, kids, rfl, rfl, rfl⟩
  | cons k1 n1 s1 kd1 rest _ ih =>
    obtain ⟨k2, n2, s2, f2, e1, e2, e3⟩ := ih
    have hp : pairB 3 dot 2 = true := by decide
    refine ⟨3, 0, dot, .cons k1 n1 s1 kd1 (.cons k2 n2 s2 f2 .nil), by rw [chain, e1], ?_, ?_⟩
    · rw [fronts, if_pos hp, e2]; rfl
    · rw [tails, if_pos hp, e3]
theorem chain_nodes (F : Fr) (T : Fr) : nodes (chain F T) ≤ nodes F + F.len + nodes T := by
  induction F with
  | nil => exact Nat.le_add_left _ _
  | cons k1 n1 s1 kd1 rest _ ih =>
    simp only [chain, nodes, Fr.len]
    omega
theorem ml_nodes (F : Fr) (k n : Int) (s : ByteArray) (kids : Fr) : nodes (mlF F k n s kids) ≤ nodes F + F.len + nodes kids + 1 := by
  unfold mlF
  split
  · have := chain_nodes F (.cons k n s kids .nil)
    simp only [nodes] at this
    omega
  · simp only [nodes]
    omega
/-- What the law asks of a made list. -/
theorem ml_law {F : Fr} {k n : Int} {s : ByteArray} {kids : Fr} (h : mlB F k n s kids = true) : validT k n s kids = true ∧ ∀ k' n' s' f', mlF F k n s kids = .cons k' n' s' f' .nil →
    validT k' n' s' f' = true ∧ listB k' n' s' f' = listB k n s kids ∧ fronts k' s' f' = F.app (fronts k s kids) := by
  have e : mlF F k n s kids = chain F (.cons k n s kids .nil) := by unfold mlF; rw [if_pos h]
  unfold mlB at h
  simp only [Bool.and_eq_true] at h
  refine ⟨h.2.2.1, fun k' n' s' f' he => ?_⟩
  obtain ⟨k2, n2, s2, f2, e1, e2, e3⟩ := chain_lists F k n s kids
  rw [e, e1] at he
  injection he with a1 a2 a3 a4 _
  subst a1 a2 a3 a4
  have hv := h.2.2.2
  rw [e1] at hv
  refine ⟨hv, ?_, e2⟩
  unfold listB
  rw [e3]
end Go.Proofs.YtabkoofmfhbmhaaDoor

/- append of a row of terms to a row of terms, both held. Condition: both rows lie there, apart. -/
namespace Go.Proofs.YtabkoofmfhbmhaaDoor
open Go.RowKit

theorem OwnAt.append (f : Fr) {g : Fr} {w : World} {L2 : List Nat} : ∀ b o L, OwnAt w f b o L → OwnAt w g b (o + f.len * 4) L2 → OwnAt w (f.app g) b o (L ++ L2) := by
  induction f with
  | nil =>
    rintro b o L rfl h
    simpa [Fr.len, Fr.app] using h
  | cons k n s kids rest ihk ihr =>
    rintro b o L ⟨A, cap, L1, L3, rfl, hf, hc, h1, h2, h3, hr⟩ h
    refine ⟨A, cap, L1, L3 ++ L2, by simp, hf, hc, h1, h2, h3, ihr b (o + 4) L3 hr ?_⟩
    simp only [Fr.len] at h
    rwa [show o + (rest.len + 1) * 4 = o + 4 + rest.len * 4 by omega] at h
/-- A row in block b. -/
def RowB (w : World) (f : Fr) (b cap : Nat) (L : List Nat) : Prop := f.len ≤ cap ∧ cap ≤ maxLen ∧ (∃ cs, Blk w b 31 cs ∧ cs.size = cap * 4) ∧ OwnAt w f b 0 L
theorem RowB.own {w : World} {f : Fr} {b cap : Nat} {L : List Nat} (h : RowB w f b cap L) : OwnS w f (some ⟨b, 0, none⟩) cap (b :: L) := by
  obtain ⟨h1, h2, ⟨cs, h3, h4⟩, h5⟩ := h
  exact ⟨h1, h2, .inr ⟨b, L, cs, rfl, rfl, h3, h4, h5⟩⟩
theorem RowB.new (w : World) : RowB (w.alloc (.cells #[] 31)) .nil w.heap.size 0 [] := ⟨Nat.le_refl _, Nat.zero_le _, ⟨#[], Blk.new w _ _, rfl⟩, rfl⟩
/-- What such an append leaves. -/
def AppR (w : World) (f g : Fr) (b : Nat) (L1 LB : List Nat) (v : Value) (w' : World) : Prop :=
  ∃ b' cap' L', v = .slice (some ⟨b', 0, none⟩) (f.len + g.len) cap' ∧ RowB w' (f.app g) b' cap' L' ∧ (b' :: L').Nodup ∧ (b' = b ∨ w.heap.size ≤ b') ∧ (∀ x ∈ L', x ∈ L1 ∨ x ∈ LB) ∧ w.grownBy w' (some b)
theorem app_nil' (f : Fr) : f.app .nil = f := by
  induction f with
  | nil => rfl
  | cons k n s kids rest _ ih => simp only [Fr.app]; rw [ih]
set_option maxRecDepth 100000 in
set_option maxHeartbeats 1000000 in
theorem appO_run {w : World} {f g : Fr} {b : Nat} {B : Option Addr} {capA capB : Nat} {L1 LB : List Nat} (ho : RowB w f b capA L1) (ho2 : OwnS w g B capB LB) (hn : ((b :: L1) ++ LB).Nodup) (hf : f.len ≤ 1048576) (hg : g.len ≤ 1048576) (ty : TypeId) :
    ∃ v w', (Builtin.append_ #[23, 23] ty #[.slice (some ⟨b, 0, none⟩) f.len capA, .slice B g.len capB]).run Tryd.prog w = .ok v w' ∧ AppR w f g b L1 LB v w' := by
  obtain ⟨i0, hi0, hz0, hz1, hz2⟩ := info_parts infoTd
  have hLA := ho.own
  obtain ⟨hfc, hcm, ⟨cs, hb, hcs⟩, hown⟩ := ho
  have hltA := hLA.lt
  have hltB := ho2.lt
  obtain ⟨hnA, hnB, hAB⟩ := List.nodup_append.1 hn
  obtain ⟨hb1, hn1⟩ := List.nodup_cons.1 hnA
  rcases Nat.eq_zero_or_pos g.len with hz | hgp
  · have hnil : g = .nil := by
      cases g with
      | nil => rfl
      | cons _ _ _ _ _ => simp [Fr.len] at hz
    subst hnil
    have hsrc : Src Tryd.prog i0.size 23 (.slice B 0 capB) 0 [] w := by
      cases B with
      | none => exact Src.ofNil (w := w) Tryd.underlying23 capB
      | some a => exact Src.ofSlice (w := w) Tryd.underlying23 a 0 capB [] (by simp) (fun j u hj => by simp at hj) (fun u hu => by simp at hu)
    have hrun := run_append_room_src (P := Tryd.prog) w 23 23 ty 31 i0 Tryd.underlying23 hi0 b 0 f.len capA (.slice B 0 capB) 0 [] hsrc (by omega) (fun j hj => by simp at hj) (fun j hj => by simp at hj)
    exact ⟨_, _, hrun, b, capA, L1, rfl, by rw [app_nil']; exact ⟨hfc, hcm, ⟨cs, hb, hcs⟩, hown⟩, hnA, .inl rfl, fun x hx => .inl hx, ⟨rfl, rfl, rfl, Nat.le_refl _, fun _ _ _ => rfl⟩⟩
  · rcases ho2.2.2 with ⟨h0, _⟩ | ⟨b2, L2, cs2, rfl, rfl, hq, hcs2, hown2⟩
    · omega
    · have hnl : (cs2.toList.take (g.len * 4)).length = g.len * 4 := by
        have := ho2.1
        simp
        omega
      have hnl1 : (cs.toList.take (f.len * 4)).length = f.len * 4 := by
        simp
        omega
      have hown1 : w.ownsRow 0 31 4 (.slice (some ⟨b, 0, none⟩) f.len capA) f.len (cs.toList.take (f.len * 4)) :=
        ⟨hnl1, .inr ⟨b, capA, cs, rfl, Nat.zero_le _, hb, hfc, hcm, hcs, rfl⟩⟩
      obtain ⟨v', w', hrun, hrow, hgr, hnn, hloc⟩ := run_append_own_at (P := Tryd.prog) w 0 23 ty 31 i0 _ 4 56 Tryd.underlying23 hi0 hz0 hz1 hz2 rfl (by omega) (.slice (some ⟨b, 0, none⟩) f.len capA) f.len _ hown1 ⟨b2, 0, none⟩ g.len capB (cs2.toList.take (g.len * 4)) hnl
        (fun j u hj => by
          rw [List.getElem?_take] at hj
          split at hj
          · have : w.cell? ⟨b2, j, none⟩ = some u := by rw [hq.cell]; simpa using hj
            have e : (⟨b2, 0, none⟩ : Addr).add j = ⟨b2, j, none⟩ := by
              unfold Addr.add
              split
              · rename_i h0
                subst h0
                rfl
              · simp
            rw [e]
            exact this
          · cases hj)
        (fun u hu => by
          obtain ⟨j, hj⟩ := List.mem_iff_getElem?.1 hu
          rw [List.getElem?_take] at hj
          split at hj
          · rename_i hlt
            obtain ⟨u', hc, h1⟩ := OwnAt.ones g b2 0 L2 hown2 j hlt
            rw [Nat.zero_add, hq.cell] at hc
            have : cs2[j]? = some u := by simpa using hj
            rw [this] at hc
            cases hc
            exact h1
          · cases hj)
        (by unfold maxLen; omega) (by omega) (Nat.zero_le _)
      rcases hrow.2 with ⟨_, h0⟩ | ⟨g', cap', cur, rfl, hg', hh', hr1, hr2, hr3, hr4⟩
      · omega
      · have hcell : ∀ j, w'.cell? ⟨g', j, none⟩ = cur[j]? := fun j => Blk.cell (w := w') (t := 31) hh' j
        have hcur : ∀ j, j < (f.len + g.len) * 4 → cur[j]? = (cs.toList.take (f.len * 4) ++ cs2.toList.take (g.len * 4))[j]? := fun j hj => by
          have e := congrArg (fun l => l[j]?) hr4
          simp only [List.getElem?_take, if_pos hj] at e ⊢
          simpa using e
        have hkeep : ∀ x, x < w.heap.size → x ≠ b → w'.heap[x]? = w.heap[x]? := fun x hx hne => hgr.block x hx (by simp [Value.ownBlock]; exact hne)
        have hloc' : g' = b ∨ w.heap.size ≤ g' := by
          rcases hloc with h1 | h1
          · left; simpa [Value.ownBlock] using h1
          · right; simp [Value.ownBlock] at h1; omega
        have hx1 : ∀ x ∈ L1, x < w.heap.size ∧ x ≠ b := fun x hx => ⟨hltA x (by simp [hx]), fun e => hb1 (by subst e; exact hx)⟩
        have hx2 : ∀ x ∈ L2, x < w.heap.size ∧ x ≠ b := fun x hx => ⟨hltB x (by simp [hx]), fun e => hAB b (by simp) x (by simp [hx]) e.symm⟩
        have m1 : OwnAt w' f g' 0 L1 := OwnAt.moved f b 0 g' 0 L1 hown (fun j hj => by
          rw [Nat.zero_add, hcell, hcur j (by omega), hb.cell, List.getElem?_append_left (by rw [hnl1]; exact hj), List.getElem?_take, if_pos hj]
          simp) fun x hx => hkeep x (hx1 x hx).1 (hx1 x hx).2
        have m2 : OwnAt w' g g' (0 + f.len * 4) L2 := OwnAt.moved g b2 0 g' (0 + f.len * 4) L2 hown2 (fun j hj => by
          rw [Nat.zero_add, Nat.zero_add, hcell, hcur (f.len * 4 + j) (by omega), hq.cell, List.getElem?_append_right (by rw [hnl1]; omega), hnl1, List.getElem?_take, if_pos (by omega)]
          simp) fun x hx => hkeep x (hx2 x hx).1 (hx2 x hx).2
        have hal : (f.app g).len = f.len + g.len := Fr.len_app f g
        obtain ⟨_, hn2⟩ := List.nodup_cons.1 hnB
        have hn12 : (L1 ++ L2).Nodup := List.nodup_append.2 ⟨hn1, hn2, fun a ha c hc e => hAB a (by simp [ha]) c (by simp [hc]) e⟩
        refine ⟨_, w', hrun, g', cap', L1 ++ L2, rfl, ⟨by rw [hal]; exact hr1, hr2, ⟨cur, hh', hr3⟩, OwnAt.append f g' 0 L1 m1 m2⟩, List.nodup_cons.2 ⟨fun hx => ?_, hn12⟩, hloc', fun x hx => ?_, hgr⟩
        · rcases List.mem_append.1 hx with hx | hx
          · rcases hloc' with h1 | h1
            · exact (hx1 g' hx).2 h1
            · have := (hx1 g' hx).1; omega
          · rcases hloc' with h1 | h1
            · exact (hx2 g' hx).2 h1
            · have := (hx2 g' hx).1; omega
        · rcases List.mem_append.1 hx with hx | hx
          · exact .inl hx
          · exact .inr (by simp [hx])
/-- append at the operation, also a guarded one: its run is known. -/
theorem wpList_appRun {ops : Array Oper} {rest : List Oper} {o : Oper} {a : Act} {Q : Exit → Act → World → Prop} {w w' : World} {X Y v : Value} (hw : Region.wanted o (yielded ops a.tmps) = true) (sx x : Operand)
    (ho : o.op = .call { callee := .builtin .append, args := #[sx, x], argTypes := #[23, 23] }) (hs : a.eval sx = X) (hx : a.eval x = Y)
    (hrun : (Builtin.append_ #[23, 23] o.type #[X, Y]).run Tryd.prog w = .ok v w') (hK : wpList Tryd.prog ops Q rest (a.put o.dst v) w') : wpList Tryd.prog ops Q (o :: rest) a w := by
  refine wpList_step fun K hK' => ?_
  simp only [hw, if_true]
  unfold Oper.wp
  simp [execOp, ho, resolve, invoke, builtin, hs, hx, hrun, Result.andThen]
  exact hK' _ _ hK
end Go.Proofs.YtabkoofmfhbmhaaDoor

/- A map whose keys are structs of two pointers and a length (impl.TermSame's 'seen'): a key that is not there; a key more. Condition: the blocks that the keys point to hold cells. -/
namespace Go.Proofs.YtabkoofmfhbmhaaDoor
open Go.RowKit Go.ChangeMaps Go.MapKept

/-- A pair of rows as a key. -/
def kp (p q : Addr) (n : Int) : Value := .agg #[.pointer (some p), .pointer (some q), .int .i64 n]
theorem kp_check (e : Bool) (p q : Addr) (n : Int) (w : World) : (Instr.checkKey e 10000 80 (kp p q n)).run Tryd.prog w = .ok () w := by
  unfold kp
  kernel_rfl
theorem kp_ptr (d : Nat) {w : World} {p p' : Addr} {ca cb : Array Value} {ta tb : TypeId} (hne : p ≠ p') (ha : Blk w p.block ta ca) (hb : Blk w p'.block tb cb) :
    (Op.equalIn (d + 1) 78 (.pointer (some p)) (.pointer (some p'))).run Tryd.prog w = .ok false w := by
  have hi : (Tryd.prog.info? 31).map (fun i => i.size) = some 4 := by kernel_rfl
  obtain ⟨j, hj, hz⟩ := Option.map_eq_some_iff.1 hi
  simp [Op.equalIn, run_underlying Tryd.underlying78, sizeOf, typeInfo, hj, hz, run_sameAddr_other w hne ha hb]
theorem kp_part0 (p q : Addr) (n : Int) (w : World) : (part 78 #[.pointer (some p), .pointer (some q), .int .i64 n] 0).run Tryd.prog w = .ok (.pointer (some p)) w := by kernel_rfl
theorem kp_eq_miss {w : World} {p p' q q' : Addr} {n n' : Int} {ca cb : Array Value} {ta tb : TypeId} (hne : p ≠ p') (ha : Blk w p.block ta ca) (hb : Blk w p'.block tb cb) :
    (Op.equal 80 (kp p q n) (kp p' q' n')).run Tryd.prog w = .ok false w := by
  have h1 := kp_ptr 9998 hne ha hb
  have hs : Tryd.prog.stoodInHeld 80 = false := by kernel_rfl
  unfold kp
  have e : ∀ x y, Op.equal 80 x y = Op.equalIn (9998 + 1 + 1) 80 x y := fun _ _ => rfl
  rw [e]
  generalize 9998 = d at *
  rw [Op.equalIn]
  simp [run_underlying Tryd.underlying80, hs, kp_part0, h1]
/-- No entry has the key's first row. -/
def Unseen (w : World) (p : Addr) (es : List MapEntry) : Prop := ∀ e ∈ es, ∃ p' q' n', e.key = kp p' q' n' ∧ p ≠ p' ∧ ∃ tb cb, Blk w p'.block tb cb
theorem kp_ask {w : World} {p q : Addr} {n : Int} {ca : Array Value} {ta : TypeId} (ha : Blk w p.block ta ca) : ∀ (es : List MapEntry) (i : Nat), Unseen w p es →
    (Instr.findAsking 80 (kp p q n) es i).run Tryd.prog w = .ok none w
  | [], i, _ => by simp [Instr.findAsking]
  | e :: es, i, h => by
    obtain ⟨p', q', n', he, hne, tb, cb, hb⟩ := h e (by simp)
    have ih := kp_ask (q := q) (n := n) ha es (i + 1) fun x hx => h x (by simp [hx])
    simp [Instr.findAsking, he, kp_eq_miss hne ha hb, ih]
theorem kp_find {w : World} {p q : Addr} {n : Int} {ca : Array Value} {ta : TypeId} (ha : Blk w p.block ta ca) (es : List MapEntry) (h : Unseen w p es) :
    (Instr.findKey 80 (kp p q n) es).run Tryd.prog w = .ok none w := by
  have h1 := kp_ask (q := q) (n := n) ha es 0 h
  cases es with
  | nil => simp [Instr.findKey, Instr.findNow, run_underlying Tryd.underlying80]
  | cons e es =>
    have hn : ∀ fs x, Instr.findNow (.struct fs) x (e :: es) 0 = none := fun fs x => by simp [Instr.findNow, Instr.sameNow]
    simp [Instr.findKey, run_underlying Tryd.underlying80, hn, h1]
/-- 'seen[pair]' is false where no entry has the pair's first row. -/
theorem seen_miss {w : World} {b clock : Nat} {es : Array MapEntry} {p q : Addr} {n : Int} {ca : Array Value} {ta : TypeId} (hb : w.heap[b]? = some (.map es clock)) (ha : Blk w p.block ta ca) (h : Unseen w p es.toList) :
    (Instr.lookup 75 (.map (some b)) (kp p q n) false).run Tryd.prog w = .ok (.bool false) w := by
  have hg : (getObj b).run Tryd.prog w = .ok (.map es clock) w := MapKept.run_getObj_map hb
  have hz : (zeroValue 4).run Tryd.prog w = .ok (.bool false) w := by kernel_rfl
  simp [Instr.lookup, run_underlying Tryd.underlying75, hg, kp_check, kp_find ha es.toList h, hz]
/-- 'seen[pair] = true' puts one entry more. -/
theorem seen_put {w : World} {b clock : Nat} {es : Array MapEntry} {p q : Addr} {n : Int} {ca : Array Value} {ta : TypeId} (v : Value) (hb : w.heap[b]? = some (.map es clock)) (ha : Blk w p.block ta ca) (h : Unseen w p es.toList) :
    (Instr.mapUpdate 75 (.map (some b)) (kp p q n) v).run Tryd.prog w = .ok () (setBlock w b (.map (es.push { key := kp p q n, val := v, born := clock }) (clock + 1))) := by
  have hlt : b < w.heap.size := by
    rcases Nat.lt_or_ge b w.heap.size with h | h
    · exact h
    · rw [Array.getElem?_eq_none h] at hb; cases hb
  have hg : (getObj b).run Tryd.prog w = .ok (.map es clock) w := MapKept.run_getObj_map hb
  have hs : ∀ o, (setObj b o).run Tryd.prog w = .ok () (setBlock w b o) := fun o => MapKept.run_setObj_map o hb
  simp [Instr.mapUpdate, run_underlying Tryd.underlying75, hg, hs, kp_check, kp_find ha es.toList h]
end Go.Proofs.YtabkoofmfhbmhaaDoor

/- The pairs of terms that impl.TermSame works on: a pair's rows taken apart into pairs. No condition. -/
namespace Go.Proofs.YtabkoofmfhbmhaaDoor
open Go.RowKit

/-- A pair of terms, with the blocks of their rows. -/
structure It where
  k : Int
  n : Int
  s : ByteArray
  f : Fr
  A : Option Addr
  cap : Nat
  L : List Nat
  k' : Int
  n' : Int
  s' : ByteArray
  g : Fr
  B : Option Addr
  cap' : Nat
  M : List Nat
def It.left (x : It) : List Value := [.int .i64 x.k, .int .i64 x.n, .string x.s, .slice x.A x.f.len x.cap]
def It.right (x : It) : List Value := [.int .i64 x.k', .int .i64 x.n', .string x.s', .slice x.B x.g.len x.cap']
def It.cs (x : It) : List Value := x.left ++ x.right
def It.ok (w : World) (x : It) : Prop := OwnS w x.f x.A x.cap x.L ∧ OwnS w x.g x.B x.cap' x.M
def It.eq (x : It) : Bool := eqT x.k x.n x.s x.f x.k' x.n' x.s' x.g
def stL (xs : List It) : List Nat := xs.flatMap (·.L)
def stM (xs : List It) : List Nat := xs.flatMap (·.M)
def stN (xs : List It) : Nat := (xs.map fun x => nodes x.f + 1).sum
def stC (xs : List It) : List Value := xs.flatMap It.cs
theorem stC_len (xs : List It) : (stC xs).length = xs.length * 8 := by
  induction xs with
  | nil => rfl
  | cons x xs ih =>
    have e : stC (x :: xs) = x.cs ++ stC xs := rfl
    rw [e, List.length_append, ih]
    simp [It.cs, It.left, It.right]; omega
theorem stC_app (xs ys : List It) : stC (xs ++ ys) = stC xs ++ stC ys := by simp [stC]
theorem stL_app (xs ys : List It) : stL (xs ++ ys) = stL xs ++ stL ys := by simp [stL]
theorem stM_app (xs ys : List It) : stM (xs ++ ys) = stM xs ++ stM ys := by simp [stM]
theorem stN_app (xs ys : List It) : stN (xs ++ ys) = stN xs + stN ys := by simp [stN]

/-- The four cells of a term. -/
def four (w : World) (b o : Nat) (cs : List Value) : Prop :=
  w.cell? ⟨b, o, none⟩ = cs[0]? ∧ w.cell? ⟨b, o + 1, none⟩ = cs[1]? ∧ w.cell? ⟨b, o + 2, none⟩ = cs[2]? ∧ w.cell? ⟨b, o + 3, none⟩ = cs[3]?

/-- Two rows of one length, taken apart. -/
theorem pairs_of (w : World) (f : Fr) : ∀ (g : Fr) (b o b' o' : Nat) (L M : List Nat), OwnAt w f b o L → OwnAt w g b' o' M → f.len = g.len →
    ∃ zs : List It, zs.length = f.len ∧ (∀ x ∈ zs, x.ok w) ∧ stL zs = L ∧ stM zs = M ∧ zs.all It.eq = eqF f g ∧ stN zs = nodes f ∧
      ∀ i x, zs[i]? = some x → four w b (o + i * 4) x.left ∧ four w b' (o' + i * 4) x.right := by
  induction f with
  | nil =>
    intro g b o b' o' L M hf hg hl
    have hgn : g = .nil := by
      cases g with
      | nil => rfl
      | cons _ _ _ _ _ => simp [Fr.len] at hl
    subst hgn
    have e1 : L = [] := hf
    have e2 : M = [] := hg
    subst e1 e2
    exact ⟨[], rfl, (fun x hx => by cases hx), rfl, rfl, rfl, rfl, (fun i x hx => by simp at hx)⟩
  | cons k n s kids rest _ ihr =>
    intro g b o b' o' L M hf hg hl
    cases g with
    | nil => simp [Fr.len] at hl
    | cons k' n' s' kids' rest' =>
      obtain ⟨A, cap, L1, L2, rfl, _, ⟨c0, c1, c2, c3⟩, h1, h2, h3, hr⟩ := hf
      obtain ⟨B, cap', M1, M2, rfl, _, ⟨d0, d1, d2, d3⟩, g1, g2, g3, gr⟩ := hg
      obtain ⟨zs, z1, z2, z3, z4, z5, z6, z7⟩ := ihr rest' b (o + 4) b' (o' + 4) L2 M2 hr gr (by simpa [Fr.len] using hl)
      refine ⟨⟨k, n, s, kids, A, cap, L1, k', n', s', kids', B, cap', M1⟩ :: zs, by simp [Fr.len, z1], fun x hx => ?_, ?_, ?_, ?_, ?_, fun i x hx => ?_⟩
      · rcases List.mem_cons.1 hx with rfl | hx
        · exact ⟨⟨h1, h2, h3⟩, ⟨g1, g2, g3⟩⟩
        · exact z2 x hx
      · simp only [stL, List.flatMap_cons]
        rw [← z3]; rfl
      · simp only [stM, List.flatMap_cons]
        rw [← z4]; rfl
      · rw [List.all_cons, z5, eqF_cons]; rfl
      · simp only [stN, List.map_cons, List.sum_cons, nodes]
        have : (zs.map fun x => nodes x.f + 1).sum = nodes rest := z6
        omega
      · cases i with
        | zero =>
          obtain rfl : _ = x := by simpa using hx
          exact ⟨⟨c0, c1, c2, c3⟩, ⟨d0, d1, d2, d3⟩⟩
        | succ i =>
          obtain ⟨p, q⟩ := z7 i x (by simpa using hx)
          rw [show o + 4 + i * 4 = o + (i + 1) * 4 by omega] at p
          rw [show o' + 4 + i * 4 = o' + (i + 1) * 4 by omega] at q
          exact ⟨p, q⟩

/-- A row cut by its last element. -/
theorem ownsRow_pop {w : World} {base : Nat} {e : TypeId} {size g n cap : Nat} {xs ys : List Value} (h : w.ownsRow base e size (.slice (some ⟨g, 0, none⟩) (n + 1) cap) (n + 1) (xs ++ ys)) (hx : xs.length = n * size) :
    w.ownsRow base e size (.slice (some ⟨g, 0, none⟩) n cap) n xs := by
  refine ⟨hx, ?_⟩
  rcases h.2 with ⟨h, _⟩ | ⟨g', cap', cur, e1, hg, hc, h1, h2, h3, h4⟩
  · simp at h
  · injection e1 with e1 e2 e3
    injection e1 with e1
    injection e1 with e1
    subst e1 e3
    refine .inr ⟨g, cap, cur, rfl, hg, hc, by omega, h2, h3, ?_⟩
    have h5 := congrArg (List.take (n * size)) h4
    rw [List.take_take, Nat.min_eq_left (Nat.mul_le_mul_right _ (by omega))] at h5
    rw [h5, ← hx, List.take_left]
end Go.Proofs.YtabkoofmfhbmhaaDoor
