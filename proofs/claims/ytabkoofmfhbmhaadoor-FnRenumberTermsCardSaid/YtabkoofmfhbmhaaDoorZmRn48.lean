/- spec.l3Canon. Condition: the term lies in memory. -/
import Derived.Test.YtabkoofmfhbmhaaDoorProg
import Derived.Test.YtabkoofmfhbmhaaDoorZmRn40
import Derived.Test.YtabkoofmfhbmhaaDoorZmRn45
import Derived.Test.YtabkoofmfhbmhaaDoorZmRn46
import Derived.Test.YtabkoofmfhbmhaaDoorTb
import Derived.Deep.RegionHeld3
import Derived.Test.YtabkoofmfhbmhaaDoorZmRn41
import Derived.Test.YtabkoofmfhbmhaaDoorZmRn47
import Derived.Test.YtabkoofmfhbmhaaDoorOwn
import Derived.LaidEql
import Derived.Maps.Own
import Derived.KernelRfl
import Derived.Test.YtabkoofmfhbmhaaDoorEq
import Derived.Test.YtabkoofmfhbmhaaDoorValid
import Derived.Laws.AppendOwn
namespace Go.Proofs.YtabkoofmfhbmhaaDoor
open Go.RowKit

/-- The variables of one term; the term with them numbered. -/
def canV (k n : Int) (f : Fr) : List Int := varsT [] k n f
theorem canV_nodup (k n : Int) (s : ByteArray) (f : Fr) : (canV k n f).Nodup := varsF_nodup (.cons k n s f .nil) [] List.nodup_nil
theorem canV_len (k n : Int) (f : Fr) : (canV k n f).length ≤ nodes f + 1 := by
  have := varsT_len [] k n f
  simpa [canV] using this
theorem canV_small {k n : Int} {s : ByteArray} {f : Fr} {d : Int} (h : shapeT k n s f d = true) : (canV k n f).length ≤ 26 :=
  nodup_len 26 _ (canV_nodup k n s f) (vars_range (.cons k n s f .nil) d [] (by rw [shapeF_cons, h]; rfl) fun x hx => by simp at hx)
theorem shapeT_ren {V : List Int} (hV : V.length ≤ 26) {k n : Int} {s : ByteArray} {f : Fr} {d : Int} (h : shapeT k n s f d = true) : shapeT k (renN V k n) s (renF V f) d = true := by
  have h1 := shapeF_ren V hV (.cons k n s f .nil) d (by rw [shapeF_cons, h]; rfl)
  simp only [renF] at h1
  rw [shapeF_cons, Bool.and_eq_true] at h1
  exact h1.1

end Go.Proofs.YtabkoofmfhbmhaaDoor

/- Renumbering: plain facts for the law. No condition. -/
namespace Go.Proofs.YtabkoofmfhbmhaaDoor
open Go.RowKit

/-- 0, 1, .. c - 1. -/
def iotaL (c : Nat) : List Int := (List.range c).map Int.ofNat
theorem iota_iotaL (V : List Int) : iota V = iotaL V.length := rfl
theorem iotaL_succ (c : Nat) : iotaL c ++ [(c : Int)] = iotaL (c + 1) := by simp [iotaL, List.range_succ]
theorem iotaL_len (c : Nat) : (iotaL c).length = c := by simp [iotaL]
theorem iotaL_pre {l : List Int} {c : Nat} (h : l <+: iotaL c) : l = iotaL l.length := by
  obtain ⟨t, ht⟩ := h
  have h1 : l = (iotaL c).take l.length := by rw [← ht]; simp
  have h2 : l.length ≤ c := by have := congrArg List.length ht; rw [List.length_append, iotaL_len] at this; omega
  rw [h1]
  unfold iotaL
  rw [← List.map_take, List.take_range, Nat.min_eq_left h2]
  simp
theorem mem_iotaL {c : Nat} {x : Int} (h : x ∈ iotaL c) : 0 ≤ x ∧ x < c := by
  unfold iotaL at h
  obtain ⟨a, ha, rfl⟩ := List.mem_map.1 h
  have := List.mem_range.1 ha
  exact ⟨Int.natCast_nonneg a, by show (a : Int) < c; omega⟩
/-- One number more. -/
theorem add_iota {c c' : Nat} {x : Int} (h : addV (iotaL c) x <+: iotaL c') : (0 ≤ x ∧ x < c ∧ addV (iotaL c) x = iotaL c) ∨ (x = c ∧ addV (iotaL c) x = iotaL (c + 1)) := by
  by_cases hc : (iotaL c).contains x = true
  · have e : addV (iotaL c) x = iotaL c := by unfold addV; rw [if_pos hc]
    obtain ⟨h1, h2⟩ := mem_iotaL (by simpa using hc)
    exact .inl ⟨h1, h2, e⟩
  · have e : addV (iotaL c) x = iotaL c ++ [x] := by unfold addV; rw [if_neg hc]
    rw [e] at h ⊢
    have h1 := iotaL_pre h
    have hl : (iotaL c ++ [x]).length = c + 1 := by simp [iotaL_len]
    rw [hl, ← iotaL_succ] at h1
    have h2 := List.append_cancel_left h1
    injection h2 with h3 _
    exact .inr ⟨h3, by rw [h3, iotaL_succ]⟩
theorem addV_in {a : List Int} {n : Int} (h : n ∈ a) : addV a n = a := by
  unfold addV
  rw [if_pos (by simpa using h)]
theorem addV_mem (a : List Int) (n : Int) : n ∈ addV a n := by
  unfold addV
  split
  · next hc => simpa using hc
  · simp
theorem addV_old {a : List Int} {n m : Int} (h : n ∈ a) : n ∈ addV a m := by
  unfold addV
  split
  · exact h
  · exact List.mem_append_left _ h
theorem fold_mem {n : Int} : ∀ (b acc : List Int), n ∈ b ∨ n ∈ acc → n ∈ b.foldl addV acc := by
  intro b
  induction b with
  | nil => intro acc h; rcases h with h | h; exact absurd h (by simp); exact h
  | cons x xs ih =>
    intro acc h
    refine ih _ ?_
    rcases h with h | h
    · rcases List.mem_cons.1 h with rfl | h
      · exact .inr (addV_mem _ _)
      · exact .inl h
    · exact .inr (addV_old h)
theorem fold_add (acc b : List Int) (n : Int) : (addV b n).foldl addV acc = addV (b.foldl addV acc) n := by
  by_cases hm : n ∈ b
  · rw [addV_in hm, addV_in (fold_mem b acc (.inl hm))]
  · have e : addV b n = b ++ [n] := by unfold addV; rw [if_neg (by simpa using hm)]
    rw [e, List.foldl_append]
    rfl
theorem fold_vars (f : Fr) : ∀ acc b : List Int, (varsF b f).foldl addV acc = varsF (b.foldl addV acc) f := by
  induction f with
  | nil => intro acc b; rfl
  | cons k n s kids rest ihk ihr =>
    intro acc b
    show (varsF (if k = 1 then addV b n else varsF b kids) rest).foldl addV acc = varsF (if k = 1 then addV (b.foldl addV acc) n else varsF (b.foldl addV acc) kids) rest
    rw [ihr]
    congr 1
    split
    · exact fold_add acc b n
    · exact ihk acc b
theorem fold_varsT (acc : List Int) (k n : Int) (f : Fr) : (varsT [] k n f).foldl addV acc = varsT acc k n f := by
  unfold varsT
  split
  · exact fold_add acc [] n
  · exact fold_vars f acc []
theorem fold_up (l : List Int) : ∀ acc : List Int, acc <+: l.foldl addV acc := by
  induction l with
  | nil => intro acc; exact List.prefix_refl _
  | cons x xs ih =>
    intro acc
    refine List.IsPrefix.trans ?_ (ih _)
    unfold addV
    split
    · exact List.prefix_refl _
    · exact List.prefix_append _ _
theorem allV_ren {V : List Int} (hV : V.length ≤ 26) (F : Fr) (h : allV F = true) : allV (renF V F) = true := by
  induction F with
  | nil => rfl
  | cons k n s kids rest _ ihr =>
    unfold allV at h
    rw [Bool.and_eq_true] at h
    show (validT k (renN V k n) s (renF V kids) && allV (renF V rest)) = true
    rw [Bool.and_eq_true]
    refine ⟨?_, ihr h.2⟩
    have h1 := h.1
    unfold validT at h1 ⊢
    rw [Bool.and_eq_true] at h1 ⊢
    rw [renF_nodes]
    exact ⟨shapeT_ren hV h1.1, h1.2⟩
/-- What the law asks of the renumbered row. -/
theorem rn_law {F : Fr} (h : allV F = true) : (rnF F).len = F.len ∧ allV (rnF F) = true ∧ rnF (rnF F) = rnF F ∧ varsF (iotaL 0) (rnF F) = iotaL (allVars F).length := by
  have e : rnF F = renF (allVars F) F := by unfold rnF; rw [if_pos h]
  have hv : allV (renF (allVars F) F) = true := allV_ren (allVars_small F h) F h
  have h1 : varsF [] (renF (allVars F) F) = iota (allVars F) := vars_ren F [] (allVars F) (varsF_nodup F [] List.nodup_nil) (List.prefix_refl _)
  refine ⟨by rw [e, renF_len], by rw [e]; exact hv, ?_, by rw [e]; exact h1⟩
  rw [e]
  have e2 : rnF (renF (allVars F) F) = renF (allVars (renF (allVars F) F)) (renF (allVars F) F) := by unfold rnF; rw [if_pos hv]
  rw [e2]
  show renF (varsF [] (renF (allVars F) F)) _ = _
  rw [h1]
  exact ren_ren F [] (allVars F) 30 (allV_shape F h) (List.prefix_refl _)
theorem allV_at (i : Nat) : ∀ (F : Fr) {k n : Int} {s : ByteArray} {kids rest : Fr}, allV F = true → F.drop i = .cons k n s kids rest → validT k n s kids = true := by
  induction i with
  | zero =>
    intro F k n s kids rest h hd
    have hd' : F = .cons k n s kids rest := hd
    subst hd'
    unfold allV at h
    rw [Bool.and_eq_true] at h
    exact h.1
  | succ i ih =>
    intro F k n s kids rest h hd
    cases F with
    | nil => cases hd
    | cons k' n' s' kids' rest' =>
      unfold allV at h
      rw [Bool.and_eq_true] at h
      exact ih rest' h.2 hd
end Go.Proofs.YtabkoofmfhbmhaaDoor

/- A map whose keys are structs of two pointers and a length (impl.TermSame's 'seen'): a key that is not there; a key more. Condition: the blocks that the keys point to hold cells. -/
namespace Go.Proofs.YtabkoofmfhbmhaaDoor
open Go.RowKit Go.ChangeMaps Go.MapKept

/-- A pair of rows as a key. -/
def kp (p q : Addr) (n : Int) : Value := .agg #[.pointer (some p), .pointer (some q), .int .i64 n]
theorem kp_check (e : Bool) (p q : Addr) (n : Int) (w : World) : (Instr.checkKey e 10000 80 (kp p q n)).run Tryd.prog w = .ok () w := by
  unfold kp
  kernel_rfl
theorem kp_ptr (d : Nat) {w : World} {p p' : Addr} {ca cb : Array Value} {ta tb : TypeId} (hne : p ≠ p') (ha : Blk w p.block ta ca) (hb : Blk w p'.block tb cb) :
    (Op.equalIn (d + 1) 78 (.pointer (some p)) (.pointer (some p'))).run Tryd.prog w = .ok false w := by
  have hi : (Tryd.prog.info? 31).map (fun i => i.size) = some 4 := by kernel_rfl
  obtain ⟨j, hj, hz⟩ := Option.map_eq_some_iff.1 hi
  simp [Op.equalIn, run_underlying Tryd.underlying78, sizeOf, typeInfo, hj, hz, run_sameAddr_other w hne ha hb]
theorem kp_part0 (p q : Addr) (n : Int) (w : World) : (part 78 #[.pointer (some p), .pointer (some q), .int .i64 n] 0).run Tryd.prog w = .ok (.pointer (some p)) w := by kernel_rfl
theorem kp_eq_miss {w : World} {p p' q q' : Addr} {n n' : Int} {ca cb : Array Value} {ta tb : TypeId} (hne : p ≠ p') (ha : Blk w p.block ta ca) (hb : Blk w p'.block tb cb) :
    (Op.equal 80 (kp p q n) (kp p' q' n')).run Tryd.prog w = .ok false w := by
  have h1 := kp_ptr 9998 hne ha hb
  have hs : Tryd.prog.stoodInHeld 80 = false := by kernel_rfl
  unfold kp
  have e : ∀ x y, Op.equal 80 x y = Op.equalIn (9998 + 1 + 1) 80 x y := fun _ _ => rfl
  rw [e]
  generalize 9998 = d at *
  rw [Op.equalIn]
  simp [run_underlying Tryd.underlying80, hs, kp_part0, h1]
/-- No entry has the key's first row. -/
def Unseen (w : World) (p : Addr) (es : List MapEntry) : Prop := ∀ e ∈ es, ∃ p' q' n', e.key = kp p' q' n' ∧ p ≠ p' ∧ ∃ tb cb, Blk w p'.block tb cb
theorem kp_ask {w : World} {p q : Addr} {n : Int} {ca : Array Value} {ta : TypeId} (ha : Blk w p.block ta ca) : ∀ (es : List MapEntry) (i : Nat), Unseen w p es →
    (Instr.findAsking 80 (kp p q n) es i).run Tryd.prog w = .ok none w
  | [], i, _ => by simp [Instr.findAsking]
  | e :: es, i, h => by
    obtain ⟨p', q', n', he, hne, tb, cb, hb⟩ := h e (by simp)
    have ih := kp_ask (q := q) (n := n) ha es (i + 1) fun x hx => h x (by simp [hx])
    simp [Instr.findAsking, he, kp_eq_miss hne ha hb, ih]
theorem kp_find {w : World} {p q : Addr} {n : Int} {ca : Array Value} {ta : TypeId} (ha : Blk w p.block ta ca) (es : List MapEntry) (h : Unseen w p es) :
    (Instr.findKey 80 (kp p q n) es).run Tryd.prog w = .ok none w := by
  have h1 := kp_ask (q := q) (n := n) ha es 0 h
  cases es with
  | nil => simp [Instr.findKey, Instr.findNow, run_underlying Tryd.underlying80]
  | cons e es =>
    have hn : ∀ fs x, Instr.findNow (.struct fs) x (e :: es) 0 = none := fun fs x => by simp [Instr.findNow, Instr.sameNow]
    simp [Instr.findKey, run_underlying Tryd.underlying80, hn, h1]
/-- 'seen[pair]' is false where no entry has the pair's first row. -/
theorem seen_miss {w : World} {b clock : Nat} {es : Array MapEntry} {p q : Addr} {n : Int} {ca : Array Value} {ta : TypeId} (hb : w.heap[b]? = some (.map es clock)) (ha : Blk w p.block ta ca) (h : Unseen w p es.toList) :
    (Instr.lookup 75 (.map (some b)) (kp p q n) false).run Tryd.prog w = .ok (.bool false) w := by
  have hg : (getObj b).run Tryd.prog w = .ok (.map es clock) w := MapKept.run_getObj_map hb
  have hz : (zeroValue 4).run Tryd.prog w = .ok (.bool false) w := by kernel_rfl
  simp [Instr.lookup, run_underlying Tryd.underlying75, hg, kp_check, kp_find ha es.toList h, hz]
/-- 'seen[pair] = true' puts one entry more. -/
theorem seen_put {w : World} {b clock : Nat} {es : Array MapEntry} {p q : Addr} {n : Int} {ca : Array Value} {ta : TypeId} (v : Value) (hb : w.heap[b]? = some (.map es clock)) (ha : Blk w p.block ta ca) (h : Unseen w p es.toList) :
    (Instr.mapUpdate 75 (.map (some b)) (kp p q n) v).run Tryd.prog w = .ok () (setBlock w b (.map (es.push { key := kp p q n, val := v, born := clock }) (clock + 1))) := by
  have hlt : b < w.heap.size := by
    rcases Nat.lt_or_ge b w.heap.size with h | h
    · exact h
    · rw [Array.getElem?_eq_none h] at hb; cases hb
  have hg : (getObj b).run Tryd.prog w = .ok (.map es clock) w := MapKept.run_getObj_map hb
  have hs : ∀ o, (setObj b o).run Tryd.prog w = .ok () (setBlock w b o) := fun o => MapKept.run_setObj_map o hb
  simp [Instr.mapUpdate, run_underlying Tryd.underlying75, hg, hs, kp_check, kp_find ha es.toList h]
end Go.Proofs.YtabkoofmfhbmhaaDoor

/- The pairs of terms that impl.TermSame works on: a pair's rows taken apart into pairs. No condition. -/
namespace Go.Proofs.YtabkoofmfhbmhaaDoor
open Go.RowKit

/-- A pair of terms, with the blocks of their rows. -/
structure It where
  k : Int
  n : Int
  s : ByteArray
  f : Fr
  A : Option Addr
  cap : Nat
  L : List Nat
  k' : Int
  n' : Int
  s' : ByteArray
  g : Fr
  B : Option Addr
  cap' : Nat
  M : List Nat
def It.left (x : It) : List Value := [.int .i64 x.k, .int .i64 x.n, .string x.s, .slice x.A x.f.len x.cap]
def It.right (x : It) : List Value := [.int .i64 x.k', .int .i64 x.n', .string x.s', .slice x.B x.g.len x.cap']
def It.cs (x : It) : List Value := x.left ++ x.right
def It.ok (w : World) (x : It) : Prop := OwnS w x.f x.A x.cap x.L ∧ OwnS w x.g x.B x.cap' x.M
def It.eq (x : It) : Bool := eqT x.k x.n x.s x.f x.k' x.n' x.s' x.g
def stL (xs : List It) : List Nat := xs.flatMap (·.L)
def stM (xs : List It) : List Nat := xs.flatMap (·.M)
def stN (xs : List It) : Nat := (xs.map fun x => nodes x.f + 1).sum
def stC (xs : List It) : List Value := xs.flatMap It.cs
theorem stC_len (xs : List It) : (stC xs).length = xs.length * 8 := by
  induction xs with
  | nil => rfl
  | cons x xs ih =>
    have e : stC (x :: xs) = x.cs ++ stC xs := rfl
    rw [e, List.length_append, ih]
    simp [It.cs, It.left, It.right]; omega
theorem stC_app (xs ys : List It) : stC (xs ++ ys) = stC xs ++ stC ys := by simp [stC]
theorem stL_app (xs ys : List It) : stL (xs ++ ys) = stL xs ++ stL ys := by simp [stL]
theorem stM_app (xs ys : List It) : stM (xs ++ ys) = stM xs ++ stM ys := by simp [stM]
theorem stN_app (xs ys : List It) : stN (xs ++ ys) = stN xs + stN ys := by simp [stN]

/-- The four cells of a term. -/
def four (w : World) (b o : Nat) (cs : List Value) : Prop :=
  w.cell? ⟨b, o, none⟩ = cs[0]? ∧ w.cell? ⟨b, o + 1, none⟩ = cs[1]? ∧ w.cell? ⟨b, o + 2, none⟩ = cs[2]? ∧ w.cell? ⟨b, o + 3, none⟩ = cs[3]?

/-- Two rows of one length, taken apart. -/
theorem pairs_of (w : World) (f : Fr) : ∀ (g : Fr) (b o b' o' : Nat) (L M : List Nat), OwnAt w f b o L → OwnAt w g b' o' M → f.len = g.len →
    ∃ zs : List It, zs.length = f.len ∧ (∀ x ∈ zs, x.ok w) ∧ stL zs = L ∧ stM zs = M ∧ zs.all It.eq = eqF f g ∧ stN zs = nodes f ∧
      ∀ i x, zs[i]? = some x → four w b (o + i * 4) x.left ∧ four w b' (o' + i * 4) x.right := by
  induction f with
  | nil =>
    intro g b o b' o' L M hf hg hl
    have hgn : g = .nil := by
      cases g with
      | nil => rfl
      | cons _ _ _ _ _ => simp [Fr.len] at hl
    subst hgn
    have e1 : L = [] := hf
    have e2 : M = [] := hg
    subst e1 e2
    exact ⟨[], rfl, (fun x hx => by cases hx), rfl, rfl, rfl, rfl, (fun i x hx => by simp at hx)⟩
  | cons k n s kids rest _ ihr =>
    intro g b o b' o' L M hf hg hl
    cases g with
    | nil => simp [Fr.len] at hl
    | cons k' n' s' kids' rest' =>
      obtain ⟨A, cap, L1, L2, rfl, _, ⟨c0, c1, c2, c3⟩, h1, h2, h3, hr⟩ := hf
      obtain ⟨B, cap', M1, M2, rfl, _, ⟨d0, d1, d2, d3⟩, g1, g2, g3, gr⟩ := hg
      obtain ⟨zs, z1, z2, z3, z4, z5, z6, z7⟩ := ihr rest' b (o + 4) b' (o' + 4) L2 M2 hr gr (by simpa [Fr.len] using hl)
      refine ⟨⟨k, n, s, kids, A, cap, L1, k', n', s', kids', B, cap', M1⟩ :: zs, by simp [Fr.len, z1], fun x hx => ?_, ?_, ?_, ?_, ?_, fun i x hx => ?_⟩
      · rcases List.mem_cons.1 hx with rfl | hx
        · exact ⟨⟨h1, h2, h3⟩, ⟨g1, g2, g3⟩⟩
        · exact z2 x hx
      · simp only [stL, List.flatMap_cons]
        rw [← z3]; rfl
      · simp only [stM, List.flatMap_cons]
        rw [← z4]; rfl
      · rw [List.all_cons, z5, eqF_cons]; rfl
      · simp only [stN, List.map_cons, List.sum_cons, nodes]
        have : (zs.map fun x => nodes x.f + 1).sum = nodes rest := z6
        omega
      · cases i with
        | zero =>
          obtain rfl : _ = x := by simpa using hx
          exact ⟨⟨c0, c1, c2, c3⟩, ⟨d0, d1, d2, d3⟩⟩
        | succ i =>
          obtain ⟨p, q⟩ := z7 i x (by simpa using hx)
          rw [show o + 4 + i * 4 = o + (i + 1) * 4 by omega] at p
          rw [show o' + 4 + i * 4 = o' + (i + 1) * 4 by omega] at q
          exact ⟨p, q⟩

/-- A row cut by its last element. -/
theorem ownsRow_pop {w : World} {base : Nat} {e : TypeId} {size g n cap : Nat} {xs ys : List Value} (h : w.ownsRow base e size (.slice (some ⟨g, 0, none⟩) (n + 1) cap) (n + 1) (xs ++ ys)) (hx : xs.length = n * size) :
    w.ownsRow base e size (.slice (some ⟨g, 0, none⟩) n cap) n xs := by
  refine ⟨hx, ?_⟩
  rcases h.2 with ⟨h, _⟩ | ⟨g', cap', cur, e1, hg, hc, h1, h2, h3, h4⟩
  · simp at h
  · injection e1 with e1 e2 e3
    injection e1 with e1
    injection e1 with e1
    subst e1 e3
    refine .inr ⟨g, cap, cur, rfl, hg, hc, by omega, h2, h3, ?_⟩
    have h5 := congrArg (List.take (n * size)) h4
    rw [List.take_take, Nat.min_eq_left (Nat.mul_le_mul_right _ (by omega))] at h5
    rw [h5, ← hx, List.take_left]
end Go.Proofs.YtabkoofmfhbmhaaDoor
