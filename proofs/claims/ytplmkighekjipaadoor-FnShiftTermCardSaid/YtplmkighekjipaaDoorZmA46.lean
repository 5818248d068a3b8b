/- spec.ShiftTerm. Condition: the term lies in memory. -/
import Derived.Test.YtplmkighekjipaaDoorProg
import Derived.Test.YtplmkighekjipaaDoorZmA38
import Derived.Test.YtplmkighekjipaaDoorOwn
import Derived.LaidEql
import Derived.Maps.Own
import Derived.KernelRfl
import Derived.Test.YtplmkighekjipaaDoorZmA23
import Derived.Test.YtplmkighekjipaaDoorValid
import Derived.Laws.AppendOwn
namespace Go.Proofs.YtplmkighekjipaaDoor
open Go.RowKit

set_option maxRecDepth 100000 in
set_option maxHeartbeats 4000000 in
/-- spec.ShiftTerm. -/
theorem specShift_any (k n : Int) (s : ByteArray) (f : Fr) (A : Option Addr) (cap : Nat) (V : Int) (lo hi : Nat) (w : World) (hk : KidsAt w lo hi f A cap) (hh : hi ≤ w.heap.size) (hf : Fits k n s) (hnd : nodes f ≤ 1048576) :
    Calls Tryd.prog 8 #[.agg #[.int .i64 k, .int .i64 n, .string s, .slice A f.len cap], .int .i64 V] w fun e w' => TbRes w (shR V k n s f) (shB V k n s f) e w' := by
  have C1 := fun w1 (hb : Below w.heap.size w w1) => specValid_any k n s f A cap lo hi w1 (hk.below hb hh) (Nat.le_trans hh hb.size) hf hnd
  have C2 := fun w1 (hb : Below w.heap.size w w1) (hs : shapeT k n s f 30 = true) (hV : -25 ≤ V ∧ V ≤ 25) => sfT_any s f k n V 30 A cap lo hi w1 (hk.below hb hh) (Nat.le_trans hh hb.size) hs hnd hV
  have C3 := fun w1 A1 c1 lo hi (hs : shapeT k n s f 30 = true) (hV : -25 ≤ V ∧ V ≤ 25) (hk1 : KidsAt w1 lo hi (shF V f) A1 c1) hh => specValid_any k (shN V k n) s (shF V f) A1 c1 lo hi w1 hk1 hh (shN_fits hs hV) (by rw [shF_nodes]; exact hnd)
  rw [shF_len] at C3
  unfold MadeT at C2
  rw [shF_len] at C2
  have q0 : RC w (w.heap.size + 1) ((w.alloc (.cells #[.int .i64 k, .int .i64 n, .string s, .slice A f.len cap] 28)).alloc (.cells #[.int .i64 0, .int .i64 0, .string ⟨#[]⟩, .slice none 0 0] 28)) ∧ Blk ((w.alloc (.cells #[.int .i64 k, .int .i64 n, .string s, .slice A f.len cap] 28)).alloc (.cells #[.int .i64 0, .int .i64 0, .string ⟨#[]⟩, .slice none 0 0] 28)) w.heap.size 28 #[.int .i64 k, .int .i64 n, .string s, .slice A f.len cap] := by
    refine ⟨⟨?_, by omega, two_alloc w _ _⟩, (Blk.new w _ _).alloc _⟩
    have h := Blk.new (w.alloc (.cells #[.int .i64 k, .int .i64 n, .string s, .slice A f.len cap] 28)) 28 #[.int .i64 0, .int .i64 0, .string ⟨#[]⟩, .slice none 0 0]
    simpa using h
  have HSHL : Hid ((shF V f).len = f.len) := Lib.hid (shF_len V f)
  have H1 := Lib.hid C1
  have H2 := Lib.hid C2
  have H3 := Lib.hid C3
  have HQ := Lib.hid q0
  clear C1 C2 C3 hk hf hnd q0
  go_enter Tryd.func8, Tryd.ntmps8
  go_wp2_with fail
  generalize (w.alloc (.cells #[.int .i64 k, .int .i64 n, .string s, .slice A f.len cap] 28)).alloc (.cells #[.int .i64 0, .int .i64 0, .string ⟨#[]⟩, .slice none 0 0] 28) = w1 at *
  refine (H1.out _ HQ.out.1.2.2).mono ?_
  rintro e w2 ⟨rfl, hb⟩
  have q2 : RC w (w.heap.size + 1) w2 ∧ Blk w2 w.heap.size 28 #[.int .i64 k, .int .i64 n, .string s, .slice A f.len cap] := ⟨HQ.out.1.below hb, HQ.out.2.below hb HQ.out.2.lt⟩
  obtain ⟨a0, a1, a2, a3⟩ := cells4i q2.2
  obtain ⟨d0, d1, d2, d3⟩ := cells4i q2.1.1
  obtain ⟨f0, f1, f2, f3⟩ := frozen4 q2.1.1
  have HQ2 := Lib.hid q2
  clear hb q2 H1 HQ
  cases hok : validT k n s f
  · have HE := Lib.hid (shB_bad (V := V) (.inl hok))
    clear hok
    go_wp2_with fail
    rw [HE.out.1, HE.out.2]
    refine bodyPost_ret (v := .tuple #[.agg #[.int .i64 0, .int .i64 0, .string ⟨#[]⟩, .slice none 0 0], .bool false]) ?_ rfl (HQ2.out.1.no _ _ _ _)
    exact results_cell_row2 Tryd.results8 _ _ (w.heap.size + 1) _ _ _ _ rfl (set4 HQ2.out.1.1 _ _ _ _) Tryd.underlying28 rfl (by kernel_rfl)
  · rcases (show V < -25 ∨ (-25 ≤ V ∧ 25 < V) ∨ (-25 ≤ V ∧ V ≤ 25) by omega) with r | ⟨r0, r⟩ | r
    · have HE := Lib.hid (shB_bad (V := V) (k := k) (n := n) (s := s) (f := f) (.inr (.inl r)))
      clear hok
      go_wp2_with fail
      rw [HE.out.1, HE.out.2]
      refine bodyPost_ret (v := .tuple #[.agg #[.int .i64 0, .int .i64 0, .string ⟨#[]⟩, .slice none 0 0], .bool false]) ?_ rfl (HQ2.out.1.no _ _ _ _)
      exact results_cell_row2 Tryd.results8 _ _ (w.heap.size + 1) _ _ _ _ rfl (set4 HQ2.out.1.1 _ _ _ _) Tryd.underlying28 rfl (by kernel_rfl)
    · have HE := Lib.hid (shB_bad (V := V) (k := k) (n := n) (s := s) (f := f) (.inr (.inr r)))
      clear hok
      go_wp2_with fail
      rw [HE.out.1, HE.out.2]
      refine bodyPost_ret (v := .tuple #[.agg #[.int .i64 0, .int .i64 0, .string ⟨#[]⟩, .slice none 0 0], .bool false]) ?_ rfl (HQ2.out.1.no _ _ _ _)
      exact results_cell_row2 Tryd.results8 _ _ (w.heap.size + 1) _ _ _ _ rfl (set4 HQ2.out.1.1 _ _ _ _) Tryd.underlying28 rfl (by kernel_rfl)
    · have hsh := validT_shape30 hok
      have HE := Lib.hid (shB_good hok r)
      have C2 := H2.out w2 HQ2.out.1.2.2 hsh r
      have C3 := fun w1 A1 c1 lo hi => H3.out w1 A1 c1 lo hi hsh r
      have HMB : Hid (vtB (shM V k n s f) = validT k (shN V k n) s (shF V f)) := Lib.hid rfl
      have HMF : Hid (vtF (shM V k n s f) = if validT k (shN V k n) s (shF V f) = true then ⟨k, shN V k n, s, shF V f⟩ else nd0) := Lib.hid rfl
      generalize validT k (shN V k n) s (shF V f) = ok at *
      have H4 := Lib.hid C2
      have H5 := Lib.hid C3
      clear C2 C3 hsh hok H2 H3
      obtain ⟨r1, r2⟩ := r
      generalize shN V k n = m at *
      go_wp2_with fail
      refine H4.out.mono ?_
      rintro e w3 ⟨A3, c3, rfl, hm⟩
      have hb3 := made_below hm
      have q3 := HQ2.out.1.below hb3
      have C6 := H5.out (w3.alloc (.cells #[.int .i64 k, .int .i64 m, .string s, .slice A3 f.len c3] 28)) A3 c3 0 w3.heap.size (by
        obtain ⟨L, ho, _, hL, _⟩ := hm
        exact (ho.kids (lo := 0) fun x hx => ⟨Nat.zero_le _, (hL x hx).2⟩).below ((Below.refl _ _).alloc (Nat.le_refl _) _) (Nat.le_refl _)) (by simp)
      have HM3 := Lib.hid hm
      have HQ3 := Lib.hid q3
      have H6 := Lib.hid C6
      have HSZ : Hid (w2.heap.size ≤ w3.heap.size) := Lib.hid hb3.size
      clear hm hb3 q3 C6 H4 H5 a0 a1 a2 a3 d0 d1 d2 d3 f0 f1 f2 f3
      go_wp2_with fail
      refine H6.out.mono ?_
      rintro e w4 ⟨rfl, hb4⟩
      have hb34 : Below w3.heap.size w3 w4 := ((Below.refl _ _).alloc (Nat.le_refl _) _).trans (hb4.mono (by simp))
      have q4 := HQ3.out.below hb34
      have o4 := (Blk.new w3 28 #[.int .i64 k, .int .i64 m, .string s, .slice A3 f.len c3]).below hb4 (by simp)
      have hm4 : Made w2 (shF V f) A3 c3 w4 := by
        obtain ⟨L, h1, h2, h3, h4⟩ := HM3.out
        exact ⟨L, h1.below hb34 fun x hx => (h3 x hx).2, h2, fun x hx => ⟨(h3 x hx).1, Nat.lt_of_lt_of_le (h3 x hx).2 hb34.size⟩, h4.trans (hb34.mono HSZ.out)⟩
      obtain ⟨a0, a1, a2, a3⟩ := cells4i o4
      obtain ⟨d0, d1, d2, d3⟩ := cells4i q4.1
      obtain ⟨f0, f1, f2, f3⟩ := frozen4 q4.1
      have HQ4 := Lib.hid q4
      have HM4 := Lib.hid hm4
      clear hb4 hb34 q4 o4 hm4 H6 HM3 HQ3
      cases ok
      · go_wp2_with fail
        rw [HE.out.1, HE.out.2, HMB.out, HMF.out]
        refine bodyPost_ret (v := .tuple #[.agg #[.int .i64 0, .int .i64 0, .string ⟨#[]⟩, .slice none 0 0], .bool false]) ?_ rfl (HQ4.out.no _ _ _ _)
        exact results_cell_row2 Tryd.results8 _ _ (w.heap.size + 1) _ _ _ _ rfl (set4 HQ4.out.1 _ _ _ _) Tryd.underlying28 rfl (by kernel_rfl)
      · have hy := HQ2.out.1.yes (k := k) (n := m) (s := s) HM4.out (.int .i64 k) (.int .i64 m) (.string s) (.slice A3 f.len c3) true
        rw [HSHL.out] at hy
        have HY := Lib.hid hy
        clear hy
        go_wp2_with fail
        rw [HE.out.1, HE.out.2, HMB.out, HMF.out]
        refine bodyPost_ret (v := .tuple #[.agg #[.int .i64 k, .int .i64 m, .string s, .slice A3 f.len c3], .bool true]) ?_ rfl HY.out
        exact results_cell_row2 Tryd.results8 _ _ (w.heap.size + 1) _ _ _ _ rfl (set4 HQ4.out.1 _ _ _ _) Tryd.underlying28 rfl (by kernel_rfl)
end Go.Proofs.YtplmkighekjipaaDoor

/- A map whose keys are structs of two pointers and a length (impl.TermSame's 'seen'): a key that is not there; a key more. Condition: the blocks that the keys point to hold cells. -/
namespace Go.Proofs.YtplmkighekjipaaDoor
open Go.RowKit Go.ChangeMaps Go.MapKept

/-- A pair of rows as a key. -/
def kp (p q : Addr) (n : Int) : Value := .agg #[.pointer (some p), .pointer (some q), .int .i64 n]
theorem kp_check (e : Bool) (p q : Addr) (n : Int) (w : World) : (Instr.checkKey e 10000 70 (kp p q n)).run Tryd.prog w = .ok () w := by
  unfold kp
  kernel_rfl
theorem kp_ptr (d : Nat) {w : World} {p p' : Addr} {ca cb : Array Value} {ta tb : TypeId} (hne : p ≠ p') (ha : Blk w p.block ta ca) (hb : Blk w p'.block tb cb) :
    (Op.equalIn (d + 1) 68 (.pointer (some p)) (.pointer (some p'))).run Tryd.prog w = .ok false w := by
  have hi : (Tryd.prog.info? 28).map (fun i => i.size) = some 4 := by kernel_rfl
  obtain ⟨j, hj, hz⟩ := Option.map_eq_some_iff.1 hi
  simp [Op.equalIn, run_underlying Tryd.underlying68, sizeOf, typeInfo, hj, hz, run_sameAddr_other w hne ha hb]
theorem kp_part0 (p q : Addr) (n : Int) (w : World) : (part 68 #[.pointer (some p), .pointer (some q), .int .i64 n] 0).run Tryd.prog w = .ok (.pointer (some p)) w := by kernel_rfl
theorem kp_eq_miss {w : World} {p p' q q' : Addr} {n n' : Int} {ca cb : Array Value} {ta tb : TypeId} (hne : p ≠ p') (ha : Blk w p.block ta ca) (hb : Blk w p'.block tb cb) :
    (Op.equal 70 (kp p q n) (kp p' q' n')).run Tryd.prog w = .ok false w := by
  have h1 := kp_ptr 9998 hne ha hb
  have hs : Tryd.prog.stoodInHeld 70 = false := by kernel_rfl
  unfold kp
  have e : ∀ x y, Op.equal 70 x y = Op.equalIn (9998 + 1 + 1) 70 x y := fun _ _ => rfl
  rw [e]
  generalize 9998 = d at *
  rw [Op.equalIn]
  simp [run_underlying Tryd.underlying70, hs, kp_part0, h1]
/-- No entry has the key's first row. -/
def Unseen (w : World) (p : Addr) (es : List MapEntry) : Prop := ∀ e ∈ es, ∃ p' q' n', e.key = kp p' q' n' ∧ p ≠ p' ∧ ∃ tb cb, Blk w p'.block tb cb
theorem kp_ask {w : World} {p q : Addr} {n : Int} {ca : Array Value} {ta : TypeId} (ha : Blk w p.block ta ca) : ∀ (es : List MapEntry) (i : Nat), Unseen w p es →
    (Instr.findAsking 70 (kp p q n) es i).run Tryd.prog w = .ok none w
  | [], i, _ => by simp [Instr.findAsking]
  | e :: es, i, h => by
    obtain ⟨p', q', n', he, hne, tb, cb, hb⟩ := h e (by simp)
    have ih := kp_ask (q := q) (n := n) ha es (i + 1) fun x hx => h x (by simp [hx])
    simp [Instr.findAsking, he, kp_eq_miss hne ha hb, ih]
theorem kp_find {w : World} {p q : Addr} {n : Int} {ca : Array Value} {ta : TypeId} (ha : Blk w p.block ta ca) (es : List MapEntry) (h : Unseen w p es) :
    (Instr.findKey 70 (kp p q n) es).run Tryd.prog w = .ok none w := by
  have h1 := kp_ask (q := q) (n := n) ha es 0 h
  cases es with
  | nil => simp [Instr.findKey, Instr.findNow, run_underlying Tryd.underlying70]
  | cons e es =>
    have hn : ∀ fs x, Instr.findNow (.struct fs) x (e :: es) 0 = none := fun fs x => by simp [Instr.findNow, Instr.sameNow]
    simp [Instr.findKey, run_underlying Tryd.underlying70, hn, h1]
/-- 'seen[pair]' is false where no entry has the pair's first row. -/
theorem seen_miss {w : World} {b clock : Nat} {es : Array MapEntry} {p q : Addr} {n : Int} {ca : Array Value} {ta : TypeId} (hb : w.heap[b]? = some (.map es clock)) (ha : Blk w p.block ta ca) (h : Unseen w p es.toList) :
    (Instr.lookup 65 (.map (some b)) (kp p q n) false).run Tryd.prog w = .ok (.bool false) w := by
  have hg : (getObj b).run Tryd.prog w = .ok (.map es clock) w := MapKept.run_getObj_map hb
  have hz : (zeroValue 4).run Tryd.prog w = .ok (.bool false) w := by kernel_rfl
  simp [Instr.lookup, run_underlying Tryd.underlying65, hg, kp_check, kp_find ha es.toList h, hz]
/-- 'seen[pair] = true' puts one entry more. -/
theorem seen_put {w : World} {b clock : Nat} {es : Array MapEntry} {p q : Addr} {n : Int} {ca : Array Value} {ta : TypeId} (v : Value) (hb : w.heap[b]? = some (.map es clock)) (ha : Blk w p.block ta ca) (h : Unseen w p es.toList) :
    (Instr.mapUpdate 65 (.map (some b)) (kp p q n) v).run Tryd.prog w = .ok () (setBlock w b (.map (es.push { key := kp p q n, val := v, born := clock }) (clock + 1))) := by
  have hlt : b < w.heap.size := by
    rcases Nat.lt_or_ge b w.heap.size with h | h
    · exact h
    · rw [Array.getElem?_eq_none h] at hb; cases hb
  have hg : (getObj b).run Tryd.prog w = .ok (.map es clock) w := MapKept.run_getObj_map hb
  have hs : ∀ o, (setObj b o).run Tryd.prog w = .ok () (setBlock w b o) := fun o => MapKept.run_setObj_map o hb
  simp [Instr.mapUpdate, run_underlying Tryd.underlying65, hg, hs, kp_check, kp_find ha es.toList h]
end Go.Proofs.YtplmkighekjipaaDoor

/- The pairs of terms that impl.TermSame works on: a pair's rows taken apart into pairs. No condition. -/
namespace Go.Proofs.YtplmkighekjipaaDoor
open Go.RowKit

/-- A pair of terms, with the blocks of their rows. -/
structure It where
  k : Int
  n : Int
  s : ByteArray
  f : Fr
  A : Option Addr
  cap : Nat
  L : List Nat
  k' : Int
  n' : Int
  s' : ByteArray
  g : Fr
  B : Option Addr
  cap' : Nat
  M : List Nat
def It.left (x : It) : List Value := [.int .i64 x.k, .int .i64 x.n, .string x.s, .slice x.A x.f.len x.cap]
def It.right (x : It) : List Value := [.int .i64 x.k', .int .i64 x.n', .string x.s', .slice x.B x.g.len x.cap']
def It.cs (x : It) : List Value := x.left ++ x.right
def It.ok (w : World) (x : It) : Prop := OwnS w x.f x.A x.cap x.L ∧ OwnS w x.g x.B x.cap' x.M
def It.eq (x : It) : Bool := eqT x.k x.n x.s x.f x.k' x.n' x.s' x.g
def stL (xs : List It) : List Nat := xs.flatMap (·.L)
def stM (xs : List It) : List Nat := xs.flatMap (·.M)
def stN (xs : List It) : Nat := (xs.map fun x => nodes x.f + 1).sum
def stC (xs : List It) : List Value := xs.flatMap It.cs
theorem stC_len (xs : List It) : (stC xs).length = xs.length * 8 := by
  induction xs with
  | nil => rfl
  | cons x xs ih =>
    have e : stC (x :: xs) = x.cs ++ stC xs := rfl
    rw [e, List.length_append, ih]
    simp [It.cs, It.left, It.right]; omega
theorem stC_app (xs ys : List It) : stC (xs ++ ys) = stC xs ++ stC ys := by simp [stC]
theorem stL_app (xs ys : List It) : stL (xs ++ ys) = stL xs ++ stL ys := by simp [stL]
theorem stM_app (xs ys : List It) : stM (xs ++ ys) = stM xs ++ stM ys := by simp [stM]
theorem stN_app (xs ys : List It) : stN (xs ++ ys) = stN xs + stN ys := by simp [stN]

/-- The four cells of a term. -/
def four (w : World) (b o : Nat) (cs : List Value) : Prop :=
  w.cell? ⟨b, o, none⟩ = cs[0]? ∧ w.cell? ⟨b, o + 1, none⟩ = cs[1]? ∧ w.cell? ⟨b, o + 2, none⟩ = cs[2]? ∧ w.cell? ⟨b, o + 3, none⟩ = cs[3]?

/-- Two rows of one length, taken apart. -/
theorem pairs_of (w : World) (f : Fr) : ∀ (g : Fr) (b o b' o' : Nat) (L M : List Nat), OwnAt w f b o L → OwnAt w g b' o' M → f.len = g.len →
    ∃ zs : List It, zs.length = f.len ∧ (∀ x ∈ zs, x.ok w) ∧ stL zs = L ∧ stM zs = M ∧ zs.all It.eq = eqF f g ∧ stN zs = nodes f ∧
      ∀ i x, zs[i]? = some x → four w b (o + i * 4) x.left ∧ four w b' (o' + i * 4) x.right := by
  induction f with
  | nil =>
    intro g b o b' o' L M hf hg hl
    have hgn : g = .nil := by
      cases g with
      | nil => rfl
      | cons _ _ _ _ _ => simp [Fr.len] at hl
    subst hgn
    have e1 : L = [] := hf
    have e2 : M = [] := hg
    subst e1 e2
    exact ⟨[], rfl, (fun x hx => by cases hx), rfl, rfl, rfl, rfl, (fun i x hx => by simp at hx)⟩
  | cons k n s kids rest _ ihr =>
    intro g b o b' o' L M hf hg hl
    cases g with
    | nil => simp [Fr.len] at hl
    | cons k' n' s' kids' rest' =>
      obtain ⟨A, cap, L1, L2, rfl, _, ⟨c0, c1, c2, c3⟩, h1, h2, h3, hr⟩ := hf
      obtain ⟨B, cap', M1, M2, rfl, _, ⟨d0, d1, d2, d3⟩, g1, g2, g3, gr⟩ := hg
      obtain ⟨zs, z1, z2, z3, z4, z5, z6, z7⟩ := ihr rest' b (o + 4) b' (o' + 4) L2 M2 hr gr (by simpa [Fr.len] using hl)
      refine ⟨⟨k, n, s, kids, A, cap, L1, k', n', s', kids', B, cap', M1⟩ :: zs, by simp [Fr.len, z1], fun x hx => ?_, ?_, ?_, ?_, ?_, fun i x hx => ?_⟩
      · rcases List.mem_cons.1 hx with rfl | hx
        · exact ⟨⟨h1, h2, h3⟩, ⟨g1, g2, g3⟩⟩
        · exact z2 x hx
      · simp only [stL, List.flatMap_cons]
        rw [← z3]; rfl
      · simp only [stM, List.flatMap_cons]
        rw [← z4]; rfl
      · rw [List.all_cons, z5, eqF_cons]; rfl
      · simp only [stN, List.map_cons, List.sum_cons, nodes]
        have : (zs.map fun x => nodes x.f + 1).sum = nodes rest := z6
        omega
      · cases i with
        | zero =>
          obtain rfl : _ = x := by simpa using hx
          exact ⟨⟨c0, c1, c2, c3⟩, ⟨d0, d1, d2, d3⟩⟩
        | succ i =>
          obtain ⟨p, q⟩ := z7 i x (by simpa using hx)
          rw [show o + 4 + i * 4 = o + (i + 1) * 4 by omega] at p
          rw [show o' + 4 + i * 4 = o' + (i + 1) * 4 by omega] at q
          exact ⟨p, q⟩

/-- A row cut by its last element. -/
theorem ownsRow_pop {w : World} {base : Nat} {e : TypeId} {size g n cap : Nat} {xs ys : List Value} (h : w.ownsRow base e size (.slice (some ⟨g, 0, none⟩) (n + 1) cap) (n + 1) (xs ++ ys)) (hx : xs.length = n * size) :
    w.ownsRow base e size (.slice (some ⟨g, 0, none⟩) n cap) n xs := by
  refine ⟨hx, ?_⟩
  rcases h.2 with ⟨h, _⟩ | ⟨g', cap', cur, e1, hg, hc, h1, h2, h3, h4⟩
  · simp at h
  · injection e1 with e1 e2 e3
    injection e1 with e1
    injection e1 with e1
    subst e1 e3
    refine .inr ⟨g, cap, cur, rfl, hg, hc, by omega, h2, h3, ?_⟩
    have h5 := congrArg (List.take (n * size)) h4
    rw [List.take_take, Nat.min_eq_left (Nat.mul_le_mul_right _ (by omega))] at h5
    rw [h5, ← hx, List.take_left]
end Go.Proofs.YtplmkighekjipaaDoor
