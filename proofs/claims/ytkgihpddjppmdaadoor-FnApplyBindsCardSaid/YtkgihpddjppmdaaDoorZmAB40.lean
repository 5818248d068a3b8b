/- Rows of bindings that a call makes by append. No condition. -/
import Derived.Test.YtkgihpddjppmdaaDoorBd
import Derived.Test.YtkgihpddjppmdaaDoorRowP
import Derived.Test.YtkgihpddjppmdaaDoorProg
import Derived.Test.YtkgihpddjppmdaaDoorDrL
import Derived.Test.YtkgihpddjppmdaaDoorDrN
namespace Go.Proofs.YtkgihpddjppmdaaDoor
open Go.RowKit

/-- The cells xs read as the rows ns and f, whose terms' arguments lie in the blocks L. -/
def DescB (w : World) : List Int → Fr → List Value → List Nat → Prop
  | [], .nil, xs, L => xs = [] ∧ L = []
  | n0 :: ns, .cons k n s kids rest, xs, L => ∃ (A : Option Addr) (cap : Nat) (L1 L2 : List Nat) (ys : List Value), xs = .int .i64 n0 :: .int .i64 k :: .int .i64 n :: .string s :: .slice A kids.len cap :: ys ∧ L = L1 ++ L2 ∧ InI n0 ∧ Fits k n s ∧ OwnS w kids A cap L1 ∧ DescB w ns rest ys L2
  | _, _, _, _ => False
section
variable {w w' : World}
theorem DescB.keep : ∀ (ns : List Int) (f : Fr) (xs : List Value) (L : List Nat), DescB w ns f xs L → (∀ x ∈ L, w'.heap[x]? = w.heap[x]?) → DescB w' ns f xs L
  | [], .nil, _, _, h, _ => h
  | n0 :: ns, .cons k n s kids rest, xs, L, h, hL => by
    obtain ⟨A, cap, L1, L2, ys, rfl, rfl, h0, hf, ho, hd⟩ := h
    exact ⟨A, cap, L1, L2, ys, rfl, rfl, h0, hf, ho.keep fun x hx => hL x (by simp [hx]), DescB.keep ns rest ys L2 hd fun x hx => hL x (by simp [hx])⟩
  | [], .cons _ _ _ _ _, _, _, h, _ => h.elim
  | _ :: _, .nil, _, _, h, _ => h.elim
theorem DescB.snoc {n1 k n : Int} {s : ByteArray} {kids : Fr} {A : Option Addr} {cap : Nat} {L' : List Nat} (h1 : InI n1) (hf : Fits k n s) (hs : OwnS w kids A cap L') :
    ∀ (ns : List Int) (f : Fr) (xs : List Value) (L : List Nat), DescB w ns f xs L → DescB w (ns ++ [n1]) (f.app (.cons k n s kids .nil)) (xs ++ [.int .i64 n1, .int .i64 k, .int .i64 n, .string s, .slice A kids.len cap]) (L ++ L')
  | [], .nil, _, _, h => by
    obtain ⟨rfl, rfl⟩ := h
    exact ⟨A, cap, L', [], [], rfl, by simp, h1, hf, hs, rfl, rfl⟩
  | n0 :: ns, .cons k' n' s' kids' rest', _, _, h => by
    obtain ⟨A', cap', L1, L2, ys, rfl, rfl, h0, hf', ho, hd⟩ := h
    exact ⟨A', cap', L1, L2 ++ L', _, rfl, by simp, h0, hf', ho, DescB.snoc h1 hf hs ns rest' ys L2 hd⟩
  | [], .cons _ _ _ _ _, _, _, h => h.elim
  | _ :: _, .nil, _, _, h => h.elim
theorem DescB.own {g : Nat} : ∀ (ns : List Int) (f : Fr) (xs : List Value) (L : List Nat) (o : Nat), DescB w ns f xs L → (∀ j u, xs[j]? = some u → w.cell? ⟨g, o + j, none⟩ = some u) → OwnB w ns f g o L
  | [], .nil, _, _, _, h, _ => h.2
  | n0 :: ns, .cons k n s kids rest, _, _, o, h, hc => by
    obtain ⟨A, cap, L1, L2, ys, rfl, rfl, h0, hf, ho, hd⟩ := h
    refine ⟨A, cap, L1, L2, rfl, h0, hf, ⟨hc 0 _ rfl, hc 1 _ rfl, hc 2 _ rfl, hc 3 _ rfl, hc 4 _ rfl⟩, ho, DescB.own ns rest ys L2 (o + 5) hd fun j u hu => ?_⟩
    have := hc (j + 5) u (by simpa using hu)
    rwa [show o + (j + 5) = o + 5 + j by omega] at this
  | [], .cons _ _ _ _ _, _, _, _, h, _ => h.elim
  | _ :: _, .nil, _, _, _, h, _ => h.elim
theorem DescB.len : ∀ (ns : List Int) (f : Fr) (xs : List Value) (L : List Nat), DescB w ns f xs L → ns.length = f.len
  | [], .nil, _, _, _ => rfl
  | n0 :: ns, .cons k n s kids rest, _, _, h => by
    obtain ⟨A, cap, L1, L2, ys, rfl, rfl, h0, hf, ho, hd⟩ := h
    simp only [List.length_cons, Fr.len, DescB.len ns rest ys L2 hd]
  | [], .cons _ _ _ _ _, _, _, h => h.elim
  | _ :: _, .nil, _, _, h => h.elim
/-- The slice v reads as the rows ns and f; its block and those of the terms are the call's own, from base on. -/
def RowB (base : Nat) (v : Value) (ns : List Int) (f : Fr) (w : World) : Prop :=
  ∃ xs L, w.ownsRow base 42 5 v f.len xs ∧ DescB w ns f xs L ∧ L.Nodup ∧ (∀ x ∈ L, base ≤ x ∧ x < w.heap.size) ∧ (∀ g, v.ownBlock = some g → g ∉ L)
variable {base : Nat} {v : Value} {ns : List Int} {f : Fr}
theorem RowB.empty {w : World} (hb : base ≤ w.heap.size) : RowB base (.slice (some ⟨w.heap.size, 0, none⟩) 0 0) [] .nil (w.alloc (.cells #[] 42)) :=
  ⟨[], [], ⟨rfl, .inr ⟨w.heap.size, 0, #[], rfl, hb, heap_alloc_new w _, Nat.le_refl _, Nat.zero_le _, rfl, rfl⟩⟩, ⟨rfl, rfl⟩, List.nodup_nil, fun x hx => by simp at hx, fun g hg => by simp⟩
theorem RowB.below (h : RowB base v ns f w) (hb : Below w.heap.size w w') : RowB base v ns f w' := by
  obtain ⟨xs, L, ho, hd, hn, hL, hv⟩ := h
  refine ⟨xs, L, ho.kept (row := none) ⟨hb.os, hb.tape, hb.output, hb.size, fun k hk _ => hb.block k hk⟩ ?_, DescB.keep ns f xs L hd fun x hx => hb.block x (hL x hx).2, hn, fun x hx => ⟨(hL x hx).1, Nat.lt_of_lt_of_le (hL x hx).2 hb.size⟩, hv⟩
  cases h : v.ownBlock with
  | none => exact .inl rfl
  | some g => exact .inr (by simp)
theorem RowB.own {A : Option Addr} {cap : Nat} {m : Nat} (h : RowB base (.slice A m cap) ns f w) (hA : A ≠ none) : ∃ L, OwnBS w ns f A cap L ∧ L.Nodup ∧ ∀ x ∈ L, base ≤ x ∧ x < w.heap.size := by
  obtain ⟨xs, L, ho, hd, hn, hL, hv⟩ := h
  rcases ho.2 with ⟨h0, h1⟩ | ⟨g, cap', cur, h0, hbg, hg, hnc, hcm, hcs, htake⟩
  · injection h0 with h0 h2 h3
    exact (hA h0).elim
  · injection h0 with h0 h2 h3
    subst h0 h2 h3
    have hgl := Blk.lt hg
    refine ⟨g :: L, ⟨DescB.len ns f xs L hd, hnc, hcm, g, L, cur, rfl, rfl, hg, hcs, DescB.own ns f xs L 0 hd fun j u hu => ?_⟩, List.nodup_cons.2 ⟨hv g rfl, hn⟩, fun x hx => ?_⟩
    · have h3 := (World.ownsRow.cells ho (g := g) rfl) j u hu
      have e : (⟨g, 0, none⟩ : Addr).add j = ⟨g, 0 + j, none⟩ := by unfold Addr.add; split <;> simp_all
      rwa [e] at h3
    · rcases List.mem_cons.1 hx with rfl | hx
      · exact ⟨hbg, hgl⟩
      · exact hL x hx
/-- One binding more: the term was made behind w, the append stands at w2. -/
theorem RowB.step {w1 w2 w3 : World} {xs : List Value} {L : List Nat} {n1 k n : Int} {s : ByteArray} {kids : Fr} {A : Option Addr} {cap cap' g m : Nat}
    (hm0 : f.len = m) (hD : DescB w ns f xs L) (hN : L.Nodup) (hL : ∀ x ∈ L, base ≤ x ∧ x < w.heap.size) (hv : ∀ g, v.ownBlock = some g → g ∉ L) (hvl : ∀ g, v.ownBlock = some g → g < w.heap.size) (hbase : base ≤ w.heap.size)
    (hi : InI n1) (hf : Fits k n s) (hm : Made w kids A cap w1) (hb2 : Below w1.heap.size w1 w2) (hg : w2.grownBy w3 v.ownBlock)
    (ho : w3.ownsRow base 42 5 (.slice (some ⟨g, 0, none⟩) (m + 1) cap') (m + 1) (xs ++ [.int .i64 n1, .int .i64 k, .int .i64 n, .string s, .slice A kids.len cap])) (hat : v.ownBlock = some g ∨ g = w2.heap.size) :
    RowB base (.slice (some ⟨g, 0, none⟩) (m + 1) cap') (ns ++ [n1]) (f.app (.cons k n s kids .nil)) w3 := by
  subst hm0
  obtain ⟨L', how, hn', hL', hb1⟩ := hm
  have h12 : w.heap.size ≤ w2.heap.size := Nat.le_trans hb1.size hb2.size
  have far : ∀ x, x < w1.heap.size → (∀ g, v.ownBlock = some g → x ≠ g) → w3.heap[x]? = w1.heap[x]? := fun x hx hne =>
    (hg.block x (Nat.lt_of_lt_of_le hx hb2.size) fun e => hne x e.symm rfl).trans (hb2.block x hx)
  have hlen : (f.app (.cons k n s kids .nil)).len = f.len + 1 := by rw [Fr.len_app]; rfl
  refine ⟨_, L ++ L', by rw [hlen]; exact ho, DescB.snoc hi hf (how.keep fun x hx => far x (hL' x hx).2 fun g hg e => ?_) ns f xs L (DescB.keep ns f xs L hD fun x hx => ?_), List.nodup_append.2 ⟨hN, hn', fun a ha b hb e => ?_⟩, fun x hx => ?_, fun g' hg' hx => ?_⟩
  · have := hvl g hg; have := (hL' x hx).1; omega
  · rw [far x (Nat.lt_of_lt_of_le (hL x hx).2 hb1.size) fun g hg e => hv g hg (e ▸ hx)]
    exact hb1.block x (hL x hx).2
  · have := (hL a ha).2; have := (hL' b hb).1; omega
  · have hs3 := hg.size
    have := hb2.size
    rcases List.mem_append.1 hx with hx | hx
    · have := hL x hx; omega
    · have := hL' x hx; omega
  · have e : g = g' := by simpa [Value.ownBlock] using hg'
    subst e
    have := hb2.size
    rcases hat with h | rfl
    · rcases List.mem_append.1 hx with hx | hx
      · exact hv g h hx
      · have := hvl g h; have := (hL' g hx).1; omega
    · rcases List.mem_append.1 hx with hx | hx
      · have := (hL _ hx).2; omega
      · have := (hL' _ hx).2; omega
theorem RowB.done {A : Option Addr} {cap m : Nat} {w0 : World} (h : RowB base (.slice A m cap) ns f w) (hA : A ≠ none) (hb : Below w0.heap.size w0 w) (hbase : w0.heap.size ≤ base) : MadeB w0 ns f A cap w := by
  obtain ⟨L, ho, hn, hL⟩ := h.own hA
  exact ⟨L, ho, hn, fun x hx => ⟨Nat.le_trans hbase (hL x hx).1, (hL x hx).2⟩, hb⟩
end
end Go.Proofs.YtkgihpddjppmdaaDoor

/- spec.DrawShiftTerm. Condition: the bytes lie in memory. -/
namespace Go.Proofs.YtkgihpddjppmdaaDoor
open Go.RowKit

theorem results_ct {P : Program} {fn : Func} {t q : Tmp} {ty : TypeId} (h : fn.results = #[.cell q ty, .tmp t]) (tmps : Array Value) (w : World) (g' : Nat) (t' : TypeId) (v : Value) (cs' : Array Value) (d : TypeDesc)
    (hq : tmps.getD q undef = .pointer (some ⟨g', 0, none⟩)) (ht : tmps.getD t undef = v) (hg' : Blk w g' t' cs')
    (hu : P.underlying ty = some d) (hd : (match d with | .struct _ | .array _ _ => true | _ => false) = true) (hi' : (P.info? ty).map (·.size) = some cs'.size) :
    (results fn tmps).run P w = .ok (.tuple #[.agg cs', v]) w := by
  have ht' : tmps[t]?.getD undef = v := by simpa using ht
  have hq' : tmps[q]?.getD undef = .pointer (some ⟨g', 0, none⟩) := by simpa using hq
  simp [results, h, ht', hq', asAddr, run_loadVar_row w g' t' ty cs' (0, 0) d hg' hu hd hi']
theorem blk_drew {w : World} {g : Nat} {t : TypeId} {cs : Array Value} (h : Blk w g t cs) : Blk w.drew g t cs := h.keep rfl
/-- A term and a number that were drawn. -/
def DrV (w : World) (e : Ending) (w' : World) : Prop :=
  ∃ (k n : Int) (s : ByteArray) (f : Fr) (A : Option Addr) (cap : Nat) (z : Int), e = .returned (.tuple #[.agg #[.int .i64 k, .int .i64 n, .string s, .slice A f.len cap], .int .i64 z]) ∧ Fits k n s ∧ nodes f ≤ 1000 ∧ -26 ≤ z ∧ z ≤ 26 ∧ (∃ L, OwnS w' f A cap L ∧ L.Nodup ∧ ∀ x ∈ L, w.heap.size ≤ x) ∧ Below w.heap.size w w'
theorem DrV.fin {w w8 w9 : World} {rb N : Nat} {k n : Int} {s : ByteArray} {f : Fr} {A : Option Addr} {cap : Nat} {z : Int} (h : DsI w rb N w8) (hf : Fits k n s) (hn : nodes f ≤ 1000)
    (ho : ∃ L, OwnS w8 f A cap L ∧ L.Nodup ∧ ∀ x ∈ L, w.heap.size < x) (hz : z ∈ ([1, 3, 0, -1, 22, 26, -26] : List Int)) (hw : Wrote [w.heap.size] w8 w9) :
    DrV w (.returned (.tuple #[.agg #[.int .i64 k, .int .i64 n, .string s, .slice A f.len cap], .int .i64 z])) w9 := by
  obtain ⟨L, h1, h2, h3⟩ := ho
  refine ⟨k, n, s, f, A, cap, z, rfl, hf, hn, by simp at hz; omega, by simp at hz; omega, ⟨L, h1.wrote hw fun x hx e => ?_, h2, fun x hx => by have := h3 x hx; omega⟩, h.2.1.trans (hw.below h.2.1.size fun x hx => by simp at hx; omega)⟩
  have := h3 x hx; simp at e; omega
end Go.Proofs.YtkgihpddjppmdaaDoor

/- spec.DrawApplyBinds. Condition: the bytes lie in memory. -/
namespace Go.Proofs.YtkgihpddjppmdaaDoor
open Go.RowKit

section
variable {w w' : World} {base rb : Nat} {v : Value} {ns : List Int} {f : Fr}
theorem RowB.wrote (h : RowB base v ns f w) (hr : rb < base) (hw : Wrote [rb] w w') : RowB base v ns f w' := by
  obtain ⟨xs, L, ho, hd, hn, hL, hv⟩ := h
  have hlt := ho.lt
  refine ⟨xs, L, ⟨ho.1, ?_⟩, DescB.keep ns f xs L hd fun x hx => hw.block x (hL x hx).2 (by simp; have := (hL x hx).1; omega), hn, fun x hx => ⟨(hL x hx).1, Nat.lt_of_lt_of_le (hL x hx).2 hw.size⟩, hv⟩
  rcases ho.2 with h | ⟨g, cap, cur, rfl, hg, hh, hr'⟩
  · exact .inl h
  · exact .inr ⟨g, cap, cur, rfl, hg, (hw.block g (hlt g rfl).2 (by simp; omega)).trans hh, hr'⟩
theorem RowB.stepW {w1 w2 w3 : World} {xs : List Value} {L : List Nat} {n1 k n : Int} {s : ByteArray} {kids : Fr} {A : Option Addr} {cap cap' g m : Nat} (hr : rb < base)
    (hm0 : f.len = m) (hD : DescB w ns f xs L) (hN : L.Nodup) (hL : ∀ x ∈ L, base ≤ x ∧ x < w.heap.size) (hv : ∀ g, v.ownBlock = some g → g ∉ L) (hvl : ∀ g, v.ownBlock = some g → g < w.heap.size) (hbase : base ≤ w.heap.size)
    (hi : InI n1) (hf : Fits k n s) (hm : MadeW rb w kids A cap w1) (hb2 : Below w1.heap.size w1 w2) (hg : w2.grownBy w3 v.ownBlock)
    (ho : w3.ownsRow base 42 5 (.slice (some ⟨g, 0, none⟩) (m + 1) cap') (m + 1) (xs ++ [.int .i64 n1, .int .i64 k, .int .i64 n, .string s, .slice A kids.len cap])) (hat : v.ownBlock = some g ∨ g = w2.heap.size) :
    RowB base (.slice (some ⟨g, 0, none⟩) (m + 1) cap') (ns ++ [n1]) (f.app (.cons k n s kids .nil)) w3 := by
  subst hm0
  obtain ⟨L', how, hn', hL', hb1⟩ := hm
  have h12 : w.heap.size ≤ w2.heap.size := Nat.le_trans hb1.size hb2.size
  have far : ∀ x, x < w1.heap.size → (∀ g, v.ownBlock = some g → x ≠ g) → w3.heap[x]? = w1.heap[x]? := fun x hx hne =>
    (hg.block x (Nat.lt_of_lt_of_le hx hb2.size) fun e => hne x e.symm rfl).trans (hb2.block x hx)
  have hlen : (f.app (.cons k n s kids .nil)).len = f.len + 1 := by rw [Fr.len_app]; rfl
  refine ⟨_, L ++ L', by rw [hlen]; exact ho, DescB.snoc hi hf (how.keep fun x hx => far x (hL' x hx).2 fun g hg e => ?_) ns f xs L (DescB.keep ns f xs L hD fun x hx => ?_), List.nodup_append.2 ⟨hN, hn', fun a ha b hb e => ?_⟩, fun x hx => ?_, fun g' hg' hx => ?_⟩
  · have := hvl g hg; have := (hL' x hx).1; omega
  · rw [far x (Nat.lt_of_lt_of_le (hL x hx).2 hb1.size) fun g hg e => hv g hg (e ▸ hx)]
    exact hb1.block x (hL x hx).2 (by simp; have := (hL x hx).1; omega)
  · have := (hL a ha).2; have := (hL' b hb).1; omega
  · have hs3 := hg.size
    have := hb2.size
    rcases List.mem_append.1 hx with hx | hx
    · have := hL x hx; omega
    · have := hL' x hx; omega
  · have e : g = g' := by simpa [Value.ownBlock] using hg'
    subst e
    have := hb2.size
    rcases hat with h | rfl
    · rcases List.mem_append.1 hx with hx | hx
      · exact hv g h hx
      · have := hvl g h; have := (hL' g hx).1; omega
    · rcases List.mem_append.1 hx with hx | hx
      · have := (hL _ hx).2; omega
      · have := (hL' _ hx).2; omega
theorem RowB.bds (h : RowB base v ns f w) : ∃ B cap, v = .slice B f.len cap ∧ BdS w base w.heap.size ns f B cap := by
  obtain ⟨xs, L, ho, hd, hn, hL, hv⟩ := h
  have h9 : RowB base v ns f w := ⟨xs, L, ho, hd, hn, hL, hv⟩
  have hlen := DescB.len ns f xs L hd
  rcases ho.2 with ⟨rfl, h0⟩ | ⟨g, cap, cur, rfl, hbg, hg, hnc, hcm, hcs, htake⟩
  · exact ⟨none, 0, by rw [h0], hlen, by omega, Nat.zero_le _, fun hp => by omega⟩
  · obtain ⟨L2, h1, h2, h3⟩ := h9.own (by simp)
    exact ⟨_, cap, rfl, h1.binds h3⟩
end
/-- A term and bindings that were drawn. -/
def DrAB (w : World) (e : Ending) (w' : World) : Prop :=
  ∃ (k n : Int) (s : ByteArray) (f : Fr) (A : Option Addr) (cap : Nat) (ns : List Int) (g : Fr) (B : Option Addr) (capB : Nat), e = .returned (.tuple #[.agg #[.int .i64 k, .int .i64 n, .string s, .slice A f.len cap], .slice B g.len capB]) ∧ Fits k n s ∧ nodes f ≤ 1000 ∧ nodes g ≤ 1200 ∧
    (∃ L, OwnS w' f A cap L ∧ L.Nodup ∧ ∀ x ∈ L, w.heap.size ≤ x) ∧ BdS w' 0 w'.heap.size ns g B capB ∧ Below w.heap.size w w'
/-- The loop's relation. -/
def AbQ (w w11 : World) (base rb : Nat) (m U : Nat) (v : Value) (ns : List Int) (F : Fr) (wr : World) : Prop :=
  Rd wr rb U ∧ (∀ x, x < base → x ≠ rb → wr.heap[x]? = w11.heap[x]?) ∧ Below w.heap.size w wr ∧ RowB base v ns F wr ∧ base ≤ wr.heap.size ∧ U + 600 * m ≤ 10000 ∧ nodes F + 400 * m ≤ 1200 ∧ F.len + m ≤ 3 ∧ rb < base ∧ w.heap.size < rb
theorem AbQ.wrote {w w11 wr w2 : World} {base rb m U U2 : Nat} {v : Value} {ns : List Int} {F : Fr} (h : AbQ w w11 base rb m U v ns F wr) (hr : Rd w2 rb U2) (hw : Wrote [rb] wr w2) (hU : U2 + 600 * m ≤ 10000) : AbQ w w11 base rb m U2 v ns F w2 := by
  obtain ⟨h1, h2, h3, h4, h5, h6, h7, h8, h9, h10⟩ := h
  exact ⟨hr, fun x hx hn => (hw.block x (by omega) (by simp; omega)).trans (h2 x hx hn), h3.trans (hw.below h3.size fun x hx => by simp at hx; omega), h4.wrote h9 hw, Nat.le_trans h5 hw.size, hU, h7, h8, h9, h10⟩
theorem AbQ.below {w w11 wr w2 : World} {base rb m U : Nat} {v : Value} {ns : List Int} {F : Fr} (h : AbQ w w11 base rb m U v ns F wr) (hb : Below wr.heap.size wr w2) : AbQ w w11 base rb m U v ns F w2 := h.wrote (h.1.below hb) (.of_below hb _) h.2.2.2.2.2.1
theorem AbQ.less {w w11 wr : World} {base rb m m' U : Nat} {v : Value} {ns : List Int} {F : Fr} (h : AbQ w w11 base rb m U v ns F wr) (hm : m' ≤ m) : AbQ w w11 base rb m' U v ns F wr := by
  obtain ⟨h1, h2, h3, h4, h5, h6, h7, h8, h9, h10⟩ := h
  exact ⟨h1, h2, h3, h4, h5, by omega, by omega, by omega, h9, h10⟩
theorem infoBd : (Tryd.prog.info? 42).map (fun i => (i.zero, i.size, i.bytes)) = some (some (.agg #[.int .i64 0, .int .i64 0, .int .i64 0, .string ByteArray.empty, .slice none 0 0]), 5, 64) := by kernel_rfl
set_option maxRecDepth 100000 in
set_option maxHeartbeats 8000000 in
/-- spec.DrawApplyBinds. -/
theorem drawAB_any (A : Option Addr) (len cap : Nat) (w : World) (hb : Bts w w.heap.size A len) (hc : len ≤ cap) (hm : cap ≤ maxLen) :
    Calls Tryd.prog 4 #[.slice A len cap] w fun e w' => DrAB w e w' := by
  obtain ⟨i0, hi0, hz0, hz1, hz2⟩ := info_parts infoBd
  have hb1 : Below w.heap.size w (w.alloc (.cells #[.int .i64 0, .int .i64 0, .string ⟨#[]⟩, .slice none 0 0] 25)) := (Below.refl _ _).alloc (Nat.le_refl _) _
  have hq1 := Blk.new w 25 #[.int .i64 0, .int .i64 0, .string ⟨#[]⟩, .slice none 0 0]
  have hs1 : (w.alloc (.cells #[.int .i64 0, .int .i64 0, .string ⟨#[]⟩, .slice none 0 0] 25)).heap.size = w.heap.size + 1 := by simp
  have C1 := open18_any A len cap (w.alloc (.cells #[.int .i64 0, .int .i64 0, .string ⟨#[]⟩, .slice none 0 0] 25)) (hb.up hb1) hc hm
  have H1 := Lib.hid C1
  have HB1 := Lib.hid hb1
  have HQ1 := Lib.hid hq1
  have HS1 := Lib.hid hs1
  clear C1 hb hc hm hb1 hq1 hs1
  go_enter Tryd.func4, Tryd.ntmps4
  go_wp2_with fail
  refine H1.out.mono ?_
  rintro e w3 ⟨rfl, hr, hb⟩
  have hI : DsI w (w.heap.size + 1) 0 w3 := ⟨by rw [← HS1.out]; exact hr, HB1.out.trans (hb.mono HB1.out.size), HQ1.out.below hb HQ1.out.lt, by omega⟩
  rw [HS1.out]
  have HI := Lib.hid hI
  clear hr hb hI H1 HB1 HQ1 HS1
  generalize hrb : w.heap.size + 1 = rb at *
  have hwr : w.heap.size < rb := by omega
  clear hrb
  go_wp2_with fail
  refine (some_any rb 0 w3 HI.out.1 (by omega)).mono ?_
  rintro e w4 ⟨k, n, s, f, A1, cp1, rfl, hf, hm, hn, hr⟩
  have HI4 := Lib.hid (HI.out.step hr hm.wrote)
  have CM := mut_any rb _ 256 k n s f A1 cp1 0 w4.heap.size w4 HI4.out.1 (by omega) (hm.kids.more (Nat.zero_le _) (Nat.le_refl _)) (Nat.le_refl _) hf hn (by omega)
  have hl4 := HI4.out.2.2.1.lt
  have HCM := Lib.hid CM
  clear hf hm hn hr HI CM
  go_wp2_with fail
  refine HCM.out.mono ?_
  rintro e w10 ⟨k3, n3, s3, f3, A4, cp4, rfl, hf3, hm3, hn3, hr3⟩
  have HQ10 := Lib.hid (HI4.out.step hr3 hm3.wrote)
  have HF3 := Lib.hid hf3
  have HN3 := Lib.hid hn3
  have HO10 : Hid (∃ L, OwnS w10 f3 A4 cp4 L ∧ L.Nodup ∧ ∀ x ∈ L, rb < x) := Lib.hid (by
    obtain ⟨L, h1, h2, h3, _⟩ := hm3
    have hl := HI4.out.1.lt
    exact ⟨L, h1, h2, fun x hx => by have := (h3 x hx).1; omega⟩)
  have hrH := HQ10.out.1.lt
  clear hf3 hm3 hn3 hr3 HI4 HCM
  have hb11 : Below w10.heap.size w10 (w10.alloc (.cells #[.int .i64 k3, .int .i64 n3, .string s3, .slice A4 f3.len cp4] 25)) := (Below.refl _ _).alloc (Nat.le_refl _) _
  have HI11 := Lib.hid (HQ10.out.below hb11)
  have HT11 := Lib.hid (Blk.new w10 25 #[.int .i64 k3, .int .i64 n3, .string s3, .slice A4 f3.len cp4])
  have HO11 : Hid (∃ L, OwnS (w10.alloc (.cells #[.int .i64 k3, .int .i64 n3, .string s3, .slice A4 f3.len cp4] 25)) f3 A4 cp4 L ∧ L.Nodup ∧ ∀ x ∈ L, rb < x) := Lib.hid (by
    obtain ⟨L, h1, h2, h3⟩ := HO10.out
    exact ⟨L, h1.below hb11 h1.lt, h2, h3⟩)
  have hs11 : (w10.alloc (.cells #[.int .i64 k3, .int .i64 n3, .string s3, .slice A4 f3.len cp4] 25)).heap.size = w10.heap.size + 1 := by simp
  clear hb11 HQ10 HO10
  go_wp2_with fail
  generalize w10.alloc (.cells #[.int .i64 k3, .int .i64 n3, .string s3, .slice A4 f3.len cp4] 25) = w11 at *
  generalize w10.heap.size = H at *
  have hbe := (Below.refl w11.heap.size w11).alloc (Nat.le_refl _) (.cells #[] 42)
  have hlt11 := HI11.out.1.lt
  have hq12 : AbQ w w11 (H + 1) rb 3 3010 (.slice (some ⟨H + 1, 0, none⟩) 0 0) [] .nil (w11.alloc (.cells #[] 42)) := by
    refine ⟨HI11.out.1.below hbe, fun x hx _ => hbe.block x (by omega), HI11.out.2.1.trans (hbe.mono HI11.out.2.1.size), ?_, by simp; omega, by omega, by decide, by decide, by omega, hwr⟩
    rw [← hs11]
    exact RowB.empty (Nat.le_refl _)
  have hs12 : (w11.alloc (.cells #[] 42)).heap.size = H + 1 + 1 := by simp; omega
  have HQ12 := Lib.hid hq12
  clear hbe hq12
  generalize w11.alloc (.cells #[] 42) = w12 at *
  have hb13 := (Below.refl w12.heap.size w12).alloc (Nat.le_refl _) (.cells #[.int .i64 2, .int .i64 1, .int .i64 3, .int .i64 0] 3)
  have HQ13 := Lib.hid (HQ12.out.below hb13)
  rw [← hs12]
  have HS : Hid (IntsAt (w12.alloc (.cells #[.int .i64 2, .int .i64 1, .int .i64 3, .int .i64 0] 3)) (rb + 1) (some ⟨w12.heap.size, 0, none⟩) [2, 1, 3, 0]) := Lib.hid ⟨w12.heap.size, rfl, by omega, by simp, fun i z h => by
    rw [(Blk.new w12 3 #[.int .i64 2, .int .i64 1, .int .i64 3, .int .i64 0]).cell i]
    match i, h with
    | 0, h => cases h; rfl
    | 1, h => cases h; rfl
    | 2, h => cases h; rfl
    | 3, h => cases h; rfl⟩
  clear hb13 HQ12
  refine (num_any rb 3010 [2, 1, 3, 0] _ 4 _ HQ13.out.1 (by omega) HS.out (by decide) (by decide)).mono ?_
  rintro e w14 ⟨z, rfl, hz, hr, hw⟩
  obtain ⟨m, rfl, hm3⟩ : ∃ m : Nat, z = (m : Int) ∧ m ≤ 3 := by
    simp at hz
    rcases hz with rfl | rfl | rfl | rfl
    · exact ⟨2, rfl, by omega⟩
    · exact ⟨1, rfl, by omega⟩
    · exact ⟨3, rfl, by omega⟩
    · exact ⟨0, rfl, by omega⟩
  have HQ14 := Lib.hid ((HQ13.out.wrote hr hw (by omega)).less hm3)
  have HH1 := Lib.hid hs11
  clear hz hr hw HQ13 HS hs12 hs11
  go_wp2_with fail
  go_loopw [6, 7] (fun u i wr => ∃ (m U : Nat) (v : Value) (ns : List Int) (F : Fr), v = u ∧ i = .int .i64 m ∧ AbQ w w11 (H + 1) rb m U v ns F wr) (fun _ i _ => (intOf i).toNat)
  case atStart => exact ⟨m, _, _, _, _, rfl, rfl, HQ14.out⟩
  case round =>
    clear HQ14 hm3
    obtain ⟨m, U, v, ns, F, rfl, rfl, hq⟩ := hrel
    cases m with
    | zero =>
      have hf9 := hq.2.1
      have hT9 := (HT11.out.keep (hf9 H (by omega) (by omega)))
      have hz9 := HI11.out.2.2.1.keep (hf9 w.heap.size (by omega) (by omega))
      obtain ⟨B, capB, rfl, hbds⟩ := hq.2.2.2.1.bds
      obtain ⟨x0, x1, x2, x3⟩ := cells4i hT9
      obtain ⟨d0, d1, d2, d3⟩ := cells4i hz9
      obtain ⟨f0, f1, f2', f3'⟩ := frozen4 hz9
      have HQ := Lib.hid hq
      have HBD := Lib.hid hbds
      have HZ9 := Lib.hid hz9
      clear hq hf9 hT9 hbds hz9
      go_wp2_with fail
      refine bodyPost_ret (v := .tuple #[.agg #[.int .i64 k3, .int .i64 n3, .string s3, .slice A4 f3.len cp4], .slice B F.len capB]) ?_ rfl ?_
      · exact results_ct Tryd.results4 _ _ w.heap.size _ _ _ _ rfl rfl (set4 HZ9.out _ _ _ _) Tryd.underlying25 rfl (by kernel_rfl)
      · have hw4 : Wrote [w.heap.size] wr ((((wr.setCell ⟨w.heap.size, 0, none⟩ (.int .i64 k3)).setCell ⟨w.heap.size, 1, none⟩ (.int .i64 n3)).setCell ⟨w.heap.size, 2, none⟩ (.string s3)).setCell ⟨w.heap.size, 3, none⟩ (.slice A4 f3.len cp4)) := by
          iterate 4 (refine Wrote.set_ ?_ (.inl (by simp)) _)
          exact Wrote.refl _ _
        obtain ⟨h1, h2, h3, h4, h5, h6, h7, h8, h9, h10⟩ := HQ.out
        obtain ⟨L, o1, o2, o3⟩ := HO11.out
        have hL11 := o1.lt
        refine ⟨k3, n3, s3, f3, A4, cp4, ns, F, B, capB, rfl, HF3.out, by have := HN3.out; omega, by omega, ⟨L, (o1.keep fun x hx => h2 x (by have := hL11 x hx; have := HH1.out; omega) (by have := o3 x hx; omega)).wrote hw4 fun x hx e => ?_, o2, fun x hx => by have := o3 x hx; omega⟩, ?_, h3.trans (hw4.below h3.size fun x hx => by simp at hx; omega)⟩
        · have := o3 x hx; simp at e; omega
        · refine (HBD.out.keep fun p hp1 hp2 => hw4.cell hp2 (by simp; omega)).more (Nat.zero_le _) hw4.size
    | succ m =>
      have hrl := hq.2.2.2.2.2.2.2.2.1
      have hwl := hq.2.2.2.2.2.2.2.2.2
      have hbs := hq.2.2.2.2.1
      have hUm := hq.2.2.2.2.2.1
      have hNm := hq.2.2.2.2.2.2.1
      have hFm := hq.2.2.2.2.2.2.2.1
      have hm0 : (0 : Int) < ((m + 1 : Nat) : Int) := by omega
      have hb5 := (Below.refl wr.heap.size wr).alloc (Nat.le_refl _) (.cells #[.int .i64 0, .int .i64 1, .int .i64 2, .int .i64 3, .int .i64 30] 3)
      have HQ5 := Lib.hid ((hq.less (Nat.le_succ m)).below hb5)
      have HS5 : Hid (IntsAt (wr.alloc (.cells #[.int .i64 0, .int .i64 1, .int .i64 2, .int .i64 3, .int .i64 30] 3)) (rb + 1) (some ⟨wr.heap.size, 0, none⟩) [0, 1, 2, 3, 30]) := Lib.hid ⟨wr.heap.size, rfl, by omega, by simp, fun i z h => by
        rw [(Blk.new wr 3 #[.int .i64 0, .int .i64 1, .int .i64 2, .int .i64 3, .int .i64 30]).cell i]
        match i, h with
        | 0, h => cases h; rfl
        | 1, h => cases h; rfl
        | 2, h => cases h; rfl
        | 3, h => cases h; rfl
        | 4, h => cases h; rfl⟩
      clear hb5 hq
      go_wp2_with fail
      refine (num_any rb U [0, 1, 2, 3, 30] _ 5 _ HQ5.out.1 (by omega) HS5.out (by decide) (by decide)).mono ?_
      rintro e wa ⟨n1, rfl, hz, hr, hw⟩
      have HN1 : Hid (InI n1) := Lib.hid (by simp at hz; unfold InI; omega)
      have hqa := HQ5.out.wrote hr hw (by omega)
      have hb6 := (Below.refl wa.heap.size wa).alloc (Nat.le_refl _) (.cells #[.int .i64 2, .int .i64 1, .int .i64 3] 3)
      have hbsa := hqa.2.2.2.2.1
      have HQ6 := Lib.hid (hqa.below hb6)
      have HS6 : Hid (IntsAt (wa.alloc (.cells #[.int .i64 2, .int .i64 1, .int .i64 3] 3)) (rb + 1) (some ⟨wa.heap.size, 0, none⟩) [2, 1, 3]) := Lib.hid ⟨wa.heap.size, rfl, by omega, by simp, fun i z h => by
        rw [(Blk.new wa 3 #[.int .i64 2, .int .i64 1, .int .i64 3]).cell i]
        match i, h with
        | 0, h => cases h; rfl
        | 1, h => cases h; rfl
        | 2, h => cases h; rfl⟩
      clear hb6 hqa hz hr hw HQ5 HS5
      go_wp2_with fail
      refine (num_any rb _ [2, 1, 3] _ 3 _ HQ6.out.1 (by omega) HS6.out (by decide) (by decide)).mono ?_
      rintro e wb ⟨c, rfl, hz, hr, hw⟩
      have hcd : ∃ d : Nat, c = (d : Int) ∧ drN d ≤ 512 ∧ drM d ≤ 64 := by
        simp at hz
        rcases hz with rfl | rfl | rfl
        · exact ⟨2, rfl, by decide, by decide⟩
        · exact ⟨1, rfl, by decide, by decide⟩
        · exact ⟨3, rfl, by decide, by decide⟩
      obtain ⟨d, rfl, hd1, hd2⟩ := hcd
      have HQb := Lib.hid (HQ6.out.wrote hr hw (by omega))
      clear hz hr hw HQ6 HS6
      go_wp2_with fail
      refine (drT_any d rb _ _ _ HQb.out.1 (by omega) rfl).mono ?_
      rintro e wc ⟨b0, b1, b2, bf, A2, cap2, rfl, hf2, hm2, hn2, hr2⟩
      have hqc := HQb.out.wrote (U2 := U + 1 + 1 + 512) (hr2.more (by omega)) hm2.wrote (by omega)
      have CM := mut_any rb _ 64 b0 b1 b2 bf A2 cap2 0 wc.heap.size wc hqc.1 (by omega) (hm2.kids.more (Nat.zero_le _) (Nat.le_refl _)) (Nat.le_refl _) hf2 (Nat.le_trans hn2 hd2) (by omega)
      have HCM := Lib.hid CM
      have hb6' : H + 1 ≤ wc.heap.size := hqc.2.2.2.2.1
      have hfl : F.len ≤ 2 := by omega
      obtain ⟨xs, L, hown, hDs, hN, hL, hv⟩ := hqc.2.2.2.1
      have hvl := hown.lt
      have HQC := Lib.hid hqc
      generalize hfl2 : F.len = fl at *
      have HFL := Lib.hid hfl2
      have STEP := fun (w1 w2 w4 : World) (b0 b1 : Int) (b2 : ByteArray) (bf : Fr) (A2 : Option Addr) (cap2 g cap4 : Nat) hf hm hb2 hg ho hat => RowB.stepW (rb := rb) (base := H + 1) (w := wc) (w1 := w1) (w2 := w2) (w3 := w4) (n1 := n1) (k := b0) (n := b1) (s := b2) (kids := bf) (A := A2) (cap := cap2) (cap' := cap4) (g := g) (m := fl) hrl hfl2 hDs hN hL hv (fun g hg => (hvl g hg).2) hb6' HN1.out hf hm hb2 hg ho hat
      have keep : ∀ w2, Wrote [rb] wc w2 → w2.ownsRow (H + 1) 42 5 v fl xs := fun w2 hb2 => by
        refine ⟨hown.1, ?_⟩
        rcases hown.2 with h | ⟨g, cap, cur, rfl, hg, hh, hr'⟩
        · exact .inl h
        · exact .inr ⟨g, cap, cur, rfl, hg, (hb2.block g (hvl g rfl).2 (by simp; omega)).trans hh, hr'⟩
      have HSTEP := Lib.hid STEP
      have HKEEP := Lib.hid keep
      have HVB0 : Hid (∀ g, v.ownBlock = some g → H + 1 ≤ g) := Lib.hid (fun g hg => (hown.lt g hg).1)
      clear STEP keep hown hDs hN hL hv hvl hf2 hm2 hn2 hr2 HQb CM hqc hfl2
      go_wp2_with fail
      refine HCM.out.mono ?_
      rintro e w7 ⟨c0, c1, c2, cf, A3, cap3, rfl, hf3, hm3, hn3, hr3⟩
      have HO2 := Lib.hid (HKEEP.out w7 hm3.wrote)
      have HQ7 := Lib.hid (HQC.out.wrote (U2 := U + 600) (hr3.more (by omega)) hm3.wrote (by omega))
      have HM := Lib.hid hm3
      have HF2 := Lib.hid hf3
      have HN2 := Lib.hid hn3
      have hs7 : H + 1 ≤ w7.heap.size := Nat.le_trans hb6' hm3.wrote.size
      clear hm3 hf3 hn3 hr3 HCM
      go_wp2_with (at_builtin; go_must (refine wpList_append_lies _ rfl _ _ _ rfl (H + 1) 42 i0 _ 5 64 Tryd.underlying26 hi0 hz0 hz1 hz2 rfl (by omega) v fl xs rfl (HO2.out.alloc _) ⟨w7.heap.size, 0, none⟩ 1 1 [.int .i64 n1, .int .i64 c0, .int .i64 c1, .string c2, .slice A3 cf.len cap3] rfl rfl (World.news_of_block (cs := #[.int .i64 n1, .int .i64 c0, .int .i64 c1, .string c2, .slice A3 cf.len cap3]) (fr := (0, 0)) (heap_alloc_new w7 _)) (by simp [Value.oneCell']) (by omega) (by unfold maxLen; omega) (by omega) (by simp; omega) (w7.heap.size + 1) (by simp) ?_); intro g cap4 w9 hown9 hgrow hat hlt9; have HS := Lib.hid (HSTEP.out w7 _ w9 c0 c1 c2 cf A3 cap3 g cap4 HF2.out HM.out ((Below.refl _ _).alloc (Nat.le_refl _) _) hgrow hown9 (by simpa using hat)); have HGR := Lib.hid hgrow; clear hown9 hgrow hat)
      have hq8 := HQ7.out.below ((Below.refl w7.heap.size w7).alloc (Nat.le_refl _) (.cells #[.int .i64 n1, .int .i64 c0, .int .i64 c1, .string c2, .slice A3 cf.len cap3] 42))
      have HQ9 : Hid (AbQ w w11 (H + 1) rb m (U + 600) (.slice (some ⟨g, 0, none⟩) (fl + 1) cap4) (ns ++ [n1]) (F.app (.cons c0 c1 c2 cf .nil)) w9) := Lib.hid (by
        obtain ⟨h1, h2, h3, h4, h5, h6, h7, h8, h9, h10⟩ := hq8
        have hvb := HVB0.out
        refine ⟨h1.keep fun x hx => HGR.out.block x (by have := h1.lt; omega) fun e => by have := hvb x e.symm; omega, fun x hx hn => (HGR.out.block x (by omega) fun e => by have := hvb x e.symm; omega).trans (h2 x hx hn), h3.grown HGR.out h3.size fun g hg => by have := hvb g hg; omega, HS.out, Nat.le_trans h5 HGR.out.size, by omega, ?_, ?_, h9, h10⟩
        · rw [nodes_app]
          have := HN2.out
          simp only [nodes]
          omega
        · rw [Fr.len_app, HFL.out]
          simp only [Fr.len]
          omega)
      clear hq8
      go_roundw
      case rel => exact ⟨m, _, _, _, _, rfl, by go_num, HQ9.out⟩
      case measure => simp [intOf]
end Go.Proofs.YtkgihpddjppmdaaDoor
