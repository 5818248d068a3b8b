/- Rows of bindings (a number and a term each): where they lie, and what a call owns. No condition. -/
import Derived.Test.YtkefpickpjjllaaDoorProg
import Derived.Test.YtkefpickpjjllaaDoorTo
import Derived.Test.YtkefpickpjjllaaDoorTb
import Derived.Test.YtkefpickpjjllaaDoorRowP
import Derived.Test.YtkefpickpjjllaaDoorZmUT36
import Derived.Test.YtkefpickpjjllaaDoorZmUT38
namespace Go.Proofs.YtkefpickpjjllaaDoor
open Go.RowKit

def InI (n : Int) : Prop := -9223372036854775808 ≤ n ∧ n ≤ 9223372036854775807
/-- The rows ns and f lie in block b from cell o on, each binding in five cells; what it leads to lies in blocks from lo to below hi. -/
def BdAt (w : World) (lo hi : Nat) : List Int → Fr → Nat → Nat → Prop
  | [], .nil, _, _ => True
  | n0 :: ns, .cons k n s kids rest, b, o => InI n0 ∧ Fits k n s ∧ (∃ (A : Option Addr) (cap : Nat),
      (w.cell? ⟨b, o, none⟩ = some (.int .i64 n0) ∧ w.cell? ⟨b, o + 1, none⟩ = some (.int .i64 k) ∧ w.cell? ⟨b, o + 2, none⟩ = some (.int .i64 n) ∧ w.cell? ⟨b, o + 3, none⟩ = some (.string s) ∧ w.cell? ⟨b, o + 4, none⟩ = some (.slice A kids.len cap)) ∧
      KidsAt w lo hi kids A cap) ∧ BdAt w lo hi ns rest b (o + 5)
  | _, _, _, _ => False
def BdS (w : World) (lo hi : Nat) (ns : List Int) (f : Fr) (A : Option Addr) (cap : Nat) : Prop :=
  ns.length = f.len ∧ f.len ≤ cap ∧ cap ≤ maxLen ∧ (0 < f.len → ∃ b o, A = some ⟨b, o, none⟩ ∧ lo ≤ b ∧ b < hi ∧ BdAt w lo hi ns f b o)
section
variable {w w' : World} {lo hi lo' hi' : Nat}
theorem BdAt.keep (hk : ∀ p : Addr, lo ≤ p.block → p.block < hi → w'.cell? p = w.cell? p) : ∀ (ns : List Int) (f : Fr) (b o : Nat), lo ≤ b → b < hi → BdAt w lo hi ns f b o → BdAt w' lo hi ns f b o
  | [], .nil, _, _, _, _, _ => trivial
  | n0 :: ns, .cons k n s kids rest, b, o, hl, hb, h => by
    obtain ⟨h0, hf, ⟨A, cap, ⟨c0, c1, c2, c3, c4⟩, hkid⟩, hr⟩ := h
    exact ⟨h0, hf, ⟨A, cap, ⟨(hk _ hl hb).trans c0, (hk _ hl hb).trans c1, (hk _ hl hb).trans c2, (hk _ hl hb).trans c3, (hk _ hl hb).trans c4⟩, hkid.keep hk⟩, BdAt.keep hk ns rest b (o + 5) hl hb hr⟩
  | [], .cons _ _ _ _ _, _, _, _, _, h => h.elim
  | _ :: _, .nil, _, _, _, _, h => h.elim
theorem BdAt.more (hL : lo' ≤ lo) (hH : hi ≤ hi') : ∀ (ns : List Int) (f : Fr) (b o : Nat), BdAt w lo hi ns f b o → BdAt w lo' hi' ns f b o
  | [], .nil, _, _, _ => trivial
  | n0 :: ns, .cons k n s kids rest, b, o, h => by
    obtain ⟨h0, hf, ⟨A, cap, hc, hkid⟩, hr⟩ := h
    exact ⟨h0, hf, ⟨A, cap, hc, hkid.more hL hH⟩, BdAt.more hL hH ns rest b (o + 5) hr⟩
  | [], .cons _ _ _ _ _, _, _, h => h.elim
  | _ :: _, .nil, _, _, h => h.elim
theorem BdS.keep {ns : List Int} {f : Fr} {A : Option Addr} {cap : Nat} (h : BdS w lo hi ns f A cap) (hk : ∀ p : Addr, lo ≤ p.block → p.block < hi → w'.cell? p = w.cell? p) : BdS w' lo hi ns f A cap :=
  ⟨h.1, h.2.1, h.2.2.1, fun hp => by
    obtain ⟨b, o, e, hl, hb, hr⟩ := h.2.2.2 hp
    exact ⟨b, o, e, hl, hb, BdAt.keep hk ns f b o hl hb hr⟩⟩
theorem BdS.below {ns : List Int} {f : Fr} {A : Option Addr} {cap B : Nat} (h : BdS w lo hi ns f A cap) (hb : Below B w w') (hB : hi ≤ B) : BdS w' lo hi ns f A cap := h.keep fun p _ hp => hb.cell (by omega)
theorem BdS.more {ns : List Int} {f : Fr} {A : Option Addr} {cap : Nat} (h : BdS w lo hi ns f A cap) (hL : lo' ≤ lo) (hH : hi ≤ hi') : BdS w lo' hi' ns f A cap :=
  ⟨h.1, h.2.1, h.2.2.1, fun hp => by
    obtain ⟨b, o, e, hl, hb, hr⟩ := h.2.2.2 hp
    exact ⟨b, o, e, by omega, by omega, hr.more hL hH⟩⟩
/-- Binding i. -/
theorem BdAt.elem : ∀ (i : Nat) (ns : List Int) (f : Fr) (b o : Nat) {k n : Int} {s : ByteArray} {kids rest : Fr}, BdAt w lo hi ns f b o → f.drop i = .cons k n s kids rest →
    InI (ns.getD i 0) ∧ Fits k n s ∧ ∃ (A : Option Addr) (cap : Nat), w.cell? ⟨b, o + i * 5, none⟩ = some (.int .i64 (ns.getD i 0)) ∧ w.cell? ⟨b, o + i * 5 + 1, none⟩ = some (.int .i64 k) ∧ w.cell? ⟨b, o + i * 5 + 2, none⟩ = some (.int .i64 n) ∧ w.cell? ⟨b, o + i * 5 + 3, none⟩ = some (.string s) ∧ w.cell? ⟨b, o + i * 5 + 4, none⟩ = some (.slice A kids.len cap) ∧ KidsAt w lo hi kids A cap
  | _, [], .nil, _, _, _, _, _, _, _, _, hd => by rename_i i _ _ _ _ _ _ _ _; cases i <;> cases hd
  | 0, n0 :: ns, .cons k n s kids rest, b, o, _, _, _, _, _, h, hd => by
    obtain ⟨h0, hf, ⟨A, cap, ⟨c0, c1, c2, c3, c4⟩, hkid⟩, hr⟩ := h
    injection hd with e1 e2 e3 e4 e5
    subst e1 e2 e3 e4
    exact ⟨h0, hf, A, cap, c0, c1, c2, c3, c4, hkid⟩
  | i + 1, n0 :: ns, .cons k n s kids rest, b, o, _, _, _, _, _, h, hd => by
    obtain ⟨_, _, _, hr⟩ := h
    have h1 := BdAt.elem i ns rest b (o + 5) hr hd
    rw [show o + 5 + i * 5 = o + (i + 1) * 5 by omega] at h1
    exact h1
  | _, [], .cons _ _ _ _ _, _, _, _, _, _, _, _, h, _ => h.elim
  | _, _ :: _, .nil, _, _, _, _, _, _, _, h, _ => h.elim
end

/-- Rows of bindings that a call made: the terms' rows lie in just the blocks L. -/
def OwnB (w : World) : List Int → Fr → Nat → Nat → List Nat → Prop
  | [], .nil, _, _, L => L = []
  | n0 :: ns, .cons k n s kids rest, b, o, L => ∃ (A : Option Addr) (cap : Nat) (L1 L2 : List Nat), L = L1 ++ L2 ∧ InI n0 ∧ Fits k n s ∧
      (w.cell? ⟨b, o, none⟩ = some (.int .i64 n0) ∧ w.cell? ⟨b, o + 1, none⟩ = some (.int .i64 k) ∧ w.cell? ⟨b, o + 2, none⟩ = some (.int .i64 n) ∧ w.cell? ⟨b, o + 3, none⟩ = some (.string s) ∧ w.cell? ⟨b, o + 4, none⟩ = some (.slice A kids.len cap)) ∧
      OwnS w kids A cap L1 ∧ OwnB w ns rest b (o + 5) L2
  | _, _, _, _, _ => False
section
variable {w w' : World}
theorem OwnB.keep : ∀ (ns : List Int) (f : Fr) (b o : Nat) (L : List Nat), OwnB w ns f b o L → (∀ j, j < f.len * 5 → w'.cell? ⟨b, o + j, none⟩ = w.cell? ⟨b, o + j, none⟩) → (∀ x ∈ L, w'.heap[x]? = w.heap[x]?) → OwnB w' ns f b o L
  | [], .nil, _, _, _, h, _, _ => h
  | n0 :: ns, .cons k n s kids rest, b, o, L, h, hc, hL => by
    obtain ⟨A, cap, L1, L2, rfl, h0, hf, ⟨c0, c1, c2, c3, c4⟩, ho, hr⟩ := h
    simp only [Fr.len] at hc
    refine ⟨A, cap, L1, L2, rfl, h0, hf, ⟨(hc 0 (by omega)).trans c0, (hc 1 (by omega)).trans c1, (hc 2 (by omega)).trans c2, (hc 3 (by omega)).trans c3, (hc 4 (by omega)).trans c4⟩, ho.keep fun x hx => hL x (by simp [hx]), OwnB.keep ns rest b (o + 5) L2 hr (fun j hj => ?_) fun x hx => hL x (by simp [hx])⟩
    have := hc (5 + j) (by omega)
    rwa [← Nat.add_assoc] at this
  | [], .cons _ _ _ _ _, _, _, _, h, _, _ => h.elim
  | _ :: _, .nil, _, _, _, h, _, _ => h.elim
theorem OwnB.snoc {n1 k n : Int} {s : ByteArray} {kids : Fr} {A : Option Addr} {cap : Nat} {L' : List Nat} (h1 : InI n1) (hf : Fits k n s) (hs : OwnS w kids A cap L') : ∀ (ns : List Int) (f : Fr) (b o : Nat) (L : List Nat), OwnB w ns f b o L →
    w.cell? ⟨b, o + f.len * 5, none⟩ = some (.int .i64 n1) → w.cell? ⟨b, o + f.len * 5 + 1, none⟩ = some (.int .i64 k) → w.cell? ⟨b, o + f.len * 5 + 2, none⟩ = some (.int .i64 n) → w.cell? ⟨b, o + f.len * 5 + 3, none⟩ = some (.string s) → w.cell? ⟨b, o + f.len * 5 + 4, none⟩ = some (.slice A kids.len cap) →
    OwnB w (ns ++ [n1]) (f.app (.cons k n s kids .nil)) b o (L ++ L')
  | [], .nil, b, o, L, h, c0, c1, c2, c3, c4 => by
    have h' : L = [] := h
    subst h'
    exact ⟨A, cap, L', [], by simp, h1, hf, ⟨c0, c1, c2, c3, c4⟩, hs, rfl⟩
  | n0 :: ns, .cons k' n' s' kids' rest', b, o, L, h, c0, c1, c2, c3, c4 => by
    obtain ⟨A', cap', L1, L2, rfl, h0', hf', hc', ho', hr⟩ := h
    have e : o + (Fr.cons k' n' s' kids' rest').len * 5 = o + 5 + rest'.len * 5 := by simp only [Fr.len]; omega
    rw [e] at c0 c1 c2 c3 c4
    exact ⟨A', cap', L1, L2 ++ L', by simp, h0', hf', hc', ho', OwnB.snoc h1 hf hs ns rest' b (o + 5) L2 hr c0 c1 c2 c3 c4⟩
  | [], .cons _ _ _ _ _, _, _, _, h, _, _, _, _, _ => h.elim
  | _ :: _, .nil, _, _, _, h, _, _, _, _, _ => h.elim
theorem OwnB.row {lo hi : Nat} : ∀ (ns : List Int) (f : Fr) (b o : Nat) (L : List Nat), OwnB w ns f b o L → (∀ x ∈ L, lo ≤ x ∧ x < hi) → BdAt w lo hi ns f b o
  | [], .nil, _, _, _, _, _ => trivial
  | n0 :: ns, .cons k n s kids rest, b, o, L, h, hL => by
    obtain ⟨A, cap, L1, L2, rfl, h0, hf, hc, ho, hr⟩ := h
    exact ⟨h0, hf, ⟨A, cap, hc, ho.kids fun x hx => hL x (by simp [hx])⟩, OwnB.row ns rest b (o + 5) L2 hr fun x hx => hL x (by simp [hx])⟩
  | [], .cons _ _ _ _ _, _, _, _, h, _ => h.elim
  | _ :: _, .nil, _, _, _, h, _ => h.elim
theorem OwnB.lt : ∀ (ns : List Int) (f : Fr) (b o : Nat) (L : List Nat), OwnB w ns f b o L → ∀ x ∈ L, x < w.heap.size
  | [], .nil, _, _, L, h, x, hx => by
    have h' : L = [] := h
    subst h'
    cases hx
  | n0 :: ns, .cons k n s kids rest, b, o, L, h, x, hx => by
    obtain ⟨A, cap, L1, L2, rfl, h0, hf, hc, ho, hr⟩ := h
    rcases List.mem_append.1 hx with h | h
    · exact ho.lt x h
    · exact OwnB.lt ns rest b (o + 5) L2 hr x h
  | [], .cons _ _ _ _ _, _, _, _, h, _, _ => h.elim
  | _ :: _, .nil, _, _, _, h, _, _ => h.elim
end
/-- The slice value owns the rows, in the blocks L. -/
def OwnBS (w : World) (ns : List Int) (f : Fr) (A : Option Addr) (cap : Nat) (L : List Nat) : Prop :=
  ns.length = f.len ∧ f.len ≤ cap ∧ cap ≤ maxLen ∧ ∃ b L' cs, A = some ⟨b, 0, none⟩ ∧ L = b :: L' ∧ Blk w b 44 cs ∧ cs.size = cap * 5 ∧ OwnB w ns f b 0 L'
theorem OwnBS.keep {w w' : World} {ns : List Int} {f : Fr} {A : Option Addr} {cap : Nat} {L : List Nat} (h : OwnBS w ns f A cap L) (hL : ∀ x ∈ L, w'.heap[x]? = w.heap[x]?) : OwnBS w' ns f A cap L := by
  obtain ⟨h1, h2, h3, b, L', cs, rfl, rfl, hb, hs, ho⟩ := h
  have hblk := hL b (by simp)
  exact ⟨h1, h2, h3, b, L', cs, rfl, rfl, hb.keep hblk, hs, OwnB.keep ns f b 0 L' ho (fun j _ => World.cell?_of_block (a := ⟨b, 0 + j, none⟩) hblk) fun x hx => hL x (by simp [hx])⟩
theorem OwnBS.below {w w' : World} {ns : List Int} {f : Fr} {A : Option Addr} {cap B : Nat} {L : List Nat} (h : OwnBS w ns f A cap L) (hb : Below B w w') (hL : ∀ x ∈ L, x < B) : OwnBS w' ns f A cap L := h.keep fun x hx => hb.block x (hL x hx)
theorem OwnBS.binds {w : World} {ns : List Int} {f : Fr} {A : Option Addr} {cap lo hi : Nat} {L : List Nat} (h : OwnBS w ns f A cap L) (hL : ∀ x ∈ L, lo ≤ x ∧ x < hi) : BdS w lo hi ns f A cap := by
  obtain ⟨h1, h2, h3, b, L', cs, rfl, rfl, hb, hs, ho⟩ := h
  exact ⟨h1, h2, h3, fun _ => ⟨b, 0, rfl, (hL b (by simp)).1, (hL b (by simp)).2, OwnB.row ns f b 0 L' ho fun x hx => hL x (by simp [hx])⟩⟩
theorem OwnBS.lt {w : World} {ns : List Int} {f : Fr} {A : Option Addr} {cap : Nat} {L : List Nat} (h : OwnBS w ns f A cap L) : ∀ x ∈ L, x < w.heap.size := by
  obtain ⟨h1, h2, h3, b, L', cs, rfl, rfl, hb, hs, ho⟩ := h
  intro x hx
  rcases List.mem_cons.1 hx with rfl | hx
  · exact hb.lt
  · exact OwnB.lt ns f b 0 L' ho x hx
/-- What a call leaves that made a row of bindings. -/
def MadeB (w : World) (ns : List Int) (f : Fr) (A : Option Addr) (cap : Nat) (w' : World) : Prop :=
  ∃ L, OwnBS w' ns f A cap L ∧ L.Nodup ∧ (∀ x ∈ L, w.heap.size ≤ x ∧ x < w'.heap.size) ∧ Below w.heap.size w w'
theorem binds_of_made {w w' : World} {ns : List Int} {f : Fr} {A : Option Addr} {cap : Nat} (h : MadeB w ns f A cap w') : BdS w' w.heap.size w'.heap.size ns f A cap ∧ Below w.heap.size w w' := by
  obtain ⟨L, ho, _, hL, hb⟩ := h
  exact ⟨ho.binds hL, hb⟩
end Go.Proofs.YtkefpickpjjllaaDoor

/- Rows of bindings that a call makes by append. No condition. -/
namespace Go.Proofs.YtkefpickpjjllaaDoor
open Go.RowKit

/-- The cells xs read as the rows ns and f, whose terms' arguments lie in the blocks L. -/
def DescB (w : World) : List Int → Fr → List Value → List Nat → Prop
  | [], .nil, xs, L => xs = [] ∧ L = []
  | n0 :: ns, .cons k n s kids rest, xs, L => ∃ (A : Option Addr) (cap : Nat) (L1 L2 : List Nat) (ys : List Value), xs = .int .i64 n0 :: .int .i64 k :: .int .i64 n :: .string s :: .slice A kids.len cap :: ys ∧ L = L1 ++ L2 ∧ InI n0 ∧ Fits k n s ∧ OwnS w kids A cap L1 ∧ DescB w ns rest ys L2
  | _, _, _, _ => False
section
variable {w w' : World}
theorem DescB.keep : ∀ (ns : List Int) (f : Fr) (xs : List Value) (L : List Nat), DescB w ns f xs L → (∀ x ∈ L, w'.heap[x]? = w.heap[x]?) → DescB w' ns f xs L
  | [], .nil, _, _, h, _ => h
  | n0 :: ns, .cons k n s kids rest, xs, L, h, hL => by
    obtain ⟨A, cap, L1, L2, ys, rfl, rfl, h0, hf, ho, hd⟩ := h
    exact ⟨A, cap, L1, L2, ys, rfl, rfl, h0, hf, ho.keep fun x hx => hL x (by simp [hx]), DescB.keep ns rest ys L2 hd fun x hx => hL x (by simp [hx])⟩
  | [], .cons _ _ _ _ _, _, _, h, _ => h.elim
  | _ :: _, .nil, _, _, h, _ => h.elim
theorem DescB.snoc {n1 k n : Int} {s : ByteArray} {kids : Fr} {A : Option Addr} {cap : Nat} {L' : List Nat} (h1 : InI n1) (hf : Fits k n s) (hs : OwnS w kids A cap L') :
    ∀ (ns : List Int) (f : Fr) (xs : List Value) (L : List Nat), DescB w ns f xs L → DescB w (ns ++ [n1]) (f.app (.cons k n s kids .nil)) (xs ++ [.int .i64 n1, .int .i64 k, .int .i64 n, .string s, .slice A kids.len cap]) (L ++ L')
  | [], .nil, _, _, h => by
    obtain ⟨rfl, rfl⟩ := h
    exact ⟨A, cap, L', [], [], rfl, by simp, h1, hf, hs, rfl, rfl⟩
  | n0 :: ns, .cons k' n' s' kids' rest', _, _, h => by
    obtain ⟨A', cap', L1, L2, ys, rfl, rfl, h0, hf', ho, hd⟩ := h
    exact ⟨A', cap', L1, L2 ++ L', _, rfl, by simp, h0, hf', ho, DescB.snoc h1 hf hs ns rest' ys L2 hd⟩
  | [], .cons _ _ _ _ _, _, _, h => h.elim
  | _ :: _, .nil, _, _, h => h.elim
theorem DescB.own {g : Nat} : ∀ (ns : List Int) (f : Fr) (xs : List Value) (L : List Nat) (o : Nat), DescB w ns f xs L → (∀ j u, xs[j]? = some u → w.cell? ⟨g, o + j, none⟩ = some u) → OwnB w ns f g o L
  | [], .nil, _, _, _, h, _ => h.2
  | n0 :: ns, .cons k n s kids rest, _, _, o, h, hc => by
    obtain ⟨A, cap, L1, L2, ys, rfl, rfl, h0, hf, ho, hd⟩ := h
    refine ⟨A, cap, L1, L2, rfl, h0, hf, ⟨hc 0 _ rfl, hc 1 _ rfl, hc 2 _ rfl, hc 3 _ rfl, hc 4 _ rfl⟩, ho, DescB.own ns rest ys L2 (o + 5) hd fun j u hu => ?_⟩
    have := hc (j + 5) u (by simpa using hu)
    rwa [show o + (j + 5) = o + 5 + j by omega] at this
  | [], .cons _ _ _ _ _, _, _, _, h, _ => h.elim
  | _ :: _, .nil, _, _, _, h, _ => h.elim
theorem DescB.len : ∀ (ns : List Int) (f : Fr) (xs : List Value) (L : List Nat), DescB w ns f xs L → ns.length = f.len
  | [], .nil, _, _, _ => rfl
  | n0 :: ns, .cons k n s kids rest, _, _, h => by
    obtain ⟨A, cap, L1, L2, ys, rfl, rfl, h0, hf, ho, hd⟩ := h
    simp only [List.length_cons, Fr.len, DescB.len ns rest ys L2 hd]
  | [], .cons _ _ _ _ _, _, _, h => h.elim
  | _ :: _, .nil, _, _, h => h.elim
/-- The slice v reads as the rows ns and f; its block and those of the terms are the call's own, from base on. -/
def RowB (base : Nat) (v : Value) (ns : List Int) (f : Fr) (w : World) : Prop :=
  ∃ xs L, w.ownsRow base 44 5 v f.len xs ∧ DescB w ns f xs L ∧ L.Nodup ∧ (∀ x ∈ L, base ≤ x ∧ x < w.heap.size) ∧ (∀ g, v.ownBlock = some g → g ∉ L)
variable {base : Nat} {v : Value} {ns : List Int} {f : Fr}
theorem RowB.empty {w : World} (hb : base ≤ w.heap.size) : RowB base (.slice (some ⟨w.heap.size, 0, none⟩) 0 0) [] .nil (w.alloc (.cells #[] 44)) :=
  ⟨[], [], ⟨rfl, .inr ⟨w.heap.size, 0, #[], rfl, hb, heap_alloc_new w _, Nat.le_refl _, Nat.zero_le _, rfl, rfl⟩⟩, ⟨rfl, rfl⟩, List.nodup_nil, fun x hx => by simp at hx, fun g hg => by simp⟩
theorem RowB.below (h : RowB base v ns f w) (hb : Below w.heap.size w w') : RowB base v ns f w' := by
  obtain ⟨xs, L, ho, hd, hn, hL, hv⟩ := h
  refine ⟨xs, L, ho.kept (row := none) ⟨hb.os, hb.tape, hb.output, hb.size, fun k hk _ => hb.block k hk⟩ ?_, DescB.keep ns f xs L hd fun x hx => hb.block x (hL x hx).2, hn, fun x hx => ⟨(hL x hx).1, Nat.lt_of_lt_of_le (hL x hx).2 hb.size⟩, hv⟩
  cases h : v.ownBlock with
  | none => exact .inl rfl
  | some g => exact .inr (by simp)
theorem RowB.own {A : Option Addr} {cap : Nat} {m : Nat} (h : RowB base (.slice A m cap) ns f w) (hA : A ≠ none) : ∃ L, OwnBS w ns f A cap L ∧ L.Nodup ∧ ∀ x ∈ L, base ≤ x ∧ x < w.heap.size := by
  obtain ⟨xs, L, ho, hd, hn, hL, hv⟩ := h
  rcases ho.2 with ⟨h0, h1⟩ | ⟨g, cap', cur, h0, hbg, hg, hnc, hcm, hcs, htake⟩
  · injection h0 with h0 h2 h3
    exact (hA h0).elim
  · injection h0 with h0 h2 h3
    subst h0 h2 h3
    have hgl := Blk.lt hg
    refine ⟨g :: L, ⟨DescB.len ns f xs L hd, hnc, hcm, g, L, cur, rfl, rfl, hg, hcs, DescB.own ns f xs L 0 hd fun j u hu => ?_⟩, List.nodup_cons.2 ⟨hv g rfl, hn⟩, fun x hx => ?_⟩
    · have h3 := (World.ownsRow.cells ho (g := g) rfl) j u hu
      have e : (⟨g, 0, none⟩ : Addr).add j = ⟨g, 0 + j, none⟩ := by unfold Addr.add; split <;> simp_all
      rwa [e] at h3
    · rcases List.mem_cons.1 hx with rfl | hx
      · exact ⟨hbg, hgl⟩
      · exact hL x hx
/-- One binding more: the term was made behind w, the append stands at w2. -/
theorem RowB.step {w1 w2 w3 : World} {xs : List Value} {L : List Nat} {n1 k n : Int} {s : ByteArray} {kids : Fr} {A : Option Addr} {cap cap' g m : Nat}
    (hm0 : f.len = m) (hD : DescB w ns f xs L) (hN : L.Nodup) (hL : ∀ x ∈ L, base ≤ x ∧ x < w.heap.size) (hv : ∀ g, v.ownBlock = some g → g ∉ L) (hvl : ∀ g, v.ownBlock = some g → g < w.heap.size) (hbase : base ≤ w.heap.size)
    (hi : InI n1) (hf : Fits k n s) (hm : Made w kids A cap w1) (hb2 : Below w1.heap.size w1 w2) (hg : w2.grownBy w3 v.ownBlock)
    (ho : w3.ownsRow base 44 5 (.slice (some ⟨g, 0, none⟩) (m + 1) cap') (m + 1) (xs ++ [.int .i64 n1, .int .i64 k, .int .i64 n, .string s, .slice A kids.len cap])) (hat : v.ownBlock = some g ∨ g = w2.heap.size) :
    RowB base (.slice (some ⟨g, 0, none⟩) (m + 1) cap') (ns ++ [n1]) (f.app (.cons k n s kids .nil)) w3 := by
  subst hm0
  obtain ⟨L', how, hn', hL', hb1⟩ := hm
  have h12 : w.heap.size ≤ w2.heap.size := Nat.le_trans hb1.size hb2.size
  have far : ∀ x, x < w1.heap.size → (∀ g, v.ownBlock = some g → x ≠ g) → w3.heap[x]? = w1.heap[x]? := fun x hx hne =>
    (hg.block x (Nat.lt_of_lt_of_le hx hb2.size) fun e => hne x e.symm rfl).trans (hb2.block x hx)
  have hlen : (f.app (.cons k n s kids .nil)).len = f.len + 1 := by rw [Fr.len_app]; rfl
  refine ⟨_, L ++ L', by rw [hlen]; exact ho, DescB.snoc hi hf (how.keep fun x hx => far x (hL' x hx).2 fun g hg e => ?_) ns f xs L (DescB.keep ns f xs L hD fun x hx => ?_), List.nodup_append.2 ⟨hN, hn', fun a ha b hb e => ?_⟩, fun x hx => ?_, fun g' hg' hx => ?_⟩
  · have := hvl g hg; have := (hL' x hx).1; omega
  · rw [far x (Nat.lt_of_lt_of_le (hL x hx).2 hb1.size) fun g hg e => hv g hg (e ▸ hx)]
    exact hb1.block x (hL x hx).2
  · have := (hL a ha).2; have := (hL' b hb).1; omega
  · have hs3 := hg.size
    have := hb2.size
    rcases List.mem_append.1 hx with hx | hx
    · have := hL x hx; omega
    · have := hL' x hx; omega
  · have e : g = g' := by simpa [Value.ownBlock] using hg'
    subst e
    have := hb2.size
    rcases hat with h | rfl
    · rcases List.mem_append.1 hx with hx | hx
      · exact hv g h hx
      · have := hvl g h; have := (hL' g hx).1; omega
    · rcases List.mem_append.1 hx with hx | hx
      · have := (hL _ hx).2; omega
      · have := (hL' _ hx).2; omega
theorem RowB.done {A : Option Addr} {cap m : Nat} {w0 : World} (h : RowB base (.slice A m cap) ns f w) (hA : A ≠ none) (hb : Below w0.heap.size w0 w) (hbase : w0.heap.size ≤ base) : MadeB w0 ns f A cap w := by
  obtain ⟨L, ho, hn, hL⟩ := h.own hA
  exact ⟨L, ho, hn, fun x hx => ⟨Nat.le_trans hbase (hL x hx).1, (hL x hx).2⟩, hb⟩
end
end Go.Proofs.YtkefpickpjjllaaDoor

/- spec.UnifyTerms. Condition: the terms lie in memory. -/
namespace Go.Proofs.YtkefpickpjjllaaDoor
open Go.RowKit

theorem infoBu : (Tryd.prog.info? 44).map (fun i => (i.zero, i.size, i.bytes)) = some (some (.agg #[.int .i64 0, .int .i64 0, .int .i64 0, .string ByteArray.empty, .slice none 0 0]), 5, 64) := by kernel_rfl
/-- The bindings of the first j variables; none if one is not a valid term. -/
def unB (σ : Sub) : Nat → Option (List Int × Fr)
  | 0 => some ([], .nil)
  | j + 1 => match unB σ j with
    | none => none
    | some r => match lkS σ (j : Int) with
      | none => some r
      | some _ => if validT (fin σ j).k (fin σ j).n (fin σ j).s (fin σ j).f = true then some (r.1 ++ [(j : Int)], r.2.app (.cons (fin σ j).k (fin σ j).n (fin σ j).s (fin σ j).f .nil)) else none
theorem unB_skip {σ : Sub} {j : Nat} {r : List Int × Fr} (h : unB σ j = some r) (hl : lkS σ (j : Int) = none) : unB σ (j + 1) = some r := by rw [unB, h]; simp only [hl]
theorem unB_put {σ : Sub} {j : Nat} {r : List Int × Fr} {m : Nd} (h : unB σ j = some r) (hl : lkS σ (j : Int) = some m) (hv : validT (fin σ j).k (fin σ j).n (fin σ j).s (fin σ j).f = true) :
    unB σ (j + 1) = some (r.1 ++ [(j : Int)], r.2.app (.cons (fin σ j).k (fin σ j).n (fin σ j).s (fin σ j).f .nil)) := by rw [unB, h]; simp only [hl, if_pos hv]
theorem unB_bad {σ : Sub} {j : Nat} {m : Nd} (hl : lkS σ (j : Int) = some m) (hv : validT (fin σ j).k (fin σ j).n (fin σ j).s (fin σ j).f = false) : unB σ (j + 1) = none := by
  rw [unB]
  cases unB σ j with
  | none => rfl
  | some r => simp only [hl, hv]; rfl
theorem unB_none {σ : Sub} {j : Nat} (h : unB σ j = none) : ∀ d, unB σ (j + d) = none := by
  intro d
  induction d with
  | zero => exact h
  | succ d ih => rw [← Nat.add_assoc, unB, ih]
/-- What both UnifyTerms answer. -/
def uniR (a b : Nd) (r : Option Sub) : Option (List Int × Fr) := if validT a.k a.n a.s a.f = true then (if validT b.k b.n b.s b.f = true then r.bind (fun σ => unB σ 26) else none) else none
def UniRes (w : World) (R : Option (List Int × Fr)) (e : Ending) (w' : World) : Prop :=
  (∃ (ns : List Int) (f : Fr) (A : Option Addr) (c : Nat), R = some (ns, f) ∧ e = .returned (.tuple #[.slice A f.len c, .bool true]) ∧ MadeB w ns f A c w') ∨
  (R = none ∧ ∃ (A : Option Addr) (c : Nat), e = .returned (.tuple #[.slice A 0 c, .bool false]) ∧ MadeB w [] .nil A c w')
/-- The two boxes and the empty row. -/
def UnV (w : World) (a b : Array Value) (wk : World) : Prop := Below w.heap.size w wk ∧ Blk wk w.heap.size 31 a ∧ Blk wk (w.heap.size + 1) 31 b ∧ Blk wk (w.heap.size + 1 + 1) 44 #[]
theorem UnV.next {w wk wl : World} {a b : Array Value} (h : UnV w a b wk) (hb : Below wk.heap.size wk wl) : UnV w a b wl := ⟨h.1.trans (hb.mono h.1.size), h.2.1.below hb h.2.1.lt, h.2.2.1.below hb h.2.2.1.lt, h.2.2.2.below hb h.2.2.2.lt⟩
theorem UnV.cells {w wk : World} {x0 x1 x2 x3 y0 y1 y2 y3 : Value} (h : UnV w #[x0, x1, x2, x3] #[y0, y1, y2, y3] wk) : (wk.cell? ⟨w.heap.size, 0, none⟩ = some x0 ∧ wk.cell? ⟨w.heap.size, 1, none⟩ = some x1 ∧ wk.cell? ⟨w.heap.size, 2, none⟩ = some x2 ∧ wk.cell? ⟨w.heap.size, 3, none⟩ = some x3) ∧
    wk.cell? ⟨w.heap.size + 1, 0, none⟩ = some y0 ∧ wk.cell? ⟨w.heap.size + 1, 1, none⟩ = some y1 ∧ wk.cell? ⟨w.heap.size + 1, 2, none⟩ = some y2 ∧ wk.cell? ⟨w.heap.size + 1, 3, none⟩ = some y3 := ⟨cells4i h.2.1, cells4i h.2.2.1⟩
theorem UnV.no {w wk : World} {a b : Array Value} {R : Option (List Int × Fr)} (h : UnV w a b wk) (hR : R = none) : UniRes w R (.returned (.tuple #[.slice (some ⟨w.heap.size + 1 + 1, 0, none⟩) 0 0, .bool false])) wk := by
  refine .inr ⟨hR, _, _, rfl, RowB.done (w0 := w) (base := w.heap.size) (m := 0) ⟨[], [], ⟨rfl, .inr ⟨w.heap.size + 1 + 1, 0, #[], rfl, by omega, h.2.2.2, Nat.le_refl _, Nat.zero_le _, rfl, rfl⟩⟩, ⟨rfl, rfl⟩, List.nodup_nil, fun x hx => by simp at hx, fun g hg => by simp⟩ (by simp) h.1 (Nat.le_refl _)⟩
/-- The loop's relation: the bindings of the first j variables lie in the row v. -/
def UlP (σ : Sub) (w4 : World) (j : Nat) (v : Value) (ns : List Int) (f : Fr) (wr : World) : Prop :=
  unB σ j = some (ns, f) ∧ f.len ≤ j ∧ RowB w4.heap.size v ns f wr ∧ (∃ X c, v = .slice (some X) f.len c) ∧ Below w4.heap.size w4 wr

set_option maxRecDepth 100000 in
set_option maxHeartbeats 8000000 in
/-- Behind the unification: the loop over the variables. -/
theorem specUni_any (a b : Nd) (A B : Option Addr) (cap cap' lo hi : Nat) (w : World) (r : Option Sub) (hk : KidsAt w lo hi a.f A cap) (hk' : KidsAt w lo hi b.f B cap') (hh : hi ≤ w.heap.size) (hf : Fits a.k a.n a.s) (hf' : Fits b.k b.n b.s) (hnd : nodes a.f ≤ 1048576) (hnd' : nodes b.f ≤ 1048576)
    (hr : validT a.k a.n a.s a.f = true → validT b.k b.n b.s b.f = true → Un [] a b r) :
    Calls Tryd.prog 6 #[.agg #[.int .i64 a.k, .int .i64 a.n, .string a.s, .slice A a.f.len cap], .agg #[.int .i64 b.k, .int .i64 b.n, .string b.s, .slice B b.f.len cap']] w fun e w' => UniRes w (uniR a b r) e w' := by
  have CA := fun w1 (hb : Below w.heap.size w w1) => specValid_any a.k a.n a.s a.f A cap lo hi w1 (hk.below hb hh) (Nat.le_trans hh hb.size) hf hnd
  have CB := fun w1 (hb : Below w.heap.size w w1) => specValid_any b.k b.n b.s b.f B cap' lo hi w1 (hk'.below hb hh) (Nat.le_trans hh hb.size) hf' hnd'
  have vT : ∀ m : Nd, validT m.k m.n m.s m.f = true → Tm m := fun m hv => by
    have h1 := validT_shape hv
    unfold validT at hv
    rw [Bool.and_eq_true, decide_eq_true_iff] at hv
    exact ⟨h1, by omega⟩
  have CM := fun w1 g0 (hb : Below w.heap.size w w1) (hg : hi ≤ g0) (hv : validT a.k a.n a.s a.f = true) (hv' : validT b.k b.n b.s b.f = true) (hK : KnS w1 lo hi g0 []) =>
    uu_any (hr hv hv') A B cap cap' lo hi g0 w1 (hk.below hb hh) (hk'.below hb hh) (Nat.le_trans hh hb.size) hg (vT a hv) (vT b hv') trivial (fun n m h => by cases h) hK
  have HR : Hid (uniR a b r = if validT a.k a.n a.s a.f = true then (if validT b.k b.n b.s b.f = true then r.bind (fun σ => unB σ 26) else none) else none) := Lib.hid rfl
  generalize uniR a b r = R at *
  have hq0 : UnV w #[.int .i64 a.k, .int .i64 a.n, .string a.s, .slice A a.f.len cap] #[.int .i64 b.k, .int .i64 b.n, .string b.s, .slice B b.f.len cap'] (((w.alloc (.cells #[.int .i64 a.k, .int .i64 a.n, .string a.s, .slice A a.f.len cap] 31)).alloc (.cells #[.int .i64 b.k, .int .i64 b.n, .string b.s, .slice B b.f.len cap'] 31)).alloc (.cells #[] 44)) := by
    obtain ⟨hb0, b0, b1⟩ := two_boxes w #[.int .i64 a.k, .int .i64 a.n, .string a.s, .slice A a.f.len cap] #[.int .i64 b.k, .int .i64 b.n, .string b.s, .slice B b.f.len cap']
    have h := Blk.new ((w.alloc (.cells #[.int .i64 a.k, .int .i64 a.n, .string a.s, .slice A a.f.len cap] 31)).alloc (.cells #[.int .i64 b.k, .int .i64 b.n, .string b.s, .slice B b.f.len cap'] 31)) 44 #[]
    exact ⟨hb0.alloc hb0.size _, b0.alloc _, b1.alloc _, by simpa using h⟩
  have HQ := Lib.hid hq0
  have HA := Lib.hid CA
  have HB := Lib.hid CB
  have HM := Lib.hid CM
  have HHI := Lib.hid hh
  generalize validT a.k a.n a.s a.f = va at *
  generalize validT b.k b.n b.s b.f = vb at *
  clear CA CB CM hk hk' hh hf hf' hnd hnd' hq0 hr vT
  go_enter Tryd.func6, Tryd.ntmps6
  go_wp2_with fail
  refine (HA.out _ HQ.out.1).mono ?_
  rintro e w2 ⟨rfl, hb⟩
  have HQ2 := Lib.hid (HQ.out.next hb)
  obtain ⟨⟨a0, a1, a2, a3⟩, b0, b1, b2, b3⟩ := HQ2.out.cells
  clear hb HQ
  cases va
  · go_wp2_with fail
    go_ret2
    exact HQ2.out.no (by rw [HR.out]; rfl)
  · go_wp2_with fail
    refine (HB.out _ HQ2.out.1).mono ?_
    rintro e w3 ⟨rfl, hb⟩
    have HQ3 := Lib.hid (HQ2.out.next hb)
    obtain ⟨⟨a0, a1, a2, a3⟩, b0, b1, b2, b3⟩ := HQ3.out.cells
    clear hb
    cases vb
    · go_wp2_with fail
      go_ret2
      exact HQ3.out.no (by rw [HR.out]; rfl)
    · have hmk := run_kn0
      have hsz3 : w.heap.size + 1 < w3.heap.size := HQ3.out.2.2.1.lt
      have hsz4 : w.heap.size < w3.heap.size := by omega
      have hbk : Below w3.heap.size w3 (w3.alloc (.cells kn0 31)) := (Below.refl _ _).alloc (Nat.le_refl _) _
      have HQT := Lib.hid (HQ3.out.next hbk)
      have CM := HM.out _ w3.heap.size HQT.out.1 (Nat.le_trans HHI.out (by omega)) (by first | rfl | trivial) (by first | rfl | trivial) (kn0_lies (Blk.new w3 _ _) lo hi)
      have HCM := Lib.hid CM
      clear CM hbk HM HA HB HQ2
      go_wp2_with fail
      refine HCM.out.mono ?_
      rintro e w4 ⟨hw, hres⟩
      have hbw : Below w.heap.size w w4 := HQT.out.1.trans (hw.below HQT.out.1.size fun x hx => by simp at hx; omega)
      have hs4 : w3.heap.size + 1 ≤ w4.heap.size := by have := hw.size; simp at this; exact this
      have HQ4 : Hid (UnV w #[.int .i64 a.k, .int .i64 a.n, .string a.s, .slice A a.f.len cap] #[.int .i64 b.k, .int .i64 b.n, .string b.s, .slice B b.f.len cap'] w4) := Lib.hid ⟨hbw, hw.blk HQT.out.2.1 (by simp; omega), hw.blk HQT.out.2.2.1 (by simp; omega), hw.blk HQT.out.2.2.2 (by have := HQ3.out.2.2.2.lt; simp; omega)⟩
      clear hw hbw HCM HQT hmk a0 a1 a2 a3 b0 b1 b2 b3
      rcases hres with ⟨σ, rfl, rfl, hK, hσ, hs⟩ | ⟨rfl, rfl⟩
      · have HRS : Hid (R = unB σ 26) := Lib.hid (by rw [HR.out]; rfl)
        have HK4 := Lib.hid hK
        have HOK := Lib.hid hσ
        have HSS := Lib.hid hs
        have HH4 : Hid (hi ≤ w4.heap.size) := Lib.hid (Nat.le_trans HHI.out HQ4.out.1.size)
        have HHG : Hid (hi ≤ w3.heap.size) := Lib.hid (by have := HHI.out; omega)
        obtain ⟨i0, hi0, hz0, hz1, hz2⟩ := info_parts infoBu
        clear hK hσ hs HR HQ3
        go_wp2_with fail
        go_loopw [8, 9] (fun o i wr => ∃ (j : Nat) (ns : List Int) (f : Fr), j ≤ 26 ∧ i = .int .i64 j ∧ UlP σ w4 j o ns f wr) (fun _ i _ => 26 - (intOf i).toNat)
        case atStart => exact ⟨0, [], .nil, by omega, rfl, rfl, Nat.le_refl _, RowB.empty (Nat.le_refl _), ⟨_, 0, rfl⟩, (Below.refl _ _).alloc (Nat.le_refl _) _⟩
        case round =>
          obtain ⟨j, ns, f, hj, rfl, hub, hfl, hrow, ⟨X, cx, rfl⟩, hb⟩ := hrel
          by_cases hlt : j < 26
          · obtain ⟨cs, hblk, hcs, hcell⟩ := HK4.out.below hb HH4.out
            have hc := hcell j hlt
            have y := hblk.cell (j * 4)
            have y1' := hblk.cell (j * 4 + 1)
            have y2' := hblk.cell (j * 4 + 2)
            have y3' := hblk.cell (j * 4 + 3)
            have ij0 : (0 : Int) ≤ (j : Int) := Int.natCast_nonneg _
            have ij1 : (j : Int) < 26 := by omega
            have hsr := hb.size
            cases hlk : lkS σ (j : Int) with
            | none =>
              have y1 := y.trans (hc.1 hlk)
              have HS : Hid (UlP σ w4 (j + 1) (.slice (some X) f.len cx) ns f wr) := Lib.hid ⟨unB_skip hub hlk, by omega, hrow, ⟨X, cx, rfl⟩, hb⟩
              clear hblk hcs hcell hc hlk y y1' y2' y3' hub hrow hb
              go_wp2_with fail
              go_roundw
              case rel => exact ⟨j + 1, ns, f, by omega, by go_num, HS.out⟩
              case measure => simp [intOf]; omega
            | some m =>
              obtain ⟨hk0, hkr, Am, cm, c0, c1, c2', c3, hkid⟩ := hc.2 m hlk
              have y0 := y.trans c0
              have y1 := y1'.trans c1
              have y2 := y2'.trans c2'
              have y3 := y3'.trans c3
              have tk : (m.k == 0) = false := by rw [beq_eq_false_iff_ne]; exact hk0
              have FU := full_any 120 (by omega) (by omega) σ m Am cm lo hi w3.heap.size wr HOK.out HSS.out hkid (Nat.le_trans HH4.out hsr) HHG.out (HK4.out.below hb HH4.out) (HSS.out _ m hlk)
              rw [show suN (fin σ) m = fin σ (j : Int) from (HOK.out.inv.bound (j : Int) m hlk).symm] at FU
              have HPUT := Lib.hid (unB_put hub hlk)
              have HBAD := Lib.hid (unB_bad (σ := σ) hlk)
              have HFU := Lib.hid FU
              have HQR := Lib.hid (HQ4.out.next hb)
              have HBW := Lib.hid hb
              obtain ⟨xs, L, hown, hD, hN, hL, hv⟩ := hrow
              have hvl := hown.lt
              have STEP := fun (mk mn : Int) (ms : ByteArray) (mg : Fr) (A2 : Option Addr) (c2 : Nat) (w1 w2 w9 : World) (g9 cap9 : Nat) hf hm hb2 hg ho hat => RowB.step (base := w4.heap.size) (v := .slice (some X) f.len cx) (ns := ns) (n1 := (j : Int)) (k := mk) (n := mn) (s := ms) (kids := mg) (A := A2) (cap := c2) (w1 := w1) (w2 := w2) (w3 := w9) (g := g9) (cap' := cap9) rfl hD hN hL hv (fun g hg => (hvl g hg).2) hsr (show InI (j : Int) from ⟨by omega, by omega⟩) hf hm hb2 hg ho hat
              have HSTEP := Lib.hid STEP
              have HOWN := Lib.hid hown
              have HVL := Lib.hid hvl
              clear hblk hcs hcell hc hlk y y1' y2' y3' hub hb c0 c1 c2' c3 hkid FU hown hD hN hL hv hvl STEP hk0 hkr
              generalize fin σ (j : Int) = M at *
              generalize hfn : f.len = fl at *
              have HFN := Lib.hid hfn
              clear hfn
              go_wp2_with fail
              refine HFU.out.mono ?_
              rintro e w6 ⟨⟨mk, mn, ms, mg⟩, A2, c2, l, rfl, hm6, hf6, hl1, hl2, hres⟩
              simp only at hm6 hf6 ⊢
              have hd6 := made_below hm6
              have HQ7 := Lib.hid ((HQR.out.next hd6).next ((Below.refl _ _).alloc (Nat.le_refl _) (.cells #[.int .i64 mk, .int .i64 mn, .string ms, .slice A2 mg.len c2] 31)))
              obtain ⟨x0, x1, x2, x3⟩ := cells4i (Blk.new w6 31 #[.int .i64 mk, .int .i64 mn, .string ms, .slice A2 mg.len c2])
              rcases hres with ⟨hr1, hr2, hr3⟩ | ⟨hr1, hr2⟩
              · subst hr2
                simp only at hr1 hr3
                have tl : ¬ (l < 0) := by omega
                have hb67 : Below w6.heap.size w6 (w6.alloc (.cells #[.int .i64 mk, .int .i64 mn, .string ms, .slice A2 mg.len c2] 31)) := (Below.refl _ _).alloc (Nat.le_refl _) _
                have CV := specValid_any mk mn ms mg A2 c2 wr.heap.size w6.heap.size (w6.alloc (.cells #[.int .i64 mk, .int .i64 mn, .string ms, .slice A2 mg.len c2] 31)) ((kids_of_made hm6).1.below hb67 (Nat.le_refl _)) hb67.size hf6 (by omega)
                have HPUT2 := Lib.hid (HPUT.out)
                have HBAD2 := Lib.hid (HBAD.out)
                simp only at HPUT2 HBAD2
                generalize hvv : validT mk mn ms mg = vm at *
                have HCV := Lib.hid CV
                have HM6 := Lib.hid hm6
                have HF6 := Lib.hid hf6
                have HX7 := Lib.hid (Blk.new w6 31 #[.int .i64 mk, .int .i64 mn, .string ms, .slice A2 mg.len c2])
                have HB67 := Lib.hid hb67
                have hs67 : (w6.alloc (.cells #[.int .i64 mk, .int .i64 mn, .string ms, .slice A2 mg.len c2] 31)).heap.size = w6.heap.size + 1 := by simp
                have hs6 : wr.heap.size ≤ w6.heap.size := hd6.size
                clear CV hm6 hf6 hr1 hr3 hb67 hd6 hvv HPUT HBAD
                go_wp2_with fail
                refine HCV.out.mono ?_
                rintro e w8 ⟨rfl, hb8⟩
                have hs8 := hb8.size
                rw [hs67] at hs8
                have HQ8 := Lib.hid (HQ7.out.next hb8)
                have hx8 := HX7.out.below hb8 (by rw [hs67]; omega)
                clear x0 x1 x2 x3
                obtain ⟨x0, x1, x2, x3⟩ := cells4i hx8
                cases vm
                · clear hb8 hx8
                  go_wp2_with fail
                  go_ret2
                  exact HQ8.out.no (by
                    rw [HRS.out]
                    have := unB_none (HBAD2.out (by first | rfl | trivial)) (25 - j)
                    rwa [show j + 1 + (25 - j) = 26 by omega] at this)
                · have hb68 : Below w6.heap.size w6 w8 := HB67.out.trans (hb8.mono (by rw [hs67]; omega))
                  have hbr8 : Below wr.heap.size wr w8 := (made_below HM6.out).trans (hb68.mono hs6)
                  have hb6n : Below w6.heap.size w6 (w8.alloc (.cells #[.int .i64 (j : Int), .int .i64 mk, .int .i64 mn, .string ms, .slice A2 mg.len c2] 44)) := hb68.alloc (by omega) _
                  have HO8 := Lib.hid ((HOWN.out.kept (row := none) ⟨hbr8.os, hbr8.tape, hbr8.output, hbr8.size, fun k hk _ => hbr8.block k hk⟩ (.inr (by simp [Value.ownBlock])) : w8.ownsRow w4.heap.size 44 5 (.slice (some X) fl cx) fl xs))
                  have HB6N := Lib.hid hb6n
                  have HBR8 := Lib.hid hbr8
                  have HNEW := Lib.hid (heap_alloc_new w8 (.cells #[.int .i64 (j : Int), .int .i64 mk, .int .i64 mn, .string ms, .slice A2 mg.len c2] 44))
                  clear hb8 hx8 hb68 hbr8 hb6n
                  go_wp2_with (at_builtin; go_must (refine wpList_append_lies _ rfl _ _ _ rfl w4.heap.size 44 i0 _ 5 64 Tryd.underlying26 hi0 hz0 hz1 hz2 rfl (by omega) (.slice (some X) fl cx) fl xs rfl (HO8.out.alloc _) ⟨w8.heap.size, 0, none⟩ 1 1 [.int .i64 (j : Int), .int .i64 mk, .int .i64 mn, .string ms, .slice A2 mg.len c2] rfl rfl (World.news_of_block (cs := #[.int .i64 (j : Int), .int .i64 mk, .int .i64 mn, .string ms, .slice A2 mg.len c2]) (fr := (0, 0)) HNEW.out) (by simp [Value.oneCell']) (by omega) (by unfold maxLen; omega) (by omega) (by simp; omega) (w8.heap.size + 1) (by simp) ?_); intro g9 cap9 w9 hown9 hgrow hat hlt9; have HS := Lib.hid (HSTEP.out mk mn ms mg A2 c2 w6 _ w9 g9 cap9 HF6.out HM6.out HB6N.out hgrow hown9 (by simpa using hat)); have HGR := Lib.hid hgrow; clear hown9 hgrow hat)
                  go_roundw
                  case rel =>
                    refine ⟨j + 1, ns ++ [(j : Int)], f.app (.cons mk mn ms mg .nil), by omega, by go_num, HPUT2.out (by first | rfl | trivial), by rw [Fr.len_app, HFN.out]; simp only [Fr.len]; omega, HS.out, ⟨_, _, by rw [Fr.len_app, HFN.out]; rfl⟩, ?_⟩
                    have h1 : Below w4.heap.size w4 (w8.alloc (.cells #[.int .i64 (j : Int), .int .i64 mk, .int .i64 mn, .string ms, .slice A2 mg.len c2] 44)) := (HBW.out.trans (HBR8.out.mono hsr)).alloc (Nat.le_trans hsr HBR8.out.size) _
                    exact h1.grown HGR.out h1.size fun g hg => (HVL.out g hg).1
                  case measure => simp [intOf]; omega
              · have tl : l < 0 := hr2
                have HN2 : Hid (unB σ (j + 1) = none) := Lib.hid (HBAD.out (by
                  rw [Bool.eq_false_iff]
                  intro hv
                  unfold validT at hv
                  rw [Bool.and_eq_true, decide_eq_true_iff] at hv
                  omega))
                clear hm6 hf6 hr1 hd6
                go_wp2_with fail
                go_ret2
                exact HQ7.out.no (by
                  rw [HRS.out]
                  have := unB_none HN2.out (25 - j)
                  rwa [show j + 1 + (25 - j) = 26 by omega] at this)
          · obtain rfl : j = 26 := by omega
            have HRES : Hid (UniRes w R (.returned (.tuple #[.slice (some X) f.len cx, .bool true])) wr) := Lib.hid (.inl ⟨ns, f, some X, cx, by rw [HRS.out, hub], rfl, RowB.done hrow (by simp) (HQ4.out.1.trans (hb.mono HQ4.out.1.size)) HQ4.out.1.size⟩)
            clear hub hrow hb
            go_wp2_with fail
            go_ret2
            exact HRES.out
      · go_wp2_with fail
        go_ret2
        exact HQ4.out.no (by rw [HR.out]; rfl)
end Go.Proofs.YtkefpickpjjllaaDoor
