/- Rows of bindings (a number and a term each): where they lie, and what a call owns. No condition. -/
import Derived.Test.YtkgihpddjppmdaaDoorProg
import Derived.Test.YtkgihpddjppmdaaDoorTo
import Derived.Test.YtkgihpddjppmdaaDoorTb
namespace Go.Proofs.YtkgihpddjppmdaaDoor
open Go.RowKit

def InI (n : Int) : Prop := -9223372036854775808 ≤ n ∧ n ≤ 9223372036854775807
/-- The rows ns and f lie in block b from cell o on, each binding in five cells; what it leads to lies in blocks from lo to below hi. -/
def BdAt (w : World) (lo hi : Nat) : List Int → Fr → Nat → Nat → Prop
  | [], .nil, _, _ => True
  | n0 :: ns, .cons k n s kids rest, b, o => InI n0 ∧ Fits k n s ∧ (∃ (A : Option Addr) (cap : Nat),
      (w.cell? ⟨b, o, none⟩ = some (.int .i64 n0) ∧ w.cell? ⟨b, o + 1, none⟩ = some (.int .i64 k) ∧ w.cell? ⟨b, o + 2, none⟩ = some (.int .i64 n) ∧ w.cell? ⟨b, o + 3, none⟩ = some (.string s) ∧ w.cell? ⟨b, o + 4, none⟩ = some (.slice A kids.len cap)) ∧
      KidsAt w lo hi kids A cap) ∧ BdAt w lo hi ns rest b (o + 5)
  | _, _, _, _ => False
def BdS (w : World) (lo hi : Nat) (ns : List Int) (f : Fr) (A : Option Addr) (cap : Nat) : Prop :=
  ns.length = f.len ∧ f.len ≤ cap ∧ cap ≤ maxLen ∧ (0 < f.len → ∃ b o, A = some ⟨b, o, none⟩ ∧ lo ≤ b ∧ b < hi ∧ BdAt w lo hi ns f b o)
section
variable {w w' : World} {lo hi lo' hi' : Nat}
theorem BdAt.keep (hk : ∀ p : Addr, lo ≤ p.block → p.block < hi → w'.cell? p = w.cell? p) : ∀ (ns : List Int) (f : Fr) (b o : Nat), lo ≤ b → b < hi → BdAt w lo hi ns f b o → BdAt w' lo hi ns f b o
  | [], .nil, _, _, _, _, _ => trivial
  | n0 :: ns, .cons k n s kids rest, b, o, hl, hb, h => by
    obtain ⟨h0, hf, ⟨A, cap, ⟨c0, c1, c2, c3, c4⟩, hkid⟩, hr⟩ := h
    exact ⟨h0, hf, ⟨A, cap, ⟨(hk _ hl hb).trans c0, (hk _ hl hb).trans c1, (hk _ hl hb).trans c2, (hk _ hl hb).trans c3, (hk _ hl hb).trans c4⟩, hkid.keep hk⟩, BdAt.keep hk ns rest b (o + 5) hl hb hr⟩
  | [], .cons _ _ _ _ _, _, _, _, _, h => h.elim
  | _ :: _, .nil, _, _, _, _, h => h.elim
theorem BdAt.more (hL : lo' ≤ lo) (hH : hi ≤ hi') : ∀ (ns : List Int) (f : Fr) (b o : Nat), BdAt w lo hi ns f b o → BdAt w lo' hi' ns f b o
  | [], .nil, _, _, _ => trivial
  | n0 :: ns, .cons k n s kids rest, b, o, h => by
    obtain ⟨h0, hf, ⟨A, cap, hc, hkid⟩, hr⟩ := h
    exact ⟨h0, hf, ⟨A, cap, hc, hkid.more hL hH⟩, BdAt.more hL hH ns rest b (o + 5) hr⟩
  | [], .cons _ _ _ _ _, _, _, h => h.elim
  | _ :: _, .nil, _, _, h => h.elim
theorem BdS.keep {ns : List Int} {f : Fr} {A : Option Addr} {cap : Nat} (h : BdS w lo hi ns f A cap) (hk : ∀ p : Addr, lo ≤ p.block → p.block < hi → w'.cell? p = w.cell? p) : BdS w' lo hi ns f A cap :=
  ⟨h.1, h.2.1, h.2.2.1, fun hp => by
    obtain ⟨b, o, e, hl, hb, hr⟩ := h.2.2.2 hp
    exact ⟨b, o, e, hl, hb, BdAt.keep hk ns f b o hl hb hr⟩⟩
theorem BdS.below {ns : List Int} {f : Fr} {A : Option Addr} {cap B : Nat} (h : BdS w lo hi ns f A cap) (hb : Below B w w') (hB : hi ≤ B) : BdS w' lo hi ns f A cap := h.keep fun p _ hp => hb.cell (by omega)
theorem BdS.more {ns : List Int} {f : Fr} {A : Option Addr} {cap : Nat} (h : BdS w lo hi ns f A cap) (hL : lo' ≤ lo) (hH : hi ≤ hi') : BdS w lo' hi' ns f A cap :=
  ⟨h.1, h.2.1, h.2.2.1, fun hp => by
    obtain ⟨b, o, e, hl, hb, hr⟩ := h.2.2.2 hp
    exact ⟨b, o, e, by omega, by omega, hr.more hL hH⟩⟩
/-- Binding i. -/
theorem BdAt.elem : ∀ (i : Nat) (ns : List Int) (f : Fr) (b o : Nat) {k n : Int} {s : ByteArray} {kids rest : Fr}, BdAt w lo hi ns f b o → f.drop i = .cons k n s kids rest →
    InI (ns.getD i 0) ∧ Fits k n s ∧ ∃ (A : Option Addr) (cap : Nat), w.cell? ⟨b, o + i * 5, none⟩ = some (.int .i64 (ns.getD i 0)) ∧ w.cell? ⟨b, o + i * 5 + 1, none⟩ = some (.int .i64 k) ∧ w.cell? ⟨b, o + i * 5 + 2, none⟩ = some (.int .i64 n) ∧ w.cell? ⟨b, o + i * 5 + 3, none⟩ = some (.string s) ∧ w.cell? ⟨b, o + i * 5 + 4, none⟩ = some (.slice A kids.len cap) ∧ KidsAt w lo hi kids A cap
  | _, [], .nil, _, _, _, _, _, _, _, _, hd => by rename_i i _ _ _ _ _ _ _ _; cases i <;> cases hd
  | 0, n0 :: ns, .cons k n s kids rest, b, o, _, _, _, _, _, h, hd => by
    obtain ⟨h0, hf, ⟨A, cap, ⟨c0, c1, c2, c3, c4⟩, hkid⟩, hr⟩ := h
    injection hd with e1 e2 e3 e4 e5
    subst e1 e2 e3 e4
    exact ⟨h0, hf, A, cap, c0, c1, c2, c3, c4, hkid⟩
  | i + 1, n0 :: ns, .cons k n s kids rest, b, o, _, _, _, _, _, h, hd => by
    obtain ⟨_, _, _, hr⟩ := h
    have h1 := BdAt.elem i ns rest b (o + 5) hr hd
    rw [show o + 5 + i * 5 = o + (i + 1) * 5 by omega] at h1
    exact h1
  | _, [], .cons _ _ _ _ _, _, _, _, _, _, _, _, h, _ => h.elim
  | _, _ :: _, .nil, _, _, _, _, _, _, _, h, _ => h.elim
end

/-- Rows of bindings that a call made: the terms' rows lie in just the blocks L. -/
def OwnB (w : World) : List Int → Fr → Nat → Nat → List Nat → Prop
  | [], .nil, _, _, L => L = []
  | n0 :: ns, .cons k n s kids rest, b, o, L => ∃ (A : Option Addr) (cap : Nat) (L1 L2 : List Nat), L = L1 ++ L2 ∧ InI n0 ∧ Fits k n s ∧
      (w.cell? ⟨b, o, none⟩ = some (.int .i64 n0) ∧ w.cell? ⟨b, o + 1, none⟩ = some (.int .i64 k) ∧ w.cell? ⟨b, o + 2, none⟩ = some (.int .i64 n) ∧ w.cell? ⟨b, o + 3, none⟩ = some (.string s) ∧ w.cell? ⟨b, o + 4, none⟩ = some (.slice A kids.len cap)) ∧
      OwnS w kids A cap L1 ∧ OwnB w ns rest b (o + 5) L2
  | _, _, _, _, _ => False
section
variable {w w' : World}
theorem OwnB.keep : ∀ (ns : List Int) (f : Fr) (b o : Nat) (L : List Nat), OwnB w ns f b o L → (∀ j, j < f.len * 5 → w'.cell? ⟨b, o + j, none⟩ = w.cell? ⟨b, o + j, none⟩) → (∀ x ∈ L, w'.heap[x]? = w.heap[x]?) → OwnB w' ns f b o L
  | [], .nil, _, _, _, h, _, _ => h
  | n0 :: ns, .cons k n s kids rest, b, o, L, h, hc, hL => by
    obtain ⟨A, cap, L1, L2, rfl, h0, hf, ⟨c0, c1, c2, c3, c4⟩, ho, hr⟩ := h
    simp only [Fr.len] at hc
    refine ⟨A, cap, L1, L2, rfl, h0, hf, ⟨(hc 0 (by omega)).trans c0, (hc 1 (by omega)).trans c1, (hc 2 (by omega)).trans c2, (hc 3 (by omega)).trans c3, (hc 4 (by omega)).trans c4⟩, ho.keep fun x hx => hL x (by simp [hx]), OwnB.keep ns rest b (o + 5) L2 hr (fun j hj => ?_) fun x hx => hL x (by simp [hx])⟩
    have := hc (5 + j) (by omega)
    rwa [← Nat.add_assoc] at this
  | [], .cons _ _ _ _ _, _, _, _, h, _, _ => h.elim
  | _ :: _, .nil, _, _, _, h, _, _ => h.elim
theorem OwnB.snoc {n1 k n : Int} {s : ByteArray} {kids : Fr} {A : Option Addr} {cap : Nat} {L' : List Nat} (h1 : InI n1) (hf : Fits k n s) (hs : OwnS w kids A cap L') : ∀ (ns : List Int) (f : Fr) (b o : Nat) (L : List Nat), OwnB w ns f b o L →
    w.cell? ⟨b, o + f.len * 5, none⟩ = some (.int .i64 n1) → w.cell? ⟨b, o + f.len * 5 + 1, none⟩ = some (.int .i64 k) → w.cell? ⟨b, o + f.len * 5 + 2, none⟩ = some (.int .i64 n) → w.cell? ⟨b, o + f.len * 5 + 3, none⟩ = some (.string s) → w.cell? ⟨b, o + f.len * 5 + 4, none⟩ = some (.slice A kids.len cap) →
    OwnB w (ns ++ [n1]) (f.app (.cons k n s kids .nil)) b o (L ++ L')
  | [], .nil, b, o, L, h, c0, c1, c2, c3, c4 => by
    have h' : L = [] := h
    subst h'
    exact ⟨A, cap, L', [], by simp, h1, hf, ⟨c0, c1, c2, c3, c4⟩, hs, rfl⟩
  | n0 :: ns, .cons k' n' s' kids' rest', b, o, L, h, c0, c1, c2, c3, c4 => by
    obtain ⟨A', cap', L1, L2, rfl, h0', hf', hc', ho', hr⟩ := h
    have e : o + (Fr.cons k' n' s' kids' rest').len * 5 = o + 5 + rest'.len * 5 := by simp only [Fr.len]; omega
    rw [e] at c0 c1 c2 c3 c4
    exact ⟨A', cap', L1, L2 ++ L', by simp, h0', hf', hc', ho', OwnB.snoc h1 hf hs ns rest' b (o + 5) L2 hr c0 c1 c2 c3 c4⟩
  | [], .cons _ _ _ _ _, _, _, _, h, _, _, _, _, _ => h.elim
  | _ :: _, .nil, _, _, _, h, _, _, _, _, _ => h.elim
theorem OwnB.row {lo hi : Nat} : ∀ (ns : List Int) (f : Fr) (b o : Nat) (L : List Nat), OwnB w ns f b o L → (∀ x ∈ L, lo ≤ x ∧ x < hi) → BdAt w lo hi ns f b o
  | [], .nil, _, _, _, _, _ => trivial
  | n0 :: ns, .cons k n s kids rest, b, o, L, h, hL => by
    obtain ⟨A, cap, L1, L2, rfl, h0, hf, hc, ho, hr⟩ := h
    exact ⟨h0, hf, ⟨A, cap, hc, ho.kids fun x hx => hL x (by simp [hx])⟩, OwnB.row ns rest b (o + 5) L2 hr fun x hx => hL x (by simp [hx])⟩
  | [], .cons _ _ _ _ _, _, _, _, h, _ => h.elim
  | _ :: _, .nil, _, _, _, h, _ => h.elim
theorem OwnB.lt : ∀ (ns : List Int) (f : Fr) (b o : Nat) (L : List Nat), OwnB w ns f b o L → ∀ x ∈ L, x < w.heap.size
  | [], .nil, _, _, L, h, x, hx => by
    have h' : L = [] := h
    subst h'
    cases hx
  | n0 :: ns, .cons k n s kids rest, b, o, L, h, x, hx => by
    obtain ⟨A, cap, L1, L2, rfl, h0, hf, hc, ho, hr⟩ := h
    rcases List.mem_append.1 hx with h | h
    · exact ho.lt x h
    · exact OwnB.lt ns rest b (o + 5) L2 hr x h
  | [], .cons _ _ _ _ _, _, _, _, h, _, _ => h.elim
  | _ :: _, .nil, _, _, _, h, _, _ => h.elim
end
/-- The slice value owns the rows, in the blocks L. -/
def OwnBS (w : World) (ns : List Int) (f : Fr) (A : Option Addr) (cap : Nat) (L : List Nat) : Prop :=
  ns.length = f.len ∧ f.len ≤ cap ∧ cap ≤ maxLen ∧ ∃ b L' cs, A = some ⟨b, 0, none⟩ ∧ L = b :: L' ∧ Blk w b 42 cs ∧ cs.size = cap * 5 ∧ OwnB w ns f b 0 L'
theorem OwnBS.keep {w w' : World} {ns : List Int} {f : Fr} {A : Option Addr} {cap : Nat} {L : List Nat} (h : OwnBS w ns f A cap L) (hL : ∀ x ∈ L, w'.heap[x]? = w.heap[x]?) : OwnBS w' ns f A cap L := by
  obtain ⟨h1, h2, h3, b, L', cs, rfl, rfl, hb, hs, ho⟩ := h
  have hblk := hL b (by simp)
  exact ⟨h1, h2, h3, b, L', cs, rfl, rfl, hb.keep hblk, hs, OwnB.keep ns f b 0 L' ho (fun j _ => World.cell?_of_block (a := ⟨b, 0 + j, none⟩) hblk) fun x hx => hL x (by simp [hx])⟩
theorem OwnBS.below {w w' : World} {ns : List Int} {f : Fr} {A : Option Addr} {cap B : Nat} {L : List Nat} (h : OwnBS w ns f A cap L) (hb : Below B w w') (hL : ∀ x ∈ L, x < B) : OwnBS w' ns f A cap L := h.keep fun x hx => hb.block x (hL x hx)
theorem OwnBS.binds {w : World} {ns : List Int} {f : Fr} {A : Option Addr} {cap lo hi : Nat} {L : List Nat} (h : OwnBS w ns f A cap L) (hL : ∀ x ∈ L, lo ≤ x ∧ x < hi) : BdS w lo hi ns f A cap := by
  obtain ⟨h1, h2, h3, b, L', cs, rfl, rfl, hb, hs, ho⟩ := h
  exact ⟨h1, h2, h3, fun _ => ⟨b, 0, rfl, (hL b (by simp)).1, (hL b (by simp)).2, OwnB.row ns f b 0 L' ho fun x hx => hL x (by simp [hx])⟩⟩
theorem OwnBS.lt {w : World} {ns : List Int} {f : Fr} {A : Option Addr} {cap : Nat} {L : List Nat} (h : OwnBS w ns f A cap L) : ∀ x ∈ L, x < w.heap.size := by
  obtain ⟨h1, h2, h3, b, L', cs, rfl, rfl, hb, hs, ho⟩ := h
  intro x hx
  rcases List.mem_cons.1 hx with rfl | hx
  · exact hb.lt
  · exact OwnB.lt ns f b 0 L' ho x hx
/-- What a call leaves that made a row of bindings. -/
def MadeB (w : World) (ns : List Int) (f : Fr) (A : Option Addr) (cap : Nat) (w' : World) : Prop :=
  ∃ L, OwnBS w' ns f A cap L ∧ L.Nodup ∧ (∀ x ∈ L, w.heap.size ≤ x ∧ x < w'.heap.size) ∧ Below w.heap.size w w'
theorem binds_of_made {w w' : World} {ns : List Int} {f : Fr} {A : Option Addr} {cap : Nat} (h : MadeB w ns f A cap w') : BdS w' w.heap.size w'.heap.size ns f A cap ∧ Below w.heap.size w w' := by
  obtain ⟨L, ho, _, hL, hb⟩ := h
  exact ⟨ho.binds hL, hb⟩
end Go.Proofs.YtkgihpddjppmdaaDoor
