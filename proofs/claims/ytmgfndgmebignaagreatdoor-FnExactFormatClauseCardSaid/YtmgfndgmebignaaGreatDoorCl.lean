/- Rows of clauses (a head and a row of goals each): where they lie, and what a call owns. No condition. -/
import Derived.Test.YtmgfndgmebignaaGreatDoorProg
import Derived.Test.YtmgfndgmebignaaGreatDoorTo
import Derived.Test.YtmgfndgmebignaaGreatDoorTb
namespace Go.Proofs.YtmgfndgmebignaaGreatDoor
open Go.RowKit

/-- A clause: its head's fields, and its body. -/
structure Cl where
  k : Int
  n : Int
  s : ByteArray
  kids : Fr
  body : Fr
/-- Head and body as one row of terms. -/
def Cl.row (c : Cl) : Fr := .cons c.k c.n c.s c.kids c.body
/-- Clauses in the memory: five cells each, from cell o of block b on; what they lead to lies in blocks from lo to below hi. -/
def ClAt (w : World) (lo hi : Nat) : List Cl → Nat → Nat → Prop
  | [], _, _ => True
  | c :: cs, b, o => Fits c.k c.n c.s ∧ (∃ (A : Option Addr) (cap : Nat) (B : Option Addr) (capB : Nat),
      (w.cell? ⟨b, o, none⟩ = some (.int .i64 c.k) ∧ w.cell? ⟨b, o + 1, none⟩ = some (.int .i64 c.n) ∧ w.cell? ⟨b, o + 2, none⟩ = some (.string c.s) ∧ w.cell? ⟨b, o + 3, none⟩ = some (.slice A c.kids.len cap) ∧ w.cell? ⟨b, o + 4, none⟩ = some (.slice B c.body.len capB)) ∧
      KidsAt w lo hi c.kids A cap ∧ KidsAt w lo hi c.body B capB) ∧ ClAt w lo hi cs b (o + 5)
def ClS (w : World) (lo hi : Nat) (cs : List Cl) (A : Option Addr) (cap : Nat) : Prop :=
  cs.length ≤ cap ∧ cap ≤ maxLen ∧ (0 < cs.length → ∃ b o, A = some ⟨b, o, none⟩ ∧ lo ≤ b ∧ b < hi ∧ ClAt w lo hi cs b o)
section
variable {w w' : World} {lo hi lo' hi' : Nat}
theorem ClAt.keep (hk : ∀ p : Addr, lo ≤ p.block → p.block < hi → w'.cell? p = w.cell? p) : ∀ (cs : List Cl) (b o : Nat), lo ≤ b → b < hi → ClAt w lo hi cs b o → ClAt w' lo hi cs b o
  | [], _, _, _, _, _ => trivial
  | c :: cs, b, o, hl, hb, h => by
    obtain ⟨hf, ⟨A, cap, B, capB, ⟨c0, c1, c2, c3, c4⟩, hkid, hbd⟩, hr⟩ := h
    exact ⟨hf, ⟨A, cap, B, capB, ⟨(hk _ hl hb).trans c0, (hk _ hl hb).trans c1, (hk _ hl hb).trans c2, (hk _ hl hb).trans c3, (hk _ hl hb).trans c4⟩, hkid.keep hk, hbd.keep hk⟩, ClAt.keep hk cs b (o + 5) hl hb hr⟩
theorem ClAt.more (hL : lo' ≤ lo) (hH : hi ≤ hi') : ∀ (cs : List Cl) (b o : Nat), ClAt w lo hi cs b o → ClAt w lo' hi' cs b o
  | [], _, _, _ => trivial
  | c :: cs, b, o, h => by
    obtain ⟨hf, ⟨A, cap, B, capB, hc, hkid, hbd⟩, hr⟩ := h
    exact ⟨hf, ⟨A, cap, B, capB, hc, hkid.more hL hH, hbd.more hL hH⟩, ClAt.more hL hH cs b (o + 5) hr⟩
theorem ClS.keep {cs : List Cl} {A : Option Addr} {cap : Nat} (h : ClS w lo hi cs A cap) (hk : ∀ p : Addr, lo ≤ p.block → p.block < hi → w'.cell? p = w.cell? p) : ClS w' lo hi cs A cap :=
  ⟨h.1, h.2.1, fun hp => by
    obtain ⟨b, o, e, hl, hb, hr⟩ := h.2.2 hp
    exact ⟨b, o, e, hl, hb, ClAt.keep hk cs b o hl hb hr⟩⟩
theorem ClS.below {cs : List Cl} {A : Option Addr} {cap B : Nat} (h : ClS w lo hi cs A cap) (hb : Below B w w') (hB : hi ≤ B) : ClS w' lo hi cs A cap := h.keep fun p _ hp => hb.cell (by omega)
theorem ClS.more {cs : List Cl} {A : Option Addr} {cap : Nat} (h : ClS w lo hi cs A cap) (hL : lo' ≤ lo) (hH : hi ≤ hi') : ClS w lo' hi' cs A cap :=
  ⟨h.1, h.2.1, fun hp => by
    obtain ⟨b, o, e, hl, hb, hr⟩ := h.2.2 hp
    exact ⟨b, o, e, by omega, by omega, hr.more hL hH⟩⟩
/-- What lies at clause i. -/
def ClElem (w : World) (lo hi : Nat) (c : Cl) (b o : Nat) : Prop :=
  Fits c.k c.n c.s ∧ ∃ (A : Option Addr) (cap : Nat) (B : Option Addr) (capB : Nat), w.cell? ⟨b, o, none⟩ = some (.int .i64 c.k) ∧ w.cell? ⟨b, o + 1, none⟩ = some (.int .i64 c.n) ∧ w.cell? ⟨b, o + 2, none⟩ = some (.string c.s) ∧ w.cell? ⟨b, o + 3, none⟩ = some (.slice A c.kids.len cap) ∧ w.cell? ⟨b, o + 4, none⟩ = some (.slice B c.body.len capB) ∧ KidsAt w lo hi c.kids A cap ∧ KidsAt w lo hi c.body B capB
theorem ClAt.elem : ∀ (i : Nat) (cs : List Cl) (b o : Nat) {c : Cl} {rest : List Cl}, ClAt w lo hi cs b o → cs.drop i = c :: rest → ClElem w lo hi c b (o + i * 5)
  | _, [], _, _, _, _, _, hd => by simp at hd
  | 0, c0 :: cs, b, o, _, _, h, hd => by
    obtain ⟨hf, ⟨A, cap, B, capB, ⟨c0, c1, c2, c3, c4⟩, hkid, hbd⟩, hr⟩ := h
    injection hd with e1 e2
    subst e1
    rw [Nat.zero_mul, Nat.add_zero]
    exact ⟨hf, A, cap, B, capB, c0, c1, c2, c3, c4, hkid, hbd⟩
  | i + 1, c0 :: cs, b, o, _, _, h, hd => by
    have h1 := ClAt.elem i cs b (o + 5) h.2.2 hd
    rw [show o + 5 + i * 5 = o + (i + 1) * 5 by omega] at h1
    exact h1
end

/-- Clauses that a call made: the rows of their terms lie in just the blocks L. -/
def OwnC (w : World) : List Cl → Nat → Nat → List Nat → Prop
  | [], _, _, L => L = []
  | c :: cs, b, o, L => ∃ (A : Option Addr) (cap : Nat) (B : Option Addr) (capB : Nat) (L1 L2 L3 : List Nat), L = L1 ++ (L2 ++ L3) ∧ Fits c.k c.n c.s ∧
      (w.cell? ⟨b, o, none⟩ = some (.int .i64 c.k) ∧ w.cell? ⟨b, o + 1, none⟩ = some (.int .i64 c.n) ∧ w.cell? ⟨b, o + 2, none⟩ = some (.string c.s) ∧ w.cell? ⟨b, o + 3, none⟩ = some (.slice A c.kids.len cap) ∧ w.cell? ⟨b, o + 4, none⟩ = some (.slice B c.body.len capB)) ∧
      OwnS w c.kids A cap L1 ∧ OwnS w c.body B capB L2 ∧ OwnC w cs b (o + 5) L3
section
variable {w w' : World}
theorem OwnC.keep : ∀ (cs : List Cl) (b o : Nat) (L : List Nat), OwnC w cs b o L → (∀ j, j < cs.length * 5 → w'.cell? ⟨b, o + j, none⟩ = w.cell? ⟨b, o + j, none⟩) → (∀ x ∈ L, w'.heap[x]? = w.heap[x]?) → OwnC w' cs b o L
  | [], _, _, _, h, _, _ => h
  | c :: cs, b, o, L, h, hc, hL => by
    obtain ⟨A, cap, B, capB, L1, L2, L3, rfl, hf, ⟨c0, c1, c2, c3, c4⟩, ho, hob, hr⟩ := h
    simp only [List.length_cons] at hc
    refine ⟨A, cap, B, capB, L1, L2, L3, rfl, hf, ⟨(hc 0 (by omega)).trans c0, (hc 1 (by omega)).trans c1, (hc 2 (by omega)).trans c2, (hc 3 (by omega)).trans c3, (hc 4 (by omega)).trans c4⟩, ho.keep fun x hx => hL x (by simp [hx]), hob.keep fun x hx => hL x (by simp [hx]), OwnC.keep cs b (o + 5) L3 hr (fun j hj => ?_) fun x hx => hL x (by simp [hx])⟩
    have := hc (5 + j) (by omega)
    rwa [← Nat.add_assoc] at this
theorem OwnC.snoc {c : Cl} {A B : Option Addr} {cap capB : Nat} {L1' L2' : List Nat} (hf : Fits c.k c.n c.s) (hs : OwnS w c.kids A cap L1') (hsb : OwnS w c.body B capB L2') : ∀ (cs : List Cl) (b o : Nat) (L : List Nat), OwnC w cs b o L →
    w.cell? ⟨b, o + cs.length * 5, none⟩ = some (.int .i64 c.k) → w.cell? ⟨b, o + cs.length * 5 + 1, none⟩ = some (.int .i64 c.n) → w.cell? ⟨b, o + cs.length * 5 + 2, none⟩ = some (.string c.s) → w.cell? ⟨b, o + cs.length * 5 + 3, none⟩ = some (.slice A c.kids.len cap) → w.cell? ⟨b, o + cs.length * 5 + 4, none⟩ = some (.slice B c.body.len capB) →
    OwnC w (cs ++ [c]) b o (L ++ (L1' ++ L2'))
  | [], b, o, L, h, c0, c1, c2, c3, c4 => by
    have h' : L = [] := h
    subst h'
    exact ⟨A, cap, B, capB, L1', L2', [], by simp, hf, ⟨c0, c1, c2, c3, c4⟩, hs, hsb, rfl⟩
  | c' :: cs, b, o, L, h, c0, c1, c2, c3, c4 => by
    obtain ⟨A', cap', B', capB', L1, L2, L3, rfl, hf', hc', ho', hob', hr⟩ := h
    have e : o + (c' :: cs).length * 5 = o + 5 + cs.length * 5 := by simp only [List.length_cons]; omega
    rw [e] at c0 c1 c2 c3 c4
    exact ⟨A', cap', B', capB', L1, L2, L3 ++ (L1' ++ L2'), by simp, hf', hc', ho', hob', OwnC.snoc hf hs hsb cs b (o + 5) L3 hr c0 c1 c2 c3 c4⟩
theorem OwnC.row {lo hi : Nat} : ∀ (cs : List Cl) (b o : Nat) (L : List Nat), OwnC w cs b o L → (∀ x ∈ L, lo ≤ x ∧ x < hi) → ClAt w lo hi cs b o
  | [], _, _, _, _, _ => trivial
  | c :: cs, b, o, L, h, hL => by
    obtain ⟨A, cap, B, capB, L1, L2, L3, rfl, hf, hc, ho, hob, hr⟩ := h
    exact ⟨hf, ⟨A, cap, B, capB, hc, ho.kids fun x hx => hL x (by simp [hx]), hob.kids fun x hx => hL x (by simp [hx])⟩, OwnC.row cs b (o + 5) L3 hr fun x hx => hL x (by simp [hx])⟩
theorem OwnC.lt : ∀ (cs : List Cl) (b o : Nat) (L : List Nat), OwnC w cs b o L → ∀ x ∈ L, x < w.heap.size
  | [], _, _, L, h, x, hx => by
    have h' : L = [] := h
    subst h'
    cases hx
  | c :: cs, b, o, L, h, x, hx => by
    obtain ⟨A, cap, B, capB, L1, L2, L3, rfl, hf, hc, ho, hob, hr⟩ := h
    rcases List.mem_append.1 hx with h | h
    · exact ho.lt x h
    · rcases List.mem_append.1 h with h | h
      · exact hob.lt x h
      · exact OwnC.lt cs b (o + 5) L3 hr x h
end
/-- The slice value owns the clauses, in the blocks L. -/
def OwnCS (w : World) (cs : List Cl) (A : Option Addr) (cap : Nat) (L : List Nat) : Prop :=
  cs.length ≤ cap ∧ cap ≤ maxLen ∧ ∃ b L' xs, A = some ⟨b, 0, none⟩ ∧ L = b :: L' ∧ Blk w b 33 xs ∧ xs.size = cap * 5 ∧ OwnC w cs b 0 L'
theorem OwnCS.keep {w w' : World} {cs : List Cl} {A : Option Addr} {cap : Nat} {L : List Nat} (h : OwnCS w cs A cap L) (hL : ∀ x ∈ L, w'.heap[x]? = w.heap[x]?) : OwnCS w' cs A cap L := by
  obtain ⟨h2, h3, b, L', xs, rfl, rfl, hb, hs, ho⟩ := h
  have hblk := hL b (by simp)
  exact ⟨h2, h3, b, L', xs, rfl, rfl, hb.keep hblk, hs, OwnC.keep cs b 0 L' ho (fun j _ => World.cell?_of_block (a := ⟨b, 0 + j, none⟩) hblk) fun x hx => hL x (by simp [hx])⟩
theorem OwnCS.below {w w' : World} {cs : List Cl} {A : Option Addr} {cap B : Nat} {L : List Nat} (h : OwnCS w cs A cap L) (hb : Below B w w') (hL : ∀ x ∈ L, x < B) : OwnCS w' cs A cap L := h.keep fun x hx => hb.block x (hL x hx)
theorem OwnCS.clauses {w : World} {cs : List Cl} {A : Option Addr} {cap lo hi : Nat} {L : List Nat} (h : OwnCS w cs A cap L) (hL : ∀ x ∈ L, lo ≤ x ∧ x < hi) : ClS w lo hi cs A cap := by
  obtain ⟨h2, h3, b, L', xs, rfl, rfl, hb, hs, ho⟩ := h
  exact ⟨h2, h3, fun _ => ⟨b, 0, rfl, (hL b (by simp)).1, (hL b (by simp)).2, OwnC.row cs b 0 L' ho fun x hx => hL x (by simp [hx])⟩⟩
theorem OwnCS.lt {w : World} {cs : List Cl} {A : Option Addr} {cap : Nat} {L : List Nat} (h : OwnCS w cs A cap L) : ∀ x ∈ L, x < w.heap.size := by
  obtain ⟨h2, h3, b, L', xs, rfl, rfl, hb, hs, ho⟩ := h
  intro x hx
  rcases List.mem_cons.1 hx with rfl | hx
  · exact hb.lt
  · exact OwnC.lt cs b 0 L' ho x hx
/-- What a call leaves that made a row of clauses. -/
def MadeC (w : World) (cs : List Cl) (A : Option Addr) (cap : Nat) (w' : World) : Prop :=
  ∃ L, OwnCS w' cs A cap L ∧ L.Nodup ∧ (∀ x ∈ L, w.heap.size ≤ x ∧ x < w'.heap.size) ∧ Below w.heap.size w w'
theorem clauses_of_made {w w' : World} {cs : List Cl} {A : Option Addr} {cap : Nat} (h : MadeC w cs A cap w') : ClS w' w.heap.size w'.heap.size cs A cap ∧ Below w.heap.size w w' := by
  obtain ⟨L, ho, _, hL, hb⟩ := h
  exact ⟨ho.clauses hL, hb⟩
/-- What a call leaves that made one clause. -/
def MadeCl (w : World) (c : Cl) (A : Option Addr) (cap : Nat) (B : Option Addr) (capB : Nat) (w' : World) : Prop :=
  ∃ L1 L2, OwnS w' c.kids A cap L1 ∧ OwnS w' c.body B capB L2 ∧ (L1 ++ L2).Nodup ∧ (∀ x ∈ L1 ++ L2, w.heap.size ≤ x ∧ x < w'.heap.size) ∧ Below w.heap.size w w'
theorem MadeCl.at_ {w w' : World} {c : Cl} {A B : Option Addr} {cap capB : Nat} (h : MadeCl w c A cap B capB w') : KidsAt w' w.heap.size w'.heap.size c.kids A cap ∧ KidsAt w' w.heap.size w'.heap.size c.body B capB ∧ Below w.heap.size w w' := by
  obtain ⟨L1, L2, h1, h2, _, hL, hb⟩ := h
  exact ⟨h1.kids fun x hx => hL x (by simp [hx]), h2.kids fun x hx => hL x (by simp [hx]), hb⟩
end Go.Proofs.YtmgfndgmebignaaGreatDoor
