/- Terms of blocks of their own: their parts; impl.TermSame at them; laws.pgTerms. Condition: the rows are owned, apart. -/
import Derived.Test.YtplmkighekjipaaDoorProg
import Derived.Test.YtplmkighekjipaaDoorZmA47
import Derived.Deep.RegionHeld3
namespace Go.Proofs.YtplmkighekjipaaDoor
open Go.RowKit

theorem OwnAt.sub {w : World} {k n : Int} {s : ByteArray} {kids rest : Fr} : ∀ (f : Fr) (i b o : Nat) (L : List Nat), OwnAt w f b o L → f.drop i = .cons k n s kids rest →
    ∃ A cap L1, L1.Sublist L ∧ Fits k n s ∧ w.cell? ⟨b, o + i * 4, none⟩ = some (.int .i64 k) ∧ w.cell? ⟨b, o + i * 4 + 1, none⟩ = some (.int .i64 n) ∧ w.cell? ⟨b, o + i * 4 + 2, none⟩ = some (.string s) ∧ w.cell? ⟨b, o + i * 4 + 3, none⟩ = some (.slice A kids.len cap) ∧ OwnS w kids A cap L1
  | .nil, i, _, _, _, _, h => by cases i <;> cases h
  | .cons _ _ _ _ _, 0, b, o, L, ⟨A, cap, L1, L2, e, hf, hc, h1, h2, h3, _⟩, h => by
    injection h with g1 g2 g3 g4 g5
    subst g1 g2 g3 g4
    exact ⟨A, cap, L1, by rw [e]; exact List.sublist_append_left _ _, hf, by simpa using hc.1, by simpa using hc.2.1, by simpa using hc.2.2.1, by simpa using hc.2.2.2, h1, h2, h3⟩
  | .cons _ _ _ _ rest', i + 1, b, o, L, ⟨_, _, L1, L2, e, _, _, _, _, _, hr⟩, h => by
    obtain ⟨A, cap, L3, hs, hf, c0, c1, c2, c3, ho⟩ := OwnAt.sub rest' i b (o + 4) L2 hr h
    rw [show o + 4 + i * 4 = o + (i + 1) * 4 by omega] at c0 c1 c2 c3
    exact ⟨A, cap, L3, by rw [e]; exact hs.trans (List.sublist_append_right _ _), hf, c0, c1, c2, c3, ho⟩
theorem OwnS.sub {w : World} {f : Fr} {A : Option Addr} {cap : Nat} {L : List Nat} {i : Nat} {k n : Int} {s : ByteArray} {kids rest : Fr} (h : OwnS w f A cap L) (hd : f.drop i = .cons k n s kids rest) (hi : i < f.len) :
    ∃ b A2 c2 L1, A = some ⟨b, 0, none⟩ ∧ b < w.heap.size ∧ L1.Sublist L ∧ Fits k n s ∧ w.cell? ⟨b, i * 4, none⟩ = some (.int .i64 k) ∧ w.cell? ⟨b, i * 4 + 1, none⟩ = some (.int .i64 n) ∧ w.cell? ⟨b, i * 4 + 2, none⟩ = some (.string s) ∧ w.cell? ⟨b, i * 4 + 3, none⟩ = some (.slice A2 kids.len c2) ∧ OwnS w kids A2 c2 L1 := by
  obtain ⟨_, _, ⟨h0, _⟩ | ⟨b, L', cs, rfl, rfl, hb, _, ho⟩⟩ := h
  · omega
  · obtain ⟨A2, c2, L1, hs, hf, c0, c1, c2', c3, ho'⟩ := OwnAt.sub f i b 0 L' ho hd
    rw [Nat.zero_add] at c0 c1 c2' c3
    exact ⟨b, A2, c2, L1, rfl, hb.lt, hs.trans (List.sublist_cons_self _ _), hf, c0, c1, c2', c3, ho'⟩
/-- The slice value from cell o of its block on owns the row f, in the blocks L. -/
def OwnT (w : World) (f : Fr) (A : Option Addr) (cap : Nat) (L : List Nat) : Prop :=
  f.len ≤ cap ∧ cap ≤ maxLen ∧ ((f.len = 0 ∧ L = []) ∨ ∃ b o L' cs, A = some ⟨b, o, none⟩ ∧ L = b :: L' ∧ Blk w b 28 cs ∧ OwnAt w f b o L')
theorem OwnS.t {w : World} {f : Fr} {A : Option Addr} {cap : Nat} {L : List Nat} (h : OwnS w f A cap L) : OwnT w f A cap L := by
  obtain ⟨h1, h2, h3 | ⟨b, L', cs, rfl, rfl, hb, _, ho⟩⟩ := h
  · exact ⟨h1, h2, .inl h3⟩
  · exact ⟨h1, h2, .inr ⟨b, 0, L', cs, rfl, rfl, hb, ho⟩⟩
theorem OwnT.below {w w' : World} {f : Fr} {A : Option Addr} {cap : Nat} {L : List Nat} (h : OwnT w f A cap L) (hb : Below w.heap.size w w') : OwnT w' f A cap L := by
  obtain ⟨h1, h2, h3 | ⟨b, o, L', cs, rfl, rfl, hq, ho⟩⟩ := h
  · exact ⟨h1, h2, .inl h3⟩
  · have hl := hq.lt
    exact ⟨h1, h2, .inr ⟨b, o, L', cs, rfl, rfl, hq.below hb hl, OwnAt.keep f b o L' ho (fun j _ => hb.cell (p := ⟨b, o + j, none⟩) hl) fun x hx => hb.block x (OwnAt.lt f b o L' ho x hx)⟩⟩
theorem OwnT.sub {w : World} {f : Fr} {A : Option Addr} {cap : Nat} {L : List Nat} {i : Nat} {k n : Int} {s : ByteArray} {kids rest : Fr} (h : OwnT w f A cap L) (hd : f.drop i = .cons k n s kids rest) (hi : i < f.len) :
    ∃ b o A2 c2 L1, A = some ⟨b, o, none⟩ ∧ b < w.heap.size ∧ L1.Sublist L ∧ Fits k n s ∧ w.cell? ⟨b, o + i * 4, none⟩ = some (.int .i64 k) ∧ w.cell? ⟨b, o + i * 4 + 1, none⟩ = some (.int .i64 n) ∧ w.cell? ⟨b, o + i * 4 + 2, none⟩ = some (.string s) ∧ w.cell? ⟨b, o + i * 4 + 3, none⟩ = some (.slice A2 kids.len c2) ∧ OwnS w kids A2 c2 L1 := by
  obtain ⟨_, _, ⟨h0, _⟩ | ⟨b, o, L', cs, rfl, rfl, hb, ho⟩⟩ := h
  · omega
  · obtain ⟨A2, c2, L1, hs, hf, c0, c1, c2', c3, ho'⟩ := OwnAt.sub f i b o L' ho hd
    exact ⟨b, o, A2, c2, L1, rfl, hb.lt, hs.trans (List.sublist_cons_self _ _), hf, c0, c1, c2', c3, ho'⟩
/-- Behind the row's first term. -/
theorem OwnS.behind {w : World} {k n : Int} {s : ByteArray} {f g : Fr} {A : Option Addr} {cap : Nat} {L : List Nat} (h : OwnS w (.cons k n s f g) A cap L) (hn : L.Nodup) :
    ∃ b Af capf L1 L2, A = some ⟨b, 0, none⟩ ∧ g.len + 1 ≤ cap ∧ cap ≤ maxLen ∧ (w.cell? ⟨b, 0, none⟩ = some (.int .i64 k) ∧ w.cell? ⟨b, 1, none⟩ = some (.int .i64 n) ∧ w.cell? ⟨b, 2, none⟩ = some (.string s) ∧ w.cell? ⟨b, 3, none⟩ = some (.slice Af f.len capf)) ∧ b < w.heap.size ∧
      OwnS w f Af capf L1 ∧ OwnT w g (some ⟨b, 4, none⟩) (cap - 1) L2 ∧ L1.Nodup ∧ L2.Nodup ∧ (∀ x ∈ L1, x ∈ L) ∧ (∀ x ∈ L2, x ∈ L) := by
  obtain ⟨h1, h2, ⟨h3, _⟩ | ⟨b, L', cs, rfl, rfl, hb, hs, ho⟩⟩ := h
  · simp [Fr.len] at h3
  · obtain ⟨Af, capf, L1, L2, rfl, hfit, hc, a1, a2, a3, hr⟩ := ho
    have hl : g.len + 1 ≤ cap := h1
    obtain ⟨hb0, hn'⟩ := List.nodup_cons.1 hn
    obtain ⟨n1, n2, n12⟩ := List.nodup_append.1 hn'
    exact ⟨b, Af, capf, L1, b :: L2, rfl, hl, h2, by simpa using hc, hb.lt, ⟨a1, a2, a3⟩, ⟨by omega, by omega, .inr ⟨b, 4, L2, cs, rfl, rfl, hb, by simpa using hr⟩⟩, n1, List.nodup_cons.2 ⟨fun h => hb0 (by simp [h]), n2⟩, fun x hx => by simp [hx], fun x hx => by
      rcases List.mem_cons.1 hx with rfl | hx
      · simp
      · simp [hx]⟩
/-- impl.TermSame and spec.TermSame at terms of blocks of their own. -/
theorem tsame_own (k n : Int) (s : ByteArray) (f : Fr) (A : Option Addr) (cap : Nat) (k' n' : Int) (s' : ByteArray) (g : Fr) (B : Option Addr) (cap' : Nat) (L M : List Nat) (w : World) (ho : OwnS w f A cap L) (ho' : OwnS w g B cap' M) (hn : (L ++ M).Nodup) (hM : nodes f ≤ 1048576) :
    Calls Tryd.prog 15 #[.agg #[.int .i64 k, .int .i64 n, .string s, .slice A f.len cap], .agg #[.int .i64 k', .int .i64 n', .string s', .slice B g.len cap']] w fun e w' => e = .returned (.bool (eqT k n s f k' n' s' g)) ∧ Below w.heap.size w w' :=
  same_any ⟨k, n, s, f, A, cap, L, k', n', s', g, B, cap', M⟩ w ⟨ho, ho'⟩ hn (fun y hy => by
    rcases List.mem_append.1 hy with h | h
    · exact ho.lt y h
    · exact ho'.lt y h) (by show nodes f ≤ _; omega)
theorem nodes_dropc (i : Nat) : ∀ (f : Fr) {k n : Int} {s : ByteArray} {kids rest : Fr}, f.drop i = .cons k n s kids rest → nodes kids ≤ nodes f := by
  induction i with
  | zero => intro f k n s kids rest h; cases f with
    | nil => cases h
    | cons _ _ _ _ _ => injection h with _ _ _ h4 _; subst h4; simp only [nodes]; omega
  | succ i ih => intro f k n s kids rest h; cases f with
    | nil => cases h
    | cons _ _ _ _ r => have := ih r h; simp only [nodes]; omega
end Go.Proofs.YtplmkighekjipaaDoor
