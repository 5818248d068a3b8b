/- What a call leaves that hands back a term and an answer. No condition. -/
import Derived.Test.YtihmgodiiohdnaaGreatDoorProg
import Derived.Test.YtihmgodiiohdnaaGreatDoorTo
import Derived.Test.YtihmgodiiohdnaaGreatDoorMk
import Derived.WalkKit
namespace Go.Proofs.YtihmgodiiohdnaaGreatDoor
open Go.RowKit

theorem cells4i {w : World} {g : Nat} {t : TypeId} {a b c d : Value} (h : Blk w g t #[a, b, c, d]) :
    w.cell? ⟨g, 0, none⟩ = some a ∧ w.cell? ⟨g, 1, none⟩ = some b ∧ w.cell? ⟨g, 2, none⟩ = some c ∧ w.cell? ⟨g, 3, none⟩ = some d := ⟨h.cell 0, h.cell 1, h.cell 2, h.cell 3⟩
theorem frozen4 {w : World} {g : Nat} {t : TypeId} {cs : Array Value} (h : Blk w g t cs) :
    w.frozen? ⟨g, 0, none⟩ = false ∧ w.frozen? ⟨g, 1, none⟩ = false ∧ w.frozen? ⟨g, 2, none⟩ = false ∧ w.frozen? ⟨g, 3, none⟩ = false := ⟨h.frozen 0, h.frozen 1, h.frozen 2, h.frozen 3⟩
theorem Made.up {w w1 w2 : World} {f : Fr} {A : Option Addr} {cap : Nat} (h : Made w1 f A cap w2) (hb : Below w.heap.size w w1) : Made w f A cap w2 := by
  obtain ⟨L, h1, h2, h3, h4⟩ := h
  exact ⟨L, h1, h2, fun x hx => ⟨Nat.le_trans hb.size (h3 x hx).1, (h3 x hx).2⟩, hb.trans (h4.mono hb.size)⟩
theorem made_below {w w2 : World} {f : Fr} {A : Option Addr} {cap : Nat} (h : Made w f A cap w2) : Below w.heap.size w w2 := by
  obtain ⟨L, _, _, _, h4⟩ := h
  exact h4
theorem results_cell_row2 {P : Program} {fn : Func} {p u : Tmp} {ty : TypeId} (h : fn.results = #[.cell p ty, .tmp u]) (tmps : Array Value) (w : World) (g : Nat) (t : TypeId) (cs : Array Value) (fr : Nat × Nat) (d : TypeDesc)
    (hp : tmps.getD p undef = .pointer (some ⟨g, 0, none⟩)) (hg : w.heap[g]? = some (.cells cs t fr))
    (hu : P.underlying ty = some d) (hd : (match d with | .struct _ | .array _ _ => true | _ => false) = true) (hi : (P.info? ty).map (·.size) = some cs.size) :
    (results fn tmps).run P w = .ok (.tuple #[.agg cs, tmps.getD u undef]) w := by
  have hp' : tmps[p]?.getD undef = .pointer (some ⟨g, 0, none⟩) := by simpa using hp
  simp [results, h, hp', asAddr, run_loadVar_row w g t ty cs fr d hg hu hd hi]
/-- Stores into a block that lies before the made row leave it. -/
theorem made_set4 {w w2 : World} {f : Fr} {A : Option Addr} {cap H B : Nat} (hm : ∃ L, OwnS w2 f A cap L ∧ L.Nodup ∧ (∀ x ∈ L, B ≤ x ∧ x < w2.heap.size)) (hb : Below w.heap.size w w2) (hH : w.heap.size ≤ H) (hB : H < B) (a b c d : Value) :
    Made w f A cap ((((w2.setCell ⟨H, 0, none⟩ a).setCell ⟨H, 1, none⟩ b).setCell ⟨H, 2, none⟩ c).setCell ⟨H, 3, none⟩ d) := by
  obtain ⟨L, ho, hn, hL⟩ := hm
  refine ⟨L, ho.keep fun x hx => ?_, hn, fun x hx => ⟨by have := (hL x hx).1; omega, by simpa [World.setCell] using (hL x hx).2⟩, (((hb.setCell hH _).setCell hH _).setCell hH _).setCell hH _⟩
  have := (hL x hx).1
  rw [heap_setCell_other _ _ _ _ (by show x ≠ H; omega), heap_setCell_other _ _ _ _ (by show x ≠ H; omega), heap_setCell_other _ _ _ _ (by show x ≠ H; omega), heap_setCell_other _ _ _ _ (by show x ≠ H; omega)]

/-- A node as plain data. -/
structure Nd where
  k : Int
  n : Int
  s : ByteArray
  f : Fr
/-- What is handed back for the node m: its term, or the zero term. -/
def vtB (m : Nd) : Bool := validT m.k m.n m.s m.f
def nd0 : Nd := ⟨0, 0, ⟨#[]⟩, .nil⟩
def vtF (m : Nd) : Nd := if vtB m = true then m else nd0
/-- A call has handed back the term m and the answer ok; the term lies in new blocks. -/
def TbRes (w : World) (m : Nd) (ok : Bool) (e : Ending) (w' : World) : Prop := ∃ A c, e = .returned (.tuple #[.agg #[.int .i64 m.k, .int .i64 m.n, .string m.s, .slice A m.f.len c], .bool ok]) ∧ Made w m.f A c w'
theorem tb_no {w w' : World} (h : Below w.heap.size w w') : TbRes w nd0 false (.returned (.tuple #[.agg #[.int .i64 0, .int .i64 0, .string ⟨#[]⟩, .slice none 0 0], .bool false])) w' := ⟨none, 0, rfl, made_nil h⟩
theorem below4 {w w2 : World} {H : Nat} (hb : Below w.heap.size w w2) (hH : w.heap.size ≤ H) (a b c d : Value) : Below w.heap.size w ((((w2.setCell ⟨H, 0, none⟩ a).setCell ⟨H, 1, none⟩ b).setCell ⟨H, 2, none⟩ c).setCell ⟨H, 3, none⟩ d) := (((hb.setCell hH _).setCell hH _).setCell hH _).setCell hH _
theorem set4 {w : World} {g : Nat} {t : TypeId} {x0 x1 x2 x3 : Value} (h : Blk w g t #[x0, x1, x2, x3]) (a b c d : Value) : Blk ((((w.setCell ⟨g, 0, none⟩ a).setCell ⟨g, 1, none⟩ b).setCell ⟨g, 2, none⟩ c).setCell ⟨g, 3, none⟩ d) g t #[a, b, c, d] := (((h.set_ 0 a).set_ 1 b).set_ 2 c).set_ 3 d
/-- The box H of the result is as it was made; nothing that was there is written. -/
def RC (w : World) (H : Nat) (wk : World) : Prop := Blk wk H 30 #[.int .i64 0, .int .i64 0, .string ⟨#[]⟩, .slice none 0 0] ∧ w.heap.size ≤ H ∧ Below w.heap.size w wk
theorem RC.below {w wk wl : World} {H : Nat} (h : RC w H wk) (hb : Below wk.heap.size wk wl) : RC w H wl := ⟨h.1.below hb h.1.lt, h.2.1, h.2.2.trans (hb.mono h.2.2.size)⟩
theorem RC.no {w wk : World} {H : Nat} (h : RC w H wk) (a b c e : Value) : TbRes w nd0 false (.returned (.tuple #[.agg #[.int .i64 0, .int .i64 0, .string ⟨#[]⟩, .slice none 0 0], .bool false])) ((((wk.setCell ⟨H, 0, none⟩ a).setCell ⟨H, 1, none⟩ b).setCell ⟨H, 2, none⟩ c).setCell ⟨H, 3, none⟩ e) := tb_no (below4 h.2.2 h.2.1 _ _ _ _)
theorem RC.yes {w w3 wk : World} {H : Nat} {k n : Int} {s : ByteArray} {f : Fr} {A : Option Addr} {cap : Nat} (h : RC w H w3) (hm : Made w3 f A cap wk) (x0 x1 x2 x3 : Value) (ok : Bool) : TbRes w ⟨k, n, s, f⟩ ok (.returned (.tuple #[.agg #[.int .i64 k, .int .i64 n, .string s, .slice A f.len cap], .bool ok])) ((((wk.setCell ⟨H, 0, none⟩ x0).setCell ⟨H, 1, none⟩ x1).setCell ⟨H, 2, none⟩ x2).setCell ⟨H, 3, none⟩ x3) := by
  have hl := h.1.lt
  have hb := made_below hm
  obtain ⟨L, h1, h2, h3, _⟩ := hm
  exact ⟨A, cap, rfl, made_set4 ⟨L, h1, h2, h3⟩ (h.below hb).2.2 h.2.1 hl _ _ _ _⟩
end Go.Proofs.YtihmgodiiohdnaaGreatDoor
