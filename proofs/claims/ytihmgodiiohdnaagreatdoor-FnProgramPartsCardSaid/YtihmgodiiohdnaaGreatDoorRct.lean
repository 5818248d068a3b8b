/- The model's reader: what each of its functions leaves, as contracts by fuel; spec.l2Fails. No condition. -/
import Derived.Test.YtihmgodiiohdnaaGreatDoorProg
import Derived.Test.YtihmgodiiohdnaaGreatDoorRpg
import Derived.Test.YtihmgodiiohdnaaGreatDoorSpecM
import Derived.Test.YtihmgodiiohdnaaGreatDoorTb
namespace Go.Proofs.YtihmgodiiohdnaaGreatDoor.rdr
open Go.RowKit

def zeroV : Value := .agg #[.int .i64 0, .int .i64 0, .string ⟨#[]⟩, .slice none 0 0]
def tmV (t : Tm) (A : Option Addr) (cap : Nat) : Value := .agg #[.int .i64 t.1, .int .i64 t.2.1, .string t.2.2.1, .slice A t.2.2.2.len cap]
/-- What a function leaves that reads a term: the term in memory and the offset behind it, or the zero term and a number below 0. -/
def RdR (w : World) (r : Option (Tm × Nat)) (e : Ending) (w' : World) : Prop :=
  Below w.heap.size w w' ∧ match r with
    | none => ∃ z : Int, (-2000 ≤ z ∧ z < 0) ∧ e = .returned (.tuple #[zeroV, .int .i64 z])
    | some (t, p) => ∃ A cap, e = .returned (.tuple #[tmV t A cap, .int .i64 p]) ∧ Fits t.1 t.2.1 t.2.2.1 ∧ KidsAt w' w.heap.size w'.heap.size t.2.2.2 A cap
/-- .. and of l2Terms: a row of terms. -/
def RdS (w : World) (r : Option (Fr × Nat)) (e : Ending) (w' : World) : Prop :=
  Below w.heap.size w w' ∧ match r with
    | none => ∃ z : Int, (-2000 ≤ z ∧ z < 0) ∧ e = .returned (.tuple #[.slice none 0 0, .int .i64 z])
    | some (f, p) => ∃ A cap, e = .returned (.tuple #[.slice A f.len cap, .int .i64 p]) ∧ KidsAt w' w.heap.size w'.heap.size f A cap
def TC (n : Nat) : Prop := ∀ (s : ByteArray) (a dp lv : Nat) (w : World), s.size ≤ 1000 → a ≤ s.size → dp ≤ 30 → lv ≤ 3 → 8 * (s.size - a) + lv + 2 ≤ n →
  Calls Tryz.prog 62 #[.string s, .int .i64 a, .int .i64 dp, .int .i64 lv] w fun e w' => RdR w (rdT n s a dp lv) e w'
def PC (n : Nat) : Prop := ∀ (s : ByteArray) (a dp : Nat) (w : World), s.size ≤ 1000 → a ≤ s.size → dp ≤ 30 → 8 * (s.size - a) + 1 ≤ n →
  Calls Tryz.prog 77 #[.string s, .int .i64 a, .int .i64 dp] w fun e w' => RdR w (rdP n s a dp) e w'
def SC (n : Nat) : Prop := ∀ (s : ByteArray) (a dp : Nat) (x y : UInt8) (w : World), s.size ≤ 1000 → a ≤ s.size → dp ≤ 30 → 8 * (s.size - a) + 6 ≤ n →
  Calls Tryz.prog 95 #[.string s, .int .i64 a, .int .i64 dp, .int .u8 (x.toNat : Int), .int .u8 (y.toNat : Int)] w fun e w' => RdS w (rdS n s a dp (x.toNat : Int) (y.toNat : Int) .nil) e w'
def IC (n : Nat) : Prop := ∀ (s : ByteArray) (a dp : Nat) (w : World), s.size ≤ 1000 → a ≤ s.size → dp ≤ 30 → 8 * (s.size - a) + 7 ≤ n →
  Calls Tryz.prog 91 #[.string s, .int .i64 a, .int .i64 dp] w fun e w' => RdR w (rdI n s a dp) e w'

theorem RdR.none_ {w w' : World} {e : Ending} (h : RdR w none e w') : Below w.heap.size w w' ∧ ∃ z : Int, (-2000 ≤ z ∧ z < 0) ∧ e = .returned (.tuple #[.agg #[.int .i64 0, .int .i64 0, .string ⟨#[]⟩, .slice none 0 0], .int .i64 z]) := h
theorem RdR.some_ {w w' : World} {e : Ending} {k n : Int} {s : ByteArray} {f : Fr} {p : Nat} (h : RdR w (some ((k, n, s, f), p)) e w') : Below w.heap.size w w' ∧ ∃ A cap, e = .returned (.tuple #[.agg #[.int .i64 k, .int .i64 n, .string s, .slice A f.len cap], .int .i64 p]) ∧ Fits k n s ∧ KidsAt w' w.heap.size w'.heap.size f A cap := h
theorem RdS.none_ {w w' : World} {e : Ending} (h : RdS w none e w') : Below w.heap.size w w' ∧ ∃ z : Int, (-2000 ≤ z ∧ z < 0) ∧ e = .returned (.tuple #[.slice none 0 0, .int .i64 z]) := h
theorem RdS.some_ {w w' : World} {e : Ending} {f : Fr} {p : Nat} (h : RdS w (some (f, p)) e w') : Below w.heap.size w w' ∧ ∃ A cap, e = .returned (.tuple #[.slice A f.len cap, .int .i64 p]) ∧ KidsAt w' w.heap.size w'.heap.size f A cap := h
/-- A result that is stored into the block of the call's own result. -/
theorem RdR.fin {w w3 : World} {k n : Int} {s : ByteArray} {f : Fr} {p : Nat} {A : Option Addr} {cap : Nat} (hb : Below w.heap.size w w3) (hf : Fits k n s) (hk : KidsAt w3 (w.heap.size + 1) w3.heap.size f A cap) (a b c d : Value) :
    RdR w (some ((k, n, s, f), p)) (.returned (.tuple #[.agg #[.int .i64 k, .int .i64 n, .string s, .slice A f.len cap], .int .i64 p])) ((((w3.setCell ⟨w.heap.size, 0, none⟩ a).setCell ⟨w.heap.size, 1, none⟩ b).setCell ⟨w.heap.size, 2, none⟩ c).setCell ⟨w.heap.size, 3, none⟩ d) := by
  have hsz : ((((w3.setCell ⟨w.heap.size, 0, none⟩ a).setCell ⟨w.heap.size, 1, none⟩ b).setCell ⟨w.heap.size, 2, none⟩ c).setCell ⟨w.heap.size, 3, none⟩ d).heap.size = w3.heap.size := by simp [World.setCell]
  refine ⟨(((hb.setCell (p := ⟨w.heap.size, 0, none⟩) (Nat.le_refl _) _).setCell (p := ⟨w.heap.size, 1, none⟩) (Nat.le_refl _) _).setCell (p := ⟨w.heap.size, 2, none⟩) (Nat.le_refl _) _).setCell (p := ⟨w.heap.size, 3, none⟩) (Nat.le_refl _) _, A, cap, rfl, hf, ?_⟩
  rw [hsz]
  exact (hk.keep fun p hp _ => by
    have hne : p.block ≠ w.heap.size := by omega
    rw [World.cell?_of_block (heap_setCell_other _ ⟨w.heap.size, 3, none⟩ p.block _ hne), World.cell?_of_block (heap_setCell_other _ ⟨w.heap.size, 2, none⟩ p.block _ hne), World.cell?_of_block (heap_setCell_other _ ⟨w.heap.size, 1, none⟩ p.block _ hne), World.cell?_of_block (heap_setCell_other _ ⟨w.heap.size, 0, none⟩ p.block _ hne)]).more (Nat.le_succ _) (Nat.le_refl _)
theorem RdR.finA {w w3 : World} {k n : Int} {s : ByteArray} {f : Fr} {p : Nat} {A : Option Addr} {cap : Nat} (hb : Below w.heap.size w w3) (hf : Fits k n s) (hk : KidsAt w3 (w.heap.size + 1) w3.heap.size f A cap) (a b c d : Value) (o : Obj) :
    RdR w (some ((k, n, s, f), p)) (.returned (.tuple #[.agg #[.int .i64 k, .int .i64 n, .string s, .slice A f.len cap], .int .i64 p])) (((((w3.setCell ⟨w.heap.size, 0, none⟩ a).setCell ⟨w.heap.size, 1, none⟩ b).setCell ⟨w.heap.size, 2, none⟩ c).setCell ⟨w.heap.size, 3, none⟩ d).alloc o) := by
  have h := RdR.fin (p := p) hb hf hk a b c d
  obtain ⟨h1, A', cap', he, h2, h3⟩ := h.some_
  refine ⟨h1.trans (((Below.refl _ _).alloc (Nat.le_refl _) _).mono h1.size), A', cap', he, h2, ?_⟩
  exact (h3.below ((Below.refl _ _).alloc (Nat.le_refl _) _) (Nat.le_refl _)).more (Nat.le_refl _) (by simp)
theorem RdR.fin0 {w w3 : World} {z : Int} (hb : Below w.heap.size w w3) (hz : -2000 ≤ z ∧ z < 0) (a b c d : Value) :
    RdR w none (.returned (.tuple #[.agg #[.int .i64 0, .int .i64 0, .string ⟨#[]⟩, .slice none 0 0], .int .i64 z])) ((((w3.setCell ⟨w.heap.size, 0, none⟩ a).setCell ⟨w.heap.size, 1, none⟩ b).setCell ⟨w.heap.size, 2, none⟩ c).setCell ⟨w.heap.size, 3, none⟩ d) :=
  ⟨(((hb.setCell (p := ⟨w.heap.size, 0, none⟩) (Nat.le_refl _) _).setCell (p := ⟨w.heap.size, 1, none⟩) (Nat.le_refl _) _).setCell (p := ⟨w.heap.size, 2, none⟩) (Nat.le_refl _) _).setCell (p := ⟨w.heap.size, 3, none⟩) (Nat.le_refl _) _, z, hz, rfl⟩
theorem RdR.fin0a {w w3 : World} {z : Int} (hb : Below w.heap.size w w3) (hz : -2000 ≤ z ∧ z < 0) (a b c d : Value) (o : Obj) :
    RdR w none (.returned (.tuple #[.agg #[.int .i64 0, .int .i64 0, .string ⟨#[]⟩, .slice none 0 0], .int .i64 z])) (((((w3.setCell ⟨w.heap.size, 0, none⟩ a).setCell ⟨w.heap.size, 1, none⟩ b).setCell ⟨w.heap.size, 2, none⟩ c).setCell ⟨w.heap.size, 3, none⟩ d).alloc o) := by
  have h := RdR.fin0 hb hz a b c d
  exact ⟨h.1.trans (((Below.refl _ _).alloc (Nat.le_refl _) _).mono h.1.size), z, hz, rfl⟩
theorem rset4 {w : World} {g : Nat} {t : TypeId} {x0 x1 x2 x3 : Value} (h : Blk w g t #[x0, x1, x2, x3]) (a b c d : Value) : Blk ((((w.setCell ⟨g, 0, none⟩ a).setCell ⟨g, 1, none⟩ b).setCell ⟨g, 2, none⟩ c).setCell ⟨g, 3, none⟩ d) g t #[a, b, c, d] := (((h.set_ 0 a).set_ 1 b).set_ 2 c).set_ 3 d
/-- Kids that were made behind a later world, seen from an earlier one. -/
theorem kids_up {w w1 w2 : World} {f : Fr} {A : Option Addr} {cap : Nat} (h : KidsAt w2 w1.heap.size w2.heap.size f A cap) (hs : w.heap.size + 1 ≤ w1.heap.size) : KidsAt w2 (w.heap.size + 1) w2.heap.size f A cap := h.more hs (Nat.le_refl _)
set_option maxRecDepth 100000 in
set_option maxHeartbeats 2000000 in
/-- spec.l2Fails. -/
theorem fails_any (a : Nat) (w : World) (ha : a ≤ 1500) : Calls Tryz.prog 90 #[.int .i64 a] w fun e w' => RdR w none e w' := by
  have hb0 : Below w.heap.size w (w.alloc (.cells #[.int .i64 0, .int .i64 0, .string ⟨#[]⟩, .slice none 0 0] 30)) := (Below.refl _ _).alloc (Nat.le_refl _) _
  have hq0 := Blk.new w 30 #[.int .i64 0, .int .i64 0, .string ⟨#[]⟩, .slice none 0 0]
  have HB0 := Lib.hid hb0
  have HQ0 := Lib.hid hq0
  clear hb0 hq0
  go_enter Tryz.func90, Tryz.ntmps90
  go_wp2_with fail
  refine bodyPost_ret (v := .tuple #[.agg #[.int .i64 0, .int .i64 0, .string ⟨#[]⟩, .slice none 0 0], .int .i64 (-1 - (a : Int))]) ?_ rfl ⟨?_, -1 - (a : Int), ⟨by omega, by omega⟩, rfl⟩
  · exact results_cell_row2 Tryz.results90 _ _ w.heap.size _ _ _ _ rfl HQ0.out Tryz.underlying30 rfl (by kernel_rfl)
  · exact HB0.out
end Go.Proofs.YtihmgodiiohdnaaGreatDoor.rdr
