/- A map whose keys are structs of two pointers and a length (impl.TermSame's 'seen'): a key that is not there; a key more. Condition: the blocks that the keys point to hold cells. -/
import Derived.Test.YtejehnmnocokiaaDoorProg
import Derived.Test.YtejehnmnocokiaaDoorOwn
import Derived.LaidEql
import Derived.Maps.Own
import Derived.KernelRfl
namespace Go.Proofs.YtejehnmnocokiaaDoor
open Go.RowKit Go.ChangeMaps Go.MapKept

/-- A pair of rows as a key. -/
def kp (p q : Addr) (n : Int) : Value := .agg #[.pointer (some p), .pointer (some q), .int .i64 n]
theorem kp_check (e : Bool) (p q : Addr) (n : Int) (w : World) : (Instr.checkKey e 10000 59 (kp p q n)).run Tryd.prog w = .ok () w := by
  unfold kp
  kernel_rfl
theorem kp_ptr (d : Nat) {w : World} {p p' : Addr} {ca cb : Array Value} {ta tb : TypeId} (hne : p ≠ p') (ha : Blk w p.block ta ca) (hb : Blk w p'.block tb cb) :
    (Op.equalIn (d + 1) 57 (.pointer (some p)) (.pointer (some p'))).run Tryd.prog w = .ok false w := by
  have hi : (Tryd.prog.info? 29).map (fun i => i.size) = some 4 := by kernel_rfl
  obtain ⟨j, hj, hz⟩ := Option.map_eq_some_iff.1 hi
  simp [Op.equalIn, run_underlying Tryd.underlying57, sizeOf, typeInfo, hj, hz, run_sameAddr_other w hne ha hb]
theorem kp_part0 (p q : Addr) (n : Int) (w : World) : (part 57 #[.pointer (some p), .pointer (some q), .int .i64 n] 0).run Tryd.prog w = .ok (.pointer (some p)) w := by kernel_rfl
theorem kp_eq_miss {w : World} {p p' q q' : Addr} {n n' : Int} {ca cb : Array Value} {ta tb : TypeId} (hne : p ≠ p') (ha : Blk w p.block ta ca) (hb : Blk w p'.block tb cb) :
    (Op.equal 59 (kp p q n) (kp p' q' n')).run Tryd.prog w = .ok false w := by
  have h1 := kp_ptr 9998 hne ha hb
  have hs : Tryd.prog.stoodInHeld 59 = false := by kernel_rfl
  unfold kp
  have e : ∀ x y, Op.equal 59 x y = Op.equalIn (9998 + 1 + 1) 59 x y := fun _ _ => rfl
  rw [e]
  generalize 9998 = d at *
  rw [Op.equalIn]
  simp [run_underlying Tryd.underlying59, hs, kp_part0, h1]
/-- No entry has the key's first row. -/
def Unseen (w : World) (p : Addr) (es : List MapEntry) : Prop := ∀ e ∈ es, ∃ p' q' n', e.key = kp p' q' n' ∧ p ≠ p' ∧ ∃ tb cb, Blk w p'.block tb cb
theorem kp_ask {w : World} {p q : Addr} {n : Int} {ca : Array Value} {ta : TypeId} (ha : Blk w p.block ta ca) : ∀ (es : List MapEntry) (i : Nat), Unseen w p es →
    (Instr.findAsking 59 (kp p q n) es i).run Tryd.prog w = .ok none w
  | [], i, _ => by simp [Instr.findAsking]
  | e :: es, i, h => by
    obtain ⟨p', q', n', he, hne, tb, cb, hb⟩ := h e (by simp)
    have ih := kp_ask (q := q) (n := n) ha es (i + 1) fun x hx => h x (by simp [hx])
    simp [Instr.findAsking, he, kp_eq_miss hne ha hb, ih]
theorem kp_find {w : World} {p q : Addr} {n : Int} {ca : Array Value} {ta : TypeId} (ha : Blk w p.block ta ca) (es : List MapEntry) (h : Unseen w p es) :
    (Instr.findKey 59 (kp p q n) es).run Tryd.prog w = .ok none w := by
  have h1 := kp_ask (q := q) (n := n) ha es 0 h
  cases es with
  | nil => simp [Instr.findKey, Instr.findNow, run_underlying Tryd.underlying59]
  | cons e es =>
    have hn : ∀ fs x, Instr.findNow (.struct fs) x (e :: es) 0 = none := fun fs x => by simp [Instr.findNow, Instr.sameNow]
    simp [Instr.findKey, run_underlying Tryd.underlying59, hn, h1]
/-- 'seen[pair]' is false where no entry has the pair's first row. -/
theorem seen_miss {w : World} {b clock : Nat} {es : Array MapEntry} {p q : Addr} {n : Int} {ca : Array Value} {ta : TypeId} (hb : w.heap[b]? = some (.map es clock)) (ha : Blk w p.block ta ca) (h : Unseen w p es.toList) :
    (Instr.lookup 54 (.map (some b)) (kp p q n) false).run Tryd.prog w = .ok (.bool false) w := by
  have hg : (getObj b).run Tryd.prog w = .ok (.map es clock) w := MapKept.run_getObj_map hb
  have hz : (zeroValue 4).run Tryd.prog w = .ok (.bool false) w := by kernel_rfl
  simp [Instr.lookup, run_underlying Tryd.underlying54, hg, kp_check, kp_find ha es.toList h, hz]
/-- 'seen[pair] = true' puts one entry more. -/
theorem seen_put {w : World} {b clock : Nat} {es : Array MapEntry} {p q : Addr} {n : Int} {ca : Array Value} {ta : TypeId} (v : Value) (hb : w.heap[b]? = some (.map es clock)) (ha : Blk w p.block ta ca) (h : Unseen w p es.toList) :
    (Instr.mapUpdate 54 (.map (some b)) (kp p q n) v).run Tryd.prog w = .ok () (setBlock w b (.map (es.push { key := kp p q n, val := v, born := clock }) (clock + 1))) := by
  have hlt : b < w.heap.size := by
    rcases Nat.lt_or_ge b w.heap.size with h | h
    · exact h
    · rw [Array.getElem?_eq_none h] at hb; cases hb
  have hg : (getObj b).run Tryd.prog w = .ok (.map es clock) w := MapKept.run_getObj_map hb
  have hs : ∀ o, (setObj b o).run Tryd.prog w = .ok () (setBlock w b o) := fun o => MapKept.run_setObj_map o hb
  simp [Instr.mapUpdate, run_underlying Tryd.underlying54, hg, hs, kp_check, kp_find ha es.toList h]
end Go.Proofs.YtejehnmnocokiaaDoor
