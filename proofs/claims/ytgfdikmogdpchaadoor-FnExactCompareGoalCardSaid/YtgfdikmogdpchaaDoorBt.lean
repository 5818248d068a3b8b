/- impl.builtinTable: the table of what is built in, and what it answers. Condition: none. -/
import Derived.Test.YtgfdikmogdpchaaDoorProg
import Derived.Test.YtgfdikmogdpchaaDoorBi
import Derived.WalkKit
import Derived.Maps.Own
import Derived.Maps.OwnOps
import Derived.Maps.OwnSet
import Derived.StringKeys
namespace Go.Proofs.YtgfdikmogdpchaaDoor
open Go.RowKit Go.WideMaps Go.Maps

/-- A value as an element of the table: held as it is. -/
def btR (v : Value) : Option (DataW Value × List MemPlace) := some (.held v, [])
theorem btR_inv {v u : Value} {ps : List MemPlace} {z : DataW Value} (h : btR v = some (z, ps)) (hz : z = .held u) : v = u := by
  unfold btR at h
  subst hz
  injection h with h
  injection h with h _
  injection h

theorem wpList_insert_own {H : Type} {P : Program} (w : World) {ops : Array Oper} {rest : List Oper} {o : Oper} {a : Act} {Q : Exit → Act → World → Prop}
    (hg : o.guard = none) (m x v : Operand) (t : TypeId) (hop : o.op = Op.insert t m x v)
    (k e : TypeId) (K : Keyed P k) (ht : P.underlying t = some (.map k e)) (R : Value → Option (DataW H × List MemPlace)) (b n : Nat) (D : DataW H)
    (hm : a.eval m = .map (some b)) (hown : w.ownsMap P k R b n D) (hn : n < maxLen) (key val : Value) (kl : Lit) (hx : a.eval x = key) (hv : a.eval v = val) (hkey : keyOf P k key = some kl)
    (d : DataW H) (ps : List MemPlace) (hval : R val = some (d, ps))
    (hK : ∀ w', w'.ownsMap P k R b (n + 1) (D.put kl d) → w.grownBy w' (some b) → wpList P ops Q rest (a.put o.dst undef) w') :
    wpList P ops Q (o :: rest) a w := by
  refine wpList_plain hg fun K' hK' => ?_
  obtain ⟨w', hrun, r1, r2⟩ := hown.update K ht hn hkey hval
  unfold Oper.wp
  simp [execOp, hop, hm, hx, hv, hrun, Result.andThen]
  exact hK' _ _ (hK w' r1 r2)

theorem strKeyed : Keyed Tryd.prog 9 := string_keyed Tryd.underlying9
theorem str_key (s : ByteArray) (hs : s.size ≤ maxLen) : keyOf Tryd.prog 9 (.string s) = some (.string s.data.toList) := keyOf_string_mk Tryd.underlying9 hs

/-- The table: name and what is built in. -/
def btTab : List (List UInt8 × Value) := [([116, 114, 117, 101], .iface 79 (.func (.func 31) #[] #[])), ([102, 97, 105, 108], .iface 79 (.func (.func 32) #[] #[])), ([61], .iface 81 (.func (.func 33) #[] #[])), ([92, 61], .iface 79 (.func (.func 34) #[] #[])), ([61, 61], .iface 79 (.func (.func 35) #[] #[])), ([105, 115], .iface 81 (.func (.func 37) #[] #[])), ([60], .iface 55 (.func (.func 38) #[] #[])), ([62], .iface 55 (.func (.func 39) #[] #[])), ([61, 60], .iface 55 (.func (.func 40) #[] #[])), ([62, 61], .iface 55 (.func (.func 41) #[] #[])), ([61, 58, 61], .iface 55 (.func (.func 42) #[] #[])), ([118, 97, 114], .iface 79 (.func (.func 43) #[] #[])), ([110, 111, 110, 118, 97, 114], .iface 79 (.func (.func 45) #[] #[])), ([97, 116, 111, 109], .iface 79 (.func (.func 46) #[] #[])), ([105, 110, 116], .iface 79 (.func (.func 48) #[] #[])), ([97, 114, 103], .iface 81 (.func (.func 50) #[] #[]))]
def btD : DataW Value := btTab.foldl (fun D r => D.put (.string r.1) (.held r.2)) (.map [])

set_option maxRecDepth 100000 in
/-- impl.builtinTable. -/
theorem bt_any (w : World) :
    Calls Tryd.prog 22 #[] w fun e w' => e = .returned (.map (some w.heap.size)) ∧ w'.ownsMap Tryd.prog 9 btR w.heap.size 16 btD ∧ Below w.heap.size w w' := by
  have hb := (Below.refl w.heap.size w).alloc (Nat.le_refl _) (.map #[] 0)
  have hmm := @run_makeMap Tryd.prog
  have hown : (w.alloc (.map #[] 0)).ownsMap Tryd.prog 9 btR w.heap.size 0 (.map []) := World.ownsMap_made _ _ _ _
  have HO := Lib.hid hown
  have HB := Lib.hid hb
  clear hown hb
  go_enter Tryd.func22, Tryd.ntmps22
  go_wp2_with (first
    | (refine wpList_insert_own _ rfl _ _ _ 59 rfl 9 58 strKeyed Tryd.underlying59 btR w.heap.size _ _ rfl HO.out (by unfold maxLen; omega) _ _ _ rfl rfl (str_key _ (by unfold maxLen; decide)) _ [] rfl ?_; intro w1 hown hg; have hb := HB.out.grown hg HB.out.size (fun j hj => by cases hj; exact Nat.le_refl _); clear HO HB hg; have HO := Lib.hid hown; have HB := Lib.hid hb; clear hown hb)
    | fail)
  go_ret
  exact ⟨rfl, HO.out, HB.out⟩
end Go.Proofs.YtgfdikmogdpchaaDoor
