/- FormatCode in plain words; bounds of texts; 'append' of a string in an ordinary region. No condition. -/
import Derived.Test.YtfdgmdijjifmiaaDoorNiF
import Derived.Test.YtfdgmdijjifmiaaDoorInZ
import Derived.Lib.AppendStr
import Derived.Lib.AppendIntMem
namespace Go.Proofs.YtfdgmdijjifmiaaDoor.ins
open Go.RowKit

/-- The text so far, and the texts of the other instructions behind it; nothing if one has none. -/
def fcF : List Ins → List UInt8 → List UInt8
  | [], l => l
  | x :: xs, l => if okB x = true then fcF xs (l ++ fmtB x ++ [10]) else []
def codeB (xs : List Ins) : List UInt8 := if xs.length > 2000 then [] else fcF xs []
theorem fmtB_len {x : Ins} (h : x.s.size ≤ 1048576) : (fmtB x).length ≤ 1048700 := by
  have hs : x.s.data.toList.length = x.s.size := rfl
  by_cases hop : isOp x.op
  · obtain ⟨k, hk, he⟩ : ∃ k : Nat, k < 14 ∧ x.op = (k + 1 : Nat) := ⟨(x.op - 1).toNat, by unfold isOp at hop; omega, by unfold isOp at hop; omega⟩
    rw [fmtB_row hk he]
    split
    · rename_i hal
      obtain ⟨hra, hrb⟩ := allB_range hal
      have h1 := Lib.itoa_length_le x.a (by omega) (by omega)
      have h2 := Lib.itoa_length_le x.b (by omega) (by omega)
      have h3 := wd_len k hk
      unfold restW
      rcases nu_nm k hk with ⟨hu, hn⟩ | ⟨hu, hn⟩ | ⟨hu, hn⟩ | ⟨hu, hn⟩ | ⟨hu, hn⟩ <;> rw [hu, hn] <;> simp <;> omega
    · simp
  · rw [fmtB_no hop]; simp
theorem fmtB_ne {x : Ins} : (fmtB x = [] ↔ okB x = false) := by
  constructor
  · intro h
    cases hok : okB x with
    | false => rfl
    | true =>
      unfold fmtB at h
      rw [if_pos hok] at h
      have hop : isOp x.op := by
        unfold okB at hok
        split at hok
        · assumption
        · cases hok
      have h1 := (List.append_eq_nil_iff.1 h).1
      have all : ∀ j : Fin 14, wd j.val ≠ [] := by decide
      exact absurd h1 (all ⟨(x.op - 1).toNat, by unfold isOp at hop; omega⟩)
  · intro h
    unfold fmtB
    rw [h]; rfl
theorem wtIn_mem : ∀ (xs : List Ins) (x : Ins), x ∈ xs → x.s.size ≤ wtIn xs
  | [], x, h => by cases h
  | y :: ys, x, h => by
    unfold wtIn
    rcases List.mem_cons.1 h with rfl | h
    · omega
    · have := wtIn_mem ys x h; omega
theorem mem_drop {xs rest : List Ins} {x : Ins} {k : Nat} (h : xs.drop k = x :: rest) : x ∈ xs := List.mem_of_mem_drop (by rw [h]; simp)

section
variable {P : Program} (w : World)
/-- 'append' of a string's bytes. -/
theorem wpList_append_str {ops : Array Oper} {rest : List Oper} {o : Oper} {a : Act} {Q : Exit → Act → World → Prop} (hgd : o.guard = none) (sl x : Operand) (t u : TypeId)
    (ho : o.op = .call { callee := .builtin .append, args := #[sl, x], argTypes := #[t, u] })
    (base : Nat) (e : TypeId) (i : TypeInfo) (ht : P.underlying t = some (.slice e)) (hu : P.underlying u = some .string) (hi : P.info? e = some i) (hz : i.zero = some (.int .u8 0))
    (hsize : i.size = 1) (hby : i.bytes = 1)
    (v : Value) (n : Nat) (xs : List Value) (hs : a.eval sl = v) (hown : w.ownsRow base e 1 v n xs) (s : ByteArray) (hx : a.eval x = .string s)
    (h0 : 0 < s.size) (h63 : n + s.size ≤ maxLen) (hbytes : n + s.size ≤ 140737488355328) (hbase : base ≤ w.heap.size)
    (h : ∀ g cap w', w'.ownsRow base e 1 (.slice (some ⟨g, 0, none⟩) (n + s.size) cap) (n + s.size) (xs ++ Lib.strCells s) → w.grownBy w' v.ownBlock → wpList P ops Q rest (a.put o.dst (.slice (some ⟨g, 0, none⟩) (n + s.size) cap)) w') : wpList P ops Q (o :: rest) a w := by
  refine wpList_plain hgd fun K hK => ?_
  obtain ⟨v', w', hr, h2, h3, _⟩ := Lib.run_append_own_string (P := P) w base t u o.type e i ht hu hi hz hsize hby v n xs hown s h63 hbytes hbase
  unfold Oper.wp execOp
  simp only [ho, resolve, invoke, builtin, Sem.run_bind, Sem.run_pure, Result.andThen_ok, List.map_toArray, List.map_cons, List.map_nil, hs, hx, hr]
  rcases h2.2 with ⟨rfl, he⟩ | ⟨g, cap, cur, rfl, _⟩
  · omega
  · exact hK _ _ (h g cap w' h2 h3)
end
end Go.Proofs.YtfdgmdijjifmiaaDoor.ins
