/- impl.FormatCode. Condition: the code lies in memory; no more than the law's budget; the tables lie in their variables. -/
import Derived.Test.YtfdgmdijjifmiaaDoorProg
import Derived.Test.YtfdgmdijjifmiaaDoorFc
import Derived.Test.YtfdgmdijjifmiaaDoorNiG
namespace Go.Proofs.YtfdgmdijjifmiaaDoor.ins
open Go.RowKit

theorem infoB8 : (Tryd.prog.info? 5).map (fun i => (i.zero, i.size, i.bytes)) = some (some (.int .u8 0), 1, 1) := by kernel_rfl
set_option maxRecDepth 100000 in
set_option maxHeartbeats 4000000 in
/-- impl.FormatCode. -/
theorem implFc_any (xs : List Ins) (A : Option Addr) (cap hi : Nat) (w : World) (hk : InsS w hi xs A cap) (hh : hi ≤ w.heap.size) (hok : ∀ y ∈ xs, y.ok) (hwt : wtIn xs ≤ 1048576) (ht : nv.Tab w) (hn : NotTab w) (hp : Lib.TabBelow Tryd.prog w.heap.size w "internal/strconv.uint64pow10" .u64 Lib.pow10Tab) :
    Calls Tryd.prog 15 #[.slice A xs.length cap] w fun e w' => e = .returned (.string ⟨(codeB xs).toArray⟩) ∧ Below w.heap.size w w' := by
  have HK := Lib.hid hk
  have HHI := Lib.hid hh
  have HOK := Lib.hid hok
  have HWT := Lib.hid (fun x (h : x ∈ xs) => Nat.le_trans (wtIn_mem xs x h) hwt)
  have HCI := Lib.hid (fun (x : Ins) (hx : x.ok) (hs : x.s.size ≤ 1048576) w1 (h1 : Below w.heap.size w w1) => implFi_any x hx hs w1 (nv_below ht h1) (hn.below h1) (fun w2 h2 => hp w2 (h1.trans (h2.mono h1.size))))
  have hl := hk.1
  have hm := hk.2.1
  unfold maxLen at hm
  have HCB : Hid (codeB xs = if xs.length > 2000 then [] else fcF xs []) := Lib.hid rfl
  obtain ⟨i0, hi0, hz0, hz1, hz2⟩ := info_parts infoB8
  have HI0 := Lib.hid (And.intro hi0 (And.intro hz0 (And.intro hz1 hz2)))
  clear hk hh hok hwt ht hn hp hi0 hz0 hz1 hz2
  generalize hn : xs.length = len at *
  have HN := Lib.hid hn
  clear hn
  generalize codeB xs = cb at *
  by_cases h2 : len > 2000
  · have HV : Hid (cb = []) := Lib.hid (by rw [HCB.out, if_pos h2])
    have hk3 : (2000 : Int) < (len : Int) := by omega
    clear h2
    go_enter Tryd.func15, Tryd.ntmps15
    go_wp2_with fail
    go_ret
    rw [HV.out]; exact ⟨rfl, Below.refl _ _⟩
  · have HCV : Hid (cb = fcF xs []) := Lib.hid (by rw [HCB.out, if_neg h2])
    have hk3 : ¬ (2000 : Int) < (len : Int) := by omega
    have HL2 : Hid (len ≤ 2000) := Lib.hid (by omega)
    clear h2 HCB
    go_enter Tryd.func15, Tryd.ntmps15
    go_wp2_with fail
    go_loopw [3, 12] (fun v i wr => ∃ (k : Nat) (l : List UInt8), k ≤ len ∧ i = .int .i64 k ∧ wr.ownsRow w.heap.size 5 1 v l.length (Lib.byteCells l) ∧ l.length ≤ k * 1048701 ∧ fcF (xs.drop k) l = fcF xs [] ∧ Below w.heap.size w wr) (fun _ i _ => len - (intOf i).toNat)
    case atStart => exact ⟨0, [], Nat.zero_le _, rfl, World.ownsRow_nil w _ _ _, Nat.zero_le _, rfl, Below.refl _ _⟩
    case round =>
      obtain ⟨k, l, hk, rfl, hown, hll, hfc, hb⟩ := hrel
      by_cases hlt : k < len
      · obtain ⟨x, hd⟩ := drop_at k xs (by rw [HN.out]; exact hlt)
        obtain ⟨b, o, rfl, hbb, hrow⟩ := HK.out.2.2 (by rw [HN.out]; omega)
        obtain ⟨hxo, c0, c1, c2, c3⟩ := hrow.elem k xs b o hd
        have hlo : (⟨b, o, none⟩ : Addr).block < w.heap.size := Nat.lt_of_lt_of_le hbb HHI.out
        have k0 := (hb.cell (p := ⟨b, o + k * 4, none⟩) hlo).trans c0
        have k1 := (hb.cell (p := ⟨b, o + k * 4 + 1, none⟩) hlo).trans c1
        have k2 := (hb.cell (p := ⟨b, o + k * 4 + 2, none⟩) hlo).trans c2
        have k3 := (hb.cell (p := ⟨b, o + k * 4 + 3, none⟩) hlo).trans c3
        have C2 := fun w1 h1 => HCI.out x hxo (HWT.out x (mem_drop hd)) w1 h1
        have hlen := fmtB_len (HWT.out x (mem_drop hd))
        have hne := fmtB_ne (x := x)
        rw [hd] at hfc
        simp only [fcF] at hfc
        generalize hv : okB x = v at *
        generalize hf : fmtB x = f at *
        have HBA := Lib.hid (fun o => hb.alloc hb.size o)
        have HOA := Lib.hid (fun o => hown.alloc o)
        obtain ⟨op, a, bb, s⟩ := x
        simp only at k0 k1 k2 k3 C2
        have H2 := Lib.hid C2
        have HFC := Lib.hid hfc
        have HNE := Lib.hid hne
        have HLL : Hid (l.length ≤ 2097402000 ∧ l.length + f.length + 1 ≤ (k + 1) * 1048701 ∧ f.length ≤ 1048700) := Lib.hid (by have := HL2.out; omega)
        clear C2 hb c0 c1 c2 c3 hrow hd hlo hxo hfc hv hf hown hne hll hlen
        go_wp2_with fail
        refine (H2.out _ (HBA.out _)).mono ?_
        rintro e w3 ⟨rfl, hb3⟩
        have HO3 := Lib.hid ((HOA.out (.cells #[.int .i64 op, .int .i64 a, .int .i64 bb, .string s] 26)).kept (row := none) ⟨hb3.os, hb3.tape, hb3.output, hb3.size, fun k hk _ => hb3.block k hk⟩ (by
          cases h : Value.ownBlock _ with
          | none => exact .inl rfl
          | some g => exact .inr (by simp)))
        have HB3 := Lib.hid ((HBA.out _).trans (hb3.mono (HBA.out _).size))
        clear hb3 k0 k1 k2 k3 HOA HBA
        cases v with
        | false =>
          have hf0 : f = [] := HNE.out.2 rfl
          subst hf0
          have HV : Hid (cb = []) := Lib.hid (by
            rw [HCV.out]
            have h := HFC.out
            rw [if_neg (by decide)] at h
            exact h.symm)
          go_wp2_with fail
          go_ret
          rw [HV.out]; exact ⟨rfl, HB3.out⟩
        | true =>
          have hf0 : f ≠ [] := fun e => by have := HNE.out.1 e; cases this
          have HF : Hid (fcF (xs.drop (k + 1)) (l ++ f ++ [10]) = fcF xs []) := Lib.hid (by
            have h := HFC.out
            rw [if_pos rfl] at h
            exact h)
          have HF0 : Hid (0 < f.length) := Lib.hid (List.length_pos_iff.2 hf0)
          have e2 : ((⟨f.toArray⟩ : ByteArray)).toList.isEmpty = false := by
            rw [ByteArray.toList_eq]
            cases f with
            | nil => exact absurd rfl hf0
            | cons _ _ => rfl
          have e3 : f.isEmpty = false := by cases f with | nil => exact absurd rfl hf0 | cons _ _ => rfl
          have e4 : (f == []) = false := by simpa using hf0
          go_wp2_with (first
            | (at_builtin; refine wpList_append_str _ rfl _ _ 73 9 rfl w.heap.size 5 i0 Tryd.underlying73 Tryd.underlying9 HI0.out.1 HI0.out.2.1 HI0.out.2.2.1 HI0.out.2.2.2 _ l.length (Lib.byteCells l) rfl HO3.out ⟨f.toArray⟩ rfl HF0.out (by have := HLL.out; show l.length + f.length ≤ _; unfold maxLen; omega) (by have := HLL.out; show l.length + f.length ≤ _; omega) HB3.out.size ?_; intro g4 cap4 w4 hown4 hg4
               have HO4 : Hid (w4.ownsRow w.heap.size 5 1 (.slice (some ⟨g4, 0, none⟩) (l.length + f.length) cap4) (l.length + f.length) (Lib.byteCells (l ++ f))) := Lib.hid (by rw [Lib.byteCells_append, ← Lib.strCells_toArray f]; exact hown4)
               have HB4 : Hid (Below w.heap.size w w4) := Lib.hid (HB3.out.grown hg4 HB3.out.size (fun j hj => (World.ownsRow.lt HO3.out j hj).1))
               have HOR : Hid ((w4.alloc (.cells #[.int .u8 10] 5)).ownsRow w.heap.size 5 1 (.slice (some ⟨g4, 0, none⟩) (l.length + f.length) cap4) (l.length + f.length) (Lib.byteCells (l ++ f))) := Lib.hid (HO4.out.alloc _)
               have HNEW : Hid (Blk (w4.alloc (.cells #[.int .u8 10] 5)) w4.heap.size 5 #[.int .u8 10]) := Lib.hid (Blk.new w4 _ _)
               clear hown4 hg4)
            | (at_builtin; go_must (refine wpList_append_lies _ rfl _ _ _ rfl w.heap.size 5 i0 _ 1 1 Tryd.underlying73 HI0.out.1 HI0.out.2.1 HI0.out.2.2.1 HI0.out.2.2.2 rfl (by omega) (.slice (some ⟨g4, 0, none⟩) (l.length + f.length) cap4) (l.length + f.length) (Lib.byteCells (l ++ f)) rfl HOR.out ⟨w4.heap.size, 0, none⟩ 1 1 [.int .u8 10] rfl rfl (World.news_of_block (cs := #[.int .u8 10]) (t := 5) (fr := (0, 0)) HNEW.out) (by simp [Value.oneCell']) (by omega) (by have := HLL.out; unfold maxLen; omega) (by have := HLL.out; omega) (by have := HB4.out.size; simp; omega) (w4.heap.size + 1) (by simp) ?_); intro g5 cap5 w5 hown5 hg5 hat5 hlt5
               have HO5 : Hid (w5.ownsRow w.heap.size 5 1 (.slice (some ⟨g5, 0, none⟩) (l.length + f.length + 1) cap5) (l ++ f ++ [10]).length (Lib.byteCells (l ++ f ++ [10]))) := Lib.hid (by
                 rw [Lib.byteCells_append (l ++ f), List.length_append, List.length_append]; exact hown5)
               have HB5 : Hid (Below w.heap.size w w5) := Lib.hid ((HB4.out.alloc HB4.out.size _).grown hg5 (by have := HB4.out.size; simp; omega) (fun j hj => (World.ownsRow.lt HOR.out j hj).1))
               clear hown5 hg5 hat5 hlt5)
            | fail)
          go_roundw
          case rel => exact ⟨k + 1, l ++ f ++ [10], by omega, by go_num, HO5.out, by (have := HLL.out; rw [List.length_append, List.length_append, List.length_singleton]; omega), HF.out, HB5.out⟩
          case measure => simp [intOf]; omega
      · obtain rfl : k = len := by omega
        have HS : Hid (cb = l) := Lib.hid (by rw [HCV.out, ← hfc, List.drop_eq_nil_of_le (by rw [HN.out]; exact Nat.le_refl _)]; rfl)
        have HB := Lib.hid hb
        clear hfc hb hll
        by_cases hl0 : l = []
        · subst hl0
          rcases hown.2 with ⟨rfl, _⟩ | ⟨g, cap3, cur, rfl, _⟩
          · have hcv : (convert 73 9 (.slice none 0 0)).run Tryd.prog wr = .ok (.string ⟨#[]⟩) wr := by kernel_rfl
            clear hown
            go_wp2_with fail
            go_ret
            rw [HS.out]; exact ⟨rfl, HB.out⟩
          · have hcv : (convert 73 9 (.slice (some ⟨g, 0, none⟩) 0 cap3)).run Tryd.prog wr = .ok (.string ⟨#[]⟩) wr := run_convert_bytes_back (P := Tryd.prog) wr 73 9 5 ⟨g, 0, none⟩ cap3 [] Tryd.underlying73 Tryd.underlying5 Tryd.underlying9 (fun j hj => absurd hj (Nat.not_lt_zero _))
            clear hown
            go_wp2_with fail
            go_ret
            rw [HS.out]; exact ⟨rfl, HB.out⟩
        · obtain ⟨g, cap3, rfl, _, _⟩ := hown.form (List.length_pos_iff.2 hl0)
          have hcv := run_convert_bytes_back (P := Tryd.prog) wr 73 9 5 ⟨g, 0, none⟩ cap3 l Tryd.underlying73 Tryd.underlying5 Tryd.underlying9 (fun j hj => hown.cells (g := g) rfl j _ (by unfold Lib.byteCells; rw [List.getElem?_map, List.getElem?_eq_getElem hj]; rfl))
          clear hown hl0
          go_wp2_with fail
          go_ret
          rw [HS.out]; exact ⟨rfl, HB.out⟩
end Go.Proofs.YtfdgmdijjifmiaaDoor.ins
