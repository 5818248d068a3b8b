/- spec.FormatCode. Condition: the code lies in memory; no more than the law's budget. -/
import Derived.Test.YtfdgmdijjifmiaaDoorProg
import Derived.Test.YtfdgmdijjifmiaaDoorFc
import Derived.Test.YtfdgmdijjifmiaaDoorNiQ
namespace Go.Proofs.YtfdgmdijjifmiaaDoor.ins
open Go.RowKit

/-- spec.l8Instr. -/
theorem l8Instr_any (x : Ins) (hx : x.ok) (w : World) :
    Calls Tryd.prog 34 #[.agg #[.int .i64 x.op, .int .i64 x.a, .int .i64 x.b, .string x.s]] w fun e w' => e = .returned (.bool (okB x)) ∧ Below w.heap.size w w' := by
  obtain ⟨op, a, b, s⟩ := x
  by_cases h : isOp op
  · obtain ⟨k, hk, rfl⟩ : ∃ k : Nat, k < 14 ∧ op = (k : Int) + 1 := ⟨(op - 1).toNat, by unfold isOp at h; omega, by unfold isOp at h; omega⟩
    have e : okB ⟨(k : Int) + 1, a, b, s⟩ = allB k ⟨(k : Int) + 1, a, b, s⟩ := by
      unfold okB
      rw [if_pos h, show ((k : Int) + 1 - 1).toNat = k by omega]
    rw [e]
    exact instr_row k hk a b s hx.2.2.2 w
  · have e : okB ⟨op, a, b, s⟩ = false := by unfold okB; rw [if_neg h]
    rw [e]
    exact instr_no op a b s h w

set_option maxRecDepth 100000 in
set_option maxHeartbeats 4000000 in
/-- spec.FormatCode. -/
theorem specFc_any (xs : List Ins) (A : Option Addr) (cap hi : Nat) (w : World) (hk : InsS w hi xs A cap) (hh : hi ≤ w.heap.size) (hok : ∀ y ∈ xs, y.ok) (hwt : wtIn xs ≤ 1048576) (hxl : xs.length ≤ 1048576) :
    Calls Tryd.prog 13 #[.slice A xs.length cap] w fun e w' => e = .returned (.string ⟨(codeB xs).toArray⟩) ∧ Below w.heap.size w w' := by
  have HK := Lib.hid hk
  have HHI := Lib.hid hh
  have HOK := Lib.hid hok
  have HWT := Lib.hid (fun x (h : x ∈ xs) => Nat.le_trans (wtIn_mem xs x h) hwt)
  have hl := hk.1
  have hm := hk.2.1
  unfold maxLen at hm
  have HCB : Hid (codeB xs = if xs.length > 2000 then [] else fcF xs []) := Lib.hid rfl
  clear hk hh hok hwt
  generalize hn : xs.length = len at *
  have HN := Lib.hid hn
  clear hn
  generalize codeB xs = cb at *
  go_enter Tryd.func13, Tryd.ntmps13
  go_wp2_with fail
  go_loopw [3, 4] (fun o i wr => ∃ (k : Nat) (l : List UInt8), k ≤ len ∧ k ≤ 2000 ∧ i = .int .i64 k ∧ o = .string ⟨l.toArray⟩ ∧ l.length ≤ k * 1048701 ∧ fcF (xs.drop k) l = fcF xs [] ∧ Below w.heap.size w wr) (fun _ i _ => len - (intOf i).toNat)
  case atStart => exact ⟨0, [], Nat.zero_le _, Nat.zero_le _, rfl, rfl, Nat.zero_le _, rfl, Below.refl _ _⟩
  case round =>
    obtain ⟨k, l, hk, hk2, rfl, rfl, hll, hfc, hb⟩ := hrel
    by_cases hlt : k < len
    · by_cases h2 : k = 2000
      · have HV : Hid (cb = []) := Lib.hid (by rw [HCB.out, if_pos (by omega)])
        have HB := Lib.hid hb
        have hk3 : (2000 : Int) ≤ (k : Int) := by omega
        clear hfc hb hll h2 hk2
        go_wp2_with fail
        go_ret
        rw [HV.out]; exact ⟨rfl, HB.out⟩
      · obtain ⟨x, hd⟩ := drop_at k xs (by rw [HN.out]; exact hlt)
        obtain ⟨b, o, rfl, hbb, hrow⟩ := HK.out.2.2 (by rw [HN.out]; omega)
        obtain ⟨hxo, c0, c1, c2, c3⟩ := hrow.elem k xs b o hd
        have hlo : (⟨b, o, none⟩ : Addr).block < w.heap.size := Nat.lt_of_lt_of_le hbb HHI.out
        have C1 := fun w1 => l8Instr_any x hxo w1
        have C2 := fun w1 => specFi_any x hxo (HWT.out x (mem_drop hd)) w1
        have hlen := fmtB_len (HWT.out x (mem_drop hd))
        rw [hd] at hfc
        simp only [fcF] at hfc
        have CL : ∀ w1, Below wr.heap.size wr w1 → w1.cell? ⟨b, o + k * 4, none⟩ = some (.int .i64 x.op) ∧ w1.cell? ⟨b, o + k * 4 + 1, none⟩ = some (.int .i64 x.a) ∧ w1.cell? ⟨b, o + k * 4 + 2, none⟩ = some (.int .i64 x.b) ∧ w1.cell? ⟨b, o + k * 4 + 3, none⟩ = some (.string x.s) := fun w1 h1 => by
          have h := hb.trans (h1.mono hb.size)
          exact ⟨(h.cell (p := ⟨b, o + k * 4, none⟩) hlo).trans c0, (h.cell (p := ⟨b, o + k * 4 + 1, none⟩) hlo).trans c1, (h.cell (p := ⟨b, o + k * 4 + 2, none⟩) hlo).trans c2, (h.cell (p := ⟨b, o + k * 4 + 3, none⟩) hlo).trans c3⟩
        generalize hv : okB x = v at *
        generalize hf : fmtB x = f at *
        obtain ⟨op, a, bb, s⟩ := x
        simp only at CL C1 C2
        obtain ⟨k0, k1, k2, k3⟩ := CL wr (Below.refl _ _)
        have H1 := Lib.hid C1
        have H2 := Lib.hid C2
        have HB := Lib.hid hb
        have HC := Lib.hid CL
        have HFC := Lib.hid hfc
        have hk3 : (k : Int) < 2000 := by omega
        clear C1 C2 hb c0 c1 c2 c3 hrow hd hlo hxo CL hfc hv hf
        cases v with
        | false =>
          have HV : Hid (cb = []) := Lib.hid (by
            rw [HCB.out]
            split
            · rfl
            · have h := HFC.out
              rw [if_neg (by decide)] at h
              exact h.symm)
          go_wp2_with fail
          refine (H1.out _).mono ?_
          rintro e w2 ⟨rfl, hb2⟩
          have HB2 := Lib.hid (HB.out.trans (hb2.mono HB.out.size))
          clear hb2
          go_wp2_with fail
          go_ret
          rw [HV.out]; exact ⟨rfl, HB2.out⟩
        | true =>
          have HF : Hid (fcF (xs.drop (k + 1)) (l ++ f ++ [10]) = fcF xs []) := Lib.hid (by
            have h := HFC.out
            rw [if_pos rfl] at h
            exact h)
          have hl1 : l.length ≤ 2097402000 := by omega
          have HA : Hid (((⟨l.toArray⟩ : ByteArray) ++ ⟨f.toArray⟩) ++ ⟨#[10]⟩ = ⟨(l ++ f ++ [10]).toArray⟩) := Lib.hid (by
            show ((⟨l.toArray⟩ : ByteArray) ++ ⟨f.toArray⟩) ++ ⟨[10].toArray⟩ = _
            rw [ByteArray.mk_append_mk, ByteArray.mk_append_mk])
          go_wp2_with fail
          refine (H1.out _).mono ?_
          rintro e w2 ⟨rfl, hb2⟩
          clear k0 k1 k2 k3
          obtain ⟨k0, k1, k2, k3⟩ := HC.out w2 hb2
          have HB2 := Lib.hid (HB.out.trans (hb2.mono HB.out.size))
          clear hb2
          go_wp2_with fail
          refine (H2.out _).mono ?_
          rintro e w3 ⟨rfl, hb3⟩
          have HB3 := Lib.hid (HB2.out.trans (hb3.mono HB2.out.size))
          clear hb3 k0 k1 k2 k3
          go_wp2_with fail
          go_roundw
          case rel => exact ⟨k + 1, l ++ f ++ [10], by omega, by omega, by go_num, by rw [← HA.out], by (rw [List.length_append, List.length_append, List.length_singleton]; omega), HF.out, HB3.out⟩
          case measure => simp [intOf]; omega
    · obtain rfl : k = len := by omega
      have HS : Hid (cb = l) := Lib.hid (by rw [HCB.out, if_neg (by omega), ← hfc, List.drop_eq_nil_of_le (by rw [HN.out]; exact Nat.le_refl _)]; rfl)
      have HB := Lib.hid hb
      clear hfc hb
      go_wp2_with fail
      go_ret
      rw [HS.out]
      exact ⟨rfl, HB.out⟩
end Go.Proofs.YtfdgmdijjifmiaaDoor.ins
