/- The law FnApplyBinds, walked. Condition: the code lies in memory, the table of signs in its variable. -/
import Derived.Test.YtkgihpddjppmdaaDoorProg
import Derived.Test.YtkgihpddjppmdaaDoorZmAB40
import Derived.Test.YtkgihpddjppmdaaDoorZmAB44
import Derived.Test.YtkgihpddjppmdaaDoorZmAB46
import Derived.Test.YtkgihpddjppmdaaDoorZmAB48
import Derived.Test.YtkgihpddjppmdaaDoorZmAB50
import Derived.Test.YtkgihpddjppmdaaDoorZmAB51
namespace Go.Proofs.YtkgihpddjppmdaaDoor
open Go.RowKit

/-- The last test of the law. -/
theorem ab_last (ns : List Int) (g : Fr) (k n : Int) (s : ByteArray) (f : Fr) (hB : apB ns g k n s f = true) : (0 : Int) < ((varsB k n s f).length : Int) ∨ eqT (apR ns g k n s f).k (apR ns g k n s f).n (apR ns g k n s f).s (apR ns g k n s f).f k n s f = true := by
  cases hv : varsB k n s f with
  | nil => right; rw [apR_nv hB hv]; exact eqT_refl _ _ _ _
  | cons x xs => left; simp only [List.length_cons]; omega
set_option maxRecDepth 100000 in
set_option maxHeartbeats 8000000 in
theorem lawPAb_any (A : Option Addr) (len cap : Nat) (w : World) (hb : Bts w w.heap.size A len) (hc : len ≤ cap) (hm : cap ≤ maxLen) (ht : nv.Tab w) :
    Calls Tryd.prog 3 #[.slice A len cap] w fun e w' => e = .returned (.bool true) ∧ Below w.heap.size w w' := by
  by_cases h2 : len ≤ 1048576
  · have t0 : ¬ (len : Int) > 1048576 := by omega
    have hlt := tab_lt ht
    have C1 := drawAB_any A len cap w hb hc hm
    have H1 := Lib.hid C1
    have HT := Lib.hid ht
    have HLT := Lib.hid hlt
    clear C1 hb hc hm ht hlt
    go_enter Tryd.func3, Tryd.ntmps3
    go_wp2_with fail
    refine H1.out.mono ?_
    rintro e w2 ⟨k, n, s, f, A1, c1, ns, g, B, cB, rfl, hf, hn, hg, ⟨L, o1, hnd, hlm⟩, hbd, hb⟩
    have hb0 : Below w2.heap.size w2 (w2.alloc (.cells #[.int .i64 k, .int .i64 n, .string s, .slice A1 f.len c1] 25)) := (Below.refl _ _).alloc (Nat.le_refl _) _
    have HO1 := Lib.hid (o1.below hb0 o1.lt)
    have HQ1 := Lib.hid (Blk.new w2 25 #[.int .i64 k, .int .i64 n, .string s, .slice A1 f.len c1])
    have HBD := Lib.hid ((hbd.below hb0 (Nat.le_refl _)).more (Nat.le_refl _) hb0.size)
    have HB0 := Lib.hid (hb.trans (hb0.mono hb.size))
    have HN := Lib.hid (And.intro hn hg)
    have HF := Lib.hid hf
    have HND := Lib.hid hnd
    clear hf hn hg o1 hnd hlm hbd hb hb0 H1
    go_wp2_with fail
    generalize w2.alloc (.cells #[.int .i64 k, .int .i64 n, .string s, .slice A1 f.len c1] 25) = w3 at *
    generalize w2.heap.size = H at *
    have KX := fun wX (hX : Below w3.heap.size w3 wX) => (HO1.out.kids fun x hx => ⟨Nat.zero_le _, HO1.out.lt x hx⟩).below hX (Nat.le_refl _)
    have BX := fun wX (hX : Below w3.heap.size w3 wX) => HB0.out.trans (hX.mono HB0.out.size)
    have C1 := implAp_any k n s f A1 c1 0 w3.heap.size ns g B cB 0 w3.heap.size w3 (KX w3 (Below.refl _ _)) (Nat.le_refl _) HF.out (by have := HN.out.1; omega) HBD.out (Nat.le_refl _) (by have := HN.out.2; omega) (tab_below HT.out (BX w3 (Below.refl _ _)) HLT.out)
    have C2 := fun wX (hX : Below w3.heap.size w3 wX) => specAp_any k n s f A1 c1 0 w3.heap.size ns g B cB 0 w3.heap.size wX (KX wX hX) hX.size HF.out (by have := HN.out.1; omega) (HBD.out.below hX (Nat.le_refl _)) hX.size (by have := HN.out.2; omega)
    have C3 := fun wX (hX : Below w3.heap.size w3 wX) B' c' (hbd : BdS wX 0 0 [] .nil B' c') => implAp_any k n s f A1 c1 0 w3.heap.size [] .nil B' c' 0 0 wX (KX wX hX) hX.size HF.out (by have := HN.out.1; omega) hbd (Nat.zero_le _) (by decide) (tab_below HT.out (BX wX hX) HLT.out)
    have CV := fun wX (hX : Below w3.heap.size w3 wX) => implVars_any k n s f A1 c1 0 w3.heap.size wX (KX wX hX) hX.size HF.out (by have := HN.out.1; omega) (tab_below HT.out (BX wX hX) HLT.out)
    have CELLS : ∀ wX, Below w3.heap.size w3 wX → (wX.cell? ⟨H, 0, none⟩ = some (.int .i64 k) ∧ wX.cell? ⟨H, 1, none⟩ = some (.int .i64 n) ∧ wX.cell? ⟨H, 2, none⟩ = some (.string s) ∧ wX.cell? ⟨H, 3, none⟩ = some (.slice A1 f.len c1)) := fun wX hX => cells4i (HQ1.out.below hX HQ1.out.lt)
    have HHL : Hid (H < w3.heap.size) := Lib.hid HQ1.out.lt
    have HINS := Lib.hid (ins_ap (ns := ns) (g := g) (k := k) (n := n) (s := s) (f := f))
    have HLAST := Lib.hid (ab_last ns g k n s f)
    have HNONE := Lib.hid (apR_none (k := k) (n := n) (s := s) (f := f))
    have HVAL : Hid (apB ns g k n s f = true → validT k n s f = true) := Lib.hid (fun h => by unfold apB at h; simp only [Bool.and_eq_true] at h; exact h.1)
    have HRV : Hid (Fits (apR ns g k n s f).k (apR ns g k n s f).n (apR ns g k n s f).s ∧ nodes (apR ns g k n s f).f ≤ 1000) := Lib.hid (by
      unfold apR
      split
      · next h =>
        unfold apB vtB at h
        simp only [Bool.and_eq_true] at h
        have := validT_fits h.2.2
        exact ⟨this.2.1, by have := this.2.2; omega⟩
      · exact (show Fits 0 0 ⟨#[]⟩ ∧ nodes Fr.nil ≤ 1000 from ⟨⟨by omega, by omega, by unfold maxLen; decide⟩, by decide⟩))
    generalize apR ns g k n s f = R at *
    generalize apB ns g k n s f = ok at *
    obtain ⟨Rk, Rn, Rs, Rf⟩ := R
    simp only at HRV HLAST HINS
    have HC1 := Lib.hid C1
    have HC2 := Lib.hid C2
    have HC3 := Lib.hid C3
    have HCV := Lib.hid CV
    have HCE := Lib.hid CELLS
    have HKX := Lib.hid KX
    clear C1 C2 C3 CV CELLS KX BX HQ1 HBD
    obtain ⟨x0, x1, x2, x3⟩ := HCE.out w3 (Below.refl _ _)
    refine HC1.out.mono ?_
    rintro e w4 ⟨Ax, cx, rfl, ⟨Lx, ox, hnx, hlx, hb⟩⟩
    have hb4 : Below w4.heap.size w4 (w4.alloc (.cells #[.int .i64 Rk, .int .i64 Rn, .string Rs, .slice Ax Rf.len cx] 25)) := (Below.refl _ _).alloc (Nat.le_refl _) _
    have HB5 := Lib.hid (hb.trans (hb4.mono hb.size))
    have HQ5 := Lib.hid (Blk.new w4 25 #[.int .i64 Rk, .int .i64 Rn, .string Rs, .slice Ax Rf.len cx])
    have HX5 := Lib.hid (ox.below hb4 ox.lt)
    have HXN := Lib.hid (And.intro hnx hlx)
    clear hb hb4 ox hnx hlx HC1 x0 x1 x2 x3
    obtain ⟨x0, x1, x2, x3⟩ := HCE.out _ HB5.out
    go_wp2_with fail
    generalize w4.alloc (.cells #[.int .i64 Rk, .int .i64 Rn, .string Rs, .slice Ax Rf.len cx] 25) = w5 at *
    have hH4 : w4.heap.size < w5.heap.size := HQ5.out.lt
    generalize w4.heap.size = HX at *
    refine (HC2.out _ HB5.out).mono ?_
    rintro e w6 ⟨Aw, cw, rfl, ⟨Lw, ow, hnw, hlw, hb⟩⟩
    have hb6 : Below w6.heap.size w6 (w6.alloc (.cells #[.int .i64 Rk, .int .i64 Rn, .string Rs, .slice Aw Rf.len cw] 25)) := (Below.refl _ _).alloc (Nat.le_refl _) _
    have hb57 := hb.trans (hb6.mono hb.size)
    have HB7 := Lib.hid (HB5.out.trans (hb57.mono HB5.out.size))
    have HQ7 := Lib.hid (HQ5.out.below hb57 HQ5.out.lt)
    have HW7 := Lib.hid (Blk.new w6 25 #[.int .i64 Rk, .int .i64 Rn, .string Rs, .slice Aw Rf.len cw])
    have HX7 := Lib.hid (HX5.out.below hb57 HX5.out.lt)
    have HO7 := Lib.hid (ow.below hb6 ow.lt)
    have HXW : Hid ((Lx ++ Lw).Nodup) := Lib.hid (List.nodup_append.2 ⟨HXN.out.1, hnw, fun a ha b hb e => by have h1 := HX5.out.lt a ha; have h2 := (hlw b hb).1; omega⟩)
    have HL1 : Hid (∀ wX, Below w3.heap.size w3 wX → OwnS wX f A1 c1 L) := Lib.hid fun wX hX => HO1.out.below hX HO1.out.lt
    have HXO : Hid ((Lx ++ L).Nodup) := Lib.hid (List.nodup_append.2 ⟨HXN.out.1, HND.out, fun a ha b hb e => by have h1 := (HXN.out.2 a ha).1; have h2 := HO1.out.lt b hb; omega⟩)
    obtain ⟨y0, y1, y2, y3⟩ := cells4i (HQ5.out.below hb HQ5.out.lt)
    have hHX6 : HX < w6.heap.size := by have := hb.size; omega
    have tv : (ok != ok) = false := by cases ok <;> rfl
    have tv2 : (ok == ok) = true := by cases ok <;> rfl
    clear hb hb6 hb57 ow hnw hlw HC2 HX5 HQ5 HB5 HXN x0 x1 x2 x3
    go_wp2_with fail
    clear y0 y1 y2 y3 hHX6
    generalize w6.alloc (.cells #[.int .i64 Rk, .int .i64 Rn, .string Rs, .slice Aw Rf.len cw] 25) = w7 at *
    generalize w6.heap.size = HW at *
    have CX := fun wX (hX : Below w7.heap.size w7 wX) => tsame_own2 Rk Rn Rs Rf Ax cx Rk Rn Rs Rf Aw cw Lx Lw wX (HX7.out.below hX HX7.out.lt) (HO7.out.below hX HO7.out.lt) HXW.out (by have := HRV.out.2; omega)
    rw [eqT_refl] at CX
    have CXC : ∀ wX, Below w7.heap.size w7 wX → (wX.cell? ⟨HX, 0, none⟩ = some (.int .i64 Rk) ∧ wX.cell? ⟨HX, 1, none⟩ = some (.int .i64 Rn) ∧ wX.cell? ⟨HX, 2, none⟩ = some (.string Rs) ∧ wX.cell? ⟨HX, 3, none⟩ = some (.slice Ax Rf.len cx)) ∧
        (wX.cell? ⟨HW, 0, none⟩ = some (.int .i64 Rk) ∧ wX.cell? ⟨HW, 1, none⟩ = some (.int .i64 Rn) ∧ wX.cell? ⟨HW, 2, none⟩ = some (.string Rs) ∧ wX.cell? ⟨HW, 3, none⟩ = some (.slice Aw Rf.len cw)) := fun wX hX => ⟨cells4i (HQ7.out.below hX HQ7.out.lt), cells4i (HW7.out.below hX HW7.out.lt)⟩
    have HCX := Lib.hid CX
    have HXC := Lib.hid CXC
    clear CX CXC HO7 HW7 HXW
    refine (HCX.out _ (Below.refl _ _)).mono ?_
    rintro e w8 ⟨rfl, hb⟩
    have HB8 := Lib.hid hb
    clear hb
    obtain ⟨⟨y0, y1, y2, y3⟩, z0, z1, z2, z3⟩ := HXC.out _ HB8.out
    cases ok with
    | false =>
      go_wp2_with fail
      refine (HCX.out _ HB8.out).mono ?_
      rintro e w9 ⟨rfl, hb⟩
      have HB9 := Lib.hid (HB0.out.trans ((HB7.out.trans ((HB8.out.trans (hb.mono HB8.out.size)).mono HB7.out.size)).mono HB0.out.size))
      clear hb y0 y1 y2 y3 z0 z1 z2 z3
      go_wp2_with fail
      go_ret
      exact ⟨rfl, HB9.out⟩
    | true =>
      obtain ⟨x0, x1, x2, x3⟩ := HCE.out w8 (HB7.out.trans (HB8.out.mono HB7.out.size))
      have HB38 := Lib.hid (HB7.out.trans (HB8.out.mono HB7.out.size))
      go_wp2_with fail
      obtain ⟨hN1, hN2⟩ := HNONE.out (HVAL.out (by first | rfl | trivial))
      have hb8 : Below w8.heap.size w8 (w8.alloc (.cells #[] 42)) := (Below.refl _ _).alloc (Nat.le_refl _) _
      have C3 := HC3.out _ (HB38.out.trans (hb8.mono HB38.out.size)) (some ⟨w8.heap.size, 0, none⟩) 0 ⟨rfl, Nat.zero_le _, Nat.zero_le _, fun h => absurd h (Nat.lt_irrefl 0)⟩
      rw [hN1, hN2, show Fr.nil.len = 0 from rfl] at C3
      have HB88 := Lib.hid hb8
      have H3 := Lib.hid C3
      clear C3 hb8 hN1 hN2 HC3 HNONE HVAL x0 x1 x2 x3 y0 y1 y2 y3 z0 z1 z2 z3
      refine H3.out.mono ?_
      rintro e w9 ⟨Ay, cy, rfl, ⟨Ly, oy, hny, hly, hb⟩⟩
      have hb10 : Below w9.heap.size w9 (w9.alloc (.cells #[.int .i64 k, .int .i64 n, .string s, .slice Ay f.len cy] 25)) := (Below.refl _ _).alloc (Nat.le_refl _) _
      have hb89 := HB88.out.trans (hb.mono HB88.out.size)
      have hb79 := HB8.out.trans (hb89.mono HB8.out.size)
      have HB710 := Lib.hid (hb79.trans (hb10.mono hb79.size))
      have HB310 := Lib.hid (HB7.out.trans (HB710.out.mono HB7.out.size))
      have HQ10 := Lib.hid (Blk.new w9 25 #[.int .i64 k, .int .i64 n, .string s, .slice Ay f.len cy])
      have HY10 := Lib.hid (oy.below hb10 oy.lt)
      have HYL : Hid ((Ly ++ L).Nodup) := Lib.hid (List.nodup_append.2 ⟨hny, HND.out, fun a ha b hb' e => by
        have h1 := (hly a ha).1
        have h2 := HO1.out.lt b hb'
        have h3 := HB7.out.size
        have h4 := HB8.out.size
        have h5 := HB88.out.size
        omega⟩)
      have h37 := HB7.out.size
      obtain ⟨x0, x1, x2, x3⟩ := HCE.out w9 (HB7.out.trans (hb79.mono HB7.out.size))
      obtain ⟨⟨y0, y1, y2, y3⟩, -⟩ := HXC.out w9 hb79
      have hHX9 : HX < w9.heap.size := by have := HQ7.out.lt; have := hb79.size; omega
      have hH9 : H < w9.heap.size := by have := hb79.size; have := HHL.out; omega
      clear hb hb10 hb89 hb79 oy hny hly H3
      go_wp2_with fail
      clear x0 x1 x2 x3 y0 y1 y2 y3 hHX9 hH9
      generalize w9.alloc (.cells #[.int .i64 k, .int .i64 n, .string s, .slice Ay f.len cy] 25) = wz at *
      generalize w9.heap.size = HY at *
      have KR := fun wX (hX : Below wz.heap.size wz wX) => ((HX7.out.below HB710.out HX7.out.lt).kids fun x hx => ⟨Nat.zero_le _, (HX7.out.below HB710.out HX7.out.lt).lt x hx⟩).below hX (Nat.le_refl _)
      have B3 := fun wX (hX : Below wz.heap.size wz wX) => HB310.out.trans (hX.mono HB310.out.size)
      have B7 := fun wX (hX : Below wz.heap.size wz wX) => HB710.out.trans (hX.mono HB710.out.size)
      have CI := implIns_any Rk Rn Rs Rf k n s f Ax A1 cx c1 0 wz.heap.size 0 w3.heap.size wz (KR wz (Below.refl _ _)) (HKX.out wz HB310.out) (Nat.le_refl _) HB310.out.size HRV.out.1 HF.out (by have := HRV.out.2; omega) (by have := HN.out.1; omega) (tab_below HT.out (HB0.out.trans (HB310.out.mono HB0.out.size)) HLT.out)
      rw [HINS.out (by first | rfl | trivial)] at CI
      have CY := fun wX (hX : Below wz.heap.size wz wX) => tsame_own2 k n s f Ay cy k n s f A1 c1 Ly L wX (HY10.out.below hX HY10.out.lt) (HL1.out wX (B3 wX hX)) HYL.out (by have := HN.out.1; omega)
      rw [eqT_refl] at CY
      have CXT := fun wX (hX : Below wz.heap.size wz wX) => tsame_own2 Rk Rn Rs Rf Ax cx k n s f A1 c1 Lx L wX (HX7.out.below (B7 wX hX) HX7.out.lt) (HL1.out wX (B3 wX hX)) HXO.out (by have := HRV.out.2; omega)
      have hlast := HLAST.out (by first | rfl | trivial)
      have CELLS : ∀ wX, Below wz.heap.size wz wX → (wX.cell? ⟨H, 0, none⟩ = some (.int .i64 k) ∧ wX.cell? ⟨H, 1, none⟩ = some (.int .i64 n) ∧ wX.cell? ⟨H, 2, none⟩ = some (.string s) ∧ wX.cell? ⟨H, 3, none⟩ = some (.slice A1 f.len c1)) ∧
          (wX.cell? ⟨HX, 0, none⟩ = some (.int .i64 Rk) ∧ wX.cell? ⟨HX, 1, none⟩ = some (.int .i64 Rn) ∧ wX.cell? ⟨HX, 2, none⟩ = some (.string Rs) ∧ wX.cell? ⟨HX, 3, none⟩ = some (.slice Ax Rf.len cx)) ∧
          (wX.cell? ⟨HY, 0, none⟩ = some (.int .i64 k) ∧ wX.cell? ⟨HY, 1, none⟩ = some (.int .i64 n) ∧ wX.cell? ⟨HY, 2, none⟩ = some (.string s) ∧ wX.cell? ⟨HY, 3, none⟩ = some (.slice Ay f.len cy)) := fun wX hX => ⟨HCE.out wX (B3 wX hX), (HXC.out wX (B7 wX hX)).1, cells4i (HQ10.out.below hX HQ10.out.lt)⟩
      have CV := fun wX (hX : Below wz.heap.size wz wX) => HCV.out wX (B3 wX hX)
      have HBZ := Lib.hid (HB0.out.trans (HB310.out.mono HB0.out.size))
      generalize varsB k n s f = vs at *
      have HI := Lib.hid CI
      have HY := Lib.hid CY
      have HXT := Lib.hid CXT
      have HV := Lib.hid CV
      have HCL := Lib.hid CELLS
      clear CI CY CXT CV CELLS KR B3 B7 HB310 HB710 HQ10 HY10 HYL HX7 HQ7 HXC HCX HCE HCV HKX HINS HLAST HN HF HND HO1 HT HLT HRV HL1 HXO HB8 HB88 HB38 HB7 HB0
      refine HI.out.mono ?_
      rintro e wa ⟨rfl, hb⟩
      have HBa := Lib.hid hb
      clear hb
      obtain ⟨⟨x0, x1, x2, x3⟩, ⟨y0, y1, y2, y3⟩, z0, z1, z2, z3⟩ := HCL.out wa HBa.out
      go_wp2_with fail
      refine (HY.out wa HBa.out).mono ?_
      rintro e wb ⟨rfl, hb⟩
      have HBb := Lib.hid (HBa.out.trans (hb.mono HBa.out.size))
      clear hb x0 x1 x2 x3 y0 y1 y2 y3 z0 z1 z2 z3
      obtain ⟨⟨x0, x1, x2, x3⟩, ⟨y0, y1, y2, y3⟩, z0, z1, z2, z3⟩ := HCL.out wb HBb.out
      go_wp2_with fail
      refine (HV.out wb HBb.out).mono ?_
      rintro e wc ⟨v, rfl, ho, hb⟩
      obtain ⟨Av, cv, rfl, -, -, -⟩ := ho.read
      have HBc := Lib.hid (HBb.out.trans (hb.mono HBb.out.size))
      clear hb ho x0 x1 x2 x3 y0 y1 y2 y3 z0 z1 z2 z3
      obtain ⟨⟨x0, x1, x2, x3⟩, ⟨y0, y1, y2, y3⟩, z0, z1, z2, z3⟩ := HCL.out wc HBc.out
      generalize vs.length = vl at *
      by_cases hv : (vl : Int) > 0
      · clear hlast
        go_wp2_with fail
        go_ret
        exact ⟨rfl, HBZ.out.trans (HBc.out.mono HBZ.out.size)⟩
      · have he : eqT Rk Rn Rs Rf k n s f = true := by
          rcases hlast with h | h
          · exact absurd h hv
          · exact h
        have CT := HXT.out wc HBc.out
        rw [he] at CT
        have HCT := Lib.hid CT
        clear CT he hlast
        go_wp2_with fail
        refine HCT.out.mono ?_
        rintro e wd ⟨rfl, hb⟩
        have HBd := Lib.hid (HBc.out.trans (hb.mono HBc.out.size))
        clear hb x0 x1 x2 x3 y0 y1 y2 y3 z0 z1 z2 z3
        go_wp2_with fail
        go_ret
        exact ⟨rfl, HBZ.out.trans (HBd.out.mono HBZ.out.size)⟩
  · have t0 : (len : Int) > 1048576 := by omega
    clear hb hc hm
    go_enter Tryd.func3, Tryd.ntmps3
    go_wp2_with fail
    go_ret
    exact ⟨rfl, Below.refl _ _⟩
end Go.Proofs.YtkgihpddjppmdaaDoor
