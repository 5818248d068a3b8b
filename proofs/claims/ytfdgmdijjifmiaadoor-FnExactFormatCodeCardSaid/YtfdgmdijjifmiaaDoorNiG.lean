/- impl.FormatInstr, walked. Condition: the tables lie in their variables; the name is no longer than the law's budget. -/
import Derived.Test.YtfdgmdijjifmiaaDoorProg
import Derived.Test.YtfdgmdijjifmiaaDoorNiF
import Derived.Deep.RegionHeld3
namespace Go.Proofs.YtfdgmdijjifmiaaDoor.ins
open Go.RowKit

theorem infoS : (Tryd.prog.info? 9).map (fun i => (i.zero, i.size, i.bytes)) = some (some (.string ⟨#[]⟩), 1, 16) := by kernel_rfl
theorem word_cells (l : List (List UInt8)) (ex : List Value) (j : Nat) (y : List UInt8) (h : l[j]? = some y) : ((l.map fun y => Value.string ⟨y.toArray⟩) ++ ex).toArray[j]? = some (.string ⟨y.toArray⟩) := by
  rw [List.getElem?_toArray, List.getElem?_append_left (by have := (List.getElem?_eq_some_iff.1 h).1; simpa using this), List.getElem?_map, h]; rfl
theorem word_cells2 (l : List (List UInt8)) (ex : List Value) (j : Nat) (y : List UInt8) (h : l[j]? = some y) : ((l.map fun y => Value.string ⟨y.toArray⟩).toArray ++ ex.toArray)[j]? = some (.string ⟨y.toArray⟩) := by
  have := word_cells l ex j y h
  simpa using this
set_option maxRecDepth 100000 in
set_option maxHeartbeats 4000000 in
/-- FormatInstr. -/
theorem implFi_any (x : Ins) (hx : x.ok) (hsz : x.s.size ≤ 1048576) (w : World) (ht : nv.Tab w) (hn : NotTab w) (hp : ∀ w1, Below w.heap.size w w1 → Lib.TabIs Tryd.prog w1 "internal/strconv.uint64pow10" .u64 Lib.pow10Tab) :
    Calls Tryd.prog 11 #[.agg #[.int .i64 x.op, .int .i64 x.a, .int .i64 x.b, .string x.s]] w fun e w' => e = .returned (.string ⟨(fmtB x).toArray⟩) ∧ Below w.heap.size w w' := by
  have hb0 : Below w.heap.size w (w.alloc (.cells #[.int .i64 x.op, .int .i64 x.a, .int .i64 x.b, .string x.s] 26)) := (Below.refl _ _).alloc (Nat.le_refl _) _
  have q0 := Blk.new w 26 #[.int .i64 x.op, .int .i64 x.a, .int .i64 x.b, .string x.s]
  have C1 := notationOf_any x hx _ (nv_below ht hb0) (hn.below hb0)
  have HROW : Hid (∀ k : Nat, k < 14 → x.op = (k + 1 : Nat) → fmtB x = if allB k x = true then wd k ++ (restW k x).flatMap (32 :: ·) else []) := Lib.hid fun k h1 h2 => fmtB_row h1 h2
  have HNO : Hid (¬ isOp x.op → fmtB x = []) := Lib.hid fmtB_no
  have HRNG : Hid (∀ k, allB k x = true → (-999 ≤ x.a ∧ x.a ≤ 999) ∧ (0 ≤ x.b ∧ x.b ≤ 999)) := Lib.hid fun k h => allB_range h
  have HSZ := Lib.hid hsz
  have HREST : Hid (∀ k, restW k x = (if 1 ≤ nu k then [Lib.itoa x.a] else []) ++ (if 2 ≤ nu k then [Lib.itoa x.b] else []) ++ (if nm k = true then [x.s.data.toList] else [])) := Lib.hid fun _ => rfl
  obtain ⟨op, a, b, s⟩ := x
  simp only at *
  have H1 := Lib.hid C1
  have HB0 := Lib.hid hb0
  have HQ0 := Lib.hid q0
  have HP := Lib.hid hp
  have c0 := q0.cell 0
  have c1 := q0.cell 1
  have c2 := q0.cell 2
  have c3 := q0.cell 3
  simp only [List.getElem?_toArray, List.getElem?_cons_zero, List.getElem?_cons_succ] at c0 c1 c2 c3
  clear C1 hb0 q0 ht hn hp hx hsz
  go_enter Tryd.func11, Tryd.ntmps11
  go_wp2_with fail
  refine H1.out.mono ?_
  rintro e w2 ⟨hb2, hr⟩
  have HB2 := Lib.hid (HB0.out.trans (hb2.mono HB0.out.size))
  have HQ2 := Lib.hid (HQ0.out.below hb2 HQ0.out.lt)
  clear hb2 c0 c1 c2 c3 H1
  rcases hr with ⟨k, hk, hop, rfl⟩ | ⟨hno, rfl⟩
  · have hfm := HROW.out k hk hop
    have hrg := HRNG.out k
    have hwl := wd_len k hk
    have hnn := nu_nm k hk
    have hre := HREST.out k
    have HBN : Hid (∀ o, Below w.heap.size w (w2.alloc o)) := Lib.hid fun o => HB2.out.alloc HB2.out.size o
    unfold rowV
    clear HROW HNO HRNG HREST hop
    cases hal : allB k ⟨op, a, b, s⟩ with
    | false =>
      rw [hal] at hfm
      have HV : Hid (fmtB ⟨op, a, b, s⟩ = []) := Lib.hid (by rw [hfm, if_neg (by decide)])
      clear hfm hrg hwl hnn hre hal
      generalize wd k = wk at *
      generalize nu k = u at *
      generalize nm k = z at *
      go_wp2_with fail
      go_ret
      rw [HV.out]; exact ⟨rfl, HBN.out _⟩
    | true =>
      rw [hal, if_pos rfl, hre] at hfm
      obtain ⟨hra, hrb⟩ := hrg hal
      have HFM := Lib.hid hfm
      have HWL := Lib.hid hwl
      clear hfm hrg hwl hre hal
      generalize wd k = wk at *
      generalize nu k = u at *
      generalize nm k = z at *
      have r0 := Blk.new w2 69 #[.int .i64 ((k : Int) + 1), .string ⟨wk.toArray⟩, .int .i64 u, .bool z]
      have p0 := HQ2.out.alloc (.cells #[.int .i64 ((k : Int) + 1), .string ⟨wk.toArray⟩, .int .i64 u, .bool z] 69)
      have hb3 := HBN.out (.cells #[.int .i64 ((k : Int) + 1), .string ⟨wk.toArray⟩, .int .i64 u, .bool z] 69)
      have HR0 := Lib.hid r0
      have HP0 := Lib.hid p0
      have HB3 := Lib.hid hb3
      have CA := fun w1 (h1 : Below w.heap.size w w1) => it.itoa_any a hra w1 (HP.out w1 h1)
      have CB := fun w1 (h1 : Below w.heap.size w w1) => it.itoa_any b ⟨by omega, hrb.2⟩ w1 (HP.out w1 h1)
      have HLA : Hid ((Lib.itoa a).length ≤ 21) := Lib.hid (Lib.itoa_length_le a (by omega) (by omega))
      have HLB : Hid ((Lib.itoa b).length ≤ 21) := Lib.hid (Lib.itoa_length_le b (by omega) (by omega))
      have XA := Lib.hid CA
      have XB := Lib.hid CB
      generalize Lib.itoa a = ia at *
      generalize Lib.itoa b = ib at *
      clear CA CB r0 p0 hb3 HP hra hrb HQ2
      have HV : Hid (∀ l, fmtB ⟨op, a, b, s⟩ = l → fmtB ⟨op, a, b, s⟩ = l) := Lib.hid fun _ h => h
      have HSW : Hid (∀ y, Below (w2.alloc (.cells #[.int .i64 ((k : Int) + 1), .string ⟨wk.toArray⟩, .int .i64 u, .bool z] 69)).heap.size (w2.alloc (.cells #[.int .i64 ((k : Int) + 1), .string ⟨wk.toArray⟩, .int .i64 u, .bool z] 69)) y →
          y.cell? ⟨w.heap.size, 1, none⟩ = some (.int .i64 a) ∧ y.cell? ⟨w.heap.size, 2, none⟩ = some (.int .i64 b) ∧ y.cell? ⟨w.heap.size, 3, none⟩ = some (.string s) ∧ y.cell? ⟨w2.heap.size, 1, none⟩ = some (.string ⟨wk.toArray⟩) ∧ y.cell? ⟨w2.heap.size, 2, none⟩ = some (.int .i64 u) ∧ y.cell? ⟨w2.heap.size, 3, none⟩ = some (.bool z)) := Lib.hid fun y hy =>
        have h1 := HP0.out.below hy HP0.out.lt
        have h2 := HR0.out.below hy HR0.out.lt
        ⟨h1.cell 1, h1.cell 2, h1.cell 3, h2.cell 1, h2.cell 2, h2.cell 3⟩
      rcases hnn with ⟨rfl, rfl⟩ | ⟨rfl, rfl⟩ | ⟨rfl, rfl⟩ | ⟨rfl, rfl⟩ | ⟨rfl, rfl⟩
      · have HV0 : fmtB ⟨op, a, b, s⟩ = wk ++ ([ia, ib] : List (List UInt8)).flatMap (32 :: ·) := HFM.out
        have HV : Hid (fmtB ⟨op, a, b, s⟩ = wk ++ 32 :: (ia ++ 32 :: ib)) := Lib.hid (by rw [HV0]; simp)
        clear HV0
        clear HFM
        go_wp2_with fail
        generalize w2.alloc _ = w3 at *
        clear HP0 HR0
        obtain ⟨d1, d2, d3, d4, d5, d6⟩ := HSW.out w3 (Below.refl _ _)
        have g0 : IntKind.i64.wrap (1 + 2) = 3 := by decide
        have g5 : IntKind.i64.wrap 3 = 3 := by decide
        have g6 : ((3 : Nat) : Int) = 3 := rfl
        have g1 : (0 : Int) ≤ ((3 : Nat) : Int) := by omega
        have g2 : ((3 : Nat) : Int) ≤ ((3 : Nat) : Int) := by omega
        have g3 : (0 : Int) ≤ 3 := by omega
        have g4 : (3 : Int) ≤ 3 := by omega
        go_region_held3 (fun y => y.cell? ⟨w.heap.size, 1, none⟩ = some (.int .i64 a) ∧ y.cell? ⟨w.heap.size, 2, none⟩ = some (.int .i64 b) ∧ y.cell? ⟨w.heap.size, 3, none⟩ = some (.string s) ∧ y.cell? ⟨w2.heap.size, 1, none⟩ = some (.string ⟨wk.toArray⟩) ∧ y.cell? ⟨w2.heap.size, 2, none⟩ = some (.int .i64 2) ∧ y.cell? ⟨w2.heap.size, 3, none⟩ = some (.bool false))
          (first | exact HSW.out _ (HX6.out.alloc HX6.out.size _) | exact HSW.out _ HX6.out | exact HSW.out _ HX5.out | exact HSW.out _ (Below.refl _ _).drew)
          (first
            | (go_at_call_of 39 a; refine (XA.out _ (HB3.out.trans ((Below.refl w3.heap.size w3).drew.mono HB3.out.size))).mono ?_; rintro e w5 ⟨rfl, hb5⟩; have HX5 := Lib.hid ((Below.refl w3.heap.size w3).drew.trans hb5); clear hb5)
            | (go_at_call_of 39 b; refine (XB.out _ (HB3.out.trans (HX5.out.mono HB3.out.size))).mono ?_; rintro e w6 ⟨rfl, hb6⟩; have HX6 := Lib.hid (HX5.out.trans (hb6.mono HX5.out.size)); clear hb6))
        clear d1 d2 d3 d4 d5 d6
        obtain ⟨d1, d2, d3, d4, d5, d6⟩ := HSW.out w6 HX6.out
        go_wp2_with fail
        have HB6 := Lib.hid (HB3.out.trans (HX6.out.mono HB3.out.size))
        have hblk : Blk (w6.alloc (.cells #[.string ⟨wk.toArray⟩, .string ⟨ia.toArray⟩, .string ⟨ib.toArray⟩] 9)) (w6.heap.size) 9 #[.string ⟨wk.toArray⟩, .string ⟨ia.toArray⟩, .string ⟨ib.toArray⟩] := Blk.new w6 _ _
        have hbl : Below w.heap.size w (w6.alloc (.cells #[.string ⟨wk.toArray⟩, .string ⟨ia.toArray⟩, .string ⟨ib.toArray⟩] 9)) := HB6.out.alloc HB6.out.size _
        have J := joined (w6.heap.size) (3) wk ([ia, ib] : List (List UInt8)) (w6.alloc (.cells #[.string ⟨wk.toArray⟩, .string ⟨ia.toArray⟩, .string ⟨ib.toArray⟩] 9)) (fun j y hy => (hblk.cell j).trans (word_cells [wk, ia, ib] [] j y hy)) hblk.lt (by simp) (by simp) (by
          have h1 := HWL.out; have h2 := HLA.out; have h3 := HLB.out; have h4 := HSZ.out; have h5 : s.data.toList.length = s.size := rfl
          simp [Lib.lens]; omega)
        change Calls Tryd.prog 40 #[.slice (some ⟨w6.heap.size, 0, none⟩) 3 3, _] _ _ at J
        have HJ := Lib.hid J
        have HBL := Lib.hid hbl
        clear J hblk hbl
        refine HJ.out.mono ?_
        rintro e w7 ⟨rfl, hb7⟩
        have HB7 := Lib.hid (HBL.out.trans (hb7.mono HBL.out.size))
        clear hb7
        go_wp2_with fail
        go_ret
        rw [HV.out]; exact ⟨rfl, HB7.out⟩
      · have HV0 : fmtB ⟨op, a, b, s⟩ = wk ++ ([ia, ib, s.data.toList] : List (List UInt8)).flatMap (32 :: ·) := HFM.out
        have HV : Hid (fmtB ⟨op, a, b, s⟩ = wk ++ 32 :: (ia ++ 32 :: (ib ++ 32 :: s.data.toList))) := Lib.hid (by rw [HV0]; simp)
        clear HV0
        clear HFM
        go_wp2_with fail
        generalize w2.alloc _ = w3 at *
        clear HP0 HR0
        obtain ⟨d1, d2, d3, d4, d5, d6⟩ := HSW.out w3 (Below.refl _ _)
        have g0 : IntKind.i64.wrap (1 + 2) = 3 := by decide
        have g5 : IntKind.i64.wrap 3 = 3 := by decide
        have g6 : ((3 : Nat) : Int) = 3 := rfl
        have g1 : (0 : Int) ≤ ((3 : Nat) : Int) := by omega
        have g2 : ((3 : Nat) : Int) ≤ ((3 : Nat) : Int) := by omega
        have g3 : (0 : Int) ≤ 3 := by omega
        have g4 : (3 : Int) ≤ 3 := by omega
        go_region_held3 (fun y => y.cell? ⟨w.heap.size, 1, none⟩ = some (.int .i64 a) ∧ y.cell? ⟨w.heap.size, 2, none⟩ = some (.int .i64 b) ∧ y.cell? ⟨w.heap.size, 3, none⟩ = some (.string s) ∧ y.cell? ⟨w2.heap.size, 1, none⟩ = some (.string ⟨wk.toArray⟩) ∧ y.cell? ⟨w2.heap.size, 2, none⟩ = some (.int .i64 2) ∧ y.cell? ⟨w2.heap.size, 3, none⟩ = some (.bool true))
          (first | exact HSW.out _ (HX6.out.alloc HX6.out.size _) | exact HSW.out _ HX6.out | exact HSW.out _ HX5.out | exact HSW.out _ (Below.refl _ _).drew)
          (first
            | (go_at_call_of 39 a; refine (XA.out _ (HB3.out.trans ((Below.refl w3.heap.size w3).drew.mono HB3.out.size))).mono ?_; rintro e w5 ⟨rfl, hb5⟩; have HX5 := Lib.hid ((Below.refl w3.heap.size w3).drew.trans hb5); clear hb5)
            | (go_at_call_of 39 b; refine (XB.out _ (HB3.out.trans (HX5.out.mono HB3.out.size))).mono ?_; rintro e w6 ⟨rfl, hb6⟩; have HX6 := Lib.hid (HX5.out.trans (hb6.mono HX5.out.size)); clear hb6))
        clear d1 d2 d3 d4 d5 d6
        obtain ⟨d1, d2, d3, d4, d5, d6⟩ := HSW.out w6 HX6.out
        go_wp2_with fail
        have HB6 := Lib.hid (HB3.out.trans (HX6.out.mono HB3.out.size))
        have hblk : Blk ((((w6.alloc (.cells #[.string ⟨wk.toArray⟩, .string ⟨ia.toArray⟩, .string ⟨ib.toArray⟩] 9)).alloc (.cells #[.string s] 9)).alloc (.cells (#[.string ⟨wk.toArray⟩, .string ⟨ia.toArray⟩, .string ⟨ib.toArray⟩, .string s] ++ Builtin.zeroCells #[.string ⟨#[]⟩] (((Question.appendCap 4 3 9).cut (w6.tape w6.drawn (Question.appendCap 4 3 9))) - 4)) 9)).drew) (w6.heap.size + 1 + 1) 9 (#[.string ⟨wk.toArray⟩, .string ⟨ia.toArray⟩, .string ⟨ib.toArray⟩, .string s] ++ Builtin.zeroCells #[.string ⟨#[]⟩] (((Question.appendCap 4 3 9).cut (w6.tape w6.drawn (Question.appendCap 4 3 9))) - 4)) := by
          have h := Blk.new ((w6.alloc (.cells #[.string ⟨wk.toArray⟩, .string ⟨ia.toArray⟩, .string ⟨ib.toArray⟩] 9)).alloc (.cells #[.string s] 9)) 9 (#[.string ⟨wk.toArray⟩, .string ⟨ia.toArray⟩, .string ⟨ib.toArray⟩, .string s] ++ Builtin.zeroCells #[.string ⟨#[]⟩] (((Question.appendCap 4 3 9).cut (w6.tape w6.drawn (Question.appendCap 4 3 9))) - 4))
          rw [show ((w6.alloc (.cells #[.string ⟨wk.toArray⟩, .string ⟨ia.toArray⟩, .string ⟨ib.toArray⟩] 9)).alloc (.cells #[.string s] 9)).heap.size = w6.heap.size + 1 + 1 by simp] at h
          exact h
        have hbl : Below w.heap.size w ((((w6.alloc (.cells #[.string ⟨wk.toArray⟩, .string ⟨ia.toArray⟩, .string ⟨ib.toArray⟩] 9)).alloc (.cells #[.string s] 9)).alloc (.cells (#[.string ⟨wk.toArray⟩, .string ⟨ia.toArray⟩, .string ⟨ib.toArray⟩, .string s] ++ Builtin.zeroCells #[.string ⟨#[]⟩] (((Question.appendCap 4 3 9).cut (w6.tape w6.drawn (Question.appendCap 4 3 9))) - 4)) 9)).drew) := (((HB6.out.alloc HB6.out.size _).alloc (by have := HB6.out.size; simp; omega) _).alloc (by have := HB6.out.size; simp; omega) _).drew
        have J := joined (w6.heap.size + 1 + 1) (((Question.appendCap 4 3 9).cut (w6.tape w6.drawn (Question.appendCap 4 3 9)))) wk ([ia, ib, s.data.toList] : List (List UInt8)) ((((w6.alloc (.cells #[.string ⟨wk.toArray⟩, .string ⟨ia.toArray⟩, .string ⟨ib.toArray⟩] 9)).alloc (.cells #[.string s] 9)).alloc (.cells (#[.string ⟨wk.toArray⟩, .string ⟨ia.toArray⟩, .string ⟨ib.toArray⟩, .string s] ++ Builtin.zeroCells #[.string ⟨#[]⟩] (((Question.appendCap 4 3 9).cut (w6.tape w6.drawn (Question.appendCap 4 3 9))) - 4)) 9)).drew) (fun j y hy => (hblk.cell j).trans (word_cells2 [wk, ia, ib, s.data.toList] (Builtin.zeroCells #[.string ⟨#[]⟩] (((Question.appendCap 4 3 9).cut (w6.tape w6.drawn (Question.appendCap 4 3 9))) - 4)).toList j y hy)) hblk.lt (by simp) (grownCap_ge w6 4 3 9) (by
          have h1 := HWL.out; have h2 := HLA.out; have h3 := HLB.out; have h4 := HSZ.out; have h5 : s.data.toList.length = s.size := rfl
          simp [Lib.lens]; omega)
        change Calls Tryd.prog 40 #[.slice (some ⟨w6.heap.size + 1 + 1, 0, none⟩) 4 ((Question.appendCap 4 3 9).cut (w6.tape w6.drawn (Question.appendCap 4 3 9))), _] _ _ at J
        have HJ := Lib.hid J
        have HBL := Lib.hid hbl
        clear J hblk hbl
        refine HJ.out.mono ?_
        rintro e w7 ⟨rfl, hb7⟩
        have HB7 := Lib.hid (HBL.out.trans (hb7.mono HBL.out.size))
        clear hb7
        go_wp2_with fail
        go_ret
        rw [HV.out]; exact ⟨rfl, HB7.out⟩
      · have HV0 : fmtB ⟨op, a, b, s⟩ = wk ++ ([ia] : List (List UInt8)).flatMap (32 :: ·) := HFM.out
        have HV : Hid (fmtB ⟨op, a, b, s⟩ = wk ++ 32 :: ia) := Lib.hid (by rw [HV0]; simp)
        clear HV0
        clear HFM
        go_wp2_with fail
        generalize w2.alloc _ = w3 at *
        clear HP0 HR0
        obtain ⟨d1, d2, d3, d4, d5, d6⟩ := HSW.out w3 (Below.refl _ _)
        have g0 : IntKind.i64.wrap (1 + 1) = 2 := by decide
        have g5 : IntKind.i64.wrap 2 = 2 := by decide
        have g6 : ((2 : Nat) : Int) = 2 := rfl
        have g1 : (0 : Int) ≤ ((2 : Nat) : Int) := by omega
        have g2 : ((2 : Nat) : Int) ≤ ((3 : Nat) : Int) := by omega
        have g3 : (0 : Int) ≤ 2 := by omega
        have g4 : (2 : Int) ≤ 3 := by omega
        go_region_held3 (fun y => y.cell? ⟨w.heap.size, 1, none⟩ = some (.int .i64 a) ∧ y.cell? ⟨w.heap.size, 2, none⟩ = some (.int .i64 b) ∧ y.cell? ⟨w.heap.size, 3, none⟩ = some (.string s) ∧ y.cell? ⟨w2.heap.size, 1, none⟩ = some (.string ⟨wk.toArray⟩) ∧ y.cell? ⟨w2.heap.size, 2, none⟩ = some (.int .i64 1) ∧ y.cell? ⟨w2.heap.size, 3, none⟩ = some (.bool false))
          (first | exact HSW.out _ (HX6.out.alloc HX6.out.size _) | exact HSW.out _ HX6.out | exact HSW.out _ HX5.out | exact HSW.out _ (Below.refl _ _).drew)
          (first
            | (go_at_call_of 39 a; refine (XA.out _ (HB3.out.trans ((Below.refl w3.heap.size w3).drew.mono HB3.out.size))).mono ?_; rintro e w5 ⟨rfl, hb5⟩; have HX5 := Lib.hid ((Below.refl w3.heap.size w3).drew.trans hb5); clear hb5)
            | (go_at_call_of 39 b; refine (XB.out _ (HB3.out.trans (HX5.out.mono HB3.out.size))).mono ?_; rintro e w6 ⟨rfl, hb6⟩; have HX6 := Lib.hid (HX5.out.trans (hb6.mono HX5.out.size)); clear hb6))
        clear d1 d2 d3 d4 d5 d6
        obtain ⟨d1, d2, d3, d4, d5, d6⟩ := HSW.out w6 HX6.out
        go_wp2_with fail
        have HB6 := Lib.hid (HB3.out.trans (HX6.out.mono HB3.out.size))
        have hblk : Blk (w6.alloc (.cells #[.string ⟨wk.toArray⟩, .string ⟨ia.toArray⟩, .string ⟨ib.toArray⟩] 9)) (w6.heap.size) 9 #[.string ⟨wk.toArray⟩, .string ⟨ia.toArray⟩, .string ⟨ib.toArray⟩] := Blk.new w6 _ _
        have hbl : Below w.heap.size w (w6.alloc (.cells #[.string ⟨wk.toArray⟩, .string ⟨ia.toArray⟩, .string ⟨ib.toArray⟩] 9)) := HB6.out.alloc HB6.out.size _
        have J := joined (w6.heap.size) (3) wk ([ia] : List (List UInt8)) (w6.alloc (.cells #[.string ⟨wk.toArray⟩, .string ⟨ia.toArray⟩, .string ⟨ib.toArray⟩] 9)) (fun j y hy => (hblk.cell j).trans (word_cells [wk, ia] [.string ⟨ib.toArray⟩] j y hy)) hblk.lt (by simp) (by simp) (by
          have h1 := HWL.out; have h2 := HLA.out; have h3 := HLB.out; have h4 := HSZ.out; have h5 : s.data.toList.length = s.size := rfl
          simp [Lib.lens]; omega)
        change Calls Tryd.prog 40 #[.slice (some ⟨w6.heap.size, 0, none⟩) 2 3, _] _ _ at J
        have HJ := Lib.hid J
        have HBL := Lib.hid hbl
        clear J hblk hbl
        refine HJ.out.mono ?_
        rintro e w7 ⟨rfl, hb7⟩
        have HB7 := Lib.hid (HBL.out.trans (hb7.mono HBL.out.size))
        clear hb7
        go_wp2_with fail
        go_ret
        rw [HV.out]; exact ⟨rfl, HB7.out⟩
      · have HV0 : fmtB ⟨op, a, b, s⟩ = wk ++ ([ia, s.data.toList] : List (List UInt8)).flatMap (32 :: ·) := HFM.out
        have HV : Hid (fmtB ⟨op, a, b, s⟩ = wk ++ 32 :: (ia ++ 32 :: s.data.toList)) := Lib.hid (by rw [HV0]; simp)
        clear HV0
        clear HFM
        go_wp2_with fail
        generalize w2.alloc _ = w3 at *
        clear HP0 HR0
        obtain ⟨d1, d2, d3, d4, d5, d6⟩ := HSW.out w3 (Below.refl _ _)
        have g0 : IntKind.i64.wrap (1 + 1) = 2 := by decide
        have g5 : IntKind.i64.wrap 2 = 2 := by decide
        have g6 : ((2 : Nat) : Int) = 2 := rfl
        have g1 : (0 : Int) ≤ ((2 : Nat) : Int) := by omega
        have g2 : ((2 : Nat) : Int) ≤ ((3 : Nat) : Int) := by omega
        have g3 : (0 : Int) ≤ 2 := by omega
        have g4 : (2 : Int) ≤ 3 := by omega
        go_region_held3 (fun y => y.cell? ⟨w.heap.size, 1, none⟩ = some (.int .i64 a) ∧ y.cell? ⟨w.heap.size, 2, none⟩ = some (.int .i64 b) ∧ y.cell? ⟨w.heap.size, 3, none⟩ = some (.string s) ∧ y.cell? ⟨w2.heap.size, 1, none⟩ = some (.string ⟨wk.toArray⟩) ∧ y.cell? ⟨w2.heap.size, 2, none⟩ = some (.int .i64 1) ∧ y.cell? ⟨w2.heap.size, 3, none⟩ = some (.bool true))
          (first | exact HSW.out _ (HX6.out.alloc HX6.out.size _) | exact HSW.out _ HX6.out | exact HSW.out _ HX5.out | exact HSW.out _ (Below.refl _ _).drew)
          (first
            | (go_at_call_of 39 a; refine (XA.out _ (HB3.out.trans ((Below.refl w3.heap.size w3).drew.mono HB3.out.size))).mono ?_; rintro e w5 ⟨rfl, hb5⟩; have HX5 := Lib.hid ((Below.refl w3.heap.size w3).drew.trans hb5); clear hb5)
            | (go_at_call_of 39 b; refine (XB.out _ (HB3.out.trans (HX5.out.mono HB3.out.size))).mono ?_; rintro e w6 ⟨rfl, hb6⟩; have HX6 := Lib.hid (HX5.out.trans (hb6.mono HX5.out.size)); clear hb6))
        clear d1 d2 d3 d4 d5 d6
        obtain ⟨d1, d2, d3, d4, d5, d6⟩ := HSW.out w6 HX6.out
        go_wp2_with fail
        have HB6 := Lib.hid (HB3.out.trans (HX6.out.mono HB3.out.size))
        have hblk : Blk ((w6.alloc (.cells #[.string ⟨wk.toArray⟩, .string ⟨ia.toArray⟩, .string s] 9)).alloc (.cells #[.string s] 9)) (w6.heap.size) 9 #[.string ⟨wk.toArray⟩, .string ⟨ia.toArray⟩, .string s] := (Blk.new w6 _ _).alloc _
        have hbl : Below w.heap.size w ((w6.alloc (.cells #[.string ⟨wk.toArray⟩, .string ⟨ia.toArray⟩, .string s] 9)).alloc (.cells #[.string s] 9)) := (HB6.out.alloc HB6.out.size _).alloc (by have := HB6.out.size; simp; omega) _
        have J := joined (w6.heap.size) (3) wk ([ia, s.data.toList] : List (List UInt8)) ((w6.alloc (.cells #[.string ⟨wk.toArray⟩, .string ⟨ia.toArray⟩, .string s] 9)).alloc (.cells #[.string s] 9)) (fun j y hy => (hblk.cell j).trans (word_cells [wk, ia, s.data.toList] [] j y hy)) hblk.lt (by simp) (by simp) (by
          have h1 := HWL.out; have h2 := HLA.out; have h3 := HLB.out; have h4 := HSZ.out; have h5 : s.data.toList.length = s.size := rfl
          simp [Lib.lens]; omega)
        change Calls Tryd.prog 40 #[.slice (some ⟨w6.heap.size, 0, none⟩) 3 3, _] _ _ at J
        have HJ := Lib.hid J
        have HBL := Lib.hid hbl
        clear J hblk hbl
        refine HJ.out.mono ?_
        rintro e w7 ⟨rfl, hb7⟩
        have HB7 := Lib.hid (HBL.out.trans (hb7.mono HBL.out.size))
        clear hb7
        go_wp2_with fail
        go_ret
        rw [HV.out]; exact ⟨rfl, HB7.out⟩
      · have HV0 : fmtB ⟨op, a, b, s⟩ = wk ++ ([] : List (List UInt8)).flatMap (32 :: ·) := HFM.out
        have HV : Hid (fmtB ⟨op, a, b, s⟩ = wk) := Lib.hid (by rw [HV0]; simp)
        clear HV0
        clear HFM
        go_wp2_with fail
        generalize w2.alloc _ = w3 at *
        clear HP0 HR0
        obtain ⟨d1, d2, d3, d4, d5, d6⟩ := HSW.out w3 (Below.refl _ _)
        have g0 : IntKind.i64.wrap (1 + 0) = 1 := by decide
        have g5 : IntKind.i64.wrap 1 = 1 := by decide
        have g6 : ((1 : Nat) : Int) = 1 := rfl
        have g1 : (0 : Int) ≤ ((1 : Nat) : Int) := by omega
        have g2 : ((1 : Nat) : Int) ≤ ((3 : Nat) : Int) := by omega
        have g3 : (0 : Int) ≤ 1 := by omega
        have g4 : (1 : Int) ≤ 3 := by omega
        go_region_held3 (fun y => y.cell? ⟨w.heap.size, 1, none⟩ = some (.int .i64 a) ∧ y.cell? ⟨w.heap.size, 2, none⟩ = some (.int .i64 b) ∧ y.cell? ⟨w.heap.size, 3, none⟩ = some (.string s) ∧ y.cell? ⟨w2.heap.size, 1, none⟩ = some (.string ⟨wk.toArray⟩) ∧ y.cell? ⟨w2.heap.size, 2, none⟩ = some (.int .i64 0) ∧ y.cell? ⟨w2.heap.size, 3, none⟩ = some (.bool false))
          (first | exact HSW.out _ (HX6.out.alloc HX6.out.size _) | exact HSW.out _ HX6.out | exact HSW.out _ HX5.out | exact HSW.out _ (Below.refl _ _).drew)
          (first
            | (go_at_call_of 39 a; refine (XA.out _ (HB3.out.trans ((Below.refl w3.heap.size w3).drew.mono HB3.out.size))).mono ?_; rintro e w5 ⟨rfl, hb5⟩; have HX5 := Lib.hid ((Below.refl w3.heap.size w3).drew.trans hb5); clear hb5)
            | (go_at_call_of 39 b; refine (XB.out _ (HB3.out.trans (HX5.out.mono HB3.out.size))).mono ?_; rintro e w6 ⟨rfl, hb6⟩; have HX6 := Lib.hid (HX5.out.trans (hb6.mono HX5.out.size)); clear hb6))
        clear d1 d2 d3 d4 d5 d6
        obtain ⟨d1, d2, d3, d4, d5, d6⟩ := HSW.out w6 HX6.out
        go_wp2_with fail
        have HB6 := Lib.hid (HB3.out.trans (HX6.out.mono HB3.out.size))
        have hblk : Blk (w6.alloc (.cells #[.string ⟨wk.toArray⟩, .string ⟨ia.toArray⟩, .string ⟨ib.toArray⟩] 9)) (w6.heap.size) 9 #[.string ⟨wk.toArray⟩, .string ⟨ia.toArray⟩, .string ⟨ib.toArray⟩] := Blk.new w6 _ _
        have hbl : Below w.heap.size w (w6.alloc (.cells #[.string ⟨wk.toArray⟩, .string ⟨ia.toArray⟩, .string ⟨ib.toArray⟩] 9)) := HB6.out.alloc HB6.out.size _
        have J := joined (w6.heap.size) (3) wk ([] : List (List UInt8)) (w6.alloc (.cells #[.string ⟨wk.toArray⟩, .string ⟨ia.toArray⟩, .string ⟨ib.toArray⟩] 9)) (fun j y hy => (hblk.cell j).trans (word_cells [wk] [.string ⟨ia.toArray⟩, .string ⟨ib.toArray⟩] j y hy)) hblk.lt (by simp) (by simp) (by
          have h1 := HWL.out; have h2 := HLA.out; have h3 := HLB.out; have h4 := HSZ.out; have h5 : s.data.toList.length = s.size := rfl
          simp [Lib.lens]; omega)
        change Calls Tryd.prog 40 #[.slice (some ⟨w6.heap.size, 0, none⟩) 1 3, _] _ _ at J
        have HJ := Lib.hid J
        have HBL := Lib.hid hbl
        clear J hblk hbl
        refine HJ.out.mono ?_
        rintro e w7 ⟨rfl, hb7⟩
        have HB7 := Lib.hid (HBL.out.trans (hb7.mono HBL.out.size))
        clear hb7
        go_wp2_with fail
        go_ret
        rw [HV.out]; exact ⟨rfl, HB7.out⟩
  · have HV := Lib.hid (HNO.out hno)
    have HBN : Hid (∀ o, Below w.heap.size w (w2.alloc o)) := Lib.hid fun o => HB2.out.alloc HB2.out.size o
    clear HROW HNO HRNG HREST
    go_wp2_with fail
    go_ret
    rw [HV.out]; exact ⟨rfl, HBN.out _⟩
end Go.Proofs.YtfdgmdijjifmiaaDoor.ins
