/- spec.FormatInstr. Condition: the name is no longer than the law's budget. -/
import Derived.Test.YtfdgmdijjifmiaaDoorProg
import Derived.Test.YtfdgmdijjifmiaaDoorNiR
import Derived.Test.YtfdgmdijjifmiaaDoorNiG
namespace Go.Proofs.YtfdgmdijjifmiaaDoor.ins
open Go.RowKit

theorem app32 (a b : List UInt8) : ((⟨a.toArray⟩ : ByteArray) ++ ⟨#[32]⟩) ++ ⟨b.toArray⟩ = ⟨(a ++ 32 :: b).toArray⟩ := by
  show ((⟨a.toArray⟩ : ByteArray) ++ ⟨[32].toArray⟩) ++ ⟨b.toArray⟩ = _
  rw [ByteArray.mk_append_mk, ByteArray.mk_append_mk, List.append_assoc]; rfl
theorem app32s (a : List UInt8) (s : ByteArray) : ((⟨a.toArray⟩ : ByteArray) ++ ⟨#[32]⟩) ++ s = ⟨(a ++ 32 :: s.data.toList).toArray⟩ := app32 a s.data.toList
set_option maxRecDepth 100000 in
set_option maxHeartbeats 4000000 in
/-- spec.FormatInstr. -/
theorem specFi_any (x : Ins) (hx : x.ok) (hsz : x.s.size ≤ 1048576) (w : World) :
    Calls Tryd.prog 9 #[.agg #[.int .i64 x.op, .int .i64 x.a, .int .i64 x.b, .string x.s]] w fun e w' => e = .returned (.string ⟨(fmtB x).toArray⟩) ∧ Below w.heap.size w w' := by
  have HROW : Hid (∀ k : Nat, k < 14 → x.op = (k + 1 : Nat) → fmtB x = if allB k x = true then wd k ++ (restW k x).flatMap (32 :: ·) else []) := Lib.hid fun k h1 h2 => fmtB_row h1 h2
  have HNO : Hid (¬ isOp x.op → fmtB x = []) := Lib.hid fmtB_no
  have HRNG : Hid (∀ k, allB k x = true → (-999 ≤ x.a ∧ x.a ≤ 999) ∧ (0 ≤ x.b ∧ x.b ≤ 999)) := Lib.hid fun k h => allB_range h
  have HREST : Hid (∀ k, restW k x = (if 1 ≤ nu k then [Lib.itoa x.a] else []) ++ (if 2 ≤ nu k then [Lib.itoa x.b] else []) ++ (if nm k = true then [x.s.data.toList] else [])) := Lib.hid fun _ => rfl
  have hs := hx.2.2.2
  clear hx
  obtain ⟨op, a, b, s⟩ := x
  simp only at *
  have hb0 : Below w.heap.size w (w.alloc (.cells #[.int .i64 op, .int .i64 a, .int .i64 b, .string s] 26)) := (Below.refl _ _).alloc (Nat.le_refl _) _
  have q0 := Blk.new w 26 #[.int .i64 op, .int .i64 a, .int .i64 b, .string s]
  have HB0 := Lib.hid hb0
  have HQ0 := Lib.hid q0
  have c0 := q0.cell 0
  have c1 := q0.cell 1
  have c2 := q0.cell 2
  have c3 := q0.cell 3
  simp only [List.getElem?_toArray, List.getElem?_cons_zero, List.getElem?_cons_succ] at c0 c1 c2 c3
  by_cases hop : isOp op
  · obtain ⟨k, hk, rfl⟩ : ∃ k : Nat, k < 14 ∧ op = (k : Int) + 1 := ⟨(op - 1).toNat, by unfold isOp at hop; omega, by unfold isOp at hop; omega⟩
    have C1 := fun w1 => instr_row k hk a b s hs w1
    have C2 := fun w1 => shape_any k hk w1
    have hfm := HROW.out k hk (by simp)
    have hrg := HRNG.out k
    have hwl := wd_len k hk
    have hnn := nu_nm k hk
    have hre := HREST.out k
    have HNM : Hid (namesV[k + 1]? = some (.string ⟨(wd k).toArray⟩)) := Lib.hid (namesV_at k hk)
    have HSH : Hid (shpK k = if nm k = true then (if nu k = 2 then ⟨#[97, 98, 110]⟩ else ⟨#[97, 110]⟩) else if nu k = 2 then ⟨#[97, 98]⟩ else if nu k = 1 then ⟨#[97]⟩ else ⟨#[]⟩) := Lib.hid rfl
    have H1 := Lib.hid C1
    have H2 := Lib.hid C2
    clear HROW HNO HRNG HREST hop C1 C2 hb0 q0
    cases hal : allB k ⟨(k : Int) + 1, a, b, s⟩ with
    | false =>
      rw [hal] at H1 hfm
      have HV : Hid (fmtB ⟨(k : Int) + 1, a, b, s⟩ = []) := Lib.hid (by rw [hfm, if_neg (by decide)])
      clear hfm hrg hwl hnn hre hal H2
      go_enter Tryd.func9, Tryd.ntmps9
      go_wp2_with fail
      refine (H1.out _).mono ?_
      rintro e w2 ⟨rfl, hb2⟩
      have HB2 := Lib.hid (HB0.out.trans (hb2.mono HB0.out.size))
      clear hb2
      go_wp2_with fail
      go_ret
      rw [HV.out]; exact ⟨rfl, HB2.out⟩
    | true =>
      rw [hal] at H1
      rw [hal, if_pos rfl, hre] at hfm
      obtain ⟨hra, hrb⟩ := hrg hal
      have HFM := Lib.hid hfm
      clear hfm hrg hre hal
      have HLA : Hid ((Lib.itoa a).length ≤ 21) := Lib.hid (Lib.itoa_length_le a (by omega) (by omega))
      have HLB : Hid ((Lib.itoa b).length ≤ 21) := Lib.hid (Lib.itoa_length_le b (by omega) (by omega))
      have XA := Lib.hid (fun w1 => dec.dec_any a hra w1)
      have XB := Lib.hid (fun w1 => dec.dec_any b ⟨by omega, hrb.2⟩ w1)
      generalize Lib.itoa a = ia at *
      generalize Lib.itoa b = ib at *
      generalize wd k = wk at *
      generalize shpK k = sh at *
      generalize nu k = u at *
      generalize nm k = z at *
      clear hra hrb hs
      have hwk : (⟨wk.toArray⟩ : ByteArray).size ≤ 6 := hwl
      have hia : (⟨ia.toArray⟩ : ByteArray).size ≤ 21 := HLA.out
      have hib : (⟨ib.toArray⟩ : ByteArray).size ≤ 21 := HLB.out
      have HS5 : s = ⟨s.data.toList.toArray⟩ := rfl
      have g1 : (0 : Int) ≤ (k : Int) + 1 := by omega
      have g2 : (k : Int) + 1 < 15 := by omega
      have g3 : (k : Int) + 1 < ((15 : Nat) : Int) := by omega
      have l1 : wk.length ≤ 6 := hwl
      have l2 : ia.length ≤ 21 := HLA.out
      have l3 : ib.length ≤ 21 := HLB.out
      clear HS5 hwl hwk hia hib
      rcases hnn with ⟨rfl, rfl⟩ | ⟨rfl, rfl⟩ | ⟨rfl, rfl⟩ | ⟨rfl, rfl⟩ | ⟨rfl, rfl⟩
      · have HV : Hid (fmtB ⟨(k : Int) + 1, a, b, s⟩ = wk ++ ([ia, ib] : List (List UInt8)).flatMap (32 :: ·)) := Lib.hid HFM.out
        obtain rfl : sh = ⟨#[97, 98]⟩ := HSH.out
        clear HFM HSH
        go_enter Tryd.func9, Tryd.ntmps9
        go_wp2_with fail
        refine (H1.out _).mono ?_
        rintro e w2 ⟨rfl, hb2⟩
        have HB2 := Lib.hid (HB0.out.trans (hb2.mono HB0.out.size))
        have HQ2 := Lib.hid (HQ0.out.below hb2 HQ0.out.lt)
        clear hb2 c0 c1 c2 c3
        have c0 := HQ2.out.cell 0
        simp only [List.getElem?_toArray, List.getElem?_cons_zero] at c0
        go_wp2_with fail
        have HN3 : Hid (∀ w1, Below w2.heap.size w2 w1 → w1.heap.size = w2.heap.size → ∀ w3, w3 = w1.alloc (.cells namesV 9) → w3.cell? ⟨w2.heap.size, k + 1, none⟩ = some (.string ⟨wk.toArray⟩) ∧ w3.cell? ⟨w.heap.size, 0, none⟩ = some (.int .i64 ((k : Int) + 1)) ∧ Below w.heap.size w w3 ∧ Blk w3 w.heap.size 26 #[.int .i64 ((k : Int) + 1), .int .i64 a, .int .i64 b, .string s]) := Lib.hid fun w1 h1 h2 w3 h3 => by
          have p1 := Blk.new w1 9 namesV
          have p2 := (HQ2.out.below h1 HQ2.out.lt).alloc (.cells namesV 9)
          have p3 := (HB2.out.trans (h1.mono HB2.out.size)).alloc (o := .cells namesV 9) (Nat.le_trans HB2.out.size h1.size)
          rw [← h3] at p1 p2 p3
          rw [h2] at p1
          exact ⟨(p1.cell (k + 1)).trans HNM.out, p2.cell 0, p3, p2⟩
        go_region_law (first
          | (go_simp
             go_at_call 35
             refine (names_any _).mono ?_
             rintro e w3 ⟨rfl, hw3⟩
             obtain ⟨n0, d0, hb3, hq3⟩ := HN3.out w2.drew (Below.refl _ _).drew rfl w3 hw3
             have HB3 := Lib.hid hb3
             have HQ3 := Lib.hid hq3
             clear hw3 hb3 hq3)
          | fail)
        all_goals
          go_wp2_with fail
          have HF : Hid ((((((⟨wk.toArray⟩ : ByteArray) ++ ⟨#[32]⟩) ++ ⟨ia.toArray⟩) ++ ⟨#[32]⟩) ++ ⟨ib.toArray⟩) = ⟨(wk ++ ([ia, ib] : List (List UInt8)).flatMap (32 :: ·)).toArray⟩) := Lib.hid (by
            have e : (((((⟨wk.toArray⟩ : ByteArray) ++ ⟨#[32]⟩) ++ ⟨ia.toArray⟩) ++ ⟨#[32]⟩) ++ ⟨ib.toArray⟩) = (⟨((wk ++ 32 :: ia) ++ 32 :: ib).toArray⟩ : ByteArray) := by
              rw [app32 (wk) ia, app32 (wk ++ 32 :: ia) ib]
            rw [e]; simp)
          have y1 := HQ3.out.cell 1
          have y2 := HQ3.out.cell 2
          have y3 := HQ3.out.cell 3
          simp only [List.getElem?_toArray, List.getElem?_cons_zero, List.getElem?_cons_succ] at y1 y2 y3
          refine (H2.out _).mono ?_
          rintro e w4 ⟨rfl, rfl⟩
          go_wp2_with fail
          refine (XA.out _).mono ?_
          rintro e w5 ⟨rfl, hb⟩
          have HB5 := Lib.hid (HB3.out.trans (hb.mono HB3.out.size))
          have HQ5 := Lib.hid (HQ3.out.below hb HQ3.out.lt)
          clear hb y1 y2 y3
          have y1 := HQ5.out.cell 1
          have y2 := HQ5.out.cell 2
          have y3 := HQ5.out.cell 3
          simp only [List.getElem?_toArray, List.getElem?_cons_zero, List.getElem?_cons_succ] at y1 y2 y3
          go_wp2_with fail
          refine (XB.out _).mono ?_
          rintro e w6 ⟨rfl, hb⟩
          have HB6 := Lib.hid (HB5.out.trans (hb.mono HB5.out.size))
          have HQ6 := Lib.hid (HQ5.out.below hb HQ5.out.lt)
          clear hb y1 y2 y3
          have y1 := HQ6.out.cell 1
          have y2 := HQ6.out.cell 2
          have y3 := HQ6.out.cell 3
          simp only [List.getElem?_toArray, List.getElem?_cons_zero, List.getElem?_cons_succ] at y1 y2 y3
          go_wp2_with fail
          go_ret
          rw [HV.out, ← HF.out]; exact ⟨rfl, HB6.out⟩
      · have HV : Hid (fmtB ⟨(k : Int) + 1, a, b, s⟩ = wk ++ ([ia, ib, s.data.toList] : List (List UInt8)).flatMap (32 :: ·)) := Lib.hid HFM.out
        obtain rfl : sh = ⟨#[97, 98, 110]⟩ := HSH.out
        clear HFM HSH
        go_enter Tryd.func9, Tryd.ntmps9
        go_wp2_with fail
        refine (H1.out _).mono ?_
        rintro e w2 ⟨rfl, hb2⟩
        have HB2 := Lib.hid (HB0.out.trans (hb2.mono HB0.out.size))
        have HQ2 := Lib.hid (HQ0.out.below hb2 HQ0.out.lt)
        clear hb2 c0 c1 c2 c3
        have c0 := HQ2.out.cell 0
        simp only [List.getElem?_toArray, List.getElem?_cons_zero] at c0
        go_wp2_with fail
        have HN3 : Hid (∀ w1, Below w2.heap.size w2 w1 → w1.heap.size = w2.heap.size → ∀ w3, w3 = w1.alloc (.cells namesV 9) → w3.cell? ⟨w2.heap.size, k + 1, none⟩ = some (.string ⟨wk.toArray⟩) ∧ w3.cell? ⟨w.heap.size, 0, none⟩ = some (.int .i64 ((k : Int) + 1)) ∧ Below w.heap.size w w3 ∧ Blk w3 w.heap.size 26 #[.int .i64 ((k : Int) + 1), .int .i64 a, .int .i64 b, .string s]) := Lib.hid fun w1 h1 h2 w3 h3 => by
          have p1 := Blk.new w1 9 namesV
          have p2 := (HQ2.out.below h1 HQ2.out.lt).alloc (.cells namesV 9)
          have p3 := (HB2.out.trans (h1.mono HB2.out.size)).alloc (o := .cells namesV 9) (Nat.le_trans HB2.out.size h1.size)
          rw [← h3] at p1 p2 p3
          rw [h2] at p1
          exact ⟨(p1.cell (k + 1)).trans HNM.out, p2.cell 0, p3, p2⟩
        go_region_law (first
          | (go_simp
             go_at_call 35
             refine (names_any _).mono ?_
             rintro e w3 ⟨rfl, hw3⟩
             obtain ⟨n0, d0, hb3, hq3⟩ := HN3.out w2.drew (Below.refl _ _).drew rfl w3 hw3
             have HB3 := Lib.hid hb3
             have HQ3 := Lib.hid hq3
             clear hw3 hb3 hq3)
          | fail)
        all_goals
          go_wp2_with fail
          have HF : Hid ((((((((⟨wk.toArray⟩ : ByteArray) ++ ⟨#[32]⟩) ++ ⟨ia.toArray⟩) ++ ⟨#[32]⟩) ++ ⟨ib.toArray⟩) ++ ⟨#[32]⟩) ++ s) = ⟨(wk ++ ([ia, ib, s.data.toList] : List (List UInt8)).flatMap (32 :: ·)).toArray⟩) := Lib.hid (by
            have e : (((((((⟨wk.toArray⟩ : ByteArray) ++ ⟨#[32]⟩) ++ ⟨ia.toArray⟩) ++ ⟨#[32]⟩) ++ ⟨ib.toArray⟩) ++ ⟨#[32]⟩) ++ s) = (⟨(((wk ++ 32 :: ia) ++ 32 :: ib) ++ 32 :: s.data.toList).toArray⟩ : ByteArray) := by
              rw [app32 (wk) ia, app32 (wk ++ 32 :: ia) ib, app32s]
            rw [e]; simp)
          have y1 := HQ3.out.cell 1
          have y2 := HQ3.out.cell 2
          have y3 := HQ3.out.cell 3
          simp only [List.getElem?_toArray, List.getElem?_cons_zero, List.getElem?_cons_succ] at y1 y2 y3
          refine (H2.out _).mono ?_
          rintro e w4 ⟨rfl, rfl⟩
          go_wp2_with fail
          refine (XA.out _).mono ?_
          rintro e w5 ⟨rfl, hb⟩
          have HB5 := Lib.hid (HB3.out.trans (hb.mono HB3.out.size))
          have HQ5 := Lib.hid (HQ3.out.below hb HQ3.out.lt)
          clear hb y1 y2 y3
          have y1 := HQ5.out.cell 1
          have y2 := HQ5.out.cell 2
          have y3 := HQ5.out.cell 3
          simp only [List.getElem?_toArray, List.getElem?_cons_zero, List.getElem?_cons_succ] at y1 y2 y3
          go_wp2_with fail
          refine (XB.out _).mono ?_
          rintro e w6 ⟨rfl, hb⟩
          have HB6 := Lib.hid (HB5.out.trans (hb.mono HB5.out.size))
          have HQ6 := Lib.hid (HQ5.out.below hb HQ5.out.lt)
          clear hb y1 y2 y3
          have y1 := HQ6.out.cell 1
          have y2 := HQ6.out.cell 2
          have y3 := HQ6.out.cell 3
          simp only [List.getElem?_toArray, List.getElem?_cons_zero, List.getElem?_cons_succ] at y1 y2 y3
          go_wp2_with fail
          go_ret
          rw [HV.out, ← HF.out]; exact ⟨rfl, HB6.out⟩
      · have HV : Hid (fmtB ⟨(k : Int) + 1, a, b, s⟩ = wk ++ ([ia] : List (List UInt8)).flatMap (32 :: ·)) := Lib.hid HFM.out
        obtain rfl : sh = ⟨#[97]⟩ := HSH.out
        clear HFM HSH
        go_enter Tryd.func9, Tryd.ntmps9
        go_wp2_with fail
        refine (H1.out _).mono ?_
        rintro e w2 ⟨rfl, hb2⟩
        have HB2 := Lib.hid (HB0.out.trans (hb2.mono HB0.out.size))
        have HQ2 := Lib.hid (HQ0.out.below hb2 HQ0.out.lt)
        clear hb2 c0 c1 c2 c3
        have c0 := HQ2.out.cell 0
        simp only [List.getElem?_toArray, List.getElem?_cons_zero] at c0
        go_wp2_with fail
        have HN3 : Hid (∀ w1, Below w2.heap.size w2 w1 → w1.heap.size = w2.heap.size → ∀ w3, w3 = w1.alloc (.cells namesV 9) → w3.cell? ⟨w2.heap.size, k + 1, none⟩ = some (.string ⟨wk.toArray⟩) ∧ w3.cell? ⟨w.heap.size, 0, none⟩ = some (.int .i64 ((k : Int) + 1)) ∧ Below w.heap.size w w3 ∧ Blk w3 w.heap.size 26 #[.int .i64 ((k : Int) + 1), .int .i64 a, .int .i64 b, .string s]) := Lib.hid fun w1 h1 h2 w3 h3 => by
          have p1 := Blk.new w1 9 namesV
          have p2 := (HQ2.out.below h1 HQ2.out.lt).alloc (.cells namesV 9)
          have p3 := (HB2.out.trans (h1.mono HB2.out.size)).alloc (o := .cells namesV 9) (Nat.le_trans HB2.out.size h1.size)
          rw [← h3] at p1 p2 p3
          rw [h2] at p1
          exact ⟨(p1.cell (k + 1)).trans HNM.out, p2.cell 0, p3, p2⟩
        go_region_law (first
          | (go_simp
             go_at_call 35
             refine (names_any _).mono ?_
             rintro e w3 ⟨rfl, hw3⟩
             obtain ⟨n0, d0, hb3, hq3⟩ := HN3.out w2.drew (Below.refl _ _).drew rfl w3 hw3
             have HB3 := Lib.hid hb3
             have HQ3 := Lib.hid hq3
             clear hw3 hb3 hq3)
          | fail)
        all_goals
          go_wp2_with fail
          have HF : Hid ((((⟨wk.toArray⟩ : ByteArray) ++ ⟨#[32]⟩) ++ ⟨ia.toArray⟩) = ⟨(wk ++ ([ia] : List (List UInt8)).flatMap (32 :: ·)).toArray⟩) := Lib.hid (by
            have e : (((⟨wk.toArray⟩ : ByteArray) ++ ⟨#[32]⟩) ++ ⟨ia.toArray⟩) = (⟨(wk ++ 32 :: ia).toArray⟩ : ByteArray) := by
              rw [app32 (wk) ia]
            rw [e]; simp)
          have y1 := HQ3.out.cell 1
          have y2 := HQ3.out.cell 2
          have y3 := HQ3.out.cell 3
          simp only [List.getElem?_toArray, List.getElem?_cons_zero, List.getElem?_cons_succ] at y1 y2 y3
          refine (H2.out _).mono ?_
          rintro e w4 ⟨rfl, rfl⟩
          go_wp2_with fail
          refine (XA.out _).mono ?_
          rintro e w5 ⟨rfl, hb⟩
          have HB5 := Lib.hid (HB3.out.trans (hb.mono HB3.out.size))
          have HQ5 := Lib.hid (HQ3.out.below hb HQ3.out.lt)
          clear hb y1 y2 y3
          have y1 := HQ5.out.cell 1
          have y2 := HQ5.out.cell 2
          have y3 := HQ5.out.cell 3
          simp only [List.getElem?_toArray, List.getElem?_cons_zero, List.getElem?_cons_succ] at y1 y2 y3
          go_wp2_with fail
          go_ret
          rw [HV.out, ← HF.out]; exact ⟨rfl, HB5.out⟩
      · have HV : Hid (fmtB ⟨(k : Int) + 1, a, b, s⟩ = wk ++ ([ia, s.data.toList] : List (List UInt8)).flatMap (32 :: ·)) := Lib.hid HFM.out
        obtain rfl : sh = ⟨#[97, 110]⟩ := HSH.out
        clear HFM HSH
        go_enter Tryd.func9, Tryd.ntmps9
        go_wp2_with fail
        refine (H1.out _).mono ?_
        rintro e w2 ⟨rfl, hb2⟩
        have HB2 := Lib.hid (HB0.out.trans (hb2.mono HB0.out.size))
        have HQ2 := Lib.hid (HQ0.out.below hb2 HQ0.out.lt)
        clear hb2 c0 c1 c2 c3
        have c0 := HQ2.out.cell 0
        simp only [List.getElem?_toArray, List.getElem?_cons_zero] at c0
        go_wp2_with fail
        have HN3 : Hid (∀ w1, Below w2.heap.size w2 w1 → w1.heap.size = w2.heap.size → ∀ w3, w3 = w1.alloc (.cells namesV 9) → w3.cell? ⟨w2.heap.size, k + 1, none⟩ = some (.string ⟨wk.toArray⟩) ∧ w3.cell? ⟨w.heap.size, 0, none⟩ = some (.int .i64 ((k : Int) + 1)) ∧ Below w.heap.size w w3 ∧ Blk w3 w.heap.size 26 #[.int .i64 ((k : Int) + 1), .int .i64 a, .int .i64 b, .string s]) := Lib.hid fun w1 h1 h2 w3 h3 => by
          have p1 := Blk.new w1 9 namesV
          have p2 := (HQ2.out.below h1 HQ2.out.lt).alloc (.cells namesV 9)
          have p3 := (HB2.out.trans (h1.mono HB2.out.size)).alloc (o := .cells namesV 9) (Nat.le_trans HB2.out.size h1.size)
          rw [← h3] at p1 p2 p3
          rw [h2] at p1
          exact ⟨(p1.cell (k + 1)).trans HNM.out, p2.cell 0, p3, p2⟩
        go_region_law (first
          | (go_simp
             go_at_call 35
             refine (names_any _).mono ?_
             rintro e w3 ⟨rfl, hw3⟩
             obtain ⟨n0, d0, hb3, hq3⟩ := HN3.out w2.drew (Below.refl _ _).drew rfl w3 hw3
             have HB3 := Lib.hid hb3
             have HQ3 := Lib.hid hq3
             clear hw3 hb3 hq3)
          | fail)
        all_goals
          go_wp2_with fail
          have HF : Hid ((((((⟨wk.toArray⟩ : ByteArray) ++ ⟨#[32]⟩) ++ ⟨ia.toArray⟩) ++ ⟨#[32]⟩) ++ s) = ⟨(wk ++ ([ia, s.data.toList] : List (List UInt8)).flatMap (32 :: ·)).toArray⟩) := Lib.hid (by
            have e : (((((⟨wk.toArray⟩ : ByteArray) ++ ⟨#[32]⟩) ++ ⟨ia.toArray⟩) ++ ⟨#[32]⟩) ++ s) = (⟨((wk ++ 32 :: ia) ++ 32 :: s.data.toList).toArray⟩ : ByteArray) := by
              rw [app32 (wk) ia, app32s]
            rw [e]; simp)
          have y1 := HQ3.out.cell 1
          have y2 := HQ3.out.cell 2
          have y3 := HQ3.out.cell 3
          simp only [List.getElem?_toArray, List.getElem?_cons_zero, List.getElem?_cons_succ] at y1 y2 y3
          refine (H2.out _).mono ?_
          rintro e w4 ⟨rfl, rfl⟩
          go_wp2_with fail
          refine (XA.out _).mono ?_
          rintro e w5 ⟨rfl, hb⟩
          have HB5 := Lib.hid (HB3.out.trans (hb.mono HB3.out.size))
          have HQ5 := Lib.hid (HQ3.out.below hb HQ3.out.lt)
          clear hb y1 y2 y3
          have y1 := HQ5.out.cell 1
          have y2 := HQ5.out.cell 2
          have y3 := HQ5.out.cell 3
          simp only [List.getElem?_toArray, List.getElem?_cons_zero, List.getElem?_cons_succ] at y1 y2 y3
          go_wp2_with fail
          go_ret
          rw [HV.out, ← HF.out]; exact ⟨rfl, HB5.out⟩
      · have HV : Hid (fmtB ⟨(k : Int) + 1, a, b, s⟩ = wk ++ ([] : List (List UInt8)).flatMap (32 :: ·)) := Lib.hid HFM.out
        obtain rfl : sh = ⟨#[]⟩ := HSH.out
        clear HFM HSH
        go_enter Tryd.func9, Tryd.ntmps9
        go_wp2_with fail
        refine (H1.out _).mono ?_
        rintro e w2 ⟨rfl, hb2⟩
        have HB2 := Lib.hid (HB0.out.trans (hb2.mono HB0.out.size))
        have HQ2 := Lib.hid (HQ0.out.below hb2 HQ0.out.lt)
        clear hb2 c0 c1 c2 c3
        have c0 := HQ2.out.cell 0
        simp only [List.getElem?_toArray, List.getElem?_cons_zero] at c0
        go_wp2_with fail
        have HN3 : Hid (∀ w1, Below w2.heap.size w2 w1 → w1.heap.size = w2.heap.size → ∀ w3, w3 = w1.alloc (.cells namesV 9) → w3.cell? ⟨w2.heap.size, k + 1, none⟩ = some (.string ⟨wk.toArray⟩) ∧ w3.cell? ⟨w.heap.size, 0, none⟩ = some (.int .i64 ((k : Int) + 1)) ∧ Below w.heap.size w w3 ∧ Blk w3 w.heap.size 26 #[.int .i64 ((k : Int) + 1), .int .i64 a, .int .i64 b, .string s]) := Lib.hid fun w1 h1 h2 w3 h3 => by
          have p1 := Blk.new w1 9 namesV
          have p2 := (HQ2.out.below h1 HQ2.out.lt).alloc (.cells namesV 9)
          have p3 := (HB2.out.trans (h1.mono HB2.out.size)).alloc (o := .cells namesV 9) (Nat.le_trans HB2.out.size h1.size)
          rw [← h3] at p1 p2 p3
          rw [h2] at p1
          exact ⟨(p1.cell (k + 1)).trans HNM.out, p2.cell 0, p3, p2⟩
        go_region_law (first
          | (go_simp
             go_at_call 35
             refine (names_any _).mono ?_
             rintro e w3 ⟨rfl, hw3⟩
             obtain ⟨n0, d0, hb3, hq3⟩ := HN3.out w2.drew (Below.refl _ _).drew rfl w3 hw3
             have HB3 := Lib.hid hb3
             have HQ3 := Lib.hid hq3
             clear hw3 hb3 hq3)
          | fail)
        all_goals
          go_wp2_with fail
          have HF : Hid ((⟨wk.toArray⟩ : ByteArray) = ⟨(wk ++ ([] : List (List UInt8)).flatMap (32 :: ·)).toArray⟩) := Lib.hid (by
            have e : (⟨wk.toArray⟩ : ByteArray) = (⟨wk.toArray⟩ : ByteArray) := by
              rfl
            rw [e]; simp)
          have y1 := HQ3.out.cell 1
          have y2 := HQ3.out.cell 2
          have y3 := HQ3.out.cell 3
          simp only [List.getElem?_toArray, List.getElem?_cons_zero, List.getElem?_cons_succ] at y1 y2 y3
          refine (H2.out _).mono ?_
          rintro e w4 ⟨rfl, rfl⟩
          go_wp2_with fail
          go_ret
          rw [HV.out, ← HF.out]; exact ⟨rfl, HB3.out⟩
  · have H1 := Lib.hid (fun w1 => instr_no op a b s hop w1)
    have HV := Lib.hid (HNO.out hop)
    clear HROW HNO HRNG HREST hop hb0 q0 hs
    go_enter Tryd.func9, Tryd.ntmps9
    go_wp2_with fail
    refine (H1.out _).mono ?_
    rintro e w2 ⟨rfl, hb2⟩
    have HB2 := Lib.hid (HB0.out.trans (hb2.mono HB0.out.size))
    clear hb2
    go_wp2_with fail
    go_ret
    rw [HV.out]; exact ⟨rfl, HB2.out⟩
end Go.Proofs.YtfdgmdijjifmiaaDoor.ins
