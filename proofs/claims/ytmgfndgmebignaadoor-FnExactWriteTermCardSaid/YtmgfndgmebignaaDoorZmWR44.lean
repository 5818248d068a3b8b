/- The model's texts of terms: spec.l1Text, l1List, FormatTerm. Condition: the term lies in memory. -/
import Derived.Test.YtmgfndgmebignaaDoorProg
import Derived.Test.YtmgfndgmebignaaDoorZmWR43
import Derived.Test.YtmgfndgmebignaaDoorTxQ
import Derived.Test.YtmgfndgmebignaaDoorSpecC
import Derived.Test.YtmgfndgmebignaaDoorTb
import Derived.Test.YtmgfndgmebignaaDoorAll
namespace Go.Proofs.YtmgfndgmebignaaDoor
open Go.RowKit

def strLen : Value → Nat | .string b => b.size | _ => 0
theorem strLen_mk (l : List UInt8) : strLen (.string ⟨l.toArray⟩) = l.length := by simp [strLen, ByteArray.size]
def TxC (s : ByteArray) (f : Fr) : Prop := ∀ (k n : Int) (A : Option Addr) (cap lo hi : Nat) (d : Int) (w : World), KidsAt w lo hi f A cap → hi ≤ w.heap.size → shapeT k n s f d = true → nodes f ≤ 1048576 →
  Calls Tryd.prog 27 #[.agg #[.int .i64 k, .int .i64 n, .string s, .slice A f.len cap]] w fun e w' => e = .returned (.string ⟨(txT k n s f).toArray⟩) ∧ Below w.heap.size w w'

set_option maxRecDepth 100000 in
set_option maxHeartbeats 4000000 in
/-- spec.l1List. -/
theorem list_of (s : ByteArray) (f : Fr) (h : ∀ s' f', f'.size < f.size → TxC s' f') (k n : Int) (A : Option Addr) (cap lo hi : Nat) (d : Int) (w : World) (hk : KidsAt w lo hi f A cap) (hh : hi ≤ w.heap.size) (hp : pairB k s f.len = true) (hs : shapeT k n s f d = true) (hnd : nodes f ≤ 1048576) :
    Calls Tryd.prog 42 #[.agg #[.int .i64 k, .int .i64 n, .string s, .slice A f.len cap]] w fun e w' => e = .returned (.string ⟨(txT k n s f).toArray⟩) ∧ Below w.heap.size w w' := by
  have hGl := (txT_shape hs).1
  obtain ⟨k1, n1, s1, kd1, k2, n2, s2, kd2, rfl, _, _⟩ := pair_yes n hp
  have hG : txT k n s (.cons k1 n1 s1 kd1 (.cons k2 n2 s2 kd2 .nil)) = 91 :: (txT k1 n1 s1 kd1 ++ (tlT k2 n2 s2 kd2 ++ [93])) := txT_pair n hp
  have hsk := shapeT_kids hs
  rw [shapeF_cons, shapeF_cons, Bool.and_eq_true, Bool.and_eq_true] at hsk
  have hsz1 : kd1.size < (Fr.cons k1 n1 s1 kd1 (.cons k2 n2 s2 kd2 .nil)).size := by simp only [Fr.size]; omega
  have hsz2 : kd2.size < (Fr.cons k1 n1 s1 kd1 (.cons k2 n2 s2 kd2 .nil)).size := by simp only [Fr.size]; omega
  have hGl2 : (txT k n s (.cons k1 n1 s1 kd1 (.cons k2 n2 s2 kd2 .nil))).length ≤ 67108864 := by omega
  generalize hGG : txT k n s (.cons k1 n1 s1 kd1 (.cons k2 n2 s2 kd2 .nil)) = G at *
  generalize (Fr.cons k1 n1 s1 kd1 (.cons k2 n2 s2 kd2 .nil)).size = SZ at *
  clear hGG hs hp hGl
  have hln : (Fr.cons k1 n1 s1 kd1 (.cons k2 n2 s2 kd2 .nil)).len = 2 := rfl
  rw [hln]
  obtain ⟨b, o, rfl, hlb, hbb, hrow⟩ := hk.2.2 (by rw [hln]; omega)
  have hcap := hk.2.1
  have hcap2 := hk.1
  rw [hln] at hcap2
  unfold maxLen at hcap
  obtain ⟨hfit1, A1, cp1, c0, c1, c2, c3, hkid1⟩ := hrow.elem (i := 0) rfl
  simp only [Nat.zero_mul, Nat.add_zero] at c0 c1 c2 c3
  have hb0 : Below w.heap.size w (w.alloc (.cells #[.int .i64 k, .int .i64 n, .string s, .slice (some ⟨b, o, none⟩) 2 cap] 29)) := (Below.refl _ _).alloc (Nat.le_refl _) _
  have hq0 := Blk.new w 29 #[.int .i64 k, .int .i64 n, .string s, .slice (some ⟨b, o, none⟩) 2 cap]
  have hlo : b < w.heap.size := Nat.lt_of_lt_of_le hbb hh
  have x3 := hq0.cell 3
  simp only [List.getElem?_toArray, List.getElem?_cons_zero, List.getElem?_cons_succ] at x3
  have k0 := (hb0.cell (p := ⟨b, o, none⟩) hlo).trans c0
  have k1' := (hb0.cell (p := ⟨b, o + 1, none⟩) hlo).trans c1
  have k2' := (hb0.cell (p := ⟨b, o + 2, none⟩) hlo).trans c2
  have k3 := (hb0.cell (p := ⟨b, o + 3, none⟩) hlo).trans c3
  have hnd1 : nodes kd1 ≤ 1048576 ∧ nodes kd2 ≤ 1048576 := by simp only [nodes] at hnd; omega
  have C1 := h s1 kd1 hsz1 k1 n1 A1 cp1 lo hi (d - 1) _ (hkid1.below hb0 hh) (Nat.le_trans hh hb0.size) hsk.1 hnd1.1
  have H := Lib.hid h
  have HG := Lib.hid hG
  have H1 := Lib.hid C1
  have HHI := Lib.hid hh
  have HB0 := Lib.hid hb0
  have HQ0 := Lib.hid hq0
  have HK := Lib.hid hk
  have HS2 := Lib.hid hsk.2.1
  have HZ2 := Lib.hid hsz2
  have HN2 := Lib.hid hnd1.2
  have hl1 : (txT k1 n1 s1 kd1).length ≤ 67108864 := by have := congrArg List.length hG; simp at this; omega
  clear h hG C1 hk hnd hb0 hq0 hrow hsk hsz1 hsz2 c0 c1 c2 c3 hkid1 hfit1 hnd1 hh
  go_enter Tryd.func42, Tryd.ntmps42
  go_wp2_with fail
  refine H1.out.mono ?_
  rintro e w2 ⟨rfl, hb⟩
  have HQ2 := Lib.hid (HQ0.out.below hb HQ0.out.lt)
  have HB2 := Lib.hid (HB0.out.trans (hb.mono HB0.out.size))
  clear hb x3 k0 k1' k2' k3
  generalize hT1 : txT k1 n1 s1 kd1 = T1 at *
  go_wp2_with fail
  go_loopw [3] (fun ov wr => ∃ (L : List UInt8) (k' n' : Int) (s' : ByteArray) (cap' : Nat) (b o : Nat) (k1 n1 : Int) (s1 : ByteArray) (kd1 : Fr) (k2 n2 : Int) (s2 : ByteArray) (kd2 : Fr) (d2 : Int), ov = .string ⟨L.toArray⟩ ∧ Blk wr w.heap.size 29 #[.int .i64 k', .int .i64 n', .string s', .slice (some ⟨b, o, none⟩) 2 cap'] ∧
      KidsAt w lo hi (.cons k1 n1 s1 kd1 (.cons k2 n2 s2 kd2 .nil)) (some ⟨b, o, none⟩) cap' ∧ kd2.size < SZ ∧ nodes kd2 ≤ 1048576 ∧ shapeT k2 n2 s2 kd2 d2 = true ∧ L ++ (tlT k2 n2 s2 kd2 ++ [93]) = G ∧ Below w.heap.size w wr) (fun ov _ => G.length - strLen ov)
  case atStart => exact ⟨91 :: T1, _, _, _, _, _, _, _, _, _, _, _, _, _, _, _, str_app [91] T1, HQ2.out, HK.out, HZ2.out, HN2.out, HS2.out, by rw [HG.out]; rfl, HB2.out⟩
  case round =>
    obtain ⟨L, k', n', s', cap', b, o, k1, n1, s1, kd1, k2, n2, s2, kd2, d2, rfl, hq, hk, hsz, hnd, hsh, hL, hb⟩ := hrel
    have hLl : L.length + (tlT k2 n2 s2 kd2).length ≤ 67108864 := by have := congrArg List.length hL; simp at this; omega
    obtain ⟨b', o', e, hlb, hbb, hrow⟩ := hk.2.2 (by simp [Fr.len])
    simp only [Option.some.injEq, Addr.mk.injEq, and_true] at e
    obtain ⟨rfl, rfl⟩ := e
    have hcap2 : 2 ≤ cap' := hk.1
    have hcap := hk.2.1
    unfold maxLen at hcap
    obtain ⟨hfit2, A2, cp2, c0, c1, c2, c3, hkid2⟩ := hrow.elem (i := 1) rfl
    simp only [Nat.one_mul] at c0 c1 c2 c3
    have hlo : b < w.heap.size := Nat.lt_of_lt_of_le hbb HHI.out
    have K : ∀ x, Below w.heap.size w x → x.cell? ⟨b, o + 4, none⟩ = some (.int .i64 k2) ∧ x.cell? ⟨b, o + 4 + 1, none⟩ = some (.int .i64 n2) ∧ x.cell? ⟨b, o + 4 + 2, none⟩ = some (.string s2) ∧ x.cell? ⟨b, o + 4 + 3, none⟩ = some (.slice A2 kd2.len cp2) := fun x hb =>
      ⟨(hb.cell (p := ⟨b, o + 4, none⟩) hlo).trans c0, (hb.cell (p := ⟨b, o + 4 + 1, none⟩) hlo).trans c1, (hb.cell (p := ⟨b, o + 4 + 2, none⟩) hlo).trans c2, (hb.cell (p := ⟨b, o + 4 + 3, none⟩) hlo).trans c3⟩
    obtain ⟨x0, x1, x2, x3⟩ : _ := (⟨hq.cell 0, hq.cell 1, hq.cell 2, hq.cell 3⟩ : _ ∧ _ ∧ _ ∧ _)
    simp only [List.getElem?_toArray, List.getElem?_cons_zero, List.getElem?_cons_succ] at x0 x1 x2 x3
    obtain ⟨y0, y1, y2, y3⟩ := K wr hb
    have HKK := Lib.hid K
    have HQ := Lib.hid hq
    have HB := Lib.hid hb
    have HL := Lib.hid hL
    have HKID := Lib.hid hkid2
    have HSH := Lib.hid hsh
    have HSZ := Lib.hid hsz
    have HND := Lib.hid hnd
    have C2 := pair_any k2 n2 s2 A2 kd2.len cp2 wr
    have hs0 := hq.lt
    clear hk hrow c0 c1 c2 c3 hfit2 K hq hb hL hkid2 hsh hsz hnd
    cases hpb : pairB k2 s2 kd2.len
    · rw [hpb] at C2
      have H2 := Lib.hid C2
      have HPB := Lib.hid hpb
      have C4 := fun w1 => nil_any k2 n2 s2 A2 kd2.len cp2 w1
      have HTL : Hid (tlT k2 n2 s2 kd2 = endB k2 n2 s2 kd2) := Lib.hid (tlT_not hpb)
      clear C2 hpb
      go_wp2_with fail
      refine H2.out.mono ?_
      rintro e w3 ⟨rfl, hb3⟩
      have hb3w := HB.out.trans (hb3.mono HB.out.size)
      have hq3 := HQ.out.below hb3 HQ.out.lt
      clear x0 x1 x2 x3 y0 y1 y2 y3
      have x3 := hq3.cell 3
      simp only [List.getElem?_toArray, List.getElem?_cons_zero, List.getElem?_cons_succ] at x3
      obtain ⟨y0, y1, y2, y3⟩ := HKK.out w3 hb3w
      have HQ3 := Lib.hid hq3
      have HB3 := Lib.hid hb3w
      clear hb3 hb3w hq3
      cases hnb : nilB k2 s2 kd2.len
      · rw [hnb] at C4
        have H4 := Lib.hid C4
        have HV : Hid (L ++ (124 :: (txT k2 n2 s2 kd2 ++ [93])) = G) := Lib.hid (by
          rw [← HL.out, HTL.out]
          unfold endB
          rw [hnb]
          rfl)
        have hl2 : L.length + (txT k2 n2 s2 kd2).length ≤ 67108864 := by have := congrArg List.length HV.out; simp at this; omega
        clear C4 hnb
        go_wp2_with fail
        refine (H4.out w3).mono ?_
        rintro e w4 ⟨rfl, hb4⟩
        have hb4w := HB3.out.trans (hb4.mono HB3.out.size)
        have hq4 := HQ3.out.below hb4 HQ3.out.lt
        have C5 := H.out s2 kd2 HSZ.out k2 n2 A2 cp2 lo hi d2 w4 (HKID.out.below hb4w HHI.out) (Nat.le_trans HHI.out hb4w.size) HSH.out HND.out
        clear x3 y0 y1 y2 y3
        have x3 := hq4.cell 3
        simp only [List.getElem?_toArray, List.getElem?_cons_zero, List.getElem?_cons_succ] at x3
        obtain ⟨y0, y1, y2, y3⟩ := HKK.out w4 hb4w
        have H5 := Lib.hid C5
        have HB4 := Lib.hid hb4w
        clear hb4 hb4w hq4 C5
        generalize txT k2 n2 s2 kd2 = T2 at *
        go_wp2_with fail
        refine H5.out.mono ?_
        rintro e w5 ⟨rfl, hb5⟩
        have HB5 := Lib.hid (HB4.out.trans (hb5.mono HB4.out.size))
        clear hb5
        go_wp2_with fail
        go_ret
        rw [← HV.out]
        refine ⟨?_, HB5.out⟩
        have e1 := ByteArray.mk_append_mk L [124]
        have e2 := ByteArray.mk_append_mk (L ++ [124]) T2
        have e3 := ByteArray.mk_append_mk (L ++ [124] ++ T2) [93]
        simp only [List.append_assoc] at e1 e2 e3
        rw [show (⟨#[124]⟩ : ByteArray) = ⟨[124].toArray⟩ from rfl, show (⟨#[93]⟩ : ByteArray) = ⟨[93].toArray⟩ from rfl, e1, e2, e3]; simp
      · rw [hnb] at C4
        have H4 := Lib.hid C4
        have HV : Hid (L ++ [93] = G) := Lib.hid (by
          rw [← HL.out, HTL.out]
          unfold endB
          rw [hnb]
          rfl)
        clear C4 hnb
        go_wp2_with fail
        refine (H4.out w3).mono ?_
        rintro e w4 ⟨rfl, hb4⟩
        have HB4 := Lib.hid (HB3.out.trans (hb4.mono HB3.out.size))
        clear hb4
        go_wp2_with fail
        go_ret
        rw [← HV.out, ← ByteArray.mk_append_mk]
        exact ⟨rfl, HB4.out⟩
    · rw [hpb] at C2
      have H2 := Lib.hid C2
      obtain ⟨hl2, rfl, _⟩ := pairB_len hpb
      obtain ⟨k3, n3, s3, kd3, k4, n4, s4, kd4, rfl, _, _⟩ := pair_yes n2 hpb
      have hln3 : (Fr.cons k3 n3 s3 kd3 (.cons k4 n4 s4 kd4 .nil)).len = 2 := rfl
      rw [hln3] at *
      have htl : tlT 3 n2 s2 (.cons k3 n3 s3 kd3 (.cons k4 n4 s4 kd4 .nil)) = 44 :: (txT k3 n3 s3 kd3 ++ tlT k4 n4 s4 kd4) := tlT_pair n2 hpb
      have hsh2 := shapeT_kids HSH.out
      rw [shapeF_cons, shapeF_cons, Bool.and_eq_true, Bool.and_eq_true] at hsh2
      have hszs : kd3.size < SZ ∧ kd4.size < SZ := by have := HSZ.out; simp only [Fr.size] at this; omega
      have hnds : nodes kd3 ≤ 1048576 ∧ nodes kd4 ≤ 1048576 := by have := HND.out; simp only [nodes] at this; omega
      obtain ⟨b3, o3, rfl, _, hbb3, hrow3⟩ := HKID.out.2.2 (by simp [Fr.len])
      have hcap3 : 2 ≤ cp2 := HKID.out.1
      have hcap4 := HKID.out.2.1
      unfold maxLen at hcap4
      obtain ⟨_, A3, cp3, c0, c1, c2, c3, hkid3⟩ := hrow3.elem (i := 0) rfl
      simp only [Nat.zero_mul, Nat.add_zero] at c0 c1 c2 c3
      have hlo3 : b3 < w.heap.size := Nat.lt_of_lt_of_le hbb3 HHI.out
      have HV : Hid ((L ++ 44 :: txT k3 n3 s3 kd3) ++ (tlT k4 n4 s4 kd4 ++ [93]) = G) := Lib.hid (by rw [← HL.out, htl]; simp)
      have hl3 : L.length + 1 + (txT k3 n3 s3 kd3).length ≤ G.length := by have := congrArg List.length HV.out; simp at this; omega
      have K3 : ∀ x, Below w.heap.size w x → x.cell? ⟨b3, o3, none⟩ = some (.int .i64 k3) ∧ x.cell? ⟨b3, o3 + 1, none⟩ = some (.int .i64 n3) ∧ x.cell? ⟨b3, o3 + 2, none⟩ = some (.string s3) ∧ x.cell? ⟨b3, o3 + 3, none⟩ = some (.slice A3 kd3.len cp3) := fun x hb =>
        ⟨(hb.cell (p := ⟨b3, o3, none⟩) hlo3).trans c0, (hb.cell (p := ⟨b3, o3 + 1, none⟩) hlo3).trans c1, (hb.cell (p := ⟨b3, o3 + 2, none⟩) hlo3).trans c2, (hb.cell (p := ⟨b3, o3 + 3, none⟩) hlo3).trans c3⟩
      have C5 := fun w4 (hb : Below w.heap.size w w4) => H.out s3 kd3 hszs.1 k3 n3 A3 cp3 lo hi _ w4 (hkid3.below hb HHI.out) (Nat.le_trans HHI.out hb.size) hsh2.1 hnds.1
      have HS4 := Lib.hid hsh2.2.1
      have HZ4 := Lib.hid hszs.2
      have HN4 := Lib.hid hnds.2
      have HK3 := Lib.hid K3
      have H5 := Lib.hid C5
      clear C2 hpb htl hsh2 hszs hnds hrow3 c0 c1 c2 c3 hkid3 K3 C5
      go_wp2_with fail
      refine H2.out.mono ?_
      rintro e w3 ⟨rfl, hb3⟩
      have hb3w := HB.out.trans (hb3.mono HB.out.size)
      have hq3 := HQ.out.below hb3 HQ.out.lt
      clear x0 x1 x2 x3 y0 y1 y2 y3
      obtain ⟨x0, x1, x2, x3⟩ : _ := (⟨hq3.cell 0, hq3.cell 1, hq3.cell 2, hq3.cell 3⟩ : _ ∧ _ ∧ _ ∧ _)
      simp only [List.getElem?_toArray, List.getElem?_cons_zero, List.getElem?_cons_succ] at x0 x1 x2 x3
      obtain ⟨y0, y1, y2, y3⟩ := HKK.out w3 hb3w
      obtain ⟨f0, f1, f2, f3⟩ := frozen4 hq3
      have hset : ∀ a0 a1 a2 a3, Below w.heap.size w ((((w3.setCell ⟨w.heap.size, 0, none⟩ a0).setCell ⟨w.heap.size, 1, none⟩ a1).setCell ⟨w.heap.size, 2, none⟩ a2).setCell ⟨w.heap.size, 3, none⟩ a3) ∧ Blk ((((w3.setCell ⟨w.heap.size, 0, none⟩ a0).setCell ⟨w.heap.size, 1, none⟩ a1).setCell ⟨w.heap.size, 2, none⟩ a2).setCell ⟨w.heap.size, 3, none⟩ a3) w.heap.size 29 #[a0, a1, a2, a3] := fun a0 a1 a2 a3 =>
        ⟨(((hb3w.setCell (Nat.le_refl _) _).setCell (Nat.le_refl _) _).setCell (Nat.le_refl _) _).setCell (Nat.le_refl _) _, set4 hq3 a0 a1 a2 a3⟩
      have hs4 := hset (.int .i64 3) (.int .i64 n2) (.string s2) (.slice (some ⟨b3, o3, none⟩) 2 cp2)
      obtain ⟨z0, z1, z2, z3⟩ := HK3.out _ hs4.1
      have z4 := hs4.2.cell 3
      simp only [List.getElem?_toArray, List.getElem?_cons_zero, List.getElem?_cons_succ] at z4
      have C6 := H5.out _ hs4.1
      have H6 := Lib.hid C6
      have HS := Lib.hid hs4
      clear hb3 hb3w hq3 hset hs4 C6
      go_wp2_with fail
      refine H6.out.mono ?_
      rintro e w5 ⟨rfl, hb5⟩
      have hb5w := HS.out.1.trans (hb5.mono HS.out.1.size)
      have hq5 := HS.out.2.below hb5 HS.out.2.lt
      have HB5 := Lib.hid hb5w
      have HQ5 := Lib.hid hq5
      clear hb5 hb5w hq5 x0 x1 x2 x3 y0 y1 y2 y3 z0 z1 z2 z3 z4 f0 f1 f2 f3
      have HSTR : Hid (∀ T : List UInt8, (.string ((⟨L.toArray⟩ ++ ⟨#[44]⟩) ++ ⟨T.toArray⟩) : Value) = .string ⟨(L ++ 44 :: T).toArray⟩) := Lib.hid fun T => by
        rw [show (⟨#[44]⟩ : ByteArray) = ⟨[44].toArray⟩ from rfl, ByteArray.mk_append_mk, ByteArray.mk_append_mk]
        simp
      generalize txT k3 n3 s3 kd3 = T3 at *
      go_wp2_with fail
      go_roundw
      case rel => exact ⟨L ++ 44 :: T3, _, _, _, _, _, _, _, _, _, _, _, _, _, _, _, HSTR.out T3, HQ5.out, HKID.out, HZ4.out, HN4.out, HS4.out, HV.out, HB5.out⟩
      case measure =>
        rw [HSTR.out T3, strLen_mk, strLen_mk]
        simp only [List.length_append, List.length_cons]
        omega

set_option maxRecDepth 100000 in
set_option maxHeartbeats 4000000 in
/-- spec.l1Text. -/
theorem txt_of (s : ByteArray) (f : Fr) (h : ∀ s' f', f'.size < f.size → TxC s' f') : TxC s f := by
  intro k n A cap lo hi d w hk hh hs hnd
  have hb0 : Below w.heap.size w (w.alloc (.cells #[.int .i64 k, .int .i64 n, .string s, .slice A f.len cap] 29)) := (Below.refl _ _).alloc (Nat.le_refl _) _
  have hq0 := Blk.new w 29 #[.int .i64 k, .int .i64 n, .string s, .slice A f.len cap]
  obtain ⟨x0, x1, x2, x3⟩ : _ := (⟨hq0.cell 0, hq0.cell 1, hq0.cell 2, hq0.cell 3⟩ : _ ∧ _ ∧ _ ∧ _)
  simp only [List.getElem?_toArray, List.getElem?_cons_zero, List.getElem?_cons_succ] at x0 x1 x2 x3
  have hGl := (txT_shape hs).1
  rcases shapeT_kind3 hs with ⟨rfl, hn⟩ | ⟨rfl, hn⟩ | rfl
  · have C1 := fun w1 => letter_any2 n hn w1
    have HV : Hid (txT 1 n s f = letB n) := Lib.hid (txT_var n s f)
    have H1 := Lib.hid C1
    have HB0 := Lib.hid hb0
    clear C1 hk hs hnd h hGl hq0 hb0
    generalize f.len = fl at *
    go_enter Tryd.func27, Tryd.ntmps27
    go_wp2_with fail
    refine (H1.out _).mono ?_
    rintro e w2 ⟨rfl, hb⟩
    have HB2 := Lib.hid (HB0.out.trans (hb.mono HB0.out.size))
    clear hb
    go_wp2_with fail
    go_ret
    rw [HV.out]; exact ⟨rfl, HB2.out⟩
  · have C1 := fun w1 => dec_any n hn w1
    have HV : Hid (txT 2 n s f = Lib.itoa n) := Lib.hid (txT_int n s f)
    have H1 := Lib.hid C1
    have HB0 := Lib.hid hb0
    clear C1 hk hs hnd h hGl hq0 hb0
    generalize f.len = fl at *
    go_enter Tryd.func27, Tryd.ntmps27
    go_wp2_with fail
    refine (H1.out _).mono ?_
    rintro e w2 ⟨rfl, hb⟩
    have HB2 := Lib.hid (HB0.out.trans (hb.mono HB0.out.size))
    clear hb
    go_wp2_with fail
    go_ret
    rw [HV.out]; exact ⟨rfl, HB2.out⟩
  · have C1 := fun w1 => pair_any 3 n s A f.len cap w1
    have HQ0 := Lib.hid hq0
    have HB0 := Lib.hid hb0
    cases hp : pairB 3 s f.len
    · rw [hp] at C1
      have HT : Hid (txT 3 n s f = s.data.toList ++ argsB (txs f)) := Lib.hid (txT_str hp)
      have HA := Lib.hid (argsB_more f)
      have hl : f.len ≤ 1048576 := by have := len_le_nodes f; omega
      have hs6 : s.data.toList.length ≤ 6 := nameB_size (shapeT_struct hs).2.1
      have hWl : s.data.toList.length + (moreB 0 f).length ≤ 67108864 := by
        rw [HT.out, HA.out] at hGl
        by_cases h0 : f.len = 0
        · have hf : f = .nil := by cases f with
            | nil => rfl
            | cons _ _ _ _ _ => simp [Fr.len] at h0
          rw [hf, moreB_nil]
          simp only [List.length_nil]
          omega
        · rw [if_neg h0] at hGl
          simp only [List.length_append] at hGl
          omega
      clear hs6
      have H := Lib.hid h
      have H1 := Lib.hid C1
      have HK := Lib.hid hk
      have HHI := Lib.hid hh
      have HSH := Lib.hid (shapeT_kids hs)
      have HND := Lib.hid hnd
      clear h C1 hk hs hnd hp hGl hb0 hq0 hh
      generalize hn : f.len = len at *
      have HN := Lib.hid hn
      clear hn
      go_enter Tryd.func27, Tryd.ntmps27
      go_wp2_with fail
      refine (H1.out _).mono ?_
      rintro e w2 ⟨rfl, hb⟩
      have HQ2 := Lib.hid (HQ0.out.below hb HQ0.out.lt)
      have HB2 := Lib.hid (HB0.out.trans (hb.mono HB0.out.size))
      clear hb x0 x1 x3
      have x2 := HQ2.out.cell 2
      simp only [List.getElem?_toArray, List.getElem?_cons_zero, List.getElem?_cons_succ] at x2
      go_wp2_with fail
      go_loopw [3, 4] (fun ov i wr => ∃ (j : Nat) (L : List UInt8), j ≤ len ∧ i = .int .i64 j ∧ ov = .string ⟨L.toArray⟩ ∧ L ++ moreB j (f.drop j) = s.data.toList ++ moreB 0 f ∧ Below w2.heap.size w2 wr) (fun _ i _ => len - (intOf i).toNat)
      case atStart => exact ⟨0, s.data.toList, Nat.zero_le _, rfl, congrArg Value.string (str_own s), rfl, Below.refl _ _⟩
      case round =>
        obtain ⟨j, L, hj, rfl, rfl, hL, hb⟩ := hrel
        have hbw := HB2.out.trans (hb.mono HB2.out.size)
        have hq := HQ2.out.below hb HQ2.out.lt
        have HLE := Lib.hid hL
        have HB := Lib.hid hb
        have HBW := Lib.hid hbw
        clear x2
        have x3 := hq.cell 3
        simp only [List.getElem?_toArray, List.getElem?_cons_zero, List.getElem?_cons_succ] at x3
        have hLl : L.length + (moreB j (f.drop j)).length ≤ 67108864 := by have := congrArg List.length hL; simp only [List.length_append] at this; omega
        clear hL
        by_cases hlt : j < len
        · obtain ⟨kk, nn, ss, kids, hd⟩ := Fr.drop_cons j f (by rw [HN.out]; exact hlt)
          obtain ⟨b, o, rfl, hlb, hbb, hrow⟩ := HK.out.2.2 (by rw [HN.out]; omega)
          obtain ⟨hfit, A', cp, c0, c1, c2, c3, hkid⟩ := hrow.elem hd
          have hlo : (⟨b, o, none⟩ : Addr).block < w.heap.size := Nat.lt_of_lt_of_le hbb HHI.out
          have k0 := (hbw.cell (p := ⟨b, o + j * 4, none⟩) hlo).trans c0
          have k1 := (hbw.cell (p := ⟨b, o + j * 4 + 1, none⟩) hlo).trans c1
          have k2 := (hbw.cell (p := ⟨b, o + j * 4 + 2, none⟩) hlo).trans c2
          have k3 := (hbw.cell (p := ⟨b, o + j * 4 + 3, none⟩) hlo).trans c3
          have hsz : kids.size < f.size := by
            have h1 := Fr.size_drop j f
            rw [hd] at h1
            simp only [Fr.size] at h1
            omega
          have C3 := H.out ss kids hsz kk nn A' cp lo hi _ wr (hkid.below hbw HHI.out) (Nat.le_trans HHI.out hbw.size) (shape_drop f j _ hd HSH.out) (Nat.le_trans (nodes_drop_elem j f hd) HND.out)
          have hL2 := HLE.out
          rw [hd, moreB_step] at hL2 hLl
          have HL2 := Lib.hid hL2
          have H3 := Lib.hid C3
          clear C3 c0 c1 c2 c3 hkid hrow hfit hd hlo hL2 hbw hsz hq hb
          generalize txT kk nn ss kids = T at *
          have hTl : L.length + 1 + T.length ≤ 67108864 := by simp only [List.length_cons, List.length_append] at hLl; omega
          by_cases hj0 : j = 0
          · subst hj0
            have t0 : (((0 : Nat) : Int) == 0) = true := rfl
            rw [if_pos rfl] at HL2
            have HSTR : Hid ((.string ((⟨L.toArray⟩ ++ ⟨#[40]⟩) ++ ⟨T.toArray⟩) : Value) = .string ⟨(L ++ 40 :: T).toArray⟩) := Lib.hid (by
              rw [show (⟨#[40]⟩ : ByteArray) = ⟨[40].toArray⟩ from rfl, ByteArray.mk_append_mk, ByteArray.mk_append_mk]
              simp)
            have HL3 : Hid ((L ++ 40 :: T) ++ moreB (0 + 1) (f.drop (0 + 1)) = s.data.toList ++ moreB 0 f) := Lib.hid (by rw [← HL2.out]; simp)
            simp only [Nat.zero_mul, Nat.add_zero] at k0 k1 k2 k3
            go_wp2_with fail
            refine H3.out.mono ?_
            rintro e w3 ⟨rfl, hb3⟩
            have HB3 := Lib.hid (HB.out.trans (hb3.mono HB.out.size))
            clear hb3
            go_wp2_with fail
            go_roundw
            case rel => exact ⟨0 + 1, L ++ 40 :: T, by omega, by go_num, HSTR.out, HL3.out, HB3.out⟩
            case measure => simp [intOf]; omega
          · have t0 : ((j : Int) == 0) = false := by rw [beq_eq_false_iff_ne]; omega
            rw [if_neg hj0] at HL2
            have HSTR : Hid ((.string ((⟨L.toArray⟩ ++ ⟨#[44]⟩) ++ ⟨T.toArray⟩) : Value) = .string ⟨(L ++ 44 :: T).toArray⟩) := Lib.hid (by
              rw [show (⟨#[44]⟩ : ByteArray) = ⟨[44].toArray⟩ from rfl, ByteArray.mk_append_mk, ByteArray.mk_append_mk]
              simp)
            have HL3 : Hid ((L ++ 44 :: T) ++ moreB (j + 1) (f.drop (j + 1)) = s.data.toList ++ moreB 0 f) := Lib.hid (by rw [← HL2.out]; simp)
            clear hj0
            go_wp2_with fail
            refine H3.out.mono ?_
            rintro e w3 ⟨rfl, hb3⟩
            have HB3 := Lib.hid (HB.out.trans (hb3.mono HB.out.size))
            clear hb3
            go_wp2_with fail
            go_roundw
            case rel => exact ⟨j + 1, L ++ 44 :: T, by omega, by go_num, HSTR.out, HL3.out, HB3.out⟩
            case measure => simp [intOf]; omega
        · obtain rfl : j = len := by omega
          have hLL : L = s.data.toList ++ moreB 0 f := by
            have h1 := Fr.drop_len f
            rw [HN.out] at h1
            rw [← HLE.out, h1, moreB_nil, List.append_nil]
          have hLs : L.length ≤ 67108864 := by omega
          by_cases h0 : 0 < j
          · have HV : Hid ((L ++ [41]) = txT 3 n s f) := Lib.hid (by rw [HT.out, HA.out, if_neg (by omega), hLL]; simp)
            clear hb hbw hq hLL hLl
            go_wp2_with fail
            go_ret
            rw [← HV.out, ← ByteArray.mk_append_mk]
            exact ⟨rfl, HBW.out⟩
          · have HV : Hid (L = txT 3 n s f) := Lib.hid (by
              have hz : f.len = 0 := by rw [HN.out]; omega
              have : f = .nil := by cases f with
                | nil => rfl
                | cons _ _ _ _ _ => simp [Fr.len] at hz
              rw [HT.out, HA.out, if_pos (by omega), hLL, this, moreB_nil])
            clear hb hbw hq hLL hLl
            go_wp2_with fail
            go_ret
            rw [← HV.out]
            exact ⟨rfl, HBW.out⟩
    · rw [hp] at C1
      have C2 := fun w1 (hb : Below w.heap.size w w1) => list_of s f h 3 n A cap lo hi d w1 (hk.below hb hh) (Nat.le_trans hh hb.size) hp hs hnd
      have H1 := Lib.hid C1
      have H2 := Lib.hid C2
      clear h C1 C2 hk hs hnd hp hGl hb0 hq0 hh
      generalize f.len = len at *
      go_enter Tryd.func27, Tryd.ntmps27
      go_wp2_with fail
      refine (H1.out _).mono ?_
      rintro e w2 ⟨rfl, hb⟩
      have hq := HQ0.out.below hb HQ0.out.lt
      have HB2 := Lib.hid (HB0.out.trans (hb.mono HB0.out.size))
      clear x0 x1 x2 x3 hb
      obtain ⟨x0, x1, x2, x3⟩ : _ := (⟨hq.cell 0, hq.cell 1, hq.cell 2, hq.cell 3⟩ : _ ∧ _ ∧ _ ∧ _)
      simp only [List.getElem?_toArray, List.getElem?_cons_zero, List.getElem?_cons_succ] at x0 x1 x2 x3
      clear hq
      go_wp2_with fail
      refine (H2.out w2 HB2.out).mono ?_
      rintro e w3 ⟨rfl, hb⟩
      have HB3 := Lib.hid (HB2.out.trans (hb.mono HB2.out.size))
      clear hb
      go_wp2_with fail
      go_ret
      exact ⟨rfl, HB3.out⟩
theorem tx_all (N : Nat) : ∀ (s : ByteArray) (f : Fr), f.size ≤ N → TxC s f := by
  induction N with
  | zero => exact fun s f hf => txt_of s f fun s' f' h => by omega
  | succ N ih => exact fun s f hf => txt_of s f fun s' f' h => ih s' f' (by omega)

/-- What both FormatTerm answer. -/
def fmB (k n : Int) (s : ByteArray) (f : Fr) : List UInt8 := if validT k n s f = true then txT k n s f else []
end Go.Proofs.YtmgfndgmebignaaDoor
