/- The model's texts with operators: spec.l2List, l2Text, WriteTerm. Condition: the term lies in memory. -/
import Derived.Test.YtmgfndgmebignaaGreatDoorProg
import Derived.Test.YtmgfndgmebignaaGreatDoorZmFQ45
import Derived.Test.YtmgfndgmebignaaGreatDoorZmFQ43
namespace Go.Proofs.YtmgfndgmebignaaGreatDoor.wr
open Go.RowKit

theorem list_str (a b : List UInt8) : (.string ((((⟨#[91]⟩ ++ ⟨a.toArray⟩) ++ ⟨#[124]⟩) ++ ⟨b.toArray⟩) ++ ⟨#[93]⟩) : Value) = .string ⟨(91 :: (a ++ (124 :: b ++ [93]))).toArray⟩ := by
  rw [show (⟨#[91]⟩ : ByteArray) = ⟨[91].toArray⟩ from rfl, show (⟨#[124]⟩ : ByteArray) = ⟨[124].toArray⟩ from rfl, show (⟨#[93]⟩ : ByteArray) = ⟨[93].toArray⟩ from rfl, ByteArray.mk_append_mk, ByteArray.mk_append_mk, ByteArray.mk_append_mk, ByteArray.mk_append_mk]
  simp
theorem list_str0 (a : List UInt8) : (.string ((⟨#[91]⟩ ++ ⟨a.toArray⟩) ++ ⟨#[93]⟩) : Value) = .string ⟨(91 :: (a ++ ([] ++ [93]))).toArray⟩ := by
  rw [show (⟨#[91]⟩ : ByteArray) = ⟨[91].toArray⟩ from rfl, show (⟨#[93]⟩ : ByteArray) = ⟨[93].toArray⟩ from rfl, ByteArray.mk_append_mk, ByteArray.mk_append_mk]
  simp
theorem str_args (s : ByteArray) (a : List UInt8) : (.string (((s ++ ⟨#[40]⟩) ++ ⟨a.toArray⟩) ++ ⟨#[41]⟩) : Value) = .string ⟨(s.data.toList ++ (40 :: (a ++ [41]))).toArray⟩ := by
  conv => lhs; rw [str_own s]
  rw [show (⟨#[40]⟩ : ByteArray) = ⟨[40].toArray⟩ from rfl, show (⟨#[41]⟩ : ByteArray) = ⟨[41].toArray⟩ from rfl, ByteArray.mk_append_mk, ByteArray.mk_append_mk, ByteArray.mk_append_mk]
  simp
theorem inf_str (a b c : List UInt8) : (.string ((⟨a.toArray⟩ ++ ⟨b.toArray⟩) ++ ⟨c.toArray⟩) : Value) = .string ⟨(a ++ (b ++ c)).toArray⟩ := by
  rw [ByteArray.mk_append_mk, ByteArray.mk_append_mk]
  simp

set_option maxRecDepth 100000 in
set_option maxHeartbeats 8000000 in
/-- spec.l2List. -/
theorem list_of (s : ByteArray) (f : Fr) (h : ∀ s' f', f'.size < f.size → TxC s' f') (k n : Int) (A : Option Addr) (cap lo hi : Nat) (d : Int) (w : World) (hk : KidsAt w lo hi f A cap) (hh : hi ≤ w.heap.size) (hlo : lo ≤ w.heap.size) (hp : pairB k s f.len = true) (hs : shapeT k n s f d = true) (hnd : nodes f ≤ 1048576) :
    Calls Tryz.prog 81 #[.agg #[.int .i64 k, .int .i64 n, .string s, .slice A f.len cap]] w fun e w' => e = .returned (.string ⟨(txT k n s f).toArray⟩) ∧ Below w.heap.size w w' := by
  obtain ⟨a1, a2, a3⟩ := fr_facts f.size k n s f d (Nat.le_refl _) hs
  obtain ⟨m1, m2⟩ := fr_nodes f.size k n s f (Nat.le_refl _)
  obtain ⟨kt, nt, st, ft, htl⟩ : ∃ kt nt st ft, tails k n s f = .cons kt nt st ft .nil := tails_form f.size k n s f (Nat.le_refl _)
  obtain ⟨b1, _, b3⟩ := a3 kt nt st ft htl
  have hG := txT_rem hp htl
  have hGl := (txT_shape hs).1
  have hG2 : (txT k n s f).length ≤ 67108864 := by omega
  have hrl : (remB 0 (fronts k s f)).length ≤ 67108864 := by rw [hG] at hG2; simp only [List.length_cons, List.length_append] at hG2; omega
  have C1 := fun (A2 : Option Addr) (cap2 : Nat) w1 (hk : KidsAt w1 lo w1.heap.size (fronts k s f) A2 cap2) => args_of (fronts k s f) (fun j k n s kids rest hd => h s kids (a2 j k n s kids rest hd)) d A2 cap2 lo w1.heap.size w1 hk (Nat.le_refl _) a1 (by omega) hrl
  have C2 := fun (A2 : Option Addr) (cap2 : Nat) w1 (hk : KidsAt w1 lo hi ft A2 cap2) (hh : hi ≤ w1.heap.size) => h st ft (b3 hp) kt nt A2 cap2 lo hi d w1 hk hh b1 (Nat.le_trans (m2 kt nt st ft htl) hnd)
  have hfl : (fronts k s f).len ≤ 1048576 := by have := len_le_nodes (fronts k s f); omega
  have HE : Hid (endB kt nt st ft = if nilB kt st ft.len = true then [] else 124 :: txT kt nt st ft) := Lib.hid rfl
  have HK := Lib.hid hk
  have HHI := Lib.hid hh
  have HLO := Lib.hid hlo
  have H1 := Lib.hid C1
  have H2 := Lib.hid C2
  have HG := Lib.hid hG
  have HFL := Lib.hid hfl
  have HTL := Lib.hid htl
  have HG2 := Lib.hid hG2
  have HRL := Lib.hid hrl
  clear h C1 C2 hk hh hs hnd hp hGl a1 a2 a3 m1 m2 b1 b3 hG hG2 hrl hfl htl
  generalize txT k n s f = G at *
  obtain ⟨i0, hi0, hz0, hz1, hz2⟩ := info_parts infoT
  have hb0 := two_alloc w (.cells #[.int .i64 k, .int .i64 n, .string s, .slice A f.len cap] 31) (.cells #[] 31)
  have hst : LiP w lo hi w.heap.size (fronts k s f) (tails k n s f) k n s f A cap .nil (.slice (some ⟨w.heap.size + 1, 0, none⟩) 0 0) ((w.alloc (.cells #[.int .i64 k, .int .i64 n, .string s, .slice A f.len cap] 31)).alloc (.cells #[] 31)) := by
    refine ⟨(Blk.new w _ _).alloc _, HK.out, ⟨[], ?_, rfl⟩, rfl, rfl, hb0, by simp, Nat.le_refl _⟩
    obtain ⟨xs, L, ho, hd, _⟩ := RowP.empty (base := w.heap.size + 1) (w := w.alloc (.cells #[.int .i64 k, .int .i64 n, .string s, .slice A f.len cap] 31)) (by simp)
    obtain rfl : xs = [] := by
      have := ho.2
      obtain ⟨h1, _⟩ := hd
      exact h1
    simpa using ho
  have HST := Lib.hid hst
  clear hst hb0
  go_enter Tryz.func81, Tryz.ntmps81
  go_wp2_with fail
  go_loopw [3] (fun u wr => ∃ (k' n' : Int) (s' : ByteArray) (f' : Fr) (A' : Option Addr) (cap' : Nat) (acc : Fr) (v : Value), v = u ∧ LiP w lo hi w.heap.size (fronts k s f) (tails k n s f) k' n' s' f' A' cap' acc v wr) (fun v _ => (fronts k s f).len - lenOf v)
  case atStart => exact ⟨k, n, s, f, A, cap, .nil, _, rfl, HST.out⟩
  case round =>
    obtain ⟨k', n', s', f', A', cap', acc, v, rfl, hp⟩ := hrel
    have HP := Lib.hid hp
    obtain ⟨b0, hk', ⟨xs, hown, hX⟩, hF, hT, hb, hs, hH⟩ := hp
    obtain ⟨a0, a1, a2, a3⟩ := cells4i b0
    have C3 := pair_any k' n' s' A' f'.len cap'
    cases hpb : pairB k' s' f'.len
    · rw [hpb] at C3
      obtain ⟨A2, cap2, hv2, hkf⟩ := HP.out.done hpb HHI.out HLO.out
      subst hv2
      have hto : tails k n s f = .cons k' n' s' f' .nil := by rw [← hT, (pair_no n' hpb).2]
      rw [HTL.out] at hto
      simp only [Fr.cons.injEq, and_true] at hto
      obtain ⟨rfl, rfl, rfl, rfl⟩ := hto
      have C4 := nil_any kt nt st A' ft.len cap'
      have H3 := Lib.hid C3
      have H4 := Lib.hid C4
      have HKF := Lib.hid hkf
      have HK' := Lib.hid hk'
      have HB := Lib.hid hb
      have HB0 := Lib.hid b0
      clear C3 C4 b0 hk' hown hX hF hT hb hpb hkf HP
      have hsw : w.heap.size < wr.heap.size := by omega
      generalize (fronts k s f).len = fl at *
      go_wp2_with fail
      refine (H3.out _).mono ?_
      rintro e w3 ⟨rfl, hb3⟩
      obtain ⟨b0, b1, b2, b3⟩ := cells4i (HB0.out.below hb3 (by omega))
      have HB3 := Lib.hid hb3
      clear hb3 a0 a1 a2 a3
      go_wp2_with fail
      refine (H4.out _).mono ?_
      rintro e w4 ⟨rfl, hb4⟩
      have hb34 : Below wr.heap.size wr w4 := HB3.out.trans (hb4.mono HB3.out.size)
      have HB34 := Lib.hid hb34
      have hq4 := HB0.out.below hb34 (by omega)
      obtain ⟨c0, c1, c2, c3⟩ := cells4i hq4
      have HQ4 := Lib.hid hq4
      have hsw4 : w.heap.size < w4.heap.size := by have := hb34.size; omega
      have hkf4 : KidsAt w4 lo w4.heap.size (fronts k s f) A2 cap2 := (HKF.out.below hb34 (Nat.le_refl _)).more (Nat.le_refl _) hb34.size
      have HKF4 := Lib.hid hkf4
      have HBW4 := Lib.hid (HB.out.trans (hb34.mono HB.out.size))
      clear hb4 hb34 b0 b1 b2 b3 hq4 hkf4
      have hrl := HRL.out
      cases hnb : nilB kt st ft.len
      · have HV : Hid (91 :: (remB 0 (fronts k s f) ++ (124 :: txT kt nt st ft ++ [93])) = G) := Lib.hid (by rw [HG.out, HE.out, hnb]; rfl)
        have hl2 : (remB 0 (fronts k s f)).length + (txT kt nt st ft).length ≤ 67108864 := by
          have h1 := congrArg List.length HV.out
          have h2 := HG2.out
          simp only [List.length_cons, List.length_append] at h1
          omega
        have H1' := Lib.hid (fun w1 (hb : Below w4.heap.size w4 w1) => H1.out A2 cap2 w1 ((HKF4.out.below hb (Nat.le_refl _)).more (Nat.le_refl _) hb.size))
        have H2' := Lib.hid (fun w1 (hb : Below w4.heap.size w4 w1) => H2.out A' cap' w1 (HK'.out.below (HBW4.out.trans (hb.mono HBW4.out.size)) HHI.out) (Nat.le_trans HHI.out (HBW4.out.trans (hb.mono HBW4.out.size)).size))
        have HSTR := Lib.hid (list_str (remB 0 (fronts k s f)) (txT kt nt st ft))
        clear hnb
        generalize remB 0 (fronts k s f) = RB at *
        generalize txT kt nt st ft = TT at *
        generalize ft.len = tl at *
        have t1 : ¬ 9223372036854775807 < 1 + RB.length := by omega
        have t2 : ¬ 9223372036854775807 < 1 + RB.length + 1 := by omega
        have t3 : ¬ 9223372036854775807 < 1 + RB.length + 1 + TT.length := by omega
        have t4 : ¬ 9223372036854775807 < 1 + RB.length + 1 + TT.length + 1 := by omega
        go_wp2_with fail
        go_region_held3 (fun w' => w'.cell? ⟨w.heap.size, 0, none⟩ = some (.int .i64 kt) ∧ w'.cell? ⟨w.heap.size, 1, none⟩ = some (.int .i64 nt) ∧ w'.cell? ⟨w.heap.size, 2, none⟩ = some (.string st) ∧ w'.cell? ⟨w.heap.size, 3, none⟩ = some (.slice A' tl cap'))
          (first | exact ⟨z0, z1, z2, z3⟩ | exact ⟨y0, y1, y2, y3⟩ | exact ⟨c0, c1, c2, c3⟩)
          (first
            | (go_at_call 86
               refine (H1'.out _ (Below.refl _ _).drew).mono ?_
               rintro e w5 ⟨rfl, hb5⟩
               have hd5 : Below w4.heap.size w4 w5 := (Below.refl w4.heap.size w4).drew.trans hb5
               obtain ⟨y0, y1, y2, y3⟩ := cells4i (HQ4.out.below hd5 hsw4)
               have HB5 := Lib.hid hd5
               clear hb5 hd5)
            | (go_at_call 60
               refine (H2'.out _ HB5.out).mono ?_
               rintro e w6 ⟨rfl, hb6⟩
               have hd6 : Below w4.heap.size w4 w6 := HB5.out.trans (hb6.mono HB5.out.size)
               obtain ⟨z0, z1, z2, z3⟩ := cells4i (HQ4.out.below hd6 hsw4)
               have HB6 := Lib.hid hd6
               clear hb6 hd6))
        go_wp2_with fail
        go_ret
        rw [← HV.out]
        exact ⟨congrArg Ending.returned HSTR.out, HBW4.out.trans (HB6.out.mono HBW4.out.size)⟩
      · have HV : Hid (91 :: (remB 0 (fronts k s f) ++ ([] ++ [93])) = G) := Lib.hid (by rw [HG.out, HE.out, hnb]; rfl)
        have C1 := H1.out A2 cap2 w4 HKF4.out
        have HSTR := Lib.hid (list_str0 (remB 0 (fronts k s f)))
        have H1' := Lib.hid C1
        clear hnb C1
        generalize remB 0 (fronts k s f) = RB at *
        go_wp2_with fail
        refine H1'.out.mono ?_
        rintro e w5 ⟨rfl, hb5⟩
        have HB5 := Lib.hid (HBW4.out.trans (hb5.mono HBW4.out.size))
        clear hb5
        go_wp2_with fail
        go_ret
        rw [← HV.out]
        exact ⟨congrArg Ending.returned HSTR.out, HB5.out⟩
    · rw [hpb] at C3
      obtain ⟨k1, n1, s1, kd1, k2, n2, s2, kd2, rfl, hfr, htl⟩ := pair_yes n' hpb
      have hp2 : pairB k' s' 2 = true := hpb
      obtain ⟨b, o, rfl, hlb, hbb, hrow⟩ := hk'.2.2 (by simp [Fr.len])
      obtain ⟨hfit1, A1, cap1, c0, c1, c2, c3, hkid1⟩ := hrow.elem (i := 0) rfl
      obtain ⟨hfit2, A2, cap2, e0, e1, e2, e3, hkid2⟩ := hrow.elem (i := 1) rfl
      have hlo' : (⟨b, o, none⟩ : Addr).block < w.heap.size := Nat.lt_of_lt_of_le hbb HHI.out
      simp only [Nat.zero_mul, Nat.one_mul, Nat.add_zero] at c0 c1 c2 c3 e0 e1 e2 e3
      have hvl := hown.lt
      have hacc : acc.len + 1 ≤ (fronts k s f).len := by
        have h1 := congrArg Fr.len hF
        rw [Fr.len_app, hfr] at h1
        simp only [Fr.len] at h1
        omega
      have hacc2 : acc.len < 1048577 := by have := HFL.out; omega
      have hmeas : (fronts k s f).len - (acc.len + 1) < (fronts k s f).len - lenOf v := by
        obtain ⟨A0, cap0, rfl⟩ : ∃ A0 cap0, v = .slice A0 acc.len cap0 := by
          rcases hown.2 with ⟨rfl, h0⟩ | ⟨g, cap, cur, rfl, _⟩
          · exact ⟨none, 0, by rw [h0]⟩
          · exact ⟨_, _, rfl⟩
        simp only [lenOf]
        omega
      have far : ∀ w3, Below wr.heap.size wr w3 → Below wr.heap.size wr w3 := fun _ h => h
      have HC0 : Hid (∀ w6 : World, (∀ x, x ≤ w.heap.size → w6.heap[x]? = wr.heap[x]?) → w6.cell? ⟨b, o, none⟩ = some (.int .i64 k1) ∧ w6.cell? ⟨b, o + 1, none⟩ = some (.int .i64 n1) ∧ w6.cell? ⟨b, o + 2, none⟩ = some (.string s1) ∧ w6.cell? ⟨b, o + 3, none⟩ = some (.slice A1 kd1.len cap1) ∧
          w6.cell? ⟨b, o + 4, none⟩ = some (.int .i64 k2) ∧ w6.cell? ⟨b, o + 4 + 1, none⟩ = some (.int .i64 n2) ∧ w6.cell? ⟨b, o + 4 + 2, none⟩ = some (.string s2) ∧ w6.cell? ⟨b, o + 4 + 3, none⟩ = some (.slice A2 kd2.len cap2)) := Lib.hid fun w6 h6 => by
        have all : ∀ i, w6.cell? ⟨b, i, none⟩ = w.cell? ⟨b, i, none⟩ := fun i => (World.cell?_of_block (a := ⟨b, i, none⟩) (h6 b (Nat.le_of_lt hlo'))).trans (hb.cell (p := ⟨b, i, none⟩) hlo')
        exact ⟨(all _).trans c0, (all _).trans c1, (all _).trans c2, (all _).trans c3, (all _).trans e0, (all _).trans e1, (all _).trans e2, (all _).trans e3⟩
      have H3 := Lib.hid C3
      have HB0 := Lib.hid b0
      have HM := Lib.hid hmeas
      have HX := Lib.hid hX
      have HVL := Lib.hid hvl
      have HF1 := Lib.hid hfit1
      have HK1 := Lib.hid hkid1
      have HK2 := Lib.hid hkid2
      have HP2 := Lib.hid hp2
      have HOWN := Lib.hid hown
      have hs' : w.heap.size + 1 ≤ wr.heap.size := hs
      have hlb' : b < w.heap.size := hlo'
      clear C3 far hown hX hvl hb b0 hmeas hF hT hpb hp2 hfr htl hk' hrow hfit1 hfit2 hkid1 hkid2 c0 c1 c2 c3 e0 e1 e2 e3 hlo' hacc hlb hbb
      simp only [Fr.len] at *
      go_wp2_with fail
      refine (H3.out _).mono ?_
      rintro e w3 ⟨rfl, hb3⟩
      have hp3 := HP.out.below hb3
      obtain ⟨c0, c1, c2, c3, -, -, -, -⟩ := HC0.out w3 fun x hx => hb3.block x (by omega)
      obtain ⟨b0, b1, b2, b3⟩ := cells4i (HB0.out.below hb3 (by omega))
      have HO3 := Lib.hid (HOWN.out.kept (row := none) ⟨hb3.os, hb3.tape, hb3.output, hb3.size, fun k hk _ => hb3.block k hk⟩ (by cases v.ownBlock <;> simp))
      have hs3 := hb3.size
      have HSTEP := Lib.hid (fun (w6 : World) (g cap4 : Nat) (ob : Obj) hg ho => hp3.step (w4 := w6) (g := g) (cap4 := cap4) (o := ob) HP2.out HX.out (fun g hg => ⟨(HVL.out g hg).1, Nat.lt_of_lt_of_le (HVL.out g hg).2 hb3.size⟩) HF1.out HK1.out hg ho HK2.out)
      have HALL : Hid (∀ (o0 : Obj) w6, (w3.alloc o0).grownBy w6 v.ownBlock → (w6.cell? ⟨b, o + 4, none⟩ = some (.int .i64 k2) ∧ w6.cell? ⟨b, o + 4 + 1, none⟩ = some (.int .i64 n2) ∧ w6.cell? ⟨b, o + 4 + 2, none⟩ = some (.string s2) ∧ w6.cell? ⟨b, o + 4 + 3, none⟩ = some (.slice A2 kd2.len cap2)) ∧
          (w6.cell? ⟨w.heap.size, 0, none⟩ = some (.int .i64 k') ∧ w6.cell? ⟨w.heap.size, 1, none⟩ = some (.int .i64 n') ∧ w6.cell? ⟨w.heap.size, 2, none⟩ = some (.string s') ∧ w6.cell? ⟨w.heap.size, 3, none⟩ = some (.slice (some ⟨b, o, none⟩) (0 + 1 + 1) cap')) ∧
          (w6.frozen? ⟨w.heap.size, 0, none⟩ = false ∧ w6.frozen? ⟨w.heap.size, 1, none⟩ = false ∧ w6.frozen? ⟨w.heap.size, 2, none⟩ = false ∧ w6.frozen? ⟨w.heap.size, 3, none⟩ = false)) := Lib.hid fun o0 w6 hg6 => by
        have hfar : ∀ x, x ≤ w.heap.size → w6.heap[x]? = wr.heap[x]? := fun x hx => by
          have hb1 : Below w3.heap.size w3 (w3.alloc o0) := (Below.refl _ _).alloc (Nat.le_refl _) _
          have := hb1.size
          rw [hg6.block x (by omega) fun e => by have := (HVL.out x e.symm).1; omega, hb1.block x (by omega), hb3.block x (by omega)]
        have hq := HB0.out.keep (hfar _ (Nat.le_refl _))
        exact ⟨(HC0.out w6 hfar).2.2.2.2, cells4i hq, frozen4 hq⟩
      clear hb3 hp3 a0 a1 a2 a3
      go_wp2_with (at_builtin; go_must (refine wpList_append_lies _ rfl _ _ _ rfl (w.heap.size + 1) 31 i0 _ 4 56 Tryz.underlying29 hi0 hz0 hz1 hz2 rfl (by omega) v acc.len _ rfl (HO3.out.alloc _) ⟨w3.heap.size, 0, none⟩ 1 1 [.int .i64 k1, .int .i64 n1, .string s1, .slice A1 kd1.len cap1] rfl rfl (World.news_of_block (cs := #[.int .i64 k1, .int .i64 n1, .string s1, .slice A1 kd1.len cap1]) (fr := (0, 0)) (heap_alloc_new w3 _)) (by simp [Value.oneCell']) (by omega) (by unfold maxLen; omega) (by omega) (by simp; omega) (w3.heap.size + 1) (by simp) ?_); intro g cap4 w6 hown6 hgrow hat hlt6; obtain ⟨⟨e0, e1, e2, e3⟩, ⟨x0, x1, x2, x3⟩, ⟨y0, y1, y2, y3⟩⟩ := HALL.out _ w6 hgrow; have HST6 := Lib.hid (HSTEP.out w6 g cap4 _ hgrow hown6); clear hown6 hgrow hat b0 b1 b2 b3)
      go_roundw
      case rel => exact ⟨_, _, _, _, _, _, _, _, rfl, HST6.out⟩
      case measure => exact HM.out
end Go.Proofs.YtmgfndgmebignaaGreatDoor.wr

/- The model's texts with operators: spec.l2Text at every term; spec.WriteTerm. Condition: the term lies in memory. -/
namespace Go.Proofs.YtmgfndgmebignaaGreatDoor.wr
open Go.RowKit

theorem name_pos3 {l : List UInt8} (h : nv.nameB l = true) : l ≠ [] := fun e => by subst e; exact absurd h (by decide)
theorem dec_ne (u : Nat) : Lib.decDigits u ≠ [] := by
  by_cases h : u < 10
  · rw [Lib.decDigits_one h]; simp
  · rw [Lib.decDigits.eq_def, dif_neg h]; simp
theorem itoa_ne (n : Int) : Lib.itoa n ≠ [] := by
  unfold Lib.itoa
  split
  · simp
  · exact dec_ne _
theorem txT_ne {k n : Int} {s : ByteArray} {f : Fr} {d : Int} (h : shapeT k n s f d = true) : 0 < (txT k n s f).length := by
  refine List.length_pos_iff.2 ?_
  rcases shapeT_kind3 h with ⟨rfl, _⟩ | ⟨rfl, _⟩ | rfl
  · rw [txT_var]; unfold letB; simp
  · rw [txT_int]; exact itoa_ne n
  · cases hp : pairB 3 s f.len
    · cases hi : infB 3 s f.len
      · rw [txT_str hp hi]
        have := name_pos3 (shapeT_struct h).2.1
        simp [this]
      · obtain ⟨_, _, k1, n1, s1, kd1, k2, n2, s2, kd2, rfl⟩ := inf_kids hi
        rw [txT_inf hp hi]
        have hs : s.data.toList ≠ [] := name_pos3 (shapeT_struct h).2.1
        have : spB s.data.toList ≠ [] := by
          unfold spB
          split
          · simp
          · exact hs
        simp [this]
    · obtain ⟨k1, n1, s1, kd1, k2, n2, s2, kd2, rfl, _, _⟩ := pair_yes n hp
      rw [txT_pair n hp]; simp
theorem txT_leaf {k n : Int} {s : ByteArray} {f : Fr} (h : k = 1 ∨ k = 2 ∨ k = 3 ∧ f = .nil) : txT k n s f = Go.Proofs.YtmgfndgmebignaaGreatDoor.txT k n s f := by
  rcases h with rfl | rfl | ⟨rfl, rfl⟩
  · rw [txT_var, Go.Proofs.YtmgfndgmebignaaGreatDoor.txT_var]
  · rw [txT_int, Go.Proofs.YtmgfndgmebignaaGreatDoor.txT_int]
  · have h1 : pairB 3 s Fr.nil.len = false := by simp [pairB, Fr.len]
    have h2 : infB 3 s Fr.nil.len = false := by simp [infB, Fr.len]
    rw [txT_str h1 h2, Go.Proofs.YtmgfndgmebignaaGreatDoor.txT_str h1]
    rfl

set_option maxRecDepth 100000 in
set_option maxHeartbeats 4000000 in
/-- spec.l2Text where it hands on to spec.l1Text. -/
theorem txt_leaf (k n : Int) (s : ByteArray) (f : Fr) (h0 : k = 1 ∨ k = 2 ∨ k = 3 ∧ f = .nil) (A : Option Addr) (cap lo hi : Nat) (d : Int) (w : World) (hk : KidsAt w lo hi f A cap) (hh : hi ≤ w.heap.size) (hs : shapeT k n s f d = true) (hnd : nodes f ≤ 1048576) :
    Calls Tryz.prog 60 #[.agg #[.int .i64 k, .int .i64 n, .string s, .slice A f.len cap]] w fun e w' => e = .returned (.string ⟨(txT k n s f).toArray⟩) ∧ Below w.heap.size w w' := by
  have hb0 : Below w.heap.size w (w.alloc (.cells #[.int .i64 k, .int .i64 n, .string s, .slice A f.len cap] 31)) := (Below.refl _ _).alloc (Nat.le_refl _) _
  have hq0 := Blk.new w 31 #[.int .i64 k, .int .i64 n, .string s, .slice A f.len cap]
  obtain ⟨x0, x1, x2, x3⟩ := cells4i hq0
  have hp : pairB k s f.len = false := by
    rcases h0 with rfl | rfl | ⟨rfl, rfl⟩ <;> simp [pairB, Fr.len]
  have hi0 : infB k s f.len = false := by
    rcases h0 with rfl | rfl | ⟨rfl, rfl⟩ <;> simp [infB, Fr.len]
  have C1 := fun w1 => pair_any k n s A f.len cap w1
  have C2 := fun w1 => infix_any k n s A f.len cap w1
  have C3 := fun w1 (hb : Below w.heap.size w w1) => tx_all f.size s f (Nat.le_refl _) k n A cap lo hi d w1 (hk.below hb hh) (Nat.le_trans hh hb.size) hs hnd
  rw [hp] at C1
  rw [hi0] at C2
  rw [txT_leaf h0]
  have HQ := Lib.hid hq0
  have HB0 := Lib.hid hb0
  have H1 := Lib.hid C1
  have H2 := Lib.hid C2
  have H3 := Lib.hid C3
  have h9 : (k == 3) = false ∨ k = 3 ∧ f.len = 0 := by
    rcases h0 with rfl | rfl | ⟨rfl, rfl⟩
    · exact .inl rfl
    · exact .inl rfl
    · exact .inr ⟨rfl, rfl⟩
  clear h0 C1 C2 C3 hk hs hnd hb0 hq0 hh hp hi0
  generalize Go.Proofs.YtmgfndgmebignaaGreatDoor.txT k n s f = T at *
  generalize f.len = len at *
  have back : ∀ w2, Below (w.alloc (.cells #[.int .i64 k, .int .i64 n, .string s, .slice A len cap] 31)).heap.size (w.alloc (.cells #[.int .i64 k, .int .i64 n, .string s, .slice A len cap] 31)) w2 → Below w.heap.size w w2 ∧ Blk w2 w.heap.size 31 #[.int .i64 k, .int .i64 n, .string s, .slice A len cap] := fun w2 hb => ⟨HB0.out.trans (hb.mono HB0.out.size), HQ.out.below hb HQ.out.lt⟩
  have HBK := Lib.hid back
  clear back
  rcases h9 with t0 | ⟨rfl, rfl⟩
  · go_enter Tryz.func60, Tryz.ntmps60
    go_wp2_with fail
    refine (H1.out _).mono ?_
    rintro e w2 ⟨rfl, hb⟩
    obtain ⟨hbw, hq⟩ := HBK.out w2 hb
    clear x0 x1 x2 x3 hb
    obtain ⟨x0, x1, x2, x3⟩ := cells4i hq
    have HB2 := Lib.hid hbw
    have HQ2 := Lib.hid hq
    have hs2 := hq.lt
    clear hq hbw
    go_wp2_with fail
    refine (H2.out _).mono ?_
    rintro e w3 ⟨rfl, hb⟩
    have HB3 := Lib.hid (HB2.out.trans (hb.mono HB2.out.size))
    have hq := HQ2.out.below hb hs2
    clear x0 x1 x2 x3 hb
    obtain ⟨x0, x1, x2, x3⟩ := cells4i hq
    clear hq
    go_wp2_with fail
    refine (H3.out w3 HB3.out).mono ?_
    rintro e w4 ⟨rfl, hb⟩
    have HB4 := Lib.hid (HB3.out.trans (hb.mono HB3.out.size))
    clear hb
    go_wp2_with fail
    go_ret
    exact ⟨rfl, HB4.out⟩
  · go_enter Tryz.func60, Tryz.ntmps60
    go_wp2_with fail
    refine (H1.out _).mono ?_
    rintro e w2 ⟨rfl, hb⟩
    obtain ⟨hbw, hq⟩ := HBK.out w2 hb
    clear x0 x1 x2 x3 hb
    obtain ⟨x0, x1, x2, x3⟩ := cells4i hq
    have HB2 := Lib.hid hbw
    have HQ2 := Lib.hid hq
    have hs2 := hq.lt
    clear hq hbw
    go_wp2_with fail
    refine (H2.out _).mono ?_
    rintro e w3 ⟨rfl, hb⟩
    have HB3 := Lib.hid (HB2.out.trans (hb.mono HB2.out.size))
    have hq := HQ2.out.below hb hs2
    clear x0 x1 x2 x3 hb
    obtain ⟨x0, x1, x2, x3⟩ := cells4i hq
    clear hq
    have t0 : ¬ (0 : Int) < ((0 : Nat) : Int) := by decide
    go_wp2_with fail
    refine (H3.out w3 HB3.out).mono ?_
    rintro e w4 ⟨rfl, hb⟩
    have HB4 := Lib.hid (HB3.out.trans (hb.mono HB3.out.size))
    clear hb
    go_wp2_with fail
    go_ret
    exact ⟨rfl, HB4.out⟩

set_option maxRecDepth 100000 in
set_option maxHeartbeats 8000000 in
/-- spec.l2Text of an operator and its operands. -/
theorem txt_inf (n : Int) (s : ByteArray) (f : Fr) (hpf : pairB 3 s f.len = false) (hif : infB 3 s f.len = true) (h : ∀ s' f', f'.size < f.size → TxC s' f') (A : Option Addr) (cap lo hi : Nat) (d : Int) (w : World) (hk : KidsAt w lo hi f A cap) (hh : hi ≤ w.heap.size) (hs : shapeT 3 n s f d = true) (hnd : nodes f ≤ 1048576) :
    Calls Tryz.prog 60 #[.agg #[.int .i64 3, .int .i64 n, .string s, .slice A f.len cap]] w fun e w' => e = .returned (.string ⟨(txT 3 n s f).toArray⟩) ∧ Below w.heap.size w w' := by
  obtain ⟨_, hlv, k1, n1, s1, kd1, k2, n2, s2, kd2, rfl⟩ := inf_kids hif
  have hG := txT_inf (n := n) (k1 := k1) (n1 := n1) (s1 := s1) (kd1 := kd1) (k2 := k2) (n2 := n2) (s2 := s2) (kd2 := kd2) hpf hif
  have hGl := (txT_shape hs).1
  have hG2 : (txT 3 n s (.cons k1 n1 s1 kd1 (.cons k2 n2 s2 kd2 .nil))).length ≤ 67108864 := by omega
  rw [hG] at hG2
  simp only [List.length_append] at hG2
  rw [hG]
  have hsk := shapeT_kids hs
  rw [shapeF_cons, shapeF_cons, Bool.and_eq_true, Bool.and_eq_true] at hsk
  have hlr := op.level_range s.data.toList
  have hs6 : s.size ≤ 6 := nameB_size (shapeT_struct hs).2.1
  have hz1 : kd1.size < (Fr.cons k1 n1 s1 kd1 (.cons k2 n2 s2 kd2 .nil)).size := by simp only [Fr.size]; omega
  have hz2 : kd2.size < (Fr.cons k1 n1 s1 kd1 (.cons k2 n2 s2 kd2 .nil)).size := by simp only [Fr.size]; omega
  have hnd1 : nodes kd1 ≤ 1048576 ∧ nodes kd2 ≤ 1048576 := by simp only [nodes] at hnd; omega
  obtain ⟨b, o, rfl, hlb, hbb, hrow⟩ := hk.2.2 (by simp [Fr.len])
  obtain ⟨hfit1, A1, cp1, c0, c1, c2, c3, hkid1⟩ := hrow.elem (i := 0) rfl
  obtain ⟨hfit2, A2, cp2, e0, e1, e2, e3, hkid2⟩ := hrow.elem (i := 1) rfl
  simp only [Nat.zero_mul, Nat.one_mul, Nat.add_zero] at c0 c1 c2 c3 e0 e1 e2 e3
  have hlo : b < w.heap.size := Nat.lt_of_lt_of_le hbb hh
  have hcap := hk.2.1
  have hcap2 : 2 ≤ cap := hk.1
  unfold maxLen at hcap
  have hln : (Fr.cons k1 n1 s1 kd1 (.cons k2 n2 s2 kd2 .nil)).len = 2 := rfl
  rw [hln] at hpf hif ⊢
  have hb0 : Below w.heap.size w (w.alloc (.cells #[.int .i64 3, .int .i64 n, .string s, .slice (some ⟨b, o, none⟩) (2 : Nat) cap] 31)) := (Below.refl _ _).alloc (Nat.le_refl _) _
  have hq0 := Blk.new w 31 #[.int .i64 3, .int .i64 n, .string s, .slice (some ⟨b, o, none⟩) (2 : Nat) cap]
  obtain ⟨x0, x1, x2, x3⟩ := cells4i hq0
  have HC : Hid (∀ x, Below w.heap.size w x → x.cell? ⟨b, o, none⟩ = some (.int .i64 k1) ∧ x.cell? ⟨b, o + 1, none⟩ = some (.int .i64 n1) ∧ x.cell? ⟨b, o + 2, none⟩ = some (.string s1) ∧ x.cell? ⟨b, o + 3, none⟩ = some (.slice A1 kd1.len cp1) ∧
      x.cell? ⟨b, o + 4, none⟩ = some (.int .i64 k2) ∧ x.cell? ⟨b, o + 4 + 1, none⟩ = some (.int .i64 n2) ∧ x.cell? ⟨b, o + 4 + 2, none⟩ = some (.string s2) ∧ x.cell? ⟨b, o + 4 + 3, none⟩ = some (.slice A2 kd2.len cp2)) := Lib.hid fun x hb => by
    have all : ∀ i, x.cell? ⟨b, i, none⟩ = w.cell? ⟨b, i, none⟩ := fun i => hb.cell (p := ⟨b, i, none⟩) hlo
    exact ⟨(all _).trans c0, (all _).trans c1, (all _).trans c2, (all _).trans c3, (all _).trans e0, (all _).trans e1, (all _).trans e2, (all _).trans e3⟩
  have C1 := fun w1 => pair_any 3 n s (some ⟨b, o, none⟩) 2 cap w1
  have C2 := fun w1 => infix_any 3 n s (some ⟨b, o, none⟩) 2 cap w1
  have C3 := fun w1 => op.l2_any s w1
  have hlf : 0 ≤ lfl (op.level s.data.toList) ∧ lfl (op.level s.data.toList) ≤ 3 := by unfold lfl; split <;> omega
  have C4 := fun w1 (hb : Below w.heap.size w w1) => left_of s1 kd1 (h s1 kd1 hz1) k1 n1 (lfl (op.level s.data.toList)) hlf A1 cp1 lo hi (d - 1) w1 (hkid1.below hb hh) (Nat.le_trans hh hb.size) hsk.1 hnd1.1
  have C5 := fun w1 (hb : Below w.heap.size w w1) => right_of s2 kd2 (h s2 kd2 hz2) k2 n2 (op.level s.data.toList - 1) (by omega) (txT_ne hsk.2.1) A2 cp2 lo hi (d - 1) w1 (hkid2.below hb hh) (Nat.le_trans hh hb.size) hsk.2.1 hnd1.2
  have C6 := fun w1 => spaced_any s w1 hs6
  rw [hpf] at C1
  rw [hif] at C2
  have HLF : Hid (lfl (op.level s.data.toList) = if op.level s.data.toList = 3 then 2 else op.level s.data.toList) := Lib.hid rfl
  have HQ := Lib.hid hq0
  have HB0 := Lib.hid hb0
  have H1 := Lib.hid C1
  have H2 := Lib.hid C2
  have H3 := Lib.hid C3
  have H4 := Lib.hid C4
  have H5 := Lib.hid C5
  have H6 := Lib.hid C6
  have HSTR := Lib.hid (inf_str (lefT k1 n1 s1 kd1 (lfl (op.level s.data.toList))) (spB s.data.toList) (rigT k2 n2 s2 kd2 (op.level s.data.toList - 1)))
  have hal := hlo
  clear h C1 C2 C3 C4 C5 C6 hk hs hnd hb0 hq0 hh hpf hif hG hGl hsk hz1 hz2 hnd1 hrow hfit1 hfit2 hkid1 hkid2 c0 c1 c2 c3 e0 e1 e2 e3 hlb hbb hln hlf hs6
  generalize lefT k1 n1 s1 kd1 (lfl (op.level s.data.toList)) = TL at *
  generalize spB s.data.toList = TS at *
  generalize rigT k2 n2 s2 kd2 (op.level s.data.toList - 1) = TR at *
  generalize op.level s.data.toList = lv at *
  generalize kd1.len = len1 at *
  generalize kd2.len = len2 at *
  have back : ∀ w2, Below (w.alloc (.cells #[.int .i64 3, .int .i64 n, .string s, .slice (some ⟨b, o, none⟩) (2 : Nat) cap] 31)).heap.size (w.alloc (.cells #[.int .i64 3, .int .i64 n, .string s, .slice (some ⟨b, o, none⟩) (2 : Nat) cap] 31)) w2 → Below w.heap.size w w2 ∧ Blk w2 w.heap.size 31 #[.int .i64 3, .int .i64 n, .string s, .slice (some ⟨b, o, none⟩) (2 : Nat) cap] := fun w2 hb => ⟨HB0.out.trans (hb.mono HB0.out.size), HQ.out.below hb HQ.out.lt⟩
  have HBK := Lib.hid back
  clear back
  have t1 : ¬ 9223372036854775807 < TL.length + TS.length := by omega
  have t2 : ¬ 9223372036854775807 < TL.length + TS.length + TR.length := by omega
  have t3 : IntKind.i64.wrap (lv - 1) = lv - 1 := IntWalk.i64_in _ (by omega)
  have HT3 := Lib.hid t3
  clear t3
  go_enter Tryz.func60, Tryz.ntmps60
  go_wp2_with fail
  refine (H1.out _).mono ?_
  rintro e w2 ⟨rfl, hb⟩
  obtain ⟨hbw, hq⟩ := HBK.out w2 hb
  clear x0 x1 x2 x3 hb
  obtain ⟨x0, x1, x2, x3⟩ := cells4i hq
  have HB2 := Lib.hid hbw
  have HQ2 := Lib.hid hq
  have hs2 := hq.lt
  clear hq hbw
  go_wp2_with fail
  refine (H2.out _).mono ?_
  rintro e w3 ⟨rfl, hb⟩
  have HB3 := Lib.hid (HB2.out.trans (hb.mono HB2.out.size))
  have hq := HQ2.out.below hb hs2
  have HQ3 := Lib.hid hq
  have hs3 := hq.lt
  clear x0 x1 x2 x3 hb
  obtain ⟨x0, x1, x2, x3⟩ := cells4i hq
  obtain ⟨y0, y1, y2, y3, y4, y5, y6, y7⟩ := HC.out w3 HB3.out
  clear hq
  have hal3 : b < w3.heap.size := Nat.lt_trans hal hs3
  have hl3 : lv = 3 ∨ lv ≠ 3 := by omega
  rcases hl3 with rfl | hne
  · rw [if_pos rfl] at HLF
    rw [HLF.out] at H4
    have t4 : ((3 : Int) == 3) = true := rfl
    have t3 := HT3.out
    go_wp2_with (first | (go_at_call 69; refine (H3.out _).mono ?_; rintro e w3 ⟨rfl, rfl⟩) | fail)
    go_region_held3 (fun w' => w'.cell? ⟨w.heap.size, 0, none⟩ = some (.int .i64 3) ∧ w'.cell? ⟨w.heap.size, 1, none⟩ = some (.int .i64 n) ∧ w'.cell? ⟨w.heap.size, 2, none⟩ = some (.string s) ∧ w'.cell? ⟨w.heap.size, 3, none⟩ = some (.slice (some ⟨b, o, none⟩) (2 : Nat) cap) ∧
        w'.cell? ⟨b, o, none⟩ = some (.int .i64 k1) ∧ w'.cell? ⟨b, o + 1, none⟩ = some (.int .i64 n1) ∧ w'.cell? ⟨b, o + 2, none⟩ = some (.string s1) ∧ w'.cell? ⟨b, o + 3, none⟩ = some (.slice A1 len1 cp1) ∧
        w'.cell? ⟨b, o + 4, none⟩ = some (.int .i64 k2) ∧ w'.cell? ⟨b, o + 4 + 1, none⟩ = some (.int .i64 n2) ∧ w'.cell? ⟨b, o + 4 + 2, none⟩ = some (.string s2) ∧ w'.cell? ⟨b, o + 4 + 3, none⟩ = some (.slice A2 len2 cp2))
      (first | exact ⟨q0, q1, q2, q3, q4, q5, q6, q7, q8, q9, q10, q11⟩ | exact ⟨z0, z1, z2, z3, z4, z5, z6, z7, z8, z9, z10, z11⟩ | exact ⟨x0, x1, x2, x3, y0, y1, y2, y3, y4, y5, y6, y7⟩)
      (first
        | (go_at_call 83
           refine (H4.out _ HB3.out.drew).mono ?_
           rintro e w5 ⟨rfl, hb5⟩
           have hd5 : Below w3.heap.size w3 w5 := (Below.refl w3.heap.size w3).drew.trans hb5
           have hb5w : Below w.heap.size w w5 := HB3.out.trans (hd5.mono HB3.out.size)
           obtain ⟨z0, z1, z2, z3⟩ := cells4i (HQ3.out.below hd5 hs3)
           obtain ⟨z4, z5, z6, z7, z8, z9, z10, z11⟩ := HC.out w5 hb5w
           have HB5 := Lib.hid hb5w
           have HQ5 := Lib.hid (HQ3.out.below hd5 hs3)
           have hs5 : w.heap.size < w5.heap.size := Nat.lt_of_lt_of_le hs3 hd5.size
           clear hb5 hd5 hb5w)
        | (go_at_call 84
           refine (H6.out _).mono ?_
           rintro e w5 ⟨rfl, rfl⟩)
        | (go_at_call 85
           refine (H5.out _ HB5.out).mono ?_
           rintro e w6 ⟨rfl, hb6⟩
           have hb6w : Below w.heap.size w w6 := HB5.out.trans (hb6.mono HB5.out.size)
           obtain ⟨q0, q1, q2, q3⟩ := cells4i (HQ5.out.below hb6 hs5)
           obtain ⟨q4, q5, q6, q7, q8, q9, q10, q11⟩ := HC.out w6 hb6w
           have HB6 := Lib.hid hb6w
           clear hb6 hb6w))
    go_wp2_with fail
    go_ret
    exact ⟨congrArg Ending.returned HSTR.out, HB6.out⟩
  · rw [if_neg hne] at HLF
    rw [HLF.out] at H4
    have t4 : (lv == 3) = false := by rw [beq_eq_false_iff_ne]; exact hne
    have t3 := HT3.out
    clear hne
    go_wp2_with (first | (go_at_call 69; refine (H3.out _).mono ?_; rintro e w3 ⟨rfl, rfl⟩) | fail)
    go_region_held3 (fun w' => w'.cell? ⟨w.heap.size, 0, none⟩ = some (.int .i64 3) ∧ w'.cell? ⟨w.heap.size, 1, none⟩ = some (.int .i64 n) ∧ w'.cell? ⟨w.heap.size, 2, none⟩ = some (.string s) ∧ w'.cell? ⟨w.heap.size, 3, none⟩ = some (.slice (some ⟨b, o, none⟩) (2 : Nat) cap) ∧
        w'.cell? ⟨b, o, none⟩ = some (.int .i64 k1) ∧ w'.cell? ⟨b, o + 1, none⟩ = some (.int .i64 n1) ∧ w'.cell? ⟨b, o + 2, none⟩ = some (.string s1) ∧ w'.cell? ⟨b, o + 3, none⟩ = some (.slice A1 len1 cp1) ∧
        w'.cell? ⟨b, o + 4, none⟩ = some (.int .i64 k2) ∧ w'.cell? ⟨b, o + 4 + 1, none⟩ = some (.int .i64 n2) ∧ w'.cell? ⟨b, o + 4 + 2, none⟩ = some (.string s2) ∧ w'.cell? ⟨b, o + 4 + 3, none⟩ = some (.slice A2 len2 cp2))
      (first | exact ⟨q0, q1, q2, q3, q4, q5, q6, q7, q8, q9, q10, q11⟩ | exact ⟨z0, z1, z2, z3, z4, z5, z6, z7, z8, z9, z10, z11⟩ | exact ⟨x0, x1, x2, x3, y0, y1, y2, y3, y4, y5, y6, y7⟩)
      (first
        | (go_at_call 83
           refine (H4.out _ HB3.out.drew).mono ?_
           rintro e w5 ⟨rfl, hb5⟩
           have hd5 : Below w3.heap.size w3 w5 := (Below.refl w3.heap.size w3).drew.trans hb5
           have hb5w : Below w.heap.size w w5 := HB3.out.trans (hd5.mono HB3.out.size)
           obtain ⟨z0, z1, z2, z3⟩ := cells4i (HQ3.out.below hd5 hs3)
           obtain ⟨z4, z5, z6, z7, z8, z9, z10, z11⟩ := HC.out w5 hb5w
           have HB5 := Lib.hid hb5w
           have HQ5 := Lib.hid (HQ3.out.below hd5 hs3)
           have hs5 : w.heap.size < w5.heap.size := Nat.lt_of_lt_of_le hs3 hd5.size
           clear hb5 hd5 hb5w)
        | (go_at_call 84
           refine (H6.out _).mono ?_
           rintro e w5 ⟨rfl, rfl⟩)
        | (go_at_call 85
           refine (H5.out _ HB5.out).mono ?_
           rintro e w6 ⟨rfl, hb6⟩
           have hb6w : Below w.heap.size w w6 := HB5.out.trans (hb6.mono HB5.out.size)
           obtain ⟨q0, q1, q2, q3⟩ := cells4i (HQ5.out.below hb6 hs5)
           obtain ⟨q4, q5, q6, q7, q8, q9, q10, q11⟩ := HC.out w6 hb6w
           have HB6 := Lib.hid hb6w
           clear hb6 hb6w))
    go_wp2_with fail
    go_ret
    exact ⟨congrArg Ending.returned HSTR.out, HB6.out⟩
end Go.Proofs.YtmgfndgmebignaaGreatDoor.wr
