/- spec.ListOf: the elements of a list, copied. Condition: the term lies in memory. -/
import Derived.Test.YtppnmodemhoebaaDoorProg
import Derived.Test.YtppnmodemhoebaaDoorCopy
import Derived.Test.YtppnmodemhoebaaDoorPair
import Derived.Test.YtppnmodemhoebaaDoorTb
namespace Go.Proofs.YtppnmodemhoebaaDoor
open Go.RowKit

def lenOf : Value → Nat | .slice _ n _ => n | _ => 0

/-- The loop's relation: the term that is looked at lies in block H; its elements before it are copied into the row v. -/
def LsP (w : World) (lo hi H : Nat) (F T : Fr) (M : Nat) (k n : Int) (s : ByteArray) (f : Fr) (A : Option Addr) (cap : Nat) (acc : Fr) (v : Value) (wr : World) : Prop :=
  Blk wr H 31 #[.int .i64 k, .int .i64 n, .string s, .slice A f.len cap] ∧ KidsAt w lo hi f A cap ∧ Fits k n s ∧ nodes f ≤ M ∧ RowP (H + 1) v acc wr ∧ acc.app (fronts k s f) = F ∧ tails k n s f = T ∧ Below w.heap.size w wr ∧ H + 1 ≤ wr.heap.size ∧ w.heap.size ≤ H

theorem LsP.step {w wr w1 w2 w3 w4 : World} {lo hi H : Nat} {F T : Fr} {M : Nat} {k n : Int} {s : ByteArray} {k1 n1 k2 n2 : Int} {s1 s2 : ByteArray} {kd1 kd2 : Fr} {A : Option Addr} {cap : Nat} {acc : Fr} {v : Value} {xs : List Value} {L : List Nat} {A1 A2 : Option Addr} {cap1 cap2 g cap4 : Nat}
    (h : LsP w lo hi H F T M k n s (.cons k1 n1 s1 kd1 (.cons k2 n2 s2 kd2 .nil)) A cap acc v wr) (hp : pairB k s 2 = true) (hD : Desc w1 acc xs L) (hN : L.Nodup) (hL : ∀ x ∈ L, H + 1 ≤ x ∧ x < w1.heap.size) (hv : ∀ g, v.ownBlock = some g → g ∉ L) (hvl : ∀ g, v.ownBlock = some g → H + 1 ≤ g ∧ g < w1.heap.size)
    (hb1 : Below wr.heap.size wr w1) (hf1 : Fits k1 n1 s1) (hm : Made w1 kd1 A1 cap1 w2) (hb3 : Below w2.heap.size w2 w3) (hg : w3.grownBy w4 v.ownBlock)
    (ho : w4.ownsRow (H + 1) 31 4 (.slice (some ⟨g, 0, none⟩) (acc.len + 1) cap4) (acc.len + 1) (xs ++ [.int .i64 k1, .int .i64 n1, .string s1, .slice A1 kd1.len cap1])) (hat : v.ownBlock = some g ∨ g = w3.heap.size)
    (hf2 : Fits k2 n2 s2) (hk2 : KidsAt w lo hi kd2 A2 cap2) :
    LsP w lo hi H F T M k2 n2 s2 kd2 A2 cap2 (acc.app (.cons k1 n1 s1 kd1 .nil)) (.slice (some ⟨g, 0, none⟩) (acc.len + 1) cap4) ((((w4.setCell ⟨H, 0, none⟩ (.int .i64 k2)).setCell ⟨H, 1, none⟩ (.int .i64 n2)).setCell ⟨H, 2, none⟩ (.string s2)).setCell ⟨H, 3, none⟩ (.slice A2 kd2.len cap2)) := by
  obtain ⟨b0, hk, hf, hM, hr, hF, hT, hb, hs, hH⟩ := h
  have hm' := hm
  obtain ⟨_, _, _, _, hb2⟩ := hm'
  have s1' := hb1.size
  have s2' := hb2.size
  have s3' := hb3.size
  have s4' := hg.size
  have far : w4.heap[H]? = wr.heap[H]? := by
    rw [hg.block H (by omega) fun e => by have := (hvl H e.symm).1; omega, hb3.block H (by omega), hb2.block H (by omega), hb1.block H (by omega)]
  have hbw : Below w.heap.size w w4 := by
    have h1 := hb1.trans ((hb2.trans (hb3.mono hb2.size)).mono hb1.size)
    have h2 := hb.trans (h1.mono hb.size)
    refine h2.grown hg h2.size fun g hg => ?_
    have := (hvl g hg).1; omega
  have hst := RowP.step (base := H + 1) hD hN hL hv (fun g hg => (hvl g hg).2) (by omega) hf1 hm hb3 hg ho hat
  have hF' : (acc.app (.cons k1 n1 s1 kd1 .nil)).app (fronts k2 s2 kd2) = F := by
    rw [← hF, fronts, if_pos hp, app_assoc]; rfl
  have hT' : tails k2 n2 s2 kd2 = T := by rw [← hT, tails, if_pos hp]
  have hM' : nodes kd2 ≤ M := by simp only [nodes] at hM; omega
  refine ⟨((((b0.keep far).set_ 0 _).set_ 1 _).set_ 2 _).set_ 3 _, hk2, hf2, hM', (((hst.set_ (by simp) _).set_ (by simp) _).set_ (by simp) _).set_ (by simp) _, hF', hT', (((hbw.setCell hH _).setCell hH _).setCell hH _).setCell hH _, ?_, hH⟩
  simp only [World.setCell, Array.size_modify]
  omega

theorem LsP.below {w wr w1 : World} {lo hi H : Nat} {F T : Fr} {M : Nat} {k n : Int} {s : ByteArray} {f : Fr} {A : Option Addr} {cap : Nat} {acc : Fr} {v : Value}
    (h : LsP w lo hi H F T M k n s f A cap acc v wr) (hb : Below wr.heap.size wr w1) : LsP w lo hi H F T M k n s f A cap acc v w1 := by
  obtain ⟨b0, hk, hf, hM, hr, hF, hT, hbw, hs, hH⟩ := h
  exact ⟨b0.below hb (by omega), hk, hf, hM, hr.below hb, hF, hT, hbw.trans (hb.mono hbw.size), Nat.le_trans hs hb.size, hH⟩

theorem fronts_nodes (k : Int) (s : ByteArray) (f : Fr) : nodes (fronts k s f) ≤ nodes f := by
  have all : ∀ N : Nat, ∀ f : Fr, f.size ≤ N → ∀ k s, nodes (fronts k s f) ≤ nodes f := by
    intro N
    induction N with
    | zero =>
      intro f hf k s
      cases f with
      | nil => exact Nat.le_refl _
      | cons _ _ _ _ _ => simp [Fr.size] at hf
    | succ N ih =>
      intro f hf k s
      cases hp : pairB k s f.len
      · rw [(pair_no 0 hp).1]; exact Nat.zero_le _
      · obtain ⟨k1, n1, s1, kd1, k2, n2, s2, kd2, rfl, hfr, _⟩ := pair_yes 0 hp
        rw [hfr]
        simp only [Fr.size] at hf
        have := ih kd2 (by omega) k2 s2
        simp only [nodes]
        omega
  exact all f.size f (Nat.le_refl _) k s

/-- What spec.ListOf answers. -/
def ListRes (w : World) (k n : Int) (s : ByteArray) (f : Fr) (e : Ending) (w' : World) : Prop :=
  Below w.heap.size w w' ∧ ((validT k n s f && listB k n s f) = true ∧ (∃ A cap, e = .returned (.tuple #[.slice A (fronts k s f).len cap, .bool true]) ∧ Made w (fronts k s f) A cap w') ∨
    (validT k n s f && listB k n s f) = false ∧ ∃ A cap, e = .returned (.tuple #[.slice A 0 cap, .bool false]) ∧ cap ≤ maxLen)

set_option maxRecDepth 100000 in
set_option maxHeartbeats 8000000 in
/-- spec.ListOf. -/
theorem specList_any (k n : Int) (s : ByteArray) (f : Fr) (A : Option Addr) (cap lo hi : Nat) (w : World) (hk : KidsAt w lo hi f A cap) (hh : hi ≤ w.heap.size) (hf : Fits k n s) (hnd : nodes f ≤ 1048576) :
    Calls Tryd.prog 28 #[.agg #[.int .i64 k, .int .i64 n, .string s, .slice A f.len cap]] w fun e w' => ListRes w k n s f e w' := by
  have C1 := fun w1 (hb : Below w.heap.size w w1) => specValid_any k n s f A cap lo hi w1 (hk.below hb hh) (Nat.le_trans hh hb.size) hf hnd
  have HK := Lib.hid hk
  have HHI := Lib.hid hh
  have HND := Lib.hid hnd
  have HF := Lib.hid hf
  have H1 := Lib.hid C1
  clear C1 hk hh hnd hf
  obtain ⟨i0, hi0, hz0, hz1, hz2⟩ := info_parts infoT
  cases hvd : validT k n s f
  · rw [hvd] at H1
    have HV : Hid ((validT k n s f && listB k n s f) = false) := Lib.hid (by rw [hvd]; rfl)
    have hb0 := two_alloc w (.cells #[.int .i64 k, .int .i64 n, .string s, .slice A f.len cap] 31) (.cells #[] 31)
    clear hvd
    go_enter Tryd.func28, Tryd.ntmps28
    go_wp2_with fail
    refine (H1.out _ hb0).mono ?_
    rintro e w2 ⟨rfl, hb2⟩
    have HB : Hid (Below w.heap.size w w2) := Lib.hid (hb0.trans (hb2.mono (by simp; omega)))
    clear hb2 hb0
    go_wp2_with fail
    go_ret2
    exact ⟨HB.out, .inr ⟨HV.out, _, 0, rfl, Nat.zero_le _⟩⟩
  · rw [hvd] at H1
    have HVD := Lib.hid hvd
    have hb0 := two_alloc w (.cells #[.int .i64 k, .int .i64 n, .string s, .slice A f.len cap] 31) (.cells #[] 31)
    have hst : LsP w lo hi w.heap.size (fronts k s f) (tails k n s f) 1048576 k n s f A cap .nil (.slice (some ⟨w.heap.size + 1, 0, none⟩) 0 0) ((w.alloc (.cells #[.int .i64 k, .int .i64 n, .string s, .slice A f.len cap] 31)).alloc (.cells #[] 31)) := by
      refine ⟨(Blk.new w _ _).alloc _, HK.out, HF.out, HND.out, ?_, rfl, rfl, hb0, by simp, Nat.le_refl _⟩
      have h := RowP.empty (base := w.heap.size + 1) (w := w.alloc (.cells #[.int .i64 k, .int .i64 n, .string s, .slice A f.len cap] 31)) (by simp)
      simpa using h
    have hst2 : ∀ w2, Below ((w.alloc (.cells #[.int .i64 k, .int .i64 n, .string s, .slice A f.len cap] 31)).alloc (.cells #[] 31)).heap.size ((w.alloc (.cells #[.int .i64 k, .int .i64 n, .string s, .slice A f.len cap] 31)).alloc (.cells #[] 31)) w2 →
        LsP w lo hi w.heap.size (fronts k s f) (tails k n s f) 1048576 k n s f A cap .nil (.slice (some ⟨w.heap.size + 1, 0, none⟩) 0 0) w2 := fun w2 hb => hst.below hb
    have HST := Lib.hid hst2
    clear hst hst2 hvd
    go_enter Tryd.func28, Tryd.ntmps28
    go_wp2_with fail
    refine (H1.out _ hb0).mono ?_
    rintro e w2 ⟨rfl, hb2⟩
    have HS2 := Lib.hid (HST.out w2 hb2)
    clear hb2 HST hb0 H1
    go_wp2_with fail
    go_loopw [4] (fun u wr => ∃ (k' n' : Int) (s' : ByteArray) (f' : Fr) (A' : Option Addr) (cap' : Nat) (acc : Fr) (v : Value), v = u ∧ LsP w lo hi w.heap.size (fronts k s f) (tails k n s f) 1048576 k' n' s' f' A' cap' acc v wr) (fun v _ => (fronts k s f).len - lenOf v)
    case atStart => exact ⟨k, n, s, f, A, cap, .nil, _, rfl, HS2.out⟩
    case round =>
      obtain ⟨k', n', s', f', A', cap', acc, v, rfl, hp⟩ := hrel
      have HP := Lib.hid hp
      obtain ⟨b0, hk', hf', hM', hr, hF, hT, hb, hs, hH⟩ := hp
      obtain ⟨a0, a1, a2, a3⟩ := cells4i b0
      have C3 := pair_any k' n' s' A' f'.len cap'
      cases hpb : pairB k' s' f'.len
      · rw [hpb] at C3
        have hno := pair_no n' hpb
        rw [hno.1, app_nil] at hF
        have C4 := nil_any k' n' s' A' f'.len cap'
        have hnl : listB k n s f = nilB k' s' f'.len := by unfold listB; rw [← hT, hno.2]
        have H3 := Lib.hid C3
        have H4 := Lib.hid C4
        have HLB := Lib.hid hnl
        have HF2 := Lib.hid hF
        have HR := Lib.hid hr
        have HB := Lib.hid hb
        have HB0 := Lib.hid b0
        clear C3 C4 b0 hk' hf' hM' hr hF hT hb hpb hno hnl
        go_wp2_with fail
        refine (H3.out _).mono ?_
        rintro e w3 ⟨rfl, hb3⟩
        obtain ⟨b0, b1, b2, b3⟩ := cells4i (HB0.out.below hb3 (by omega))
        have HB3 := Lib.hid hb3
        clear hb3 a0 a1 a2 a3
        go_wp2_with fail
        refine (H4.out _).mono ?_
        rintro e w4 ⟨rfl, hb4⟩
        have hbw : Below wr.heap.size wr w4 := HB3.out.trans (hb4.mono HB3.out.size)
        have HBW := Lib.hid hbw
        clear hb4 hbw b0 b1 b2 b3
        cases hnb : nilB k' s' f'.len
        · have HN2 : Hid ((validT k n s f && listB k n s f) = false) := Lib.hid (by rw [HLB.out, hnb, Bool.and_false])
          clear hnb
          go_wp2_with fail
          go_ret2
          exact ⟨(HB.out.trans (HBW.out.mono HB.out.size)).alloc (Nat.le_trans HB.out.size HBW.out.size) _, .inr ⟨HN2.out, _, 0, rfl, Nat.zero_le _⟩⟩
        · have HN2 : Hid ((validT k n s f && listB k n s f) = true) := Lib.hid (by rw [HLB.out, hnb, HVD.out]; rfl)
          have hr4 := HR.out.below HBW.out
          rw [HF2.out] at hr4
          obtain ⟨A4, cap4, rfl⟩ := hr4.form
          have HR4 := Lib.hid hr4
          clear hnb hr4
          go_wp2_with fail
          go_ret2
          exact ⟨HB.out.trans (HBW.out.mono HB.out.size), .inl ⟨HN2.out, A4, cap4, rfl, HR4.out.done (HB.out.trans (HBW.out.mono HB.out.size)) (by omega)⟩⟩
      · rw [hpb] at C3
        obtain ⟨k1, n1, s1, kd1, k2, n2, s2, kd2, rfl, hfr, htl⟩ := pair_yes n' hpb
        have hp2 : pairB k' s' 2 = true := hpb
        obtain ⟨b, o, rfl, hlb, hbb, hrow⟩ := hk'.2.2 (by simp [Fr.len])
        obtain ⟨hfit1, A1, cap1, c0, c1, c2, c3, hkid1⟩ := hrow.elem (i := 0) rfl
        obtain ⟨hfit2, A2, cap2, e0, e1, e2, e3, hkid2⟩ := hrow.elem (i := 1) rfl
        have hlo : (⟨b, o, none⟩ : Addr).block < w.heap.size := Nat.lt_of_lt_of_le hbb HHI.out
        simp only [Nat.zero_mul, Nat.one_mul, Nat.add_zero] at c0 c1 c2 c3 e0 e1 e2 e3
        obtain ⟨xs, L, hown, hD, hN, hL, hv⟩ := hr
        have hvl := hown.lt
        have hacc : acc.len < 1048577 := by
          have h1 := congrArg Fr.len hF
          have h2 := len_le_nodes (fronts k s f)
          rw [Fr.len_app] at h1
          have h3 := fronts_nodes k s f
          have := HND.out
          omega
        have hmeas : (fronts k s f).len - (acc.len + 1) < (fronts k s f).len - lenOf v := by
          have h1 := congrArg Fr.len hF
          rw [Fr.len_app, hfr] at h1
          simp only [Fr.len] at h1
          obtain ⟨A0, cap0, rfl⟩ := RowP.form (base := w.heap.size + 1) (w := wr) ⟨xs, L, hown, hD, hN, hL, hv⟩
          simp only [lenOf]
          omega
        have C5 : ∀ w1, Below wr.heap.size wr w1 → Calls Tryd.prog 45 #[.agg #[.int .i64 k1, .int .i64 n1, .string s1, .slice A1 kd1.len cap1]] w1 fun e w' => MadeT w1 k1 n1 s1 kd1 e w' := fun w1 hb1 => by
          have hb2 := hb.trans (hb1.mono hb.size)
          refine cpT_any s1 kd1 k1 n1 A1 cap1 lo hi w1 (hkid1.below hb2 HHI.out) (Nat.le_trans HHI.out hb2.size) hfit1 ?_
          simp only [nodes] at hM'
          omega
        have keep : ∀ w2, Below wr.heap.size wr w2 → w2.ownsRow (w.heap.size + 1) 31 4 v acc.len xs := fun w2 hb2 =>
          hown.kept (row := none) ⟨hb2.os, hb2.tape, hb2.output, hb2.size, fun k hk _ => hb2.block k hk⟩ (by
            cases h : v.ownBlock with
            | none => exact .inl rfl
            | some g => exact .inr (by simp))
        have STEP := fun (A3 : Option Addr) (cap3 : Nat) (w1 w2 w3 w4 : World) (g cap4 : Nat) (hb1 : Below wr.heap.size wr w1) hm hb2 hg ho hat => LsP.step (w1 := w1) (w2 := w2) (w3 := w3) (w4 := w4) (A1 := A3) (cap1 := cap3) (g := g) (cap4 := cap4) HP.out hp2
          (hD.keep acc xs L fun x hx => hb1.block x (hL x hx).2) hN (fun x hx => ⟨(hL x hx).1, Nat.lt_of_lt_of_le (hL x hx).2 hb1.size⟩) hv (fun g hg => ⟨(hvl g hg).1, Nat.lt_of_lt_of_le (hvl g hg).2 hb1.size⟩) hb1 hfit1 hm hb2 hg ho hat hfit2 hkid2
        have far : ∀ w4 w6, Below wr.heap.size wr w4 → w4.grownBy w6 v.ownBlock → (∀ x, x ≤ w.heap.size → w6.heap[x]? = wr.heap[x]?) := fun w4 w6 h4 h6 x hx => by
          have := h4.size
          rw [h6.block x (by omega) fun e => by have := (hvl x e.symm).1; omega, h4.block x (by omega)]
        have H3 := Lib.hid C3
        have H5 := Lib.hid C5
        have HSTEP := Lib.hid STEP
        have HKEEP := Lib.hid keep
        have HFAR := Lib.hid far
        have HB := Lib.hid hb
        have HB0 := Lib.hid b0
        have HM := Lib.hid hmeas
        have hlo' : b < wr.heap.size := Nat.lt_of_lt_of_le hlo hb.size
        have HC0 : Hid (∀ w6 : World, (∀ x, x ≤ w.heap.size → w6.heap[x]? = wr.heap[x]?) → w6.cell? ⟨b, o, none⟩ = some (.int .i64 k1) ∧ w6.cell? ⟨b, o + 1, none⟩ = some (.int .i64 n1) ∧ w6.cell? ⟨b, o + 2, none⟩ = some (.string s1) ∧ w6.cell? ⟨b, o + 3, none⟩ = some (.slice A1 kd1.len cap1) ∧
            w6.cell? ⟨b, o + 4, none⟩ = some (.int .i64 k2) ∧ w6.cell? ⟨b, o + 4 + 1, none⟩ = some (.int .i64 n2) ∧ w6.cell? ⟨b, o + 4 + 2, none⟩ = some (.string s2) ∧ w6.cell? ⟨b, o + 4 + 3, none⟩ = some (.slice A2 kd2.len cap2)) := Lib.hid fun w6 h6 => by
          have all : ∀ i, w6.cell? ⟨b, i, none⟩ = w.cell? ⟨b, i, none⟩ := fun i => (World.cell?_of_block (a := ⟨b, i, none⟩) (h6 b (Nat.le_of_lt hlo))).trans (hb.cell (p := ⟨b, i, none⟩) hlo)
          exact ⟨(all _).trans c0, (all _).trans c1, (all _).trans c2, (all _).trans c3, (all _).trans e0, (all _).trans e1, (all _).trans e2, (all _).trans e3⟩
        have hs' : w.heap.size + 1 ≤ wr.heap.size := hs
        clear C3 C5 STEP keep far hown hD hN hL hv hvl hb b0 hmeas hF hT hpb hp2 hfr htl hk' hf' hM' hrow hfit1 hfit2 hkid1 hkid2 c0 c1 c2 c3 e0 e1 e2 e3 hlo HP
        simp only [Fr.len] at *
        go_wp2_with fail
        refine (H3.out _).mono ?_
        rintro e w3 ⟨rfl, hb3⟩
        obtain ⟨c0, c1, c2, c3, -, -, -, -⟩ := HC0.out w3 fun x hx => hb3.block x (by omega)
        obtain ⟨b0, b1, b2, b3⟩ := cells4i (HB0.out.below hb3 (by omega))
        have HB3 := Lib.hid hb3
        clear hb3 a0 a1 a2 a3
        go_wp2_with fail
        refine (H5.out _ HB3.out).mono ?_
        rintro e w4 ⟨A3, cap3, rfl, hm⟩
        have hb34 : Below w3.heap.size w3 w4 := by obtain ⟨L, _, _, _, h⟩ := hm; exact h
        have hb4 : Below wr.heap.size wr w4 := HB3.out.trans (hb34.mono HB3.out.size)
        have hb5 : Below wr.heap.size wr (w4.alloc (.cells #[.int .i64 k1, .int .i64 n1, .string s1, .slice A3 kd1.len cap3] 31)) := hb4.alloc hb4.size _
        obtain ⟨b0, b1, b2, b3⟩ := cells4i (HB0.out.below hb4 (by omega))
        have hs4 : wr.heap.size ≤ w4.heap.size := hb4.size
        have HO4 := Lib.hid (HKEEP.out w4 hb4)
        have HB5 := Lib.hid hb5
        have HMD := Lib.hid hm
        have HALL : Hid (∀ w6, (w4.alloc (.cells #[.int .i64 k1, .int .i64 n1, .string s1, .slice A3 kd1.len cap3] 31)).grownBy w6 v.ownBlock → (w6.cell? ⟨b, o + 4, none⟩ = some (.int .i64 k2) ∧ w6.cell? ⟨b, o + 4 + 1, none⟩ = some (.int .i64 n2) ∧ w6.cell? ⟨b, o + 4 + 2, none⟩ = some (.string s2) ∧ w6.cell? ⟨b, o + 4 + 3, none⟩ = some (.slice A2 kd2.len cap2)) ∧
            (w6.cell? ⟨w.heap.size, 0, none⟩ = some (.int .i64 k') ∧ w6.cell? ⟨w.heap.size, 1, none⟩ = some (.int .i64 n') ∧ w6.cell? ⟨w.heap.size, 2, none⟩ = some (.string s') ∧ w6.cell? ⟨w.heap.size, 3, none⟩ = some (.slice (some ⟨b, o, none⟩) (0 + 1 + 1) cap')) ∧
            (w6.frozen? ⟨w.heap.size, 0, none⟩ = false ∧ w6.frozen? ⟨w.heap.size, 1, none⟩ = false ∧ w6.frozen? ⟨w.heap.size, 2, none⟩ = false ∧ w6.frozen? ⟨w.heap.size, 3, none⟩ = false)) := Lib.hid fun w6 hg6 => by
          have hfar := HFAR.out _ w6 HB5.out hg6
          have hq := HB0.out.keep (hfar _ (Nat.le_refl _))
          exact ⟨(HC0.out w6 hfar).2.2.2.2, cells4i hq, frozen4 hq⟩
        clear hm hb34 hb4 hb5 c0 c1 c2 c3
        go_wp2_with (at_builtin; go_must (refine wpList_append_lies _ rfl _ _ _ rfl (w.heap.size + 1) 31 i0 _ 4 56 Tryd.underlying29 hi0 hz0 hz1 hz2 rfl (by omega) v acc.len xs rfl (HO4.out.alloc _) ⟨w4.heap.size, 0, none⟩ 1 1 [.int .i64 k1, .int .i64 n1, .string s1, .slice A3 kd1.len cap3] rfl rfl (World.news_of_block (cs := #[.int .i64 k1, .int .i64 n1, .string s1, .slice A3 kd1.len cap3]) (fr := (0, 0)) (heap_alloc_new w4 _)) (by simp [Value.oneCell']) (by omega) (by unfold maxLen; omega) (by omega) (by simp; omega) (w4.heap.size + 1) (by simp) ?_); intro g cap4 w6 hown6 hgrow hat hlt6; obtain ⟨⟨e0, e1, e2, e3⟩, ⟨x0, x1, x2, x3⟩, ⟨y0, y1, y2, y3⟩⟩ := HALL.out w6 hgrow; have HST6 := Lib.hid (HSTEP.out A3 cap3 w3 w4 _ w6 g cap4 HB3.out HMD.out ((Below.refl _ _).alloc (Nat.le_refl _) _) hgrow hown6 (by rw [show (w4.alloc (.cells #[.int .i64 k1, .int .i64 n1, .string s1, .slice A3 kd1.len cap3] 31)).heap.size = w4.heap.size + 1 by simp]; exact hat)); clear hown6 hgrow hat b0 b1 b2 b3)
        go_roundw
        case rel => exact ⟨_, _, _, _, _, _, _, _, rfl, HST6.out⟩
        case measure => exact HM.out
end Go.Proofs.YtppnmodemhoebaaDoor
