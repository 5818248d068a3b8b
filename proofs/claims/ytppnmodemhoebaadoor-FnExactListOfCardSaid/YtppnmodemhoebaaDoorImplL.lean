/- impl.ListOf. Condition: the term lies in memory, the table of signs in its variable. -/
import Derived.Test.YtppnmodemhoebaaDoorProg
import Derived.Test.YtppnmodemhoebaaDoorSplit
import Derived.Test.YtppnmodemhoebaaDoorTermOf
namespace Go.Proofs.YtppnmodemhoebaaDoor
open Go.RowKit

theorem shape_fronts (k n : Int) (s : ByteArray) (f : Fr) (d : Int) (h : shapeT k n s f d = true) : shapeF (fronts k s f) d = true := by
  have all : ∀ N : Nat, ∀ f : Fr, f.size ≤ N → ∀ k n s d, shapeT k n s f d = true → shapeF (fronts k s f) d = true := by
    intro N
    induction N with
    | zero =>
      intro f hf k n s d _
      cases f with
      | nil => rfl
      | cons _ _ _ _ _ => simp [Fr.size] at hf
    | succ N ih =>
      intro f hf k n s d h
      cases hp : pairB k s f.len
      · rw [(pair_no 0 hp).1]; rfl
      · obtain ⟨k1, n1, s1, kd1, k2, n2, s2, kd2, rfl, hfr, _⟩ := pair_yes 0 hp
        rw [hfr, shapeF_cons]
        simp only [Fr.size] at hf
        have h1 := shapeT_kids h
        rw [shapeF_cons, shapeF_cons, Bool.and_eq_true, Bool.and_eq_true] at h1
        have h2 := ih kd2 (by omega) k2 n2 s2 (d - 1) h1.2.1
        rw [Bool.and_eq_true]
        refine ⟨?_, shapeF_mono _ (d - 1) d (by omega) h2⟩
        have h3 : shapeF (.cons k1 n1 s1 kd1 .nil) (d - 1) = true := by rw [shapeF_cons, h1.1]; rfl
        have h4 := shapeF_mono _ (d - 1) d (by omega) h3
        rw [shapeF_cons, Bool.and_eq_true] at h4
        exact h4.1
  exact all f.size f (Nat.le_refl _) k n s d h
theorem validT_shape {k n : Int} {s : ByteArray} {f : Fr} (h : validT k n s f = true) : shapeT k n s f 30 = true := by
  unfold validT at h
  rw [Bool.and_eq_true] at h
  exact h.1


set_option maxRecDepth 100000 in
set_option maxHeartbeats 4000000 in
/-- impl.ListOf. -/
theorem implList_any (k n : Int) (s : ByteArray) (f : Fr) (A : Option Addr) (cap lo hi : Nat) (w : World) (hk : KidsAt w lo hi f A cap) (hh : hi ≤ w.heap.size) (hf : Fits k n s) (hnd : nodes f ≤ 1048576) (ht : nv.Tab w) :
    Calls Tryd.prog 29 #[.agg #[.int .i64 k, .int .i64 n, .string s, .slice A f.len cap]] w fun e w' => ListRes w k n s f e w' := by
  have hlt := tab_lt ht
  have C1 := fun w1 (hb : Below w.heap.size w w1) => nodeOf_any k n s f A cap lo hi w1 (hk.below hb hh) (Nat.le_trans hh hb.size) hf hnd (tab_below ht hb hlt)
  have hb0 : Below w.heap.size w (w.alloc (.cells #[.int .i64 k, .int .i64 n, .string s, .slice A f.len cap] 31)) := (Below.refl _ _).alloc (Nat.le_refl _) _
  have HND := Lib.hid hnd
  have H1 := Lib.hid C1
  have HB0 := Lib.hid hb0
  clear C1 hk hf hnd ht hh hb0
  go_enter Tryd.func29, Tryd.ntmps29
  go_wp2_with fail
  refine (H1.out _ HB0.out).mono ?_
  rintro e w2 ⟨hb, hr⟩
  have hb2 : Below w.heap.size w w2 := HB0.out.trans (hb.mono (by simp))
  have hs2 : (w.alloc (.cells #[.int .i64 k, .int .i64 n, .string s, .slice A f.len cap] 31)).heap.size ≤ w2.heap.size := hb.size
  rcases hr with ⟨hok, v, rfl, hv⟩ | ⟨hok, rfl⟩
  · have C2 := split_any k n s f v _ _ w2 hv (Nat.le_refl _) HND.out
    have H2 := Lib.hid C2
    have HOK := Lib.hid hok
    have HB2 := Lib.hid hb2
    clear C2 hok hb2 hb hv hs2
    go_wp2_with fail
    refine H2.out.mono ?_
    rintro e w3 ⟨hb3, A3, cap3, v3, rfl, hns, k3, n3, s3, f3, hT, hv3⟩
    have C3 := fun w1 (hb : Below w3.heap.size w3 w1) => emptyList_any k3 n3 s3 f3 v3 0 w3.heap.size w1 (hv3.keep (fun p _ hp => hb.cell hp) (Nat.le_refl _) (Nat.le_refl _))
    have C4 := fun w1 (hb : Below w3.heap.size w3 w1) => tmS_any (fronts k s f) 30 A3 cap3 0 w3.heap.size w1 (shape_fronts k n s f 30 (validT_shape HOK.out)) (hns.keep (fun p _ hp => hb.cell hp) (Nat.le_refl _) (Nat.le_refl _)) hb.size (Nat.le_trans (fronts_nodes k s f) HND.out)
    have hlb : listB k n s f = nilB k3 s3 f3.len := by unfold listB; rw [hT]
    have HLB := Lib.hid hlb
    have H3 := Lib.hid C3
    have H4 := Lib.hid C4
    have HB3 : Hid (Below w.heap.size w w3) := Lib.hid (HB2.out.trans (hb3.mono HB2.out.size))
    obtain ⟨T3, x3, rfl⟩ := hv3.iface
    clear C3 C4 hb3 hns hT hv3 hlb
    go_wp2_with fail
    refine (H3.out _ (Below.refl _ _)).mono ?_
    rintro e w4 ⟨rfl, hb4⟩
    have HB4 := Lib.hid hb4
    clear hb4
    cases hnb : nilB k3 s3 f3.len
    · have HV : Hid ((validT k n s f && listB k n s f) = false) := Lib.hid (by rw [HLB.out, hnb, Bool.and_false])
      clear hnb
      go_wp2_with fail
      go_ret2
      exact ⟨HB3.out.trans (HB4.out.mono HB3.out.size), .inr ⟨HV.out, none, 0, rfl, Nat.zero_le _⟩⟩
    · have HV : Hid ((validT k n s f && listB k n s f) = true) := Lib.hid (by rw [HLB.out, hnb, HOK.out]; rfl)
      clear hnb
      go_wp2_with fail
      refine (H4.out _ HB4.out).mono ?_
      rintro e w5 ⟨A5, cap5, rfl, hm⟩
      have HM := Lib.hid hm
      clear hm
      go_wp2_with fail
      go_ret2
      have hb5 : Below w.heap.size w w4 := HB3.out.trans (HB4.out.mono HB3.out.size)
      have hm5 := HM.out.up hb5
      exact ⟨made_below hm5, .inl ⟨HV.out, A5, cap5, rfl, hm5⟩⟩
  · have HV : Hid ((validT k n s f && listB k n s f) = false) := Lib.hid (by rw [hok]; rfl)
    have HB2 := Lib.hid hb2
    clear hok hb2 hb hs2
    go_wp2_with fail
    go_ret2
    exact ⟨HB2.out, .inr ⟨HV.out, none, 0, rfl, Nat.zero_le _⟩⟩
end Go.Proofs.YtppnmodemhoebaaDoor
