/- The model's FirstKey: spec.l7Key, FirstKey. Condition: the term lies in memory (and is well-formed, for l7Key). -/
import Derived.Test.YtlapdnllncoomaaDoorProg
import Derived.Test.YtlapdnllncoomaaDoorFk
import Derived.Test.YtlapdnllncoomaaDoorTxS
import Derived.Test.YtlapdnllncoomaaDoorSpecC
import Derived.Test.YtlapdnllncoomaaDoorImplV
import Derived.Deep.RegionHeld3
namespace Go.Proofs.YtlapdnllncoomaaDoor
open Go.RowKit

theorem str_cons (s : ByteArray) (l : List UInt8) : (.string (s ++ ⟨#[47]⟩ ++ ⟨l.toArray⟩) : Value) = .string ⟨(s.data.toList ++ (47 :: l)).toArray⟩ := by
  have h := str_own s
  rw [show ((⟨#[47]⟩ : ByteArray)) = ⟨[(47 : UInt8)].toArray⟩ from rfl]
  rw [congrArg (fun x : ByteArray => (Value.string (x ++ ⟨[(47 : UInt8)].toArray⟩ ++ ⟨l.toArray⟩))) h]
  rw [ByteArray.mk_append_mk, ByteArray.mk_append_mk]
  simp
set_option maxRecDepth 100000 in
set_option maxHeartbeats 2000000 in
/-- spec.l7Key. -/
theorem l7Key_any (k n : Int) (s : ByteArray) (f : Fr) (A : Option Addr) (cap lo hi : Nat) (d : Int) (w : World) (hk : KidsAt w lo hi f A cap) (hh : hi ≤ w.heap.size) (hs : shapeF f d = true) :
    Calls Tryd.prog 34 #[.agg #[.int .i64 k, .int .i64 n, .string s, .slice A f.len cap]] w fun e w' => e = .returned (.string ⟨(keyF f).toArray⟩) ∧ Below w.heap.size w w' := by
  have hb0 : Below w.heap.size w (w.alloc (.cells #[.int .i64 k, .int .i64 n, .string s, .slice A f.len cap] 29)) := (Below.refl _ _).alloc (Nat.le_refl _) _
  cases f with
  | nil =>
    have HB0 := Lib.hid hb0
    clear hb0 hk hh hs
    go_enter Tryd.func34, Tryd.ntmps34
    go_wp2_with fail
    go_ret
    exact ⟨rfl, HB0.out⟩
  | cons k1 n1 s1 kids rest =>
    obtain ⟨b, o, rfl, hl, hb, hrow⟩ := hk.2.2 (by simp [Fr.len])
    obtain ⟨hfit, A', cap', c0, c1, c2, c3, hkid⟩ := RowAt.elem (i := 0) hrow rfl
    rw [Nat.zero_mul, Nat.add_zero] at c0 c1 c2 c3
    have hlo : b < w.heap.size := by omega
    have hf1 := first_of hs
    have HVV := keyF_cons k1 n1 s1 kids rest
    have hlen : (Fr.cons k1 n1 s1 kids rest).len = rest.len + 1 := rfl
    have hcap := hk.1
    have hcm := hk.2.1
    unfold maxLen at hcm
    rw [hlen] at hb0 hcap ⊢
    have hb1 : Below w.heap.size w ((w.alloc (.cells #[.int .i64 k, .int .i64 n, .string s, .slice (some ⟨b, o, none⟩) (rest.len + 1) cap] 29)).alloc (.cells #[.int .i64 k1, .int .i64 n1, .string s1, .slice A' kids.len cap'] 29)) := hb0.alloc hb0.size _
    have HB1 := Lib.hid hb1
    have hkl := Nat.le_trans hkid.1 hkid.2.1
    unfold maxLen at hkl
    clear hk hh hs hrow hkid hfit hlen hb0 hb1 hl hb
    generalize rest.len = rl at *
    rcases hf1 with ⟨rfl, h1, h2⟩ | ⟨rfl, h1, h2⟩ | ⟨rfl, h1, h2⟩
    · have HV : Hid (keyF (.cons 1 n1 s1 kids rest) = []) := Lib.hid (by rw [HVV, if_pos rfl])
      clear HVV
      go_enter Tryd.func34, Tryd.ntmps34
      go_wp2_with fail
      go_ret
      rw [HV.out]; exact ⟨rfl, HB1.out⟩
    · have HV : Hid (keyF (.cons 2 n1 s1 kids rest) = Lib.itoa n1) := Lib.hid (by rw [HVV, if_neg (by omega), if_pos rfl])
      clear HVV
      have C1 := fun w1 => dec_any n1 ⟨h1, h2⟩ w1
      have H1 := Lib.hid C1
      clear C1
      go_enter Tryd.func34, Tryd.ntmps34
      go_wp2_with fail
      refine (H1.out _).mono ?_
      rintro e w2 ⟨rfl, hb⟩
      have HB2 := Lib.hid (HB1.out.trans (hb.mono HB1.out.size))
      clear hb
      go_wp2_with fail
      go_ret
      rw [HV.out]; exact ⟨rfl, HB2.out⟩
    · have HV : Hid (keyF (.cons 3 n1 s1 kids rest) = s1.data.toList ++ (47 :: Lib.decDigits kids.len)) := Lib.hid (by rw [HVV, if_neg (by omega), if_neg (by omega)])
      clear HVV
      have C1 := fun w1 => dec18_any kids.len (by omega) w1
      have hz := nameB_size h1
      have HS := Lib.hid (str_cons s1 (Lib.decDigits kids.len))
      have hdl : (Lib.decDigits kids.len).length ≤ 20 := by rw [Lib.decDigits_length]; exact Lib.nDigits_le20 _ (by omega)
      have H1 := Lib.hid C1
      generalize Lib.decDigits kids.len = l at *
      have hq1 : Blk ((w.alloc (.cells #[.int .i64 k, .int .i64 n, .string s, .slice (some ⟨b, o, none⟩) (rl + 1) cap] 29)).alloc (.cells #[.int .i64 3, .int .i64 n1, .string s1, .slice A' kids.len cap'] 29)) (w.heap.size + 1) 29 #[.int .i64 3, .int .i64 n1, .string s1, .slice A' kids.len cap'] := by
        have h := Blk.new (w.alloc (.cells #[.int .i64 k, .int .i64 n, .string s, .slice (some ⟨b, o, none⟩) (rl + 1) cap] 29)) 29 #[.int .i64 3, .int .i64 n1, .string s1, .slice A' kids.len cap']
        simpa using h
      have HQ1 := Lib.hid hq1
      have HKL : Hid (kids.len ≤ 4) := Lib.hid h2
      clear C1 h1 hq1
      have t1 : ¬ 9223372036854775807 < s1.size + 1 := by omega
      have t2 : ¬ 9223372036854775807 < s1.size + 1 + l.length := by omega
      generalize kids.len = kl at *
      go_enter Tryd.func34, Tryd.ntmps34
      go_wp2_with fail
      generalize (w.alloc (.cells #[.int .i64 k, .int .i64 n, .string s, .slice (some ⟨b, o, none⟩) (rl + 1) cap] 29)).alloc (.cells #[.int .i64 3, .int .i64 n1, .string s1, .slice A' kl cap'] 29) = W1 at *
      obtain ⟨x0, x1, x2, x3⟩ := cells4 HQ1.out
      clear x0 x1
      go_region_held3 (fun w' => w'.cell? ⟨w.heap.size + 1, 2, none⟩ = some (.string s1) ∧ w'.cell? ⟨w.heap.size + 1, 3, none⟩ = some (.slice A' kl cap'))
        (first | exact ⟨y2, y3⟩ | exact ⟨x2, x3⟩)
        (first
          | (go_at_call 57
             refine (H1.out _).mono ?_
             rintro e w2 ⟨rfl, hb⟩
             have hd : Below W1.heap.size W1 w2 := (Below.refl W1.heap.size W1).drew.trans hb
             obtain ⟨y0, y1, y2, y3⟩ := cells4 (HQ1.out.below hd HQ1.out.lt)
             clear y0 y1
             have HB2 := Lib.hid (HB1.out.trans (hd.mono HB1.out.size))
             clear hb hd))
      go_wp2_with fail
      go_ret
      rw [HV.out]
      exact ⟨congrArg _ HS.out, HB2.out⟩

set_option maxRecDepth 100000 in
set_option maxHeartbeats 1000000 in
/-- spec.FirstKey. -/
theorem specFK_any (k n : Int) (s : ByteArray) (f : Fr) (A : Option Addr) (cap lo hi : Nat) (w : World) (hk : KidsAt w lo hi f A cap) (hh : hi ≤ w.heap.size) (hf : Fits k n s) (hnd : nodes f ≤ 1048576) :
    Calls Tryd.prog 9 #[.agg #[.int .i64 k, .int .i64 n, .string s, .slice A f.len cap]] w fun e w' => e = .returned (.string ⟨(fkB k n s f).toArray⟩) ∧ Below w.heap.size w w' := by
  have hb0 : Below w.heap.size w (w.alloc (.cells #[.int .i64 k, .int .i64 n, .string s, .slice A f.len cap] 29)) := (Below.refl _ _).alloc (Nat.le_refl _) _
  have hq0 := Blk.new w 29 #[.int .i64 k, .int .i64 n, .string s, .slice A f.len cap]
  have C1 := specValid_any k n s f A cap lo hi _ (hk.below hb0 hh) (Nat.le_trans hh hb0.size) hf hnd
  have HE : Hid (fkB k n s f = if validT k n s f = true then keyF f else []) := Lib.hid rfl
  have C2 := fun w1 (hb : Below w.heap.size w w1) (hv : validT k n s f = true) => l7Key_any k n s f A cap lo hi 29 w1 (hk.below hb hh) (Nat.le_trans hh hb.size) (by
    unfold validT shapeT at hv
    simp only [Bool.and_eq_true] at hv
    exact hv.1.2.2)
  have H1 := Lib.hid C1
  have H2 := Lib.hid C2
  have HB0 := Lib.hid hb0
  have HQ0 := Lib.hid hq0
  clear C1 C2 hk hh hf hnd hb0 hq0
  generalize f.len = fl at *
  cases hv : validT k n s f
  · have HV : Hid (fkB k n s f = []) := Lib.hid (by rw [HE.out, hv]; rfl)
    rw [hv] at H1
    clear H2 HE hv
    go_enter Tryd.func9, Tryd.ntmps9
    go_wp2_with fail
    refine H1.out.mono ?_
    rintro e w2 ⟨rfl, hb⟩
    have HB2 := Lib.hid (HB0.out.trans (hb.mono HB0.out.size))
    clear hb
    go_wp2_with fail
    go_ret
    rw [HV.out]; exact ⟨rfl, HB2.out⟩
  · have HV : Hid (fkB k n s f = keyF f) := Lib.hid (by rw [HE.out, hv]; rfl)
    have H3 := Lib.hid (fun w1 hb => H2.out w1 hb hv)
    rw [hv] at H1
    clear H2 HE hv
    go_enter Tryd.func9, Tryd.ntmps9
    go_wp2_with fail
    refine H1.out.mono ?_
    rintro e w2 ⟨rfl, hb⟩
    have hq := HQ0.out.below hb HQ0.out.lt
    obtain ⟨a0, a1, a2, a3⟩ := cells4 hq
    have HB2 := Lib.hid (HB0.out.trans (hb.mono HB0.out.size))
    clear hb hq
    go_wp2_with fail
    refine (H3.out _ HB2.out).mono ?_
    rintro e w3 ⟨rfl, hb⟩
    have HB3 := Lib.hid (HB2.out.trans (hb.mono HB2.out.size))
    clear hb
    go_wp2_with fail
    go_ret
    rw [HV.out]; exact ⟨rfl, HB3.out⟩
end Go.Proofs.YtlapdnllncoomaaDoor
