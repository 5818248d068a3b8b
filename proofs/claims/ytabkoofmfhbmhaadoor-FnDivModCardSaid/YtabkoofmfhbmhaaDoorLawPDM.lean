/- The law FnDivMod, walked. Condition: the codes lie in memory, the table of signs and the handle of the type error in their variables. -/
import Derived.Test.YtabkoofmfhbmhaaDoorProg
import Derived.Test.YtabkoofmfhbmhaaDoorLawPEA
import Derived.Test.YtabkoofmfhbmhaaDoorEvD
namespace Go.Proofs.YtabkoofmfhbmhaaDoor
open Go.RowKit

set_option maxRecDepth 100000 in
set_option maxHeartbeats 8000000 in
theorem lawPDM_any (A : Option Addr) (len cap : Nat) (A' : Option Addr) (len' cap' : Nat) (w : World) (hb : Bts w w.heap.size A len) (hc : len ≤ cap) (hm : cap ≤ maxLen) (hb' : Bts w w.heap.size A' len') (hc' : len' ≤ cap') (hm' : cap' ≤ maxLen) (ht : nv.Tab w) (he : ErrT w) :
    Calls Tryd.prog 7 #[.slice A len cap, .slice A' len' cap'] w fun e w' => e = .returned (.bool true) ∧ Below w.heap.size w w' := by
  by_cases h2 : len ≤ 1048576 ∧ len' ≤ 1048576
  · have t0 : ¬ (len : Int) > 1048576 := by omega
    have t1 : ¬ (len' : Int) > 1048576 := by omega
    have C1 := drawEA_any A len cap w hb hc hm
    have H1 := Lib.hid C1
    have HT := Lib.hid ht
    have HE := Lib.hid he
    have HB' := Lib.hid hb'
    have HC' := Lib.hid hc'
    have HM' := Lib.hid hm'
    clear C1 hb hc hm ht he hb' hc' hm'
    go_enter Tryd.func7, Tryd.ntmps7
    go_wp2_with fail
    refine H1.out.mono ?_
    rintro e w2 ⟨k, n, s, f, A1, c1, rfl, hf, hn, ⟨L, o1, hnd, hlm⟩, hb⟩
    have hb0 : Below w2.heap.size w2 (w2.alloc (.cells #[.int .i64 k, .int .i64 n, .string s, .slice A1 f.len c1] 31)) := (Below.refl _ _).alloc (Nat.le_refl _) _
    have HQ := Lib.hid (Blk.new w2 31 #[.int .i64 k, .int .i64 n, .string s, .slice A1 f.len c1])
    have HK := Lib.hid (o1.k0.up hb0)
    have HB3 := Lib.hid (hb.trans (hb0.mono hb.size))
    have HN := Lib.hid hn
    have HF := Lib.hid hf
    clear hf hn o1 hnd hlm hb hb0 H1
    go_wp2_with fail
    generalize w2.alloc (.cells #[.int .i64 k, .int .i64 n, .string s, .slice A1 f.len c1] 31) = w3 at *
    generalize w2.heap.size = H at *
    have HZ := Lib.hid (evT_zero k n s f)
    have HSM := Lib.hid (evT_small k n s f)
    have C4 := implEv_any k n s f A1 c1 0 w3.heap.size w3 HK.out (Nat.le_refl _) HF.out (by have := HN.out; omega) (HT.out.below HB3.out) (HE.out.below HB3.out)
    have C5 := fun w1 (hk : KidsAt w1 0 w1.heap.size f A1 c1) => specEv_any k n s f A1 c1 0 w1.heap.size w1 hk (Nat.le_refl _) HF.out (by have := HN.out; omega)
    generalize hev : evT k n s f = r at *
    obtain ⟨va, ca⟩ := r
    have HEV := Lib.hid hev
    have H4 := Lib.hid (C4.mono fun e w' (h : e = .returned (.tuple #[.int .i64 va, .int .i64 ca]) ∧ Below w3.heap.size w3 w') => h)
    have H5 := Lib.hid fun w1 hk => (C5 w1 hk).mono fun e w' (h : e = .returned (.tuple #[.int .i64 va, .int .i64 ca]) ∧ Below w1.heap.size w1 w') => h
    clear C4 C5 hev
    refine H4.out.mono ?_
    rintro e w4 ⟨rfl, hb4⟩
    have hq4 := HQ.out.below hb4 HQ.out.lt
    obtain ⟨x0, x1, x2, x3⟩ := cells4i hq4
    have HQ4 := Lib.hid hq4
    have HK4 := Lib.hid (HK.out.up hb4)
    have HB4 := Lib.hid (HB3.out.trans (hb4.mono HB3.out.size))
    clear hb4 hq4 H4 HQ HK
    go_wp2_with fail
    refine (H5.out _ HK4.out).mono ?_
    rintro e w5 ⟨rfl, hb5⟩
    have hq5 := HQ4.out.below hb5 HQ4.out.lt
    have HQ5 := Lib.hid hq5
    have HK5 := Lib.hid (HK4.out.up hb5)
    have HB5 := Lib.hid (HB4.out.trans (hb5.mono HB4.out.size))
    clear hb5 hq5 H5 HQ4 HK4 x0 x1 x2 x3 HB' HC' HM'
    obtain ⟨m, hr12, hm12⟩ : ∃ m : Nat, (len' : Int).tmod 12 = (m : Int) ∧ m < 12 := ⟨len' % 12, by rw [Int.tmod_eq_emod_of_nonneg (by omega)]; omega, Nat.mod_lt _ (by decide)⟩
    obtain ⟨p, hr2, hp2⟩ : ∃ p : Nat, (len' : Int).tmod 2 = (p : Int) ∧ p < 2 := ⟨len' % 2, by rw [Int.tmod_eq_emod_of_nonneg (by omega)]; omega, Nat.mod_lt _ (by decide)⟩
    obtain ⟨x0, x1, x2, x3⟩ := cells4i HQ5.out
    have hHl := HQ5.out.lt
    have hpp : p = 0 ∨ p = 1 := by omega
    rcases hpp with rfl | rfl
    all_goals go_wp2_with fail
    rotate_left
    have HD : Hid (-(1 + (m : Int)) ≠ 0 ∧ -12 ≤ -(1 + (m : Int)) ∧ -(1 + (m : Int)) ≤ 12) := Lib.hid (by omega)
    clear hm12 hr12 hr2 hp2
    generalize -(1 + (m : Int)) = d at *
    rotate_left
    have HD : Hid ((1 + (m : Int)) ≠ 0 ∧ -12 ≤ 1 + (m : Int) ∧ 1 + (m : Int) ≤ 12) := Lib.hid (by omega)
    clear hm12 hr12 hr2 hp2
    generalize 1 + (m : Int) = d at *
    all_goals
      have hd0 := HD.out.1
      have hd1 := HD.out.2.1
      have hd2 := HD.out.2.2
      have hsd : Small d := ⟨by omega, by omega⟩
      have HSD := Lib.hid hsd
      have hb6 : Below w5.heap.size w5 (w5.alloc (.cells #[.int .i64 2, .int .i64 d, .string ⟨#[]⟩, .slice none 0 0] 31)) := (Below.refl _ _).alloc (Nat.le_refl _) _
      have hs6 : (w5.alloc (.cells #[.int .i64 2, .int .i64 d, .string ⟨#[]⟩, .slice none 0 0] 31)).heap.size = w5.heap.size + 1 := by simp
      have hq6 := Blk.new w5 31 #[.int .i64 2, .int .i64 d, .string ⟨#[]⟩, .slice none 0 0]
      have hp6 := HQ5.out.below hb6 HQ5.out.lt
      have hk6 := HK5.out.up hb6
      have HB6 := Lib.hid (HB5.out.trans (hb6.mono HB5.out.size))
      generalize w5.alloc (.cells #[.int .i64 2, .int .i64 d, .string ⟨#[]⟩, .slice none 0 0] 31) = w6 at *
      have hb7 : Below w6.heap.size w6 (w6.alloc (.cells #[.int .i64 k, .int .i64 n, .string s, .slice A1 f.len c1, .int .i64 2, .int .i64 d, .string ⟨#[]⟩, .slice none 0 0] 31)) := (Below.refl _ _).alloc (Nat.le_refl _) _
      have hq7 := Blk.new w6 31 #[.int .i64 k, .int .i64 n, .string s, .slice A1 f.len c1, .int .i64 2, .int .i64 d, .string ⟨#[]⟩, .slice none 0 0]
      rw [hs6] at hq7
      have hk7 := two_at (f2 := .nil) hq7 HF.out ⟨by omega, by omega, Nat.zero_le _⟩ (hk6.up hb7) (KidsAt.nil _ _ _ _ _ (Nat.zero_le _))
      have hn7 := hq6.below hb7 hq6.lt
      have hp7 := hp6.below hb7 hp6.lt
      have hj7 := hk6.up hb7
      have HB7 := Lib.hid (HB6.out.trans (hb7.mono HB6.out.size))
      have hs7 : w5.heap.size + 1 < (w6.alloc (.cells #[.int .i64 k, .int .i64 n, .string s, .slice A1 f.len c1, .int .i64 2, .int .i64 d, .string ⟨#[]⟩, .slice none 0 0] 31)).heap.size := by simp; omega
      generalize w6.alloc (.cells #[.int .i64 k, .int .i64 n, .string s, .slice A1 f.len c1, .int .i64 2, .int .i64 d, .string ⟨#[]⟩, .slice none 0 0] 31) = w7 at *
      have C7 := implEv_any 3 0 ⟨#[47, 47]⟩ (.cons k n s f (.cons 2 d ⟨#[]⟩ .nil .nil)) (some ⟨w5.heap.size + 1, 0, none⟩) 2 0 w7.heap.size w7 hk7 (Nat.le_refl _) ⟨by omega, by omega, by unfold maxLen; decide⟩ (by have := HN.out; simp only [nodes]; omega) (HT.out.below HB7.out) (HE.out.below HB7.out)
      have HOP := Lib.hid fun (ha : evT k n s f = (va, 0)) => evT_op (s := ⟨#[47, 47]⟩) ha (evT_int hsd) (by decide)
      generalize evT 3 0 ⟨#[47, 47]⟩ (.cons k n s f (.cons 2 d ⟨#[]⟩ .nil .nil)) = q at *
      obtain ⟨qv, qc⟩ := q
      have H7 := Lib.hid (C7.mono fun e w' (h : e = .returned (.tuple #[.int .i64 qv, .int .i64 qc]) ∧ Below w7.heap.size w7 w') => h)
      have HN7 := Lib.hid hn7
      have HP7 := Lib.hid hp7
      have HJ7 := Lib.hid hj7
      clear C7 hb6 hs6 hq6 hp6 hk6 hb7 hq7 hk7 hn7 hp7 hj7 hsd x0 x1 x2 x3 HQ5 HK5
      generalize w5.heap.size = Z at *
      refine H7.out.mono ?_
      rintro e w8 ⟨rfl, hb8⟩
      have hn8 := HN7.out.below hb8 HN7.out.lt
      have hp8 := HP7.out.below hb8 HP7.out.lt
      have hj8 := HJ7.out.up hb8
      have HB8 := Lib.hid (HB7.out.trans (hb8.mono HB7.out.size))
      obtain ⟨x0, x1, x2, x3⟩ := cells4i hp8
      obtain ⟨y0, y1, y2, y3⟩ := cells4i hn8
      have HJ8 := Lib.hid hj8
      clear hb8 hn8 hp8 hj8 H7 HN7 HP7 HJ7
      go_wp2_with fail
      have hb9 : Below w8.heap.size w8 (w8.alloc (.cells #[.int .i64 k, .int .i64 n, .string s, .slice A1 f.len c1, .int .i64 2, .int .i64 d, .string ⟨#[]⟩, .slice none 0 0] 31)) := (Below.refl _ _).alloc (Nat.le_refl _) _
      have hq9 := Blk.new w8 31 #[.int .i64 k, .int .i64 n, .string s, .slice A1 f.len c1, .int .i64 2, .int .i64 d, .string ⟨#[]⟩, .slice none 0 0]
      have hk9 := two_at (f2 := .nil) hq9 HF.out ⟨by omega, by omega, Nat.zero_le _⟩ (HJ8.out.up hb9) (KidsAt.nil _ _ _ _ _ (Nat.zero_le _))
      have HB9 := Lib.hid (HB8.out.trans (hb9.mono HB8.out.size))
      generalize w8.alloc (.cells #[.int .i64 k, .int .i64 n, .string s, .slice A1 f.len c1, .int .i64 2, .int .i64 d, .string ⟨#[]⟩, .slice none 0 0] 31) = w9 at *
      have C9 := implEv_any 3 0 ⟨#[109, 111, 100]⟩ (.cons k n s f (.cons 2 d ⟨#[]⟩ .nil .nil)) (some ⟨w8.heap.size, 0, none⟩) 2 0 w9.heap.size w9 hk9 (Nat.le_refl _) ⟨by omega, by omega, by unfold maxLen; decide⟩ (by have := HN.out; simp only [nodes]; omega) (HT.out.below HB9.out) (HE.out.below HB9.out)
      have HOP2 := Lib.hid fun (ha : evT k n s f = (va, 0)) => evT_op (s := ⟨#[109, 111, 100]⟩) ha (evT_int HSD.out) (by decide)
      generalize evT 3 0 ⟨#[109, 111, 100]⟩ (.cons k n s f (.cons 2 d ⟨#[]⟩ .nil .nil)) = q at *
      obtain ⟨mv, mc⟩ := q
      have H9 := Lib.hid (C9.mono fun e w' (h : e = .returned (.tuple #[.int .i64 mv, .int .i64 mc]) ∧ Below w9.heap.size w9 w') => h)
      clear C9 hb9 hq9 hk9 x0 x1 x2 x3 y0 y1 y2 y3 HJ8
      refine H9.out.mono ?_
      rintro e w10 ⟨rfl, hb⟩
      have HB10 := Lib.hid (HB9.out.trans (hb.mono HB9.out.size))
      clear hb H9
      have tv : (va != va) = false := by simp
      have tc : (ca != ca) = false := by simp
      by_cases ca0 : ca = 0
      · subst ca0
        by_cases q0 : qc = 0
        · subst q0
          by_cases m0 : mc = 0
          · subst m0
            have e1 : (qv, (0 : Int)) = opV (arOp (⟨#[47, 47]⟩ : ByteArray).data.toList) va d := HOP.out HEV.out (by show (0 : Int) ≠ 6; decide)
            have e2 : (mv, (0 : Int)) = opV (arOp (⟨#[109, 111, 100]⟩ : ByteArray).data.toList) va d := HOP2.out HEV.out (by show (0 : Int) ≠ 6; decide)
            have e1' : (qv, (0 : Int)) = opV 4 va d := e1
            have e2' : (mv, (0 : Int)) = opV 5 va d := e2
            have f1 : opV 4 va d = (va.tdiv d, 0) := by unfold opV; simp [hd0]
            have f2 : opV 5 va d = (modV va d, 0) := by unfold opV; simp [hd0]
            rw [f1] at e1'
            rw [f2] at e2'
            injection e1' with e3 _
            injection e2' with e4 _
            have hrest : va - qv * d = va.tmod d := by rw [e3]; exact tdiv_eq va d
            have g1 := sq_lt (tmod_lt (a := va) hd0)
            have g2 := tmod_sign va d
            have g3 := sq_lt (modV_lt (a := va) hd0)
            have g4 := modV_sign (a := va) hd0
            have g5 := modV_div va d
            have g6 := tmod_small (a := va) HSD.out hd0
            have g7 := tdiv_small (b := d) HSM.out
            have g8 := modV_small (a := va) HSD.out hd0
            rw [← e4] at g3 g4 g5 g8
            rw [← e3] at g7
            rw [← hrest] at g1 g2 g6
            have s1 := mul_small g7 HSD.out
            have s2 := mul_small g6.1 g6.1
            have s3 := mul_small HSD.out HSD.out
            have s4 := mul_small g6.1 HSM.out
            have s5 := mul_small g8 g8
            have s6 := mul_small g8 HSD.out
            have s7 := HSM.out
            unfold Small at s7 g8
            have g9 := g6.1
            unfold Small at g9
            have hdz : (d == 0) = false := by rw [beq_eq_false_iff_ne]; exact hd0
            clear HOP HOP2 e1 e2 f1 f2 e3 e4 g6 g7 hrest
            go_wp2_with fail
            go_ret
            exact ⟨rfl, HB10.out⟩
          · have tm : (mc != 0) = true := by rw [bne_iff_ne]; exact m0
            clear HOP HOP2
            go_wp2_with fail
            go_ret
            exact ⟨rfl, HB10.out⟩
        · have tm : (qc != 0) = true := by rw [bne_iff_ne]; exact q0
          clear HOP HOP2
          go_wp2_with fail
          go_ret
          exact ⟨rfl, HB10.out⟩
      · have tm : (ca != 0) = true := by rw [bne_iff_ne]; exact ca0
        clear HOP HOP2
        go_wp2_with fail
        go_ret
        exact ⟨rfl, HB10.out⟩
  · have HB := Lib.hid (Below.refl w.heap.size w)
    clear hb hc hm ht he hb' hc' hm'
    by_cases h3 : len ≤ 1048576
    · have t0 : ¬ (len : Int) > 1048576 := by omega
      have t1 : (len' : Int) > 1048576 := by omega
      go_enter Tryd.func7, Tryd.ntmps7
      go_wp2_with fail
      go_ret
      exact ⟨rfl, HB.out⟩
    · have t0 : (len : Int) > 1048576 := by omega
      go_enter Tryd.func7, Tryd.ntmps7
      go_wp2_with fail
      go_ret
      exact ⟨rfl, HB.out⟩
end Go.Proofs.YtabkoofmfhbmhaaDoor
