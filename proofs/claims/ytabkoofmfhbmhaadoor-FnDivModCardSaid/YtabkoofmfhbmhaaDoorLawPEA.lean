/- The law FnEvalArith, walked. Condition: the codes lie in memory, the table of signs and the handle of the type error in their variables. -/
import Derived.Test.YtabkoofmfhbmhaaDoorProg
import Derived.Test.YtabkoofmfhbmhaaDoorDrA
import Derived.Test.YtabkoofmfhbmhaaDoorEvP
import Derived.Test.YtabkoofmfhbmhaaDoorEvE
namespace Go.Proofs.YtabkoofmfhbmhaaDoor
open Go.RowKit

/-- Two terms side by side. -/
theorem two_at {w : World} {g : Nat} {k1 n1 : Int} {s1 : ByteArray} {f1 : Fr} {A1 : Option Addr} {c1 : Nat} {k2 n2 : Int} {s2 : ByteArray} {f2 : Fr} {A2 : Option Addr} {c2 : Nat}
    (hq : Blk w g 31 #[.int .i64 k1, .int .i64 n1, .string s1, .slice A1 f1.len c1, .int .i64 k2, .int .i64 n2, .string s2, .slice A2 f2.len c2]) (hf1 : Fits k1 n1 s1) (hf2 : Fits k2 n2 s2) (h1 : KidsAt w 0 w.heap.size f1 A1 c1) (h2 : KidsAt w 0 w.heap.size f2 A2 c2) :
    KidsAt w 0 w.heap.size (.cons k1 n1 s1 f1 (.cons k2 n2 s2 f2 .nil)) (some ⟨g, 0, none⟩) 2 :=
  ⟨by simp [Fr.len], by unfold maxLen; decide, fun _ => ⟨g, 0, rfl, Nat.zero_le _, hq.lt, hf1, ⟨A1, c1, ⟨hq.cell 0, hq.cell 1, hq.cell 2, hq.cell 3⟩, h1⟩, hf2, ⟨A2, c2, ⟨hq.cell 4, hq.cell 5, hq.cell 6, hq.cell 7⟩, h2⟩, trivial⟩⟩
theorem KidsAt.up {w w' : World} {f : Fr} {A : Option Addr} {cap : Nat} (h : KidsAt w 0 w.heap.size f A cap) (hb : Below w.heap.size w w') : KidsAt w' 0 w'.heap.size f A cap := (h.below hb (Nat.le_refl _)).more (Nat.le_refl _) hb.size
theorem OwnS.k0 {w : World} {f : Fr} {A : Option Addr} {cap : Nat} {L : List Nat} (h : OwnS w f A cap L) : KidsAt w 0 w.heap.size f A cap := h.kids fun x hx => ⟨Nat.zero_le _, h.lt x hx⟩

set_option maxRecDepth 100000 in
set_option maxHeartbeats 8000000 in
theorem lawPEA_any (A : Option Addr) (len cap : Nat) (A' : Option Addr) (len' cap' : Nat) (w : World) (hb : Bts w w.heap.size A len) (hc : len ≤ cap) (hm : cap ≤ maxLen) (hb' : Bts w w.heap.size A' len') (hc' : len' ≤ cap') (hm' : cap' ≤ maxLen) (ht : nv.Tab w) (he : ErrT w) :
    Calls Tryd.prog 6 #[.slice A len cap, .slice A' len' cap'] w fun e w' => e = .returned (.bool true) ∧ Below w.heap.size w w' := by
  by_cases h2 : len ≤ 1048576 ∧ len' ≤ 1048576
  · have t0 : ¬ (len : Int) > 1048576 := by omega
    have t1 : ¬ (len' : Int) > 1048576 := by omega
    have C1 := drawEA_any A len cap w hb hc hm
    have H1 := Lib.hid C1
    have HT := Lib.hid ht
    have HE := Lib.hid he
    have HB' := Lib.hid hb'
    have HC' := Lib.hid hc'
    have HM' := Lib.hid hm'
    clear C1 hb hc hm ht he hb' hc' hm' h2
    go_enter Tryd.func6, Tryd.ntmps6
    go_wp2_with fail
    refine H1.out.mono ?_
    rintro e w2 ⟨k, n, s, f, A1, c1, rfl, hf, hn, ⟨L, o1, hnd, hlm⟩, hb⟩
    have hb0 : Below w2.heap.size w2 (w2.alloc (.cells #[.int .i64 k, .int .i64 n, .string s, .slice A1 f.len c1] 31)) := (Below.refl _ _).alloc (Nat.le_refl _) _
    have HQ := Lib.hid (Blk.new w2 31 #[.int .i64 k, .int .i64 n, .string s, .slice A1 f.len c1])
    have HK := Lib.hid (o1.k0.up hb0)
    have HB3 := Lib.hid (hb.trans (hb0.mono hb.size))
    have HN := Lib.hid hn
    have HF := Lib.hid hf
    clear hf hn o1 hnd hlm hb hb0 H1
    go_wp2_with fail
    generalize w2.alloc (.cells #[.int .i64 k, .int .i64 n, .string s, .slice A1 f.len c1] 31) = w3 at *
    generalize w2.heap.size = H at *
    have HZ := Lib.hid (evT_zero k n s f)
    have HSM := Lib.hid (evT_small k n s f)
    have C4 := implEv_any k n s f A1 c1 0 w3.heap.size w3 HK.out (Nat.le_refl _) HF.out (by have := HN.out; omega) (HT.out.below HB3.out) (HE.out.below HB3.out)
    have C5 := fun w1 (hk : KidsAt w1 0 w1.heap.size f A1 c1) => specEv_any k n s f A1 c1 0 w1.heap.size w1 hk (Nat.le_refl _) HF.out (by have := HN.out; omega)
    generalize hev : evT k n s f = r at *
    obtain ⟨va, ca⟩ := r
    have HEV := Lib.hid hev
    have H4 := Lib.hid (C4.mono fun e w' (h : e = .returned (.tuple #[.int .i64 va, .int .i64 ca]) ∧ Below w3.heap.size w3 w') => h)
    have H5 := Lib.hid fun w1 hk => (C5 w1 hk).mono fun e w' (h : e = .returned (.tuple #[.int .i64 va, .int .i64 ca]) ∧ Below w1.heap.size w1 w') => h
    clear C4 C5 hev
    refine H4.out.mono ?_
    rintro e w4 ⟨rfl, hb4⟩
    have hq4 := HQ.out.below hb4 HQ.out.lt
    obtain ⟨x0, x1, x2, x3⟩ := cells4i hq4
    have HQ4 := Lib.hid hq4
    have HK4 := Lib.hid (HK.out.up hb4)
    have HB4 := Lib.hid (HB3.out.trans (hb4.mono HB3.out.size))
    clear hb4 hq4 H4 HQ HK
    go_wp2_with fail
    refine (H5.out _ HK4.out).mono ?_
    rintro e w5 ⟨rfl, hb5⟩
    have hq5 := HQ4.out.below hb5 HQ4.out.lt
    have HQ5 := Lib.hid hq5
    have HK5 := Lib.hid (HK4.out.up hb5)
    have HB5 := Lib.hid (HB4.out.trans (hb5.mono HB4.out.size))
    clear hb5 hq5 H5 HQ4 HK4 x0 x1 x2 x3
    have tv : (va != va) = false := by simp
    have tc : (ca != ca) = false := by simp
    by_cases ca0 : ca = 0
    · subst ca0
      go_wp2_with fail
      refine (drawEA_any A' len' cap' w5 (HB'.out.up HB5.out) HC'.out HM'.out).mono ?_
      rintro e w6 ⟨k2, n2, s2, f2, A2, c2, rfl, hf, hn, ⟨L, o1, hnd, hlm⟩, hb⟩
      have hb0 : Below w6.heap.size w6 (w6.alloc (.cells #[.int .i64 k2, .int .i64 n2, .string s2, .slice A2 f2.len c2] 31)) := (Below.refl _ _).alloc (Nat.le_refl _) _
      have hbb := hb.trans (hb0.mono hb.size)
      have HQ7 := Lib.hid (Blk.new w6 31 #[.int .i64 k2, .int .i64 n2, .string s2, .slice A2 f2.len c2])
      have HP7 := Lib.hid (HQ5.out.below hbb HQ5.out.lt)
      have HK7 := Lib.hid (o1.k0.up hb0)
      have HJ7 := Lib.hid (HK5.out.up hbb)
      have HB7 := Lib.hid (HB5.out.trans (hbb.mono HB5.out.size))
      have HN2 := Lib.hid hn
      have HF2 := Lib.hid hf
      clear hf hn o1 hnd hlm hb hb0 hbb HQ5 HK5
      go_wp2_with fail
      generalize w6.alloc (.cells #[.int .i64 k2, .int .i64 n2, .string s2, .slice A2 f2.len c2] 31) = w7 at *
      generalize w6.heap.size = H2 at *
      have C4 := implEv_any k2 n2 s2 f2 A2 c2 0 w7.heap.size w7 HK7.out (Nat.le_refl _) HF2.out (by have := HN2.out; omega) (HT.out.below HB7.out) (HE.out.below HB7.out)
      generalize hev : evT k2 n2 s2 f2 = r at *
      obtain ⟨vb, cb⟩ := r
      have HEV2 := Lib.hid hev
      have H4 := Lib.hid (C4.mono fun e w' (h : e = .returned (.tuple #[.int .i64 vb, .int .i64 cb]) ∧ Below w7.heap.size w7 w') => h)
      clear C4 hev
      refine H4.out.mono ?_
      rintro e w8 ⟨rfl, hb8⟩
      have hq8 := HQ7.out.below hb8 HQ7.out.lt
      have hp8 := HP7.out.below hb8 HP7.out.lt
      obtain ⟨x0, x1, x2, x3⟩ := cells4i hp8
      obtain ⟨y0, y1, y2, y3⟩ := cells4i hq8
      have HK8 := Lib.hid (HK7.out.up hb8)
      have HJ8 := Lib.hid (HJ7.out.up hb8)
      have HB8 := Lib.hid (HB7.out.trans (hb8.mono HB7.out.size))
      clear hb8 hq8 hp8 H4 HQ7 HK7 HP7 HJ7
      go_wp2_with fail
      have hb9 : Below w8.heap.size w8 (w8.alloc (.cells #[.int .i64 k, .int .i64 n, .string s, .slice A1 f.len c1, .int .i64 k2, .int .i64 n2, .string s2, .slice A2 f2.len c2] 31)) := (Below.refl _ _).alloc (Nat.le_refl _) _
      have hq9 := Blk.new w8 31 #[.int .i64 k, .int .i64 n, .string s, .slice A1 f.len c1, .int .i64 k2, .int .i64 n2, .string s2, .slice A2 f2.len c2]
      have HB9 := Lib.hid (HB8.out.trans (hb9.mono HB8.out.size))
      have hk9 := two_at hq9 HF.out HF2.out (HJ8.out.up hb9) (HK8.out.up hb9)
      generalize w8.alloc (.cells #[.int .i64 k, .int .i64 n, .string s, .slice A1 f.len c1, .int .i64 k2, .int .i64 n2, .string s2, .slice A2 f2.len c2] 31) = w9 at *
      have C9 := implEv_any 3 0 ⟨#[43]⟩ (.cons k n s f (.cons k2 n2 s2 f2 .nil)) (some ⟨w8.heap.size, 0, none⟩) 2 0 w9.heap.size w9 hk9 (Nat.le_refl _) ⟨by omega, by omega, by unfold maxLen; decide⟩ (by have := HN.out; have := HN2.out; simp only [nodes]; omega) (HT.out.below HB9.out) (HE.out.below HB9.out)
      have HOP := Lib.hid fun (ha : evT k n s f = (va, 0)) (hb : evT k2 n2 s2 f2 = (vb, 0)) => evT_op (s := ⟨#[43]⟩) ha hb (by decide)
      generalize evT 3 0 ⟨#[43]⟩ (.cons k n s f (.cons k2 n2 s2 f2 .nil)) = q at *
      obtain ⟨xv, xc⟩ := q
      have H9 := Lib.hid (C9.mono fun e w' (h : e = .returned (.tuple #[.int .i64 xv, .int .i64 xc]) ∧ Below w9.heap.size w9 w') => h)
      clear C9 hb9 hq9 hk9 x0 x1 x2 x3 y0 y1 y2 y3 HK8 HJ8
      refine H9.out.mono ?_
      rintro e w10 ⟨rfl, hb⟩
      have HB10 := Lib.hid (HB9.out.trans (hb.mono HB9.out.size))
      have hsm := HSM.out
      unfold Small at hsm
      obtain ⟨m1, m2⟩ := hsm
      have hsb : Small vb := by have h := evT_small k2 n2 s2 f2; rw [HEV2.out] at h; exact h
      unfold Small at hsb
      obtain ⟨m3, m4⟩ := hsb
      clear hb H9
      by_cases cb0 : cb = 0
      · subst cb0
        by_cases c6 : xc = 6
        · subst c6
          clear HOP
          go_wp2_with fail
          go_ret
          exact ⟨rfl, HB10.out⟩
        · have hx : (xv, xc) = opV (arOp (⟨#[43]⟩ : ByteArray).data.toList) va vb := HOP.out HEV.out HEV2.out c6
          have hx2 : (xv, xc) = rg (va + vb) := hx
          by_cases hr : va + vb < -999 ∨ 999 < va + vb
          · have e5 : rg (va + vb) = (0, 5) := if_pos hr
            rw [e5] at hx2
            injection hx2 with hx3 hx4
            subst hx3 hx4
            clear HOP hx e5 c6
            rcases hr with hr | hr
            · go_wp2_with fail
              go_ret
              exact ⟨rfl, HB10.out⟩
            · go_wp2_with fail
              go_ret
              exact ⟨rfl, HB10.out⟩
          · have e5 : rg (va + vb) = (va + vb, 0) := if_neg hr
            rw [e5] at hx2
            injection hx2 with hx3 hx4
            subst hx3 hx4
            clear HOP hx e5 c6
            go_wp2_with fail
            go_ret
            exact ⟨rfl, HB10.out⟩
      · have tb : (cb != 0) = true := by rw [bne_iff_ne]; exact cb0
        clear HOP cb0
        go_wp2_with fail
        go_ret
        exact ⟨rfl, HB10.out⟩
    · have hz := HZ.out ca0
      have hz' : va = 0 := hz
      subst hz'
      have tb : (ca != 0) = true := by rw [bne_iff_ne]; exact ca0
      clear hz ca0
      go_wp2_with fail
      go_ret
      exact ⟨rfl, HB5.out⟩
  · have HB := Lib.hid (Below.refl w.heap.size w)
    clear hb hc hm ht he hb' hc' hm'
    by_cases h3 : len ≤ 1048576
    · have t0 : ¬ (len : Int) > 1048576 := by omega
      have t1 : (len' : Int) > 1048576 := by omega
      go_enter Tryd.func6, Tryd.ntmps6
      go_wp2_with fail
      go_ret
      exact ⟨rfl, HB.out⟩
    · have t0 : (len : Int) > 1048576 := by omega
      go_enter Tryd.func6, Tryd.ntmps6
      go_wp2_with fail
      go_ret
      exact ⟨rfl, HB.out⟩
end Go.Proofs.YtabkoofmfhbmhaaDoor
