/- The law FnShiftTerm, walked. Condition: the code lies in memory, the table of signs in its variable. -/
import Derived.Test.YtplmkighekjipaaDoorProg
import Derived.Test.YtplmkighekjipaaDoorZmA31
import Derived.Test.YtplmkighekjipaaDoorZmA45
import Derived.Test.YtplmkighekjipaaDoorZmA46
import Derived.Test.YtplmkighekjipaaDoorZmA48
namespace Go.Proofs.YtplmkighekjipaaDoor
open Go.RowKit

theorem OwnS.kz {w : World} {f : Fr} {A : Option Addr} {cap : Nat} {L : List Nat} (h : OwnS w f A cap L) : KidsAt w 0 w.heap.size f A cap := h.kids fun x hx => ⟨Nat.zero_le _, h.lt x hx⟩
/-- What the law asks of the terms. -/
theorem sh_law {V k n : Int} {s : ByteArray} {f : Fr} (hn : nodes f ≤ 1000) : Fits (shR V k n s f).k (shR V k n s f).n (shR V k n s f).s ∧ nodes (shR V k n s f).f ≤ 1000 ∧
    (shB V k n s f = true → shB (-V) (shR V k n s f).k (shR V k n s f).n (shR V k n s f).s (shR V k n s f).f = true ∧ shR (-V) (shR V k n s f).k (shR V k n s f).n (shR V k n s f).s (shR V k n s f).f = ⟨k, n, s, f⟩ ∧ vrB (shR V k n s f).k (shR V k n s f).n (shR V k n s f).s (shR V k n s f).f k n s f = true) := by
  by_cases hb : shB V k n s f = true
  · obtain ⟨h1, h2, h3, h4, h5⟩ := shB_yes hb
    obtain ⟨h6, h7⟩ := sh_again hb
    rw [h5]
    refine ⟨(shapeT_small (validT_shape30 h4)).1, by show nodes (shF V f) ≤ 1000; rw [shF_nodes]; exact hn, fun _ => ⟨h6, h7, vr_sh h1 h4⟩⟩
  · have e : shR V k n s f = nd0 := by unfold shR; rw [if_neg hb]
    rw [e]
    exact ⟨⟨by decide, by decide, Nat.zero_le _⟩, Nat.zero_le _, fun h => absurd h hb⟩

set_option maxRecDepth 100000 in
set_option maxHeartbeats 8000000 in
theorem lawPSh_any (A : Option Addr) (len cap : Nat) (w : World) (hb : Bts w w.heap.size A len) (hc : len ≤ cap) (hm : cap ≤ maxLen) (ht : nv.Tab w) :
    Calls Tryd.prog 4 #[.slice A len cap] w fun e w' => e = .returned (.bool true) ∧ Below w.heap.size w w' := by
  by_cases h2 : len ≤ 1048576
  · have t0 : ¬ (len : Int) > 1048576 := by omega
    have C1 := drawST_any A len cap w hb hc hm
    have H1 := Lib.hid C1
    have HT := Lib.hid ht
    clear C1 hb hc hm ht
    go_enter Tryd.func4, Tryd.ntmps4
    go_wp2_with fail
    refine H1.out.mono ?_
    rintro e w2 ⟨k, n, s, f, A1, c1, z, rfl, hf, hn, hz0, hz1, ⟨L, o1, hnd, hlm⟩, hb⟩
    have hb0 : Below w2.heap.size w2 (w2.alloc (.cells #[.int .i64 k, .int .i64 n, .string s, .slice A1 f.len c1] 28)) := (Below.refl _ _).alloc (Nat.le_refl _) _
    have HQ := Lib.hid (Blk.new w2 28 #[.int .i64 k, .int .i64 n, .string s, .slice A1 f.len c1])
    have HO := Lib.hid (o1.below hb0 o1.lt)
    have HLT : Hid (∀ x ∈ L, x < w2.heap.size) := Lib.hid o1.lt
    have HB3 := Lib.hid (hb.trans (hb0.mono hb.size))
    have HND := Lib.hid hnd
    have HN := Lib.hid hn
    have HF := Lib.hid hf
    have hs3 : (w2.alloc (.cells #[.int .i64 k, .int .i64 n, .string s, .slice A1 f.len c1] 28)).heap.size = w2.heap.size + 1 := by simp
    obtain ⟨lw1, lw2, lw3⟩ := sh_law (V := z) (k := k) (n := n) (s := s) hn
    clear hf hn o1 hnd hlm hb hb0 H1
    go_wp2_with fail
    generalize w2.alloc (.cells #[.int .i64 k, .int .i64 n, .string s, .slice A1 f.len c1] 28) = w3 at *
    generalize w2.heap.size = H at *
    have C4 := implShift_any k n s f A1 c1 z 0 w3.heap.size w3 HO.out.kz (Nat.le_refl _) HF.out (by have := HN.out; omega) (HT.out.below HB3.out)
    have C5 := fun w1 (hk : KidsAt w1 0 w1.heap.size f A1 c1) => specShift_any k n s f A1 c1 z 0 w1.heap.size w1 hk (Nat.le_refl _) HF.out (by have := HN.out; omega)
    generalize shR z k n s f = m at *
    generalize shB z k n s f = ok at *
    obtain ⟨mk, mn, ms, mf⟩ := m
    have H4 := Lib.hid C4
    have H5 := Lib.hid C5
    have HL1 := Lib.hid lw1
    have HL2 := Lib.hid lw2
    have HL3 := Lib.hid lw3
    clear C4 C5 lw1 lw2 lw3
    refine H4.out.mono ?_
    rintro e w4 ⟨A4, c4, rfl, L4, o4, n4, l4, hb4⟩
    have hba : Below w4.heap.size w4 (w4.alloc (.cells #[.int .i64 mk, .int .i64 mn, .string ms, .slice A4 mf.len c4] 28)) := (Below.refl _ _).alloc (Nat.le_refl _) _
    have hbb := hb4.trans (hba.mono hb4.size)
    have HP := Lib.hid (HQ.out.below hbb HQ.out.lt)
    have HO5 := Lib.hid (HO.out.below hbb HO.out.lt)
    have HQ5 := Lib.hid (Blk.new w4 28 #[.int .i64 mk, .int .i64 mn, .string ms, .slice A4 mf.len c4])
    have HM5 := Lib.hid (o4.below hba o4.lt)
    have HN4 := Lib.hid n4
    have HL4 : Hid (∀ x ∈ L4, w3.heap.size ≤ x ∧ x < w4.heap.size) := Lib.hid l4
    have HB5 := Lib.hid (HB3.out.trans (hbb.mono HB3.out.size))
    have hs5 : (w4.alloc (.cells #[.int .i64 mk, .int .i64 mn, .string ms, .slice A4 mf.len c4] 28)).heap.size = w4.heap.size + 1 := by simp
    have hs34 := hb4.size
    clear hba hbb hb4 o4 n4 l4 H4 HQ HO
    obtain ⟨x0, x1, x2, x3⟩ := cells4i HP.out
    go_wp2_with fail
    generalize w4.alloc (.cells #[.int .i64 mk, .int .i64 mn, .string ms, .slice A4 mf.len c4] 28) = w5 at *
    generalize w4.heap.size = Z5 at *
    refine (H5.out _ HO5.out.kz).mono ?_
    rintro e w6 ⟨A6, c6, rfl, L6, o6, n6, l6, hb6⟩
    have hba : Below w6.heap.size w6 (w6.alloc (.cells #[.int .i64 mk, .int .i64 mn, .string ms, .slice A6 mf.len c6] 28)) := (Below.refl _ _).alloc (Nat.le_refl _) _
    have hbb := hb6.trans (hba.mono hb6.size)
    have HP7 := Lib.hid (HP.out.below hbb HP.out.lt)
    have HO7 := Lib.hid (HO5.out.below hbb HO5.out.lt)
    have HQ7 := Lib.hid (HQ5.out.below hbb HQ5.out.lt)
    have HM7 := Lib.hid (HM5.out.below hbb HM5.out.lt)
    have HR7 := Lib.hid (Blk.new w6 28 #[.int .i64 mk, .int .i64 mn, .string ms, .slice A6 mf.len c6])
    have HW7 := Lib.hid (o6.below hba o6.lt)
    have HN6 := Lib.hid n6
    have HL6 : Hid (∀ x ∈ L6, w5.heap.size ≤ x ∧ x < w6.heap.size) := Lib.hid l6
    have HB7 := Lib.hid (HB5.out.trans (hbb.mono HB5.out.size))
    have hs7 : (w6.alloc (.cells #[.int .i64 mk, .int .i64 mn, .string ms, .slice A6 mf.len c6] 28)).heap.size = w6.heap.size + 1 := by simp
    have hs56 := hb6.size
    clear hba hbb hb6 o6 n6 l6 H5 HP HO5 HQ5 HM5 x0 x1 x2 x3
    have tv : (ok != ok) = false := by cases ok <;> rfl
    have te : (ok == ok) = true := by cases ok <;> rfl
    have hXY : (L4 ++ L6).Nodup := List.nodup_append.2 ⟨HN4.out, HN6.out, fun a ha b hb e => by have := (HL4.out a ha).2; have := (HL6.out b hb).1; omega⟩
    have CS := fun w1 (hb : Below (w6.alloc (.cells #[.int .i64 mk, .int .i64 mn, .string ms, .slice A6 mf.len c6] 28)).heap.size (w6.alloc (.cells #[.int .i64 mk, .int .i64 mn, .string ms, .slice A6 mf.len c6] 28)) w1) => tsame_own mk mn ms mf A4 c4 mk mn ms mf A6 c6 L4 L6 w1 (HM7.out.below hb HM7.out.lt) (HW7.out.below hb HW7.out.lt) hXY (Nat.le_trans HL2.out (by omega))
    rw [eqT_refl] at CS
    have HCS := Lib.hid CS
    obtain ⟨x0, x1, x2, x3⟩ := cells4i HQ7.out
    obtain ⟨y0, y1, y2, y3⟩ := cells4i HR7.out
    clear CS hXY
    cases ok
    · go_wp2_with fail
      generalize w6.alloc (.cells #[.int .i64 mk, .int .i64 mn, .string ms, .slice A6 mf.len c6] 28) = w7 at *
      generalize w6.heap.size = Z7 at *
      refine (HCS.out w7 (Below.refl _ _)).mono ?_
      rintro e w8 ⟨rfl, hb8⟩
      have hq8 := HQ7.out.below hb8 HQ7.out.lt
      have hr8 := HR7.out.below hb8 HR7.out.lt
      obtain ⟨u0, u1, u2, u3⟩ := cells4i hq8
      obtain ⟨v0, v1, v2, v3⟩ := cells4i hr8
      have HB78 := Lib.hid hb8
      clear hb8 hq8 hr8
      go_wp2_with fail
      refine (HCS.out w8 HB78.out).mono ?_
      rintro e w9 ⟨rfl, hb9⟩
      have HB9 := Lib.hid (HB7.out.trans ((HB78.out.trans (hb9.mono HB78.out.size)).mono HB7.out.size))
      clear hb9
      go_wp2_with fail
      go_ret
      exact ⟨rfl, HB9.out⟩
    · go_wp2_with fail
      generalize w6.alloc (.cells #[.int .i64 mk, .int .i64 mn, .string ms, .slice A6 mf.len c6] 28) = w7 at *
      generalize w6.heap.size = Z7 at *
      refine (HCS.out w7 (Below.refl _ _)).mono ?_
      rintro e w8 ⟨rfl, hb8⟩
      have hq8 := HQ7.out.below hb8 HQ7.out.lt
      have hp8 := HP7.out.below hb8 HP7.out.lt
      have hm8 := HM7.out.below hb8 HM7.out.lt
      have ho8 := HO7.out.below hb8 HO7.out.lt
      obtain ⟨u0, u1, u2, u3⟩ := cells4i hq8
      have HQ8 := Lib.hid hq8
      have HP8 := Lib.hid hp8
      have HM8 := Lib.hid hm8
      have HO8 := Lib.hid ho8
      have HB8 := Lib.hid (HB7.out.trans (hb8.mono HB7.out.size))
      have hs78 := hb8.size
      clear hb8 hq8 hp8 hm8 ho8 x0 x1 x2 x3 y0 y1 y2 y3 HCS HQ7 HP7 HM7 HO7 HR7 HW7
      obtain ⟨g1, g2, g3⟩ := HL3.out (by first | exact trivial | exact rfl)
      have C9 := implShift_any mk mn ms mf A4 c4 (-z) 0 w8.heap.size w8 HM8.out.kz (Nat.le_refl _) HL1.out (Nat.le_trans HL2.out (by omega)) (HT.out.below HB8.out)
      rw [show shB (-z) mk mn ms mf = true from g1, show shR (-z) mk mn ms mf = ⟨k, n, s, f⟩ from g2] at C9
      have G3 : Hid (vrB mk mn ms mf k n s f = true) := Lib.hid g3
      have H9 := Lib.hid C9
      clear C9 g1 g2 g3
      go_wp2_with fail
      refine H9.out.mono ?_
      rintro e w9 ⟨A9, c9, rfl, L9, o9, n9, l9, hb9⟩
      have hba : Below w9.heap.size w9 (w9.alloc (.cells #[.int .i64 k, .int .i64 n, .string s, .slice A9 f.len c9] 28)) := (Below.refl _ _).alloc (Nat.le_refl _) _
      have hbb := hb9.trans (hba.mono hb9.size)
      have HP10 := Lib.hid (HP8.out.below hbb HP8.out.lt)
      have HO10 := Lib.hid (HO8.out.below hbb HO8.out.lt)
      have HQ10 := Lib.hid (HQ8.out.below hbb HQ8.out.lt)
      have HM10 := Lib.hid (HM8.out.below hbb HM8.out.lt)
      have HR10 := Lib.hid (Blk.new w9 28 #[.int .i64 k, .int .i64 n, .string s, .slice A9 f.len c9])
      have HW10 := Lib.hid (o9.below hba o9.lt)
      have HB10 := Lib.hid (HB8.out.trans (hbb.mono HB8.out.size))
      have hXY : (L9 ++ L).Nodup := List.nodup_append.2 ⟨n9, HND.out, fun a ha b hb e => by have := (l9 a ha).1; have := HLT.out b hb; omega⟩
      clear hba hbb hb9 o9 n9 l9 H9 HP8 HO8 HQ8 HM8 u0 u1 u2 u3
      have CS := tsame_own k n s f A9 c9 k n s f A1 c1 L9 L _ HW10.out HO10.out hXY (Nat.le_trans HN.out (by omega))
      rw [eqT_refl] at CS
      have HCS := Lib.hid CS
      obtain ⟨x0, x1, x2, x3⟩ := cells4i HP10.out
      obtain ⟨y0, y1, y2, y3⟩ := cells4i HR10.out
      clear CS hXY
      go_wp2_with fail
      generalize w9.alloc (.cells #[.int .i64 k, .int .i64 n, .string s, .slice A9 f.len c9] 28) = w10 at *
      generalize w9.heap.size = Z10 at *
      refine HCS.out.mono ?_
      rintro e w11 ⟨rfl, hb11⟩
      have hp11 := HP10.out.below hb11 HP10.out.lt
      have hq11 := HQ10.out.below hb11 HQ10.out.lt
      have HM11 := Lib.hid (HM10.out.below hb11 HM10.out.lt)
      have HO11 := Lib.hid (HO10.out.below hb11 HO10.out.lt)
      obtain ⟨u0, u1, u2, u3⟩ := cells4i hp11
      obtain ⟨v0, v1, v2, v3⟩ := cells4i hq11
      have HB11 := Lib.hid (HB10.out.trans (hb11.mono HB10.out.size))
      clear hb11 hp11 hq11 x0 x1 x2 x3 y0 y1 y2 y3 HCS HP10 HQ10 HM10 HO10
      have CV := implVar_any mk mn ms mf k n s f A4 A1 c4 c1 0 w11.heap.size 0 w11.heap.size w11 HM11.out.kz HO11.out.kz (Nat.le_refl _) (Nat.le_refl _) HL1.out HF.out (Nat.le_trans HL2.out (by omega)) (Nat.le_trans HN.out (by omega)) (HT.out.below HB11.out)
      rw [G3.out] at CV
      have HCV := Lib.hid CV
      clear CV
      go_wp2_with fail
      refine HCV.out.mono ?_
      rintro e w12 ⟨rfl, hb12⟩
      have HB12 := Lib.hid (HB11.out.trans (hb12.mono HB11.out.size))
      clear hb12
      go_wp2_with fail
      go_ret
      exact ⟨rfl, HB12.out⟩
  · have HB := Lib.hid (Below.refl w.heap.size w)
    have t0 : (len : Int) > 1048576 := by omega
    clear hb hc hm ht
    go_enter Tryd.func4, Tryd.ntmps4
    go_wp2_with fail
    go_ret
    exact ⟨rfl, HB.out⟩
end Go.Proofs.YtplmkighekjipaaDoor
