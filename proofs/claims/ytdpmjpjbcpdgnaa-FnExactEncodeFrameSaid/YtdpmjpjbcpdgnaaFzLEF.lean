/- The law FnExactEncodeFrame, walked. No condition but that a text's size is an int. -/
import Derived.Test.YtdpmjpjbcpdgnaaProg
import Derived.Test.YtdpmjpjbcpdgnaaFzY
import Derived.Test.YtdpmjpjbcpdgnaaFzE
import Derived.Test.YtdpmjpjbcpdgnaaFzEb
namespace Go.Proofs.Ytdpmjpjbcpdgnaa
open Go.RowKit

set_option maxRecDepth 100000 in
set_option maxHeartbeats 4000000 in
theorem lawEF_any (t : Int) (s : ByteArray) (w : World) (hs : s.size ≤ maxLen) :
    Calls Try.prog 4 #[.agg #[.int .i64 t, .string s]] w fun e w' => e = .returned (.bool true) ∧ Below w.heap.size w w' := by
  have hb1 := (Below.refl w.heap.size w).alloc (Nat.le_refl _) (.cells #[.int .i64 t, .string s] 23)
  have hq1 := Blk.new w 23 #[.int .i64 t, .string s]
  have CZ := szF_any t s 1048576 (w.alloc (.cells #[.int .i64 t, .string s] 23)) hs (by omega) (by omega)
  obtain ⟨z, hz⟩ : ∃ z : Int, (if (1048576 : Int) < (s.size : Int) then -1 else 1048576 - (s.size : Int)) = z := ⟨_, rfl⟩
  rw [hz] at CZ
  have HCZ := Lib.hid CZ
  have HB1 := Lib.hid hb1
  have HQ1 := Lib.hid hq1
  have hlt := hq1.lt
  by_cases h : z < 0
  · clear CZ hb1 hq1 hz
    go_enter Try.func4, Try.ntmps4
    go_wp2_with fail
    refine HCZ.out.mono ?_
    rintro e w2 ⟨rfl, hb2⟩
    have HB2 := Lib.hid (HB1.out.trans (hb2.mono HB1.out.size))
    clear hb2
    go_wp2_with fail
    go_ret
    exact ⟨rfl, HB2.out⟩
  · have hs2 : s.size ≤ 1048576 := by
      by_cases h5 : (1048576 : Int) < (s.size : Int)
      · rw [if_pos h5] at hz; omega
      · omega
    have hel : (fz.encAll [⟨t, s⟩]).length ≤ 2000000 := by
      unfold fz.encAll
      split
      · have := fz.enc_len ⟨t, s⟩
        simp only [fz.encs, List.append_nil]
        rw [this]
        show s.size + 3 ≤ _
        omega
      · simp
    have HCT := Lib.hid (toF_any t s)
    have HCS := Lib.hid fun w => specEF_any t s w hs
    have HCI := Lib.hid fun w => implEF_any t s w hs
    have CE := eqU_any (fz.encAll [⟨t, s⟩])
    have CM : ∀ wd v b, OwnU wd b v (fz.encAll [⟨t, s⟩]) → Calls Try.prog 13 #[v, .int .i64 1] wd fun e w' => e = .returned (.int .i64 ((1 + (fz.encAll [⟨t, s⟩]).length : Nat) : Int)) ∧ OwnU w' b v (mkU 1 (fz.encAll [⟨t, s⟩]).length) ∧ Wrote (ownV v) wd w' := fun wd v b h => markU_any _ v b 1 wd h (by omega)
    have CH : ∀ wd v b, OwnU wd b v (mkU 1 (fz.encAll [⟨t, s⟩]).length) → Calls Try.prog 14 #[v, .int .i64 1] wd fun e w' => e = .returned (.int .i64 ((1 + (fz.encAll [⟨t, s⟩]).length : Nat) : Int)) ∧ Below wd.heap.size wd w' := fun wd v b h => heldU_any 1 _ v b wd h (by omega)
    obtain ⟨K, hK⟩ : ∃ K : Int, ((1 + (fz.encAll [⟨t, s⟩]).length : Nat) : Int) = K := ⟨_, rfl⟩
    have k0 : ¬ K < 0 := by omega
    rw [hK] at CM CH
    have tk : (K != K) = false := by simp
    have HCE := Lib.hid CE
    have HCM := Lib.hid CM
    have HCH := Lib.hid CH
    clear CZ hb1 hq1 hz hs hs2 hel CE CM CH hK
    generalize mkU 1 (fz.encAll [⟨t, s⟩]).length = ms at *
    generalize fz.encAll [⟨t, s⟩] = bs at *
    go_enter Try.func4, Try.ntmps4
    go_wp2_with fail
    generalize (w.alloc (.cells #[.int .i64 t, .string s] 23)) = w1 at *
    refine HCZ.out.mono ?_
    rintro e w2 ⟨rfl, hb2⟩
    have HB2 := Lib.hid hb2
    have x0 : w2.cell? ⟨w.heap.size, 0, none⟩ = some (.int .i64 t) := (HQ1.out.below hb2 hlt).cell 0
    have x1 : w2.cell? ⟨w.heap.size, 1, none⟩ = some (.string s) := (HQ1.out.below hb2 hlt).cell 1
    clear hb2
    go_wp2_with fail
    refine (HCT.out _).mono ?_
    rintro e w3 ⟨rfl, hb3⟩
    have HB3 := Lib.hid (HB2.out.trans (hb3.mono HB2.out.size))
    clear hb3
    go_wp2_with fail
    refine (HCS.out _).mono ?_
    rintro e w4 ⟨v4, rfl, ho, hb4⟩
    have HB4 := Lib.hid (HB3.out.trans (hb4.mono HB3.out.size))
    have HO4 := Lib.hid ho
    have HL4 := Lib.hid (own_lt ho)
    have y0 : w4.cell? ⟨w.heap.size, 0, none⟩ = some (.int .i64 t) := (HQ1.out.below HB4.out hlt).cell 0
    have y1 : w4.cell? ⟨w.heap.size, 1, none⟩ = some (.string s) := (HQ1.out.below HB4.out hlt).cell 1
    clear hb4 ho x0 x1
    go_wp2_with fail
    refine (HCT.out _).mono ?_
    rintro e w5 ⟨rfl, hb5⟩
    have HB5 := Lib.hid (HB4.out.trans (hb5.mono HB4.out.size))
    have HO45 := Lib.hid (own_below HO4.out hb5)
    have HZ45 := Lib.hid hb5.size
    clear hb5 HO4
    go_wp2_with fail
    refine (HCI.out _).mono ?_
    rintro e w6 ⟨v6, rfl, ho, hb6⟩
    have HB6 := Lib.hid (HB5.out.trans (hb6.mono HB5.out.size))
    have HO46 := Lib.hid (own_below HO45.out hb6)
    have HO6 := Lib.hid ho
    have HL6 := Lib.hid (own_lt ho)
    clear hb6 ho HO45
    go_wp2_with fail
    refine (HCE.out _ _ _ _ _ HO6.out HO46.out).mono ?_
    rintro e w7 ⟨rfl, hb7⟩
    have HB7 := Lib.hid (HB6.out.trans (hb7.mono HB6.out.size))
    have HO47 := Lib.hid (own_below HO46.out hb7)
    have HO67 := Lib.hid (own_below HO6.out hb7)
    clear hb7 HO46 HO6
    go_wp2_with fail
    refine (HCM.out _ _ _ HO67.out).mono ?_
    rintro e w8 ⟨rfl, ho8, hw8⟩
    have HB8 := Lib.hid (HB7.out.trans (hw8.below HB7.out.size fun x hx => Nat.le_trans HB5.out.size (HL6.out x hx).1))
    have HO48 := Lib.hid (own_keep HO47.out hw8 fun x hx hy => by have a := (HL4.out x hx).2; have b := (HL6.out x hy).1; have c := HZ45.out; omega)
    have HX8 := Lib.hid ho8
    clear ho8 hw8 HO47 HO67
    go_wp2_with fail
    refine (HCH.out _ _ _ HX8.out).mono ?_
    rintro e w9 ⟨rfl, hb9⟩
    have HB9 := Lib.hid (HB8.out.trans (hb9.mono HB8.out.size))
    have HO49 := Lib.hid (own_below HO48.out hb9)
    have HX9 := Lib.hid (own_below HX8.out hb9)
    have z0 : w9.cell? ⟨w.heap.size, 0, none⟩ = some (.int .i64 t) := (HQ1.out.below HB9.out hlt).cell 0
    have z1 : w9.cell? ⟨w.heap.size, 1, none⟩ = some (.string s) := (HQ1.out.below HB9.out hlt).cell 1
    clear hb9 HO48 HX8 y0 y1
    go_wp2_with fail
    refine (HCT.out _).mono ?_
    rintro e w10 ⟨rfl, hb10⟩
    have HB10 := Lib.hid (HB9.out.trans (hb10.mono HB9.out.size))
    have HO410 := Lib.hid (own_below HO49.out hb10)
    have HX10 := Lib.hid (own_below HX9.out hb10)
    clear hb10 HO49 HX9
    go_wp2_with fail
    refine (HCI.out _).mono ?_
    rintro e w11 ⟨v11, rfl, ho, hb11⟩
    have HB11 := Lib.hid (HB10.out.trans (hb11.mono HB10.out.size))
    have HO411 := Lib.hid (own_below HO410.out hb11)
    have HX11 := Lib.hid (own_below HX10.out hb11)
    have HO11 := Lib.hid ho
    clear hb11 ho HO410 HX10
    go_wp2_with fail
    refine (HCE.out _ _ _ _ _ HO11.out HO411.out).mono ?_
    rintro e w12 ⟨rfl, hb12⟩
    have HB12 := Lib.hid (HB11.out.trans (hb12.mono HB11.out.size))
    have HX12 := Lib.hid (own_below HX11.out hb12)
    clear hb12 HO411 HO11 HX11
    go_wp2_with fail
    refine (HCH.out _ _ _ HX12.out).mono ?_
    rintro e w13 ⟨rfl, hb13⟩
    have HB13 := Lib.hid (HB12.out.trans (hb13.mono HB12.out.size))
    clear hb13 HX12
    go_wp2_with fail
    go_ret
    exact ⟨rfl, HB1.out.trans (HB13.out.mono HB1.out.size)⟩
end Go.Proofs.Ytdpmjpjbcpdgnaa
