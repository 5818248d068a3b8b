/- The law FnExactEncodeAll, walked. Condition: the argument lies in memory. -/
import Derived.Test.YtdpmjpjbcpdgnaaProg
import Derived.Test.YtdpmjpjbcpdgnaaFzYs
import Derived.Test.YtdpmjpjbcpdgnaaFzE
import Derived.Test.YtdpmjpjbcpdgnaaFzG
import Derived.Test.YtdpmjpjbcpdgnaaFzEb
namespace Go.Proofs.Ytdpmjpjbcpdgnaa
open Go.RowKit

theorem atG_more {w : World} {B B' : Nat} {A : Option Addr} {fs : List fz.F} (h : AtG w B A fs) (hb : B ≤ B') : AtG w B' A fs := fun hp => by
  obtain ⟨b, o, e, h1, h2⟩ := h hp
  exact ⟨b, o, e, by omega, h2⟩
set_option maxRecDepth 100000 in
set_option maxHeartbeats 4000000 in
theorem lawEA_any (A : Option Addr) (cap : Nat) (fs : List fz.F) (w : World) (ha : AtG w w.heap.size A fs) (hc : fs.length ≤ cap) (hm : cap ≤ maxLen) (hs : ∀ f ∈ fs, f.s.size ≤ maxLen) :
    Calls Try.prog 5 #[.slice A fs.length cap] w fun e w' => e = .returned (.bool true) ∧ Below w.heap.size w w' := by
  have HCZ := Lib.hid (szFS_any A cap fs w ha hc hm hs)
  have HCT : Hid (fs.length ≤ 1048576 → ∀ wd, Below w.heap.size w wd → Calls Try.prog 17 #[.slice A fs.length cap] wd fun e w' => (∃ v, e = .returned v ∧ OwnG w' wd.heap.size v fs) ∧ Below wd.heap.size wd w') :=
    Lib.hid fun hz wd (hd : Below w.heap.size w wd) => toFS_any A cap fs wd (atG_more (ha.below hd (Nat.le_refl _)) hd.size) hc hm hz
  have HEL : Hid (fs.length ≤ 1048576 → (fz.encAll fs).length ≤ 3000000000) := Lib.hid fun hz => by
    unfold fz.encAll
    split
    · rename_i h
      have := encs_len _ h
      omega
    · simp
  have HCE := Lib.hid (eqU_any (fz.encAll fs))
  have HCG := Lib.hid (eqG_any fs)
  have HCS := Lib.hid fun (hz : fs.length ≤ 1048576) lv b w h => specEA_any fs lv b w h hs (by omega)
  have HCI := Lib.hid fun (hz : fs.length ≤ 1048576) lv b w h => implEA_any fs lv b w h hs (by omega)
  have HMG : Hid (fs.length ≤ 1048576 → ∀ wd v b, OwnG wd b v fs → Calls Try.prog 20 #[v, .int .i64 1] wd fun e w' => e = .returned (.int .i64 ((1 + 2 * fs.length : Nat) : Int)) ∧ OwnG w' b v (mkG 1 fs.length) ∧ Wrote (ownV v) wd w') := Lib.hid fun hz wd v b h => markG_any fs v b 1 wd h (by omega)
  have HCM : Hid (fs.length ≤ 1048576 → ∀ wd v b, OwnU wd b v (fz.encAll fs) → Calls Try.prog 13 #[v, .int .i64 1] wd fun e w' => e = .returned (.int .i64 ((1 + (fz.encAll fs).length : Nat) : Int)) ∧ OwnU w' b v (mkU 1 (fz.encAll fs).length) ∧ Wrote (ownV v) wd w') := Lib.hid fun hz wd v b h => markU_any _ v b 1 wd h (by have := HEL.out hz; omega)
  have HCH : Hid (fs.length ≤ 1048576 → ∀ wd v b, OwnU wd b v (mkU 1 (fz.encAll fs).length) → Calls Try.prog 14 #[v, .int .i64 1] wd fun e w' => e = .returned (.int .i64 ((1 + (fz.encAll fs).length : Nat) : Int)) ∧ Below wd.heap.size wd w') := Lib.hid fun hz wd v b h => heldU_any 1 _ v b wd h (by have := HEL.out hz; omega)
  obtain ⟨K, hK⟩ : ∃ K : Int, ((1 + (fz.encAll fs).length : Nat) : Int) = K := ⟨_, rfl⟩
  obtain ⟨M, hM⟩ : ∃ M : Int, ((1 + 2 * fs.length : Nat) : Int) = M := ⟨_, rfl⟩
  have k0 : ¬ K < 0 := by omega
  have m0 : ¬ M < 0 := by omega
  rw [hK] at HCM HCH
  rw [hM] at HMG
  have tk : (K != K) = false := by simp
  clear ha hc hm hs hK hM HEL
  generalize mkU 1 (fz.encAll fs).length = ms at *
  generalize fz.encAll fs = bs at *
  generalize hn : fs.length = n at *
  clear hn
  go_enter Try.func5, Try.ntmps5
  go_wp2_with fail
  refine HCZ.out.mono ?_
  rintro e w1 ⟨⟨z, rfl, hz⟩, hb1⟩
  have HB1 := Lib.hid hb1
  have HZ := Lib.hid hz
  clear hb1 hz
  by_cases h : z < 0
  · go_wp2_with fail
    go_ret
    exact ⟨rfl, HB1.out⟩
  · have HN := Lib.hid (HZ.out (by omega))
    go_wp2_with fail
    refine (HCT.out HN.out _ HB1.out).mono ?_
    rintro e w2 ⟨⟨v2, rfl, ho2⟩, hb2⟩
    have HO2 := Lib.hid ho2
    have HB2 := Lib.hid (HB1.out.trans (hb2.mono HB1.out.size))
    clear hb2 ho2
    go_wp2_with fail
    refine (HCS.out HN.out _ _ _ HO2.out).mono ?_
    rintro e w3 ⟨v3, rfl, ho3, hb3⟩
    have HO33 := Lib.hid ho3
    have HL3 := Lib.hid (own_lt ho3)
    have HB3 := Lib.hid (HB2.out.trans (hb3.mono HB2.out.size))
    clear hb3 ho3 HO2
    go_wp2_with fail
    refine (HCT.out HN.out _ HB3.out).mono ?_
    rintro e w4 ⟨⟨v4, rfl, ho4⟩, hb4⟩
    have HO44 := Lib.hid ho4
    have HL4 := Lib.hid (own_lt ho4)
    have HZ34 := Lib.hid hb4.size
    have HO34 := Lib.hid (own_below HO33.out hb4)
    have HB4 := Lib.hid (HB3.out.trans (hb4.mono HB3.out.size))
    clear hb4 ho4 HO33
    go_wp2_with fail
    refine (HCI.out HN.out _ _ _ HO44.out).mono ?_
    rintro e w5 ⟨v5, rfl, ho5, hb5⟩
    have HO55 := Lib.hid ho5
    have HL5 := Lib.hid (own_lt ho5)
    have HO35 := Lib.hid (own_below HO34.out hb5)
    have HO45 := Lib.hid (own_below HO44.out hb5)
    have HB5 := Lib.hid (HB4.out.trans (hb5.mono HB4.out.size))
    clear hb5 ho5 HO34 HO44
    go_wp2_with fail
    refine (HCE.out _ _ _ _ _ HO55.out HO35.out).mono ?_
    rintro e w6 ⟨rfl, hb6⟩
    have HO56 := Lib.hid (own_below HO55.out hb6)
    have HO36 := Lib.hid (own_below HO35.out hb6)
    have HO46 := Lib.hid (own_below HO45.out hb6)
    have HB6 := Lib.hid (HB5.out.trans (hb6.mono HB5.out.size))
    clear hb6 HO55 HO35 HO45
    go_wp2_with fail
    refine (HCT.out HN.out _ HB6.out).mono ?_
    rintro e w7 ⟨⟨v7, rfl, ho7⟩, hb7⟩
    have HO77 := Lib.hid ho7
    have HO57 := Lib.hid (own_below HO56.out hb7)
    have HO37 := Lib.hid (own_below HO36.out hb7)
    have HO47 := Lib.hid (own_below HO46.out hb7)
    have HB7 := Lib.hid (HB6.out.trans (hb7.mono HB6.out.size))
    clear hb7 ho7 HO56 HO36 HO46
    go_wp2_with fail
    refine (HCG.out _ _ _ _ _ HO47.out HO77.out).mono ?_
    rintro e w8 ⟨rfl, hb8⟩
    have HO58 := Lib.hid (own_below HO57.out hb8)
    have HO38 := Lib.hid (own_below HO37.out hb8)
    have HO48 := Lib.hid (own_below HO47.out hb8)
    have HB8 := Lib.hid (HB7.out.trans (hb8.mono HB7.out.size))
    clear hb8 HO57 HO37 HO47 HO77
    go_wp2_with fail
    refine (HMG.out HN.out _ _ _ HO48.out).mono ?_
    rintro e w9 ⟨rfl, _, hw9⟩
    have HB9 := Lib.hid (HB8.out.trans (hw9.below HB8.out.size fun x hx => Nat.le_trans HB3.out.size (HL4.out x hx).1))
    have HO59 := Lib.hid (own_keep HO58.out hw9 fun x hx hy => by have a := (HL5.out x hx).1; have b := (HL4.out x hy).2; omega)
    have HO39 := Lib.hid (own_keep HO38.out hw9 fun x hx hy => by have a := (HL3.out x hx).2; have b := (HL4.out x hy).1; omega)
    clear hw9 HO58 HO38 HO48
    go_wp2_with fail
    refine (HCE.out _ _ _ _ _ HO59.out HO39.out).mono ?_
    rintro e w10 ⟨rfl, hb10⟩
    have HO510 := Lib.hid (own_below HO59.out hb10)
    have HO310 := Lib.hid (own_below HO39.out hb10)
    have HB10 := Lib.hid (HB9.out.trans (hb10.mono HB9.out.size))
    clear hb10 HO59 HO39
    go_wp2_with fail
    refine (HCM.out HN.out _ _ _ HO510.out).mono ?_
    rintro e w11 ⟨rfl, ho11, hw11⟩
    have HB11 := Lib.hid (HB10.out.trans (hw11.below HB10.out.size fun x hx => Nat.le_trans HB4.out.size (HL5.out x hx).1))
    have HO311 := Lib.hid (own_keep HO310.out hw11 fun x hx hy => by have a := (HL3.out x hx).2; have b := (HL5.out x hy).1; have c := HZ34.out; omega)
    have HX11 := Lib.hid ho11
    clear hw11 ho11 HO510 HO310
    go_wp2_with fail
    refine (HCH.out HN.out _ _ _ HX11.out).mono ?_
    rintro e w12 ⟨rfl, hb12⟩
    have HB12 := Lib.hid (HB11.out.trans (hb12.mono HB11.out.size))
    have HO312 := Lib.hid (own_below HO311.out hb12)
    have HX12 := Lib.hid (own_below HX11.out hb12)
    clear hb12 HO311 HX11
    go_wp2_with fail
    refine (HCT.out HN.out _ HB12.out).mono ?_
    rintro e w13 ⟨⟨v13, rfl, ho13⟩, hb13⟩
    have HO13 := Lib.hid ho13
    have HB13 := Lib.hid (HB12.out.trans (hb13.mono HB12.out.size))
    have HO313 := Lib.hid (own_below HO312.out hb13)
    have HX13 := Lib.hid (own_below HX12.out hb13)
    clear hb13 ho13 HO312 HX12
    go_wp2_with fail
    refine (HCI.out HN.out _ _ _ HO13.out).mono ?_
    rintro e w14 ⟨v14, rfl, ho14, hb14⟩
    have HO14 := Lib.hid ho14
    have HB14 := Lib.hid (HB13.out.trans (hb14.mono HB13.out.size))
    have HO314 := Lib.hid (own_below HO313.out hb14)
    have HX14 := Lib.hid (own_below HX13.out hb14)
    clear hb14 ho14 HO313 HX13 HO13
    go_wp2_with fail
    refine (HCE.out _ _ _ _ _ HO14.out HO314.out).mono ?_
    rintro e w15 ⟨rfl, hb15⟩
    have HB15 := Lib.hid (HB14.out.trans (hb15.mono HB14.out.size))
    have HX15 := Lib.hid (own_below HX14.out hb15)
    clear hb15 HO14 HO314 HX14
    go_wp2_with fail
    refine (HCH.out HN.out _ _ _ HX15.out).mono ?_
    rintro e w16 ⟨rfl, hb16⟩
    have HB16 := Lib.hid (HB15.out.trans (hb16.mono HB15.out.size))
    clear hb16 HX15
    go_wp2_with fail
    go_ret
    exact ⟨rfl, HB16.out⟩
end Go.Proofs.Ytdpmjpjbcpdgnaa
