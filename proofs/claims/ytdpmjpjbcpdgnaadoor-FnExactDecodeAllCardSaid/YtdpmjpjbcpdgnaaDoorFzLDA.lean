/- The law FnExactDecodeAll, walked. Condition: the argument and the errors lie in memory. -/
import Derived.Test.YtdpmjpjbcpdgnaaDoorProg
import Derived.Test.YtdpmjpjbcpdgnaaDoorFzX
import Derived.Test.YtdpmjpjbcpdgnaaDoorFzO
import Derived.Test.YtdpmjpjbcpdgnaaDoorFzG
import Derived.Test.YtdpmjpjbcpdgnaaDoorFzK
namespace Go.Proofs.YtdpmjpjbcpdgnaaDoor
open Go.RowKit

set_option maxRecDepth 100000 in
set_option maxHeartbeats 4000000 in
theorem lawDA_any (A : Option Addr) (cap : Nat) (l : List UInt8) (w : World) (eB eP : Addr) (ha : AtU w w.heap.size A l) (hc : l.length ≤ cap) (hm : cap ≤ maxLen) (he : Er w eB eP) :
    Calls Tryd.prog 10 #[.slice A l.length cap] w fun e w' => e = .returned (.bool true) ∧ Below w.heap.size w w' := by
  by_cases hbig : (1048576 : Int) < (l.length : Int)
  · clear ha hc hm he
    generalize l.length = n at *
    go_enter Tryd.func10, Tryd.ntmps10
    go_wp2_with fail
    go_ret
    exact ⟨rfl, Below.refl _ _⟩
  · have hz : l.length ≤ 1048576 := by omega
    have CT := fun wd (hd : Below w.heap.size w wd) => toU_any A cap l wd ((ha.below hd (Nat.le_refl _)).more hd.size) hc hm hz
    have CS : ∀ wd (A' : Addr) cap' b, OwnU wd b (.slice (some A') l.length cap') l → l.length ≤ cap' → cap' ≤ maxLen → Calls Tryd.prog 18 #[.slice (some A') l.length cap'] wd fun e w' => ∃ v, e = .returned (.tuple #[v, .bool (daB l)]) ∧ OwnG w' wd.heap.size v (daF l) ∧ Below wd.heap.size wd w' :=
      fun wd A' cap' b ho h1 h2 => specDA_any (some A') cap' l wd (by obtain ⟨X, c, e, _, _, h⟩ := ho.at_; injection e with e _ _; rw [e]; exact h) h1 h2 (fun h => by cases h) (by omega)
    have CI : ∀ wd (A' : Addr) cap' b, Below w.heap.size w wd → OwnU wd b (.slice (some A') l.length cap') l → l.length ≤ cap' → cap' ≤ maxLen → Calls Tryd.prog 16 #[.slice (some A') l.length cap'] wd fun e w' => ∃ v, e = .returned (.tuple #[v, .bool (daB l)]) ∧ OwnG w' wd.heap.size v (daF l) ∧ Below wd.heap.size wd w' :=
      fun wd A' cap' b hd ho h1 h2 => implDA_any (some A') cap' l wd eB eP (he.below hd) (by obtain ⟨X, c, e, _, _, h⟩ := ho.at_; injection e with e _ _; rw [e]; exact h) h1 h2 (by omega)
    have CE := eqG_any (daF l)
    have CEU := eqU_any l
    have hfl : (daF l).length ≤ 1048576 := by
      have := (fz.tk_len l).1
      unfold daF
      split <;> simp <;> omega
    have CMU : ∀ wd v b, OwnU wd b v l → Calls Tryd.prog 36 #[v, .int .i64 1] wd fun e w' => e = .returned (.int .i64 ((1 + l.length : Nat) : Int)) ∧ OwnU w' b v (mkU 1 l.length) ∧ Wrote (ownV v) wd w' := fun wd v b h => markU_any l v b 1 wd h (by omega)
    have CMG : ∀ wd v b, OwnG wd b v (daF l) → Calls Tryd.prog 37 #[v, .int .i64 1] wd fun e w' => e = .returned (.int .i64 ((1 + 2 * (daF l).length : Nat) : Int)) ∧ OwnG w' b v (mkG 1 (daF l).length) ∧ Wrote (ownV v) wd w' := fun wd v b h => markG_any (daF l) v b 1 wd h (by omega)
    have CHG : ∀ wd v b, OwnG wd b v (mkG 1 (daF l).length) → Calls Tryd.prog 38 #[v, .int .i64 1] wd fun e w' => e = .returned (.int .i64 ((1 + 2 * (daF l).length : Nat) : Int)) ∧ Below wd.heap.size wd w' := fun wd v b h => heldG_any 1 (daF l).length v b wd h (by omega)
    obtain ⟨K, hK⟩ : ∃ K : Int, ((1 + l.length : Nat) : Int) = K := ⟨_, rfl⟩
    obtain ⟨M, hM⟩ : ∃ M : Int, ((1 + 2 * (daF l).length : Nat) : Int) = M := ⟨_, rfl⟩
    have k0 : ¬ K < 0 := by omega
    have m0 : ¬ M < 0 := by omega
    rw [hK] at CMU
    rw [hM] at CMG CHG
    have tr : (daB l != daB l) = false := by simp
    have tm : (M != M) = false := by simp
    have HCT := Lib.hid CT
    have HCS := Lib.hid CS
    have HCI := Lib.hid CI
    have HCE := Lib.hid CE
    have HCEU := Lib.hid CEU
    have HCMU := Lib.hid CMU
    have HCMG := Lib.hid CMG
    have HCHG := Lib.hid CHG
    clear CT CS CI CE CEU CMU CMG CHG hK hM hfl ha hc hm he hz
    generalize daB l = bb at *
    generalize mkG 1 (daF l).length = gs at *
    generalize daF l = fs at *
    generalize mkU 1 l.length = us at *
    generalize l.length = n at *
    go_enter Tryd.func10, Tryd.ntmps10
    go_wp2_with fail
    refine (HCT.out _ (Below.refl _ _)).mono ?_
    rintro e w1 ⟨⟨v1, A1, c1, rfl, rfl, h1, h2, ho1⟩, hb1⟩
    have HO1 := Lib.hid ho1
    have HB1 := Lib.hid hb1
    have HH := Lib.hid (And.intro h1 h2)
    clear ho1 hb1 h1 h2
    go_wp2_with fail
    refine (HCS.out _ _ _ _ HO1.out HH.out.1 HH.out.2).mono ?_
    rintro e w2 ⟨v3, rfl, hg, hb2⟩
    have HG3 := Lib.hid hg
    have HB2 := Lib.hid (HB1.out.trans (hb2.mono HB1.out.size))
    clear hg hb2 HO1 HH
    go_wp2_with fail
    refine (HCT.out _ HB2.out).mono ?_
    rintro e w3 ⟨⟨v5, A5, c5, rfl, rfl, h1, h2, ho1⟩, hb3⟩
    have HO5 := Lib.hid ho1
    have HB3 := Lib.hid (HB2.out.trans (hb3.mono HB2.out.size))
    have HG3' := Lib.hid (own_below HG3.out hb3)
    have HL3 := Lib.hid (own_lt HG3.out)
    have HL35 := Lib.hid hb3.size
    have HH := Lib.hid (And.intro h1 h2)
    clear ho1 hb3 h1 h2 HG3
    go_wp2_with fail
    refine (HCI.out _ _ _ _ HB3.out HO5.out HH.out.1 HH.out.2).mono ?_
    rintro e w4 ⟨v6, rfl, hg, hb4⟩
    have HG6 := Lib.hid hg
    have HL6 := Lib.hid (own_lt hg)
    have HG4 := Lib.hid (own_below HG3'.out hb4)
    have HO4 := Lib.hid (own_below HO5.out hb4)
    have HL5 := Lib.hid (own_lt HO5.out)
    have HB4 := Lib.hid (HB3.out.trans (hb4.mono HB3.out.size))
    clear hg hb4 HO5 HG3' HH
    go_wp2_with fail
    refine (HCE.out _ _ _ _ _ HG6.out HG4.out).mono ?_
    rintro e w5 ⟨rfl, hb5⟩
    have HB5 := Lib.hid (HB4.out.trans (hb5.mono HB4.out.size))
    have HG36 := Lib.hid (own_below HG4.out hb5)
    have HG65 := Lib.hid (own_below HG6.out hb5)
    have HO55 := Lib.hid (own_below HO4.out hb5)
    clear hb5 HG6 HG4 HO4
    go_wp2_with fail
    refine (HCT.out _ HB5.out).mono ?_
    rintro e w6 ⟨⟨v7, A7, c7, rfl, rfl, h1, h2, ho1⟩, hb6⟩
    have HO7 := Lib.hid ho1
    have HB6 := Lib.hid (HB5.out.trans (hb6.mono HB5.out.size))
    have HG3 := Lib.hid (own_below HG36.out hb6)
    have HG6 := Lib.hid (own_below HG65.out hb6)
    have HO5 := Lib.hid (own_below HO55.out hb6)
    clear ho1 hb6 h1 h2 HG36 HG65 HO55
    go_wp2_with fail
    refine (HCEU.out _ _ _ _ _ HO5.out HO7.out).mono ?_
    rintro e w7 ⟨rfl, hb7⟩
    have HB7 := Lib.hid (HB6.out.trans (hb7.mono HB6.out.size))
    have HG37 := Lib.hid (own_below HG3.out hb7)
    have HG67 := Lib.hid (own_below HG6.out hb7)
    have HO57 := Lib.hid (own_below HO5.out hb7)
    clear hb7 HG3 HG6 HO5 HO7
    go_wp2_with fail
    refine (HCMU.out _ _ _ HO57.out).mono ?_
    rintro e w8 ⟨rfl, ho8, hw8⟩
    have HB8 := Lib.hid (HB7.out.trans (hw8.below HB7.out.size fun x hx => Nat.le_trans HB2.out.size (HL5.out x hx).1))
    have HG38 := Lib.hid (own_keep HG37.out hw8 fun x hx hy => by have a := (HL3.out x hx).2; have b := (HL5.out x hy).1; omega)
    have HG68 := Lib.hid (own_keep HG67.out hw8 fun x hx hy => by have a := (HL6.out x hx).1; have b := (HL5.out x hy).2; omega)
    clear ho8 hw8 HG37 HG67 HO57
    go_wp2_with fail
    refine (HCE.out _ _ _ _ _ HG68.out HG38.out).mono ?_
    rintro e w9 ⟨rfl, hb9⟩
    have HB9 := Lib.hid (HB8.out.trans (hb9.mono HB8.out.size))
    have HG39 := Lib.hid (own_below HG38.out hb9)
    have HG69 := Lib.hid (own_below HG68.out hb9)
    clear hb9 HG38 HG68
    go_wp2_with fail
    refine (HCMG.out _ _ _ HG69.out).mono ?_
    rintro e w10 ⟨rfl, hg, hw10⟩
    have HB10 := Lib.hid (HB9.out.trans (hw10.below HB9.out.size fun x hx => Nat.le_trans HB3.out.size (HL6.out x hx).1))
    have HG310 := Lib.hid (own_keep HG39.out hw10 fun x hx hy => by have a := (HL3.out x hx).2; have b := (HL6.out x hy).1; have c := HL35.out; omega)
    have HX10 := Lib.hid hg
    clear hg hw10 HG39 HG69
    go_wp2_with fail
    refine (HCHG.out _ _ _ HX10.out).mono ?_
    rintro e w11 ⟨rfl, hb11⟩
    have HB11 := Lib.hid (HB10.out.trans (hb11.mono HB10.out.size))
    have HG311 := Lib.hid (own_below HG310.out hb11)
    have HX11 := Lib.hid (own_below HX10.out hb11)
    clear hb11 HG310 HX10
    go_wp2_with fail
    refine (HCT.out _ HB11.out).mono ?_
    rintro e w12 ⟨⟨v9, A9, c9, rfl, rfl, h1, h2, ho1⟩, hb12⟩
    have HO9 := Lib.hid ho1
    have HB12 := Lib.hid (HB11.out.trans (hb12.mono HB11.out.size))
    have HG312 := Lib.hid (own_below HG311.out hb12)
    have HX12 := Lib.hid (own_below HX11.out hb12)
    have HH := Lib.hid (And.intro h1 h2)
    clear ho1 hb12 h1 h2 HG311 HX11
    go_wp2_with fail
    refine (HCI.out _ _ _ _ HB12.out HO9.out HH.out.1 HH.out.2).mono ?_
    rintro e w13 ⟨v10, rfl, hg, hb13⟩
    have HG10 := Lib.hid hg
    have HG313 := Lib.hid (own_below HG312.out hb13)
    have HX13 := Lib.hid (own_below HX12.out hb13)
    have HB13 := Lib.hid (HB12.out.trans (hb13.mono HB12.out.size))
    clear hg hb13 HO9 HG312 HX12 HH
    go_wp2_with fail
    refine (HCE.out _ _ _ _ _ HG10.out HG313.out).mono ?_
    rintro e w14 ⟨rfl, hb14⟩
    have HB14 := Lib.hid (HB13.out.trans (hb14.mono HB13.out.size))
    have HX14 := Lib.hid (own_below HX13.out hb14)
    clear hb14 HG10 HG313 HX13
    go_wp2_with fail
    refine (HCHG.out _ _ _ HX14.out).mono ?_
    rintro e w15 ⟨rfl, hb15⟩
    have HB15 := Lib.hid (HB14.out.trans (hb15.mono HB14.out.size))
    clear hb15 HX14
    go_wp2_with fail
    go_ret
    exact ⟨rfl, HB15.out⟩
end Go.Proofs.YtdpmjpjbcpdgnaaDoor
