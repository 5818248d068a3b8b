/- The law FnExactDecoderValid, walked. Condition: the argument and the errors lie in memory. -/
import Derived.Test.YtdpmjpjbcpdgnaaDoorProg
import Derived.Test.YtdpmjpjbcpdgnaaDoorFzX
import Derived.Test.YtdpmjpjbcpdgnaaDoorFzQ
namespace Go.Proofs.YtdpmjpjbcpdgnaaDoor
open Go.RowKit

set_option maxRecDepth 100000 in
set_option maxHeartbeats 4000000 in
theorem lawDV_any (A : Option Addr) (cap : Nat) (l : List UInt8) (br : Bool) (w : World) (eB eP : Addr) (ha : AtU w w.heap.size A l) (hc : l.length ≤ cap) (hm : cap ≤ maxLen) (he : Er w eB eP) :
    Calls Tryd.prog 12 #[.agg #[.slice A l.length cap, .bool br]] w fun e w' => e = .returned (.bool true) ∧ Below w.heap.size w w' := by
  have hb1 := (Below.refl w.heap.size w).alloc (Nat.le_refl _) (.cells #[.slice A l.length cap, .bool br] 48)
  have hq1 := Blk.new w 48 #[.slice A l.length cap, .bool br]
  have CS := szD_any A l.length cap br 1048576 (w.alloc (.cells #[.slice A l.length cap, .bool br] 48)) hc hm (by omega) (by omega)
  by_cases hbig : (1048576 : Int) < (l.length : Int)
  · rw [if_pos hbig] at CS
    have HCS := Lib.hid CS
    have HB1 := Lib.hid hb1
    clear CS hb1 hq1 hbig ha hc hm he
    generalize l.length = n at *
    go_enter Tryd.func12, Tryd.ntmps12
    go_wp2_with fail
    refine HCS.out.mono ?_
    rintro e w2 ⟨rfl, hb2⟩
    have HB2 := Lib.hid (HB1.out.trans (hb2.mono HB1.out.size))
    clear hb2
    go_wp2_with fail
    go_ret
    exact ⟨rfl, HB2.out⟩
  · rw [if_neg hbig] at CS
    have hz : l.length ≤ 1048576 := by omega
    have t0 : ¬ (1048576 : Int) - (l.length : Int) < 0 := by omega
    have CT := fun wd (hd : Below w.heap.size w wd) => toD_any A cap l br wd ((ha.below hd (Nat.le_refl _)).more hd.size) hc hm hz
    have CV := fun wd A' cap' (ho : OwnU wd w.heap.size (.slice (some A') l.length cap') l) (h1 : l.length ≤ cap') (h2 : cap' ≤ maxLen) => specDV_any (some A') cap' l br wd (by obtain ⟨X, c, e, _, _, h⟩ := ho.at_; injection e with e _ _; rw [e]; exact h) h1 h2 (by omega)
    have CI := fun wd A' cap' (hd : Below w.heap.size w wd) (ho : OwnU wd w.heap.size (.slice (some A') l.length cap') l) (h1 : l.length ≤ cap') (h2 : cap' ≤ maxLen) => implDV_any (some A') cap' l br wd eB eP (he.below hd) (by obtain ⟨X, c, e, _, _, h⟩ := ho.at_; injection e with e _ _; rw [e]; exact h) h1 h2 (by omega)
    have CE := eqD_any l br
    have HCS := Lib.hid CS
    have HCT := Lib.hid CT
    have HCV := Lib.hid CV
    have HCI := Lib.hid CI
    have HCE := Lib.hid CE
    have HB1 := Lib.hid hb1
    have HQ1 := Lib.hid hq1
    clear CS CT CV CI CE hb1 hq1 hbig ha hc hm he hz
    generalize dvB l br = r at *
    generalize l.length = n at *
    have tr : (r != r) = false := by simp
    go_enter Tryd.func12, Tryd.ntmps12
    go_wp2_with fail
    generalize (w.alloc (.cells #[.slice A n cap, .bool br] 48)) = w1 at *
    refine HCS.out.mono ?_
    rintro e w2 ⟨rfl, hb2⟩
    have hq2 := HQ1.out.below hb2 HQ1.out.lt
    have x0 : w2.cell? ⟨w.heap.size, 0, none⟩ = some (.slice A n cap) := hq2.cell 0
    have x1 : w2.cell? ⟨w.heap.size, 1, none⟩ = some (.bool br) := hq2.cell 1
    have hs := HQ1.out.lt
    have HB2 := Lib.hid hb2
    clear hb2 hq2 HCS
    go_wp2_with fail
    refine (HCT.out _ (HB1.out.trans (HB2.out.mono HB1.out.size))).mono ?_
    rintro e w3 ⟨⟨A3, c3, rfl, h1, h2, ho⟩, hb3⟩
    have HO3 := Lib.hid ho
    have HB3 := Lib.hid (HB2.out.trans (hb3.mono HB2.out.size))
    have HH := Lib.hid (And.intro h1 h2)
    clear hb3 ho h1 h2 x0 x1
    go_wp2_with fail
    refine (HCV.out _ _ _ (own_mono HO3.out (Nat.le_trans (Nat.le_of_lt hs) HB2.out.size)) HH.out.1 HH.out.2).mono ?_
    rintro e w4 ⟨rfl, hb4⟩
    have HB4 := Lib.hid (HB3.out.trans (hb4.mono HB3.out.size))
    have hq4 := HQ1.out.below HB4.out hs
    have x0 : w4.cell? ⟨w.heap.size, 0, none⟩ = some (.slice A n cap) := hq4.cell 0
    have x1 : w4.cell? ⟨w.heap.size, 1, none⟩ = some (.bool br) := hq4.cell 1
    clear hb4 hq4 HO3 HH
    go_wp2_with fail
    refine (HCT.out _ (HB1.out.trans (HB4.out.mono HB1.out.size))).mono ?_
    rintro e w5 ⟨⟨A5, c5, rfl, h1, h2, ho⟩, hb5⟩
    have HO5 := Lib.hid ho
    have HB5 := Lib.hid (HB4.out.trans (hb5.mono HB4.out.size))
    have HH := Lib.hid (And.intro h1 h2)
    have hq6 := Blk.new w5 38 #[.slice (some A5) n c5, .bool br]
    have hb6 := (Below.refl w5.heap.size w5).alloc (Nat.le_refl _) (.cells #[.slice (some A5) n c5, .bool br] 38)
    have HS5 := Lib.hid (Nat.le_trans HB1.out.size HB4.out.size)
    clear hb5 ho h1 h2 x0 x1
    go_wp2_with fail
    generalize (w5.alloc (.cells #[.slice (some A5) n c5, .bool br] 38)) = w6 at *
    have HQ6 := Lib.hid hq6
    have hs6 := hq6.lt
    have HO6 := Lib.hid (own_mono (own_below HO5.out hb6) HS5.out)
    have HB6 := Lib.hid (HB5.out.trans (hb6.mono HB5.out.size))
    clear hq6 hb6 HO5
    refine (HCI.out _ _ _ (HB1.out.trans (HB6.out.mono HB1.out.size)) HO6.out HH.out.1 HH.out.2).mono ?_
    rintro e w7 ⟨rfl, hb7⟩
    have hq7 := HQ6.out.below hb7 hs6
    have HB7 := Lib.hid (HB6.out.trans (hb7.mono HB6.out.size))
    have hq71 := HQ1.out.below HB7.out hs
    have x0 : w7.cell? ⟨w.heap.size, 0, none⟩ = some (.slice A n cap) := hq71.cell 0
    have x1 : w7.cell? ⟨w.heap.size, 1, none⟩ = some (.bool br) := hq71.cell 1
    have y0 : w7.cell? ⟨w5.heap.size, 0, none⟩ = some (.slice (some A5) n c5) := hq7.cell 0
    have y1 : w7.cell? ⟨w5.heap.size, 1, none⟩ = some (.bool br) := hq7.cell 1
    have HO7 := Lib.hid (own_below HO6.out hb7)
    have hs7 := hq7.lt
    have HQ7 := Lib.hid hq7
    clear hb7 hq7 hq71 HH HO6
    go_wp2_with fail
    go_region_held3 (fun w' => w'.cell? ⟨w.heap.size, 0, none⟩ = some (.slice A n cap) ∧ w'.cell? ⟨w.heap.size, 1, none⟩ = some (.bool br) ∧ w'.cell? ⟨w5.heap.size, 0, none⟩ = some (.slice (some A5) n c5) ∧ w'.cell? ⟨w5.heap.size, 1, none⟩ = some (.bool br))
      (first | exact ⟨r0, r1, r2, r3⟩ | exact ⟨p0, p1, p2, p3⟩ | exact ⟨x0, x1, y0, y1⟩)
      (first
        | (go_at_call 40
           refine (HCT.out _ ((HB1.out.trans (HB7.out.mono HB1.out.size)).drew)).mono ?_
           rintro e w8 ⟨⟨A8, c8, rfl, h1, h2, ho⟩, hb8⟩
           have hd8 : Below w7.heap.size w7 w8 := ((Below.refl w7.heap.size w7).drew).trans hb8
           have hq8 := HQ7.out.below hd8 hs7
           have HB8 := Lib.hid (HB7.out.trans (hd8.mono HB7.out.size))
           have hq81 := HQ1.out.below HB8.out hs
           have p0 : w8.cell? ⟨w.heap.size, 0, none⟩ = some (.slice A n cap) := hq81.cell 0
           have p1 : w8.cell? ⟨w.heap.size, 1, none⟩ = some (.bool br) := hq81.cell 1
           have p2 : w8.cell? ⟨w5.heap.size, 0, none⟩ = some (.slice (some A5) n c5) := hq8.cell 0
           have p3 : w8.cell? ⟨w5.heap.size, 1, none⟩ = some (.bool br) := hq8.cell 1
           have HQ8 := Lib.hid hq8
           have HO8 := Lib.hid ho
           have HO78 := Lib.hid (own_below HO7.out hd8)
           clear hb8 hd8 hq8 hq81 ho h1 h2)
        | (go_at_call 41
           refine (HCE.out _ _ _ _ _ HO78.out HO8.out).mono ?_
           rintro e w9 ⟨rfl, hb9⟩
           have HB9 := Lib.hid (HB8.out.trans (hb9.mono HB8.out.size))
           have hq91 := HQ1.out.below HB9.out hs
           have hq9 := HQ8.out.below hb9 HQ8.out.lt
           have r0 : w9.cell? ⟨w.heap.size, 0, none⟩ = some (.slice A n cap) := hq91.cell 0
           have r1 : w9.cell? ⟨w.heap.size, 1, none⟩ = some (.bool br) := hq91.cell 1
           have r2 : w9.cell? ⟨w5.heap.size, 0, none⟩ = some (.slice (some A5) n c5) := hq9.cell 0
           have r3 : w9.cell? ⟨w5.heap.size, 1, none⟩ = some (.bool br) := hq9.cell 1
           clear hb9 hq91 hq9))
    all_goals
      go_wp2_with fail
      go_ret
      exact ⟨rfl, HB1.out.trans (HB9.out.mono HB1.out.size)⟩
end Go.Proofs.YtdpmjpjbcpdgnaaDoor
