/- impl.ClausesFor. Condition: the clauses and the goal lie in memory, both tables in their variables. -/
import Derived.Test.YtojilompidmfiaaDoorProg
import Derived.Test.YtojilompidmfiaaDoorPrW
import Derived.Test.YtojilompidmfiaaDoorCfS
namespace Go.Proofs.YtojilompidmfiaaDoor
open Go.RowKit Go.WideMaps Go.Maps Go.ChangeShapes

theorem nilI {w x : World} (hb : Below w.heap.size w x) : OwnI x w.heap.size (.slice none 0 0) [] ∧ Below w.heap.size w x := ⟨OwnI.nil _ _, hb⟩

set_option maxRecDepth 100000 in
set_option maxHeartbeats 4000000 in
/-- impl.ClausesFor. -/
theorem implCF_any (cs : List Cl) (A : Option Addr) (cap lo hi : Nat) (k n : Int) (s : ByteArray) (f : Fr) (B : Option Addr) (capB lo' hi' : Nat) (w : World) (hk : ClS w lo hi cs A cap) (hh : hi ≤ w.heap.size) (hnd : cs.length + wtCs cs ≤ 1048576)
    (hkb : KidsAt w lo' hi' f B capB) (hh' : hi' ≤ w.heap.size) (hf : Fits k n s) (hndb : nodes f ≤ 1048576) (ht : nv.Tab w) (ho : op.OpTab w) :
    Calls Tryd.prog 33 #[.slice A cs.length cap, .agg #[.int .i64 k, .int .i64 n, .string s, .slice B f.len capB]] w fun e w' => ∃ v, e = .returned v ∧ OwnI w' w.heap.size v (clF cs k n s f) ∧ Below w.heap.size w w' := by
  have hb0 : Below w.heap.size w (w.alloc (.cells #[.int .i64 k, .int .i64 n, .string s, .slice B f.len capB] 29)) := (Below.refl _ _).alloc (Nat.le_refl _) _
  have C1 := plainOf_any k n s f B capB lo' hi' _ (hkb.below hb0 hh') (Nat.le_trans hh' hb0.size) hf hndb (ht.below hb0) (ho.below hb0)
  have C2 := fun w1 (hb : Below w.heap.size w w1) => progOf_any cs A cap lo hi w1 (hk.below hb hh) (Nat.le_trans hh hb.size) hnd (ht.below hb) (ho.below hb)
  have HE : Hid (clF cs k n s f = if (progV cs && plainV k n s f) = true then forF cs 0 s f.len else []) := Lib.hid rfl
  have hfl : f.len ≤ maxLen := Nat.le_trans hkb.1 hkb.2.1
  have hix : idxF cs 0 (pk s f.len) = forF cs 0 s f.len := forF_idx s f.len hf.2.2 hfl cs 0 hk.wf
  have hkey := pk_key s f.len hf.2.2 hfl
  have hcl : cs.length ≤ 1048576 := by omega
  have H1 := Lib.hid C1
  have H2 := Lib.hid C2
  have HB0 := Lib.hid hb0
  have HIX := Lib.hid hix
  have HKK := Lib.hid hkey
  clear C1 C2 hk hh hnd hkb hh' hf hndb hb0 ht ho hfl hix hkey
  generalize hn : cs.length = cl at *
  have HN := Lib.hid hn
  clear hn
  go_enter Tryd.func33, Tryd.ntmps33
  go_wp2_with fail
  refine H1.out.mono ?_
  rintro e w2 ⟨hb, hr⟩
  have hbw := HB0.out.trans (hb.mono HB0.out.size)
  rcases hr with ⟨hok, s', A', len', cap', rfl⟩ | ⟨hok, A2, cap2, rfl, _⟩
  · have HV : Hid (clF cs k n s f = []) := Lib.hid (by rw [HE.out, hok]; simp)
    have HBW := Lib.hid (hbw.alloc hbw.size (.cells #[.string s', .slice A' len' cap'] 81))
    clear hb hbw hok
    go_wp2_with fail
    go_ret
    rw [HV.out]
    exact ⟨_, rfl, nilI HBW.out⟩
  · have hb3 := hbw.alloc hbw.size (.cells #[.string s, .slice A2 f.len cap2] 81)
    have hq3 := Blk.new w2 81 #[.string s, .slice A2 f.len cap2]
    have HP := Lib.hid hok
    have HB3 := Lib.hid hb3
    have HQ3 := Lib.hid hq3
    clear hb hbw hok hb3 hq3
    go_wp2_with fail
    refine (H2.out _ HB3.out).mono ?_
    rintro e w4 ⟨hb, hr⟩
    have hbw := HB3.out.trans (hb.mono HB3.out.size)
    have hq4 := HQ3.out.below hb HQ3.out.lt
    have hsz4 : w2.heap.size + 1 ≤ w4.heap.size := by have := hb.size; simpa using this
    rcases hr with ⟨hok, rfl⟩ | ⟨hok, R, M, rfl, hM1, hM2, D, hD, hH⟩
    · have HV : Hid (clF cs k n s f = []) := Lib.hid (by rw [HE.out, hok]; simp)
      have HBW := Lib.hid (hbw.alloc hbw.size (.cells #[.slice none 0 0, .map none] 92))
      clear hb hbw hok hq4
      go_wp2_with fail
      go_ret
      rw [HV.out]
      exact ⟨_, rfl, nilI HBW.out⟩
    · have HV : Hid (clF cs k n s f = forF cs 0 s f.len) := Lib.hid (by rw [HE.out, hok, HP.out]; rfl)
      rw [HN.out] at hD
      have hM0 : w2.heap.size + 1 ≤ M := by simpa using hM1
      have hb5 : Below w4.heap.size w4 (w4.alloc (.cells #[.slice R cl cl, .map (some M)] 92)) := (Below.refl _ _).alloc (Nat.le_refl _) _
      have hq5 := hq4.below hb5 hq4.lt
      have hq6 := Blk.new w4 92 #[.slice R cl cl, .map (some M)]
      have hD5 := groups_below hD hb5
      have hbw5 := hbw.trans (hb5.mono hbw.size)
      have HS4 := Lib.hid hb5.size
      clear hb hbw hok hq4 hb5 hM1 hM2 hD
      rw [HN.out]
      go_wp2_with fail
      generalize w4.alloc (.cells #[.slice R cl cl, .map (some M)] 92) = W0 at *
      have hgr := fun x (hb : Below W0.heap.size W0 x) => groups_below hD5 hb
      have hs0 : W0.cell? ⟨w4.heap.size, 1, none⟩ = some (.map (some M)) ∧ W0.cell? ⟨w2.heap.size, 0, none⟩ = some (.string s) ∧ W0.cell? ⟨w2.heap.size, 1, none⟩ = some (.slice A2 f.len cap2) := ⟨hq6.cell 1, hq5.cell 0, hq5.cell 1⟩
      have hsc : ∀ x, Below W0.heap.size W0 x → x.cell? ⟨w4.heap.size, 1, none⟩ = some (.map (some M)) ∧ x.cell? ⟨w2.heap.size, 0, none⟩ = some (.string s) ∧ x.cell? ⟨w2.heap.size, 1, none⟩ = some (.slice A2 f.len cap2) := fun x hb =>
        ⟨(hq6.below hb hq6.lt).cell 1, (hq5.below hb hq5.lt).cell 0, (hq5.below hb hq5.lt).cell 1⟩
      have hfin : ∀ x v zs, Below W0.heap.size W0 x → D.atKey (pk s f.len) .nil = rowDatum .i64 v zs → x.ownsInts (M + 1) 3 .i64 v zs → OwnI x w.heap.size v (clF cs k n s f) ∧ Below w.heap.size w x := fun x v zs hb hat hoi => by
        have hz := (hH (pk s f.len)).eq hat hoi
        rw [HV.out, ← HIX.out, ← hz]
        have hsw := HB3.out.size
        refine ⟨OwnI.mono (base := M + 1) hoi.1 ?_, hbw5.trans (hb.mono hbw5.size)⟩
        simp at hsw
        omega
      have HGR := Lib.hid hgr
      have HSC := Lib.hid hsc
      have HFIN := Lib.hid hfin
      clear hq5 hq6 hD5 hbw5 hgr hsc hfin hH
      obtain ⟨y0, y1, y2⟩ := id hs0
      generalize f.len = fl at *
      go_region_held3 (fun x => x.cell? ⟨w4.heap.size, 1, none⟩ = some (.map (some M)) ∧ x.cell? ⟨w2.heap.size, 0, none⟩ = some (.string s) ∧ x.cell? ⟨w2.heap.size, 1, none⟩ = some (.slice A2 fl cap2))
        (first | exact hs0 | exact HSC.out _ (by repeat (first | exact HX1.out | exact Below.refl _ _ | apply Below.drew | apply bl_alloc)))
        (first
          | (go_at_call 67
             refine (pred_any s A2 fl cap2 _).mono ?_
             rintro e w6 ⟨rfl, hb6⟩
             have hx1 : Below W0.heap.size W0 w6 := bl_step (by repeat (first | exact Below.refl _ _ | apply Below.drew | apply bl_alloc)) hb6
             obtain ⟨v, zs, hrun, hat, hoi, hzl, hbk⟩ := (HGR.out w6 hx1).at lawK Tryd.underlying90 (zeroIx _) (by unfold maxLen; omega) HKK.out
             have HDONE := Lib.hid (HFIN.out w6 v zs hx1 hat hoi)
             have HX1 := Lib.hid hx1
             clear hx1 hb6 hat hoi hzl hbk))
      go_wp2_with fail
      go_ret
      exact ⟨v, rfl, HDONE.out⟩
end Go.Proofs.YtojilompidmfiaaDoor
