/- AnswerSame: impl.AnswerSame; spec.AnswerSame. Condition: the values lie in memory (impl: the call owns them). -/
import Derived.Test.YtejflpmecpmhkaaProg
import Derived.Test.YtejflpmecpmhkaaSame
import Derived.Test.YtejflpmecpmhkaaSameS
import Derived.Deep.RegionHeld3
namespace Go.Proofs.Ytejflpmecpmhkaa
open Go.RowKit

theorem sameA_row (f g : Fr) : eqT 0 0 ⟨#[]⟩ f 0 0 ⟨#[]⟩ g = eqF f g := by
  unfold eqT
  simp

set_option maxRecDepth 100000 in
set_option maxHeartbeats 2000000 in
/-- impl.AnswerSame. -/
theorem implAS_any (f g : Fr) (A B : Option Addr) (cap capB : Nat) (L M : List Nat) (w : World) (h1 : OwnS w f A cap L) (h2 : OwnS w g B capB M) (hn : (L ++ M).Nodup) (hnd : nodes f ≤ 1048580) :
    Calls Try.prog 7 #[.agg #[.slice A f.len cap], .agg #[.slice B g.len capB]] w fun e w' => e = .returned (.bool (eqF f g)) ∧ Below w.heap.size w w' := by
  have hrow := sameA_row f g
  have hb0 := two_alloc w (.cells #[.slice A f.len cap] 29) (.cells #[.slice B g.len capB] 29)
  have hq0 := (Blk.new w 29 #[.slice A f.len cap]).alloc (.cells #[.slice B g.len capB] 29)
  have hq1 := Blk.new (w.alloc (.cells #[.slice A f.len cap] 29)) 29 #[.slice B g.len capB]
  rw [show (w.alloc (.cells #[.slice A f.len cap] 29)).heap.size = w.heap.size + 1 by simp] at hq1
  have C1 := same_any ⟨0, 0, ⟨#[]⟩, f, A, cap, L, 0, 0, ⟨#[]⟩, g, B, capB, M⟩ ((w.alloc (.cells #[.slice A f.len cap] 29)).alloc (.cells #[.slice B g.len capB] 29)) ⟨h1.below hb0 h1.lt, h2.below hb0 h2.lt⟩ hn (fun y hy => by
      have h0 := hb0.size
      rcases List.mem_append.1 hy with h | h
      · exact Nat.lt_of_lt_of_le (h1.lt y h) h0
      · exact Nat.lt_of_lt_of_le (h2.lt y h) h0) (by show nodes f ≤ 1048600; omega)
  simp only [It.eq, hrow] at C1
  have c0 := hq0.cell 0
  have c1 := hq1.cell 0
  simp only [List.getElem?_toArray, List.getElem?_cons_zero] at c0 c1
  have H1 := Lib.hid C1
  have HB0 := Lib.hid hb0
  clear C1 hrow h1 h2 hn hb0 hq0 hq1 hnd
  go_enter Try.func7, Try.ntmps7
  go_wp2_with fail
  refine H1.out.mono ?_
  rintro e w2 ⟨rfl, hb⟩
  have HB2 := Lib.hid (HB0.out.trans (hb.mono HB0.out.size))
  clear hb
  go_wp2_with fail
  go_ret
  exact ⟨rfl, HB2.out⟩

set_option maxRecDepth 100000 in
set_option maxHeartbeats 4000000 in
/-- spec.AnswerSame. -/
theorem specAS_any (g g' : Fr) (B B' : Option Addr) (capB capB' lo hi lo' hi' : Nat) (w : World) (h2 : KidsAt w lo hi g B capB) (h4 : KidsAt w lo' hi' g' B' capB') (hh : hi ≤ w.heap.size) (hh' : hi' ≤ w.heap.size) :
    Calls Try.prog 5 #[.agg #[.slice B g.len capB], .agg #[.slice B' g'.len capB']] w fun e w' => e = .returned (.bool (eqF g g')) ∧ Below w.heap.size w w' := by
  have hb0 := two_alloc w (.cells #[.slice B g.len capB] 29) (.cells #[.slice B' g'.len capB'] 29)
  have hq0 := (Blk.new w 29 #[.slice B g.len capB]).alloc (.cells #[.slice B' g'.len capB'] 29)
  have hq1 := Blk.new (w.alloc (.cells #[.slice B g.len capB] 29)) 29 #[.slice B' g'.len capB']
  rw [show (w.alloc (.cells #[.slice B g.len capB] 29)).heap.size = w.heap.size + 1 by simp] at hq1
  have hg2 := Nat.le_trans h2.1 h2.2.1
  unfold maxLen at hg2
  have x4 := hq0.cell 0
  have y4 := hq1.cell 0
  simp only [List.getElem?_toArray, List.getElem?_cons_zero] at x4 y4
  have HB := Lib.hid hb0
  have HP0 := Lib.hid hq0
  have HP1 := Lib.hid hq1
  have HG := Lib.hid h2
  have HG' := Lib.hid h4
  have HHI := Lib.hid hh
  have HHI' := Lib.hid hh'
  clear hb0 hq0 hq1 h2 h4 hh hh'
  generalize hn : g.len = gl at *
  generalize hn' : g'.len = gl' at *
  have HN := Lib.hid hn
  have HN' := Lib.hid hn'
  clear hn hn'
  by_cases hlen : gl = gl'
  · subst hlen
    have t0 : ((gl : Int) != (gl : Int)) = false := by simp
    go_enter Try.func5, Try.ntmps5
    go_wp2_with fail
    generalize (w.alloc (.cells #[.slice B gl capB] 29)).alloc (.cells #[.slice B' gl capB'] 29) = w2 at *
    go_loopw [5] (fun i wr => ∃ (j : Nat), j ≤ gl ∧ i = .int .i64 j ∧ eqF (g.drop j) (g'.drop j) = eqF g g' ∧ Below w2.heap.size w2 wr) (fun i _ => gl - (intOf i).toNat)
    case atStart => exact ⟨0, Nat.zero_le _, rfl, rfl, Below.refl _ _⟩
    case round =>
      obtain ⟨j, hj, rfl, hev, hb⟩ := hrel
      have hbw := HB.out.trans (hb.mono HB.out.size)
      have hq0 := HP0.out.below hb HP0.out.lt
      have hq1 := HP1.out.below hb HP1.out.lt
      clear x4 y4
      have x4 := hq0.cell 0
      have y4 := hq1.cell 0
      simp only [List.getElem?_toArray, List.getElem?_cons_zero] at x4 y4
      by_cases hlt : j < gl
      · obtain ⟨kk, nn, ss, kids, hd⟩ := Fr.drop_cons j g (by rw [HN.out]; exact hlt)
        obtain ⟨kk', nn', ss', kids', hd'⟩ := Fr.drop_cons j g' (by rw [HN'.out]; exact hlt)
        obtain ⟨b, o, rfl, hlb, hbb, hrow⟩ := HG.out.2.2 (by rw [HN.out]; omega)
        obtain ⟨b', o', rfl, hlb', hbb', hrow'⟩ := HG'.out.2.2 (by rw [HN'.out]; omega)
        obtain ⟨hfit, A1, cp, c0, c1, c2, c3, hkid⟩ := hrow.elem hd
        obtain ⟨hfit', A2, cp', c0', c1', c2', c3', hkid'⟩ := hrow'.elem hd'
        have hlo : (⟨b, o, none⟩ : Addr).block < w.heap.size := Nat.lt_of_lt_of_le hbb HHI.out
        have hlo' : (⟨b', o', none⟩ : Addr).block < w.heap.size := Nat.lt_of_lt_of_le hbb' HHI'.out
        have k0 := (hbw.cell (p := ⟨b, o + j * 4, none⟩) hlo).trans c0
        have k1 := (hbw.cell (p := ⟨b, o + j * 4 + 1, none⟩) hlo).trans c1
        have k2 := (hbw.cell (p := ⟨b, o + j * 4 + 2, none⟩) hlo).trans c2
        have k3 := (hbw.cell (p := ⟨b, o + j * 4 + 3, none⟩) hlo).trans c3
        have j0 := (hbw.cell (p := ⟨b', o' + j * 4, none⟩) hlo').trans c0'
        have j1 := (hbw.cell (p := ⟨b', o' + j * 4 + 1, none⟩) hlo').trans c1'
        have j2 := (hbw.cell (p := ⟨b', o' + j * 4 + 2, none⟩) hlo').trans c2'
        have j3 := (hbw.cell (p := ⟨b', o' + j * 4 + 3, none⟩) hlo').trans c3'
        have C1 : ∀ w1, Below wr.heap.size wr w1 → _ := fun w1 hb1 =>
          have hb2 := hbw.trans (hb1.mono hbw.size)
          sa_all _ ss kids (Nat.le_refl _) ss' kids' kk nn kk' nn' A1 A2 cp cp' lo hi lo' hi' w1 (hkid.below hb2 HHI.out) (hkid'.below hb2 HHI'.out) (Nat.le_trans HHI.out hb2.size) (Nat.le_trans HHI'.out hb2.size)
        rw [hd, hd', eqF_cons] at hev
        generalize eqT kk nn ss kids kk' nn' ss' kids' = v at *
        have HEV := Lib.hid hev
        have H2 := Lib.hid C1
        have HBR := Lib.hid hb
        have HBW := Lib.hid hbw
        have HLB : Hid (b < wr.heap.size) := Lib.hid (Nat.lt_of_lt_of_le hlo hbw.size)
        have HLB' : Hid (b' < wr.heap.size) := Lib.hid (Nat.lt_of_lt_of_le hlo' hbw.size)
        clear C1 hev hb hbw hq0 hq1 c0 c1 c2 c3 c0' c1' c2' c3' hkid hkid' hrow hrow' hd hd' hfit hfit' hlo hlo'
        generalize kids.len = kl at *
        generalize kids'.len = kl' at *
        have hl0 : w.heap.size < wr.heap.size := Nat.lt_of_lt_of_le HP0.out.lt HBR.out.size
        have hl1 : w.heap.size + 1 < wr.heap.size := Nat.lt_of_lt_of_le HP1.out.lt HBR.out.size
        have hl2 : b < wr.heap.size := HLB.out
        have hl3 : b' < wr.heap.size := HLB'.out
        have hsc : ∀ x, Below wr.heap.size wr x → (x.cell? ⟨w.heap.size, 0, none⟩ = some (.slice (some ⟨b, o, none⟩) gl capB) ∧ x.cell? ⟨w.heap.size + 1, 0, none⟩ = some (.slice (some ⟨b', o', none⟩) gl capB') ∧ x.cell? ⟨b, o + j * 4, none⟩ = some (.int .i64 kk) ∧ x.cell? ⟨b, o + j * 4 + 1, none⟩ = some (.int .i64 nn) ∧ x.cell? ⟨b, o + j * 4 + 2, none⟩ = some (.string ss) ∧ x.cell? ⟨b, o + j * 4 + 3, none⟩ = some (.slice A1 kl cp) ∧
          x.cell? ⟨b', o' + j * 4, none⟩ = some (.int .i64 kk') ∧ x.cell? ⟨b', o' + j * 4 + 1, none⟩ = some (.int .i64 nn') ∧ x.cell? ⟨b', o' + j * 4 + 2, none⟩ = some (.string ss') ∧ x.cell? ⟨b', o' + j * 4 + 3, none⟩ = some (.slice A2 kl' cp')) := fun x hb =>
          ⟨(hb.cell (p := ⟨w.heap.size, 0, none⟩) hl0).trans x4, (hb.cell (p := ⟨w.heap.size + 1, 0, none⟩) hl1).trans y4, (hb.cell (p := ⟨b, o + j * 4, none⟩) hl2).trans k0, (hb.cell (p := ⟨b, o + j * 4 + 1, none⟩) hl2).trans k1, (hb.cell (p := ⟨b, o + j * 4 + 2, none⟩) hl2).trans k2, (hb.cell (p := ⟨b, o + j * 4 + 3, none⟩) hl2).trans k3,
            (hb.cell (p := ⟨b', o' + j * 4, none⟩) hl3).trans j0, (hb.cell (p := ⟨b', o' + j * 4 + 1, none⟩) hl3).trans j1, (hb.cell (p := ⟨b', o' + j * 4 + 2, none⟩) hl3).trans j2, (hb.cell (p := ⟨b', o' + j * 4 + 3, none⟩) hl3).trans j3⟩
        have HSC := Lib.hid hsc
        clear hsc hl0 hl1 hl2 hl3
        cases v
        · have HV : Hid (eqF g g' = false) := Lib.hid (by rw [← HEV.out]; rfl)
          go_wp2_with fail
          go_region_held3 (fun x => x.cell? ⟨w.heap.size, 0, none⟩ = some (.slice (some ⟨b, o, none⟩) gl capB) ∧ x.cell? ⟨w.heap.size + 1, 0, none⟩ = some (.slice (some ⟨b', o', none⟩) gl capB') ∧ x.cell? ⟨b, o + j * 4, none⟩ = some (.int .i64 kk) ∧ x.cell? ⟨b, o + j * 4 + 1, none⟩ = some (.int .i64 nn) ∧ x.cell? ⟨b, o + j * 4 + 2, none⟩ = some (.string ss) ∧ x.cell? ⟨b, o + j * 4 + 3, none⟩ = some (.slice A1 kl cp) ∧
          x.cell? ⟨b', o' + j * 4, none⟩ = some (.int .i64 kk') ∧ x.cell? ⟨b', o' + j * 4 + 1, none⟩ = some (.int .i64 nn') ∧ x.cell? ⟨b', o' + j * 4 + 2, none⟩ = some (.string ss') ∧ x.cell? ⟨b', o' + j * 4 + 3, none⟩ = some (.slice A2 kl' cp'))
            (first | exact HSC.out _ HX3.out | exact HSC.out _ (Below.refl _ _) | exact HSC.out _ (Below.refl _ _).drew)
            (first
              | (go_at_call 10
                 refine (H2.out _ (Below.refl wr.heap.size wr).drew).mono ?_
                 rintro e w3 ⟨rfl, hb3⟩
                 have HX3 : Hid (Below wr.heap.size wr w3) := Lib.hid ((Below.refl wr.heap.size wr).drew.trans hb3)
                 clear hb3)
              | fail)
          go_wp2_with fail
          go_ret
          rw [HV.out]; exact ⟨rfl, HBW.out.trans (HX3.out.mono HBW.out.size)⟩
        · have HV : Hid (eqF (g.drop (j + 1)) (g'.drop (j + 1)) = eqF g g') := Lib.hid (by rw [← HEV.out]; rfl)
          go_wp2_with fail
          go_region_held3 (fun x => x.cell? ⟨w.heap.size, 0, none⟩ = some (.slice (some ⟨b, o, none⟩) gl capB) ∧ x.cell? ⟨w.heap.size + 1, 0, none⟩ = some (.slice (some ⟨b', o', none⟩) gl capB') ∧ x.cell? ⟨b, o + j * 4, none⟩ = some (.int .i64 kk) ∧ x.cell? ⟨b, o + j * 4 + 1, none⟩ = some (.int .i64 nn) ∧ x.cell? ⟨b, o + j * 4 + 2, none⟩ = some (.string ss) ∧ x.cell? ⟨b, o + j * 4 + 3, none⟩ = some (.slice A1 kl cp) ∧
          x.cell? ⟨b', o' + j * 4, none⟩ = some (.int .i64 kk') ∧ x.cell? ⟨b', o' + j * 4 + 1, none⟩ = some (.int .i64 nn') ∧ x.cell? ⟨b', o' + j * 4 + 2, none⟩ = some (.string ss') ∧ x.cell? ⟨b', o' + j * 4 + 3, none⟩ = some (.slice A2 kl' cp'))
            (first | exact HSC.out _ HX3.out | exact HSC.out _ (Below.refl _ _) | exact HSC.out _ (Below.refl _ _).drew)
            (first
              | (go_at_call 10
                 refine (H2.out _ (Below.refl wr.heap.size wr).drew).mono ?_
                 rintro e w3 ⟨rfl, hb3⟩
                 have HX3 : Hid (Below wr.heap.size wr w3) := Lib.hid ((Below.refl wr.heap.size wr).drew.trans hb3)
                 clear hb3)
              | fail)
          go_wp2_with fail
          go_roundw
          case rel => exact ⟨j + 1, by omega, by go_num, HV.out, HBR.out.trans (HX3.out.mono HBR.out.size)⟩
          case measure => simp [intOf]; omega
      · obtain rfl : j = gl := by omega
        have HV : Hid (eqF g g' = true) := Lib.hid (by
          have e1 := Fr.drop_len g
          have e2 := Fr.drop_len g'
          rw [HN.out] at e1
          rw [HN'.out] at e2
          rw [← hev, e1, e2]; rfl)
        have HBW := Lib.hid hbw
        clear hb hbw hq0 hq1 hev
        go_wp2_with fail
        go_ret
        rw [HV.out]; exact ⟨rfl, HBW.out⟩
  · have t0 : ((gl : Int) != (gl' : Int)) = true := by simp; omega
    have HV : Hid (eqF g g' = false) := Lib.hid (by
      rw [← Bool.not_eq_true]
      intro h
      have := eqF_len g g' h
      rw [HN.out, HN'.out] at this
      exact hlen this)
    clear hlen
    go_enter Try.func5, Try.ntmps5
    go_wp2_with fail
    go_ret
    rw [HV.out]; exact ⟨rfl, HB.out⟩
end Go.Proofs.Ytejflpmecpmhkaa
