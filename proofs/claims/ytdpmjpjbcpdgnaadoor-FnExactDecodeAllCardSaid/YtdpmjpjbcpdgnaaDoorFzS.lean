/- spec.l11Next. Condition: the bytes lie in memory. -/
import Derived.Test.YtdpmjpjbcpdgnaaDoorProg
import Derived.Test.YtdpmjpjbcpdgnaaDoorFzK
namespace Go.Proofs.YtdpmjpjbcpdgnaaDoor
open Go.RowKit

/-- 's[lo:hi]', with its address. -/
theorem sb_lh2 (b o len cap lo hi : Nat) (h1 : lo ≤ hi) (h2 : hi ≤ cap) : ∃ o' : Nat, (∀ w, (Instr.sliceAt 22 (.slice (some ⟨b, o, none⟩) len cap) (some (.int .i64 (lo : Int))) (some (.int .i64 (hi : Int))) none).run Tryd.prog w = .ok (.slice (some ⟨b, o', none⟩) (hi - lo) (cap - lo)) w) ∧
    (∀ w, (Instr.slice 22 (.slice (some ⟨b, o, none⟩) len cap) (some (.int .i64 (lo : Int))) (some (.int .i64 (hi : Int))) none).run Tryd.prog w = .ok (.slice (some ⟨b, o', none⟩) (hi - lo) (cap - lo)) w) ∧ (lo < hi → o' = o + lo) := by
  have k : ∀ w, (Instr.slice 22 (.slice (some ⟨b, o, none⟩) len cap) (some (.int .i64 (lo : Int))) (some (.int .i64 (hi : Int))) none).run Tryd.prog w = .ok (.slice (some ⟨b, if cap = lo then o else o + lo, none⟩) (hi - lo) (cap - lo)) w := fun w => by
    rw [run_slice_lh w _ _ _ _ u8_u .i64 .i64 (lo : Int) (hi : Int) (by omega) (by omega) (by omega), u8_s]
    simp only [Result.andThen_ok, sliced, Int.toNat_natCast, Nat.mul_one]
    have ha : (⟨b, o, none⟩ : Addr).add lo = ⟨b, o + lo, none⟩ := by unfold Addr.add; split <;> simp_all
    by_cases hc : cap = lo <;> simp [ha, hc]
  refine ⟨_, fun w => ?_, k, fun h => if_neg (by omega)⟩
  rw [run_sliceAt_slice w _ _ _ _ _ u8_u]
  exact k w
theorem conv_part {w : World} {b o o' cap lo hi : Nat} {l : List UInt8} (h1 : lo ≤ hi) (h2 : hi ≤ l.length) (ho : lo < hi → o' = o + lo) (hc : ∀ i, i < l.length → w.cell? ⟨b, o + i, none⟩ = some (.int .u8 ((l.getD i 0).toNat : Int))) :
    (convert 22 9 (.slice (some ⟨b, o', none⟩) (hi - lo) cap)).run Tryd.prog w = .ok (.string ⟨((l.take hi).drop lo).toArray⟩) w := by
  have hl : ((l.take hi).drop lo).length = hi - lo := by rw [List.length_drop, List.length_take]; omega
  have h := run_convert_bytes_back (P := Tryd.prog) w 22 9 5 ⟨b, o', none⟩ cap ((l.take hi).drop lo) Tryd.underlying22 Tryd.underlying5 Tryd.underlying9 (fun j hj => by
    rw [hl] at hj
    have hadd : (⟨b, o', none⟩ : Addr).add j = ⟨b, o + (lo + j), none⟩ := by
      rw [ho (by omega)]
      unfold Addr.add; split <;> simp_all [Nat.add_assoc]
    rw [hadd, hc (lo + j) (by omega)]
    simp only [List.getD, List.getElem?_eq_getElem (show lo + j < l.length by omega), Option.getD_some, List.getElem_drop, List.getElem_take])
  rw [hl] at h
  exact h

/-- What l11Next answers. -/
def nxV : fz.Nx → Value
  | .need => .tuple #[.agg #[.int .i64 0, .string ⟨#[]⟩], .int .i64 0]
  | .bad => .tuple #[.agg #[.int .i64 0, .string ⟨#[]⟩], .int .i64 (-1)]
  | .got f n => .tuple #[.agg #[.int .i64 f.t, .string f.s], .int .i64 (n : Int)]

set_option maxRecDepth 100000 in
set_option maxHeartbeats 4000000 in
/-- spec.l11Next. -/
theorem next_any (A : Option Addr) (cap : Nat) (l : List UInt8) (w : World) (ha : AtU w w.heap.size A l) (hc : l.length ≤ cap) (hm : cap ≤ maxLen) (hz : l.length ≤ 1000000000) :
    Calls Tryd.prog 60 #[.slice A l.length cap] w fun e w' => e = .returned (nxV (fz.nx l)) ∧ Below w.heap.size w w' := by
  have hq0 := Blk.new w 28 #[.int .i64 0, .string ⟨#[]⟩]
  have hb0 := (Below.refl w.heap.size w).alloc (Nat.le_refl _) (.cells #[.int .i64 0, .string ⟨#[]⟩] 28)
  have HQ0 := Lib.hid hq0
  have HB0 := Lib.hid hb0
  have hcm : cap ≤ 9223372036854775807 := hm
  have res : ∀ (w2 : World) (a b c : Value) (tmps : Array Value), Blk w2 w.heap.size 28 #[a, b] → tmps.getD 2 undef = .pointer (some ⟨w.heap.size, 0, none⟩) → tmps.getD 3 undef = c → (results Tryd.f60 tmps).run Tryd.prog w2 = .ok (.tuple #[.agg #[a, b], c]) w2 := fun w2 a b c tmps h1 h2 h3 => by
    rw [← h3]
    exact results_cell2b Tryd.results60 tmps w2 w.heap.size _ _ _ h2 h1 Tryd.underlying28 rfl (by kernel_rfl)
  have HRES := Lib.hid res
  clear res hm
  rcases fz.nx_cases l with ⟨hn, h2⟩ | ⟨hn, h2, hbad⟩ | ⟨hn, h2, h1, h3, hp⟩ | ⟨hn, h2, h1, h3, hp, hok⟩ | ⟨hn, h2, h1, h3, hp, hok⟩
  · have HN := Lib.hid hn
    have t0 : (l.length : Int) < 2 := by omega
    clear hn h2 ha
    generalize l.length = len at *
    go_enter Tryd.func60, Tryd.ntmps60
    go_wp2_with fail
    rw [HN.out]
    refine bodyPost_ret (v := nxV (.need)) (HRES.out _ _ _ _ _ (by first | exact setc2 HQ0.out _ _ | exact HQ0.out) rfl rfl) rfl ⟨rfl, by first | exact (HB0.out.setCell (by simp) _).setCell (by simp) _ | exact HB0.out⟩
  · by_cases hlow : fz.lenOf l < 1
    · have HN := Lib.hid hn
      obtain ⟨b, o, rfl, hb, hcell⟩ := ha (by omega)
      have t0 : ¬ (l.length : Int) < 2 := by omega
      have c0 := (HB0.out.cell (p := ⟨b, o + 0, none⟩) hb).trans (hcell 0 (by omega))
      have c1 := (HB0.out.cell (p := ⟨b, o + 1, none⟩) hb).trans (hcell 1 (by omega))
      rw [Nat.add_zero] at c0
      have x0 := (l.getD 0 0).toNat_lt
      have x1 := (l.getD 1 0).toNat_lt
      have hL : fz.lenOf l = (l.getD 0 0).toNat * 256 + (l.getD 1 0).toNat := rfl
      have i0 : (0 : Int) < (l.length : Int) := by omega
      have i1 : (1 : Int) < (l.length : Int) := by omega
      generalize (l.getD 0 0).toNat = a at *
      generalize (l.getD 1 0).toNat = d at *
      generalize fz.lenOf l = n at *
      have q1 : IntKind.i64.wrap ((a : Int) * 256) = (a : Int) * 256 := IntWalk.i64_in _ (by omega)
      have q2 : IntKind.i64.wrap ((a : Int) * 256 + (d : Int)) = (n : Int) := by rw [show (a : Int) * 256 + (d : Int) = (n : Int) by omega]; exact IntWalk.i64_in _ (by omega)
      have q3 : (a : Int) * 256 + (d : Int) = (n : Int) := by omega
      have t1 : (n : Int) < 1 := by omega
      clear hbad hlow
      clear hn hcell hL
      generalize l.length = len at *
      go_enter Tryd.func60, Tryd.ntmps60
      go_wp2_with fail
      go_quiet (fail)
      clear q1 q2 q3
      have HQD := Lib.hid (HQ0.out.below (bl_d _ nq) HQ0.out.lt)
      have HBD := Lib.hid (bl_dn HB0.out nq)
      go_wp2_with fail
      rw [HN.out]
      refine bodyPost_ret (v := nxV (.bad)) (HRES.out _ _ _ _ _ (by first | exact setc2 HQD.out _ _ | exact HQD.out) rfl rfl) rfl ⟨rfl, by first | exact (HBD.out.setCell (by simp) _).setCell (by simp) _ | exact HBD.out⟩
    · have HN := Lib.hid hn
      obtain ⟨b, o, rfl, hb, hcell⟩ := ha (by omega)
      have t0 : ¬ (l.length : Int) < 2 := by omega
      have c0 := (HB0.out.cell (p := ⟨b, o + 0, none⟩) hb).trans (hcell 0 (by omega))
      have c1 := (HB0.out.cell (p := ⟨b, o + 1, none⟩) hb).trans (hcell 1 (by omega))
      rw [Nat.add_zero] at c0
      have x0 := (l.getD 0 0).toNat_lt
      have x1 := (l.getD 1 0).toNat_lt
      have hL : fz.lenOf l = (l.getD 0 0).toNat * 256 + (l.getD 1 0).toNat := rfl
      have i0 : (0 : Int) < (l.length : Int) := by omega
      have i1 : (1 : Int) < (l.length : Int) := by omega
      generalize (l.getD 0 0).toNat = a at *
      generalize (l.getD 1 0).toNat = d at *
      generalize fz.lenOf l = n at *
      have q1 : IntKind.i64.wrap ((a : Int) * 256) = (a : Int) * 256 := IntWalk.i64_in _ (by omega)
      have q2 : IntKind.i64.wrap ((a : Int) * 256 + (d : Int)) = (n : Int) := by rw [show (a : Int) * 256 + (d : Int) = (n : Int) by omega]; exact IntWalk.i64_in _ (by omega)
      have q3 : (a : Int) * 256 + (d : Int) = (n : Int) := by omega
      have t1 : ¬ (n : Int) < 1 := by omega
      have t2 : (2001 : Int) < (n : Int) := by omega
      clear hbad hlow
      clear hn hcell hL
      generalize l.length = len at *
      go_enter Tryd.func60, Tryd.ntmps60
      go_wp2_with fail
      go_quiet (fail)
      clear q1 q2 q3
      have HQD := Lib.hid (HQ0.out.below (bl_d _ nq) HQ0.out.lt)
      have HBD := Lib.hid (bl_dn HB0.out nq)
      go_wp2_with fail
      rw [HN.out]
      refine bodyPost_ret (v := nxV (.bad)) (HRES.out _ _ _ _ _ (by first | exact setc2 HQD.out _ _ | exact HQD.out) rfl rfl) rfl ⟨rfl, by first | exact (HBD.out.setCell (by simp) _).setCell (by simp) _ | exact HBD.out⟩
  · have HN := Lib.hid hn
    obtain ⟨b, o, rfl, hb, hcell⟩ := ha (by omega)
    have t0 : ¬ (l.length : Int) < 2 := by omega
    have c0 := (HB0.out.cell (p := ⟨b, o + 0, none⟩) hb).trans (hcell 0 (by omega))
    have c1 := (HB0.out.cell (p := ⟨b, o + 1, none⟩) hb).trans (hcell 1 (by omega))
    rw [Nat.add_zero] at c0
    have x0 := (l.getD 0 0).toNat_lt
    have x1 := (l.getD 1 0).toNat_lt
    have hL : fz.lenOf l = (l.getD 0 0).toNat * 256 + (l.getD 1 0).toNat := rfl
    have i0 : (0 : Int) < (l.length : Int) := by omega
    have i1 : (1 : Int) < (l.length : Int) := by omega
    generalize (l.getD 0 0).toNat = a at *
    generalize (l.getD 1 0).toNat = d at *
    generalize fz.lenOf l = n at *
    have q1 : IntKind.i64.wrap ((a : Int) * 256) = (a : Int) * 256 := IntWalk.i64_in _ (by omega)
    have q2 : IntKind.i64.wrap ((a : Int) * 256 + (d : Int)) = (n : Int) := by rw [show (a : Int) * 256 + (d : Int) = (n : Int) by omega]; exact IntWalk.i64_in _ (by omega)
    have q3 : (a : Int) * 256 + (d : Int) = (n : Int) := by omega
    have t1 : ¬ (n : Int) < 1 := by omega
    have t2 : ¬ (2001 : Int) < (n : Int) := by omega
    have t3 : (l.length : Int) < (2 : Int) + (n : Int) := by omega
    have t4 : (n : Int) ≤ 2001 := by omega
    clear hn hcell hL
    generalize l.length = len at *
    go_enter Tryd.func60, Tryd.ntmps60
    go_wp2_with fail
    go_quiet (fail)
    clear q1 q2 q3
    have HQD := Lib.hid (HQ0.out.below (bl_d _ nq) HQ0.out.lt)
    have HBD := Lib.hid (bl_dn HB0.out nq)
    go_wp2_with fail
    rw [HN.out]
    refine bodyPost_ret (v := nxV (.need)) (HRES.out _ _ _ _ _ (by first | exact setc2 HQD.out _ _ | exact HQD.out) rfl rfl) rfl ⟨rfl, by first | exact (HBD.out.setCell (by simp) _).setCell (by simp) _ | exact HBD.out⟩
  · have HN := Lib.hid hn
    obtain ⟨b, o, rfl, hb, hcell⟩ := ha (by omega)
    have t0 : ¬ (l.length : Int) < 2 := by omega
    have c0 := (HB0.out.cell (p := ⟨b, o + 0, none⟩) hb).trans (hcell 0 (by omega))
    have c1 := (HB0.out.cell (p := ⟨b, o + 1, none⟩) hb).trans (hcell 1 (by omega))
    rw [Nat.add_zero] at c0
    have x0 := (l.getD 0 0).toNat_lt
    have x1 := (l.getD 1 0).toNat_lt
    have hL : fz.lenOf l = (l.getD 0 0).toNat * 256 + (l.getD 1 0).toNat := rfl
    have i0 : (0 : Int) < (l.length : Int) := by omega
    have i1 : (1 : Int) < (l.length : Int) := by omega
    obtain ⟨A3, ks1, ks2, hA3⟩ := sb_lh2 b o l.length cap 3 (2 + fz.lenOf l) (by omega) (by omega)
    have hconv := fun wd (hd : Below w.heap.size w wd) => conv_part (w := wd) (b := b) (o := o) (o' := A3) (cap := cap - 3) (lo := 3) (hi := 2 + fz.lenOf l) (l := l) (by omega) (by omega) hA3 (fun i hi => (hd.cell (p := ⟨b, o + i, none⟩) hb).trans (hcell i hi))
    have hcell2 := fun wd (hd : Below w.heap.size w wd) => (hd.cell (p := ⟨b, o + 2, none⟩) hb).trans (hcell 2 (by omega))
    have hs3 : (⟨((l.take (2 + fz.lenOf l)).drop 3).toArray⟩ : ByteArray).size ≤ maxLen := by
      have : (⟨((l.take (2 + fz.lenOf l)).drop 3).toArray⟩ : ByteArray).size = ((l.take (2 + fz.lenOf l)).drop 3).length := by simp [ByteArray.size]
      rw [this, List.length_drop, List.length_take]; unfold maxLen; omega
    have CV := fun w => specFV_any ((l.getD 2 0).toNat : Int) ⟨((l.take (2 + fz.lenOf l)).drop 3).toArray⟩ w hs3
    have hfr : fz.frA l (fz.lenOf l) = ⟨((l.getD 2 0).toNat : Int), ⟨((l.take (2 + fz.lenOf l)).drop 3).toArray⟩⟩ := rfl
    have HHF := Lib.hid hfr
    rw [hfr] at hok
    rw [hok] at CV
    have HCV := Lib.hid CV
    have HKC := Lib.hid hconv
    have HKD := Lib.hid hcell2
    have y0 : (0 : Int) ≤ ((l.getD 2 0).toNat : Int) := by omega
    have y1 : ((l.getD 2 0).toNat : Int) ≤ 255 := by have := (l.getD 2 0).toNat_lt; omega
    have elen : 2 + fz.lenOf l - 3 = fz.lenOf l - 1 := by omega
    rw [elen] at HKC ks1 ks2
    clear hA3 hconv hcell2 hs3 hok CV hfr elen
    generalize (⟨((l.take (2 + fz.lenOf l)).drop 3).toArray⟩ : ByteArray) = s at *
    generalize ((l.getD 2 0).toNat : Int) = t at *
    generalize (l.getD 0 0).toNat = a at *
    generalize (l.getD 1 0).toNat = d at *
    generalize fz.lenOf l = n at *
    have q1 : IntKind.i64.wrap ((a : Int) * 256) = (a : Int) * 256 := IntWalk.i64_in _ (by omega)
    have q2 : IntKind.i64.wrap ((a : Int) * 256 + (d : Int)) = (n : Int) := by rw [show (a : Int) * 256 + (d : Int) = (n : Int) by omega]; exact IntWalk.i64_in _ (by omega)
    have q3 : (a : Int) * 256 + (d : Int) = (n : Int) := by omega
    have t1 : ¬ (n : Int) < 1 := by omega
    have t2 : ¬ (2001 : Int) < (n : Int) := by omega
    have t3 : ¬ (l.length : Int) < (2 : Int) + (n : Int) := by omega
    have t4 : (n : Int) ≤ 2001 := by omega
    have i2 : (2 : Int) < (l.length : Int) := by omega
    have en : ((2 + n : Nat) : Int) = (2 : Int) + (n : Int) := by omega
    rw [en] at ks1 ks2
    have ks3 : ∀ w, (Instr.sliceAt 22 (.slice (some ⟨b, o, none⟩) l.length cap) (some (.int .i64 3)) (some (.int .i64 ((2 : Int) + (n : Int)))) none).run Tryd.prog w = .ok (.slice (some ⟨b, A3, none⟩) (n - 1) (cap - 3)) w := ks1
    have ks4 : ∀ w, (Instr.slice 22 (.slice (some ⟨b, o, none⟩) l.length cap) (some (.int .i64 3)) (some (.int .i64 ((2 : Int) + (n : Int)))) none).run Tryd.prog w = .ok (.slice (some ⟨b, A3, none⟩) (n - 1) (cap - 3)) w := ks2
    clear ks1 ks2 en
    clear hn hcell hL
    generalize l.length = len at *
    go_enter Tryd.func60, Tryd.ntmps60
    go_wp2_with fail
    go_quiet (fail)
    clear q1 q2 q3
    have HQD := Lib.hid (HQ0.out.below (bl_d _ nq) HQ0.out.lt)
    have HBD := Lib.hid (bl_dn HB0.out nq)
    go_wp2_with fail
    have hb1 : b < ((w.alloc (.cells #[.int .i64 0, .string ⟨#[]⟩] 28)).drewN nq).heap.size := Nat.lt_of_lt_of_le hb HBD.out.size
    generalize ((w.alloc (.cells #[.int .i64 0, .string ⟨#[]⟩] 28)).drewN nq) = w1 at *
    go_cut [5] (fun u wx => ∃ H : Nat, u = .pointer (some ⟨H, 0, none⟩) ∧ Blk wx H 28 #[.int .i64 t, .string s] ∧ Below w1.heap.size w1 wx)
    case first =>
      have kc1 := HKC.out w1.drew HBD.out.drew
      have kc2 : ∀ ob, (convert 22 9 (.slice (some ⟨b, A3, none⟩) (n - 1) (cap - 3))).run Tryd.prog (w1.alloc ob).drew = .ok (.string s) (w1.alloc ob).drew := fun ob => HKC.out _ ((HBD.out.alloc HBD.out.size ob).drew)
      have kd1 := HKD.out w1.drew HBD.out.drew
      have kd2 : ∀ ob, (w1.alloc ob).drew.cell? ⟨b, o + 2, none⟩ = some (.int .u8 t) := fun ob => HKD.out _ ((HBD.out.alloc HBD.out.size ob).drew)
      have q4 : IntKind.i64.wrap ((2 : Int) + (n : Int)) = (2 : Int) + (n : Int) := IntWalk.i64_in _ (by omega)
      go_region
      all_goals
        go_wp2_with fail
        go_meet
      all_goals exact ⟨_, rfl, (box_new w1 _ _).1, (box_new w1 _ _).2⟩
    case rest =>
    obtain ⟨H, rfl, bq, hb2⟩ := hcut
    generalize wc = w2 at *
    have p0' : w2.cell? ⟨H, 0, none⟩ = some (.int .i64 t) := bq.cell 0
    have p1' : w2.cell? ⟨H, 1, none⟩ = some (.string s) := bq.cell 1
    have HH := Lib.hid bq.lt
    have HB2 := Lib.hid (HBD.out.trans (hb2.mono HBD.out.size))
    have HQ2 := Lib.hid (HQD.out.below hb2 HQD.out.lt)
    clear bq hb2
    go_wp2_with fail
    refine (HCV.out _).mono ?_
    rintro e w3 ⟨rfl, hb3⟩
    have HB3 := Lib.hid (HB2.out.trans (hb3.mono HB2.out.size))
    have hq3 := HQ2.out.below hb3 HQ2.out.lt
    have r0 : w3.cell? ⟨H, 0, none⟩ = some (.int .i64 t) := (hb3.cell (p := ⟨H, 0, none⟩) HH.out).trans p0'
    have r1 : w3.cell? ⟨H, 1, none⟩ = some (.string s) := (hb3.cell (p := ⟨H, 1, none⟩) HH.out).trans p1'
    have u0 : w3.cell? ⟨w.heap.size, 0, none⟩ = some (.int .i64 0) := hq3.cell 0
    have u1 : w3.cell? ⟨w.heap.size, 1, none⟩ = some (.string ⟨#[]⟩) := hq3.cell 1
    have uf0 := hq3.frozen 0
    have uf1 := hq3.frozen 1
    have HQ3 := Lib.hid hq3
    clear hb3 p0' p1' hq3
    go_wp2_with fail
    rw [HN.out]
    refine bodyPost_ret (v := .tuple #[.agg #[.int .i64 t, .string s], .int .i64 ((2 : Int) + (n : Int))]) (HRES.out _ _ _ _ _ (by first | exact setc2 HQ3.out _ _ | exact HQ3.out) rfl rfl) rfl ⟨?_, by first | exact (HB3.out.setCell (by simp) _).setCell (by simp) _ | exact HB3.out⟩
    rw [HHF.out]
    show Ending.returned _ = Ending.returned (.tuple #[.agg #[.int .i64 t, .string s], .int .i64 ((2 + n : Nat) : Int)])
    have en : ((2 + n : Nat) : Int) = (2 : Int) + (n : Int) := by omega
    rw [en]
  · have HN := Lib.hid hn
    obtain ⟨b, o, rfl, hb, hcell⟩ := ha (by omega)
    have t0 : ¬ (l.length : Int) < 2 := by omega
    have c0 := (HB0.out.cell (p := ⟨b, o + 0, none⟩) hb).trans (hcell 0 (by omega))
    have c1 := (HB0.out.cell (p := ⟨b, o + 1, none⟩) hb).trans (hcell 1 (by omega))
    rw [Nat.add_zero] at c0
    have x0 := (l.getD 0 0).toNat_lt
    have x1 := (l.getD 1 0).toNat_lt
    have hL : fz.lenOf l = (l.getD 0 0).toNat * 256 + (l.getD 1 0).toNat := rfl
    have i0 : (0 : Int) < (l.length : Int) := by omega
    have i1 : (1 : Int) < (l.length : Int) := by omega
    obtain ⟨A3, ks1, ks2, hA3⟩ := sb_lh2 b o l.length cap 3 (2 + fz.lenOf l) (by omega) (by omega)
    have hconv := fun wd (hd : Below w.heap.size w wd) => conv_part (w := wd) (b := b) (o := o) (o' := A3) (cap := cap - 3) (lo := 3) (hi := 2 + fz.lenOf l) (l := l) (by omega) (by omega) hA3 (fun i hi => (hd.cell (p := ⟨b, o + i, none⟩) hb).trans (hcell i hi))
    have hcell2 := fun wd (hd : Below w.heap.size w wd) => (hd.cell (p := ⟨b, o + 2, none⟩) hb).trans (hcell 2 (by omega))
    have hs3 : (⟨((l.take (2 + fz.lenOf l)).drop 3).toArray⟩ : ByteArray).size ≤ maxLen := by
      have : (⟨((l.take (2 + fz.lenOf l)).drop 3).toArray⟩ : ByteArray).size = ((l.take (2 + fz.lenOf l)).drop 3).length := by simp [ByteArray.size]
      rw [this, List.length_drop, List.length_take]; unfold maxLen; omega
    have CV := fun w => specFV_any ((l.getD 2 0).toNat : Int) ⟨((l.take (2 + fz.lenOf l)).drop 3).toArray⟩ w hs3
    have hfr : fz.frA l (fz.lenOf l) = ⟨((l.getD 2 0).toNat : Int), ⟨((l.take (2 + fz.lenOf l)).drop 3).toArray⟩⟩ := rfl
    have HHF := Lib.hid hfr
    rw [hfr] at hok
    rw [hok] at CV
    have HCV := Lib.hid CV
    have HKC := Lib.hid hconv
    have HKD := Lib.hid hcell2
    have y0 : (0 : Int) ≤ ((l.getD 2 0).toNat : Int) := by omega
    have y1 : ((l.getD 2 0).toNat : Int) ≤ 255 := by have := (l.getD 2 0).toNat_lt; omega
    have elen : 2 + fz.lenOf l - 3 = fz.lenOf l - 1 := by omega
    rw [elen] at HKC ks1 ks2
    clear hA3 hconv hcell2 hs3 hok CV hfr elen
    generalize (⟨((l.take (2 + fz.lenOf l)).drop 3).toArray⟩ : ByteArray) = s at *
    generalize ((l.getD 2 0).toNat : Int) = t at *
    generalize (l.getD 0 0).toNat = a at *
    generalize (l.getD 1 0).toNat = d at *
    generalize fz.lenOf l = n at *
    have q1 : IntKind.i64.wrap ((a : Int) * 256) = (a : Int) * 256 := IntWalk.i64_in _ (by omega)
    have q2 : IntKind.i64.wrap ((a : Int) * 256 + (d : Int)) = (n : Int) := by rw [show (a : Int) * 256 + (d : Int) = (n : Int) by omega]; exact IntWalk.i64_in _ (by omega)
    have q3 : (a : Int) * 256 + (d : Int) = (n : Int) := by omega
    have t1 : ¬ (n : Int) < 1 := by omega
    have t2 : ¬ (2001 : Int) < (n : Int) := by omega
    have t3 : ¬ (l.length : Int) < (2 : Int) + (n : Int) := by omega
    have t4 : (n : Int) ≤ 2001 := by omega
    have i2 : (2 : Int) < (l.length : Int) := by omega
    have en : ((2 + n : Nat) : Int) = (2 : Int) + (n : Int) := by omega
    rw [en] at ks1 ks2
    have ks3 : ∀ w, (Instr.sliceAt 22 (.slice (some ⟨b, o, none⟩) l.length cap) (some (.int .i64 3)) (some (.int .i64 ((2 : Int) + (n : Int)))) none).run Tryd.prog w = .ok (.slice (some ⟨b, A3, none⟩) (n - 1) (cap - 3)) w := ks1
    have ks4 : ∀ w, (Instr.slice 22 (.slice (some ⟨b, o, none⟩) l.length cap) (some (.int .i64 3)) (some (.int .i64 ((2 : Int) + (n : Int)))) none).run Tryd.prog w = .ok (.slice (some ⟨b, A3, none⟩) (n - 1) (cap - 3)) w := ks2
    clear ks1 ks2 en
    clear hn hcell hL
    generalize l.length = len at *
    go_enter Tryd.func60, Tryd.ntmps60
    go_wp2_with fail
    go_quiet (fail)
    clear q1 q2 q3
    have HQD := Lib.hid (HQ0.out.below (bl_d _ nq) HQ0.out.lt)
    have HBD := Lib.hid (bl_dn HB0.out nq)
    go_wp2_with fail
    have hb1 : b < ((w.alloc (.cells #[.int .i64 0, .string ⟨#[]⟩] 28)).drewN nq).heap.size := Nat.lt_of_lt_of_le hb HBD.out.size
    generalize ((w.alloc (.cells #[.int .i64 0, .string ⟨#[]⟩] 28)).drewN nq) = w1 at *
    go_cut [5] (fun u wx => ∃ H : Nat, u = .pointer (some ⟨H, 0, none⟩) ∧ Blk wx H 28 #[.int .i64 t, .string s] ∧ Below w1.heap.size w1 wx)
    case first =>
      have kc1 := HKC.out w1.drew HBD.out.drew
      have kc2 : ∀ ob, (convert 22 9 (.slice (some ⟨b, A3, none⟩) (n - 1) (cap - 3))).run Tryd.prog (w1.alloc ob).drew = .ok (.string s) (w1.alloc ob).drew := fun ob => HKC.out _ ((HBD.out.alloc HBD.out.size ob).drew)
      have kd1 := HKD.out w1.drew HBD.out.drew
      have kd2 : ∀ ob, (w1.alloc ob).drew.cell? ⟨b, o + 2, none⟩ = some (.int .u8 t) := fun ob => HKD.out _ ((HBD.out.alloc HBD.out.size ob).drew)
      have q4 : IntKind.i64.wrap ((2 : Int) + (n : Int)) = (2 : Int) + (n : Int) := IntWalk.i64_in _ (by omega)
      go_region
      all_goals
        go_wp2_with fail
        go_meet
      all_goals exact ⟨_, rfl, (box_new w1 _ _).1, (box_new w1 _ _).2⟩
    case rest =>
    obtain ⟨H, rfl, bq, hb2⟩ := hcut
    generalize wc = w2 at *
    have p0' : w2.cell? ⟨H, 0, none⟩ = some (.int .i64 t) := bq.cell 0
    have p1' : w2.cell? ⟨H, 1, none⟩ = some (.string s) := bq.cell 1
    have HH := Lib.hid bq.lt
    have HB2 := Lib.hid (HBD.out.trans (hb2.mono HBD.out.size))
    have HQ2 := Lib.hid (HQD.out.below hb2 HQD.out.lt)
    clear bq hb2
    go_wp2_with fail
    refine (HCV.out _).mono ?_
    rintro e w3 ⟨rfl, hb3⟩
    have HB3 := Lib.hid (HB2.out.trans (hb3.mono HB2.out.size))
    have hq3 := HQ2.out.below hb3 HQ2.out.lt
    have r0 : w3.cell? ⟨H, 0, none⟩ = some (.int .i64 t) := (hb3.cell (p := ⟨H, 0, none⟩) HH.out).trans p0'
    have r1 : w3.cell? ⟨H, 1, none⟩ = some (.string s) := (hb3.cell (p := ⟨H, 1, none⟩) HH.out).trans p1'
    have u0 : w3.cell? ⟨w.heap.size, 0, none⟩ = some (.int .i64 0) := hq3.cell 0
    have u1 : w3.cell? ⟨w.heap.size, 1, none⟩ = some (.string ⟨#[]⟩) := hq3.cell 1
    have uf0 := hq3.frozen 0
    have uf1 := hq3.frozen 1
    have HQ3 := Lib.hid hq3
    clear hb3 p0' p1' hq3
    go_wp2_with fail
    rw [HN.out]
    refine bodyPost_ret (v := nxV (.bad)) (HRES.out _ _ _ _ _ (by first | exact setc2 HQ3.out _ _ | exact HQ3.out) rfl rfl) rfl ⟨rfl, by first | exact (HB3.out.setCell (by simp) _).setCell (by simp) _ | exact HB3.out⟩
end Go.Proofs.YtdpmjpjbcpdgnaaDoor
