/- The model's Candidates: spec.l7Candidates, Candidates. Condition: the clauses and the goal lie in memory. -/
import Derived.Test.YtlapdnllncoomaaDoorProg
import Derived.Test.YtlapdnllncoomaaDoorZmDE49
import Derived.Test.YtlapdnllncoomaaDoorGoS
namespace Go.Proofs.YtlapdnllncoomaaDoor
open Go.RowKit

theorem fitB_of {cs : List Cl} {jz : Nat} {cz : Cl} (key : List UInt8) (h : cs[jz]? = some cz) : fitB cs key (jz : Int) = kfL (keyF cz.kids) key := by
  unfold fitB
  rw [kdAt_of h]
set_option maxRecDepth 100000 in
set_option maxHeartbeats 8000000 in
/-- spec.l7Candidates. -/
theorem l7cand_any (cs : List Cl) (A : Option Addr) (cap lo hi : Nat) (k n : Int) (s : ByteArray) (f : Fr) (B : Option Addr) (capB lo' hi' : Nat) (w : World) (hk : ClS w lo hi cs A cap) (hh : hi ≤ w.heap.size) (hl : cs.length ≤ 1048576)
    (hkb : KidsAt w lo' hi' f B capB) (hh' : hi' ≤ w.heap.size) (hs : shapeF f 29 = true) (hcs : ∀ c ∈ cs, shapeF c.kids 29 = true) :
    Calls Tryd.prog 41 #[.slice A cs.length cap, .agg #[.int .i64 k, .int .i64 n, .string s, .slice B f.len capB]] w fun e w' => ∃ v, e = .returned v ∧ OwnI w' w.heap.size v (cdF cs s f.len (keyF f)) ∧ Below w.heap.size w w' := by
  have hb0 : Below w.heap.size w (w.alloc (.cells #[.int .i64 k, .int .i64 n, .string s, .slice B f.len capB] 29)) := (Below.refl _ _).alloc (Nat.le_refl _) _
  have hb1 := hb0.alloc hb0.size (.cells #[] 3)
  have hq0 := Blk.new w 29 #[.int .i64 k, .int .i64 n, .string s, .slice B f.len capB]
  have hq1 := hq0.alloc (.cells #[] 3)
  have ho1 := OwnI.empty (base := w.heap.size + 1) (w.alloc (.cells #[.int .i64 k, .int .i64 n, .string s, .slice B f.len capB] 29)) (by simp)
  rw [show (w.alloc (.cells #[.int .i64 k, .int .i64 n, .string s, .slice B f.len capB] 29)).heap.size = w.heap.size + 1 by simp] at ho1
  have hsz1 : ((w.alloc (.cells #[.int .i64 k, .int .i64 n, .string s, .slice B f.len capB] 29)).alloc (.cells #[] 3)).heap.size = w.heap.size + 2 := by simp
  have C1 := for_any cs A cap lo hi k n s B f.len capB _ (hk.below hb1 hh) (Nat.le_trans hh hb1.size) hl
  have C2 := fun w1 (hb : Below w.heap.size w w1) => l7Key_any k n s f B capB lo' hi' 29 w1 (hkb.below hb hh') (Nat.le_trans hh' hb.size) hs
  have hlen := forF_len s f.len cs 0
  have H1 := Lib.hid C1
  have H2 := Lib.hid C2
  have HB1 := Lib.hid hb1
  have HQ1 := Lib.hid hq1
  have HO1 := Lib.hid ho1
  have HS1 := Lib.hid hsz1
  have HK := Lib.hid hk
  have HHI := Lib.hid hh
  have HCS := Lib.hid hcs
  have HLEN := Lib.hid hlen
  have HV : Hid (cdF cs s f.len (keyF f) = (forF cs 0 s f.len).filter (fitB cs (keyF f))) := Lib.hid rfl
  clear C1 C2 hb0 hb1 hq0 hq1 ho1 hsz1 hk hh hkb hh' hs hcs hlen
  generalize hn : cs.length = n' at *
  have HN := Lib.hid hn
  clear hn
  generalize hkg : (⟨(keyF f).toArray⟩ : ByteArray) = kg at *
  have HKGV := Lib.hid hkg
  clear hkg
  generalize f.len = fl at *
  obtain ⟨i0, hi0, hz0, hz1, hz2⟩ := info_parts infoIn
  go_enter Tryd.func41, Tryd.ntmps41
  go_wp2_with fail
  generalize ((w.alloc (.cells #[.int .i64 k, .int .i64 n, .string s, .slice B fl capB] 29)).alloc (.cells #[] 3)) = W0 at *
  refine H1.out.mono ?_
  rintro e w2 ⟨vl, rfl, hov, hb⟩
  obtain ⟨Av, cz, rfl, hzc, hzm, _⟩ := hov.read
  have hst : OwnI w2 (w.heap.size + 1) (.slice (some ⟨w.heap.size + 1, 0, none⟩) 0 0) [] ∧ OwnI w2 (w.heap.size + 2) (.slice Av (forF cs 0 s fl).length cz) (forF cs 0 s fl) ∧ (∀ x ∈ ownV (.slice (some ⟨w.heap.size + 1, 0, none⟩) 0 0), x ∉ ownV (.slice Av (forF cs 0 s fl).length cz)) ∧
      Below w.heap.size w w2 ∧ Blk w2 w.heap.size 29 #[.int .i64 k, .int .i64 n, .string s, .slice B fl capB] := by
    refine ⟨HO1.out.below hb, by rw [HS1.out] at hov; exact hov, fun x hx h2 => ?_, HB1.out.trans (hb.mono HB1.out.size), HQ1.out.below hb HQ1.out.lt⟩
    have h3 := (hov.lt x h2).1
    rw [HS1.out] at h3
    simp [ownV, Value.ownBlock] at hx
    omega
  have HST := Lib.hid hst
  clear hov hb hst hzm H1 HB1 HQ1 HO1
  generalize hzs : forF cs 0 s fl = zs at *
  have HZS := Lib.hid hzs
  clear hzs
  generalize hzll : zs.length = zl at *
  have HZL := Lib.hid hzll
  have hz20 : zl ≤ n' := HLEN.out
  clear hzll
  go_wp2_with fail
  go_loopw [5, 7] (fun o i wr => ∃ (m : Nat) (v' : Value), m ≤ zl ∧ i = .int .i64 m ∧ v' = o ∧ OwnI wr (w.heap.size + 1) v' ((zs.take m).filter (fitB cs (keyF f))) ∧ OwnI wr (w.heap.size + 2) (.slice Av zl cz) zs ∧ (∀ x ∈ ownV v', x ∉ ownV (.slice Av zl cz)) ∧ Below w.heap.size w wr ∧ Blk wr w.heap.size 29 #[.int .i64 k, .int .i64 n, .string s, .slice B fl capB]) (fun _ i _ => zl - (intOf i).toNat)
  case atStart => exact ⟨0, _, Nat.zero_le _, rfl, rfl, HST.out⟩
  case round =>
    obtain ⟨m, v', hm, rfl, rfl, hoa, hov, hdj, hbw, hq⟩ := hrel
    by_cases hml : m < zl
    · obtain ⟨z, hz⟩ : ∃ z, zs[m]? = some z := ⟨zs[m]'(by rw [HZL.out]; exact hml), List.getElem?_eq_getElem _⟩
      obtain ⟨jz, czl, hzj, hjl, hcz, hcs1, hcs2⟩ := forF_mem s fl z cs 0 (by rw [HZS.out]; exact List.mem_of_getElem? hz)
      obtain rfl : z = (jz : Int) := by omega
      rw [HN.out] at hjl
      obtain ⟨rest, hdz⟩ := drop_get hcz
      obtain ⟨bb, oo, rfl, hlb, hbb, hrow⟩ := HK.out.2.2 (by rw [HN.out]; omega)
      obtain ⟨hfit, Az, cpz, Bz, cbz, c0, c1, c2, c3, _, hkid, _⟩ := ClAt.elem jz cs bb oo hrow hdz
      obtain ⟨A2, c2', he, _, _, hrd⟩ := hov.read
      obtain ⟨gv, hA2, hov1, hcell⟩ := hrd (by rw [HZL.out]; omega)
      have hkv7 : Av = some ⟨gv, 0, none⟩ ∧ wr.cell? ⟨gv, m, none⟩ = some (.int .i64 (jz : Int)) := by
        injection he with h1 h2 h3
        refine ⟨h1.trans hA2, ?_⟩
        have := (hcell m (by rw [HZL.out]; exact hml)).1
        rw [this]
        simp [List.getD, hz]
      obtain ⟨rfl, kv7⟩ := hkv7
      have hgv : gv < wr.heap.size := (hov.lt gv (by simp [ownV, Value.ownBlock])).2
      have hgv2 : w.heap.size + 2 ≤ gv := (hov.lt gv (by simp [ownV, Value.ownBlock])).1
      have hbl : bb < w.heap.size := Nat.lt_of_lt_of_le hbb HHI.out
      have hqc := hq
      have HKZ := Lib.hid (fun w1 (hb : Below wr.heap.size wr w1) => l7Key_any czl.k czl.n czl.s czl.kids Az cpz lo hi 29 w1 (hkid.below (hbw.trans (hb.mono hbw.size)) HHI.out) (Nat.le_trans HHI.out (Nat.le_trans hbw.size hb.size)) (HCS.out czl (List.mem_of_getElem? hcz)))
      have HKG := Lib.hid (fun w1 (hb : Below wr.heap.size wr w1) => H2.out w1 (hbw.trans (hb.mono hbw.size)))
      have hfv : kfL (⟨(keyF czl.kids).toArray⟩ : ByteArray).data.toList kg.data.toList = fitB cs (keyF f) (jz : Int) := by
        rw [← HKGV.out, fitB_of (keyF f) hcz]
      have HKF := Lib.hid (fun w1 => (specKF_any ⟨(keyF czl.kids).toArray⟩ kg w1).mono fun e w' (h : e = .returned (.bool (kfL (⟨(keyF czl.kids).toArray⟩ : ByteArray).data.toList kg.data.toList)) ∧ w' = w1) => (⟨by rw [h.1, hfv], h.2⟩ : e = .returned (.bool (fitB cs (keyF f) (jz : Int))) ∧ w' = w1))
      clear hfv
      have HSTA : Hid (∀ x, Below wr.heap.size wr x → x.cell? ⟨gv, m, none⟩ = some (.int .i64 (jz : Int)) ∧ x.cell? ⟨bb, oo + jz * 5, none⟩ = some (.int .i64 czl.k) ∧ x.cell? ⟨bb, oo + jz * 5 + 1, none⟩ = some (.int .i64 czl.n) ∧ x.cell? ⟨bb, oo + jz * 5 + 2, none⟩ = some (.string czl.s) ∧ x.cell? ⟨bb, oo + jz * 5 + 3, none⟩ = some (.slice Az czl.kids.len cpz) ∧
          x.cell? ⟨w.heap.size, 0, none⟩ = some (.int .i64 k) ∧ x.cell? ⟨w.heap.size, 1, none⟩ = some (.int .i64 n) ∧ x.cell? ⟨w.heap.size, 2, none⟩ = some (.string s) ∧ x.cell? ⟨w.heap.size, 3, none⟩ = some (.slice B fl capB)) := Lib.hid fun x hb => by
        have hbx := hbw.trans (hb.mono hbw.size)
        have hqx := hqc.below hb hqc.lt
        exact ⟨(hb.cell (p := ⟨gv, m, none⟩) hgv).trans kv7, (hbx.cell (p := ⟨bb, _, none⟩) hbl).trans c0, (hbx.cell (p := ⟨bb, _, none⟩) hbl).trans c1, (hbx.cell (p := ⟨bb, _, none⟩) hbl).trans c2, (hbx.cell (p := ⟨bb, _, none⟩) hbl).trans c3, hqx.cell 0, hqx.cell 1, hqx.cell 2, hqx.cell 3⟩
      have HZM := Lib.hid hz
      have HOA := Lib.hid hoa
      have HOV := Lib.hid hov
      have HDJ := Lib.hid hdj
      have HBW := Lib.hid hbw
      have HQ := Lib.hid hq
      obtain ⟨_, k0, k1, k2, k3, b0, b1, b2, b3⟩ := HSTA.out wr (Below.refl _ _)
      have hwl : w.heap.size < wr.heap.size := hq.lt
      have hbl2 : bb < wr.heap.size := by omega
      have hl2 : oo + jz * 5 + 5 ≤ oo + n' * 5 := by omega
      clear hzj hcz hcs1 hcs2 hdz hlb hrow hfit c0 c1 c2 c3 hkid he hrd hA2 hov1 hcell hz hoa hov hdj hbw hq hqc hgv2 hbb
      obtain ⟨kk1, nn1, ss1, kids1, body1⟩ := czl
      simp only at *
      generalize (⟨(keyF kids1).toArray⟩ : ByteArray) = kz at *
      generalize hfb : fitB cs (keyF f) (jz : Int) = fb at *
      have HFV := Lib.hid hfb
      clear hfb
      generalize kids1.len = kl1 at *
      cases fb
      · have HIF : Hid (fitB cs (keyF f) (jz : Int) = false) := HFV
        go_wp2_with fail
        go_region_held3 (fun x => x.cell? ⟨gv, m, none⟩ = some (.int .i64 (jz : Int)) ∧ x.cell? ⟨bb, oo + jz * 5, none⟩ = some (.int .i64 kk1) ∧ x.cell? ⟨bb, oo + jz * 5 + 1, none⟩ = some (.int .i64 nn1) ∧ x.cell? ⟨bb, oo + jz * 5 + 2, none⟩ = some (.string ss1) ∧ x.cell? ⟨bb, oo + jz * 5 + 3, none⟩ = some (.slice Az kl1 cpz) ∧
            x.cell? ⟨w.heap.size, 0, none⟩ = some (.int .i64 k) ∧ x.cell? ⟨w.heap.size, 1, none⟩ = some (.int .i64 n) ∧ x.cell? ⟨w.heap.size, 2, none⟩ = some (.string s) ∧ x.cell? ⟨w.heap.size, 3, none⟩ = some (.slice B fl capB))
          (first | exact HST9.out | exact HST8.out | exact HSTA.out wr (Below.refl _ _))
          (first
            | (go_at_call_of 34 Az
               refine (HKZ.out _ (Below.refl _ wr).drew).mono ?_
               rintro e w8 ⟨rfl, hb⟩
               have HB8 := Lib.hid ((Below.refl wr.heap.size wr).drew.trans hb)
               have HST8 := Lib.hid (HSTA.out w8 HB8.out)
               clear hb)
            | (go_at_call_of 34 B
               refine (HKG.out _ HB8.out).mono ?_
               rintro e w9 ⟨rfl, hb⟩
               have HB9 := Lib.hid (HB8.out.trans (hb.mono HB8.out.size))
               have HST9 := Lib.hid (HSTA.out w9 HB9.out)
               clear hb)
            | (go_at_call 49
               refine (HKF.out _).mono ?_
               rintro e w9 ⟨rfl, rfl⟩))
        have HD9 : Hid (OwnI w9 (w.heap.size + 1) v' ((zs.take m).filter (fitB cs (keyF f))) ∧ OwnI w9 (w.heap.size + 2) (.slice (some ⟨gv, 0, none⟩) zl cz) zs ∧ Below w.heap.size w w9 ∧ Blk w9 w.heap.size 29 #[.int .i64 k, .int .i64 n, .string s, .slice B fl capB]) :=
          Lib.hid ⟨HOA.out.below HB9.out, HOV.out.below HB9.out, HBW.out.trans (HB9.out.mono HBW.out.size), HQ.out.below HB9.out HQ.out.lt⟩
        clear k0 k1 k2 k3 b0 b1 b2 b3 kv7
        go_wp2_with fail
        go_roundw
        case rel =>
          refine ⟨m + 1, v', by omega, by go_num, rfl, ?_, HD9.out.2.1, HDJ.out, HD9.out.2.2⟩
          rw [filter_take _ HZM.out, HIF.out, if_neg (by decide), List.append_nil]
          exact HD9.out.1
        case measure => simp [intOf]; omega
      · have HIT : Hid (fitB cs (keyF f) (jz : Int) = true) := HFV
        go_wp2_with fail
        go_region_held3 (fun x => x.cell? ⟨gv, m, none⟩ = some (.int .i64 (jz : Int)) ∧ x.cell? ⟨bb, oo + jz * 5, none⟩ = some (.int .i64 kk1) ∧ x.cell? ⟨bb, oo + jz * 5 + 1, none⟩ = some (.int .i64 nn1) ∧ x.cell? ⟨bb, oo + jz * 5 + 2, none⟩ = some (.string ss1) ∧ x.cell? ⟨bb, oo + jz * 5 + 3, none⟩ = some (.slice Az kl1 cpz) ∧
            x.cell? ⟨w.heap.size, 0, none⟩ = some (.int .i64 k) ∧ x.cell? ⟨w.heap.size, 1, none⟩ = some (.int .i64 n) ∧ x.cell? ⟨w.heap.size, 2, none⟩ = some (.string s) ∧ x.cell? ⟨w.heap.size, 3, none⟩ = some (.slice B fl capB))
          (first | exact HST9.out | exact HST8.out | exact HSTA.out wr (Below.refl _ _))
          (first
            | (go_at_call_of 34 Az
               refine (HKZ.out _ (Below.refl _ wr).drew).mono ?_
               rintro e w8 ⟨rfl, hb⟩
               have HB8 := Lib.hid ((Below.refl wr.heap.size wr).drew.trans hb)
               have HST8 := Lib.hid (HSTA.out w8 HB8.out)
               clear hb)
            | (go_at_call_of 34 B
               refine (HKG.out _ HB8.out).mono ?_
               rintro e w9 ⟨rfl, hb⟩
               have HB9 := Lib.hid (HB8.out.trans (hb.mono HB8.out.size))
               have HST9 := Lib.hid (HSTA.out w9 HB9.out)
               clear hb)
            | (go_at_call 49
               refine (HKF.out _).mono ?_
               rintro e w9 ⟨rfl, rfl⟩))
        have q9 := HST9.out.1
        have HSTEP : Hid (∀ w10 g cap4, (w9.alloc (.cells #[.int .i64 (jz : Int)] 3)).grownBy w10 v'.ownBlock → w10.ownsRow (w.heap.size + 1) 3 1 (.slice (some ⟨g, 0, none⟩) (((zs.take m).filter (fitB cs (keyF f))).length + 1) cap4) (((zs.take m).filter (fitB cs (keyF f))).length + 1) (((zs.take m).filter (fitB cs (keyF f))).map (Value.int .i64) ++ [.int .i64 (jz : Int)]) →
            (v'.ownBlock = some g ∨ g = w9.heap.size + 1) → OwnI w10 (w.heap.size + 1) (.slice (some ⟨g, 0, none⟩) (((zs.take m).filter (fitB cs (keyF f))).length + 1) cap4) ((zs.take (m + 1)).filter (fitB cs (keyF f))) ∧ OwnI w10 (w.heap.size + 2) (.slice (some ⟨gv, 0, none⟩) zl cz) zs ∧
              (∀ x ∈ ownV (.slice (some ⟨g, 0, none⟩) (((zs.take m).filter (fitB cs (keyF f))).length + 1) cap4), x ∉ ownV (.slice (some ⟨gv, 0, none⟩) zl cz)) ∧ Below w.heap.size w w10 ∧ Blk w10 w.heap.size 29 #[.int .i64 k, .int .i64 n, .string s, .slice B fl capB]) := Lib.hid fun w10 g cap4 hg ho hat => by
          have hba : Below w9.heap.size w9 (w9.alloc (.cells #[.int .i64 (jz : Int)] 3)) := (Below.refl _ _).alloc (Nat.le_refl _) _
          have hbx := HB9.out.trans (hba.mono HB9.out.size)
          have hbw10 := HBW.out.trans (hbx.mono HBW.out.size)
          have hva := HOA.out.lt
          have hvl := HOV.out.lt
          have hqx := HQ.out.below hbx HQ.out.lt
          refine ⟨?_, (HOV.out.below hbx).keep (Wrote.of_grown (L := ownV v') hg fun _ h => h) (fun x hx h => HDJ.out x h hx), fun x hx h2 => ?_, hbw10.grown hg hbw10.size (fun i hi => ?_), hqx.keep (hg.block _ hqx.lt fun e => ?_)⟩
          · rw [filter_take _ HZM.out, HIT.out, if_pos rfl]
            unfold OwnI
            simpa using ho
          · obtain rfl : x = g := by simpa [ownV, Value.ownBlock] using hx
            rcases hat with h | h
            · exact HDJ.out x (by unfold ownV; rw [h]; simp) h2
            · have h3 := (hvl x h2).2
              have h4 := HB9.out.size
              omega
          · have := (hva i (by unfold ownV; rw [hi]; simp)).1
            omega
          · have := (hva w.heap.size (by unfold ownV; rw [← e]; simp)).1
            omega
        have hal : ((zs.take m).filter (fitB cs (keyF f))).length ≤ 1048576 := Nat.le_trans (List.length_filter_le _ _) (by rw [List.length_take]; omega)
        have HOR : Hid ((w9.alloc (.cells #[.int .i64 (jz : Int)] 3)).ownsRow (w.heap.size + 1) 3 1 v' ((zs.take m).filter (fitB cs (keyF f))).length (((zs.take m).filter (fitB cs (keyF f))).map (Value.int .i64))) :=
          Lib.hid (OwnI.below (OwnI.below HOA.out HB9.out) ((Below.refl _ _).alloc (Nat.le_refl _) _))
        have HNEW := Lib.hid (Blk.new w9 3 #[.int .i64 (jz : Int)])
        have hws9 : w.heap.size + 1 ≤ w9.heap.size := by have := HB9.out.size; omega
        have hgv9 : gv < w9.heap.size := by have := HB9.out.size; omega
        clear k0 k1 k2 k3 b0 b1 b2 b3 kv7
        generalize ((zs.take m).filter (fitB cs (keyF f))).length = al at *
        generalize hxs : ((zs.take m).filter (fitB cs (keyF f))).map (Value.int .i64) = xs at *
        go_wp2_with (at_builtin; go_must (refine wpList_append_lies _ rfl _ _ _ rfl (w.heap.size + 1) 3 i0 _ 1 8 Tryd.underlying35 hi0 hz0 hz1 hz2 rfl (by omega) v' al xs rfl HOR.out ⟨w9.heap.size, 0, none⟩ 1 1 [.int .i64 (jz : Int)] rfl rfl (World.news_of_block (cs := #[.int .i64 (jz : Int)]) (t := 3) (fr := (0, 0)) HNEW.out) (by simp [Value.oneCell']) (by omega) (by unfold maxLen; omega) (by omega) (by simp; omega) (w9.heap.size + 1) (by simp) ?_); intro g cap4 w10 hown10 hgrow hat hlt10; have HS := Lib.hid (HSTEP.out w10 g cap4 hgrow hown10 hat); clear hown10 hgrow hat)
        go_roundw
        case rel => exact ⟨m + 1, _, by omega, by go_num, rfl, HS.out⟩
        case measure => simp [intOf]; omega
    · obtain rfl : m = zl := by omega
      rw [List.take_of_length_le (by rw [HZL.out]; exact Nat.le_refl _), ← HV.out] at hoa
      have HDONE := Lib.hid (And.intro (hoa.mono (Nat.le_succ _)) hbw)
      clear hoa hov hdj hbw hq
      go_wp2_with fail
      go_ret
      exact ⟨_, rfl, HDONE.out⟩
end Go.Proofs.YtlapdnllncoomaaDoor
