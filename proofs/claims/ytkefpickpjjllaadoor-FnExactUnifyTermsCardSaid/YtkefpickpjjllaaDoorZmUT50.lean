/- impl.unifier.bindings, walked. Condition: the unifier and the nodes that it has bound lie in memory; they are well-formed and small. -/
import Derived.Test.YtkefpickpjjllaaDoorZmUT47
import Derived.Test.YtkefpickpjjllaaDoorZmUT49
import Derived.Test.YtkefpickpjjllaaDoorProg
import Derived.Test.YtkefpickpjjllaaDoorMk
import Derived.WalkKit
import Derived.WalkSpells
import Derived.Outline
import Derived.Lib.SlBytesConst
namespace Go.Proofs.YtkefpickpjjllaaDoor.Full
open Go.RowKit Go.Maps

/-- The resolver's state at its start. -/
theorem rsI_new {w w2 w4 : World} {lo hi mb : Nat} {σ : Sub} (hmp : Go.Proofs.YtkefpickpjjllaaDoor.MpS w lo hi mb σ) (hh : hi ≤ w.heap.size) (hb2 : Below w.heap.size w w2)
    (hg : Below ((w2.alloc (.map #[] 0)).alloc (.cells #[.map (some mb), .map (some w2.heap.size)] 89)).heap.size ((w2.alloc (.map #[] 0)).alloc (.cells #[.map (some mb), .map (some w2.heap.size)] 89)) w4) :
    RsI lo hi mb (w2.heap.size + 1) w2.heap.size σ w4 () [w2.heap.size] [] := by
  have hq := Blk.new (w2.alloc (.map #[] 0)) 89 #[.map (some mb), .map (some w2.heap.size)]
  rw [show (w2.alloc (.map #[] 0)).heap.size = w2.heap.size + 1 by simp] at hq
  have hb3 : Below w2.heap.size w2 ((w2.alloc (.map #[] 0)).alloc (.cells #[.map (some mb), .map (some w2.heap.size)] 89)) := two_alloc w2 _ _
  have hb4 : Below w2.heap.size w2 w4 := hb3.trans (hg.mono hb3.size)
  have hbw : Below w.heap.size w w4 := hb2.trans (hb4.mono hb2.size)
  have hD0 : (w2.alloc (.map #[] 0)).ownsMap Tryd.prog 67 heldR w2.heap.size 0 (.map []) := World.ownsMap_made w2 _ _ _
  obtain ⟨es, clock, he, r⟩ := hD0
  have hD : w4.ownsMap Tryd.prog 67 heldR w2.heap.size (size (.map [] : DataW Value)) (.map []) := own_size ⟨es, clock, (hg.block w2.heap.size (by simp; omega)).trans ((heap_alloc_old (r := w2.heap.size) _ _ (by simp)).trans he), r⟩
  refine ⟨rfl, hq.below hg hq.lt, mpS_wrote hmp (.of_below hbw []) (by simp) hh (fun x hx => by cases hx), ⟨.map [], [], hD, tidy_empty, rfl, List.nodup_nil, (fun x hx => nomatch hx), (fun n => ⟨fun h => (by cases h), fun h => nomatch h⟩), fun n hn => nomatch hn⟩, fun x hx => nomatch hx⟩

set_option maxRecDepth 100000 in
set_option maxHeartbeats 8000000 in
/-- bindings. -/
theorem bindings_any (lo hi ub mb db base : Nat) (σ : Sub) (P : List (Addr × Addr)) (tv : Value) (w : World) (ho : UpO lo hi ub mb db base) (hU : UpS w lo hi ub mb db base σ P tv) (hbs : base ≤ w.heap.size) (hsh : ShL σ) :
    Calls Tryd.prog 26 #[.pointer (some ⟨ub, 0, none⟩)] w fun e w' => BisRes w (unB σ 26) e w' := by
  have hmm := @run_makeMap Tryd.prog
  obtain ⟨⟨hq, htr, hmp⟩, hP, hD, hok2, hbi⟩ := hU
  have hmp := hmp.plain
  have htl : (trl σ).length ≤ 26 := by
    have := nodup_len 26 (keysS σ) hok2.nodup hbi.keys
    rw [trl_len]
    simpa [keysS] using this
  have hsort : (trl σ).mergeSort (fun x y => decide (x ≤ y)) = bnd σ 26 := by
    refine sort_bnd ?_ (trl_mem σ) fun x hx => ?_
    · have := hok2.nodup
      unfold trl
      exact (List.reverse_perm _).nodup_iff.2 this
    · unfold trl at hx
      rw [List.mem_reverse] at hx
      have := hbi.keys x hx
      omega
  have hlen : (trl σ).length = (bnd σ 26).length := by rw [← hsort, List.length_mergeSort]
  have hrng : ∀ j, j < (bnd σ 26).length → 0 ≤ (bnd σ 26).getD j 0 ∧ (bnd σ 26).getD j 0 ≤ 25 := fun j hj => by
    have hmem : (bnd σ 26).getD j 0 ∈ bnd σ 26 := by rw [List.getD_eq_getElem?_getD, List.getElem?_eq_getElem hj]; simp
    obtain ⟨⟨i, hi, he⟩, _⟩ := (bnd_mem σ _ 26).1 hmem
    omega
  have hsS : ∀ x m, lk σ x = some m → shapeT m.k m.n m.s m.f 30 = true := fun x m h => (hsh.all h).1
  have hsz : ∀ x m, lk σ x = some m → nodes m.f ≤ 2097152 := fun x m h => by have := (hsh.all h).2; omega
  have hwf : ∀ n, 0 ≤ n ∧ n ≤ 25 → WfN (fin σ n) := fun n hn => fin_wf hok2 hsS n ⟨by omega, by omega⟩
  have hub := unB_eq σ 26
  obtain ⟨o1, ⟨o2, o3, o4⟩, ⟨o5, o6, o7⟩, o8, o9, o10⟩ := ho
  have hhi : hi ≤ w.heap.size := by omega
  have C1 := clone_any w (trl σ) tv base htr (by omega)
  have c0 := hq.cell 0
  have c1 := hq.cell 1
  simp only [List.getElem?_toArray, List.getElem?_cons_zero, List.getElem?_cons_succ] at c0 c1
  have HR : Hid (unB σ 26 = if okL σ (bnd σ 26) = true then some (bnd σ 26, rwL σ (bnd σ 26)) else none) := Lib.hid hub
  have HRS := Lib.hid (fun qb rs B (h1 : hi ≤ B ∧ mb < B ∧ rs < B) (h2 : hi ≤ qb ∧ qb ≠ mb ∧ qb ≠ rs) x => rsC_any lo hi mb rs qb B σ hok2 o3 h1 h2 hsz x)
  have HMP := Lib.hid hmp
  have HQ := Lib.hid hq
  have HWF := Lib.hid hwf
  have HRNG := Lib.hid hrng
  have HSORT := Lib.hid hsort
  have HLEN := Lib.hid hlen
  have HC1 := Lib.hid C1
  generalize unB σ 26 = R at *
  have hql := hq.lt
  clear C1 hq htr hmp hP hD hok2 hbi hsort hlen hrng hsS hsz hwf hub hsh
  go_enter Tryd.func26, Tryd.ntmps26
  go_wp2_with fail
  refine HC1.out.mono ?_
  rintro e w1 ⟨v1, rfl, hown1, hb1⟩
  have C2 := sort_any w1 (trl σ) v1 w.heap.size hown1 (by omega)
  have hl1 : ∀ x ∈ ownV v1, w.heap.size ≤ x := fun x hx => (hown1.lt x (by unfold ownV at hx; simpa using hx)).1
  have HC2 := Lib.hid C2
  have HB1 := Lib.hid hb1
  have HL1 := Lib.hid hl1
  clear C2 hown1 hb1 hl1 HC1
  go_wp2_with fail
  refine HC2.out.mono ?_
  rintro e w2 ⟨rfl, hown2, hw2⟩
  have hb2 : Below w.heap.size w w2 := HB1.out.trans (hw2.below HB1.out.size HL1.out)
  rw [HSORT.out, HLEN.out] at hown2
  have hcellr : ∃ A cap, v1 = .slice A (bnd σ 26).length cap ∧ ∀ j, j < (bnd σ 26).length → ∃ c, A = some ⟨c, 0, none⟩ ∧ c < w2.heap.size ∧ w2.cell? ⟨c, j, none⟩ = some (.int .i64 ((bnd σ 26).getD j 0)) := by
    rcases hown2.2 with ⟨rfl, hz⟩ | ⟨g, cap, cur, rfl, hg, hh, hr1, hr2, hr3⟩
    · have h0 : (bnd σ 26).length = 0 := by simpa using hz
      exact ⟨none, 0, by rw [h0], fun j hj => by omega⟩
    · refine ⟨_, cap, rfl, fun j hj => ⟨g, rfl, Blk.lt hh, ?_⟩⟩
      have h3 := (World.ownsRow.cells hown2 (g := g) rfl) j (.int .i64 ((bnd σ 26).getD j 0)) (by simp [hj])
      have e : (⟨g, 0, none⟩ : Addr).add j = ⟨g, j, none⟩ := by unfold Addr.add; split <;> simp_all
      rwa [e] at h3
  obtain ⟨A, cap, rfl, hcell⟩ := hcellr
  have c0 := (hb2.cell (p := ⟨ub, 0, none⟩) hql).trans c0
  have HCELL := Lib.hid hcell
  have HB2 := Lib.hid hb2
  have hs2 := hb2.size
  have htl2 : (bnd σ 26).length ≤ 26 := by rw [← HLEN.out]; exact htl
  have HRW : Hid ((rwL σ (bnd σ 26)).len = (bnd σ 26).length) := Lib.hid (rwL_len σ _)
  clear hown2 hw2 hb2 hcell HC2 HB1 HL1 c1
  generalize hns : (bnd σ 26).length = len at *
  have HNS := Lib.hid hns
  clear hns
  obtain ⟨i0, hi0, hz0, hz1, hz2⟩ := info_parts infoB
  have hst := fun w3 base xs w4 => PartB.start (w := w3) (w1 := w4) (ns := bnd σ 26) (f := rwL σ (bnd σ 26)) (base := base) (xs := xs)
  rw [HRW.out] at hst
  have HST := Lib.hid hst
  clear hst
  go_wp2_with (at_make; go_must (refine wpList_make_full _ rfl _ _ 26 rfl _ 44 i0 _ 5 Tryd.underlying26 hi0 hz0 hz1 .i64 .i64 _ _ len rfl rfl rfl rfl (by rw [hz2]; omega) (by unfold maxLen; omega) (Nat.le_refl _) ?_); intro w4 hown hgrow)
  have hs3 : ((w2.alloc (.map #[] 0)).alloc (.cells #[.map (some mb), .map (some w2.heap.size)] 89)).heap.size = w2.heap.size + 1 + 1 := by simp
  have hb4 : Below ((w2.alloc (.map #[] 0)).alloc (.cells #[.map (some mb), .map (some w2.heap.size)] 89)).heap.size ((w2.alloc (.map #[] 0)).alloc (.cells #[.map (some mb), .map (some w2.heap.size)] 89)) w4 := (Below.refl _ _).grown hgrow (Nat.le_refl _) (fun k hk => by cases hk)
  have hI4 := rsI_new HMP.out hhi HB2.out hb4
  have hp4 := (HST.out _ _ _ _ hown hgrow).rebase (two_alloc w2 _ _)
  rw [hs3] at hp4
  have hP0 : BiP w2 lo hi mb (w2.heap.size + 1) w2.heap.size (w2.heap.size + 1 + 1) σ (bnd σ 26) 0 w4 := ⟨[], hI4, (fun x hx => nomatch hx), hp4, rfl⟩
  have HP0 := Lib.hid hP0
  clear hP0 hp4 hI4 hb4 hown hgrow HST hi0 hz0 hz1 hz2 HMP c0
  go_loopw [29] (fun i wr => ∃ (k : Nat), k ≤ len ∧ i = .int .i64 k ∧ BiP w2 lo hi mb (w2.heap.size + 1) w2.heap.size (w2.heap.size + 1 + 1) σ (bnd σ 26) k wr) (fun i _ => len - (intOf i).toNat)
  case atStart => exact ⟨0, Nat.zero_le _, rfl, HP0.out⟩
  case round =>
    obtain ⟨k, hk, rfl, hp⟩ := hrel
    obtain ⟨G, hI, hG, hpart, hokl⟩ := hp
    by_cases hlt : k < len
    · obtain ⟨c, rfl, hc, hcell⟩ := HCELL.out k hlt
      have hnk := HRNG.out k hlt
      have hwf := HWF.out _ hnk
      have hkn : k < (bnd σ 26).length := by rw [HNS.out]; exact hlt
      have hpb : Below w2.heap.size w2 wr := by obtain ⟨_, _, _, _, _, _, _, _, h⟩ := hpart; exact h
      have hpl := hpart.lt
      have k0 := (hpb.cell (p := ⟨c, k, none⟩) hc).trans hcell
      have C3 := HRS.out w2.heap.size (w2.heap.size + 1) (w2.heap.size + 1 + 1) ⟨by omega, by omega, by omega⟩ ⟨by omega, by omega, by omega⟩ ((bnd σ 26).getD k 0) [w2.heap.size] G wr hI (by omega) hnk
      have hstep := fun G3 w3 w5 A5 c5 m (hm : fin σ ((bnd σ 26).getD k 0) = m) (hval : validT m.k m.n m.s m.f = true) => BiP.step (w2 := w2) (w3 := w3) (w4 := w5) (A := A5) (c := c5) (G3 := G3) (rs := w2.heap.size + 1) (lo := lo) hkn hm hval ⟨by omega, by omega⟩ o3 ⟨Nat.le_refl _, by omega, by omega, by omega, by omega⟩ hokl hG hpart
      have hbad := fun hv => okL_bad (σ := σ) hkn hv
      have hcs := fun w3 w5 (hw : Wrote [w2.heap.size] wr w3) (hb : Below w3.heap.size w3 w5) j hj => (hpart.wrote hw fun x hx => by simp at hx; omega).cells (k := k) (by rw [HRW.out]; exact hlt) hb j hj
      have hbw := HB2.out.trans (hpb.mono hs2)
      generalize fin σ ((bnd σ 26).getD k 0) = M at *
      generalize (bnd σ 26).getD k 0 = n1 at *
      have H3 := Lib.hid C3
      have HSTEP := Lib.hid hstep
      have HBAD := Lib.hid hbad
      have HCS := Lib.hid hcs
      have HBW := Lib.hid hbw
      have hsw := hpb.size
      clear C3 hstep hbad hcs hbw hI hG hpart hokl hpb hcell
      go_wp2_with fail
      refine H3.out.mono ?_
      rintro e w3 ⟨Q3, G3, v3, rfl, hI3, hw3, hq3, hg3, hgg3, hv3⟩
      obtain rfl : Q3 = [w2.heap.size] := hI3.1
      have hs3' := hw3.size
      have C4 := Big.vt_any M v3 0 w3.heap.size w3 hwf.1 hwf.2 (hv3.range fun x hx => ⟨Nat.zero_le _, hx.2.1⟩) (Nat.le_refl _)
      obtain ⟨T3, z3, rfl⟩ := hv3.iface
      have hb3 : Below w.heap.size w w3 := HBW.out.trans (hw3.below HBW.out.size fun x hx => by simp at hx; omega)
      have hst3 := fun w5 A5 c5 hval => HSTEP.out G3 w3 w5 A5 c5 M rfl hval
      have hcs3 := fun w5 hb j hj => HCS.out w3 w5 hw3 hb j hj
      have HSTEP3 := Lib.hid (fun w5 A5 c5 hval hmd => hst3 w5 A5 c5 hval hw3 hI3 hg3 hmd)
      have HCS3 := Lib.hid hcs3
      have HB3 := Lib.hid hb3
      have H4 := Lib.hid C4
      clear C4 hI3 hw3 hq3 hg3 hgg3 hv3 hb3 hst3 hcs3 HSTEP HCS hwf H3 k0
      obtain ⟨mk, mn, ms, mf⟩ := M
      have HM : Hid (vtF ⟨mk, mn, ms, mf⟩ = (if validT mk mn ms mf = true then ⟨mk, mn, ms, mf⟩ else nd0) ∧ vtB ⟨mk, mn, ms, mf⟩ = validT mk mn ms mf) := Lib.hid ⟨rfl, rfl⟩
      simp only at HSTEP3 HBAD
      cases hval : validT mk mn ms mf with
      | true =>
        have H4b : Hid (Calls Tryd.prog 34 #[.iface T3 z3] w3 fun e w' => TbRes w3 ⟨mk, mn, ms, mf⟩ true e w') := Lib.hid (by have h := H4.out; rw [HM.out.1, HM.out.2, hval] at h; exact h)
        have HSTEP4 := Lib.hid (fun w5 A5 c5 hmd => HSTEP3.out w5 A5 c5 hval hmd)
        clear HSTEP3 H4 HBAD HM hval
        go_wp2_with fail
        refine H4b.out.mono ?_
        rintro e w5 ⟨A5, c5, rfl, hmd⟩
        have hd5 := made_below hmd
        have hba : Below w5.heap.size w5 (w5.alloc (.cells #[.int .i64 mk, .int .i64 mn, .string ms, .slice A5 mf.len c5] 31)) := (Below.refl _ _).alloc (Nat.le_refl _) _
        have HDD := Lib.hid (fun j hj => HCS3.out _ (hd5.trans (hba.mono hd5.size)) j hj)
        obtain ⟨x0, x1, x2, x3⟩ := cells4i (Blk.new w5 31 #[.int .i64 mk, .int .i64 mn, .string ms, .slice A5 mf.len c5])
        have hst5 := HSTEP4.out w5 A5 c5 hmd
        have HST5 := Lib.hid hst5
        obtain ⟨⟨v0, d0⟩, f0⟩ := HDD.out 0 (by omega)
        obtain ⟨⟨v1, d1⟩, f1⟩ := HDD.out 1 (by omega)
        obtain ⟨⟨v2, d2⟩, f2⟩ := HDD.out 2 (by omega)
        obtain ⟨⟨v3, d3⟩, f3⟩ := HDD.out 3 (by omega)
        obtain ⟨⟨v4, d4⟩, f4⟩ := HDD.out 4 (by omega)
        rw [show k * 5 + 0 = k * 5 from rfl] at d0 f0
        clear hst5 hmd hd5 hba HDD HSTEP4 HCS3 H4b
        go_wp2_with fail
        go_roundw
        case rel => exact ⟨k + 1, by omega, by go_num, HST5.out⟩
        case measure => simp [intOf]; omega
      | false =>
        have H4b : Hid (Calls Tryd.prog 34 #[.iface T3 z3] w3 fun e w' => TbRes w3 nd0 false e w') := Lib.hid (by have h := H4.out; rw [HM.out.1, HM.out.2, hval] at h; exact h)
        have HNO : Hid (R = none) := Lib.hid (by rw [HR.out, HBAD.out hval]; rfl)
        clear HSTEP3 H4 HBAD HM hval HCS3
        go_wp2_with fail
        refine H4b.out.mono ?_
        rintro e w5 ⟨A5, c5, rfl, hmd⟩
        have hd5 := HB3.out.trans ((made_below hmd).mono HB3.out.size)
        have HD5 := Lib.hid (hd5.alloc hd5.size (.cells #[.int .i64 0, .int .i64 0, .string ⟨#[]⟩, .slice A5 0 c5] 31))
        clear hmd hd5 H4b
        simp only [nd0, Fr.len]
        go_wp2_with fail
        go_ret2
        exact .inr ⟨HNO.out, rfl, HD5.out⟩
    · obtain rfl : k = len := by omega
      have hY : R = some (bnd σ 26, rwL σ (bnd σ 26)) := by
        rw [HR.out, if_pos]
        rw [← HNS.out, List.take_length] at hokl
        exact hokl
      have hmade : MadeB w (bnd σ 26) (rwL σ (bnd σ 26)) (some ⟨w2.heap.size + 1 + 1, 0, none⟩) (rwL σ (bnd σ 26)).len wr := by
        have h := (hpart.rebase HB2.out)
        rw [← HRW.out] at h
        exact h.done (rwL_len σ _).symm (by rw [HRW.out]; unfold maxLen; omega)
      have HY := Lib.hid hY
      have HMD := Lib.hid hmade
      clear hI hG hpart hokl hY hmade
      go_wp2_with fail
      go_ret2
      refine .inl ⟨_, _, _, HY.out, ?_, HMD.out⟩
      rw [HRW.out]
      rfl
end Go.Proofs.YtkefpickpjjllaaDoor.Full

/- impl.UnifyTerms, walked. Condition: the terms lie in memory, the table of signs in its variable. -/
namespace Go.Proofs.YtkefpickpjjllaaDoor.Full
open Go.RowKit Go.Maps

theorem BisRes.up {w w5 w6 : World} {R : Option (List Int × Fr)} {e : Ending} (h : BisRes w5 R e w6) (hb : Below w.heap.size w w5) : BisRes w R e w6 := by
  rcases h with ⟨ns, f, A, h1, h2, L, h3, h4, h5, h6⟩ | ⟨h1, h2, h3⟩
  · exact .inl ⟨ns, f, A, h1, h2, L, h3, h4, fun x hx => ⟨Nat.le_trans hb.size (h5 x hx).1, (h5 x hx).2⟩, hb.trans (h6.mono hb.size)⟩
  · exact .inr ⟨h1, h2, hb.trans (h3.mono hb.size)⟩
theorem uniR_no {a b : Nd} {r : Option Sub} (h : ¬ (validT a.k a.n a.s a.f = true ∧ validT b.k b.n b.s b.f = true)) : uniR a b r = none := by
  unfold uniR
  split
  · next h1 =>
    split
    · next h2 => exact absurd ⟨h1, h2⟩ h
    · rfl
  · rfl
theorem tm_of_valid {m : Nd} (h : validT m.k m.n m.s m.f = true) : Tm m := by
  unfold validT at h
  rw [Bool.and_eq_true, decide_eq_true_iff] at h
  exact ⟨h.1, by omega⟩
/-- The unifier at its start. -/
theorem upS_new {w w4 : World} {ub mb db : Nat} (h : UnU w4 0 w.heap.size ub mb db w4.heap.size [] [] (.slice none 0 0)) (hp : PdM w4 db []) : UpS w4 0 w.heap.size ub mb db w4.heap.size [] [] (.slice none 0 0) :=
  ⟨h, hp, (fun _ hx => nomatch hx), trivial, fun _ _ hm => nomatch hm⟩

set_option maxRecDepth 100000 in
set_option maxHeartbeats 2000000 in
/-- impl.UnifyTerms. -/
theorem implUni_any (a b : Nd) (A B : Option Addr) (cap cap' lo hi lo' hi' : Nat) (w : World) (r : Option Sub) (hk : KidsAt w lo hi a.f A cap) (hk' : KidsAt w lo' hi' b.f B cap') (hh : hi ≤ w.heap.size) (hh' : hi' ≤ w.heap.size) (hf : Fits a.k a.n a.s) (hf' : Fits b.k b.n b.s) (hnd : nodes a.f ≤ 1048576) (hnd' : nodes b.f ≤ 1048576) (ht : nv.Tab w)
    (hr : validT a.k a.n a.s a.f = true → validT b.k b.n b.s b.f = true → Un [] a b r) :
    Calls Tryd.prog 8 #[.agg #[.int .i64 a.k, .int .i64 a.n, .string a.s, .slice A a.f.len cap], .agg #[.int .i64 b.k, .int .i64 b.n, .string b.s, .slice B b.f.len cap']] w fun e w' => BisRes w (uniR a b r) e w' := by
  have hlt := tab_lt ht
  have C1 := fun w1 (hb : Below w.heap.size w w1) => both_any a.k a.n a.s a.f b.k b.n b.s b.f A B cap cap' lo hi lo' hi' w1 (hk.below hb hh) (hk'.below hb hh') (Nat.le_trans hh hb.size) (Nat.le_trans hh' hb.size) hf hf' hnd hnd' (tab_below ht hb hlt)
  have HT := Lib.hid (two_alloc w (.cells #[.int .i64 a.k, .int .i64 a.n, .string a.s, .slice A a.f.len cap] 31) (.cells #[.int .i64 b.k, .int .i64 b.n, .string b.s, .slice B b.f.len cap'] 31))
  have H1 := Lib.hid C1
  have HRR := Lib.hid hr
  have hyes : validT a.k a.n a.s a.f = true → validT b.k b.n b.s b.f = true → uniR a b r = r.bind fun σ => unB σ 26 := fun hva hvb => by unfold uniR; rw [if_pos hva, if_pos hvb]
  have hno := uniR_no (a := a) (b := b) (r := r)
  have HYES := Lib.hid hyes
  have HNO := Lib.hid hno
  generalize uniR a b r = R at *
  clear C1 hk hk' hh hh' hf hf' hnd hnd' ht hr hlt hyes hno
  go_enter Tryd.func8, Tryd.ntmps8
  go_wp2_with fail
  refine (H1.out _ HT.out).mono ?_
  rintro e w2 ⟨hb, hres⟩
  have hbw : Below w.heap.size w w2 := HT.out.trans (hb.mono HT.out.size)
  have HB := Lib.hid hbw
  clear hb hbw H1 HT
  rcases hres with ⟨⟨hva, hvb⟩, va, vb, rfl, hna, hnb⟩ | ⟨hno, rfl⟩
  · have hun := HRR.out hva hvb
    have hR := HYES.out hva hvb
    have hta := tm_of_valid hva
    have htb := tm_of_valid hvb
    have HUN := Lib.hid hun
    have HR := Lib.hid hR
    have HTA := Lib.hid hta
    have HTB := Lib.hid htb
    have HNA := Lib.hid hna
    have HNB := Lib.hid hnb
    obtain ⟨T1, z1, rfl⟩ := hna.iface
    obtain ⟨T2, z2, rfl⟩ := hnb.iface
    clear hun hR hta htb hna hnb hva hvb HRR HYES HNO
    go_wp2_with fail
    refine (newU_any w2 0 w2.heap.size).mono ?_
    rintro e w4 ⟨ub, mb, db, rfl, h1, h2, h3, h4, h5, h6, h7, h8, h9, hU, hP, hb4⟩
    have ho : UpO 0 w2.heap.size ub mb db w4.heap.size := ⟨Nat.zero_le _, ⟨h1, h2, h3⟩, ⟨h4, h5, h6⟩, h7, h8, h9⟩
    have C5 := unify_any 0 w2.heap.size ub mb db w4.heap.size [] (.slice none 0 0) a b (.iface T1 z1) (.iface T2 z2) r w4 ho (upS_new hU hP) (Nat.le_refl _) (HNA.out.keep (fun p _ hp => hb4.block p hp) (Nat.le_refl _) (Nat.le_refl _)) (HNB.out.keep (fun p _ hp => hb4.block p hp) (Nat.le_refl _) (Nat.le_refl _)) HTA.out.1 HTB.out.1 HUN.out
    have hbw : Below w.heap.size w w4 := HB.out.trans (hb4.mono HB.out.size)
    have hs2 := HB.out.size
    have HB4 := Lib.hid hbw
    have H5 := Lib.hid C5
    have HO := Lib.hid ho
    clear C5 hU hP hb4 hbw HNA HNB
    go_wp2_with fail
    refine H5.out.mono ?_
    rintro e w5 ⟨rfl, hw5, hs5⟩
    have hb5 : Below w.heap.size w w5 := HB4.out.trans (hw5.below HB4.out.size fun x hx => by
      rcases List.mem_cons.1 hx with rfl | hx
      · omega
      · rcases List.mem_cons.1 hx with rfl | hx
        · omega
        · rcases List.mem_cons.1 hx with rfl | hx
          · omega
          · simp [ownV, Value.ownBlock] at hx)
    have hs45 := hw5.size
    have HB5 := Lib.hid hb5
    clear hw5 hb5 H5 HO
    cases r with
    | none =>
      have HN : Hid (R = none) := Lib.hid HR.out
      clear hs5
      go_wp2_with fail
      go_ret2
      exact .inr ⟨HN.out, rfl, HB5.out⟩
    | some σ =>
      obtain ⟨P', tv', hU5, _⟩ := hs5 σ rfl
      have C6 := bindings_any 0 w2.heap.size ub mb db w4.heap.size σ P' tv' w5 ⟨Nat.zero_le _, ⟨h1, h2, h3⟩, ⟨h4, h5, h6⟩, h7, h8, h9⟩ hU5 hs45 (un_sh HUN.out HTA.out HTB.out)
      have HN : Hid (R = unB σ 26) := Lib.hid HR.out
      have H6 := Lib.hid C6
      clear C6 hU5 hs5 HR
      go_wp2_with fail
      refine H6.out.mono ?_
      rintro e w6 hres
      rw [← HN.out] at hres
      have hup := BisRes.up hres HB5.out
      have HUP := Lib.hid hup
      rcases hres with ⟨ns, f, A, h1, rfl, h3⟩ | ⟨h1, rfl, h3⟩
      · clear hup h3
        go_wp2_with fail
        go_ret2
        exact HUP.out
      · clear hup h3
        go_wp2_with fail
        go_ret2
        exact HUP.out
  · have HN : Hid (R = none) := Lib.hid (HNO.out hno)
    clear hno HRR HYES HNO
    go_wp2_with fail
    go_ret2
    exact .inr ⟨HN.out, rfl, HB.out⟩
end Go.Proofs.YtkefpickpjjllaaDoor.Full

/- laws.markText, markTermS, markTerm: rows of terms are marked. Condition: the call owns the row. -/
namespace Go.Proofs.YtkefpickpjjllaaDoor
open Go.RowKit

theorem one_byte (j : Nat) (w : World) : (convert 38 9 (.slice (some ⟨w.heap.size, 0, none⟩) 1 1)).run Tryd.prog (w.alloc (.cells #[.int .u8 (48 + (j : Int) % 10)] 5)) =
    .ok (.string ⟨[UInt8.ofNat (48 + j % 10)].toArray⟩) (w.alloc (.cells #[.int .u8 (48 + (j : Int) % 10)] 5)) := by
  refine run_convert_bytes_back _ _ _ 5 ⟨w.heap.size, 0, none⟩ 1 [UInt8.ofNat (48 + j % 10)] Tryd.underlying38 Tryd.underlying5 Tryd.underlying9 fun i hi => ?_
  obtain rfl : i = 0 := by simpa using hi
  have h := (Blk.new w 5 #[.int .u8 (48 + (j : Int) % 10)]).cell 0
  have e : ((UInt8.ofNat (48 + j % 10)).toNat : Int) = 48 + (j : Int) % 10 := by
    rw [UInt8.toNat_ofNat']
    omega
  show (w.alloc _).cell? ⟨w.heap.size, 0, none⟩ = some (.int .u8 ((UInt8.ofNat (48 + j % 10)).toNat : Int))
  rw [h, e]
  rfl
theorem digs_step (fu j : Nat) (out : List UInt8) (hj : j ≤ fu) (h0 : ¬ j = 0) : ∃ fu', j / 10 ≤ fu' ∧ digs fu j out = digs fu' (j / 10) (UInt8.ofNat (48 + j % 10) :: out) := by
  cases fu with
  | zero => omega
  | succ fu => exact ⟨fu, by omega, by simp only [digs]; rw [if_neg h0]⟩
theorem digs_zero (fu : Nat) (out : List UInt8) : digs fu 0 out = out := by
  cases fu with
  | zero => rfl
  | succ fu => rfl
theorem str_cons (d : UInt8) (out : List UInt8) : (.string (⟨[d].toArray⟩ ++ ⟨out.toArray⟩) : Value) = .string ⟨(d :: out).toArray⟩ := congrArg Value.string (ByteArray.mk_append_mk [d] out)
set_option maxRecDepth 100000 in
set_option maxHeartbeats 1000000 in
theorem markText_any (k0 : Nat) (w : World) (h0 : 0 < k0) (h1 : k0 ≤ 1099511627776) :
    Calls Tryd.prog 30 #[.int .i64 (k0 : Int)] w fun e w' => e = .returned (.string (mtext k0)) ∧ Below w.heap.size w w' := by
  have t0 : ¬ (k0 : Int) ≤ 0 := by omega
  go_enter Tryd.func30, Tryd.ntmps30
  go_wp2_with fail
  go_loopw [3, 0] (fun o i wr => ∃ (j fu : Nat) (out : List UInt8), j ≤ fu ∧ out.length + j ≤ k0 ∧ i = .int .i64 j ∧ o = .string ⟨out.toArray⟩ ∧ digs fu j out = digs k0 k0 [] ∧ Below w.heap.size w wr) (fun _ i _ => (intOf i).toNat)
  case atStart => exact ⟨k0, k0, [], Nat.le_refl _, by simp, rfl, rfl, rfl, Below.refl _ _⟩
  case round =>
    obtain ⟨j, fu, out, hj, hl, rfl, rfl, hd, hb⟩ := hrel
    have HD := Lib.hid hd
    have HB := Lib.hid hb
    clear hd hb
    by_cases hz : j = 0
    · subst hz
      have HV : Hid (mtext k0 = ⟨#[109]⟩ ++ ⟨out.toArray⟩) := Lib.hid (by
        have h := HD.out
        rw [digs_zero] at h
        unfold mtext
        rw [← h]
        exact (ByteArray.mk_append_mk [109] out).symm)
      clear HD
      go_wp2_with fail
      go_ret
      rw [HV.out]
      exact ⟨rfl, HB.out⟩
    · have hjp : (0 : Int) < j := by omega
      obtain ⟨fu', hfu, hdd⟩ := digs_step fu j out hj hz
      have HE : Hid (digs fu' (j / 10) (UInt8.ofNat (48 + j % 10) :: out) = digs k0 k0 []) := Lib.hid (hdd.symm.trans HD.out)
      have kc := one_byte j
      generalize UInt8.ofNat (48 + j % 10) = d at *
      clear hdd HD
      go_wp2_with fail
      go_roundw
      case rel => exact ⟨j / 10, fu', d :: out, hfu, by simp only [List.length_cons]; omega, by go_num, str_cons d out, HE.out, HB.out.alloc HB.out.size _⟩
      case measure => simp [intOf]; omega

/-- What marking a row leaves: the marked row, in the same blocks; no other block was written. -/
def MarkedS (w : World) (f : Fr) (A : Option Addr) (cap : Nat) (L : List Nat) (k : Nat) (e : Ending) (w' : World) : Prop :=
  e = .returned (.int .i64 ((k + 3 * nodes f : Nat) : Int)) ∧ OwnS w' (markF f k) A cap L ∧ Wrote L w w'
def MarkS (f : Fr) : Prop := ∀ (A : Option Addr) (cap k : Nat) (L : List Nat) (w : World), OwnS w f A cap L → L.Nodup → k + 3 * nodes f ≤ 1099511627776 → 0 < k →
  Calls Tryd.prog 29 #[.slice A f.len cap, .int .i64 (k : Int)] w fun e w' => MarkedS w f A cap L k e w'

set_option maxRecDepth 100000 in
set_option maxHeartbeats 2000000 in
theorem markS_of (f : Fr) (h : ∀ i k n s kids rest, f.drop i = .cons k n s kids rest → MarkS kids) : MarkS f := by
  intro A cap k0 L w ho hnd hk hk0
  rcases ho with ⟨hcap, hmax, ⟨hz, rfl⟩ | ⟨b, L', cs, rfl, rfl, hblk, hcs, hown⟩⟩
  · have hnil : f = .nil := by
      cases f with
      | nil => rfl
      | cons _ _ _ _ _ => simp [Fr.len] at hz
    subst hnil
    have e0 : (Fr.nil.len : Int) = 0 := rfl
    have HM : Hid (MarkedS w .nil A cap [] k0 (.returned (.int .i64 (k0 : Int))) w) := Lib.hid ⟨rfl, ⟨Nat.zero_le _, hmax, .inl ⟨rfl, rfl⟩⟩, .refl _ _⟩
    clear h hk hnd hcap hz hmax
    go_enter Tryd.func29, Tryd.ntmps29
    go_wp2_with fail
    go_loop [5, 1] (fun i k => i = .int .i64 0 ∧ k = .int .i64 (k0 : Int)) (fun _ _ => 0)
    case atStart => exact ⟨rfl, rfl⟩
    case round =>
      obtain ⟨rfl, rfl⟩ := hrel
      go_wp2_with fail
      go_ret
      exact HM.out
  · have h0 := MkP.start (k0 := k0) hblk hcs hown
    have HFIN : Hid (∀ wr, MkP w f b cap L' k0 f.len wr → OwnS wr (markF f k0) (some ⟨b, 0, none⟩) cap (b :: L') ∧ Wrote (b :: L') w wr) := Lib.hid fun wr h => h.done hcap hmax
    have HST := Lib.hid h0
    have HND := Lib.hid hnd
    have HH := Lib.hid h
    have HK := Lib.hid hk
    have HCAP := Lib.hid hcap
    have hl : f.len ≤ 1099511627776 := by have := len_le_nodes f; omega
    clear h0 hown hnd h hblk hcs hmax
    unfold maxLen at *
    generalize hn : f.len = len at *
    have HN := Lib.hid hn
    clear hn
    go_enter Tryd.func29, Tryd.ntmps29
    go_wp2_with fail
    go_loopw [5, 1] (fun i k wr => ∃ (j kk : Nat), j ≤ len ∧ i = .int .i64 j ∧ k = .int .i64 kk ∧ kk = k0 + 3 * nodes (f.take j) ∧ MkP w f b cap L' k0 j wr) (fun i _ _ => len - (intOf i).toNat)
    case atStart => exact ⟨0, k0, Nat.zero_le _, rfl, rfl, rfl, HST.out⟩
    case round =>
      obtain ⟨j, kk, hj, rfl, rfl, hkk, hp⟩ := hrel
      by_cases hlt : j < len
      · obtain ⟨kn, nn, s, kids, hd⟩ := Fr.drop_cons j f (by rw [HN.out]; exact hlt)
        obtain ⟨A', cap', hopen⟩ := hp.open_ hd (by rw [HN.out]; exact hlt) (by rw [HN.out]; exact HCAP.out) HND.out HK.out
        rw [← hkk] at hopen
        obtain ⟨⟨v0, v1, v2, c0, c1, c2, c3⟩, hbw, hfz, K, hKn, hgo⟩ := hopen
        have hsp := nodes_split j f
        have hnt := nodes_take j f hd
        have hn1 : nodes (f.drop j) = 1 + nodes kids + nodes (f.drop (j + 1)) := by rw [hd]; rfl
        have hkb : kk + 3 + 3 * nodes kids ≤ 1099511627776 := by have := HK.out; omega
        have HKK : Hid (kk + 3 + 3 * nodes kids = k0 + 3 * nodes (f.take (j + 1))) := Lib.hid (by omega)
        have C2 : ∀ w1, OwnS w1 kids A' cap' K → Calls Tryd.prog 29 #[.slice A' kids.len cap', .int .i64 ((kk : Int) + 1 + 1 + 1)] w1 fun e w' => MarkedS w1 kids A' cap' K (kk + 3) e w' := fun w1 ho => by
          have h := HH.out _ _ _ _ _ _ hd A' cap' (kk + 3) K w1 ho hKn (by omega) (by omega)
          rwa [show ((kk + 3 : Nat) : Int) = (kk : Int) + 1 + 1 + 1 by omega] at h
        have C1 : ∀ w1, Calls Tryd.prog 30 #[.int .i64 ((kk : Int) + 1 + 1)] w1 fun e w' => e = .returned (.string (mtext (kk + 2))) ∧ Below w1.heap.size w1 w' := fun w1 => by
          have h := markText_any (kk + 2) w1 (by omega) (by omega)
          rwa [show ((kk + 2 : Nat) : Int) = (kk : Int) + 1 + 1 by omega] at h
        have hf0 := hfz (j * 4)
        have hf1 := hfz (j * 4 + 1)
        have hf2 := hfz (j * 4 + 2)
        have HGO := Lib.hid hgo
        have H1 := Lib.hid C1
        have H2 := Lib.hid C2
        clear hp hfz hgo C1 C2 hKn hkk hsp hnt hn1 hd
        go_wp2_with fail
        refine (H1.out _).mono ?_
        rintro e w1 ⟨rfl, hb1⟩
        obtain ⟨⟨⟨v3, d2⟩, d4, d3⟩, how, hgo⟩ := HGO.out w1 (hb1.mono (by simp [World.setCell]))
        have HO := Lib.hid how
        have HG2 := Lib.hid hgo
        clear hb1 how hgo HGO c0 c1 c2 c3 hf0 hf1 hf2
        go_wp2_with fail
        refine (H2.out _ HO.out).mono ?_
        rintro e w4 ⟨rfl, ho4, hw4⟩
        have hm := HG2.out w4 ho4 hw4
        have HM := Lib.hid hm
        clear hm ho4 hw4 HG2 HO
        go_wp2_with fail
        go_roundw
        case rel => exact ⟨j + 1, kk + 3 + 3 * nodes kids, by omega, by go_num, rfl, HKK.out, HM.out⟩
        case measure => simp [intOf]; omega
      · obtain rfl : j = len := by omega
        have HE : Hid (kk = k0 + 3 * nodes f) := Lib.hid (by rw [hkk, ← HN.out, Fr.take_len])
        have HF := Lib.hid (HFIN.out wr hp)
        clear hp hkk
        go_wp2_with fail
        go_ret
        unfold MarkedS
        rw [← HE.out]
        exact ⟨rfl, HF.out⟩

theorem mark_all (N : Nat) : ∀ f : Fr, f.size ≤ N → MarkS f := by
  induction N with
  | zero =>
    intro f hf
    refine markS_of f fun i k n s kids rest hd => ?_
    have h1 := Fr.size_drop i f
    rw [hd] at h1
    simp only [Fr.size] at h1
    omega
  | succ N ih =>
    intro f hf
    refine markS_of f fun i k n s kids rest hd => ih kids ?_
    have h1 := Fr.size_drop i f
    rw [hd] at h1
    simp only [Fr.size] at h1
    omega
/-- laws.markTermS. -/
theorem markS_any (f : Fr) : MarkS f := mark_all f.size f (Nat.le_refl _)

set_option maxRecDepth 100000 in
set_option maxHeartbeats 1000000 in
/-- laws.markTerm: the kids are marked, the term itself is a copy. -/
theorem markT_any (kk nn : Int) (s : ByteArray) (f : Fr) (A : Option Addr) (cap k : Nat) (L : List Nat) (w : World) (ho : OwnS w f A cap L) (hn : L.Nodup) (hk : k + 3 * nodes f ≤ 1099511627776) (h0 : 0 < k) :
    Calls Tryd.prog 11 #[.agg #[.int .i64 kk, .int .i64 nn, .string s, .slice A f.len cap], .int .i64 (k : Int)] w fun e w' => MarkedS w f A cap L k e w' := by
  have C1 := fun w1 (hb : Wrote [] w w1) => markS_any f A cap k L w1 (ho.wrote hb fun x _ => by simp) hn hk h0
  have H1 := Lib.hid C1
  clear C1 ho hn hk h0
  go_enter Tryd.func11, Tryd.ntmps11
  go_wp2_with fail
  have hw1 := (Wrote.refl [] w).alloc (.cells #[.int .i64 kk, .int .i64 nn, .string s, .slice A f.len cap] 31)
  refine (H1.out _ hw1).mono ?_
  rintro e w2 ⟨rfl, ho2, hw2⟩
  have HM : Hid (MarkedS w f A cap L k (.returned (.int .i64 ((k + 3 * nodes f : Nat) : Int))) w2) := Lib.hid ⟨rfl, ho2, (hw1.more (fun x hx => by simp at hx)).trans hw2⟩
  clear ho2 hw2 hw1
  go_wp2_with fail
  go_ret
  exact HM.out
end Go.Proofs.YtkefpickpjjllaaDoor
