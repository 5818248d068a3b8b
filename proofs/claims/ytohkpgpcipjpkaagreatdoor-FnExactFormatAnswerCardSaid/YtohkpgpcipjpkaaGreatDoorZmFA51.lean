/- impl.termWriter.writeTerm of an opWriter, at every node that is no operator with two operands. Condition: the nodes lie in memory below the writer and are well-formed; the table of powers of ten in its variable. -/
import Derived.Test.YtohkpgpcipjpkaaGreatDoorProg
import Derived.Test.YtohkpgpcipjpkaaGreatDoorZmFA50
import Derived.Test.YtohkpgpcipjpkaaGreatDoorZmFA47
namespace Go.Proofs.YtohkpgpcipjpkaaGreatDoor.wr
open Go.RowKit

set_option maxRecDepth 100000 in
set_option maxHeartbeats 8000000 in
/-- termWriter.writeTerm. -/
theorem wterm_of (s : ByteArray) (f : Fr) (h : ∀ s' f', f'.size < f.size → OwC s' f') : WtC s f := by
  intro k n d v lo hi ob mb bs w hinf hs hv hh hw hl ht hnd
  obtain ⟨i0, hi0, hz0, hz1, hz2⟩ := info_parts infoU8
  have HINF := Lib.hid hinf
  clear hinf
  have hm0 : mb < w.heap.size := by obtain ⟨_, hq, _⟩ := hw; exact hq.lt
  have hkind := shapeT_kind3 hs
  rcases hv with ⟨rfl, rfl⟩ | ⟨rfl, rfl⟩ | ⟨rfl, A, cap, rfl, hnds⟩
  · have hn : 0 ≤ n ∧ n ≤ 25 := by omega
    have hT : Hid (txT 1 n s f = [UInt8.ofNat (65 + n.toNat)]) := Lib.hid (txT_var n s f)
    have hc : ((UInt8.ofNat (65 + n.toNat)).toNat : Int) = 65 + n := by rw [UInt8.toNat_ofNat']; omega
    have HC := Lib.hid hc
    have hl2 : bs.length ≤ 1073741824 := by omega
    generalize UInt8.ofNat (65 + n.toNat) = ch at *
    clear h hs hl ht hnd hkind hc
    obtain ⟨hn0, hn1⟩ := hn
    obtain ⟨tv1, hq1, ho1⟩ := hw
    obtain ⟨A1, c1, rfl, _, _⟩ := row_form ho1
    have p01 := hq1.cell 0
    have p11 := hq1.cell 1
    have pf1 := hq1.frozen 0
    simp only [List.getElem?_toArray, List.getElem?_cons_zero, List.getElem?_cons_succ] at p01 p11
    unfold fW at p11
    have hm1 := hq1.lt
    have HO1 := Lib.hid ho1
    have HQ1 := Lib.hid hq1
    clear hq1 ho1
    go_enter Tryz.func35, Tryz.ntmps35
    go_wp2_with (at_builtin; go_must (refine wpList_append_lies _ rfl _ _ _ rfl (mb + 1) 5 i0 _ 1 1 Tryz.underlying56 hi0 hz0 hz1 hz2 rfl (by omega) _ (bs).length (Lib.byteCells (bs)) rfl (HO1.out.alloc _) ⟨w.heap.size, 0, none⟩ 1 1 [.int .u8 (65 + n)] rfl rfl (World.news_of_block (cs := #[.int .u8 (65 + n)]) (t := 5) (fr := (0, 0)) (Blk.new w 5 #[.int .u8 (65 + n)])) (by simp [Value.oneCell']) (by omega) (by unfold maxLen; omega) (by omega) (by simp; omega) (w.heap.size + 1) (by simp) ?_); intro g1 cap1 w1 hown1 hgrow1 _ _; have hst1 := TW.step1 (c := ch) HQ1.out HO1.out HC.out hgrow1 hown1; have y1 := hst1.2.2.cell 0; have yf1 := hst1.2.2.frozen 0; simp only [List.getElem?_toArray, List.getElem?_cons_zero] at y1; have HS1 := Lib.hid (And.intro hst1.1 hst1.2.1); clear hown1 hgrow1 hst1; refine Hid.out ?_)
    refine Lib.hid ?_
    have HFN : Hid (TW ob mb (bs ++ txT 1 n s f) _ ∧ TF mb w _) := Lib.hid ⟨by rw [hT.out]; exact HS1.out.1, HS1.out.2⟩
    go_wp2_with fail
    go_end0
    exact ⟨rfl, HFN.out⟩
  · have hn : -999 ≤ n ∧ n ≤ 999 := by omega
    have hT : Hid (txT 2 n s f = Lib.itoa n) := Lib.hid (txT_int n s f)
    have hl2 : bs.length ≤ 1073741824 := by omega
    have HT := Lib.hid ht
    clear h hs hl hnd hkind ht
    obtain ⟨tv2, hq2, ho2⟩ := hw
    obtain ⟨A2, c2, rfl, _, _⟩ := row_form ho2
    have p02 := hq2.cell 0
    have p12 := hq2.cell 1
    have pf2 := hq2.frozen 0
    simp only [List.getElem?_toArray, List.getElem?_cons_zero, List.getElem?_cons_succ] at p02 p12
    unfold fW at p12
    have hm2 := hq2.lt
    have HO2 := Lib.hid ho2
    have HQ2 := Lib.hid hq2
    clear hq2 ho2
    have C1 := appInt_any (mb + 1) bs.length n (by omega) (by omega) (.slice A2 bs.length c2) (Lib.byteCells bs) w HO2.out (by omega) (by omega) fun w' hb => HT.out.1 w' (hb.mono (Nat.le_succ _))
    have H1 := Lib.hid C1
    clear C1 hn
    go_enter Tryz.func35, Tryz.ntmps35
    go_wp2_with fail
    refine H1.out.mono ?_
    rintro e w3 ⟨v3, rfl, ho3, hb3, hk3⟩
    have htf := TF.appInt hb3 hk3
    have hq3 : Blk w3 mb 62 #[.slice A2 bs.length c2, fW mb, .map (some ob)] := HQ2.out.keep (hb3.block mb (by omega))
    have hfin : TW ob mb (bs ++ txT 2 n s f) (w3.setCell ⟨mb, 0, none⟩ v3) ∧ TF mb w (w3.setCell ⟨mb, 0, none⟩ v3) := by
      refine ⟨⟨v3, ?_, ?_⟩, htf.set_ 0 _⟩
      · have h := hq3.set_ 0 v3
        simpa using h
      · rw [hT.out, byteCells_app, List.length_append]
        refine ho3.kept (row := some mb) ⟨rfl, rfl, rfl, by simp [World.setCell], fun k _ hk => ?_⟩ (.inr fun e => ?_)
        · exact heap_setCell_other _ _ _ _ fun e => hk (by rw [e])
        · have := (ho3.lt mb e).1
          omega
    obtain ⟨A3, c3, rfl, _, _⟩ := row_form ho3
    have x0 := hq3.cell 0
    have xf := hq3.frozen 0
    simp only [List.getElem?_toArray, List.getElem?_cons_zero] at x0
    have HFN := Lib.hid hfin
    clear htf hfin ho3 hb3 hk3 hq3
    generalize (Lib.itoa n).length = il at *
    go_wp2_with fail
    go_end0
    exact ⟨rfl, HFN.out⟩
  · have hs3 := shapeT_struct hs
    have hs6 := nameB_size hs3.2.1
    have hspos : 0 < s.size := by
      have h1 : s.data.toList.length = s.size := rfl
      have h2 := List.length_pos_iff.2 (name_pos3 hs3.2.1)
      omega
    have hv3 : NdV w lo hi 3 n s f (.iface 78 (.agg #[.string s, .slice A f.len cap])) := .inr (.inr ⟨rfl, A, cap, rfl, hnds⟩)
    have hb0 : Below w.heap.size w (w.alloc (.cells #[.string s, .slice A f.len cap] 78)) := (Below.refl _ _).alloc (Nat.le_refl _) _
    have hq0 := Blk.new w 78 #[.string s, .slice A f.len cap]
    have C1 := split2_any 3 n s f (.iface 78 (.agg #[.string s, .slice A f.len cap])) lo hi (w.alloc (.cells #[.string s, .slice A f.len cap] 78)) (hv3.keep (fun p _ hp => hb0.cell (by omega)) (Nat.le_refl _) (Nat.le_refl _)) (Nat.le_trans (by omega) hb0.size) hnd
    have H1 := Lib.hid C1
    have HB0 := Lib.hid hb0
    have HQ0 := Lib.hid hq0
    have HW := Lib.hid hw
    have HH := Lib.hid h
    have HSH := Lib.hid hs
    have HT := Lib.hid ht
    have HND := Lib.hid hnds
    have HLL := Lib.hid hl
    have HN := Lib.hid hnd
    have hfl := Nat.le_trans hnds.1 hnds.2.1
    clear C1 hb0 hq0 h hs ht hnds hl hv3 hkind hnd hw
    go_enter Tryz.func35, Tryz.ntmps35
    go_wp2_with fail
    refine H1.out.mono ?_
    rintro e w2 ⟨hb2, v2, tl, rfl, ⟨xs, hown, hD⟩, k', n', s', f', htl, hv'⟩
    have hbw := HB0.out.trans (hb2.mono HB0.out.size)
    have hq2 := HQ0.out.below hb2 HQ0.out.lt
    have hw2 := HW.out.below hbw
    have htf2 := TF.below hbw (Nat.le_of_lt hm0)
    have hs2 := hbw.size
    obtain ⟨T9, x9, rfl⟩ := hv'.iface
    have z0 := hq2.cell 0
    have z1 := hq2.cell 1
    simp only [List.getElem?_toArray, List.getElem?_cons_zero, List.getElem?_cons_succ] at z0 z1
    have HQ2 := Lib.hid hq2
    have HTF2 := Lib.hid htf2
    have HW2 := Lib.hid hw2
    cases hp : pairB 3 s f.len
    · have hfr := (pair_no n hp).1
      have HTX : Hid (txT 3 n s f = s.data.toList ++ argsB (txs f)) := Lib.hid (txT_str hp HINF.out)
      have HAM := Lib.hid (argsB_more f)
      rw [hfr] at hown
      obtain ⟨A9, c9, rfl, _, _⟩ := row_form hown
      have ez : (Fr.nil.len : Int) = 0 := rfl
      have hl6 : bs.length + s.size ≤ 1073741824 := by
        have h := HLL.out
        rw [HTX.out, List.length_append] at h
        have h1 : s.data.toList.length = s.size := rfl
        omega
      have hsb : w.heap.size ≠ mb := by omega
      clear hown hD hb2 hv' htl hq2 htf2 hbw hp hfr hs3
      obtain ⟨tv3, hq3, ho3⟩ := hw2
      obtain ⟨A3, c3, rfl, _, _⟩ := row_form ho3
      have p03 := hq3.cell 0
      have p13 := hq3.cell 1
      have pf3 := hq3.frozen 0
      simp only [List.getElem?_toArray, List.getElem?_cons_zero, List.getElem?_cons_succ] at p03 p13
      unfold fW at p13
      have hm3 := hq3.lt
      have HO3 := Lib.hid ho3
      have HQ3 := Lib.hid hq3
      clear hq3 ho3
      go_wp2_with fail
      go_region_law
        (first
          | (refine step_append_str (w2.drew) (by rfl) _ _ _ _ (by rfl) (mb + 1) 5 i0 Tryz.underlying56 Tryz.underlying9 hi0 hz0 hz1 hz2 _ bs.length (Lib.byteCells bs) (by rfl) HO3.out.drew s (by rfl) hspos (by unfold maxLen; omega) (by omega) (by show mb + 1 ≤ w2.heap.size; omega) ?_
             intro g6 cap6 w6 hown6 hgrow6
             have hst6 := TW.step (add := s.data.toList) HQ3.out HO3.out (Below.refl w2.heap.size w2).drew hgrow6 hown6
             have hmd6 := TW.mid HQ3.out HO3.out (Below.refl w2.heap.size w2).drew hgrow6
             have hq6 := hmd6.blk HQ2.out hsb (by decide)
             have y6 := hst6.2.2.cell 0
             have yf6 := hst6.2.2.frozen 0
             have u6 := hq6.cell 0
             simp only [List.getElem?_toArray, List.getElem?_cons_zero] at y6 u6
             have v6 := (hst6.2.1.blk HQ2.out hsb (by decide)).cell 0
             simp only [List.getElem?_toArray, List.getElem?_cons_zero] at v6
             have HS6 := Lib.hid (And.intro hst6.1 hst6.2.1)
             clear hown6 hgrow6 hst6 hmd6 hq6))
      all_goals
        have HX6 : Hid (TW ob mb (bs ++ s.data.toList) (w6.setCell ⟨mb, 0, none⟩ (.slice (some ⟨g6, 0, none⟩) (bs.length + s.size) cap6)) ∧ TF mb w2 (w6.setCell ⟨mb, 0, none⟩ (.slice (some ⟨g6, 0, none⟩) (bs.length + s.size) cap6))) := HS6
        clear HS6 y6 u6 v6 yf6 z0 z1 p03 p13 pf3
        generalize w6.setCell ⟨mb, 0, none⟩ (.slice (some ⟨g6, 0, none⟩) (bs.length + s.size) cap6) = W6 at *
        have hq6 := HX6.out.2.blk HQ2.out hsb (by decide)
        have zz1 := hq6.cell 1
        simp only [List.getElem?_toArray, List.getElem?_cons_zero, List.getElem?_cons_succ] at zz1
        have HQ6 := Lib.hid hq6
        have HTF6 := Lib.hid (HTF2.out.trans HX6.out.2)
        have hm6 : mb < W6.heap.size := Nat.lt_of_lt_of_le hm0 HTF6.out.1.size
        clear hq6
        by_cases h0 : f.len = 0
        · have HV : Hid (txT 3 n s f = s.data.toList) := Lib.hid (by rw [HTX.out, HAM.out, if_pos h0, List.append_nil])
          have HFN : Hid (TW ob mb (bs ++ txT 3 n s f) W6 ∧ TF mb w W6) := Lib.hid (by rw [HV.out]; exact ⟨HX6.out.1, HTF6.out⟩)
          rw [h0] at zz1
          have t0 : ¬ (0 : Int) < ((0 : Nat) : Int) := by decide
          clear h0
          go_wp2_with fail
          go_end0
          exact ⟨rfl, HFN.out⟩
        · have hB : bs ++ txT 3 n s f = bs ++ s.data.toList ++ [40] ++ remB 0 f ++ [41] := by rw [HTX.out, HAM.out, if_neg h0, moreB_rem f h0]; simp
          have HBE := Lib.hid hB
          have hlB : bs.length + s.size + 2 + (remB 0 f).length ≤ 1073741824 := by
            have h1 := congrArg List.length hB
            have h2 := HLL.out
            have h3 : s.data.toList.length = s.size := rfl
            simp only [List.length_append, List.length_cons, List.length_nil] at h1 h2
            omega
          have t0 : (0 : Int) < (f.len : Int) := by omega
          have hw6 := HX6.out.1
          generalize hB1 : bs ++ s.data.toList = B1 at *
          have hlb1 : B1.length ≤ bs.length + s.size := by rw [← hB1, List.length_append]; exact Nat.le_refl _
          have HB1 := Lib.hid hB1
          clear hB1 hB h0
          obtain ⟨tv7, hq7, ho7⟩ := hw6
          obtain ⟨A7, c7, rfl, _, _⟩ := row_form ho7
          have p07 := hq7.cell 0
          have p17 := hq7.cell 1
          have pf7 := hq7.frozen 0
          simp only [List.getElem?_toArray, List.getElem?_cons_zero, List.getElem?_cons_succ] at p07 p17
          unfold fW at p17
          have hm7 := hq7.lt
          have HO7 := Lib.hid ho7
          have HQ7 := Lib.hid hq7
          clear hq7 ho7
          go_wp2_with (at_builtin; go_must (refine wpList_append_lies _ rfl _ _ _ rfl (mb + 1) 5 i0 _ 1 1 Tryz.underlying56 hi0 hz0 hz1 hz2 rfl (by omega) _ (B1).length (Lib.byteCells (B1)) rfl (HO7.out.alloc _) ⟨W6.heap.size, 0, none⟩ 1 1 [.int .u8 40] rfl rfl (World.news_of_block (cs := #[.int .u8 40]) (t := 5) (fr := (0, 0)) (Blk.new W6 5 #[.int .u8 40])) (by simp [Value.oneCell']) (by omega) (by unfold maxLen; omega) (by omega) (by simp; omega) (W6.heap.size + 1) (by simp) ?_); intro g7 cap7 w7 hown7 hgrow7 _ _; have hst7 := TW.step1 (c := 40) HQ7.out HO7.out rfl hgrow7 hown7; have y7 := hst7.2.2.cell 0; have yf7 := hst7.2.2.frozen 0; simp only [List.getElem?_toArray, List.getElem?_cons_zero] at y7; have HS7 := Lib.hid (And.intro hst7.1 hst7.2.1); clear hown7 hgrow7 hst7; refine Hid.out ?_)
          refine Lib.hid ?_
          have hq7 := HS7.out.2.blk HQ6.out hsb (by decide)
          have zz7 := hq7.cell 1
          simp only [List.getElem?_toArray, List.getElem?_cons_zero, List.getElem?_cons_succ] at zz7
          have HTF7 := Lib.hid (HTF6.out.trans HS7.out.2)
          have C8 := parts_of f (fun j k n s kids rest hd => HH.out s kids (by have h1 := Fr.size_drop j f; rw [hd] at h1; simp only [Fr.size] at h1; omega)) (d - 1) A cap lo hi ob mb (B1 ++ [40]) _ (shapeT_kids HSH.out) (PR.old (HND.out.keep (fun p _ hp => HTF7.out.1.cell (by omega)) (Nat.le_refl _) (Nat.le_refl _)) hh) hh HS7.out.1 (by simp only [List.length_append, List.length_cons, List.length_nil]; omega) (HT.out.on HTF7.out.1) HN.out
          have H8 := Lib.hid C8
          clear C8 hq7 zz1
          go_wp2_with fail
          refine H8.out.mono ?_
          rintro e w8 ⟨rfl, hw8, htf8⟩
          have HTF8 := Lib.hid (HTF7.out.trans htf8)
          have hz8 : (B1 ++ [40] ++ remB 0 f).length ≤ 1073741824 := by simp only [List.length_append, List.length_cons, List.length_nil]; omega
          clear htf8
          generalize hB8 : B1 ++ [40] ++ remB 0 f = B8 at *
          have HB8 := Lib.hid hB8
          clear hB8
          obtain ⟨tv9, hq9, ho9⟩ := hw8
          obtain ⟨A9, c9, rfl, _, _⟩ := row_form ho9
          have p09 := hq9.cell 0
          have p19 := hq9.cell 1
          have pf9 := hq9.frozen 0
          simp only [List.getElem?_toArray, List.getElem?_cons_zero, List.getElem?_cons_succ] at p09 p19
          unfold fW at p19
          have hm9 := hq9.lt
          have HO9 := Lib.hid ho9
          have HQ9 := Lib.hid hq9
          clear hq9 ho9
          go_wp2_with (at_builtin; go_must (refine wpList_append_lies _ rfl _ _ _ rfl (mb + 1) 5 i0 _ 1 1 Tryz.underlying56 hi0 hz0 hz1 hz2 rfl (by omega) _ (B8).length (Lib.byteCells (B8)) rfl (HO9.out.alloc _) ⟨w8.heap.size, 0, none⟩ 1 1 [.int .u8 41] rfl rfl (World.news_of_block (cs := #[.int .u8 41]) (t := 5) (fr := (0, 0)) (Blk.new w8 5 #[.int .u8 41])) (by simp [Value.oneCell']) (by omega) (by unfold maxLen; omega) (by omega) (by simp; omega) (w8.heap.size + 1) (by simp) ?_); intro g9 cap9 w9 hown9 hgrow9 _ _; have hst9 := TW.step1 (c := 41) HQ9.out HO9.out rfl hgrow9 hown9; have y9 := hst9.2.2.cell 0; have yf9 := hst9.2.2.frozen 0; simp only [List.getElem?_toArray, List.getElem?_cons_zero] at y9; have HS9 := Lib.hid (And.intro hst9.1 hst9.2.1); clear hown9 hgrow9 hst9; refine Hid.out ?_)
          refine Lib.hid ?_
          have HFN : Hid (TW ob mb (bs ++ txT 3 n s f) _ ∧ TF mb w _) := Lib.hid ⟨by
            have e : B8 ++ [41] = bs ++ txT 3 n s f := by rw [HBE.out, ← HB8.out]
            rw [← e]; exact HS9.out.1, HTF8.out.trans HS9.out.2⟩
          go_wp2_with fail
          go_end0
          exact ⟨rfl, HFN.out⟩
    · obtain ⟨A9, c9, rfl, hPR⟩ := PR.new hown hD hb2 hh (by have := HB0.out.size; omega)
      have hpos : (fronts 3 s f).len ≠ 0 := by
        obtain ⟨k1, n1, s1, kd1, r, hf, _⟩ := txT_list hp htl
        rw [hf]; simp [Fr.len]
      obtain ⟨nf1, nf2⟩ := fr_nodes f.size 3 n s f (Nat.le_refl _)
      have C3 := wlist_of 3 n d s f hp HSH.out HH.out A9 c9 lo hi ob mb bs w2 hPR k' n' s' f' htl (.iface T9 x9) (hv'.keep (fun p _ hp => hb2.cell (by have := HB0.out.size; omega)) (Nat.le_refl _) (Nat.le_refl _)) hh hw2 HLL.out (HT.out.on htf2.1) (Nat.le_trans nf1 HN.out) (Nat.le_trans (nf2 k' n' s' f' htl) HN.out)
      have t0 : (0 : Int) < ((fronts 3 s f).len : Int) := by omega
      have H3 := Lib.hid C3
      clear C3 hown hD hb2 hv' htl hq2 htf2 hbw hp hs3 hw2 hPR hpos nf1 nf2
      generalize (fronts 3 s f).len = fl at *
      go_wp2_with fail
      refine H3.out.mono ?_
      rintro e w3 ⟨rfl, hw3, htf3⟩
      have HFN : Hid (TW ob mb (bs ++ txT 3 n s f) w3 ∧ TF mb w w3) := Lib.hid ⟨hw3, HTF2.out.trans htf3⟩
      clear hw3 htf3
      go_wp2_with fail
      first
        | (go_end0; exact ⟨rfl, HFN.out⟩)
        | ((try simp only [Exit.inBlock, Exit.then]); refine bodyPost_ret (results_none rfl _ _ _) rfl ?_; exact ⟨rfl, HFN.out⟩)
end Go.Proofs.YtohkpgpcipjpkaaGreatDoor.wr

/- impl.canFollowOperator, operator.rightLevel, opWriter.named, opWriter.operandLevel. Condition: the node lies in memory, the map of operators in the writer's block. -/
namespace Go.Proofs.YtohkpgpcipjpkaaGreatDoor.wr
open Go.RowKit Go.Maps

set_option maxHeartbeats 1000000 in
/-- impl.isLetter. -/
theorem letterI_any (c : UInt8) (w : World) : Calls Tryz.prog 75 #[.int .u8 (c.toNat : Int)] w fun e w' => e = .returned (.bool (smC c)) ∧ w' = w := by
  have HV : Hid (smC c = (decide (97 ≤ c.toNat) && decide (c.toNat ≤ 122))) := Lib.hid rfl
  by_cases h1 : 97 ≤ c.toNat
  · by_cases h2 : c.toNat ≤ 122
    · have HW : Hid (smC c = true) := Lib.hid (by rw [HV.out, decide_eq_true h1, decide_eq_true h2]; rfl)
      have b1 : decide ((97 : Int) ≤ (c.toNat : Int)) = true := by simp; omega
      have b2 : decide ((c.toNat : Int) ≤ 122) = true := by simp; omega
      clear HV h1 h2
      go_enter Tryz.func75, Tryz.ntmps75
      go_wp2_with fail
      go_ret
      rw [HW.out]; exact ⟨rfl, rfl⟩
    · have HW : Hid (smC c = false) := Lib.hid (by rw [HV.out, decide_eq_true h1, decide_eq_false h2]; rfl)
      have b1 : decide ((97 : Int) ≤ (c.toNat : Int)) = true := by simp; omega
      have b2 : decide ((c.toNat : Int) ≤ 122) = false := by simp; omega
      clear HV h1 h2
      go_enter Tryz.func75, Tryz.ntmps75
      go_wp2_with fail
      go_ret
      rw [HW.out]; exact ⟨rfl, rfl⟩
  · have HW : Hid (smC c = false) := Lib.hid (by rw [HV.out, decide_eq_false h1]; rfl)
    have b1 : decide ((97 : Int) ≤ (c.toNat : Int)) = false := by simp; omega
    clear HV h1
    go_enter Tryz.func75, Tryz.ntmps75
    go_wp2_with fail
    go_ret
    rw [HW.out]; exact ⟨rfl, rfl⟩
set_option maxHeartbeats 1000000 in
/-- impl.isDigit. -/
theorem digitI_any (c : UInt8) (w : World) : Calls Tryz.prog 76 #[.int .u8 (c.toNat : Int)] w fun e w' => e = .returned (.bool (dgC c)) ∧ w' = w := by
  have HV : Hid (dgC c = (decide (48 ≤ c.toNat) && decide (c.toNat ≤ 57))) := Lib.hid rfl
  by_cases h1 : 48 ≤ c.toNat
  · by_cases h2 : c.toNat ≤ 57
    · have HW : Hid (dgC c = true) := Lib.hid (by rw [HV.out, decide_eq_true h1, decide_eq_true h2]; rfl)
      have b1 : decide ((48 : Int) ≤ (c.toNat : Int)) = true := by simp; omega
      have b2 : decide ((c.toNat : Int) ≤ 57) = true := by simp; omega
      clear HV h1 h2
      go_enter Tryz.func76, Tryz.ntmps76
      go_wp2_with fail
      go_ret
      rw [HW.out]; exact ⟨rfl, rfl⟩
    · have HW : Hid (dgC c = false) := Lib.hid (by rw [HV.out, decide_eq_true h1, decide_eq_false h2]; rfl)
      have b1 : decide ((48 : Int) ≤ (c.toNat : Int)) = true := by simp; omega
      have b2 : decide ((c.toNat : Int) ≤ 57) = false := by simp; omega
      clear HV h1 h2
      go_enter Tryz.func76, Tryz.ntmps76
      go_wp2_with fail
      go_ret
      rw [HW.out]; exact ⟨rfl, rfl⟩
  · have HW : Hid (dgC c = false) := Lib.hid (by rw [HV.out, decide_eq_false h1]; rfl)
    have b1 : decide ((48 : Int) ≤ (c.toNat : Int)) = false := by simp; omega
    clear HV h1
    go_enter Tryz.func76, Tryz.ntmps76
    go_wp2_with fail
    go_ret
    rw [HW.out]; exact ⟨rfl, rfl⟩
set_option maxHeartbeats 2000000 in
/-- impl.canFollowOperator. -/
theorem follow_any (c : UInt8) (w : World) : Calls Tryz.prog 59 #[.int .u8 (c.toNat : Int)] w fun e w' => e = .returned (.bool (plC c)) ∧ w' = w := by
  have C1 := letterI_any c w
  have C2 := digitI_any c w
  have HV := Lib.hid (plC_of c)
  cases b1 : smC c
  · rw [b1] at C1
    by_cases h1 : 65 ≤ c.toNat
    · by_cases h2 : c.toNat ≤ 90
      · have HW : Hid (plC c = true) := Lib.hid (by rw [HV.out, decide_eq_true h1, decide_eq_true h2]; simp)
        have d1 : decide ((65 : Int) ≤ (c.toNat : Int)) = true := by simp; omega
        have d2 : decide ((c.toNat : Int) ≤ 90) = true := by simp; omega
        have H1 := Lib.hid C1
        clear C1 C2 b1 HV h1 h2
        go_enter Tryz.func59, Tryz.ntmps59
        go_wp2_with (first
          | (go_at_call 75; refine H1.out.mono ?_; rintro e w' ⟨rfl, rfl⟩)
          | fail)
        go_ret
        rw [HW.out]; exact ⟨rfl, rfl⟩
      · have d1 : decide ((65 : Int) ≤ (c.toNat : Int)) = true := by simp; omega
        have d2 : decide ((c.toNat : Int) ≤ 90) = false := by simp; omega
        have HV2 : Hid (plC c = (dgC c || (((c.toNat : Int) == 91) || ((c.toNat : Int) == 40)))) := Lib.hid (by rw [HV.out, b1, decide_eq_true h1, decide_eq_false h2]; simp)
        have H1 := Lib.hid C1
        have H2 := Lib.hid C2
        clear C1 C2 b1 HV h1 h2
        cases b2 : dgC c <;> rw [b2] at H2 HV2
        · cases b3 : ((c.toNat : Int) == 91) <;> rw [b3] at HV2
          · have HW : Hid (plC c = ((c.toNat : Int) == 40)) := Lib.hid (by rw [HV2.out]; simp)
            clear HV2 b2
            cases b4 : ((c.toNat : Int) == 40) <;> rw [b4] at HW
            · go_enter Tryz.func59, Tryz.ntmps59
              go_wp2_with (first
                | (go_at_call 75; refine H1.out.mono ?_; rintro e w' ⟨rfl, rfl⟩)
                | (go_at_call 76; refine H2.out.mono ?_; rintro e w' ⟨rfl, rfl⟩)
                | fail)
              go_ret
              rw [HW.out]; exact ⟨rfl, rfl⟩
            · go_enter Tryz.func59, Tryz.ntmps59
              go_wp2_with (first
                | (go_at_call 75; refine H1.out.mono ?_; rintro e w' ⟨rfl, rfl⟩)
                | (go_at_call 76; refine H2.out.mono ?_; rintro e w' ⟨rfl, rfl⟩)
                | fail)
              go_ret
              rw [HW.out]; exact ⟨rfl, rfl⟩
          · have HW : Hid (plC c = true) := Lib.hid (by rw [HV2.out]; simp)
            clear HV2 b2
            go_enter Tryz.func59, Tryz.ntmps59
            go_wp2_with (first
              | (go_at_call 75; refine H1.out.mono ?_; rintro e w' ⟨rfl, rfl⟩)
              | (go_at_call 76; refine H2.out.mono ?_; rintro e w' ⟨rfl, rfl⟩)
              | fail)
            go_ret
            rw [HW.out]; exact ⟨rfl, rfl⟩
        · have HW : Hid (plC c = true) := Lib.hid (by rw [HV2.out]; simp)
          clear HV2 b2
          go_enter Tryz.func59, Tryz.ntmps59
          go_wp2_with (first
            | (go_at_call 75; refine H1.out.mono ?_; rintro e w' ⟨rfl, rfl⟩)
            | (go_at_call 76; refine H2.out.mono ?_; rintro e w' ⟨rfl, rfl⟩)
            | fail)
          go_ret
          rw [HW.out]; exact ⟨rfl, rfl⟩
    · have d1 : decide ((65 : Int) ≤ (c.toNat : Int)) = false := by simp; omega
      have HV2 : Hid (plC c = (dgC c || (((c.toNat : Int) == 91) || ((c.toNat : Int) == 40)))) := Lib.hid (by rw [HV.out, b1, decide_eq_false h1]; simp)
      have H1 := Lib.hid C1
      have H2 := Lib.hid C2
      clear C1 C2 b1 HV h1
      cases b2 : dgC c <;> rw [b2] at H2 HV2
      · cases b3 : ((c.toNat : Int) == 91) <;> rw [b3] at HV2
        · have HW : Hid (plC c = ((c.toNat : Int) == 40)) := Lib.hid (by rw [HV2.out]; simp)
          clear HV2 b2
          cases b4 : ((c.toNat : Int) == 40) <;> rw [b4] at HW
          · go_enter Tryz.func59, Tryz.ntmps59
            go_wp2_with (first
              | (go_at_call 75; refine H1.out.mono ?_; rintro e w' ⟨rfl, rfl⟩)
              | (go_at_call 76; refine H2.out.mono ?_; rintro e w' ⟨rfl, rfl⟩)
              | fail)
            go_ret
            rw [HW.out]; exact ⟨rfl, rfl⟩
          · go_enter Tryz.func59, Tryz.ntmps59
            go_wp2_with (first
              | (go_at_call 75; refine H1.out.mono ?_; rintro e w' ⟨rfl, rfl⟩)
              | (go_at_call 76; refine H2.out.mono ?_; rintro e w' ⟨rfl, rfl⟩)
              | fail)
            go_ret
            rw [HW.out]; exact ⟨rfl, rfl⟩
        · have HW : Hid (plC c = true) := Lib.hid (by rw [HV2.out]; simp)
          clear HV2 b2
          go_enter Tryz.func59, Tryz.ntmps59
          go_wp2_with (first
            | (go_at_call 75; refine H1.out.mono ?_; rintro e w' ⟨rfl, rfl⟩)
            | (go_at_call 76; refine H2.out.mono ?_; rintro e w' ⟨rfl, rfl⟩)
            | fail)
          go_ret
          rw [HW.out]; exact ⟨rfl, rfl⟩
      · have HW : Hid (plC c = true) := Lib.hid (by rw [HV2.out]; simp)
        clear HV2 b2
        go_enter Tryz.func59, Tryz.ntmps59
        go_wp2_with (first
          | (go_at_call 75; refine H1.out.mono ?_; rintro e w' ⟨rfl, rfl⟩)
          | (go_at_call 76; refine H2.out.mono ?_; rintro e w' ⟨rfl, rfl⟩)
          | fail)
        go_ret
        rw [HW.out]; exact ⟨rfl, rfl⟩
  · rw [b1] at C1
    have HW : Hid (plC c = true) := Lib.hid (by rw [HV.out, b1]; rfl)
    have H1 := Lib.hid C1
    clear C1 C2 b1 HV
    go_enter Tryz.func59, Tryz.ntmps59
    go_wp2_with (first
      | (go_at_call 75; refine H1.out.mono ?_; rintro e w' ⟨rfl, rfl⟩)
      | fail)
    go_ret
    rw [HW.out]; exact ⟨rfl, rfl⟩
/-- operator.rightLevel. -/
theorem rightLv_any (a b : ByteArray) (l : Int) (hl : 0 ≤ l ∧ l ≤ 3) (w : World) :
    Calls Tryz.prog 38 #[.agg #[.string a, .string b, .int .i64 l]] w fun e w' => e = .returned (.int .i64 (l - 1)) ∧ Below w.heap.size w w' := by
  have hb0 : ∀ o, Below w.heap.size w (w.alloc o) := fun o => (Below.refl _ _).alloc (Nat.le_refl _) _
  have HB := Lib.hid hb0
  clear hb0
  obtain ⟨h0, h1⟩ := hl
  go_enter Tryz.func38, Tryz.ntmps38
  go_wp2_with fail
  go_ret
  exact ⟨rfl, HB.out _⟩
theorem lmin_lfl (l : Int) (h : l ≤ 3) : op.lmin l = lfl l := by
  unfold op.lmin lfl
  split <;> split <;> omega
end Go.Proofs.YtohkpgpcipjpkaaGreatDoor.wr

/- What opWriter.named leaves. No condition. -/
namespace Go.Proofs.YtohkpgpcipjpkaaGreatDoor.wr
open Go.RowKit Go.Maps

theorem results_cells2s {P : Program} {fn : Func} {p q u : Tmp} {ty ty' : TypeId} (h : fn.results = #[.cell p ty, .cell q ty', .tmp u]) (tmps : Array Value) (w : World) (g g' : Nat) (t t' : TypeId) (cs cs' : Array Value) (d d' : TypeDesc)
    (hp : tmps.getD p undef = .pointer (some ⟨g, 0, none⟩)) (hq : tmps.getD q undef = .pointer (some ⟨g', 0, none⟩)) (hg : Blk w g t cs) (hg' : Blk w g' t' cs')
    (hu : P.underlying ty = some d) (hd : (match d with | .struct _ | .array _ _ => true | _ => false) = true) (hi : (P.info? ty).map (·.size) = some cs.size)
    (hu' : P.underlying ty' = some d') (hd' : (match d' with | .struct _ | .array _ _ => true | _ => false) = true) (hi' : (P.info? ty').map (·.size) = some cs'.size) :
    (results fn tmps).run P w = .ok (.tuple #[.agg cs, .agg cs', tmps.getD u undef]) w := by
  have hp' : tmps[p]?.getD undef = .pointer (some ⟨g, 0, none⟩) := by simpa using hp
  have hq' : tmps[q]?.getD undef = .pointer (some ⟨g', 0, none⟩) := by simpa using hq
  simp [results, h, hp', hq', asAddr, run_loadVar_row w g t ty cs (0, 0) d hg hu hd hi, run_loadVar_row w g' t' ty' cs' (0, 0) d' hg' hu' hd' hi']

/-- What opWriter.named leaves. -/
def NmR (w : World) (k : Int) (s : ByteArray) (A : Option Addr) (len cap : Nat) (e : Ending) (w' : World) : Prop :=
  Below w.heap.size w w' ∧ ((k = 3 ∧ 0 < op.level s.data.toList ∧ ∃ a, e = .returned (.tuple #[.agg #[.string s, .slice A len cap], .agg #[.string a, .string ⟨(spB s.data.toList).toArray⟩, .int .i64 (op.level s.data.toList)], .bool true])) ∨
    ((k = 3 → op.level s.data.toList = 0) ∧ ∃ x1 x2 x3 x4 y1 y2 y3, e = .returned (.tuple #[.agg #[.string x1, .slice x2 x3 x4], .agg #[.string y1, .string y2, .int .i64 y3], .bool false])))

/-- The two results' blocks are written. -/
def nmW (w2 : World) (g : Nat) (a b c d e : Value) : World := ((((w2.setCell ⟨g, 0, none⟩ a).setCell ⟨g, 1, none⟩ b).setCell ⟨g + 1, 0, none⟩ c).setCell ⟨g + 1, 1, none⟩ d).setCell ⟨g + 1, 2, none⟩ e
theorem nm_store {w w2 : World} {a b c d e : Value} {t t' : TypeId} (hb : Below w.heap.size w w2) (h1 : Blk w2 w.heap.size t #[a, b]) (h2 : Blk w2 (w.heap.size + 1) t' #[c, d, e]) (a' b' c' d' e' : Value) :
    Blk (nmW w2 w.heap.size a' b' c' d' e') w.heap.size t #[a', b'] ∧ Blk (nmW w2 w.heap.size a' b' c' d' e') (w.heap.size + 1) t' #[c', d', e'] ∧ Below w.heap.size w (nmW w2 w.heap.size a' b' c' d' e') := by
  unfold nmW
  exact ⟨((((h1.set_ 0 a').set_ 1 b').far (by simp) _).far (by simp) _).far (by simp) _, ((((h2.far (by simp) _).far (by simp) _).set_ 0 c').set_ 1 d').set_ 2 e', ((((hb.setCell (by simp) _).setCell (by simp) _).setCell (by simp) _).setCell (by simp) _).setCell (by simp) _⟩

end Go.Proofs.YtohkpgpcipjpkaaGreatDoor.wr

/- opWriter.named of a structure whose name is an operator. Condition: the map of operators in the writer's block. -/
namespace Go.Proofs.YtohkpgpcipjpkaaGreatDoor.wr
open Go.RowKit Go.Maps

set_option maxRecDepth 100000 in
set_option maxHeartbeats 4000000 in
/-- opWriter.named of a structure whose name is an operator. -/
theorem named_yes (s : ByteArray) (hs : s.size ≤ maxLen) (A : Option Addr) (len cap ob mb : Nat) (tv fv : Value) (w : World) (hq : Blk w mb 62 #[tv, fv, .map (some ob)]) (hm : op.OpM w ob) (hpos : 0 < op.level s.data.toList) :
    Calls Tryz.prog 34 #[.pointer (some ⟨mb, 0, none⟩), .iface 78 (.agg #[.string s, .slice A len cap])] w fun e w' => NmR w 3 s A len cap e w' := by
  have hml := hq.lt
  have c2 := hq.cell 2
  simp only [List.getElem?_toArray, List.getElem?_cons_zero, List.getElem?_cons_succ] at c2
  have hkey := op.key_ok s hs
  have HM := Lib.hid hm
  have HQ := Lib.hid hq
  have hal : (op.opD2 14).atKey (.string s.data.toList) op.opZ = .agg [.lit (.string s.data.toList), .lit (.string (spB s.data.toList)), .lit (.int .i64 (op.level s.data.toList))] ∧ has (op.opD2 14) (.string s.data.toList) = true := by
    rcases op.at2_all s.data.toList with ⟨_, h⟩ | ⟨h, _⟩
    · exact h
    · omega
  have HAL := Lib.hid hal
  have HPOS := Lib.hid hpos
  clear hm hq hal hs hpos
  go_enter Tryz.func34, Tryz.ntmps34
  go_wp2_with fail
  have hb3 : Below w.heap.size w (((w.alloc (.cells #[.string ⟨#[]⟩, .slice none 0 0] 78)).alloc (.cells #[.string ⟨#[]⟩, .string ⟨#[]⟩, .int .i64 0] 87)).alloc (.cells #[.string s, .slice A len cap] 78)) :=
    (((Below.refl _ _).alloc (Nat.le_refl _) _).alloc (by simp) _).alloc (by simp; omega) _
  have q1 : Blk (((w.alloc (.cells #[.string ⟨#[]⟩, .slice none 0 0] 78)).alloc (.cells #[.string ⟨#[]⟩, .string ⟨#[]⟩, .int .i64 0] 87)).alloc (.cells #[.string s, .slice A len cap] 78)) w.heap.size 78 #[.string ⟨#[]⟩, .slice none 0 0] :=
    ((Blk.new w _ _).alloc _).alloc _
  have q2 : Blk (((w.alloc (.cells #[.string ⟨#[]⟩, .slice none 0 0] 78)).alloc (.cells #[.string ⟨#[]⟩, .string ⟨#[]⟩, .int .i64 0] 87)).alloc (.cells #[.string s, .slice A len cap] 78)) (w.heap.size + 1) 87 #[.string ⟨#[]⟩, .string ⟨#[]⟩, .int .i64 0] := by
    have h := (Blk.new (w.alloc (.cells #[.string ⟨#[]⟩, .slice none 0 0] 78)) 87 #[.string ⟨#[]⟩, .string ⟨#[]⟩, .int .i64 0]).alloc (.cells #[.string s, .slice A len cap] 78)
    simpa using h
  have q3 : Blk (((w.alloc (.cells #[.string ⟨#[]⟩, .slice none 0 0] 78)).alloc (.cells #[.string ⟨#[]⟩, .string ⟨#[]⟩, .int .i64 0] 87)).alloc (.cells #[.string s, .slice A len cap] 78)) (w.heap.size + 1 + 1) 78 #[.string s, .slice A len cap] := by
    have h := Blk.new ((w.alloc (.cells #[.string ⟨#[]⟩, .slice none 0 0] 78)).alloc (.cells #[.string ⟨#[]⟩, .string ⟨#[]⟩, .int .i64 0] 87)) 78 #[.string s, .slice A len cap]
    simpa using h
  have hm3 : op.OpM (((w.alloc (.cells #[.string ⟨#[]⟩, .slice none 0 0] 78)).alloc (.cells #[.string ⟨#[]⟩, .string ⟨#[]⟩, .int .i64 0] 87)).alloc (.cells #[.string s, .slice A len cap] 78)) ob := ((HM.out.alloc _).alloc _).alloc _
  generalize (((w.alloc (.cells #[.string ⟨#[]⟩, .slice none 0 0] 78)).alloc (.cells #[.string ⟨#[]⟩, .string ⟨#[]⟩, .int .i64 0] 87)).alloc (.cells #[.string s, .slice A len cap] 78)) = W at *
  have m2 := (hb3.cell (p := ⟨mb, 2, none⟩) hml).trans c2
  have x0 := q3.cell 0
  have x1 := q3.cell 1
  simp only [List.getElem?_toArray, List.getElem?_cons_zero, List.getElem?_cons_succ] at x0 x1
  obtain ⟨v, ps, hlk, hv⟩ := World.ownsMap.look_ok (e := 87) hm3.drew op.law Tryz.underlying60 (op.zero_op _) (zd := op.opZ) (zp := []) rfl hkey
  obtain ⟨v2, ps2, hlk2, hv2⟩ := World.ownsMap.look_ok (e := 87) (hm3.alloc (.cells #[.string ⟨#[]⟩, .string ⟨#[]⟩, .int .i64 0] 87)).drew op.law Tryz.underlying60 (op.zero_op _) (zd := op.opZ) (zp := []) rfl hkey
  have hmW : mb < W.heap.size := Nat.lt_of_lt_of_le hml hb3.size
  have hq3l := q3.lt
  have HB3 := Lib.hid hb3
  have HQ1 := Lib.hid q1
  have HQ2 := Lib.hid q2
  have HQ3 := Lib.hid q3
  have n2 : ∀ o, (W.alloc o).cell? ⟨mb, 2, none⟩ = some (.map (some ob)) := fun o => (((Below.refl W.heap.size W).alloc (Nat.le_refl _) o).cell (p := ⟨mb, 2, none⟩) hmW).trans m2
  have z0 : ∀ o, (W.alloc o).cell? ⟨w.heap.size + 1 + 1, 0, none⟩ = some (.string s) := fun o => (((Below.refl W.heap.size W).alloc (Nat.le_refl _) o).cell (p := ⟨w.heap.size + 1 + 1, 0, none⟩) hq3l).trans x0
  have z1 : ∀ o, (W.alloc o).cell? ⟨w.heap.size + 1 + 1, 1, none⟩ = some (.slice A len cap) := fun o => (((Below.refl W.heap.size W).alloc (Nat.le_refl _) o).cell (p := ⟨w.heap.size + 1 + 1, 1, none⟩) hq3l).trans x1
  have HN2 := Lib.hid n2
  have HZ0 := Lib.hid z0
  have HZ1 := Lib.hid z1
  clear hb3 q1 q2 q3 hm3 hkey c2 n2 z0 z1
  obtain ⟨hat, hhas⟩ := HAL.out
  rw [hat] at hv hv2
  obtain rfl := op.opR2_inv hv
  obtain rfl := op.opR2_inv hv2
  rw [hhas] at hlk hlk2
  clear hv hv2 hat hhas HAL
  have HEQ : Hid ((Ending.returned (.tuple #[.agg #[.string s, .slice A len cap], .agg #[.string ⟨s.data.toList.toArray⟩, .string ⟨(spB s.data.toList).toArray⟩, .int .i64 (op.level s.data.toList)], .bool true])) = Ending.returned (.tuple #[.agg #[.string s, .slice A len cap], .agg #[.string ⟨s.data.toList.toArray⟩, .string ⟨(spB s.data.toList).toArray⟩, .int .i64 (op.level s.data.toList)], .bool true])) := Lib.hid rfl
  generalize hlv : op.level s.data.toList = lv at *
  generalize (⟨s.data.toList.toArray⟩ : ByteArray) = a at *
  generalize hb : (⟨(spB s.data.toList).toArray⟩ : ByteArray) = b at *
  have HLV := Lib.hid hlv
  have HBB := Lib.hid hb
  clear hlv hb HEQ
  go_region_held3 (fun w' => w'.cell? ⟨mb, 2, none⟩ = some (.map (some ob)) ∧ w'.cell? ⟨w.heap.size + 1 + 1, 0, none⟩ = some (.string s) ∧ w'.cell? ⟨w.heap.size + 1 + 1, 1, none⟩ = some (.slice A len cap))
    (first | exact ⟨m2, x0, x1⟩ | exact ⟨HN2.out _, HZ0.out _, HZ1.out _⟩) (fail)
  all_goals
    have q1 : Blk (W.alloc (.cells #[.string a, .string b, .int .i64 lv] 87)).drew w.heap.size 78 #[.string ⟨#[]⟩, .slice none 0 0] := HQ1.out.alloc _
    have q2 : Blk (W.alloc (.cells #[.string a, .string b, .int .i64 lv] 87)).drew (w.heap.size + 1) 87 #[.string ⟨#[]⟩, .string ⟨#[]⟩, .int .i64 0] := HQ2.out.alloc _
    have q3 : Blk (W.alloc (.cells #[.string a, .string b, .int .i64 lv] 87)).drew (w.heap.size + 1 + 1) 78 #[.string s, .slice A len cap] := HQ3.out.alloc _
    have q4 : Blk (W.alloc (.cells #[.string a, .string b, .int .i64 lv] 87)).drew W.heap.size 87 #[.string a, .string b, .int .i64 lv] := Blk.new W _ _
    have hb4 : Below w.heap.size w (W.alloc (.cells #[.string a, .string b, .int .i64 lv] 87)).drew := (HB3.out.alloc HB3.out.size _).drew
    generalize (W.alloc (.cells #[.string a, .string b, .int .i64 lv] 87)).drew = W4 at *
    have r0 := q1.cell 0
    have r1 := q1.cell 1
    have r2 := q2.cell 0
    have r3 := q2.cell 1
    have r4 := q2.cell 2
    have r5 := q3.cell 0
    have r6 := q3.cell 1
    have r7 := q4.cell 0
    have r8 := q4.cell 1
    have r9 := q4.cell 2
    have g0 := q1.frozen 0
    have g1 := q1.frozen 1
    have g2 := q2.frozen 0
    have g3 := q2.frozen 1
    have g4 := q2.frozen 2
    simp only [List.getElem?_toArray, List.getElem?_cons_zero, List.getElem?_cons_succ] at r0 r1 r2 r3 r4 r5 r6 r7 r8 r9
    have hs4 : W.heap.size < W4.heap.size := q4.lt
    have hw4 : w.heap.size + 1 < W4.heap.size := q2.lt
    have hw5 : w.heap.size + 1 < W.heap.size := by omega
    have hw6 : w.heap.size + 1 + 1 < W.heap.size := by omega
    obtain ⟨p1, p2, p3⟩ := nm_store hb4 q1 q2 (.string s) (.slice A len cap) (.string a) (.string b) (.int .i64 lv)
    have HP1 := Lib.hid p1
    have HP2 := Lib.hid p2
    have HP3 := Lib.hid p3
    clear q1 q2 q3 q4 hb4 p1 p2 p3 HQ1 HQ2 HQ3 HB3 m2 x0 x1
    go_wp2_with fail
    go_region
    all_goals
      go_wp2_with fail
      refine bodyPost_ret (v := .tuple #[.agg #[.string s, .slice A len cap], .agg #[.string a, .string b, .int .i64 lv], .bool true]) ?_ rfl ⟨?_, .inl ⟨rfl, by rw [HLV.out]; exact HPOS.out, a, by rw [HLV.out, HBB.out]⟩⟩
      · exact results_cells2s Tryz.results34 _ _ w.heap.size (w.heap.size + 1) _ _ _ _ _ _ rfl rfl HP1.out HP2.out Tryz.underlying78 rfl (by kernel_rfl) Tryz.underlying87 rfl (by kernel_rfl)
      · exact HP3.out.drew
end Go.Proofs.YtohkpgpcipjpkaaGreatDoor.wr

/- opWriter.named of a structure whose name is no operator. Condition: the map of operators in the writer's block. -/
namespace Go.Proofs.YtohkpgpcipjpkaaGreatDoor.wr
open Go.RowKit Go.Maps

set_option maxRecDepth 100000 in
set_option maxHeartbeats 4000000 in
/-- opWriter.named of a structure whose name is no operator. -/
theorem named_no (s : ByteArray) (hs : s.size ≤ maxLen) (A : Option Addr) (len cap ob mb : Nat) (tv fv : Value) (w : World) (hq : Blk w mb 62 #[tv, fv, .map (some ob)]) (hm : op.OpM w ob) (hz : op.level s.data.toList = 0) :
    Calls Tryz.prog 34 #[.pointer (some ⟨mb, 0, none⟩), .iface 78 (.agg #[.string s, .slice A len cap])] w fun e w' => NmR w 3 s A len cap e w' := by
  have hml := hq.lt
  have c2 := hq.cell 2
  simp only [List.getElem?_toArray, List.getElem?_cons_zero, List.getElem?_cons_succ] at c2
  have hkey := op.key_ok s hs
  have HM := Lib.hid hm
  have HQ := Lib.hid hq
  have hal : (op.opD2 14).atKey (.string s.data.toList) op.opZ = .agg [.lit (.string []), .lit (.string []), .lit (.int .i64 0)] ∧ has (op.opD2 14) (.string s.data.toList) = false := by
    rcases op.at2_all s.data.toList with ⟨h, _⟩ | ⟨_, h⟩
    · omega
    · exact h
  have HAL := Lib.hid hal
  have HZ := Lib.hid hz
  clear hm hq hal hs hz
  go_enter Tryz.func34, Tryz.ntmps34
  go_wp2_with fail
  have hb3 : Below w.heap.size w (((w.alloc (.cells #[.string ⟨#[]⟩, .slice none 0 0] 78)).alloc (.cells #[.string ⟨#[]⟩, .string ⟨#[]⟩, .int .i64 0] 87)).alloc (.cells #[.string s, .slice A len cap] 78)) :=
    (((Below.refl _ _).alloc (Nat.le_refl _) _).alloc (by simp) _).alloc (by simp; omega) _
  have q1 : Blk (((w.alloc (.cells #[.string ⟨#[]⟩, .slice none 0 0] 78)).alloc (.cells #[.string ⟨#[]⟩, .string ⟨#[]⟩, .int .i64 0] 87)).alloc (.cells #[.string s, .slice A len cap] 78)) w.heap.size 78 #[.string ⟨#[]⟩, .slice none 0 0] :=
    ((Blk.new w _ _).alloc _).alloc _
  have q2 : Blk (((w.alloc (.cells #[.string ⟨#[]⟩, .slice none 0 0] 78)).alloc (.cells #[.string ⟨#[]⟩, .string ⟨#[]⟩, .int .i64 0] 87)).alloc (.cells #[.string s, .slice A len cap] 78)) (w.heap.size + 1) 87 #[.string ⟨#[]⟩, .string ⟨#[]⟩, .int .i64 0] := by
    have h := (Blk.new (w.alloc (.cells #[.string ⟨#[]⟩, .slice none 0 0] 78)) 87 #[.string ⟨#[]⟩, .string ⟨#[]⟩, .int .i64 0]).alloc (.cells #[.string s, .slice A len cap] 78)
    simpa using h
  have q3 : Blk (((w.alloc (.cells #[.string ⟨#[]⟩, .slice none 0 0] 78)).alloc (.cells #[.string ⟨#[]⟩, .string ⟨#[]⟩, .int .i64 0] 87)).alloc (.cells #[.string s, .slice A len cap] 78)) (w.heap.size + 1 + 1) 78 #[.string s, .slice A len cap] := by
    have h := Blk.new ((w.alloc (.cells #[.string ⟨#[]⟩, .slice none 0 0] 78)).alloc (.cells #[.string ⟨#[]⟩, .string ⟨#[]⟩, .int .i64 0] 87)) 78 #[.string s, .slice A len cap]
    simpa using h
  have hm3 : op.OpM (((w.alloc (.cells #[.string ⟨#[]⟩, .slice none 0 0] 78)).alloc (.cells #[.string ⟨#[]⟩, .string ⟨#[]⟩, .int .i64 0] 87)).alloc (.cells #[.string s, .slice A len cap] 78)) ob := ((HM.out.alloc _).alloc _).alloc _
  generalize (((w.alloc (.cells #[.string ⟨#[]⟩, .slice none 0 0] 78)).alloc (.cells #[.string ⟨#[]⟩, .string ⟨#[]⟩, .int .i64 0] 87)).alloc (.cells #[.string s, .slice A len cap] 78)) = W at *
  have m2 := (hb3.cell (p := ⟨mb, 2, none⟩) hml).trans c2
  have x0 := q3.cell 0
  have x1 := q3.cell 1
  simp only [List.getElem?_toArray, List.getElem?_cons_zero, List.getElem?_cons_succ] at x0 x1
  obtain ⟨v, ps, hlk, hv⟩ := World.ownsMap.look_ok (e := 87) hm3.drew op.law Tryz.underlying60 (op.zero_op _) (zd := op.opZ) (zp := []) rfl hkey
  obtain ⟨v2, ps2, hlk2, hv2⟩ := World.ownsMap.look_ok (e := 87) (hm3.alloc (.cells #[.string ⟨#[]⟩, .string ⟨#[]⟩, .int .i64 0] 87)).drew op.law Tryz.underlying60 (op.zero_op _) (zd := op.opZ) (zp := []) rfl hkey
  have hmW : mb < W.heap.size := Nat.lt_of_lt_of_le hml hb3.size
  have hq3l := q3.lt
  have HB3 := Lib.hid hb3
  have HQ1 := Lib.hid q1
  have HQ2 := Lib.hid q2
  have HQ3 := Lib.hid q3
  have n2 : ∀ o, (W.alloc o).cell? ⟨mb, 2, none⟩ = some (.map (some ob)) := fun o => (((Below.refl W.heap.size W).alloc (Nat.le_refl _) o).cell (p := ⟨mb, 2, none⟩) hmW).trans m2
  have z0 : ∀ o, (W.alloc o).cell? ⟨w.heap.size + 1 + 1, 0, none⟩ = some (.string s) := fun o => (((Below.refl W.heap.size W).alloc (Nat.le_refl _) o).cell (p := ⟨w.heap.size + 1 + 1, 0, none⟩) hq3l).trans x0
  have z1 : ∀ o, (W.alloc o).cell? ⟨w.heap.size + 1 + 1, 1, none⟩ = some (.slice A len cap) := fun o => (((Below.refl W.heap.size W).alloc (Nat.le_refl _) o).cell (p := ⟨w.heap.size + 1 + 1, 1, none⟩) hq3l).trans x1
  have HN2 := Lib.hid n2
  have HZ0 := Lib.hid z0
  have HZ1 := Lib.hid z1
  clear hb3 q1 q2 q3 hm3 hkey c2 n2 z0 z1
  obtain ⟨hat, hhas⟩ := HAL.out
  rw [hat] at hv hv2
  obtain ⟨a, ha⟩ : ∃ a : ByteArray, a = ⟨([] : List UInt8).toArray⟩ := ⟨_, rfl⟩
  obtain ⟨b, hb⟩ : ∃ b : ByteArray, b = ⟨([] : List UInt8).toArray⟩ := ⟨_, rfl⟩
  obtain ⟨lv, hl⟩ : ∃ l : Int, l = 0 := ⟨_, rfl⟩
  have h1 : v = .agg #[.string a, .string b, .int .i64 lv] := by rw [ha, hb, hl]; exact op.opR2_inv hv
  have h2 : v2 = .agg #[.string a, .string b, .int .i64 lv] := by rw [ha, hb, hl]; exact op.opR2_inv hv2
  subst h1 h2
  rw [hhas] at hlk hlk2
  clear hv hv2 hat hhas HAL ha hb hl
  go_region_held3 (fun w' => w'.cell? ⟨mb, 2, none⟩ = some (.map (some ob)) ∧ w'.cell? ⟨w.heap.size + 1 + 1, 0, none⟩ = some (.string s) ∧ w'.cell? ⟨w.heap.size + 1 + 1, 1, none⟩ = some (.slice A len cap))
    (first | exact ⟨m2, x0, x1⟩ | exact ⟨HN2.out _, HZ0.out _, HZ1.out _⟩) (fail)
  all_goals
    have q1 : Blk (W.alloc (.cells #[.string a, .string b, .int .i64 lv] 87)).drew w.heap.size 78 #[.string ⟨#[]⟩, .slice none 0 0] := HQ1.out.alloc _
    have q2 : Blk (W.alloc (.cells #[.string a, .string b, .int .i64 lv] 87)).drew (w.heap.size + 1) 87 #[.string ⟨#[]⟩, .string ⟨#[]⟩, .int .i64 0] := HQ2.out.alloc _
    have q3 : Blk (W.alloc (.cells #[.string a, .string b, .int .i64 lv] 87)).drew (w.heap.size + 1 + 1) 78 #[.string s, .slice A len cap] := HQ3.out.alloc _
    have q4 : Blk (W.alloc (.cells #[.string a, .string b, .int .i64 lv] 87)).drew W.heap.size 87 #[.string a, .string b, .int .i64 lv] := Blk.new W _ _
    have hb4 : Below w.heap.size w (W.alloc (.cells #[.string a, .string b, .int .i64 lv] 87)).drew := (HB3.out.alloc HB3.out.size _).drew
    generalize (W.alloc (.cells #[.string a, .string b, .int .i64 lv] 87)).drew = W4 at *
    have r0 := q1.cell 0
    have r1 := q1.cell 1
    have r2 := q2.cell 0
    have r3 := q2.cell 1
    have r4 := q2.cell 2
    have r5 := q3.cell 0
    have r6 := q3.cell 1
    have r7 := q4.cell 0
    have r8 := q4.cell 1
    have r9 := q4.cell 2
    have g0 := q1.frozen 0
    have g1 := q1.frozen 1
    have g2 := q2.frozen 0
    have g3 := q2.frozen 1
    have g4 := q2.frozen 2
    simp only [List.getElem?_toArray, List.getElem?_cons_zero, List.getElem?_cons_succ] at r0 r1 r2 r3 r4 r5 r6 r7 r8 r9
    have hs4 : W.heap.size < W4.heap.size := q4.lt
    have hw4 : w.heap.size + 1 < W4.heap.size := q2.lt
    have hw5 : w.heap.size + 1 < W.heap.size := by omega
    have hw6 : w.heap.size + 1 + 1 < W.heap.size := by omega
    obtain ⟨p1, p2, p3⟩ := nm_store hb4 q1 q2 (.string s) (.slice A len cap) (.string a) (.string b) (.int .i64 lv)
    have HP1 := Lib.hid p1
    have HP2 := Lib.hid p2
    have HP3 := Lib.hid p3
    clear q1 q2 q3 q4 hb4 p1 p2 p3 HQ1 HQ2 HQ3 HB3 m2 x0 x1
    go_wp2_with fail
    go_region
    all_goals
      go_wp2_with fail
      refine bodyPost_ret (v := .tuple #[.agg #[.string s, .slice A len cap], .agg #[.string a, .string b, .int .i64 lv], .bool false]) ?_ rfl ⟨?_, .inr ⟨fun _ => HZ.out, _, _, _, _, _, _, _, rfl⟩⟩
      · exact results_cells2s Tryz.results34 _ _ w.heap.size (w.heap.size + 1) _ _ _ _ _ _ rfl rfl HP1.out HP2.out Tryz.underlying78 rfl (by kernel_rfl) Tryz.underlying87 rfl (by kernel_rfl)
      · exact HP3.out.drew
end Go.Proofs.YtohkpgpcipjpkaaGreatDoor.wr
