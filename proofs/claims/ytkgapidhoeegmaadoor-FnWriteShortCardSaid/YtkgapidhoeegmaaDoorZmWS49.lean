/- impl.termWriter.writeTerm of an opWriter, at every node that is no operator with two operands. Condition: the nodes lie in memory below the writer and are well-formed; the table of powers of ten in its variable. -/
import Derived.Test.YtkgapidhoeegmaaDoorProg
import Derived.Test.YtkgapidhoeegmaaDoorZmWS48
import Derived.Test.YtkgapidhoeegmaaDoorZmWS45
import Derived.Test.YtkgapidhoeegmaaDoorZmWS46
namespace Go.Proofs.YtkgapidhoeegmaaDoor.wr
open Go.RowKit

set_option maxRecDepth 100000 in
set_option maxHeartbeats 8000000 in
/-- termWriter.writeTerm. -/
theorem wterm_of (s : ByteArray) (f : Fr) (h : ∀ s' f', f'.size < f.size → OwC s' f') : WtC s f := by
  intro k n d v lo hi ob mb bs w hinf hs hv hh hw hl ht hnd
  obtain ⟨i0, hi0, hz0, hz1, hz2⟩ := info_parts infoU8
  have HINF := Lib.hid hinf
  clear hinf
  have hm0 : mb < w.heap.size := by obtain ⟨_, hq, _⟩ := hw; exact hq.lt
  have hkind := shapeT_kind3 hs
  rcases hv with ⟨rfl, rfl⟩ | ⟨rfl, rfl⟩ | ⟨rfl, A, cap, rfl, hnds⟩
  · have hn : 0 ≤ n ∧ n ≤ 25 := by omega
    have hT : Hid (txT 1 n s f = [UInt8.ofNat (65 + n.toNat)]) := Lib.hid (txT_var n s f)
    have hc : ((UInt8.ofNat (65 + n.toNat)).toNat : Int) = 65 + n := by rw [UInt8.toNat_ofNat']; omega
    have HC := Lib.hid hc
    have hl2 : bs.length ≤ 1073741824 := by omega
    generalize UInt8.ofNat (65 + n.toNat) = ch at *
    clear h hs hl ht hnd hkind hc
    obtain ⟨hn0, hn1⟩ := hn
    obtain ⟨tv1, hq1, ho1⟩ := hw
    obtain ⟨A1, c1, rfl, _, _⟩ := row_form ho1
    have p01 := hq1.cell 0
    have p11 := hq1.cell 1
    have pf1 := hq1.frozen 0
    simp only [List.getElem?_toArray, List.getElem?_cons_zero, List.getElem?_cons_succ] at p01 p11
    unfold fW at p11
    have hm1 := hq1.lt
    have HO1 := Lib.hid ho1
    have HQ1 := Lib.hid hq1
    clear hq1 ho1
    go_enter Tryd.func26, Tryd.ntmps26
    go_wp2_with (at_builtin; go_must (refine wpList_append_lies _ rfl _ _ _ rfl (mb + 1) 5 i0 _ 1 1 Tryd.underlying22 hi0 hz0 hz1 hz2 rfl (by omega) _ (bs).length (Lib.byteCells (bs)) rfl (HO1.out.alloc _) ⟨w.heap.size, 0, none⟩ 1 1 [.int .u8 (65 + n)] rfl rfl (World.news_of_block (cs := #[.int .u8 (65 + n)]) (t := 5) (fr := (0, 0)) (Blk.new w 5 #[.int .u8 (65 + n)])) (by simp [Value.oneCell']) (by omega) (by unfold maxLen; omega) (by omega) (by simp; omega) (w.heap.size + 1) (by simp) ?_); intro g1 cap1 w1 hown1 hgrow1 _ _; have hst1 := TW.step1 (c := ch) HQ1.out HO1.out HC.out hgrow1 hown1; have y1 := hst1.2.2.cell 0; have yf1 := hst1.2.2.frozen 0; simp only [List.getElem?_toArray, List.getElem?_cons_zero] at y1; have HS1 := Lib.hid (And.intro hst1.1 hst1.2.1); clear hown1 hgrow1 hst1; refine Hid.out ?_)
    refine Lib.hid ?_
    have HFN : Hid (TW ob mb (bs ++ txT 1 n s f) _ ∧ TF mb w _) := Lib.hid ⟨by rw [hT.out]; exact HS1.out.1, HS1.out.2⟩
    go_wp2_with fail
    go_end0
    exact ⟨rfl, HFN.out⟩
  · have hn : -999 ≤ n ∧ n ≤ 999 := by omega
    have hT : Hid (txT 2 n s f = Lib.itoa n) := Lib.hid (txT_int n s f)
    have hl2 : bs.length ≤ 1073741824 := by omega
    have HT := Lib.hid ht
    clear h hs hl hnd hkind ht
    obtain ⟨tv2, hq2, ho2⟩ := hw
    obtain ⟨A2, c2, rfl, _, _⟩ := row_form ho2
    have p02 := hq2.cell 0
    have p12 := hq2.cell 1
    have pf2 := hq2.frozen 0
    simp only [List.getElem?_toArray, List.getElem?_cons_zero, List.getElem?_cons_succ] at p02 p12
    unfold fW at p12
    have hm2 := hq2.lt
    have HO2 := Lib.hid ho2
    have HQ2 := Lib.hid hq2
    clear hq2 ho2
    have C1 := appInt_any (mb + 1) bs.length n (by omega) (by omega) (.slice A2 bs.length c2) (Lib.byteCells bs) w HO2.out (by omega) (by omega) fun w' hb => HT.out.1 w' (hb.mono (Nat.le_succ _))
    have H1 := Lib.hid C1
    clear C1 hn
    go_enter Tryd.func26, Tryd.ntmps26
    go_wp2_with fail
    refine H1.out.mono ?_
    rintro e w3 ⟨v3, rfl, ho3, hb3, hk3⟩
    have htf := TF.appInt hb3 hk3
    have hq3 : Blk w3 mb 54 #[.slice A2 bs.length c2, fW mb, .map (some ob)] := HQ2.out.keep (hb3.block mb (by omega))
    have hfin : TW ob mb (bs ++ txT 2 n s f) (w3.setCell ⟨mb, 0, none⟩ v3) ∧ TF mb w (w3.setCell ⟨mb, 0, none⟩ v3) := by
      refine ⟨⟨v3, ?_, ?_⟩, htf.set_ 0 _⟩
      · have h := hq3.set_ 0 v3
        simpa using h
      · rw [hT.out, byteCells_app, List.length_append]
        refine ho3.kept (row := some mb) ⟨rfl, rfl, rfl, by simp [World.setCell], fun k _ hk => ?_⟩ (.inr fun e => ?_)
        · exact heap_setCell_other _ _ _ _ fun e => hk (by rw [e])
        · have := (ho3.lt mb e).1
          omega
    obtain ⟨A3, c3, rfl, _, _⟩ := row_form ho3
    have x0 := hq3.cell 0
    have xf := hq3.frozen 0
    simp only [List.getElem?_toArray, List.getElem?_cons_zero] at x0
    have HFN := Lib.hid hfin
    clear htf hfin ho3 hb3 hk3 hq3
    generalize (Lib.itoa n).length = il at *
    go_wp2_with fail
    go_end0
    exact ⟨rfl, HFN.out⟩
  · have hs3 := shapeT_struct hs
    have hs6 := nameB_size hs3.2.1
    have hspos : 0 < s.size := by
      have h1 : s.data.toList.length = s.size := rfl
      have h2 := List.length_pos_iff.2 (name_pos3 hs3.2.1)
      omega
    have hv3 : NdV w lo hi 3 n s f (.iface 69 (.agg #[.string s, .slice A f.len cap])) := .inr (.inr ⟨rfl, A, cap, rfl, hnds⟩)
    have hb0 : Below w.heap.size w (w.alloc (.cells #[.string s, .slice A f.len cap] 69)) := (Below.refl _ _).alloc (Nat.le_refl _) _
    have hq0 := Blk.new w 69 #[.string s, .slice A f.len cap]
    have C1 := split2_any 3 n s f (.iface 69 (.agg #[.string s, .slice A f.len cap])) lo hi (w.alloc (.cells #[.string s, .slice A f.len cap] 69)) (hv3.keep (fun p _ hp => hb0.cell (by omega)) (Nat.le_refl _) (Nat.le_refl _)) (Nat.le_trans (by omega) hb0.size) hnd
    have H1 := Lib.hid C1
    have HB0 := Lib.hid hb0
    have HQ0 := Lib.hid hq0
    have HW := Lib.hid hw
    have HH := Lib.hid h
    have HSH := Lib.hid hs
    have HT := Lib.hid ht
    have HND := Lib.hid hnds
    have HLL := Lib.hid hl
    have HN := Lib.hid hnd
    have hfl := Nat.le_trans hnds.1 hnds.2.1
    clear C1 hb0 hq0 h hs ht hnds hl hv3 hkind hnd hw
    go_enter Tryd.func26, Tryd.ntmps26
    go_wp2_with fail
    refine H1.out.mono ?_
    rintro e w2 ⟨hb2, v2, tl, rfl, ⟨xs, hown, hD⟩, k', n', s', f', htl, hv'⟩
    have hbw := HB0.out.trans (hb2.mono HB0.out.size)
    have hq2 := HQ0.out.below hb2 HQ0.out.lt
    have hw2 := HW.out.below hbw
    have htf2 := TF.below hbw (Nat.le_of_lt hm0)
    have hs2 := hbw.size
    obtain ⟨T9, x9, rfl⟩ := hv'.iface
    have z0 := hq2.cell 0
    have z1 := hq2.cell 1
    simp only [List.getElem?_toArray, List.getElem?_cons_zero, List.getElem?_cons_succ] at z0 z1
    have HQ2 := Lib.hid hq2
    have HTF2 := Lib.hid htf2
    have HW2 := Lib.hid hw2
    cases hp : pairB 3 s f.len
    · have hfr := (pair_no n hp).1
      have HTX : Hid (txT 3 n s f = s.data.toList ++ argsB (txs f)) := Lib.hid (txT_str hp HINF.out)
      have HAM := Lib.hid (argsB_more f)
      rw [hfr] at hown
      obtain ⟨A9, c9, rfl, _, _⟩ := row_form hown
      have ez : (Fr.nil.len : Int) = 0 := rfl
      have hl6 : bs.length + s.size ≤ 1073741824 := by
        have h := HLL.out
        rw [HTX.out, List.length_append] at h
        have h1 : s.data.toList.length = s.size := rfl
        omega
      have hsb : w.heap.size ≠ mb := by omega
      clear hown hD hb2 hv' htl hq2 htf2 hbw hp hfr hs3
      obtain ⟨tv3, hq3, ho3⟩ := hw2
      obtain ⟨A3, c3, rfl, _, _⟩ := row_form ho3
      have p03 := hq3.cell 0
      have p13 := hq3.cell 1
      have pf3 := hq3.frozen 0
      simp only [List.getElem?_toArray, List.getElem?_cons_zero, List.getElem?_cons_succ] at p03 p13
      unfold fW at p13
      have hm3 := hq3.lt
      have HO3 := Lib.hid ho3
      have HQ3 := Lib.hid hq3
      clear hq3 ho3
      go_wp2_with fail
      go_region_law
        (first
          | (refine step_append_str (w2.drew) (by rfl) _ _ _ _ (by rfl) (mb + 1) 5 i0 Tryd.underlying22 Tryd.underlying9 hi0 hz0 hz1 hz2 _ bs.length (Lib.byteCells bs) (by rfl) HO3.out.drew s (by rfl) hspos (by unfold maxLen; omega) (by omega) (by show mb + 1 ≤ w2.heap.size; omega) ?_
             intro g6 cap6 w6 hown6 hgrow6
             have hst6 := TW.step (add := s.data.toList) HQ3.out HO3.out (Below.refl w2.heap.size w2).drew hgrow6 hown6
             have hmd6 := TW.mid HQ3.out HO3.out (Below.refl w2.heap.size w2).drew hgrow6
             have hq6 := hmd6.blk HQ2.out hsb (by decide)
             have y6 := hst6.2.2.cell 0
             have yf6 := hst6.2.2.frozen 0
             have u6 := hq6.cell 0
             simp only [List.getElem?_toArray, List.getElem?_cons_zero] at y6 u6
             have v6 := (hst6.2.1.blk HQ2.out hsb (by decide)).cell 0
             simp only [List.getElem?_toArray, List.getElem?_cons_zero] at v6
             have HS6 := Lib.hid (And.intro hst6.1 hst6.2.1)
             clear hown6 hgrow6 hst6 hmd6 hq6))
      all_goals
        have HX6 : Hid (TW ob mb (bs ++ s.data.toList) (w6.setCell ⟨mb, 0, none⟩ (.slice (some ⟨g6, 0, none⟩) (bs.length + s.size) cap6)) ∧ TF mb w2 (w6.setCell ⟨mb, 0, none⟩ (.slice (some ⟨g6, 0, none⟩) (bs.length + s.size) cap6))) := HS6
        clear HS6 y6 u6 v6 yf6 z0 z1 p03 p13 pf3
        generalize w6.setCell ⟨mb, 0, none⟩ (.slice (some ⟨g6, 0, none⟩) (bs.length + s.size) cap6) = W6 at *
        have hq6 := HX6.out.2.blk HQ2.out hsb (by decide)
        have zz1 := hq6.cell 1
        simp only [List.getElem?_toArray, List.getElem?_cons_zero, List.getElem?_cons_succ] at zz1
        have HQ6 := Lib.hid hq6
        have HTF6 := Lib.hid (HTF2.out.trans HX6.out.2)
        have hm6 : mb < W6.heap.size := Nat.lt_of_lt_of_le hm0 HTF6.out.1.size
        clear hq6
        by_cases h0 : f.len = 0
        · have HV : Hid (txT 3 n s f = s.data.toList) := Lib.hid (by rw [HTX.out, HAM.out, if_pos h0, List.append_nil])
          have HFN : Hid (TW ob mb (bs ++ txT 3 n s f) W6 ∧ TF mb w W6) := Lib.hid (by rw [HV.out]; exact ⟨HX6.out.1, HTF6.out⟩)
          rw [h0] at zz1
          have t0 : ¬ (0 : Int) < ((0 : Nat) : Int) := by decide
          clear h0
          go_wp2_with fail
          go_end0
          exact ⟨rfl, HFN.out⟩
        · have hB : bs ++ txT 3 n s f = bs ++ s.data.toList ++ [40] ++ remB 0 f ++ [41] := by rw [HTX.out, HAM.out, if_neg h0, moreB_rem f h0]; simp
          have HBE := Lib.hid hB
          have hlB : bs.length + s.size + 2 + (remB 0 f).length ≤ 1073741824 := by
            have h1 := congrArg List.length hB
            have h2 := HLL.out
            have h3 : s.data.toList.length = s.size := rfl
            simp only [List.length_append, List.length_cons, List.length_nil] at h1 h2
            omega
          have t0 : (0 : Int) < (f.len : Int) := by omega
          have hw6 := HX6.out.1
          generalize hB1 : bs ++ s.data.toList = B1 at *
          have hlb1 : B1.length ≤ bs.length + s.size := by rw [← hB1, List.length_append]; exact Nat.le_refl _
          have HB1 := Lib.hid hB1
          clear hB1 hB h0
          obtain ⟨tv7, hq7, ho7⟩ := hw6
          obtain ⟨A7, c7, rfl, _, _⟩ := row_form ho7
          have p07 := hq7.cell 0
          have p17 := hq7.cell 1
          have pf7 := hq7.frozen 0
          simp only [List.getElem?_toArray, List.getElem?_cons_zero, List.getElem?_cons_succ] at p07 p17
          unfold fW at p17
          have hm7 := hq7.lt
          have HO7 := Lib.hid ho7
          have HQ7 := Lib.hid hq7
          clear hq7 ho7
          go_wp2_with (at_builtin; go_must (refine wpList_append_lies _ rfl _ _ _ rfl (mb + 1) 5 i0 _ 1 1 Tryd.underlying22 hi0 hz0 hz1 hz2 rfl (by omega) _ (B1).length (Lib.byteCells (B1)) rfl (HO7.out.alloc _) ⟨W6.heap.size, 0, none⟩ 1 1 [.int .u8 40] rfl rfl (World.news_of_block (cs := #[.int .u8 40]) (t := 5) (fr := (0, 0)) (Blk.new W6 5 #[.int .u8 40])) (by simp [Value.oneCell']) (by omega) (by unfold maxLen; omega) (by omega) (by simp; omega) (W6.heap.size + 1) (by simp) ?_); intro g7 cap7 w7 hown7 hgrow7 _ _; have hst7 := TW.step1 (c := 40) HQ7.out HO7.out rfl hgrow7 hown7; have y7 := hst7.2.2.cell 0; have yf7 := hst7.2.2.frozen 0; simp only [List.getElem?_toArray, List.getElem?_cons_zero] at y7; have HS7 := Lib.hid (And.intro hst7.1 hst7.2.1); clear hown7 hgrow7 hst7; refine Hid.out ?_)
          refine Lib.hid ?_
          have hq7 := HS7.out.2.blk HQ6.out hsb (by decide)
          have zz7 := hq7.cell 1
          simp only [List.getElem?_toArray, List.getElem?_cons_zero, List.getElem?_cons_succ] at zz7
          have HTF7 := Lib.hid (HTF6.out.trans HS7.out.2)
          have C8 := parts_of f (fun j k n s kids rest hd => HH.out s kids (by have h1 := Fr.size_drop j f; rw [hd] at h1; simp only [Fr.size] at h1; omega)) (d - 1) A cap lo hi ob mb (B1 ++ [40]) _ (shapeT_kids HSH.out) (PR.old (HND.out.keep (fun p _ hp => HTF7.out.1.cell (by omega)) (Nat.le_refl _) (Nat.le_refl _)) hh) hh HS7.out.1 (by simp only [List.length_append, List.length_cons, List.length_nil]; omega) (HT.out.on HTF7.out.1) HN.out
          have H8 := Lib.hid C8
          clear C8 hq7 zz1
          go_wp2_with fail
          refine H8.out.mono ?_
          rintro e w8 ⟨rfl, hw8, htf8⟩
          have HTF8 := Lib.hid (HTF7.out.trans htf8)
          have hz8 : (B1 ++ [40] ++ remB 0 f).length ≤ 1073741824 := by simp only [List.length_append, List.length_cons, List.length_nil]; omega
          clear htf8
          generalize hB8 : B1 ++ [40] ++ remB 0 f = B8 at *
          have HB8 := Lib.hid hB8
          clear hB8
          obtain ⟨tv9, hq9, ho9⟩ := hw8
          obtain ⟨A9, c9, rfl, _, _⟩ := row_form ho9
          have p09 := hq9.cell 0
          have p19 := hq9.cell 1
          have pf9 := hq9.frozen 0
          simp only [List.getElem?_toArray, List.getElem?_cons_zero, List.getElem?_cons_succ] at p09 p19
          unfold fW at p19
          have hm9 := hq9.lt
          have HO9 := Lib.hid ho9
          have HQ9 := Lib.hid hq9
          clear hq9 ho9
          go_wp2_with (at_builtin; go_must (refine wpList_append_lies _ rfl _ _ _ rfl (mb + 1) 5 i0 _ 1 1 Tryd.underlying22 hi0 hz0 hz1 hz2 rfl (by omega) _ (B8).length (Lib.byteCells (B8)) rfl (HO9.out.alloc _) ⟨w8.heap.size, 0, none⟩ 1 1 [.int .u8 41] rfl rfl (World.news_of_block (cs := #[.int .u8 41]) (t := 5) (fr := (0, 0)) (Blk.new w8 5 #[.int .u8 41])) (by simp [Value.oneCell']) (by omega) (by unfold maxLen; omega) (by omega) (by simp; omega) (w8.heap.size + 1) (by simp) ?_); intro g9 cap9 w9 hown9 hgrow9 _ _; have hst9 := TW.step1 (c := 41) HQ9.out HO9.out rfl hgrow9 hown9; have y9 := hst9.2.2.cell 0; have yf9 := hst9.2.2.frozen 0; simp only [List.getElem?_toArray, List.getElem?_cons_zero] at y9; have HS9 := Lib.hid (And.intro hst9.1 hst9.2.1); clear hown9 hgrow9 hst9; refine Hid.out ?_)
          refine Lib.hid ?_
          have HFN : Hid (TW ob mb (bs ++ txT 3 n s f) _ ∧ TF mb w _) := Lib.hid ⟨by
            have e : B8 ++ [41] = bs ++ txT 3 n s f := by rw [HBE.out, ← HB8.out]
            rw [← e]; exact HS9.out.1, HTF8.out.trans HS9.out.2⟩
          go_wp2_with fail
          go_end0
          exact ⟨rfl, HFN.out⟩
    · obtain ⟨A9, c9, rfl, hPR⟩ := PR.new hown hD hb2 hh (by have := HB0.out.size; omega)
      have hpos : (fronts 3 s f).len ≠ 0 := by
        obtain ⟨k1, n1, s1, kd1, r, hf, _⟩ := txT_list hp htl
        rw [hf]; simp [Fr.len]
      obtain ⟨nf1, nf2⟩ := fr_nodes f.size 3 n s f (Nat.le_refl _)
      have C3 := wlist_of 3 n d s f hp HSH.out HH.out A9 c9 lo hi ob mb bs w2 hPR k' n' s' f' htl (.iface T9 x9) (hv'.keep (fun p _ hp => hb2.cell (by have := HB0.out.size; omega)) (Nat.le_refl _) (Nat.le_refl _)) hh hw2 HLL.out (HT.out.on htf2.1) (Nat.le_trans nf1 HN.out) (Nat.le_trans (nf2 k' n' s' f' htl) HN.out)
      have t0 : (0 : Int) < ((fronts 3 s f).len : Int) := by omega
      have H3 := Lib.hid C3
      clear C3 hown hD hb2 hv' htl hq2 htf2 hbw hp hs3 hw2 hPR hpos nf1 nf2
      generalize (fronts 3 s f).len = fl at *
      go_wp2_with fail
      refine H3.out.mono ?_
      rintro e w3 ⟨rfl, hw3, htf3⟩
      have HFN : Hid (TW ob mb (bs ++ txT 3 n s f) w3 ∧ TF mb w w3) := Lib.hid ⟨hw3, HTF2.out.trans htf3⟩
      clear hw3 htf3
      go_wp2_with fail
      first
        | (go_end0; exact ⟨rfl, HFN.out⟩)
        | ((try simp only [Exit.inBlock, Exit.then]); refine bodyPost_ret (results_none rfl _ _ _) rfl ?_; exact ⟨rfl, HFN.out⟩)
end Go.Proofs.YtkgapidhoeegmaaDoor.wr

/- impl.canFollowOperator, operator.rightLevel, opWriter.named, opWriter.operandLevel. Condition: the node lies in memory, the map of operators in the writer's block. -/
namespace Go.Proofs.YtkgapidhoeegmaaDoor.wr
open Go.RowKit Go.Maps

set_option maxHeartbeats 1000000 in
/-- impl.isLetter. -/
theorem letterI_any (c : UInt8) (w : World) : Calls Tryd.prog 67 #[.int .u8 (c.toNat : Int)] w fun e w' => e = .returned (.bool (smC c)) ∧ w' = w := by
  have HV : Hid (smC c = (decide (97 ≤ c.toNat) && decide (c.toNat ≤ 122))) := Lib.hid rfl
  by_cases h1 : 97 ≤ c.toNat
  · by_cases h2 : c.toNat ≤ 122
    · have HW : Hid (smC c = true) := Lib.hid (by rw [HV.out, decide_eq_true h1, decide_eq_true h2]; rfl)
      have b1 : decide ((97 : Int) ≤ (c.toNat : Int)) = true := by simp; omega
      have b2 : decide ((c.toNat : Int) ≤ 122) = true := by simp; omega
      clear HV h1 h2
      go_enter Tryd.func67, Tryd.ntmps67
      go_wp2_with fail
      go_ret
      rw [HW.out]; exact ⟨rfl, rfl⟩
    · have HW : Hid (smC c = false) := Lib.hid (by rw [HV.out, decide_eq_true h1, decide_eq_false h2]; rfl)
      have b1 : decide ((97 : Int) ≤ (c.toNat : Int)) = true := by simp; omega
      have b2 : decide ((c.toNat : Int) ≤ 122) = false := by simp; omega
      clear HV h1 h2
      go_enter Tryd.func67, Tryd.ntmps67
      go_wp2_with fail
      go_ret
      rw [HW.out]; exact ⟨rfl, rfl⟩
  · have HW : Hid (smC c = false) := Lib.hid (by rw [HV.out, decide_eq_false h1]; rfl)
    have b1 : decide ((97 : Int) ≤ (c.toNat : Int)) = false := by simp; omega
    clear HV h1
    go_enter Tryd.func67, Tryd.ntmps67
    go_wp2_with fail
    go_ret
    rw [HW.out]; exact ⟨rfl, rfl⟩
set_option maxHeartbeats 1000000 in
/-- impl.isDigit. -/
theorem digitI_any (c : UInt8) (w : World) : Calls Tryd.prog 68 #[.int .u8 (c.toNat : Int)] w fun e w' => e = .returned (.bool (dgC c)) ∧ w' = w := by
  have HV : Hid (dgC c = (decide (48 ≤ c.toNat) && decide (c.toNat ≤ 57))) := Lib.hid rfl
  by_cases h1 : 48 ≤ c.toNat
  · by_cases h2 : c.toNat ≤ 57
    · have HW : Hid (dgC c = true) := Lib.hid (by rw [HV.out, decide_eq_true h1, decide_eq_true h2]; rfl)
      have b1 : decide ((48 : Int) ≤ (c.toNat : Int)) = true := by simp; omega
      have b2 : decide ((c.toNat : Int) ≤ 57) = true := by simp; omega
      clear HV h1 h2
      go_enter Tryd.func68, Tryd.ntmps68
      go_wp2_with fail
      go_ret
      rw [HW.out]; exact ⟨rfl, rfl⟩
    · have HW : Hid (dgC c = false) := Lib.hid (by rw [HV.out, decide_eq_true h1, decide_eq_false h2]; rfl)
      have b1 : decide ((48 : Int) ≤ (c.toNat : Int)) = true := by simp; omega
      have b2 : decide ((c.toNat : Int) ≤ 57) = false := by simp; omega
      clear HV h1 h2
      go_enter Tryd.func68, Tryd.ntmps68
      go_wp2_with fail
      go_ret
      rw [HW.out]; exact ⟨rfl, rfl⟩
  · have HW : Hid (dgC c = false) := Lib.hid (by rw [HV.out, decide_eq_false h1]; rfl)
    have b1 : decide ((48 : Int) ≤ (c.toNat : Int)) = false := by simp; omega
    clear HV h1
    go_enter Tryd.func68, Tryd.ntmps68
    go_wp2_with fail
    go_ret
    rw [HW.out]; exact ⟨rfl, rfl⟩
set_option maxHeartbeats 2000000 in
/-- impl.canFollowOperator. -/
theorem follow_any (c : UInt8) (w : World) : Calls Tryd.prog 53 #[.int .u8 (c.toNat : Int)] w fun e w' => e = .returned (.bool (plC c)) ∧ w' = w := by
  have C1 := letterI_any c w
  have C2 := digitI_any c w
  have HV := Lib.hid (plC_of c)
  cases b1 : smC c
  · rw [b1] at C1
    by_cases h1 : 65 ≤ c.toNat
    · by_cases h2 : c.toNat ≤ 90
      · have HW : Hid (plC c = true) := Lib.hid (by rw [HV.out, decide_eq_true h1, decide_eq_true h2]; simp)
        have d1 : decide ((65 : Int) ≤ (c.toNat : Int)) = true := by simp; omega
        have d2 : decide ((c.toNat : Int) ≤ 90) = true := by simp; omega
        have H1 := Lib.hid C1
        clear C1 C2 b1 HV h1 h2
        go_enter Tryd.func53, Tryd.ntmps53
        go_wp2_with (first
          | (go_at_call 67; refine H1.out.mono ?_; rintro e w' ⟨rfl, rfl⟩)
          | fail)
        go_ret
        rw [HW.out]; exact ⟨rfl, rfl⟩
      · have d1 : decide ((65 : Int) ≤ (c.toNat : Int)) = true := by simp; omega
        have d2 : decide ((c.toNat : Int) ≤ 90) = false := by simp; omega
        have HV2 : Hid (plC c = (dgC c || (((c.toNat : Int) == 91) || ((c.toNat : Int) == 40)))) := Lib.hid (by rw [HV.out, b1, decide_eq_true h1, decide_eq_false h2]; simp)
        have H1 := Lib.hid C1
        have H2 := Lib.hid C2
        clear C1 C2 b1 HV h1 h2
        cases b2 : dgC c <;> rw [b2] at H2 HV2
        · cases b3 : ((c.toNat : Int) == 91) <;> rw [b3] at HV2
          · have HW : Hid (plC c = ((c.toNat : Int) == 40)) := Lib.hid (by rw [HV2.out]; simp)
            clear HV2 b2
            cases b4 : ((c.toNat : Int) == 40) <;> rw [b4] at HW
            · go_enter Tryd.func53, Tryd.ntmps53
              go_wp2_with (first
                | (go_at_call 67; refine H1.out.mono ?_; rintro e w' ⟨rfl, rfl⟩)
                | (go_at_call 68; refine H2.out.mono ?_; rintro e w' ⟨rfl, rfl⟩)
                | fail)
              go_ret
              rw [HW.out]; exact ⟨rfl, rfl⟩
            · go_enter Tryd.func53, Tryd.ntmps53
              go_wp2_with (first
                | (go_at_call 67; refine H1.out.mono ?_; rintro e w' ⟨rfl, rfl⟩)
                | (go_at_call 68; refine H2.out.mono ?_; rintro e w' ⟨rfl, rfl⟩)
                | fail)
              go_ret
              rw [HW.out]; exact ⟨rfl, rfl⟩
          · have HW : Hid (plC c = true) := Lib.hid (by rw [HV2.out]; simp)
            clear HV2 b2
            go_enter Tryd.func53, Tryd.ntmps53
            go_wp2_with (first
              | (go_at_call 67; refine H1.out.mono ?_; rintro e w' ⟨rfl, rfl⟩)
              | (go_at_call 68; refine H2.out.mono ?_; rintro e w' ⟨rfl, rfl⟩)
              | fail)
            go_ret
            rw [HW.out]; exact ⟨rfl, rfl⟩
        · have HW : Hid (plC c = true) := Lib.hid (by rw [HV2.out]; simp)
          clear HV2 b2
          go_enter Tryd.func53, Tryd.ntmps53
          go_wp2_with (first
            | (go_at_call 67; refine H1.out.mono ?_; rintro e w' ⟨rfl, rfl⟩)
            | (go_at_call 68; refine H2.out.mono ?_; rintro e w' ⟨rfl, rfl⟩)
            | fail)
          go_ret
          rw [HW.out]; exact ⟨rfl, rfl⟩
    · have d1 : decide ((65 : Int) ≤ (c.toNat : Int)) = false := by simp; omega
      have HV2 : Hid (plC c = (dgC c || (((c.toNat : Int) == 91) || ((c.toNat : Int) == 40)))) := Lib.hid (by rw [HV.out, b1, decide_eq_false h1]; simp)
      have H1 := Lib.hid C1
      have H2 := Lib.hid C2
      clear C1 C2 b1 HV h1
      cases b2 : dgC c <;> rw [b2] at H2 HV2
      · cases b3 : ((c.toNat : Int) == 91) <;> rw [b3] at HV2
        · have HW : Hid (plC c = ((c.toNat : Int) == 40)) := Lib.hid (by rw [HV2.out]; simp)
          clear HV2 b2
          cases b4 : ((c.toNat : Int) == 40) <;> rw [b4] at HW
          · go_enter Tryd.func53, Tryd.ntmps53
            go_wp2_with (first
              | (go_at_call 67; refine H1.out.mono ?_; rintro e w' ⟨rfl, rfl⟩)
              | (go_at_call 68; refine H2.out.mono ?_; rintro e w' ⟨rfl, rfl⟩)
              | fail)
            go_ret
            rw [HW.out]; exact ⟨rfl, rfl⟩
          · go_enter Tryd.func53, Tryd.ntmps53
            go_wp2_with (first
              | (go_at_call 67; refine H1.out.mono ?_; rintro e w' ⟨rfl, rfl⟩)
              | (go_at_call 68; refine H2.out.mono ?_; rintro e w' ⟨rfl, rfl⟩)
              | fail)
            go_ret
            rw [HW.out]; exact ⟨rfl, rfl⟩
        · have HW : Hid (plC c = true) := Lib.hid (by rw [HV2.out]; simp)
          clear HV2 b2
          go_enter Tryd.func53, Tryd.ntmps53
          go_wp2_with (first
            | (go_at_call 67; refine H1.out.mono ?_; rintro e w' ⟨rfl, rfl⟩)
            | (go_at_call 68; refine H2.out.mono ?_; rintro e w' ⟨rfl, rfl⟩)
            | fail)
          go_ret
          rw [HW.out]; exact ⟨rfl, rfl⟩
      · have HW : Hid (plC c = true) := Lib.hid (by rw [HV2.out]; simp)
        clear HV2 b2
        go_enter Tryd.func53, Tryd.ntmps53
        go_wp2_with (first
          | (go_at_call 67; refine H1.out.mono ?_; rintro e w' ⟨rfl, rfl⟩)
          | (go_at_call 68; refine H2.out.mono ?_; rintro e w' ⟨rfl, rfl⟩)
          | fail)
        go_ret
        rw [HW.out]; exact ⟨rfl, rfl⟩
  · rw [b1] at C1
    have HW : Hid (plC c = true) := Lib.hid (by rw [HV.out, b1]; rfl)
    have H1 := Lib.hid C1
    clear C1 C2 b1 HV
    go_enter Tryd.func53, Tryd.ntmps53
    go_wp2_with (first
      | (go_at_call 67; refine H1.out.mono ?_; rintro e w' ⟨rfl, rfl⟩)
      | fail)
    go_ret
    rw [HW.out]; exact ⟨rfl, rfl⟩
/-- operator.rightLevel. -/
theorem rightLv_any (a b : ByteArray) (l : Int) (hl : 0 ≤ l ∧ l ≤ 3) (w : World) :
    Calls Tryd.prog 31 #[.agg #[.string a, .string b, .int .i64 l]] w fun e w' => e = .returned (.int .i64 (l - 1)) ∧ Below w.heap.size w w' := by
  have hb0 : ∀ o, Below w.heap.size w (w.alloc o) := fun o => (Below.refl _ _).alloc (Nat.le_refl _) _
  have HB := Lib.hid hb0
  clear hb0
  obtain ⟨h0, h1⟩ := hl
  go_enter Tryd.func31, Tryd.ntmps31
  go_wp2_with fail
  go_ret
  exact ⟨rfl, HB.out _⟩
theorem lmin_lfl (l : Int) (h : l ≤ 3) : op.lmin l = lfl l := by
  unfold op.lmin lfl
  split <;> split <;> omega
end Go.Proofs.YtkgapidhoeegmaaDoor.wr

/- What opWriter.named leaves. No condition. -/
namespace Go.Proofs.YtkgapidhoeegmaaDoor.wr
open Go.RowKit Go.Maps

theorem results_cells2s {P : Program} {fn : Func} {p q u : Tmp} {ty ty' : TypeId} (h : fn.results = #[.cell p ty, .cell q ty', .tmp u]) (tmps : Array Value) (w : World) (g g' : Nat) (t t' : TypeId) (cs cs' : Array Value) (d d' : TypeDesc)
    (hp : tmps.getD p undef = .pointer (some ⟨g, 0, none⟩)) (hq : tmps.getD q undef = .pointer (some ⟨g', 0, none⟩)) (hg : Blk w g t cs) (hg' : Blk w g' t' cs')
    (hu : P.underlying ty = some d) (hd : (match d with | .struct _ | .array _ _ => true | _ => false) = true) (hi : (P.info? ty).map (·.size) = some cs.size)
    (hu' : P.underlying ty' = some d') (hd' : (match d' with | .struct _ | .array _ _ => true | _ => false) = true) (hi' : (P.info? ty').map (·.size) = some cs'.size) :
    (results fn tmps).run P w = .ok (.tuple #[.agg cs, .agg cs', tmps.getD u undef]) w := by
  have hp' : tmps[p]?.getD undef = .pointer (some ⟨g, 0, none⟩) := by simpa using hp
  have hq' : tmps[q]?.getD undef = .pointer (some ⟨g', 0, none⟩) := by simpa using hq
  simp [results, h, hp', hq', asAddr, run_loadVar_row w g t ty cs (0, 0) d hg hu hd hi, run_loadVar_row w g' t' ty' cs' (0, 0) d' hg' hu' hd' hi']

/-- What opWriter.named leaves. -/
def NmR (w : World) (k : Int) (s : ByteArray) (A : Option Addr) (len cap : Nat) (e : Ending) (w' : World) : Prop :=
  Below w.heap.size w w' ∧ ((k = 3 ∧ 0 < op.level s.data.toList ∧ ∃ a, e = .returned (.tuple #[.agg #[.string s, .slice A len cap], .agg #[.string a, .string ⟨(spB s.data.toList).toArray⟩, .int .i64 (op.level s.data.toList)], .bool true])) ∨
    ((k = 3 → op.level s.data.toList = 0) ∧ ∃ x1 x2 x3 x4 y1 y2 y3, e = .returned (.tuple #[.agg #[.string x1, .slice x2 x3 x4], .agg #[.string y1, .string y2, .int .i64 y3], .bool false])))

/-- The two results' blocks are written. -/
def nmW (w2 : World) (g : Nat) (a b c d e : Value) : World := ((((w2.setCell ⟨g, 0, none⟩ a).setCell ⟨g, 1, none⟩ b).setCell ⟨g + 1, 0, none⟩ c).setCell ⟨g + 1, 1, none⟩ d).setCell ⟨g + 1, 2, none⟩ e
theorem nm_store {w w2 : World} {a b c d e : Value} {t t' : TypeId} (hb : Below w.heap.size w w2) (h1 : Blk w2 w.heap.size t #[a, b]) (h2 : Blk w2 (w.heap.size + 1) t' #[c, d, e]) (a' b' c' d' e' : Value) :
    Blk (nmW w2 w.heap.size a' b' c' d' e') w.heap.size t #[a', b'] ∧ Blk (nmW w2 w.heap.size a' b' c' d' e') (w.heap.size + 1) t' #[c', d', e'] ∧ Below w.heap.size w (nmW w2 w.heap.size a' b' c' d' e') := by
  unfold nmW
  exact ⟨((((h1.set_ 0 a').set_ 1 b').far (by simp) _).far (by simp) _).far (by simp) _, ((((h2.far (by simp) _).far (by simp) _).set_ 0 c').set_ 1 d').set_ 2 e', ((((hb.setCell (by simp) _).setCell (by simp) _).setCell (by simp) _).setCell (by simp) _).setCell (by simp) _⟩

end Go.Proofs.YtkgapidhoeegmaaDoor.wr

/- opWriter.named of a structure whose name is an operator. Condition: the map of operators in the writer's block. -/
namespace Go.Proofs.YtkgapidhoeegmaaDoor.wr
open Go.RowKit Go.Maps

set_option maxRecDepth 100000 in
set_option maxHeartbeats 4000000 in
/-- opWriter.named of a structure whose name is an operator. -/
theorem named_yes (s : ByteArray) (hs : s.size ≤ maxLen) (A : Option Addr) (len cap ob mb : Nat) (tv fv : Value) (w : World) (hq : Blk w mb 54 #[tv, fv, .map (some ob)]) (hm : op.OpM w ob) (hpos : 0 < op.level s.data.toList) :
    Calls Tryd.prog 29 #[.pointer (some ⟨mb, 0, none⟩), .iface 69 (.agg #[.string s, .slice A len cap])] w fun e w' => NmR w 3 s A len cap e w' := by
  have hml := hq.lt
  have c2 := hq.cell 2
  simp only [List.getElem?_toArray, List.getElem?_cons_zero, List.getElem?_cons_succ] at c2
  have hkey := op.key_ok s hs
  have HM := Lib.hid hm
  have HQ := Lib.hid hq
  have hal : (op.opD2 14).atKey (.string s.data.toList) op.opZ = .agg [.lit (.string s.data.toList), .lit (.string (spB s.data.toList)), .lit (.int .i64 (op.level s.data.toList))] ∧ has (op.opD2 14) (.string s.data.toList) = true := by
    rcases op.at2_all s.data.toList with ⟨_, h⟩ | ⟨h, _⟩
    · exact h
    · omega
  have HAL := Lib.hid hal
  have HPOS := Lib.hid hpos
  clear hm hq hal hs hpos
  go_enter Tryd.func29, Tryd.ntmps29
  go_wp2_with fail
  have hb3 : Below w.heap.size w (((w.alloc (.cells #[.string ⟨#[]⟩, .slice none 0 0] 69)).alloc (.cells #[.string ⟨#[]⟩, .string ⟨#[]⟩, .int .i64 0] 38)).alloc (.cells #[.string s, .slice A len cap] 69)) :=
    (((Below.refl _ _).alloc (Nat.le_refl _) _).alloc (by simp) _).alloc (by simp; omega) _
  have q1 : Blk (((w.alloc (.cells #[.string ⟨#[]⟩, .slice none 0 0] 69)).alloc (.cells #[.string ⟨#[]⟩, .string ⟨#[]⟩, .int .i64 0] 38)).alloc (.cells #[.string s, .slice A len cap] 69)) w.heap.size 69 #[.string ⟨#[]⟩, .slice none 0 0] :=
    ((Blk.new w _ _).alloc _).alloc _
  have q2 : Blk (((w.alloc (.cells #[.string ⟨#[]⟩, .slice none 0 0] 69)).alloc (.cells #[.string ⟨#[]⟩, .string ⟨#[]⟩, .int .i64 0] 38)).alloc (.cells #[.string s, .slice A len cap] 69)) (w.heap.size + 1) 38 #[.string ⟨#[]⟩, .string ⟨#[]⟩, .int .i64 0] := by
    have h := (Blk.new (w.alloc (.cells #[.string ⟨#[]⟩, .slice none 0 0] 69)) 38 #[.string ⟨#[]⟩, .string ⟨#[]⟩, .int .i64 0]).alloc (.cells #[.string s, .slice A len cap] 69)
    simpa using h
  have q3 : Blk (((w.alloc (.cells #[.string ⟨#[]⟩, .slice none 0 0] 69)).alloc (.cells #[.string ⟨#[]⟩, .string ⟨#[]⟩, .int .i64 0] 38)).alloc (.cells #[.string s, .slice A len cap] 69)) (w.heap.size + 1 + 1) 69 #[.string s, .slice A len cap] := by
    have h := Blk.new ((w.alloc (.cells #[.string ⟨#[]⟩, .slice none 0 0] 69)).alloc (.cells #[.string ⟨#[]⟩, .string ⟨#[]⟩, .int .i64 0] 38)) 69 #[.string s, .slice A len cap]
    simpa using h
  have hm3 : op.OpM (((w.alloc (.cells #[.string ⟨#[]⟩, .slice none 0 0] 69)).alloc (.cells #[.string ⟨#[]⟩, .string ⟨#[]⟩, .int .i64 0] 38)).alloc (.cells #[.string s, .slice A len cap] 69)) ob := ((HM.out.alloc _).alloc _).alloc _
  generalize (((w.alloc (.cells #[.string ⟨#[]⟩, .slice none 0 0] 69)).alloc (.cells #[.string ⟨#[]⟩, .string ⟨#[]⟩, .int .i64 0] 38)).alloc (.cells #[.string s, .slice A len cap] 69)) = W at *
  have m2 := (hb3.cell (p := ⟨mb, 2, none⟩) hml).trans c2
  have x0 := q3.cell 0
  have x1 := q3.cell 1
  simp only [List.getElem?_toArray, List.getElem?_cons_zero, List.getElem?_cons_succ] at x0 x1
  obtain ⟨v, ps, hlk, hv⟩ := World.ownsMap.look_ok (e := 38) hm3.drew op.law Tryd.underlying40 (op.zero_op _) (zd := op.opZ) (zp := []) rfl hkey
  obtain ⟨v2, ps2, hlk2, hv2⟩ := World.ownsMap.look_ok (e := 38) (hm3.alloc (.cells #[.string ⟨#[]⟩, .string ⟨#[]⟩, .int .i64 0] 38)).drew op.law Tryd.underlying40 (op.zero_op _) (zd := op.opZ) (zp := []) rfl hkey
  have hmW : mb < W.heap.size := Nat.lt_of_lt_of_le hml hb3.size
  have hq3l := q3.lt
  have HB3 := Lib.hid hb3
  have HQ1 := Lib.hid q1
  have HQ2 := Lib.hid q2
  have HQ3 := Lib.hid q3
  have n2 : ∀ o, (W.alloc o).cell? ⟨mb, 2, none⟩ = some (.map (some ob)) := fun o => (((Below.refl W.heap.size W).alloc (Nat.le_refl _) o).cell (p := ⟨mb, 2, none⟩) hmW).trans m2
  have z0 : ∀ o, (W.alloc o).cell? ⟨w.heap.size + 1 + 1, 0, none⟩ = some (.string s) := fun o => (((Below.refl W.heap.size W).alloc (Nat.le_refl _) o).cell (p := ⟨w.heap.size + 1 + 1, 0, none⟩) hq3l).trans x0
  have z1 : ∀ o, (W.alloc o).cell? ⟨w.heap.size + 1 + 1, 1, none⟩ = some (.slice A len cap) := fun o => (((Below.refl W.heap.size W).alloc (Nat.le_refl _) o).cell (p := ⟨w.heap.size + 1 + 1, 1, none⟩) hq3l).trans x1
  have HN2 := Lib.hid n2
  have HZ0 := Lib.hid z0
  have HZ1 := Lib.hid z1
  clear hb3 q1 q2 q3 hm3 hkey c2 n2 z0 z1
  obtain ⟨hat, hhas⟩ := HAL.out
  rw [hat] at hv hv2
  obtain rfl := op.opR2_inv hv
  obtain rfl := op.opR2_inv hv2
  rw [hhas] at hlk hlk2
  clear hv hv2 hat hhas HAL
  have HEQ : Hid ((Ending.returned (.tuple #[.agg #[.string s, .slice A len cap], .agg #[.string ⟨s.data.toList.toArray⟩, .string ⟨(spB s.data.toList).toArray⟩, .int .i64 (op.level s.data.toList)], .bool true])) = Ending.returned (.tuple #[.agg #[.string s, .slice A len cap], .agg #[.string ⟨s.data.toList.toArray⟩, .string ⟨(spB s.data.toList).toArray⟩, .int .i64 (op.level s.data.toList)], .bool true])) := Lib.hid rfl
  generalize hlv : op.level s.data.toList = lv at *
  generalize (⟨s.data.toList.toArray⟩ : ByteArray) = a at *
  generalize hb : (⟨(spB s.data.toList).toArray⟩ : ByteArray) = b at *
  have HLV := Lib.hid hlv
  have HBB := Lib.hid hb
  clear hlv hb HEQ
  go_region_held3 (fun w' => w'.cell? ⟨mb, 2, none⟩ = some (.map (some ob)) ∧ w'.cell? ⟨w.heap.size + 1 + 1, 0, none⟩ = some (.string s) ∧ w'.cell? ⟨w.heap.size + 1 + 1, 1, none⟩ = some (.slice A len cap))
    (first | exact ⟨m2, x0, x1⟩ | exact ⟨HN2.out _, HZ0.out _, HZ1.out _⟩) (fail)
  all_goals
    have q1 : Blk (W.alloc (.cells #[.string a, .string b, .int .i64 lv] 38)).drew w.heap.size 69 #[.string ⟨#[]⟩, .slice none 0 0] := HQ1.out.alloc _
    have q2 : Blk (W.alloc (.cells #[.string a, .string b, .int .i64 lv] 38)).drew (w.heap.size + 1) 38 #[.string ⟨#[]⟩, .string ⟨#[]⟩, .int .i64 0] := HQ2.out.alloc _
    have q3 : Blk (W.alloc (.cells #[.string a, .string b, .int .i64 lv] 38)).drew (w.heap.size + 1 + 1) 69 #[.string s, .slice A len cap] := HQ3.out.alloc _
    have q4 : Blk (W.alloc (.cells #[.string a, .string b, .int .i64 lv] 38)).drew W.heap.size 38 #[.string a, .string b, .int .i64 lv] := Blk.new W _ _
    have hb4 : Below w.heap.size w (W.alloc (.cells #[.string a, .string b, .int .i64 lv] 38)).drew := (HB3.out.alloc HB3.out.size _).drew
    generalize (W.alloc (.cells #[.string a, .string b, .int .i64 lv] 38)).drew = W4 at *
    have r0 := q1.cell 0
    have r1 := q1.cell 1
    have r2 := q2.cell 0
    have r3 := q2.cell 1
    have r4 := q2.cell 2
    have r5 := q3.cell 0
    have r6 := q3.cell 1
    have r7 := q4.cell 0
    have r8 := q4.cell 1
    have r9 := q4.cell 2
    have g0 := q1.frozen 0
    have g1 := q1.frozen 1
    have g2 := q2.frozen 0
    have g3 := q2.frozen 1
    have g4 := q2.frozen 2
    simp only [List.getElem?_toArray, List.getElem?_cons_zero, List.getElem?_cons_succ] at r0 r1 r2 r3 r4 r5 r6 r7 r8 r9
    have hs4 : W.heap.size < W4.heap.size := q4.lt
    have hw4 : w.heap.size + 1 < W4.heap.size := q2.lt
    have hw5 : w.heap.size + 1 < W.heap.size := by omega
    have hw6 : w.heap.size + 1 + 1 < W.heap.size := by omega
    obtain ⟨p1, p2, p3⟩ := nm_store hb4 q1 q2 (.string s) (.slice A len cap) (.string a) (.string b) (.int .i64 lv)
    have HP1 := Lib.hid p1
    have HP2 := Lib.hid p2
    have HP3 := Lib.hid p3
    clear q1 q2 q3 q4 hb4 p1 p2 p3 HQ1 HQ2 HQ3 HB3 m2 x0 x1
    go_wp2_with fail
    go_region
    all_goals
      go_wp2_with fail
      refine bodyPost_ret (v := .tuple #[.agg #[.string s, .slice A len cap], .agg #[.string a, .string b, .int .i64 lv], .bool true]) ?_ rfl ⟨?_, .inl ⟨rfl, by rw [HLV.out]; exact HPOS.out, a, by rw [HLV.out, HBB.out]⟩⟩
      · exact results_cells2s Tryd.results29 _ _ w.heap.size (w.heap.size + 1) _ _ _ _ _ _ rfl rfl HP1.out HP2.out Tryd.underlying69 rfl (by kernel_rfl) Tryd.underlying38 rfl (by kernel_rfl)
      · exact HP3.out.drew
end Go.Proofs.YtkgapidhoeegmaaDoor.wr

/- opWriter.named of a structure whose name is no operator. Condition: the map of operators in the writer's block. -/
namespace Go.Proofs.YtkgapidhoeegmaaDoor.wr
open Go.RowKit Go.Maps

set_option maxRecDepth 100000 in
set_option maxHeartbeats 4000000 in
/-- opWriter.named of a structure whose name is no operator. -/
theorem named_no (s : ByteArray) (hs : s.size ≤ maxLen) (A : Option Addr) (len cap ob mb : Nat) (tv fv : Value) (w : World) (hq : Blk w mb 54 #[tv, fv, .map (some ob)]) (hm : op.OpM w ob) (hz : op.level s.data.toList = 0) :
    Calls Tryd.prog 29 #[.pointer (some ⟨mb, 0, none⟩), .iface 69 (.agg #[.string s, .slice A len cap])] w fun e w' => NmR w 3 s A len cap e w' := by
  have hml := hq.lt
  have c2 := hq.cell 2
  simp only [List.getElem?_toArray, List.getElem?_cons_zero, List.getElem?_cons_succ] at c2
  have hkey := op.key_ok s hs
  have HM := Lib.hid hm
  have HQ := Lib.hid hq
  have hal : (op.opD2 14).atKey (.string s.data.toList) op.opZ = .agg [.lit (.string []), .lit (.string []), .lit (.int .i64 0)] ∧ has (op.opD2 14) (.string s.data.toList) = false := by
    rcases op.at2_all s.data.toList with ⟨h, _⟩ | ⟨_, h⟩
    · omega
    · exact h
  have HAL := Lib.hid hal
  have HZ := Lib.hid hz
  clear hm hq hal hs hz
  go_enter Tryd.func29, Tryd.ntmps29
  go_wp2_with fail
  have hb3 : Below w.heap.size w (((w.alloc (.cells #[.string ⟨#[]⟩, .slice none 0 0] 69)).alloc (.cells #[.string ⟨#[]⟩, .string ⟨#[]⟩, .int .i64 0] 38)).alloc (.cells #[.string s, .slice A len cap] 69)) :=
    (((Below.refl _ _).alloc (Nat.le_refl _) _).alloc (by simp) _).alloc (by simp; omega) _
  have q1 : Blk (((w.alloc (.cells #[.string ⟨#[]⟩, .slice none 0 0] 69)).alloc (.cells #[.string ⟨#[]⟩, .string ⟨#[]⟩, .int .i64 0] 38)).alloc (.cells #[.string s, .slice A len cap] 69)) w.heap.size 69 #[.string ⟨#[]⟩, .slice none 0 0] :=
    ((Blk.new w _ _).alloc _).alloc _
  have q2 : Blk (((w.alloc (.cells #[.string ⟨#[]⟩, .slice none 0 0] 69)).alloc (.cells #[.string ⟨#[]⟩, .string ⟨#[]⟩, .int .i64 0] 38)).alloc (.cells #[.string s, .slice A len cap] 69)) (w.heap.size + 1) 38 #[.string ⟨#[]⟩, .string ⟨#[]⟩, .int .i64 0] := by
    have h := (Blk.new (w.alloc (.cells #[.string ⟨#[]⟩, .slice none 0 0] 69)) 38 #[.string ⟨#[]⟩, .string ⟨#[]⟩, .int .i64 0]).alloc (.cells #[.string s, .slice A len cap] 69)
    simpa using h
  have q3 : Blk (((w.alloc (.cells #[.string ⟨#[]⟩, .slice none 0 0] 69)).alloc (.cells #[.string ⟨#[]⟩, .string ⟨#[]⟩, .int .i64 0] 38)).alloc (.cells #[.string s, .slice A len cap] 69)) (w.heap.size + 1 + 1) 69 #[.string s, .slice A len cap] := by
    have h := Blk.new ((w.alloc (.cells #[.string ⟨#[]⟩, .slice none 0 0] 69)).alloc (.cells #[.string ⟨#[]⟩, .string ⟨#[]⟩, .int .i64 0] 38)) 69 #[.string s, .slice A len cap]
    simpa using h
  have hm3 : op.OpM (((w.alloc (.cells #[.string ⟨#[]⟩, .slice none 0 0] 69)).alloc (.cells #[.string ⟨#[]⟩, .string ⟨#[]⟩, .int .i64 0] 38)).alloc (.cells #[.string s, .slice A len cap] 69)) ob := ((HM.out.alloc _).alloc _).alloc _
  generalize (((w.alloc (.cells #[.string ⟨#[]⟩, .slice none 0 0] 69)).alloc (.cells #[.string ⟨#[]⟩, .string ⟨#[]⟩, .int .i64 0] 38)).alloc (.cells #[.string s, .slice A len cap] 69)) = W at *
  have m2 := (hb3.cell (p := ⟨mb, 2, none⟩) hml).trans c2
  have x0 := q3.cell 0
  have x1 := q3.cell 1
  simp only [List.getElem?_toArray, List.getElem?_cons_zero, List.getElem?_cons_succ] at x0 x1
  obtain ⟨v, ps, hlk, hv⟩ := World.ownsMap.look_ok (e := 38) hm3.drew op.law Tryd.underlying40 (op.zero_op _) (zd := op.opZ) (zp := []) rfl hkey
  obtain ⟨v2, ps2, hlk2, hv2⟩ := World.ownsMap.look_ok (e := 38) (hm3.alloc (.cells #[.string ⟨#[]⟩, .string ⟨#[]⟩, .int .i64 0] 38)).drew op.law Tryd.underlying40 (op.zero_op _) (zd := op.opZ) (zp := []) rfl hkey
  have hmW : mb < W.heap.size := Nat.lt_of_lt_of_le hml hb3.size
  have hq3l := q3.lt
  have HB3 := Lib.hid hb3
  have HQ1 := Lib.hid q1
  have HQ2 := Lib.hid q2
  have HQ3 := Lib.hid q3
  have n2 : ∀ o, (W.alloc o).cell? ⟨mb, 2, none⟩ = some (.map (some ob)) := fun o => (((Below.refl W.heap.size W).alloc (Nat.le_refl _) o).cell (p := ⟨mb, 2, none⟩) hmW).trans m2
  have z0 : ∀ o, (W.alloc o).cell? ⟨w.heap.size + 1 + 1, 0, none⟩ = some (.string s) := fun o => (((Below.refl W.heap.size W).alloc (Nat.le_refl _) o).cell (p := ⟨w.heap.size + 1 + 1, 0, none⟩) hq3l).trans x0
  have z1 : ∀ o, (W.alloc o).cell? ⟨w.heap.size + 1 + 1, 1, none⟩ = some (.slice A len cap) := fun o => (((Below.refl W.heap.size W).alloc (Nat.le_refl _) o).cell (p := ⟨w.heap.size + 1 + 1, 1, none⟩) hq3l).trans x1
  have HN2 := Lib.hid n2
  have HZ0 := Lib.hid z0
  have HZ1 := Lib.hid z1
  clear hb3 q1 q2 q3 hm3 hkey c2 n2 z0 z1
  obtain ⟨hat, hhas⟩ := HAL.out
  rw [hat] at hv hv2
  obtain ⟨a, ha⟩ : ∃ a : ByteArray, a = ⟨([] : List UInt8).toArray⟩ := ⟨_, rfl⟩
  obtain ⟨b, hb⟩ : ∃ b : ByteArray, b = ⟨([] : List UInt8).toArray⟩ := ⟨_, rfl⟩
  obtain ⟨lv, hl⟩ : ∃ l : Int, l = 0 := ⟨_, rfl⟩
  have h1 : v = .agg #[.string a, .string b, .int .i64 lv] := by rw [ha, hb, hl]; exact op.opR2_inv hv
  have h2 : v2 = .agg #[.string a, .string b, .int .i64 lv] := by rw [ha, hb, hl]; exact op.opR2_inv hv2
  subst h1 h2
  rw [hhas] at hlk hlk2
  clear hv hv2 hat hhas HAL ha hb hl
  go_region_held3 (fun w' => w'.cell? ⟨mb, 2, none⟩ = some (.map (some ob)) ∧ w'.cell? ⟨w.heap.size + 1 + 1, 0, none⟩ = some (.string s) ∧ w'.cell? ⟨w.heap.size + 1 + 1, 1, none⟩ = some (.slice A len cap))
    (first | exact ⟨m2, x0, x1⟩ | exact ⟨HN2.out _, HZ0.out _, HZ1.out _⟩) (fail)
  all_goals
    have q1 : Blk (W.alloc (.cells #[.string a, .string b, .int .i64 lv] 38)).drew w.heap.size 69 #[.string ⟨#[]⟩, .slice none 0 0] := HQ1.out.alloc _
    have q2 : Blk (W.alloc (.cells #[.string a, .string b, .int .i64 lv] 38)).drew (w.heap.size + 1) 38 #[.string ⟨#[]⟩, .string ⟨#[]⟩, .int .i64 0] := HQ2.out.alloc _
    have q3 : Blk (W.alloc (.cells #[.string a, .string b, .int .i64 lv] 38)).drew (w.heap.size + 1 + 1) 69 #[.string s, .slice A len cap] := HQ3.out.alloc _
    have q4 : Blk (W.alloc (.cells #[.string a, .string b, .int .i64 lv] 38)).drew W.heap.size 38 #[.string a, .string b, .int .i64 lv] := Blk.new W _ _
    have hb4 : Below w.heap.size w (W.alloc (.cells #[.string a, .string b, .int .i64 lv] 38)).drew := (HB3.out.alloc HB3.out.size _).drew
    generalize (W.alloc (.cells #[.string a, .string b, .int .i64 lv] 38)).drew = W4 at *
    have r0 := q1.cell 0
    have r1 := q1.cell 1
    have r2 := q2.cell 0
    have r3 := q2.cell 1
    have r4 := q2.cell 2
    have r5 := q3.cell 0
    have r6 := q3.cell 1
    have r7 := q4.cell 0
    have r8 := q4.cell 1
    have r9 := q4.cell 2
    have g0 := q1.frozen 0
    have g1 := q1.frozen 1
    have g2 := q2.frozen 0
    have g3 := q2.frozen 1
    have g4 := q2.frozen 2
    simp only [List.getElem?_toArray, List.getElem?_cons_zero, List.getElem?_cons_succ] at r0 r1 r2 r3 r4 r5 r6 r7 r8 r9
    have hs4 : W.heap.size < W4.heap.size := q4.lt
    have hw4 : w.heap.size + 1 < W4.heap.size := q2.lt
    have hw5 : w.heap.size + 1 < W.heap.size := by omega
    have hw6 : w.heap.size + 1 + 1 < W.heap.size := by omega
    obtain ⟨p1, p2, p3⟩ := nm_store hb4 q1 q2 (.string s) (.slice A len cap) (.string a) (.string b) (.int .i64 lv)
    have HP1 := Lib.hid p1
    have HP2 := Lib.hid p2
    have HP3 := Lib.hid p3
    clear q1 q2 q3 q4 hb4 p1 p2 p3 HQ1 HQ2 HQ3 HB3 m2 x0 x1
    go_wp2_with fail
    go_region
    all_goals
      go_wp2_with fail
      refine bodyPost_ret (v := .tuple #[.agg #[.string s, .slice A len cap], .agg #[.string a, .string b, .int .i64 lv], .bool false]) ?_ rfl ⟨?_, .inr ⟨fun _ => HZ.out, _, _, _, _, _, _, _, rfl⟩⟩
      · exact results_cells2s Tryd.results29 _ _ w.heap.size (w.heap.size + 1) _ _ _ _ _ _ rfl rfl HP1.out HP2.out Tryd.underlying69 rfl (by kernel_rfl) Tryd.underlying38 rfl (by kernel_rfl)
      · exact HP3.out.drew
end Go.Proofs.YtkgapidhoeegmaaDoor.wr

/- opWriter.named of variables and numbers. No condition. -/
namespace Go.Proofs.YtkgapidhoeegmaaDoor.wr
open Go.RowKit Go.Maps

set_option maxRecDepth 100000 in
set_option maxHeartbeats 2000000 in
/-- opWriter.named of a variable. -/
theorem named_var (x : Int) (s : ByteArray) (A : Option Addr) (len cap mb : Nat) (w : World) :
    Calls Tryd.prog 29 #[.pointer (some ⟨mb, 0, none⟩), .iface 81 (.int .i64 x)] w fun e w' => NmR w 1 s A len cap e w' := by
  have hb3 : Below w.heap.size w (((w.alloc (.cells #[.string ⟨#[]⟩, .slice none 0 0] 69)).alloc (.cells #[.string ⟨#[]⟩, .string ⟨#[]⟩, .int .i64 0] 38)).alloc (.cells #[.string ⟨#[]⟩, .slice none 0 0] 69)) :=
    (((Below.refl _ _).alloc (Nat.le_refl _) _).alloc (by simp) _).alloc (by simp; omega) _
  have q1 : Blk (((w.alloc (.cells #[.string ⟨#[]⟩, .slice none 0 0] 69)).alloc (.cells #[.string ⟨#[]⟩, .string ⟨#[]⟩, .int .i64 0] 38)).alloc (.cells #[.string ⟨#[]⟩, .slice none 0 0] 69)) w.heap.size 69 #[.string ⟨#[]⟩, .slice none 0 0] :=
    ((Blk.new w _ _).alloc _).alloc _
  have q2 : Blk (((w.alloc (.cells #[.string ⟨#[]⟩, .slice none 0 0] 69)).alloc (.cells #[.string ⟨#[]⟩, .string ⟨#[]⟩, .int .i64 0] 38)).alloc (.cells #[.string ⟨#[]⟩, .slice none 0 0] 69)) (w.heap.size + 1) 38 #[.string ⟨#[]⟩, .string ⟨#[]⟩, .int .i64 0] := by
    have h := (Blk.new (w.alloc (.cells #[.string ⟨#[]⟩, .slice none 0 0] 69)) 38 #[.string ⟨#[]⟩, .string ⟨#[]⟩, .int .i64 0]).alloc (.cells #[.string ⟨#[]⟩, .slice none 0 0] 69)
    simpa using h
  have HB3 := Lib.hid hb3
  have HQ1 := Lib.hid q1
  have HQ2 := Lib.hid q2
  clear hb3 q1 q2
  go_enter Tryd.func29, Tryd.ntmps29
  go_wp2_with fail
  refine bodyPost_ret (v := .tuple #[.agg #[.string ⟨#[]⟩, .slice none 0 0], .agg #[.string ⟨#[]⟩, .string ⟨#[]⟩, .int .i64 0], .bool false]) ?_ rfl ⟨HB3.out, .inr ⟨fun h => absurd h (by decide), _, _, _, _, _, _, _, rfl⟩⟩
  exact results_cells2s Tryd.results29 _ _ w.heap.size (w.heap.size + 1) _ _ _ _ _ _ rfl rfl HQ1.out HQ2.out Tryd.underlying69 rfl (by kernel_rfl) Tryd.underlying38 rfl (by kernel_rfl)
set_option maxRecDepth 100000 in
set_option maxHeartbeats 2000000 in
/-- opWriter.named of a number. -/
theorem named_num (x : Int) (s : ByteArray) (A : Option Addr) (len cap mb : Nat) (w : World) :
    Calls Tryd.prog 29 #[.pointer (some ⟨mb, 0, none⟩), .iface 82 (.int .i64 x)] w fun e w' => NmR w 2 s A len cap e w' := by
  have hb3 : Below w.heap.size w (((w.alloc (.cells #[.string ⟨#[]⟩, .slice none 0 0] 69)).alloc (.cells #[.string ⟨#[]⟩, .string ⟨#[]⟩, .int .i64 0] 38)).alloc (.cells #[.string ⟨#[]⟩, .slice none 0 0] 69)) :=
    (((Below.refl _ _).alloc (Nat.le_refl _) _).alloc (by simp) _).alloc (by simp; omega) _
  have q1 : Blk (((w.alloc (.cells #[.string ⟨#[]⟩, .slice none 0 0] 69)).alloc (.cells #[.string ⟨#[]⟩, .string ⟨#[]⟩, .int .i64 0] 38)).alloc (.cells #[.string ⟨#[]⟩, .slice none 0 0] 69)) w.heap.size 69 #[.string ⟨#[]⟩, .slice none 0 0] :=
    ((Blk.new w _ _).alloc _).alloc _
  have q2 : Blk (((w.alloc (.cells #[.string ⟨#[]⟩, .slice none 0 0] 69)).alloc (.cells #[.string ⟨#[]⟩, .string ⟨#[]⟩, .int .i64 0] 38)).alloc (.cells #[.string ⟨#[]⟩, .slice none 0 0] 69)) (w.heap.size + 1) 38 #[.string ⟨#[]⟩, .string ⟨#[]⟩, .int .i64 0] := by
    have h := (Blk.new (w.alloc (.cells #[.string ⟨#[]⟩, .slice none 0 0] 69)) 38 #[.string ⟨#[]⟩, .string ⟨#[]⟩, .int .i64 0]).alloc (.cells #[.string ⟨#[]⟩, .slice none 0 0] 69)
    simpa using h
  have HB3 := Lib.hid hb3
  have HQ1 := Lib.hid q1
  have HQ2 := Lib.hid q2
  clear hb3 q1 q2
  go_enter Tryd.func29, Tryd.ntmps29
  go_wp2_with fail
  refine bodyPost_ret (v := .tuple #[.agg #[.string ⟨#[]⟩, .slice none 0 0], .agg #[.string ⟨#[]⟩, .string ⟨#[]⟩, .int .i64 0], .bool false]) ?_ rfl ⟨HB3.out, .inr ⟨fun h => absurd h (by decide), _, _, _, _, _, _, _, rfl⟩⟩
  exact results_cells2s Tryd.results29 _ _ w.heap.size (w.heap.size + 1) _ _ _ _ _ _ rfl rfl HQ1.out HQ2.out Tryd.underlying69 rfl (by kernel_rfl) Tryd.underlying38 rfl (by kernel_rfl)
end Go.Proofs.YtkgapidhoeegmaaDoor.wr

/- opWriter.named at every node; opWriter.operandLevel. Condition: the node lies in memory, the map of operators in the writer's block. -/
namespace Go.Proofs.YtkgapidhoeegmaaDoor.wr
open Go.RowKit Go.Maps

/-- opWriter.named of a node, in a world in which the writer stands. -/
theorem named_any (k n : Int) (s : ByteArray) (f : Fr) (v : Value) (lo hi ob mb : Nat) (tv fv : Value) (w : World) (hv : NdV w lo hi k n s f v) (hs : s.size ≤ maxLen) (hq : Blk w mb 54 #[tv, fv, .map (some ob)]) (hm : op.OpM w ob) :
    ∃ A cap, (k = 3 → NdS w lo hi f A cap ∧ v = .iface 69 (.agg #[.string s, .slice A f.len cap])) ∧ Calls Tryd.prog 29 #[.pointer (some ⟨mb, 0, none⟩), v] w fun e w' => NmR w k s A f.len cap e w' := by
  rcases hv with ⟨rfl, rfl⟩ | ⟨rfl, rfl⟩ | ⟨rfl, A, cap, rfl, hn⟩
  · exact ⟨none, 0, (fun h => absurd h (by decide)), named_var n s none f.len 0 mb w⟩
  · exact ⟨none, 0, (fun h => absurd h (by decide)), named_num n s none f.len 0 mb w⟩
  · refine ⟨A, cap, fun _ => ⟨hn, rfl⟩, ?_⟩
    rcases op.at2_all s.data.toList with ⟨h, _⟩ | ⟨h, _⟩
    · exact named_yes s hs A f.len cap ob mb tv fv w hq hm h
    · exact named_no s hs A f.len cap ob mb tv fv w hq hm h

set_option maxRecDepth 100000 in
set_option maxHeartbeats 2000000 in
/-- opWriter.operandLevel. -/
theorem oplev_any (k n : Int) (s : ByteArray) (f : Fr) (v : Value) (lo hi ob mb : Nat) (tv fv : Value) (w : World) (hv : NdV w lo hi k n s f v) (hs : s.size ≤ maxLen) (hfl : f.len ≤ maxLen) (hq : Blk w mb 54 #[tv, fv, .map (some ob)]) (hm : op.OpM w ob) :
    Calls Tryd.prog 52 #[.pointer (some ⟨mb, 0, none⟩), v] w fun e w' => e = .returned (.int .i64 (olv k s f.len)) ∧ Below w.heap.size w w' := by
  obtain ⟨A, cap, -, C1⟩ := named_any k n s f v lo hi ob mb tv fv w hv hs hq hm
  obtain ⟨T0, x0, rfl⟩ := hv.iface
  have HV : Hid (olv k s f.len = if infB k s f.len = true then op.level s.data.toList else if soleB k s f.len = true then 4 else 0) := Lib.hid rfl
  have HI : Hid (infB k s f.len = (k == 3 && (f.len == 2 && decide (0 < op.level s.data.toList)))) := Lib.hid rfl
  have HS : Hid (soleB k s f.len = (k == 3 && (f.len == 0 && decide (0 < op.level s.data.toList)))) := Lib.hid rfl
  have H1 := Lib.hid C1
  unfold maxLen at hfl
  clear C1 hv hs hq hm
  generalize f.len = len at *
  go_enter Tryd.func52, Tryd.ntmps52
  go_wp2_with fail
  refine H1.out.mono ?_
  rintro e w2 ⟨hb, hr⟩
  have HB := Lib.hid hb
  have HB2 : Hid (∀ o1 o2, Below w.heap.size w ((w2.alloc o1).alloc o2)) := Lib.hid fun o1 o2 => (HB.out.alloc HB.out.size _).alloc (by have := HB.out.size; simp; omega) _
  rcases hr with ⟨rfl, hpos, a, rfl⟩ | ⟨hz, x1, x2, x3, x4, y1, y2, y3, rfl⟩
  · have hd := decide_eq_true hpos
    rw [hd] at HI HS
    clear hd hpos hb
    generalize op.level s.data.toList = lv at *
    by_cases h2 : len = 2
    · subst h2
      have HW : Hid (olv 3 s 2 = lv) := Lib.hid (by rw [HV.out, HI.out]; rfl)
      clear HV HI HS
      go_wp2_with fail
      go_ret
      rw [HW.out]; exact ⟨rfl, HB2.out _ _⟩
    · have t2 : ((len : Int) == 2) = false := by rw [beq_eq_false_iff_ne]; omega
      have hi0 : infB 3 s len = false := by rw [HI.out]; simp [h2]
      by_cases h0 : len = 0
      · subst h0
        have HW : Hid (olv 3 s 0 = 4) := Lib.hid (by rw [HV.out, hi0, HS.out]; rfl)
        clear HV HI HS hi0 h2
        go_wp2_with fail
        go_ret
        rw [HW.out]; exact ⟨rfl, HB2.out _ _⟩
      · have t0 : ((len : Int) == 0) = false := by rw [beq_eq_false_iff_ne]; omega
        have hs0 : soleB 3 s len = false := by rw [HS.out]; simp [h0]
        have HW : Hid (olv 3 s len = 0) := Lib.hid (by rw [HV.out, hi0, hs0]; rfl)
        clear HV HI HS hi0 hs0 h2 h0
        go_wp2_with fail
        go_ret
        rw [HW.out]; exact ⟨rfl, HB2.out _ _⟩
  · have hk : (k == 3) = false ∨ decide (0 < op.level s.data.toList) = false := by
      by_cases h3 : k = 3
      · right; rw [hz h3]; rfl
      · left; rw [beq_eq_false_iff_ne]; exact h3
    have HW : Hid (olv k s len = 0) := Lib.hid (by
      rw [HV.out, HI.out, HS.out]
      rcases hk with h | h <;> rw [h] <;> simp)
    clear HV HI HS hk hz hb
    go_wp2_with fail
    go_ret
    rw [HW.out]; exact ⟨rfl, HB2.out _ _⟩
end Go.Proofs.YtkgapidhoeegmaaDoor.wr

/- opWriter.writeOperand, given the contract of writeWritten. Condition: the node lies in memory below the writer and is well-formed; the tables in their places. -/
namespace Go.Proofs.YtkgapidhoeegmaaDoor.wr
open Go.RowKit

theorem TF.rows {mb : Nat} {w w1 w6 : World} {tv : Value} {n : Nat} {xs : List Value} (hm : mb < w.heap.size) (ho : w.ownsRow (mb + 1) 5 1 tv n xs) (h1 : Below w.heap.size w w1) (hg : w1.grownBy w6 tv.ownBlock) : TF mb w w6 := by
  refine ⟨(h1.mono (Nat.le_of_lt hm)).grown hg (Nat.le_trans (Nat.le_of_lt hm) h1.size) fun k hk => by have := (ho.lt k hk).1; omega, ?_⟩
  refine (TF.below h1 (Nat.le_of_lt hm)).2.grown hg fun k hk => ?_
  obtain ⟨c, fz, hc⟩ := row_kind ho k hk
  exact ⟨c, fz, (h1.block k (ho.lt k hk).2).trans hc⟩
/-- Two calls that make the row grow, and the store of the new row. -/
theorem TW.two {ob mb n4 : Nat} {bs bs' : List UInt8} {xs4 : List Value} {w w1 w4 w5 w6 : World} {tv v4 v6 : Value} (hq : Blk w mb 54 #[tv, fW mb, .map (some ob)]) (ho : w.ownsRow (mb + 1) 5 1 tv bs.length (Lib.byteCells bs)) (h1 : Below w.heap.size w w1) (hg : w1.grownBy w4 tv.ownBlock)
    (ho4 : w4.ownsRow (mb + 1) 5 1 v4 n4 xs4) (h5 : Below w4.heap.size w4 w5) (hg6 : w5.grownBy w6 v4.ownBlock) (ho6 : w6.ownsRow (mb + 1) 5 1 v6 bs'.length (Lib.byteCells bs')) :
    TW ob mb bs' (w6.setCell ⟨mb, 0, none⟩ v6) ∧ TF mb w (w6.setCell ⟨mb, 0, none⟩ v6) ∧ Blk w6 mb 54 #[tv, fW mb, .map (some ob)] := by
  have hm := hq.lt
  have hs4 : w.heap.size ≤ w4.heap.size := Nat.le_trans h1.size hg.size
  have t1 := TF.rows hm ho h1 hg
  have t2 := TF.rows (Nat.lt_of_lt_of_le hm hs4) ho4 h5 hg6
  have hne : some mb ≠ tv.ownBlock := fun e => by have := (ho.lt mb e.symm).1; omega
  have hne4 : some mb ≠ v4.ownBlock := fun e => by have := (ho4.lt mb e.symm).1; omega
  have hq6 : Blk w6 mb 54 #[tv, fW mb, .map (some ob)] := by
    refine hq.keep ?_
    rw [hg6.block mb (Nat.lt_of_lt_of_le (Nat.lt_of_lt_of_le hm hs4) h5.size) hne4, h5.block mb (Nat.lt_of_lt_of_le hm hs4), hg.block mb (Nat.lt_of_lt_of_le hm h1.size) hne, h1.block mb hm]
  refine ⟨⟨v6, ?_, ?_⟩, (t1.trans t2).set_ 0 _, hq6⟩
  · have h := hq6.set_ 0 v6
    simpa using h
  · refine ho6.kept (row := some mb) ⟨rfl, rfl, rfl, by simp [World.setCell], fun k _ hk => ?_⟩ (.inr fun e => ?_)
    · exact heap_setCell_other _ _ _ _ fun e => hk (by rw [e])
    · have := (ho6.lt mb e).1
      omega
theorem row_some {w : World} {base : Nat} {e : TypeId} {A : Option Addr} {n c : Nat} {xs : List Value} (h : w.ownsRow base e 1 (.slice A n c) n xs) (hn : 0 < n) : ∃ g, A = some ⟨g, 0, none⟩ := by
  rcases h.2 with ⟨_, h0⟩ | ⟨g', cap, cur, hv, _⟩
  · omega
  · simp only [Value.slice.injEq] at hv
    exact ⟨g', hv.1⟩
/-- An operand's text. -/
def opT (right : Bool) (k n : Int) (s : ByteArray) (f : Fr) (l : Int) : List UInt8 := if right = true then rigT k n s f l else lefT k n s f l
theorem byteCells_at (a b : List UInt8) (c : UInt8) : (Lib.byteCells (a ++ c :: b))[a.length]? = some (.int .u8 (c.toNat : Int)) := by
  unfold Lib.byteCells
  simp
theorem one_bytes (a : List UInt8) : ∀ v ∈ Lib.byteCells a, v.oneCell' = true := by
  unfold Lib.byteCells
  intro v hv
  simp only [List.mem_map] at hv
  obtain ⟨c, _, rfl⟩ := hv
  rfl
theorem ins_bytes (bs T : List UInt8) : (Lib.byteCells (bs ++ T)).take bs.length ++ Value.int .u8 40 :: (Lib.byteCells (bs ++ T)).drop bs.length = Lib.byteCells (bs ++ 40 :: T) := by
  unfold Lib.byteCells
  rw [List.map_append, List.take_left' (by simp), List.drop_left' (by simp)]
  simp

set_option maxRecDepth 100000 in
set_option maxHeartbeats 4000000 in
/-- opWriter.writeOperand where no brackets are needed. -/
theorem opnd_plain (s : ByteArray) (f : Fr) (h : OwC s f) (k n d l : Int) (right : Bool) (v : Value) (lo hi ob mb : Nat) (bs : List UInt8) (w : World) (hs : shapeT k n s f d = true) (hsz : s.size ≤ maxLen) (hv : NdV w lo hi k n s f v) (hh : hi ≤ mb) (hw : TW ob mb bs w) (hl : bs.length + (txT k n s f).length ≤ 1073741824) (ht : Pow10 ob mb w) (hnd : nodes f ≤ 1048576)
    (h1 : ¬ l < olv k s f.len) (h2 : right = true → plB (txT k n s f) = true) :
    Calls Tryd.prog 30 #[.pointer (some ⟨mb, 0, none⟩), v, .int .i64 l, .bool right] w fun e w' => e = .returned (.tuple #[]) ∧ TW ob mb (bs ++ txT k n s f) w' ∧ TF mb w w' := by
  have hm0 : mb < w.heap.size := by obtain ⟨_, hq, _⟩ := hw; exact hq.lt
  have C1 := h k n d v lo hi ob mb bs w hs hv hh hw hl ht hnd
  have hfl : f.len ≤ maxLen := by have := len_le_nodes f; unfold maxLen; omega
  have C2 := fun (w2 : World) (htf : TF mb w w2) (tv : Value) (hq : Blk w2 mb 54 #[tv, fW mb, .map (some ob)]) => oplev_any k n s f v lo hi ob mb tv (fW mb) w2 (hv.keep (fun p _ hp => htf.1.cell (by omega)) (Nat.le_refl _) (Nat.le_refl _)) hsz hfl hq (OpM_keep ht.2.2 htf.1 ht.2.1)
  have hpos := txT_ne hs
  obtain ⟨c, T', hT⟩ : ∃ c T', txT k n s f = c :: T' := by
    cases hx : txT k n s f with
    | nil => rw [hx] at hpos; simp at hpos
    | cons c T' => exact ⟨c, T', rfl⟩
  have C3 := fun (w3 : World) => follow_any c w3
  have hplc : right = true → plC c = true := fun hr => by have := h2 hr; rw [hT] at this; exact this
  obtain ⟨T0, x0, rfl⟩ := hv.iface
  have H1 := Lib.hid C1
  have H2 := Lib.hid C2
  have H3 := Lib.hid C3
  have HW0 := Lib.hid hw
  have HT := Lib.hid hT
  have d1 : decide (l < olv k s f.len) = false := decide_eq_false h1
  clear C1 C2 C3 h hs hsz hv hh ht hnd h1 h2 hT hfl hpos
  generalize txT k n s f = T at *
  generalize olv k s f.len = ol at *
  obtain ⟨tv0, hq0, ho0⟩ := hw
  obtain ⟨A0, c0, rfl, _, _⟩ := row_form ho0
  have p00 := hq0.cell 0
  simp only [List.getElem?_toArray, List.getElem?_cons_zero] at p00
  have hbl : bs.length ≤ 1073741824 := by omega
  clear hq0 ho0
  go_enter Tryd.func30, Tryd.ntmps30
  go_wp2_with fail
  refine H1.out.mono ?_
  rintro e w2 ⟨rfl, hw2, htf2⟩
  obtain ⟨tv2, hq2, ho2⟩ := hw2
  have C4 := H2.out w2 htf2 tv2 hq2
  have H4 := Lib.hid C4
  have HTF2 := Lib.hid htf2
  have HW2 : Hid (TW ob mb (bs ++ T) w2) := Lib.hid ⟨tv2, hq2, ho2⟩
  have hm2 := hq2.lt
  clear C4 htf2 hq2 ho2 p00
  go_wp2_with fail
  refine H4.out.mono ?_
  rintro e w3 ⟨rfl, hb3⟩
  have HW3 := Lib.hid (HW2.out.below hb3)
  have HTF3 := Lib.hid (HTF2.out.trans (TF.below hb3 (Nat.le_of_lt hm2)))
  clear hb3
  cases right
  · clear hplc
    go_wp2_with fail
    go_end0
    exact ⟨rfl, HW3.out, HTF3.out⟩
  · have hpc := hplc rfl
    obtain ⟨tv3, hq3, ho3⟩ := HW3.out
    obtain ⟨A3, c3, rfl, hc3, hc4⟩ := row_form ho3
    obtain ⟨g, rfl⟩ := row_some ho3 (by rw [HT.out]; simp only [List.length_append, List.length_cons]; omega)
    have p03 := hq3.cell 0
    simp only [List.getElem?_toArray, List.getElem?_cons_zero] at p03
    have hy := ho3.cells (g := g) rfl bs.length (.int .u8 (c.toNat : Int)) (by rw [HT.out]; exact byteCells_at bs T' c)
    have e : (⟨g, 0, none⟩ : Addr).add bs.length = ⟨g, bs.length, none⟩ := by unfold Addr.add; split <;> simp_all
    rw [e] at hy
    have hlt : bs.length < (bs ++ T).length := by rw [HT.out]; simp only [List.length_append, List.length_cons]; omega
    have C5 := H3.out w3
    rw [hpc] at C5
    have H5 := Lib.hid C5
    have hNl : (bs ++ T).length ≤ 1073741824 := by rw [List.length_append]; exact hl
    unfold maxLen at hc4
    generalize (bs ++ T).length = N at *
    clear hplc hpc C5 hq3 ho3 e
    go_wp2_with (first
      | (go_at_call 53; refine H5.out.mono ?_; rintro e w3 ⟨rfl, rfl⟩)
      | fail)
    go_end0
    exact ⟨rfl, HW3.out, HTF3.out⟩
end Go.Proofs.YtkgapidhoeegmaaDoor.wr
