/- impl.termWriter.writeTerm of an opWriter, at every node that is no operator with two operands. Condition: the nodes lie in memory below the writer and are well-formed; the table of powers of ten in its variable. -/
import Derived.Test.YtmgfndgmebignaaGreatDoorProg
import Derived.Test.YtmgfndgmebignaaGreatDoorZmFQ43
import Derived.Test.YtmgfndgmebignaaGreatDoorNvWalks
import Derived.Test.YtmgfndgmebignaaGreatDoorTxP
import Derived.Test.YtmgfndgmebignaaGreatDoorTermOf
import Derived.Lib.SlBytesConst
import Derived.Test.YtmgfndgmebignaaGreatDoorTxQ
import Derived.Test.YtmgfndgmebignaaGreatDoorSpecC
import Derived.Test.YtmgfndgmebignaaGreatDoorTb
import Derived.Test.YtmgfndgmebignaaGreatDoorAll
namespace Go.Proofs.YtmgfndgmebignaaGreatDoor.wr
open Go.RowKit

set_option maxRecDepth 100000 in
set_option maxHeartbeats 8000000 in
/-- termWriter.writeTerm. -/
theorem wterm_of (s : ByteArray) (f : Fr) (h : ∀ s' f', f'.size < f.size → OwC s' f') : WtC s f := by
  intro k n d v lo hi ob mb bs w hinf hs hv hh hw hl ht hnd
  obtain ⟨i0, hi0, hz0, hz1, hz2⟩ := info_parts infoU8
  have HINF := Lib.hid hinf
  clear hinf
  have hm0 : mb < w.heap.size := by obtain ⟨_, hq, _⟩ := hw; exact hq.lt
  have hkind := shapeT_kind3 hs
  rcases hv with ⟨rfl, rfl⟩ | ⟨rfl, rfl⟩ | ⟨rfl, A, cap, rfl, hnds⟩
  · have hn : 0 ≤ n ∧ n ≤ 25 := by omega
    have hT : Hid (txT 1 n s f = [UInt8.ofNat (65 + n.toNat)]) := Lib.hid (txT_var n s f)
    have hc : ((UInt8.ofNat (65 + n.toNat)).toNat : Int) = 65 + n := by rw [UInt8.toNat_ofNat']; omega
    have HC := Lib.hid hc
    have hl2 : bs.length ≤ 1073741824 := by omega
    generalize UInt8.ofNat (65 + n.toNat) = ch at *
    clear h hs hl ht hnd hkind hc
    obtain ⟨hn0, hn1⟩ := hn
    obtain ⟨tv1, hq1, ho1⟩ := hw
    obtain ⟨A1, c1, rfl, _, _⟩ := row_form ho1
    have p01 := hq1.cell 0
    have p11 := hq1.cell 1
    have pf1 := hq1.frozen 0
    simp only [List.getElem?_toArray, List.getElem?_cons_zero, List.getElem?_cons_succ] at p01 p11
    unfold fW at p11
    have hm1 := hq1.lt
    have HO1 := Lib.hid ho1
    have HQ1 := Lib.hid hq1
    clear hq1 ho1
    go_enter Tryz.func90, Tryz.ntmps90
    go_wp2_with (at_builtin; go_must (refine wpList_append_lies _ rfl _ _ _ rfl (mb + 1) 5 i0 _ 1 1 Tryz.underlying71 hi0 hz0 hz1 hz2 rfl (by omega) _ (bs).length (Lib.byteCells (bs)) rfl (HO1.out.alloc _) ⟨w.heap.size, 0, none⟩ 1 1 [.int .u8 (65 + n)] rfl rfl (World.news_of_block (cs := #[.int .u8 (65 + n)]) (t := 5) (fr := (0, 0)) (Blk.new w 5 #[.int .u8 (65 + n)])) (by simp [Value.oneCell']) (by omega) (by unfold maxLen; omega) (by omega) (by simp; omega) (w.heap.size + 1) (by simp) ?_); intro g1 cap1 w1 hown1 hgrow1 _ _; have hst1 := TW.step1 (c := ch) HQ1.out HO1.out HC.out hgrow1 hown1; have y1 := hst1.2.2.cell 0; have yf1 := hst1.2.2.frozen 0; simp only [List.getElem?_toArray, List.getElem?_cons_zero] at y1; have HS1 := Lib.hid (And.intro hst1.1 hst1.2.1); clear hown1 hgrow1 hst1; refine Hid.out ?_)
    refine Lib.hid ?_
    have HFN : Hid (TW ob mb (bs ++ txT 1 n s f) _ ∧ TF mb w _) := Lib.hid ⟨by rw [hT.out]; exact HS1.out.1, HS1.out.2⟩
    go_wp2_with fail
    go_end0
    exact ⟨rfl, HFN.out⟩
  · have hn : -999 ≤ n ∧ n ≤ 999 := by omega
    have hT : Hid (txT 2 n s f = Lib.itoa n) := Lib.hid (txT_int n s f)
    have hl2 : bs.length ≤ 1073741824 := by omega
    have HT := Lib.hid ht
    clear h hs hl hnd hkind ht
    obtain ⟨tv2, hq2, ho2⟩ := hw
    obtain ⟨A2, c2, rfl, _, _⟩ := row_form ho2
    have p02 := hq2.cell 0
    have p12 := hq2.cell 1
    have pf2 := hq2.frozen 0
    simp only [List.getElem?_toArray, List.getElem?_cons_zero, List.getElem?_cons_succ] at p02 p12
    unfold fW at p12
    have hm2 := hq2.lt
    have HO2 := Lib.hid ho2
    have HQ2 := Lib.hid hq2
    clear hq2 ho2
    have C1 := appInt_any (mb + 1) bs.length n (by omega) (by omega) (.slice A2 bs.length c2) (Lib.byteCells bs) w HO2.out (by omega) (by omega) fun w' hb => HT.out.1 w' (hb.mono (Nat.le_succ _))
    have H1 := Lib.hid C1
    clear C1 hn
    go_enter Tryz.func90, Tryz.ntmps90
    go_wp2_with fail
    refine H1.out.mono ?_
    rintro e w3 ⟨v3, rfl, ho3, hb3, hk3⟩
    have htf := TF.appInt hb3 hk3
    have hq3 : Blk w3 mb 77 #[.slice A2 bs.length c2, fW mb, .map (some ob)] := HQ2.out.keep (hb3.block mb (by omega))
    have hfin : TW ob mb (bs ++ txT 2 n s f) (w3.setCell ⟨mb, 0, none⟩ v3) ∧ TF mb w (w3.setCell ⟨mb, 0, none⟩ v3) := by
      refine ⟨⟨v3, ?_, ?_⟩, htf.set_ 0 _⟩
      · have h := hq3.set_ 0 v3
        simpa using h
      · rw [hT.out, byteCells_app, List.length_append]
        refine ho3.kept (row := some mb) ⟨rfl, rfl, rfl, by simp [World.setCell], fun k _ hk => ?_⟩ (.inr fun e => ?_)
        · exact heap_setCell_other _ _ _ _ fun e => hk (by rw [e])
        · have := (ho3.lt mb e).1
          omega
    obtain ⟨A3, c3, rfl, _, _⟩ := row_form ho3
    have x0 := hq3.cell 0
    have xf := hq3.frozen 0
    simp only [List.getElem?_toArray, List.getElem?_cons_zero] at x0
    have HFN := Lib.hid hfin
    clear htf hfin ho3 hb3 hk3 hq3
    generalize (Lib.itoa n).length = il at *
    go_wp2_with fail
    go_end0
    exact ⟨rfl, HFN.out⟩
  · have hs3 := shapeT_struct hs
    have hs6 := nameB_size hs3.2.1
    have hspos : 0 < s.size := by
      have h1 : s.data.toList.length = s.size := rfl
      have h2 := List.length_pos_iff.2 (name_pos3 hs3.2.1)
      omega
    have hv3 : NdV w lo hi 3 n s f (.iface 116 (.agg #[.string s, .slice A f.len cap])) := .inr (.inr ⟨rfl, A, cap, rfl, hnds⟩)
    have hb0 : Below w.heap.size w (w.alloc (.cells #[.string s, .slice A f.len cap] 116)) := (Below.refl _ _).alloc (Nat.le_refl _) _
    have hq0 := Blk.new w 116 #[.string s, .slice A f.len cap]
    have C1 := split2_any 3 n s f (.iface 116 (.agg #[.string s, .slice A f.len cap])) lo hi (w.alloc (.cells #[.string s, .slice A f.len cap] 116)) (hv3.keep (fun p _ hp => hb0.cell (by omega)) (Nat.le_refl _) (Nat.le_refl _)) (Nat.le_trans (by omega) hb0.size) hnd
    have H1 := Lib.hid C1
    have HB0 := Lib.hid hb0
    have HQ0 := Lib.hid hq0
    have HW := Lib.hid hw
    have HH := Lib.hid h
    have HSH := Lib.hid hs
    have HT := Lib.hid ht
    have HND := Lib.hid hnds
    have HLL := Lib.hid hl
    have HN := Lib.hid hnd
    have hfl := Nat.le_trans hnds.1 hnds.2.1
    clear C1 hb0 hq0 h hs ht hnds hl hv3 hkind hnd hw
    go_enter Tryz.func90, Tryz.ntmps90
    go_wp2_with fail
    refine H1.out.mono ?_
    rintro e w2 ⟨hb2, v2, tl, rfl, ⟨xs, hown, hD⟩, k', n', s', f', htl, hv'⟩
    have hbw := HB0.out.trans (hb2.mono HB0.out.size)
    have hq2 := HQ0.out.below hb2 HQ0.out.lt
    have hw2 := HW.out.below hbw
    have htf2 := TF.below hbw (Nat.le_of_lt hm0)
    have hs2 := hbw.size
    obtain ⟨T9, x9, rfl⟩ := hv'.iface
    have z0 := hq2.cell 0
    have z1 := hq2.cell 1
    simp only [List.getElem?_toArray, List.getElem?_cons_zero, List.getElem?_cons_succ] at z0 z1
    have HQ2 := Lib.hid hq2
    have HTF2 := Lib.hid htf2
    have HW2 := Lib.hid hw2
    cases hp : pairB 3 s f.len
    · have hfr := (pair_no n hp).1
      have HTX : Hid (txT 3 n s f = s.data.toList ++ argsB (txs f)) := Lib.hid (txT_str hp HINF.out)
      have HAM := Lib.hid (argsB_more f)
      rw [hfr] at hown
      obtain ⟨A9, c9, rfl, _, _⟩ := row_form hown
      have ez : (Fr.nil.len : Int) = 0 := rfl
      have hl6 : bs.length + s.size ≤ 1073741824 := by
        have h := HLL.out
        rw [HTX.out, List.length_append] at h
        have h1 : s.data.toList.length = s.size := rfl
        omega
      have hsb : w.heap.size ≠ mb := by omega
      clear hown hD hb2 hv' htl hq2 htf2 hbw hp hfr hs3
      obtain ⟨tv3, hq3, ho3⟩ := hw2
      obtain ⟨A3, c3, rfl, _, _⟩ := row_form ho3
      have p03 := hq3.cell 0
      have p13 := hq3.cell 1
      have pf3 := hq3.frozen 0
      simp only [List.getElem?_toArray, List.getElem?_cons_zero, List.getElem?_cons_succ] at p03 p13
      unfold fW at p13
      have hm3 := hq3.lt
      have HO3 := Lib.hid ho3
      have HQ3 := Lib.hid hq3
      clear hq3 ho3
      go_wp2_with fail
      go_region_law
        (first
          | (refine step_append_str (w2.drew) (by rfl) _ _ _ _ (by rfl) (mb + 1) 5 i0 Tryz.underlying71 Tryz.underlying9 hi0 hz0 hz1 hz2 _ bs.length (Lib.byteCells bs) (by rfl) HO3.out.drew s (by rfl) hspos (by unfold maxLen; omega) (by omega) (by show mb + 1 ≤ w2.heap.size; omega) ?_
             intro g6 cap6 w6 hown6 hgrow6
             have hst6 := TW.step (add := s.data.toList) HQ3.out HO3.out (Below.refl w2.heap.size w2).drew hgrow6 hown6
             have hmd6 := TW.mid HQ3.out HO3.out (Below.refl w2.heap.size w2).drew hgrow6
             have hq6 := hmd6.blk HQ2.out hsb (by decide)
             have y6 := hst6.2.2.cell 0
             have yf6 := hst6.2.2.frozen 0
             have u6 := hq6.cell 0
             simp only [List.getElem?_toArray, List.getElem?_cons_zero] at y6 u6
             have v6 := (hst6.2.1.blk HQ2.out hsb (by decide)).cell 0
             simp only [List.getElem?_toArray, List.getElem?_cons_zero] at v6
             have HS6 := Lib.hid (And.intro hst6.1 hst6.2.1)
             clear hown6 hgrow6 hst6 hmd6 hq6))
      all_goals
        have HX6 : Hid (TW ob mb (bs ++ s.data.toList) (w6.setCell ⟨mb, 0, none⟩ (.slice (some ⟨g6, 0, none⟩) (bs.length + s.size) cap6)) ∧ TF mb w2 (w6.setCell ⟨mb, 0, none⟩ (.slice (some ⟨g6, 0, none⟩) (bs.length + s.size) cap6))) := HS6
        clear HS6 y6 u6 v6 yf6 z0 z1 p03 p13 pf3
        generalize w6.setCell ⟨mb, 0, none⟩ (.slice (some ⟨g6, 0, none⟩) (bs.length + s.size) cap6) = W6 at *
        have hq6 := HX6.out.2.blk HQ2.out hsb (by decide)
        have zz1 := hq6.cell 1
        simp only [List.getElem?_toArray, List.getElem?_cons_zero, List.getElem?_cons_succ] at zz1
        have HQ6 := Lib.hid hq6
        have HTF6 := Lib.hid (HTF2.out.trans HX6.out.2)
        have hm6 : mb < W6.heap.size := Nat.lt_of_lt_of_le hm0 HTF6.out.1.size
        clear hq6
        by_cases h0 : f.len = 0
        · have HV : Hid (txT 3 n s f = s.data.toList) := Lib.hid (by rw [HTX.out, HAM.out, if_pos h0, List.append_nil])
          have HFN : Hid (TW ob mb (bs ++ txT 3 n s f) W6 ∧ TF mb w W6) := Lib.hid (by rw [HV.out]; exact ⟨HX6.out.1, HTF6.out⟩)
          rw [h0] at zz1
          have t0 : ¬ (0 : Int) < ((0 : Nat) : Int) := by decide
          clear h0
          go_wp2_with fail
          go_end0
          exact ⟨rfl, HFN.out⟩
        · have hB : bs ++ txT 3 n s f = bs ++ s.data.toList ++ [40] ++ remB 0 f ++ [41] := by rw [HTX.out, HAM.out, if_neg h0, moreB_rem f h0]; simp
          have HBE := Lib.hid hB
          have hlB : bs.length + s.size + 2 + (remB 0 f).length ≤ 1073741824 := by
            have h1 := congrArg List.length hB
            have h2 := HLL.out
            have h3 : s.data.toList.length = s.size := rfl
            simp only [List.length_append, List.length_cons, List.length_nil] at h1 h2
            omega
          have t0 : (0 : Int) < (f.len : Int) := by omega
          have hw6 := HX6.out.1
          generalize hB1 : bs ++ s.data.toList = B1 at *
          have hlb1 : B1.length ≤ bs.length + s.size := by rw [← hB1, List.length_append]; exact Nat.le_refl _
          have HB1 := Lib.hid hB1
          clear hB1 hB h0
          obtain ⟨tv7, hq7, ho7⟩ := hw6
          obtain ⟨A7, c7, rfl, _, _⟩ := row_form ho7
          have p07 := hq7.cell 0
          have p17 := hq7.cell 1
          have pf7 := hq7.frozen 0
          simp only [List.getElem?_toArray, List.getElem?_cons_zero, List.getElem?_cons_succ] at p07 p17
          unfold fW at p17
          have hm7 := hq7.lt
          have HO7 := Lib.hid ho7
          have HQ7 := Lib.hid hq7
          clear hq7 ho7
          go_wp2_with (at_builtin; go_must (refine wpList_append_lies _ rfl _ _ _ rfl (mb + 1) 5 i0 _ 1 1 Tryz.underlying71 hi0 hz0 hz1 hz2 rfl (by omega) _ (B1).length (Lib.byteCells (B1)) rfl (HO7.out.alloc _) ⟨W6.heap.size, 0, none⟩ 1 1 [.int .u8 40] rfl rfl (World.news_of_block (cs := #[.int .u8 40]) (t := 5) (fr := (0, 0)) (Blk.new W6 5 #[.int .u8 40])) (by simp [Value.oneCell']) (by omega) (by unfold maxLen; omega) (by omega) (by simp; omega) (W6.heap.size + 1) (by simp) ?_); intro g7 cap7 w7 hown7 hgrow7 _ _; have hst7 := TW.step1 (c := 40) HQ7.out HO7.out rfl hgrow7 hown7; have y7 := hst7.2.2.cell 0; have yf7 := hst7.2.2.frozen 0; simp only [List.getElem?_toArray, List.getElem?_cons_zero] at y7; have HS7 := Lib.hid (And.intro hst7.1 hst7.2.1); clear hown7 hgrow7 hst7; refine Hid.out ?_)
          refine Lib.hid ?_
          have hq7 := HS7.out.2.blk HQ6.out hsb (by decide)
          have zz7 := hq7.cell 1
          simp only [List.getElem?_toArray, List.getElem?_cons_zero, List.getElem?_cons_succ] at zz7
          have HTF7 := Lib.hid (HTF6.out.trans HS7.out.2)
          have C8 := parts_of f (fun j k n s kids rest hd => HH.out s kids (by have h1 := Fr.size_drop j f; rw [hd] at h1; simp only [Fr.size] at h1; omega)) (d - 1) A cap lo hi ob mb (B1 ++ [40]) _ (shapeT_kids HSH.out) (PR.old (HND.out.keep (fun p _ hp => HTF7.out.1.cell (by omega)) (Nat.le_refl _) (Nat.le_refl _)) hh) hh HS7.out.1 (by simp only [List.length_append, List.length_cons, List.length_nil]; omega) (HT.out.on HTF7.out.1) HN.out
          have H8 := Lib.hid C8
          clear C8 hq7 zz1
          go_wp2_with fail
          refine H8.out.mono ?_
          rintro e w8 ⟨rfl, hw8, htf8⟩
          have HTF8 := Lib.hid (HTF7.out.trans htf8)
          have hz8 : (B1 ++ [40] ++ remB 0 f).length ≤ 1073741824 := by simp only [List.length_append, List.length_cons, List.length_nil]; omega
          clear htf8
          generalize hB8 : B1 ++ [40] ++ remB 0 f = B8 at *
          have HB8 := Lib.hid hB8
          clear hB8
          obtain ⟨tv9, hq9, ho9⟩ := hw8
          obtain ⟨A9, c9, rfl, _, _⟩ := row_form ho9
          have p09 := hq9.cell 0
          have p19 := hq9.cell 1
          have pf9 := hq9.frozen 0
          simp only [List.getElem?_toArray, List.getElem?_cons_zero, List.getElem?_cons_succ] at p09 p19
          unfold fW at p19
          have hm9 := hq9.lt
          have HO9 := Lib.hid ho9
          have HQ9 := Lib.hid hq9
          clear hq9 ho9
          go_wp2_with (at_builtin; go_must (refine wpList_append_lies _ rfl _ _ _ rfl (mb + 1) 5 i0 _ 1 1 Tryz.underlying71 hi0 hz0 hz1 hz2 rfl (by omega) _ (B8).length (Lib.byteCells (B8)) rfl (HO9.out.alloc _) ⟨w8.heap.size, 0, none⟩ 1 1 [.int .u8 41] rfl rfl (World.news_of_block (cs := #[.int .u8 41]) (t := 5) (fr := (0, 0)) (Blk.new w8 5 #[.int .u8 41])) (by simp [Value.oneCell']) (by omega) (by unfold maxLen; omega) (by omega) (by simp; omega) (w8.heap.size + 1) (by simp) ?_); intro g9 cap9 w9 hown9 hgrow9 _ _; have hst9 := TW.step1 (c := 41) HQ9.out HO9.out rfl hgrow9 hown9; have y9 := hst9.2.2.cell 0; have yf9 := hst9.2.2.frozen 0; simp only [List.getElem?_toArray, List.getElem?_cons_zero] at y9; have HS9 := Lib.hid (And.intro hst9.1 hst9.2.1); clear hown9 hgrow9 hst9; refine Hid.out ?_)
          refine Lib.hid ?_
          have HFN : Hid (TW ob mb (bs ++ txT 3 n s f) _ ∧ TF mb w _) := Lib.hid ⟨by
            have e : B8 ++ [41] = bs ++ txT 3 n s f := by rw [HBE.out, ← HB8.out]
            rw [← e]; exact HS9.out.1, HTF8.out.trans HS9.out.2⟩
          go_wp2_with fail
          go_end0
          exact ⟨rfl, HFN.out⟩
    · obtain ⟨A9, c9, rfl, hPR⟩ := PR.new hown hD hb2 hh (by have := HB0.out.size; omega)
      have hpos : (fronts 3 s f).len ≠ 0 := by
        obtain ⟨k1, n1, s1, kd1, r, hf, _⟩ := txT_list hp htl
        rw [hf]; simp [Fr.len]
      obtain ⟨nf1, nf2⟩ := fr_nodes f.size 3 n s f (Nat.le_refl _)
      have C3 := wlist_of 3 n d s f hp HSH.out HH.out A9 c9 lo hi ob mb bs w2 hPR k' n' s' f' htl (.iface T9 x9) (hv'.keep (fun p _ hp => hb2.cell (by have := HB0.out.size; omega)) (Nat.le_refl _) (Nat.le_refl _)) hh hw2 HLL.out (HT.out.on htf2.1) (Nat.le_trans nf1 HN.out) (Nat.le_trans (nf2 k' n' s' f' htl) HN.out)
      have t0 : (0 : Int) < ((fronts 3 s f).len : Int) := by omega
      have H3 := Lib.hid C3
      clear C3 hown hD hb2 hv' htl hq2 htf2 hbw hp hs3 hw2 hPR hpos nf1 nf2
      generalize (fronts 3 s f).len = fl at *
      go_wp2_with fail
      refine H3.out.mono ?_
      rintro e w3 ⟨rfl, hw3, htf3⟩
      have HFN : Hid (TW ob mb (bs ++ txT 3 n s f) w3 ∧ TF mb w w3) := Lib.hid ⟨hw3, HTF2.out.trans htf3⟩
      clear hw3 htf3
      go_wp2_with fail
      first
        | (go_end0; exact ⟨rfl, HFN.out⟩)
        | ((try simp only [Exit.inBlock, Exit.then]); refine bodyPost_ret (results_none rfl _ _ _) rfl ?_; exact ⟨rfl, HFN.out⟩)
end Go.Proofs.YtmgfndgmebignaaGreatDoor.wr

/- Bytes of a text at an offset: spec.l1Small, l1Digit, l1Sign. Condition: the text is no longer than a string can be. -/
namespace Go.Proofs.YtmgfndgmebignaaGreatDoor
open Go.RowKit

/-- The byte at an offset meets a test. -/
def atB (p : UInt8 → Bool) (l : List UInt8) (i : Nat) : Bool := match l[i]? with | some c => p c | none => false
def smC (c : UInt8) : Bool := decide (97 ≤ c.toNat) && decide (c.toNat ≤ 122)
def dgC (c : UInt8) : Bool := decide (48 ≤ c.toNat) && decide (c.toNat ≤ 57)
def sgC (x : Int) (c : UInt8) : Bool := (c.toNat : Int) == x
theorem atB_some {p : UInt8 → Bool} {l : List UInt8} {i : Nat} {c : UInt8} (h : l[i]? = some c) : atB p l i = p c := by unfold atB; rw [h]
theorem atB_none {p : UInt8 → Bool} {l : List UInt8} {i : Nat} (h : l.length ≤ i) : atB p l i = false := by unfold atB; rw [List.getElem?_eq_none h]

set_option maxHeartbeats 1000000 in
/-- spec.l1Small. -/
theorem small_any (s : ByteArray) (i : Nat) (w : World) (_hs : s.size ≤ maxLen) (_hi : i ≤ maxLen) :
    Calls Tryz.prog 125 #[.string s, .int .i64 i] w fun e w' => e = .returned (.bool (atB smC s.data.toList i)) ∧ w' = w := by
  unfold maxLen at _hs _hi
  by_cases hlt : i < s.size
  · have HV : Hid (atB smC s.data.toList i = (decide (97 ≤ s[i].toNat) && decide (s[i].toNat ≤ 122))) := Lib.hid (atB_some (Lib.data_getElem? s i hlt))
    by_cases h1 : 97 ≤ s[i].toNat
    · by_cases h2 : s[i].toNat ≤ 122
      · have HW : Hid (atB smC s.data.toList i = true) := Lib.hid (by rw [HV.out, decide_eq_true h1, decide_eq_true h2]; rfl)
        have b1 : (97 : Int) ≤ (s[i].toNat : Int) := by omega
        have b2 : decide ((s[i].toNat : Int) ≤ 122) = true := by simp; omega
        clear HV h1 h2
        go_enter Tryz.func125, Tryz.ntmps125
        go_wp2_with fail
        go_ret
        rw [HW.out]; exact ⟨rfl, rfl⟩
      · have HW : Hid (atB smC s.data.toList i = false) := Lib.hid (by rw [HV.out, decide_eq_true h1, decide_eq_false h2]; rfl)
        have b1 : (97 : Int) ≤ (s[i].toNat : Int) := by omega
        have b2 : decide ((s[i].toNat : Int) ≤ 122) = false := by simp; omega
        clear HV h1 h2
        go_enter Tryz.func125, Tryz.ntmps125
        go_wp2_with fail
        go_ret
        rw [HW.out]; exact ⟨rfl, rfl⟩
    · have HW : Hid (atB smC s.data.toList i = false) := Lib.hid (by rw [HV.out, decide_eq_false h1]; rfl)
      have b1 : ¬ (97 : Int) ≤ (s[i].toNat : Int) := by omega
      clear HV h1
      go_enter Tryz.func125, Tryz.ntmps125
      go_wp2_with fail
      go_ret
      rw [HW.out]; exact ⟨rfl, rfl⟩
  · have HW : Hid (atB smC s.data.toList i = false) := Lib.hid (atB_none (by show s.size ≤ i; omega))
    go_enter Tryz.func125, Tryz.ntmps125
    go_wp2_with fail
    go_ret
    rw [HW.out]; exact ⟨rfl, rfl⟩
set_option maxHeartbeats 1000000 in
/-- spec.l1Digit. -/
theorem digit_any (s : ByteArray) (i : Nat) (w : World) (_hs : s.size ≤ maxLen) (_hi : i ≤ maxLen) :
    Calls Tryz.prog 97 #[.string s, .int .i64 i] w fun e w' => e = .returned (.bool (atB dgC s.data.toList i)) ∧ w' = w := by
  unfold maxLen at _hs _hi
  by_cases hlt : i < s.size
  · have HV : Hid (atB dgC s.data.toList i = (decide (48 ≤ s[i].toNat) && decide (s[i].toNat ≤ 57))) := Lib.hid (atB_some (Lib.data_getElem? s i hlt))
    by_cases h1 : 48 ≤ s[i].toNat
    · by_cases h2 : s[i].toNat ≤ 57
      · have HW : Hid (atB dgC s.data.toList i = true) := Lib.hid (by rw [HV.out, decide_eq_true h1, decide_eq_true h2]; rfl)
        have b1 : (48 : Int) ≤ (s[i].toNat : Int) := by omega
        have b2 : decide ((s[i].toNat : Int) ≤ 57) = true := by simp; omega
        clear HV h1 h2
        go_enter Tryz.func97, Tryz.ntmps97
        go_wp2_with fail
        go_ret
        rw [HW.out]; exact ⟨rfl, rfl⟩
      · have HW : Hid (atB dgC s.data.toList i = false) := Lib.hid (by rw [HV.out, decide_eq_true h1, decide_eq_false h2]; rfl)
        have b1 : (48 : Int) ≤ (s[i].toNat : Int) := by omega
        have b2 : decide ((s[i].toNat : Int) ≤ 57) = false := by simp; omega
        clear HV h1 h2
        go_enter Tryz.func97, Tryz.ntmps97
        go_wp2_with fail
        go_ret
        rw [HW.out]; exact ⟨rfl, rfl⟩
    · have HW : Hid (atB dgC s.data.toList i = false) := Lib.hid (by rw [HV.out, decide_eq_false h1]; rfl)
      have b1 : ¬ (48 : Int) ≤ (s[i].toNat : Int) := by omega
      clear HV h1
      go_enter Tryz.func97, Tryz.ntmps97
      go_wp2_with fail
      go_ret
      rw [HW.out]; exact ⟨rfl, rfl⟩
  · have HW : Hid (atB dgC s.data.toList i = false) := Lib.hid (atB_none (by show s.size ≤ i; omega))
    go_enter Tryz.func97, Tryz.ntmps97
    go_wp2_with fail
    go_ret
    rw [HW.out]; exact ⟨rfl, rfl⟩
set_option maxHeartbeats 1000000 in
/-- spec.l1Sign. -/
theorem sign_any (s : ByteArray) (i : Nat) (x : Int) (w : World) (_hs : s.size ≤ maxLen) (_hi : i ≤ maxLen) :
    Calls Tryz.prog 49 #[.string s, .int .i64 i, .int .u8 x] w fun e w' => e = .returned (.bool (atB (sgC x) s.data.toList i)) ∧ w' = w := by
  unfold maxLen at _hs _hi
  by_cases hlt : i < s.size
  · have HV : Hid (atB (sgC x) s.data.toList i = ((s[i].toNat : Int) == x)) := Lib.hid (atB_some (Lib.data_getElem? s i hlt))
    cases h : ((s[i].toNat : Int) == x)
    · have HW : Hid (atB (sgC x) s.data.toList i = false) := Lib.hid (by rw [HV.out, h])
      clear HV
      go_enter Tryz.func49, Tryz.ntmps49
      go_wp2_with fail
      go_ret
      rw [HW.out]; exact ⟨rfl, rfl⟩
    · have HW : Hid (atB (sgC x) s.data.toList i = true) := Lib.hid (by rw [HV.out, h])
      clear HV
      go_enter Tryz.func49, Tryz.ntmps49
      go_wp2_with fail
      go_ret
      rw [HW.out]; exact ⟨rfl, rfl⟩
  · have HW : Hid (atB (sgC x) s.data.toList i = false) := Lib.hid (atB_none (by show s.size ≤ i; omega))
    go_enter Tryz.func49, Tryz.ntmps49
    go_wp2_with fail
    go_ret
    rw [HW.out]; exact ⟨rfl, rfl⟩
end Go.Proofs.YtmgfndgmebignaaGreatDoor

/- The model's texts of terms: spec.l1Letter, l18Dec, l1Dec, l1Text, l1List. Condition: the term lies in memory and is well-formed. -/
namespace Go.Proofs.YtmgfndgmebignaaGreatDoor
open Go.RowKit

theorem str_app (a b : List UInt8) : (.string (⟨a.toArray⟩ ++ ⟨b.toArray⟩) : Value) = .string ⟨(a ++ b).toArray⟩ := congrArg Value.string (ByteArray.mk_append_mk a b)
theorem str_own (s : ByteArray) : s = ⟨s.data.toList.toArray⟩ := by cases s; simp
theorem one_byteV (x : Int) (c : UInt8) (hc : (c.toNat : Int) = x) (w : World) : (convert 71 9 (.slice (some ⟨w.heap.size, 0, none⟩) 1 1)).run Tryz.prog (w.alloc (.cells #[.int .u8 x] 5)) =
    .ok (.string ⟨[c].toArray⟩) (w.alloc (.cells #[.int .u8 x] 5)) := by
  refine run_convert_bytes_back _ _ _ 5 ⟨w.heap.size, 0, none⟩ 1 [c] Tryz.underlying71 Tryz.underlying5 Tryz.underlying9 fun i hi => ?_
  obtain rfl : i = 0 := by simpa using hi
  have h := (Blk.new w 5 #[.int .u8 x]).cell 0
  show (w.alloc _).cell? ⟨w.heap.size, 0, none⟩ = some (.int .u8 (c.toNat : Int))
  rw [h, hc]
  rfl
set_option maxRecDepth 100000 in
/-- spec.l1Letter. -/
theorem letter_any2 (n : Int) (h : 0 ≤ n ∧ n ≤ 25) (w : World) : Calls Tryz.prog 110 #[.int .i64 n] w fun e w' => e = .returned (.string ⟨(letB n).toArray⟩) ∧ Below w.heap.size w w' := by
  have hc : ((UInt8.ofNat (65 + n.toNat)).toNat : Int) = 65 + n := by rw [UInt8.toNat_ofNat']; omega
  have kc := one_byteV (65 + n) (UInt8.ofNat (65 + n.toNat)) hc w
  have HB : Hid (Below w.heap.size w (w.alloc (.cells #[.int .u8 (65 + n)] 5))) := Lib.hid ((Below.refl _ _).alloc (Nat.le_refl _) _)
  have HV : Hid (letB n = [UInt8.ofNat (65 + n.toNat)]) := Lib.hid rfl
  clear hc
  generalize UInt8.ofNat (65 + n.toNat) = c at *
  obtain ⟨h0, h1⟩ := h
  go_enter Tryz.func110, Tryz.ntmps110
  go_wp2_with fail
  go_ret
  rw [HV.out]; exact ⟨rfl, HB.out⟩
set_option maxRecDepth 100000 in
set_option maxHeartbeats 1000000 in
/-- spec.l18Dec at a number that is not negative. -/
theorem dec18_any (n : Nat) (hn : n ≤ 999) (w : World) : Calls Tryz.prog 132 #[.int .i64 (n : Int)] w fun e w' => e = .returned (.string ⟨(Lib.decDigits n).toArray⟩) ∧ Below w.heap.size w w' := by
  have t0 : ¬ (n : Int) < -9223372036854775807 := by omega
  have t1 : ¬ (n : Int) < 0 := by omega
  go_enter Tryz.func132, Tryz.ntmps132
  go_wp2_with fail
  go_loopw [3, 0] (fun o i wr => ∃ (j : Nat) (out : List UInt8), j ≤ n ∧ out.length + j ≤ 4 + n ∧ i = .int .i64 j ∧ o = .string ⟨out.toArray⟩ ∧ Lib.decDigits j ++ out = Lib.decDigits n ∧ Below w.heap.size w wr) (fun _ i _ => (intOf i).toNat)
  case atStart => exact ⟨n, [], Nat.le_refl _, by simp, rfl, rfl, by simp, Below.refl _ _⟩
  case round =>
    obtain ⟨j, out, hj, hl, rfl, rfl, hd, hb⟩ := hrel
    have HD := Lib.hid hd
    have HB := Lib.hid hb
    clear hd hb
    by_cases h9 : j ≤ 9
    · have hc : ((UInt8.ofNat (48 + j)).toNat : Int) = 48 + (j : Int) := by rw [UInt8.toNat_ofNat']; omega
      have kc := one_byteV (48 + (j : Int)) (UInt8.ofNat (48 + j)) hc wr
      have HV : Hid (([UInt8.ofNat (48 + j)] ++ out) = Lib.decDigits n) := Lib.hid (by
        have h := HD.out
        rw [Lib.decDigits_one (by omega)] at h
        exact h)
      have t9 : ¬ (9 : Int) < j := by omega
      clear hc
      generalize UInt8.ofNat (48 + j) = d at *
      go_wp2_with fail
      go_ret
      rw [← HV.out, ← ByteArray.mk_append_mk]
      exact ⟨rfl, HB.out.alloc HB.out.size _⟩
    · have t9 : (9 : Int) < j := by omega
      have hc : ((UInt8.ofNat (48 + j % 10)).toNat : Int) = 48 + (j : Int) % 10 := by rw [UInt8.toNat_ofNat']; omega
      have kc := one_byteV (48 + (j : Int) % 10) (UInt8.ofNat (48 + j % 10)) hc wr
      have HE : Hid (Lib.decDigits (j / 10) ++ (UInt8.ofNat (48 + j % 10) :: out) = Lib.decDigits n) := Lib.hid (by
        rw [← HD.out, Lib.decDigits.eq_def j, dif_neg (by omega), List.append_assoc]
        rfl)
      clear hc
      generalize UInt8.ofNat (48 + j % 10) = d at *
      go_wp2_with fail
      go_roundw
      case rel => exact ⟨j / 10, d :: out, by omega, by simp only [List.length_cons]; omega, by go_num, str_app [d] out, HE.out, HB.out.alloc HB.out.size _⟩
      case measure => simp [intOf]; omega
set_option maxRecDepth 100000 in
/-- spec.l1Dec. -/
theorem dec_any (n : Int) (hn : -999 ≤ n ∧ n ≤ 999) (w : World) : Calls Tryz.prog 111 #[.int .i64 n] w fun e w' => e = .returned (.string ⟨(Lib.itoa n).toArray⟩) ∧ Below w.heap.size w w' := by
  by_cases h0 : n < 0
  · obtain ⟨m, rfl⟩ : ∃ m : Nat, n = -(m : Int) := ⟨n.natAbs, by omega⟩
    have C1 := dec18_any m (by omega) w
    have HV : Hid ((⟨#[45]⟩ : ByteArray) ++ ⟨(Lib.decDigits m).toArray⟩ = ⟨(Lib.itoa (-(m : Int))).toArray⟩) := Lib.hid (by
      rw [Lib.itoa_neg m (by omega)]
      exact ByteArray.mk_append_mk [45] _)
    have hlen : (Lib.decDigits m).length ≤ 20 := by rw [Lib.decDigits_length]; exact Lib.nDigits_le20 m (by omega)
    generalize Lib.decDigits m = l at *
    have H1 := Lib.hid C1
    clear C1
    go_enter Tryz.func111, Tryz.ntmps111
    go_wp2_with fail
    refine H1.out.mono ?_
    rintro e w2 ⟨rfl, hb⟩
    have HB := Lib.hid hb
    clear hb
    go_wp2_with fail
    go_ret
    rw [← HV.out]; exact ⟨rfl, HB.out⟩
  · obtain ⟨m, rfl⟩ : ∃ m : Nat, n = (m : Int) := ⟨n.toNat, by omega⟩
    have C1 := dec18_any m (by omega) w
    have HV : Hid (Lib.itoa (m : Int) = Lib.decDigits m) := Lib.hid (Lib.itoa_nonneg m)
    have H1 := Lib.hid C1
    clear C1
    go_enter Tryz.func111, Tryz.ntmps111
    go_wp2_with fail
    refine H1.out.mono ?_
    rintro e w2 ⟨rfl, hb⟩
    have HB := Lib.hid hb
    clear hb
    go_wp2_with fail
    go_ret
    rw [HV.out]; exact ⟨rfl, HB.out⟩
end Go.Proofs.YtmgfndgmebignaaGreatDoor

/- The model's texts of terms: spec.l1Text, l1List, FormatTerm. Condition: the term lies in memory. -/
namespace Go.Proofs.YtmgfndgmebignaaGreatDoor
open Go.RowKit

def strLen : Value → Nat | .string b => b.size | _ => 0
theorem strLen_mk (l : List UInt8) : strLen (.string ⟨l.toArray⟩) = l.length := by simp [strLen, ByteArray.size]
def TxC (s : ByteArray) (f : Fr) : Prop := ∀ (k n : Int) (A : Option Addr) (cap lo hi : Nat) (d : Int) (w : World), KidsAt w lo hi f A cap → hi ≤ w.heap.size → shapeT k n s f d = true → nodes f ≤ 1048576 →
  Calls Tryz.prog 87 #[.agg #[.int .i64 k, .int .i64 n, .string s, .slice A f.len cap]] w fun e w' => e = .returned (.string ⟨(txT k n s f).toArray⟩) ∧ Below w.heap.size w w'

set_option maxRecDepth 100000 in
set_option maxHeartbeats 4000000 in
/-- spec.l1List. -/
theorem list_of (s : ByteArray) (f : Fr) (h : ∀ s' f', f'.size < f.size → TxC s' f') (k n : Int) (A : Option Addr) (cap lo hi : Nat) (d : Int) (w : World) (hk : KidsAt w lo hi f A cap) (hh : hi ≤ w.heap.size) (hp : pairB k s f.len = true) (hs : shapeT k n s f d = true) (hnd : nodes f ≤ 1048576) :
    Calls Tryz.prog 112 #[.agg #[.int .i64 k, .int .i64 n, .string s, .slice A f.len cap]] w fun e w' => e = .returned (.string ⟨(txT k n s f).toArray⟩) ∧ Below w.heap.size w w' := by
  have hGl := (txT_shape hs).1
  obtain ⟨k1, n1, s1, kd1, k2, n2, s2, kd2, rfl, _, _⟩ := pair_yes n hp
  have hG : txT k n s (.cons k1 n1 s1 kd1 (.cons k2 n2 s2 kd2 .nil)) = 91 :: (txT k1 n1 s1 kd1 ++ (tlT k2 n2 s2 kd2 ++ [93])) := txT_pair n hp
  have hsk := shapeT_kids hs
  rw [shapeF_cons, shapeF_cons, Bool.and_eq_true, Bool.and_eq_true] at hsk
  have hsz1 : kd1.size < (Fr.cons k1 n1 s1 kd1 (.cons k2 n2 s2 kd2 .nil)).size := by simp only [Fr.size]; omega
  have hsz2 : kd2.size < (Fr.cons k1 n1 s1 kd1 (.cons k2 n2 s2 kd2 .nil)).size := by simp only [Fr.size]; omega
  have hGl2 : (txT k n s (.cons k1 n1 s1 kd1 (.cons k2 n2 s2 kd2 .nil))).length ≤ 67108864 := by omega
  generalize hGG : txT k n s (.cons k1 n1 s1 kd1 (.cons k2 n2 s2 kd2 .nil)) = G at *
  generalize (Fr.cons k1 n1 s1 kd1 (.cons k2 n2 s2 kd2 .nil)).size = SZ at *
  clear hGG hs hp hGl
  have hln : (Fr.cons k1 n1 s1 kd1 (.cons k2 n2 s2 kd2 .nil)).len = 2 := rfl
  rw [hln]
  obtain ⟨b, o, rfl, hlb, hbb, hrow⟩ := hk.2.2 (by rw [hln]; omega)
  have hcap := hk.2.1
  have hcap2 := hk.1
  rw [hln] at hcap2
  unfold maxLen at hcap
  obtain ⟨hfit1, A1, cp1, c0, c1, c2, c3, hkid1⟩ := hrow.elem (i := 0) rfl
  simp only [Nat.zero_mul, Nat.add_zero] at c0 c1 c2 c3
  have hb0 : Below w.heap.size w (w.alloc (.cells #[.int .i64 k, .int .i64 n, .string s, .slice (some ⟨b, o, none⟩) 2 cap] 31)) := (Below.refl _ _).alloc (Nat.le_refl _) _
  have hq0 := Blk.new w 31 #[.int .i64 k, .int .i64 n, .string s, .slice (some ⟨b, o, none⟩) 2 cap]
  have hlo : b < w.heap.size := Nat.lt_of_lt_of_le hbb hh
  have x3 := hq0.cell 3
  simp only [List.getElem?_toArray, List.getElem?_cons_zero, List.getElem?_cons_succ] at x3
  have k0 := (hb0.cell (p := ⟨b, o, none⟩) hlo).trans c0
  have k1' := (hb0.cell (p := ⟨b, o + 1, none⟩) hlo).trans c1
  have k2' := (hb0.cell (p := ⟨b, o + 2, none⟩) hlo).trans c2
  have k3 := (hb0.cell (p := ⟨b, o + 3, none⟩) hlo).trans c3
  have hnd1 : nodes kd1 ≤ 1048576 ∧ nodes kd2 ≤ 1048576 := by simp only [nodes] at hnd; omega
  have C1 := h s1 kd1 hsz1 k1 n1 A1 cp1 lo hi (d - 1) _ (hkid1.below hb0 hh) (Nat.le_trans hh hb0.size) hsk.1 hnd1.1
  have H := Lib.hid h
  have HG := Lib.hid hG
  have H1 := Lib.hid C1
  have HHI := Lib.hid hh
  have HB0 := Lib.hid hb0
  have HQ0 := Lib.hid hq0
  have HK := Lib.hid hk
  have HS2 := Lib.hid hsk.2.1
  have HZ2 := Lib.hid hsz2
  have HN2 := Lib.hid hnd1.2
  have hl1 : (txT k1 n1 s1 kd1).length ≤ 67108864 := by have := congrArg List.length hG; simp at this; omega
  clear h hG C1 hk hnd hb0 hq0 hrow hsk hsz1 hsz2 c0 c1 c2 c3 hkid1 hfit1 hnd1 hh
  go_enter Tryz.func112, Tryz.ntmps112
  go_wp2_with fail
  refine H1.out.mono ?_
  rintro e w2 ⟨rfl, hb⟩
  have HQ2 := Lib.hid (HQ0.out.below hb HQ0.out.lt)
  have HB2 := Lib.hid (HB0.out.trans (hb.mono HB0.out.size))
  clear hb x3 k0 k1' k2' k3
  generalize hT1 : txT k1 n1 s1 kd1 = T1 at *
  go_wp2_with fail
  go_loopw [3] (fun ov wr => ∃ (L : List UInt8) (k' n' : Int) (s' : ByteArray) (cap' : Nat) (b o : Nat) (k1 n1 : Int) (s1 : ByteArray) (kd1 : Fr) (k2 n2 : Int) (s2 : ByteArray) (kd2 : Fr) (d2 : Int), ov = .string ⟨L.toArray⟩ ∧ Blk wr w.heap.size 31 #[.int .i64 k', .int .i64 n', .string s', .slice (some ⟨b, o, none⟩) 2 cap'] ∧
      KidsAt w lo hi (.cons k1 n1 s1 kd1 (.cons k2 n2 s2 kd2 .nil)) (some ⟨b, o, none⟩) cap' ∧ kd2.size < SZ ∧ nodes kd2 ≤ 1048576 ∧ shapeT k2 n2 s2 kd2 d2 = true ∧ L ++ (tlT k2 n2 s2 kd2 ++ [93]) = G ∧ Below w.heap.size w wr) (fun ov _ => G.length - strLen ov)
  case atStart => exact ⟨91 :: T1, _, _, _, _, _, _, _, _, _, _, _, _, _, _, _, str_app [91] T1, HQ2.out, HK.out, HZ2.out, HN2.out, HS2.out, by rw [HG.out]; rfl, HB2.out⟩
  case round =>
    obtain ⟨L, k', n', s', cap', b, o, k1, n1, s1, kd1, k2, n2, s2, kd2, d2, rfl, hq, hk, hsz, hnd, hsh, hL, hb⟩ := hrel
    have hLl : L.length + (tlT k2 n2 s2 kd2).length ≤ 67108864 := by have := congrArg List.length hL; simp at this; omega
    obtain ⟨b', o', e, hlb, hbb, hrow⟩ := hk.2.2 (by simp [Fr.len])
    simp only [Option.some.injEq, Addr.mk.injEq, and_true] at e
    obtain ⟨rfl, rfl⟩ := e
    have hcap2 : 2 ≤ cap' := hk.1
    have hcap := hk.2.1
    unfold maxLen at hcap
    obtain ⟨hfit2, A2, cp2, c0, c1, c2, c3, hkid2⟩ := hrow.elem (i := 1) rfl
    simp only [Nat.one_mul] at c0 c1 c2 c3
    have hlo : b < w.heap.size := Nat.lt_of_lt_of_le hbb HHI.out
    have K : ∀ x, Below w.heap.size w x → x.cell? ⟨b, o + 4, none⟩ = some (.int .i64 k2) ∧ x.cell? ⟨b, o + 4 + 1, none⟩ = some (.int .i64 n2) ∧ x.cell? ⟨b, o + 4 + 2, none⟩ = some (.string s2) ∧ x.cell? ⟨b, o + 4 + 3, none⟩ = some (.slice A2 kd2.len cp2) := fun x hb =>
      ⟨(hb.cell (p := ⟨b, o + 4, none⟩) hlo).trans c0, (hb.cell (p := ⟨b, o + 4 + 1, none⟩) hlo).trans c1, (hb.cell (p := ⟨b, o + 4 + 2, none⟩) hlo).trans c2, (hb.cell (p := ⟨b, o + 4 + 3, none⟩) hlo).trans c3⟩
    obtain ⟨x0, x1, x2, x3⟩ : _ := (⟨hq.cell 0, hq.cell 1, hq.cell 2, hq.cell 3⟩ : _ ∧ _ ∧ _ ∧ _)
    simp only [List.getElem?_toArray, List.getElem?_cons_zero, List.getElem?_cons_succ] at x0 x1 x2 x3
    obtain ⟨y0, y1, y2, y3⟩ := K wr hb
    have HKK := Lib.hid K
    have HQ := Lib.hid hq
    have HB := Lib.hid hb
    have HL := Lib.hid hL
    have HKID := Lib.hid hkid2
    have HSH := Lib.hid hsh
    have HSZ := Lib.hid hsz
    have HND := Lib.hid hnd
    have C2 := pair_any k2 n2 s2 A2 kd2.len cp2 wr
    have hs0 := hq.lt
    clear hk hrow c0 c1 c2 c3 hfit2 K hq hb hL hkid2 hsh hsz hnd
    cases hpb : pairB k2 s2 kd2.len
    · rw [hpb] at C2
      have H2 := Lib.hid C2
      have HPB := Lib.hid hpb
      have C4 := fun w1 => nil_any k2 n2 s2 A2 kd2.len cp2 w1
      have HTL : Hid (tlT k2 n2 s2 kd2 = endB k2 n2 s2 kd2) := Lib.hid (tlT_not hpb)
      clear C2 hpb
      go_wp2_with fail
      refine H2.out.mono ?_
      rintro e w3 ⟨rfl, hb3⟩
      have hb3w := HB.out.trans (hb3.mono HB.out.size)
      have hq3 := HQ.out.below hb3 HQ.out.lt
      clear x0 x1 x2 x3 y0 y1 y2 y3
      have x3 := hq3.cell 3
      simp only [List.getElem?_toArray, List.getElem?_cons_zero, List.getElem?_cons_succ] at x3
      obtain ⟨y0, y1, y2, y3⟩ := HKK.out w3 hb3w
      have HQ3 := Lib.hid hq3
      have HB3 := Lib.hid hb3w
      clear hb3 hb3w hq3
      cases hnb : nilB k2 s2 kd2.len
      · rw [hnb] at C4
        have H4 := Lib.hid C4
        have HV : Hid (L ++ (124 :: (txT k2 n2 s2 kd2 ++ [93])) = G) := Lib.hid (by
          rw [← HL.out, HTL.out]
          unfold endB
          rw [hnb]
          rfl)
        have hl2 : L.length + (txT k2 n2 s2 kd2).length ≤ 67108864 := by have := congrArg List.length HV.out; simp at this; omega
        clear C4 hnb
        go_wp2_with fail
        refine (H4.out w3).mono ?_
        rintro e w4 ⟨rfl, hb4⟩
        have hb4w := HB3.out.trans (hb4.mono HB3.out.size)
        have hq4 := HQ3.out.below hb4 HQ3.out.lt
        have C5 := H.out s2 kd2 HSZ.out k2 n2 A2 cp2 lo hi d2 w4 (HKID.out.below hb4w HHI.out) (Nat.le_trans HHI.out hb4w.size) HSH.out HND.out
        clear x3 y0 y1 y2 y3
        have x3 := hq4.cell 3
        simp only [List.getElem?_toArray, List.getElem?_cons_zero, List.getElem?_cons_succ] at x3
        obtain ⟨y0, y1, y2, y3⟩ := HKK.out w4 hb4w
        have H5 := Lib.hid C5
        have HB4 := Lib.hid hb4w
        clear hb4 hb4w hq4 C5
        generalize txT k2 n2 s2 kd2 = T2 at *
        go_wp2_with fail
        refine H5.out.mono ?_
        rintro e w5 ⟨rfl, hb5⟩
        have HB5 := Lib.hid (HB4.out.trans (hb5.mono HB4.out.size))
        clear hb5
        go_wp2_with fail
        go_ret
        rw [← HV.out]
        refine ⟨?_, HB5.out⟩
        have e1 := ByteArray.mk_append_mk L [124]
        have e2 := ByteArray.mk_append_mk (L ++ [124]) T2
        have e3 := ByteArray.mk_append_mk (L ++ [124] ++ T2) [93]
        simp only [List.append_assoc] at e1 e2 e3
        rw [show (⟨#[124]⟩ : ByteArray) = ⟨[124].toArray⟩ from rfl, show (⟨#[93]⟩ : ByteArray) = ⟨[93].toArray⟩ from rfl, e1, e2, e3]; simp
      · rw [hnb] at C4
        have H4 := Lib.hid C4
        have HV : Hid (L ++ [93] = G) := Lib.hid (by
          rw [← HL.out, HTL.out]
          unfold endB
          rw [hnb]
          rfl)
        clear C4 hnb
        go_wp2_with fail
        refine (H4.out w3).mono ?_
        rintro e w4 ⟨rfl, hb4⟩
        have HB4 := Lib.hid (HB3.out.trans (hb4.mono HB3.out.size))
        clear hb4
        go_wp2_with fail
        go_ret
        rw [← HV.out, ← ByteArray.mk_append_mk]
        exact ⟨rfl, HB4.out⟩
    · rw [hpb] at C2
      have H2 := Lib.hid C2
      obtain ⟨hl2, rfl, _⟩ := pairB_len hpb
      obtain ⟨k3, n3, s3, kd3, k4, n4, s4, kd4, rfl, _, _⟩ := pair_yes n2 hpb
      have hln3 : (Fr.cons k3 n3 s3 kd3 (.cons k4 n4 s4 kd4 .nil)).len = 2 := rfl
      rw [hln3] at *
      have htl : tlT 3 n2 s2 (.cons k3 n3 s3 kd3 (.cons k4 n4 s4 kd4 .nil)) = 44 :: (txT k3 n3 s3 kd3 ++ tlT k4 n4 s4 kd4) := tlT_pair n2 hpb
      have hsh2 := shapeT_kids HSH.out
      rw [shapeF_cons, shapeF_cons, Bool.and_eq_true, Bool.and_eq_true] at hsh2
      have hszs : kd3.size < SZ ∧ kd4.size < SZ := by have := HSZ.out; simp only [Fr.size] at this; omega
      have hnds : nodes kd3 ≤ 1048576 ∧ nodes kd4 ≤ 1048576 := by have := HND.out; simp only [nodes] at this; omega
      obtain ⟨b3, o3, rfl, _, hbb3, hrow3⟩ := HKID.out.2.2 (by simp [Fr.len])
      have hcap3 : 2 ≤ cp2 := HKID.out.1
      have hcap4 := HKID.out.2.1
      unfold maxLen at hcap4
      obtain ⟨_, A3, cp3, c0, c1, c2, c3, hkid3⟩ := hrow3.elem (i := 0) rfl
      simp only [Nat.zero_mul, Nat.add_zero] at c0 c1 c2 c3
      have hlo3 : b3 < w.heap.size := Nat.lt_of_lt_of_le hbb3 HHI.out
      have HV : Hid ((L ++ 44 :: txT k3 n3 s3 kd3) ++ (tlT k4 n4 s4 kd4 ++ [93]) = G) := Lib.hid (by rw [← HL.out, htl]; simp)
      have hl3 : L.length + 1 + (txT k3 n3 s3 kd3).length ≤ G.length := by have := congrArg List.length HV.out; simp at this; omega
      have K3 : ∀ x, Below w.heap.size w x → x.cell? ⟨b3, o3, none⟩ = some (.int .i64 k3) ∧ x.cell? ⟨b3, o3 + 1, none⟩ = some (.int .i64 n3) ∧ x.cell? ⟨b3, o3 + 2, none⟩ = some (.string s3) ∧ x.cell? ⟨b3, o3 + 3, none⟩ = some (.slice A3 kd3.len cp3) := fun x hb =>
        ⟨(hb.cell (p := ⟨b3, o3, none⟩) hlo3).trans c0, (hb.cell (p := ⟨b3, o3 + 1, none⟩) hlo3).trans c1, (hb.cell (p := ⟨b3, o3 + 2, none⟩) hlo3).trans c2, (hb.cell (p := ⟨b3, o3 + 3, none⟩) hlo3).trans c3⟩
      have C5 := fun w4 (hb : Below w.heap.size w w4) => H.out s3 kd3 hszs.1 k3 n3 A3 cp3 lo hi _ w4 (hkid3.below hb HHI.out) (Nat.le_trans HHI.out hb.size) hsh2.1 hnds.1
      have HS4 := Lib.hid hsh2.2.1
      have HZ4 := Lib.hid hszs.2
      have HN4 := Lib.hid hnds.2
      have HK3 := Lib.hid K3
      have H5 := Lib.hid C5
      clear C2 hpb htl hsh2 hszs hnds hrow3 c0 c1 c2 c3 hkid3 K3 C5
      go_wp2_with fail
      refine H2.out.mono ?_
      rintro e w3 ⟨rfl, hb3⟩
      have hb3w := HB.out.trans (hb3.mono HB.out.size)
      have hq3 := HQ.out.below hb3 HQ.out.lt
      clear x0 x1 x2 x3 y0 y1 y2 y3
      obtain ⟨x0, x1, x2, x3⟩ : _ := (⟨hq3.cell 0, hq3.cell 1, hq3.cell 2, hq3.cell 3⟩ : _ ∧ _ ∧ _ ∧ _)
      simp only [List.getElem?_toArray, List.getElem?_cons_zero, List.getElem?_cons_succ] at x0 x1 x2 x3
      obtain ⟨y0, y1, y2, y3⟩ := HKK.out w3 hb3w
      obtain ⟨f0, f1, f2, f3⟩ := frozen4 hq3
      have hset : ∀ a0 a1 a2 a3, Below w.heap.size w ((((w3.setCell ⟨w.heap.size, 0, none⟩ a0).setCell ⟨w.heap.size, 1, none⟩ a1).setCell ⟨w.heap.size, 2, none⟩ a2).setCell ⟨w.heap.size, 3, none⟩ a3) ∧ Blk ((((w3.setCell ⟨w.heap.size, 0, none⟩ a0).setCell ⟨w.heap.size, 1, none⟩ a1).setCell ⟨w.heap.size, 2, none⟩ a2).setCell ⟨w.heap.size, 3, none⟩ a3) w.heap.size 31 #[a0, a1, a2, a3] := fun a0 a1 a2 a3 =>
        ⟨(((hb3w.setCell (Nat.le_refl _) _).setCell (Nat.le_refl _) _).setCell (Nat.le_refl _) _).setCell (Nat.le_refl _) _, set4 hq3 a0 a1 a2 a3⟩
      have hs4 := hset (.int .i64 3) (.int .i64 n2) (.string s2) (.slice (some ⟨b3, o3, none⟩) 2 cp2)
      obtain ⟨z0, z1, z2, z3⟩ := HK3.out _ hs4.1
      have z4 := hs4.2.cell 3
      simp only [List.getElem?_toArray, List.getElem?_cons_zero, List.getElem?_cons_succ] at z4
      have C6 := H5.out _ hs4.1
      have H6 := Lib.hid C6
      have HS := Lib.hid hs4
      clear hb3 hb3w hq3 hset hs4 C6
      go_wp2_with fail
      refine H6.out.mono ?_
      rintro e w5 ⟨rfl, hb5⟩
      have hb5w := HS.out.1.trans (hb5.mono HS.out.1.size)
      have hq5 := HS.out.2.below hb5 HS.out.2.lt
      have HB5 := Lib.hid hb5w
      have HQ5 := Lib.hid hq5
      clear hb5 hb5w hq5 x0 x1 x2 x3 y0 y1 y2 y3 z0 z1 z2 z3 z4 f0 f1 f2 f3
      have HSTR : Hid (∀ T : List UInt8, (.string ((⟨L.toArray⟩ ++ ⟨#[44]⟩) ++ ⟨T.toArray⟩) : Value) = .string ⟨(L ++ 44 :: T).toArray⟩) := Lib.hid fun T => by
        rw [show (⟨#[44]⟩ : ByteArray) = ⟨[44].toArray⟩ from rfl, ByteArray.mk_append_mk, ByteArray.mk_append_mk]
        simp
      generalize txT k3 n3 s3 kd3 = T3 at *
      go_wp2_with fail
      go_roundw
      case rel => exact ⟨L ++ 44 :: T3, _, _, _, _, _, _, _, _, _, _, _, _, _, _, _, HSTR.out T3, HQ5.out, HKID.out, HZ4.out, HN4.out, HS4.out, HV.out, HB5.out⟩
      case measure =>
        rw [HSTR.out T3, strLen_mk, strLen_mk]
        simp only [List.length_append, List.length_cons]
        omega

set_option maxRecDepth 100000 in
set_option maxHeartbeats 4000000 in
/-- spec.l1Text. -/
theorem txt_of (s : ByteArray) (f : Fr) (h : ∀ s' f', f'.size < f.size → TxC s' f') : TxC s f := by
  intro k n A cap lo hi d w hk hh hs hnd
  have hb0 : Below w.heap.size w (w.alloc (.cells #[.int .i64 k, .int .i64 n, .string s, .slice A f.len cap] 31)) := (Below.refl _ _).alloc (Nat.le_refl _) _
  have hq0 := Blk.new w 31 #[.int .i64 k, .int .i64 n, .string s, .slice A f.len cap]
  obtain ⟨x0, x1, x2, x3⟩ : _ := (⟨hq0.cell 0, hq0.cell 1, hq0.cell 2, hq0.cell 3⟩ : _ ∧ _ ∧ _ ∧ _)
  simp only [List.getElem?_toArray, List.getElem?_cons_zero, List.getElem?_cons_succ] at x0 x1 x2 x3
  have hGl := (txT_shape hs).1
  rcases shapeT_kind3 hs with ⟨rfl, hn⟩ | ⟨rfl, hn⟩ | rfl
  · have C1 := fun w1 => letter_any2 n hn w1
    have HV : Hid (txT 1 n s f = letB n) := Lib.hid (txT_var n s f)
    have H1 := Lib.hid C1
    have HB0 := Lib.hid hb0
    clear C1 hk hs hnd h hGl hq0 hb0
    generalize f.len = fl at *
    go_enter Tryz.func87, Tryz.ntmps87
    go_wp2_with fail
    refine (H1.out _).mono ?_
    rintro e w2 ⟨rfl, hb⟩
    have HB2 := Lib.hid (HB0.out.trans (hb.mono HB0.out.size))
    clear hb
    go_wp2_with fail
    go_ret
    rw [HV.out]; exact ⟨rfl, HB2.out⟩
  · have C1 := fun w1 => dec_any n hn w1
    have HV : Hid (txT 2 n s f = Lib.itoa n) := Lib.hid (txT_int n s f)
    have H1 := Lib.hid C1
    have HB0 := Lib.hid hb0
    clear C1 hk hs hnd h hGl hq0 hb0
    generalize f.len = fl at *
    go_enter Tryz.func87, Tryz.ntmps87
    go_wp2_with fail
    refine (H1.out _).mono ?_
    rintro e w2 ⟨rfl, hb⟩
    have HB2 := Lib.hid (HB0.out.trans (hb.mono HB0.out.size))
    clear hb
    go_wp2_with fail
    go_ret
    rw [HV.out]; exact ⟨rfl, HB2.out⟩
  · have C1 := fun w1 => pair_any 3 n s A f.len cap w1
    have HQ0 := Lib.hid hq0
    have HB0 := Lib.hid hb0
    cases hp : pairB 3 s f.len
    · rw [hp] at C1
      have HT : Hid (txT 3 n s f = s.data.toList ++ argsB (txs f)) := Lib.hid (txT_str hp)
      have HA := Lib.hid (argsB_more f)
      have hl : f.len ≤ 1048576 := by have := len_le_nodes f; omega
      have hs6 : s.data.toList.length ≤ 6 := nameB_size (shapeT_struct hs).2.1
      have hWl : s.data.toList.length + (moreB 0 f).length ≤ 67108864 := by
        rw [HT.out, HA.out] at hGl
        by_cases h0 : f.len = 0
        · have hf : f = .nil := by cases f with
            | nil => rfl
            | cons _ _ _ _ _ => simp [Fr.len] at h0
          rw [hf, moreB_nil]
          simp only [List.length_nil]
          omega
        · rw [if_neg h0] at hGl
          simp only [List.length_append] at hGl
          omega
      clear hs6
      have H := Lib.hid h
      have H1 := Lib.hid C1
      have HK := Lib.hid hk
      have HHI := Lib.hid hh
      have HSH := Lib.hid (shapeT_kids hs)
      have HND := Lib.hid hnd
      clear h C1 hk hs hnd hp hGl hb0 hq0 hh
      generalize hn : f.len = len at *
      have HN := Lib.hid hn
      clear hn
      go_enter Tryz.func87, Tryz.ntmps87
      go_wp2_with fail
      refine (H1.out _).mono ?_
      rintro e w2 ⟨rfl, hb⟩
      have HQ2 := Lib.hid (HQ0.out.below hb HQ0.out.lt)
      have HB2 := Lib.hid (HB0.out.trans (hb.mono HB0.out.size))
      clear hb x0 x1 x3
      have x2 := HQ2.out.cell 2
      simp only [List.getElem?_toArray, List.getElem?_cons_zero, List.getElem?_cons_succ] at x2
      go_wp2_with fail
      go_loopw [3, 4] (fun ov i wr => ∃ (j : Nat) (L : List UInt8), j ≤ len ∧ i = .int .i64 j ∧ ov = .string ⟨L.toArray⟩ ∧ L ++ moreB j (f.drop j) = s.data.toList ++ moreB 0 f ∧ Below w2.heap.size w2 wr) (fun _ i _ => len - (intOf i).toNat)
      case atStart => exact ⟨0, s.data.toList, Nat.zero_le _, rfl, congrArg Value.string (str_own s), rfl, Below.refl _ _⟩
      case round =>
        obtain ⟨j, L, hj, rfl, rfl, hL, hb⟩ := hrel
        have hbw := HB2.out.trans (hb.mono HB2.out.size)
        have hq := HQ2.out.below hb HQ2.out.lt
        have HLE := Lib.hid hL
        have HB := Lib.hid hb
        have HBW := Lib.hid hbw
        clear x2
        have x3 := hq.cell 3
        simp only [List.getElem?_toArray, List.getElem?_cons_zero, List.getElem?_cons_succ] at x3
        have hLl : L.length + (moreB j (f.drop j)).length ≤ 67108864 := by have := congrArg List.length hL; simp only [List.length_append] at this; omega
        clear hL
        by_cases hlt : j < len
        · obtain ⟨kk, nn, ss, kids, hd⟩ := Fr.drop_cons j f (by rw [HN.out]; exact hlt)
          obtain ⟨b, o, rfl, hlb, hbb, hrow⟩ := HK.out.2.2 (by rw [HN.out]; omega)
          obtain ⟨hfit, A', cp, c0, c1, c2, c3, hkid⟩ := hrow.elem hd
          have hlo : (⟨b, o, none⟩ : Addr).block < w.heap.size := Nat.lt_of_lt_of_le hbb HHI.out
          have k0 := (hbw.cell (p := ⟨b, o + j * 4, none⟩) hlo).trans c0
          have k1 := (hbw.cell (p := ⟨b, o + j * 4 + 1, none⟩) hlo).trans c1
          have k2 := (hbw.cell (p := ⟨b, o + j * 4 + 2, none⟩) hlo).trans c2
          have k3 := (hbw.cell (p := ⟨b, o + j * 4 + 3, none⟩) hlo).trans c3
          have hsz : kids.size < f.size := by
            have h1 := Fr.size_drop j f
            rw [hd] at h1
            simp only [Fr.size] at h1
            omega
          have C3 := H.out ss kids hsz kk nn A' cp lo hi _ wr (hkid.below hbw HHI.out) (Nat.le_trans HHI.out hbw.size) (shape_drop f j _ hd HSH.out) (Nat.le_trans (nodes_drop_elem j f hd) HND.out)
          have hL2 := HLE.out
          rw [hd, moreB_step] at hL2 hLl
          have HL2 := Lib.hid hL2
          have H3 := Lib.hid C3
          clear C3 c0 c1 c2 c3 hkid hrow hfit hd hlo hL2 hbw hsz hq hb
          generalize txT kk nn ss kids = T at *
          have hTl : L.length + 1 + T.length ≤ 67108864 := by simp only [List.length_cons, List.length_append] at hLl; omega
          by_cases hj0 : j = 0
          · subst hj0
            have t0 : (((0 : Nat) : Int) == 0) = true := rfl
            rw [if_pos rfl] at HL2
            have HSTR : Hid ((.string ((⟨L.toArray⟩ ++ ⟨#[40]⟩) ++ ⟨T.toArray⟩) : Value) = .string ⟨(L ++ 40 :: T).toArray⟩) := Lib.hid (by
              rw [show (⟨#[40]⟩ : ByteArray) = ⟨[40].toArray⟩ from rfl, ByteArray.mk_append_mk, ByteArray.mk_append_mk]
              simp)
            have HL3 : Hid ((L ++ 40 :: T) ++ moreB (0 + 1) (f.drop (0 + 1)) = s.data.toList ++ moreB 0 f) := Lib.hid (by rw [← HL2.out]; simp)
            simp only [Nat.zero_mul, Nat.add_zero] at k0 k1 k2 k3
            go_wp2_with fail
            refine H3.out.mono ?_
            rintro e w3 ⟨rfl, hb3⟩
            have HB3 := Lib.hid (HB.out.trans (hb3.mono HB.out.size))
            clear hb3
            go_wp2_with fail
            go_roundw
            case rel => exact ⟨0 + 1, L ++ 40 :: T, by omega, by go_num, HSTR.out, HL3.out, HB3.out⟩
            case measure => simp [intOf]; omega
          · have t0 : ((j : Int) == 0) = false := by rw [beq_eq_false_iff_ne]; omega
            rw [if_neg hj0] at HL2
            have HSTR : Hid ((.string ((⟨L.toArray⟩ ++ ⟨#[44]⟩) ++ ⟨T.toArray⟩) : Value) = .string ⟨(L ++ 44 :: T).toArray⟩) := Lib.hid (by
              rw [show (⟨#[44]⟩ : ByteArray) = ⟨[44].toArray⟩ from rfl, ByteArray.mk_append_mk, ByteArray.mk_append_mk]
              simp)
            have HL3 : Hid ((L ++ 44 :: T) ++ moreB (j + 1) (f.drop (j + 1)) = s.data.toList ++ moreB 0 f) := Lib.hid (by rw [← HL2.out]; simp)
            clear hj0
            go_wp2_with fail
            refine H3.out.mono ?_
            rintro e w3 ⟨rfl, hb3⟩
            have HB3 := Lib.hid (HB.out.trans (hb3.mono HB.out.size))
            clear hb3
            go_wp2_with fail
            go_roundw
            case rel => exact ⟨j + 1, L ++ 44 :: T, by omega, by go_num, HSTR.out, HL3.out, HB3.out⟩
            case measure => simp [intOf]; omega
        · obtain rfl : j = len := by omega
          have hLL : L = s.data.toList ++ moreB 0 f := by
            have h1 := Fr.drop_len f
            rw [HN.out] at h1
            rw [← HLE.out, h1, moreB_nil, List.append_nil]
          have hLs : L.length ≤ 67108864 := by omega
          by_cases h0 : 0 < j
          · have HV : Hid ((L ++ [41]) = txT 3 n s f) := Lib.hid (by rw [HT.out, HA.out, if_neg (by omega), hLL]; simp)
            clear hb hbw hq hLL hLl
            go_wp2_with fail
            go_ret
            rw [← HV.out, ← ByteArray.mk_append_mk]
            exact ⟨rfl, HBW.out⟩
          · have HV : Hid (L = txT 3 n s f) := Lib.hid (by
              have hz : f.len = 0 := by rw [HN.out]; omega
              have : f = .nil := by cases f with
                | nil => rfl
                | cons _ _ _ _ _ => simp [Fr.len] at hz
              rw [HT.out, HA.out, if_pos (by omega), hLL, this, moreB_nil])
            clear hb hbw hq hLL hLl
            go_wp2_with fail
            go_ret
            rw [← HV.out]
            exact ⟨rfl, HBW.out⟩
    · rw [hp] at C1
      have C2 := fun w1 (hb : Below w.heap.size w w1) => list_of s f h 3 n A cap lo hi d w1 (hk.below hb hh) (Nat.le_trans hh hb.size) hp hs hnd
      have H1 := Lib.hid C1
      have H2 := Lib.hid C2
      clear h C1 C2 hk hs hnd hp hGl hb0 hq0 hh
      generalize f.len = len at *
      go_enter Tryz.func87, Tryz.ntmps87
      go_wp2_with fail
      refine (H1.out _).mono ?_
      rintro e w2 ⟨rfl, hb⟩
      have hq := HQ0.out.below hb HQ0.out.lt
      have HB2 := Lib.hid (HB0.out.trans (hb.mono HB0.out.size))
      clear x0 x1 x2 x3 hb
      obtain ⟨x0, x1, x2, x3⟩ : _ := (⟨hq.cell 0, hq.cell 1, hq.cell 2, hq.cell 3⟩ : _ ∧ _ ∧ _ ∧ _)
      simp only [List.getElem?_toArray, List.getElem?_cons_zero, List.getElem?_cons_succ] at x0 x1 x2 x3
      clear hq
      go_wp2_with fail
      refine (H2.out w2 HB2.out).mono ?_
      rintro e w3 ⟨rfl, hb⟩
      have HB3 := Lib.hid (HB2.out.trans (hb.mono HB2.out.size))
      clear hb
      go_wp2_with fail
      go_ret
      exact ⟨rfl, HB3.out⟩
theorem tx_all (N : Nat) : ∀ (s : ByteArray) (f : Fr), f.size ≤ N → TxC s f := by
  induction N with
  | zero => exact fun s f hf => txt_of s f fun s' f' h => by omega
  | succ N ih => exact fun s f hf => txt_of s f fun s' f' h => ih s' f' (by omega)

/-- What both FormatTerm answer. -/
def fmB (k n : Int) (s : ByteArray) (f : Fr) : List UInt8 := if validT k n s f = true then txT k n s f else []
end Go.Proofs.YtmgfndgmebignaaGreatDoor
