/- impl.termWriter: writeTerm at every node; impl.FormatTerm. Condition: the nodes lie in memory below the writer and are well-formed; the table of powers of ten in its variable. -/
import Derived.Test.YtmgfndgmebignaaGreatDoorProg
import Derived.Test.YtmgfndgmebignaaGreatDoorTxJ
namespace Go.Proofs.YtmgfndgmebignaaGreatDoor
open Go.RowKit

theorem appInt_any (B n : Nat) (i : Int) (h0 : -9223372036854775808 ≤ i) (h1 : i ≤ 9223372036854775807) (sv : Value) (xs : List Value) (w : World) (hown : w.ownsRow B 5 1 sv n xs) (hBw : B ≤ w.heap.size) (hlim : n + 21 ≤ 140737488355328)
    (htab : Lib.TabBelow Tryz.prog B w "internal/strconv.uint64pow10" .u64 Lib.pow10Tab) :
    Calls Tryz.prog 115 #[sv, .int .i64 i, .int .i64 10] w fun e w' => ∃ v', e = .returned v' ∧ w'.ownsRow B 5 1 v' (n + (Lib.itoa i).length) (xs ++ Lib.byteCells (Lib.itoa i)) ∧ Below B w w' ∧ Lib.OthersKept 5 none w w' := Any.strconv_AppendInt_10 laysAI B n i h0 h1 sv xs w hown hBw hlim htab
theorem byteCells_app (a b : List UInt8) : Lib.byteCells (a ++ b) = Lib.byteCells a ++ Lib.byteCells b := by simp [Lib.byteCells]

theorem name_pos3 {l : List UInt8} (h : nv.nameB l = true) : l ≠ [] := fun e => by subst e; exact absurd h (by decide)
theorem TF.blk {mb g : Nat} {t : TypeId} {cs : Array Value} {w w' : World} (h : TF mb w w') (hq : Blk w g t cs) (hg : g ≠ mb) (ht : t ≠ 5) : Blk w' g t cs :=
  hq.keep ((h.2 g _ hq (by simpa using hg) fun c fz e => by injection e with _ e2 _; exact ht e2).trans hq.symm)
theorem TW.mid {mb : Nat} {bs : List UInt8} {w w1 w6 : World} {tv : Value} (hq : Blk w mb 74 #[tv, fW mb]) (ho : w.ownsRow (mb + 1) 5 1 tv bs.length (Lib.byteCells bs)) (h1 : Below w.heap.size w w1) (hg : w1.grownBy w6 tv.ownBlock) : TF mb w w6 := by
  have hmlt := hq.lt
  refine ⟨(h1.mono (Nat.le_of_lt hmlt)).grown hg (Nat.le_trans (Nat.le_of_lt hmlt) h1.size) fun k hk => by have := (ho.lt k hk).1; omega, ?_⟩
  refine (TF.below h1 (Nat.le_of_lt hmlt)).2.grown hg fun k hk => ?_
  obtain ⟨c, fz, hc⟩ := row_kind ho k hk
  exact ⟨c, fz, (h1.block k (ho.lt k hk).2).trans hc⟩
theorem fr_nodes (N : Nat) : ∀ (k n : Int) (s : ByteArray) (f : Fr), f.size ≤ N → nodes (fronts k s f) ≤ nodes f ∧ ∀ k' n' s' f', tails k n s f = .cons k' n' s' f' .nil → nodes f' ≤ nodes f := by
  induction N with
  | zero =>
    intro k n s f hf
    have hp : pairB k s f.len = false := by
      cases f with
      | nil => unfold pairB; simp [Fr.len]
      | cons _ _ _ _ _ => simp [Fr.size] at hf
    rw [(pair_no n hp).1, (pair_no n hp).2]
    refine ⟨Nat.zero_le _, fun k' n' s' f' h => ?_⟩
    simp only [Fr.cons.injEq, and_true] at h
    obtain ⟨rfl, rfl, rfl, rfl⟩ := h
    exact Nat.le_refl _
  | succ N ih =>
    intro k n s f hf
    cases hp : pairB k s f.len
    · rw [(pair_no n hp).1, (pair_no n hp).2]
      refine ⟨Nat.zero_le _, fun k' n' s' f' h => ?_⟩
      simp only [Fr.cons.injEq, and_true] at h
      obtain ⟨rfl, rfl, rfl, rfl⟩ := h
      exact Nat.le_refl _
    · obtain ⟨k1, n1, s1, kd1, k2, n2, s2, kd2, rfl, hfr, htl⟩ := pair_yes n hp
      simp only [Fr.size] at hf
      obtain ⟨a1, a2⟩ := ih k2 n2 s2 kd2 (by omega)
      rw [hfr, htl]
      refine ⟨by simp only [nodes]; omega, fun k' n' s' f' h => ?_⟩
      have := a2 k' n' s' f' h
      simp only [nodes]; omega

set_option maxRecDepth 100000 in
set_option maxHeartbeats 8000000 in
/-- termWriter.writeTerm. -/
theorem wterm_of (s : ByteArray) (f : Fr) (h : ∀ s' f', f'.size < f.size → TwC s' f') : TwC s f := by
  intro k n d v lo hi mb bs w hs hv hh hw hl ht hnd
  obtain ⟨i0, hi0, hz0, hz1, hz2⟩ := info_parts infoU8
  have hm0 : mb < w.heap.size := by obtain ⟨_, hq, _⟩ := hw; exact hq.lt
  have hkind := shapeT_kind3 hs
  rcases hv with ⟨rfl, rfl⟩ | ⟨rfl, rfl⟩ | ⟨rfl, A, cap, rfl, hnds⟩
  · have hn : 0 ≤ n ∧ n ≤ 25 := by omega
    have hT : Hid (txT 1 n s f = [UInt8.ofNat (65 + n.toNat)]) := Lib.hid (txT_var n s f)
    have hc : ((UInt8.ofNat (65 + n.toNat)).toNat : Int) = 65 + n := by rw [UInt8.toNat_ofNat']; omega
    have HC := Lib.hid hc
    have hl2 : bs.length ≤ 1073741824 := by omega
    generalize UInt8.ofNat (65 + n.toNat) = ch at *
    clear h hs hl ht hnd hkind hc
    obtain ⟨hn0, hn1⟩ := hn
    obtain ⟨tv1, hq1, ho1⟩ := hw
    obtain ⟨A1, c1, rfl, _, _⟩ := row_form ho1
    have p01 := hq1.cell 0
    have p11 := hq1.cell 1
    have pf1 := hq1.frozen 0
    simp only [List.getElem?_toArray, List.getElem?_cons_zero, List.getElem?_cons_succ] at p01 p11
    unfold fW at p11
    have hm1 := hq1.lt
    have HO1 := Lib.hid ho1
    have HQ1 := Lib.hid hq1
    clear hq1 ho1
    go_enter Tryz.func90, Tryz.ntmps90
    go_wp2_with (at_builtin; go_must (refine wpList_append_lies _ rfl _ _ _ rfl (mb + 1) 5 i0 _ 1 1 Tryz.underlying71 hi0 hz0 hz1 hz2 rfl (by omega) _ (bs).length (Lib.byteCells (bs)) rfl (HO1.out.alloc _) ⟨w.heap.size, 0, none⟩ 1 1 [.int .u8 (65 + n)] rfl rfl (World.news_of_block (cs := #[.int .u8 (65 + n)]) (t := 5) (fr := (0, 0)) (Blk.new w 5 #[.int .u8 (65 + n)])) (by simp [Value.oneCell']) (by omega) (by unfold maxLen; omega) (by omega) (by simp; omega) (w.heap.size + 1) (by simp) ?_); intro g1 cap1 w1 hown1 hgrow1 _ _; have hst1 := TW.step1 (c := ch) HQ1.out HO1.out HC.out hgrow1 hown1; have y1 := hst1.2.2.cell 0; have yf1 := hst1.2.2.frozen 0; simp only [List.getElem?_toArray, List.getElem?_cons_zero] at y1; have HS1 := Lib.hid (And.intro hst1.1 hst1.2.1); clear hown1 hgrow1 hst1; refine Hid.out ?_)
    refine Lib.hid ?_
    have HFN : Hid (TW mb (bs ++ txT 1 n s f) _ ∧ TF mb w _) := Lib.hid ⟨by rw [hT.out]; exact HS1.out.1, HS1.out.2⟩
    go_wp2_with fail
    go_end0
    exact ⟨rfl, HFN.out⟩
  · have hn : -999 ≤ n ∧ n ≤ 999 := by omega
    have hT : Hid (txT 2 n s f = Lib.itoa n) := Lib.hid (txT_int n s f)
    have hl2 : bs.length ≤ 1073741824 := by omega
    have HT := Lib.hid ht
    clear h hs hl hnd hkind ht
    obtain ⟨tv2, hq2, ho2⟩ := hw
    obtain ⟨A2, c2, rfl, _, _⟩ := row_form ho2
    have p02 := hq2.cell 0
    have p12 := hq2.cell 1
    have pf2 := hq2.frozen 0
    simp only [List.getElem?_toArray, List.getElem?_cons_zero, List.getElem?_cons_succ] at p02 p12
    unfold fW at p12
    have hm2 := hq2.lt
    have HO2 := Lib.hid ho2
    have HQ2 := Lib.hid hq2
    clear hq2 ho2
    have C1 := appInt_any (mb + 1) bs.length n (by omega) (by omega) (.slice A2 bs.length c2) (Lib.byteCells bs) w HO2.out (by omega) (by omega) fun w' hb => HT.out w' (hb.mono (Nat.le_succ _))
    have H1 := Lib.hid C1
    clear C1 hn
    go_enter Tryz.func90, Tryz.ntmps90
    go_wp2_with fail
    refine H1.out.mono ?_
    rintro e w3 ⟨v3, rfl, ho3, hb3, hk3⟩
    have htf := TF.appInt hb3 hk3
    have hq3 : Blk w3 mb 74 #[.slice A2 bs.length c2, fW mb] := HQ2.out.keep (hb3.block mb (by omega))
    have hfin : TW mb (bs ++ txT 2 n s f) (w3.setCell ⟨mb, 0, none⟩ v3) ∧ TF mb w (w3.setCell ⟨mb, 0, none⟩ v3) := by
      refine ⟨⟨v3, ?_, ?_⟩, htf.set_ 0 _⟩
      · have h := hq3.set_ 0 v3
        simpa using h
      · rw [hT.out, byteCells_app, List.length_append]
        refine ho3.kept (row := some mb) ⟨rfl, rfl, rfl, by simp [World.setCell], fun k _ hk => ?_⟩ (.inr fun e => ?_)
        · exact heap_setCell_other _ _ _ _ fun e => hk (by rw [e])
        · have := (ho3.lt mb e).1
          omega
    obtain ⟨A3, c3, rfl, _, _⟩ := row_form ho3
    have x0 := hq3.cell 0
    have xf := hq3.frozen 0
    simp only [List.getElem?_toArray, List.getElem?_cons_zero] at x0
    have HFN := Lib.hid hfin
    clear htf hfin ho3 hb3 hk3 hq3
    generalize (Lib.itoa n).length = il at *
    go_wp2_with fail
    go_end0
    exact ⟨rfl, HFN.out⟩
  · have hs3 := shapeT_struct hs
    have hs6 := nameB_size hs3.2.1
    have hspos : 0 < s.size := by
      have h1 : s.data.toList.length = s.size := rfl
      have h2 := List.length_pos_iff.2 (name_pos3 hs3.2.1)
      omega
    have hv3 : NdV w lo hi 3 n s f (.iface 116 (.agg #[.string s, .slice A f.len cap])) := .inr (.inr ⟨rfl, A, cap, rfl, hnds⟩)
    have hb0 : Below w.heap.size w (w.alloc (.cells #[.string s, .slice A f.len cap] 116)) := (Below.refl _ _).alloc (Nat.le_refl _) _
    have hq0 := Blk.new w 116 #[.string s, .slice A f.len cap]
    have C1 := split2_any 3 n s f (.iface 116 (.agg #[.string s, .slice A f.len cap])) lo hi (w.alloc (.cells #[.string s, .slice A f.len cap] 116)) (hv3.keep (fun p _ hp => hb0.cell (by omega)) (Nat.le_refl _) (Nat.le_refl _)) (Nat.le_trans (by omega) hb0.size) hnd
    have H1 := Lib.hid C1
    have HB0 := Lib.hid hb0
    have HQ0 := Lib.hid hq0
    have HW := Lib.hid hw
    have HH := Lib.hid h
    have HSH := Lib.hid hs
    have HT := Lib.hid ht
    have HND := Lib.hid hnds
    have HLL := Lib.hid hl
    have HN := Lib.hid hnd
    have hfl := Nat.le_trans hnds.1 hnds.2.1
    clear C1 hb0 hq0 h hs ht hnds hl hv3 hkind hnd hw
    go_enter Tryz.func90, Tryz.ntmps90
    go_wp2_with fail
    refine H1.out.mono ?_
    rintro e w2 ⟨hb2, v2, tl, rfl, ⟨xs, hown, hD⟩, k', n', s', f', htl, hv'⟩
    have hbw := HB0.out.trans (hb2.mono HB0.out.size)
    have hq2 := HQ0.out.below hb2 HQ0.out.lt
    have hw2 := HW.out.below hbw
    have htf2 := TF.below hbw (Nat.le_of_lt hm0)
    have hs2 := hbw.size
    obtain ⟨T9, x9, rfl⟩ := hv'.iface
    have z0 := hq2.cell 0
    have z1 := hq2.cell 1
    simp only [List.getElem?_toArray, List.getElem?_cons_zero, List.getElem?_cons_succ] at z0 z1
    have HQ2 := Lib.hid hq2
    have HTF2 := Lib.hid htf2
    have HW2 := Lib.hid hw2
    cases hp : pairB 3 s f.len
    · have hfr := (pair_no n hp).1
      have HTX : Hid (txT 3 n s f = s.data.toList ++ argsB (txs f)) := Lib.hid (txT_str hp)
      have HAM := Lib.hid (argsB_more f)
      rw [hfr] at hown
      obtain ⟨A9, c9, rfl, _, _⟩ := row_form hown
      have ez : (Fr.nil.len : Int) = 0 := rfl
      have hl6 : bs.length + s.size ≤ 1073741824 := by
        have h := HLL.out
        rw [HTX.out, List.length_append] at h
        have h1 : s.data.toList.length = s.size := rfl
        omega
      have hsb : w.heap.size ≠ mb := by omega
      clear hown hD hb2 hv' htl hq2 htf2 hbw hp hfr hs3
      obtain ⟨tv3, hq3, ho3⟩ := hw2
      obtain ⟨A3, c3, rfl, _, _⟩ := row_form ho3
      have p03 := hq3.cell 0
      have p13 := hq3.cell 1
      have pf3 := hq3.frozen 0
      simp only [List.getElem?_toArray, List.getElem?_cons_zero, List.getElem?_cons_succ] at p03 p13
      unfold fW at p13
      have hm3 := hq3.lt
      have HO3 := Lib.hid ho3
      have HQ3 := Lib.hid hq3
      clear hq3 ho3
      go_wp2_with fail
      go_region_law
        (first
          | (refine step_append_str (w2.drew) (by rfl) _ _ _ _ (by rfl) (mb + 1) 5 i0 Tryz.underlying71 Tryz.underlying9 hi0 hz0 hz1 hz2 _ bs.length (Lib.byteCells bs) (by rfl) HO3.out.drew s (by rfl) hspos (by unfold maxLen; omega) (by omega) (by show mb + 1 ≤ w2.heap.size; omega) ?_
             intro g6 cap6 w6 hown6 hgrow6
             have hst6 := TW.step (add := s.data.toList) HQ3.out HO3.out (Below.refl w2.heap.size w2).drew hgrow6 hown6
             have hmd6 := TW.mid HQ3.out HO3.out (Below.refl w2.heap.size w2).drew hgrow6
             have hq6 := hmd6.blk HQ2.out hsb (by decide)
             have y6 := hst6.2.2.cell 0
             have yf6 := hst6.2.2.frozen 0
             have u6 := hq6.cell 0
             simp only [List.getElem?_toArray, List.getElem?_cons_zero] at y6 u6
             have v6 := (hst6.2.1.blk HQ2.out hsb (by decide)).cell 0
             simp only [List.getElem?_toArray, List.getElem?_cons_zero] at v6
             have HS6 := Lib.hid (And.intro hst6.1 hst6.2.1)
             clear hown6 hgrow6 hst6 hmd6 hq6))
      all_goals
        have HX6 : Hid (TW mb (bs ++ s.data.toList) (w6.setCell ⟨mb, 0, none⟩ (.slice (some ⟨g6, 0, none⟩) (bs.length + s.size) cap6)) ∧ TF mb w2 (w6.setCell ⟨mb, 0, none⟩ (.slice (some ⟨g6, 0, none⟩) (bs.length + s.size) cap6))) := HS6
        clear HS6 y6 u6 v6 yf6 z0 z1 p03 p13 pf3
        generalize w6.setCell ⟨mb, 0, none⟩ (.slice (some ⟨g6, 0, none⟩) (bs.length + s.size) cap6) = W6 at *
        have hq6 := HX6.out.2.blk HQ2.out hsb (by decide)
        have zz1 := hq6.cell 1
        simp only [List.getElem?_toArray, List.getElem?_cons_zero, List.getElem?_cons_succ] at zz1
        have HQ6 := Lib.hid hq6
        have HTF6 := Lib.hid (HTF2.out.trans HX6.out.2)
        have hm6 : mb < W6.heap.size := Nat.lt_of_lt_of_le hm0 HTF6.out.1.size
        clear hq6
        by_cases h0 : f.len = 0
        · have HV : Hid (txT 3 n s f = s.data.toList) := Lib.hid (by rw [HTX.out, HAM.out, if_pos h0, List.append_nil])
          have HFN : Hid (TW mb (bs ++ txT 3 n s f) W6 ∧ TF mb w W6) := Lib.hid (by rw [HV.out]; exact ⟨HX6.out.1, HTF6.out⟩)
          rw [h0] at zz1
          have t0 : ¬ (0 : Int) < ((0 : Nat) : Int) := by decide
          clear h0
          go_wp2_with fail
          go_end0
          exact ⟨rfl, HFN.out⟩
        · have hB : bs ++ txT 3 n s f = bs ++ s.data.toList ++ [40] ++ remB 0 f ++ [41] := by rw [HTX.out, HAM.out, if_neg h0, moreB_rem f h0]; simp
          have HBE := Lib.hid hB
          have hlB : bs.length + s.size + 2 + (remB 0 f).length ≤ 1073741824 := by
            have h1 := congrArg List.length hB
            have h2 := HLL.out
            have h3 : s.data.toList.length = s.size := rfl
            simp only [List.length_append, List.length_cons, List.length_nil] at h1 h2
            omega
          have t0 : (0 : Int) < (f.len : Int) := by omega
          have hw6 := HX6.out.1
          generalize hB1 : bs ++ s.data.toList = B1 at *
          have hlb1 : B1.length ≤ bs.length + s.size := by rw [← hB1, List.length_append]; exact Nat.le_refl _
          have HB1 := Lib.hid hB1
          clear hB1 hB h0
          obtain ⟨tv7, hq7, ho7⟩ := hw6
          obtain ⟨A7, c7, rfl, _, _⟩ := row_form ho7
          have p07 := hq7.cell 0
          have p17 := hq7.cell 1
          have pf7 := hq7.frozen 0
          simp only [List.getElem?_toArray, List.getElem?_cons_zero, List.getElem?_cons_succ] at p07 p17
          unfold fW at p17
          have hm7 := hq7.lt
          have HO7 := Lib.hid ho7
          have HQ7 := Lib.hid hq7
          clear hq7 ho7
          go_wp2_with (at_builtin; go_must (refine wpList_append_lies _ rfl _ _ _ rfl (mb + 1) 5 i0 _ 1 1 Tryz.underlying71 hi0 hz0 hz1 hz2 rfl (by omega) _ (B1).length (Lib.byteCells (B1)) rfl (HO7.out.alloc _) ⟨W6.heap.size, 0, none⟩ 1 1 [.int .u8 40] rfl rfl (World.news_of_block (cs := #[.int .u8 40]) (t := 5) (fr := (0, 0)) (Blk.new W6 5 #[.int .u8 40])) (by simp [Value.oneCell']) (by omega) (by unfold maxLen; omega) (by omega) (by simp; omega) (W6.heap.size + 1) (by simp) ?_); intro g7 cap7 w7 hown7 hgrow7 _ _; have hst7 := TW.step1 (c := 40) HQ7.out HO7.out rfl hgrow7 hown7; have y7 := hst7.2.2.cell 0; have yf7 := hst7.2.2.frozen 0; simp only [List.getElem?_toArray, List.getElem?_cons_zero] at y7; have HS7 := Lib.hid (And.intro hst7.1 hst7.2.1); clear hown7 hgrow7 hst7; refine Hid.out ?_)
          refine Lib.hid ?_
          have hq7 := HS7.out.2.blk HQ6.out hsb (by decide)
          have zz7 := hq7.cell 1
          simp only [List.getElem?_toArray, List.getElem?_cons_zero, List.getElem?_cons_succ] at zz7
          have HTF7 := Lib.hid (HTF6.out.trans HS7.out.2)
          have C8 := parts_of f (fun j k n s kids rest hd => HH.out s kids (by have h1 := Fr.size_drop j f; rw [hd] at h1; simp only [Fr.size] at h1; omega)) (d - 1) A cap lo hi mb (B1 ++ [40]) _ (shapeT_kids HSH.out) (PR.old (HND.out.keep (fun p _ hp => HTF7.out.1.cell (by omega)) (Nat.le_refl _) (Nat.le_refl _)) hh) hh HS7.out.1 (by simp only [List.length_append, List.length_cons, List.length_nil]; omega) (HT.out.on HTF7.out.1) HN.out
          have H8 := Lib.hid C8
          clear C8 hq7 zz1
          go_wp2_with fail
          refine H8.out.mono ?_
          rintro e w8 ⟨rfl, hw8, htf8⟩
          have HTF8 := Lib.hid (HTF7.out.trans htf8)
          have hz8 : (B1 ++ [40] ++ remB 0 f).length ≤ 1073741824 := by simp only [List.length_append, List.length_cons, List.length_nil]; omega
          clear htf8
          generalize hB8 : B1 ++ [40] ++ remB 0 f = B8 at *
          have HB8 := Lib.hid hB8
          clear hB8
          obtain ⟨tv9, hq9, ho9⟩ := hw8
          obtain ⟨A9, c9, rfl, _, _⟩ := row_form ho9
          have p09 := hq9.cell 0
          have p19 := hq9.cell 1
          have pf9 := hq9.frozen 0
          simp only [List.getElem?_toArray, List.getElem?_cons_zero, List.getElem?_cons_succ] at p09 p19
          unfold fW at p19
          have hm9 := hq9.lt
          have HO9 := Lib.hid ho9
          have HQ9 := Lib.hid hq9
          clear hq9 ho9
          go_wp2_with (at_builtin; go_must (refine wpList_append_lies _ rfl _ _ _ rfl (mb + 1) 5 i0 _ 1 1 Tryz.underlying71 hi0 hz0 hz1 hz2 rfl (by omega) _ (B8).length (Lib.byteCells (B8)) rfl (HO9.out.alloc _) ⟨w8.heap.size, 0, none⟩ 1 1 [.int .u8 41] rfl rfl (World.news_of_block (cs := #[.int .u8 41]) (t := 5) (fr := (0, 0)) (Blk.new w8 5 #[.int .u8 41])) (by simp [Value.oneCell']) (by omega) (by unfold maxLen; omega) (by omega) (by simp; omega) (w8.heap.size + 1) (by simp) ?_); intro g9 cap9 w9 hown9 hgrow9 _ _; have hst9 := TW.step1 (c := 41) HQ9.out HO9.out rfl hgrow9 hown9; have y9 := hst9.2.2.cell 0; have yf9 := hst9.2.2.frozen 0; simp only [List.getElem?_toArray, List.getElem?_cons_zero] at y9; have HS9 := Lib.hid (And.intro hst9.1 hst9.2.1); clear hown9 hgrow9 hst9; refine Hid.out ?_)
          refine Lib.hid ?_
          have HFN : Hid (TW mb (bs ++ txT 3 n s f) _ ∧ TF mb w _) := Lib.hid ⟨by
            have e : B8 ++ [41] = bs ++ txT 3 n s f := by rw [HBE.out, ← HB8.out]
            rw [← e]; exact HS9.out.1, HTF8.out.trans HS9.out.2⟩
          go_wp2_with fail
          go_end0
          exact ⟨rfl, HFN.out⟩
    · obtain ⟨A9, c9, rfl, hPR⟩ := PR.new hown hD hb2 hh (by have := HB0.out.size; omega)
      have hpos : (fronts 3 s f).len ≠ 0 := by
        obtain ⟨k1, n1, s1, kd1, r, hf, _⟩ := txT_list hp htl
        rw [hf]; simp [Fr.len]
      obtain ⟨nf1, nf2⟩ := fr_nodes f.size 3 n s f (Nat.le_refl _)
      have C3 := wlist_of 3 n d s f hp HSH.out HH.out A9 c9 lo hi mb bs w2 hPR k' n' s' f' htl (.iface T9 x9) (hv'.keep (fun p _ hp => hb2.cell (by have := HB0.out.size; omega)) (Nat.le_refl _) (Nat.le_refl _)) hh hw2 HLL.out (HT.out.on htf2.1) (Nat.le_trans nf1 HN.out) (Nat.le_trans (nf2 k' n' s' f' htl) HN.out)
      have t0 : (0 : Int) < ((fronts 3 s f).len : Int) := by omega
      have H3 := Lib.hid C3
      clear C3 hown hD hb2 hv' htl hq2 htf2 hbw hp hs3 hw2 hPR hpos nf1 nf2
      generalize (fronts 3 s f).len = fl at *
      go_wp2_with fail
      refine H3.out.mono ?_
      rintro e w3 ⟨rfl, hw3, htf3⟩
      have HFN : Hid (TW mb (bs ++ txT 3 n s f) w3 ∧ TF mb w w3) := Lib.hid ⟨hw3, HTF2.out.trans htf3⟩
      clear hw3 htf3
      go_wp2_with fail
      first
        | (go_end0; exact ⟨rfl, HFN.out⟩)
        | ((try simp only [Exit.inBlock, Exit.then]); refine bodyPost_ret (results_none rfl _ _ _) rfl ?_; exact ⟨rfl, HFN.out⟩)
theorem tw_all (N : Nat) : ∀ (s : ByteArray) (f : Fr), f.size ≤ N → TwC s f := by
  induction N with
  | zero => exact fun s f hf => wterm_of s f fun s' f' h => by omega
  | succ N ih => exact fun s f hf => wterm_of s f fun s' f' h => ih s' f' (by omega)
end Go.Proofs.YtmgfndgmebignaaGreatDoor
