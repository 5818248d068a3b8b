/- impl.termWriter: writeTerm at every node; impl.FormatTerm. Condition: the nodes lie in memory below the writer and are well-formed; the table of powers of ten in its variable. -/
import Derived.Test.YtohkpgpcipjpkaaGreatDoorProg
import Derived.Test.YtohkpgpcipjpkaaGreatDoorZmFA49
import Derived.Test.YtohkpgpcipjpkaaGreatDoorOwn
import Derived.Test.YtohkpgpcipjpkaaGreatDoorOpA
import Derived.WalkKit
import Derived.WalkSpells
import Derived.Outline
import Derived.Laws.Rows
import Derived.Below
import Derived.Lib.Hide
import Derived.Maps.Own
import Derived.Maps.OwnOps
import Derived.Maps.OwnSet
import Derived.StringKeys
import Derived.Deep.RegionHeld3
import Derived.Deep.QuietTactic
import Derived.BigQuiet
import Derived.Test.YtohkpgpcipjpkaaGreatDoorWp
import Derived.Test.YtohkpgpcipjpkaaGreatDoorZmFA47
import Derived.Shelf.Spec.SlicesInsert
import Derived.Lib.AppendZerosOnto
import Derived.Laws.NewBlocks
namespace Go.Proofs.YtohkpgpcipjpkaaGreatDoor
open Go.RowKit

theorem appInt_any (B n : Nat) (i : Int) (h0 : -9223372036854775808 ≤ i) (h1 : i ≤ 9223372036854775807) (sv : Value) (xs : List Value) (w : World) (hown : w.ownsRow B 5 1 sv n xs) (hBw : B ≤ w.heap.size) (hlim : n + 21 ≤ 140737488355328)
    (htab : Lib.TabBelow Tryz.prog B w "internal/strconv.uint64pow10" .u64 Lib.pow10Tab) :
    Calls Tryz.prog 54 #[sv, .int .i64 i, .int .i64 10] w fun e w' => ∃ v', e = .returned v' ∧ w'.ownsRow B 5 1 v' (n + (Lib.itoa i).length) (xs ++ Lib.byteCells (Lib.itoa i)) ∧ Below B w w' ∧ Lib.OthersKept 5 none w w' := Any.strconv_AppendInt_10 laysAI B n i h0 h1 sv xs w hown hBw hlim htab
theorem byteCells_app (a b : List UInt8) : Lib.byteCells (a ++ b) = Lib.byteCells a ++ Lib.byteCells b := by simp [Lib.byteCells]

theorem name_pos3 {l : List UInt8} (h : nv.nameB l = true) : l ≠ [] := fun e => by subst e; exact absurd h (by decide)
theorem TF.blk {mb g : Nat} {t : TypeId} {cs : Array Value} {w w' : World} (h : TF mb w w') (hq : Blk w g t cs) (hg : g ≠ mb) (ht : t ≠ 5) : Blk w' g t cs :=
  hq.keep ((h.2 g _ hq (by simpa using hg) fun c fz e => by injection e with _ e2 _; exact ht e2).trans hq.symm)
theorem TW.mid {mb : Nat} {bs : List UInt8} {w w1 w6 : World} {tv : Value} (hq : Blk w mb 59 #[tv, fW mb]) (ho : w.ownsRow (mb + 1) 5 1 tv bs.length (Lib.byteCells bs)) (h1 : Below w.heap.size w w1) (hg : w1.grownBy w6 tv.ownBlock) : TF mb w w6 := by
  have hmlt := hq.lt
  refine ⟨(h1.mono (Nat.le_of_lt hmlt)).grown hg (Nat.le_trans (Nat.le_of_lt hmlt) h1.size) fun k hk => by have := (ho.lt k hk).1; omega, ?_⟩
  refine (TF.below h1 (Nat.le_of_lt hmlt)).2.grown hg fun k hk => ?_
  obtain ⟨c, fz, hc⟩ := row_kind ho k hk
  exact ⟨c, fz, (h1.block k (ho.lt k hk).2).trans hc⟩
theorem fr_nodes (N : Nat) : ∀ (k n : Int) (s : ByteArray) (f : Fr), f.size ≤ N → nodes (fronts k s f) ≤ nodes f ∧ ∀ k' n' s' f', tails k n s f = .cons k' n' s' f' .nil → nodes f' ≤ nodes f := by
  induction N with
  | zero =>
    intro k n s f hf
    have hp : pairB k s f.len = false := by
      cases f with
      | nil => unfold pairB; simp [Fr.len]
      | cons _ _ _ _ _ => simp [Fr.size] at hf
    rw [(pair_no n hp).1, (pair_no n hp).2]
    refine ⟨Nat.zero_le _, fun k' n' s' f' h => ?_⟩
    simp only [Fr.cons.injEq, and_true] at h
    obtain ⟨rfl, rfl, rfl, rfl⟩ := h
    exact Nat.le_refl _
  | succ N ih =>
    intro k n s f hf
    cases hp : pairB k s f.len
    · rw [(pair_no n hp).1, (pair_no n hp).2]
      refine ⟨Nat.zero_le _, fun k' n' s' f' h => ?_⟩
      simp only [Fr.cons.injEq, and_true] at h
      obtain ⟨rfl, rfl, rfl, rfl⟩ := h
      exact Nat.le_refl _
    · obtain ⟨k1, n1, s1, kd1, k2, n2, s2, kd2, rfl, hfr, htl⟩ := pair_yes n hp
      simp only [Fr.size] at hf
      obtain ⟨a1, a2⟩ := ih k2 n2 s2 kd2 (by omega)
      rw [hfr, htl]
      refine ⟨by simp only [nodes]; omega, fun k' n' s' f' h => ?_⟩
      have := a2 k' n' s' f' h
      simp only [nodes]; omega

set_option maxRecDepth 100000 in
set_option maxHeartbeats 8000000 in
/-- termWriter.writeTerm. -/
theorem wterm_of (s : ByteArray) (f : Fr) (h : ∀ s' f', f'.size < f.size → TwC s' f') : TwC s f := by
  intro k n d v lo hi mb bs w hs hv hh hw hl ht hnd
  obtain ⟨i0, hi0, hz0, hz1, hz2⟩ := info_parts infoU8
  have hm0 : mb < w.heap.size := by obtain ⟨_, hq, _⟩ := hw; exact hq.lt
  have hkind := shapeT_kind3 hs
  rcases hv with ⟨rfl, rfl⟩ | ⟨rfl, rfl⟩ | ⟨rfl, A, cap, rfl, hnds⟩
  · have hn : 0 ≤ n ∧ n ≤ 25 := by omega
    have hT : Hid (txT 1 n s f = [UInt8.ofNat (65 + n.toNat)]) := Lib.hid (txT_var n s f)
    have hc : ((UInt8.ofNat (65 + n.toNat)).toNat : Int) = 65 + n := by rw [UInt8.toNat_ofNat']; omega
    have HC := Lib.hid hc
    have hl2 : bs.length ≤ 1073741824 := by omega
    generalize UInt8.ofNat (65 + n.toNat) = ch at *
    clear h hs hl ht hnd hkind hc
    obtain ⟨hn0, hn1⟩ := hn
    obtain ⟨tv1, hq1, ho1⟩ := hw
    obtain ⟨A1, c1, rfl, _, _⟩ := row_form ho1
    have p01 := hq1.cell 0
    have p11 := hq1.cell 1
    have pf1 := hq1.frozen 0
    simp only [List.getElem?_toArray, List.getElem?_cons_zero, List.getElem?_cons_succ] at p01 p11
    unfold fW at p11
    have hm1 := hq1.lt
    have HO1 := Lib.hid ho1
    have HQ1 := Lib.hid hq1
    clear hq1 ho1
    go_enter Tryz.func35, Tryz.ntmps35
    go_wp2_with (at_builtin; go_must (refine wpList_append_lies _ rfl _ _ _ rfl (mb + 1) 5 i0 _ 1 1 Tryz.underlying56 hi0 hz0 hz1 hz2 rfl (by omega) _ (bs).length (Lib.byteCells (bs)) rfl (HO1.out.alloc _) ⟨w.heap.size, 0, none⟩ 1 1 [.int .u8 (65 + n)] rfl rfl (World.news_of_block (cs := #[.int .u8 (65 + n)]) (t := 5) (fr := (0, 0)) (Blk.new w 5 #[.int .u8 (65 + n)])) (by simp [Value.oneCell']) (by omega) (by unfold maxLen; omega) (by omega) (by simp; omega) (w.heap.size + 1) (by simp) ?_); intro g1 cap1 w1 hown1 hgrow1 _ _; have hst1 := TW.step1 (c := ch) HQ1.out HO1.out HC.out hgrow1 hown1; have y1 := hst1.2.2.cell 0; have yf1 := hst1.2.2.frozen 0; simp only [List.getElem?_toArray, List.getElem?_cons_zero] at y1; have HS1 := Lib.hid (And.intro hst1.1 hst1.2.1); clear hown1 hgrow1 hst1; refine Hid.out ?_)
    refine Lib.hid ?_
    have HFN : Hid (TW mb (bs ++ txT 1 n s f) _ ∧ TF mb w _) := Lib.hid ⟨by rw [hT.out]; exact HS1.out.1, HS1.out.2⟩
    go_wp2_with fail
    go_end0
    exact ⟨rfl, HFN.out⟩
  · have hn : -999 ≤ n ∧ n ≤ 999 := by omega
    have hT : Hid (txT 2 n s f = Lib.itoa n) := Lib.hid (txT_int n s f)
    have hl2 : bs.length ≤ 1073741824 := by omega
    have HT := Lib.hid ht
    clear h hs hl hnd hkind ht
    obtain ⟨tv2, hq2, ho2⟩ := hw
    obtain ⟨A2, c2, rfl, _, _⟩ := row_form ho2
    have p02 := hq2.cell 0
    have p12 := hq2.cell 1
    have pf2 := hq2.frozen 0
    simp only [List.getElem?_toArray, List.getElem?_cons_zero, List.getElem?_cons_succ] at p02 p12
    unfold fW at p12
    have hm2 := hq2.lt
    have HO2 := Lib.hid ho2
    have HQ2 := Lib.hid hq2
    clear hq2 ho2
    have C1 := appInt_any (mb + 1) bs.length n (by omega) (by omega) (.slice A2 bs.length c2) (Lib.byteCells bs) w HO2.out (by omega) (by omega) fun w' hb => HT.out w' (hb.mono (Nat.le_succ _))
    have H1 := Lib.hid C1
    clear C1 hn
    go_enter Tryz.func35, Tryz.ntmps35
    go_wp2_with fail
    refine H1.out.mono ?_
    rintro e w3 ⟨v3, rfl, ho3, hb3, hk3⟩
    have htf := TF.appInt hb3 hk3
    have hq3 : Blk w3 mb 59 #[.slice A2 bs.length c2, fW mb] := HQ2.out.keep (hb3.block mb (by omega))
    have hfin : TW mb (bs ++ txT 2 n s f) (w3.setCell ⟨mb, 0, none⟩ v3) ∧ TF mb w (w3.setCell ⟨mb, 0, none⟩ v3) := by
      refine ⟨⟨v3, ?_, ?_⟩, htf.set_ 0 _⟩
      · have h := hq3.set_ 0 v3
        simpa using h
      · rw [hT.out, byteCells_app, List.length_append]
        refine ho3.kept (row := some mb) ⟨rfl, rfl, rfl, by simp [World.setCell], fun k _ hk => ?_⟩ (.inr fun e => ?_)
        · exact heap_setCell_other _ _ _ _ fun e => hk (by rw [e])
        · have := (ho3.lt mb e).1
          omega
    obtain ⟨A3, c3, rfl, _, _⟩ := row_form ho3
    have x0 := hq3.cell 0
    have xf := hq3.frozen 0
    simp only [List.getElem?_toArray, List.getElem?_cons_zero] at x0
    have HFN := Lib.hid hfin
    clear htf hfin ho3 hb3 hk3 hq3
    generalize (Lib.itoa n).length = il at *
    go_wp2_with fail
    go_end0
    exact ⟨rfl, HFN.out⟩
  · have hs3 := shapeT_struct hs
    have hs6 := nameB_size hs3.2.1
    have hspos : 0 < s.size := by
      have h1 : s.data.toList.length = s.size := rfl
      have h2 := List.length_pos_iff.2 (name_pos3 hs3.2.1)
      omega
    have hv3 : NdV w lo hi 3 n s f (.iface 78 (.agg #[.string s, .slice A f.len cap])) := .inr (.inr ⟨rfl, A, cap, rfl, hnds⟩)
    have hb0 : Below w.heap.size w (w.alloc (.cells #[.string s, .slice A f.len cap] 78)) := (Below.refl _ _).alloc (Nat.le_refl _) _
    have hq0 := Blk.new w 78 #[.string s, .slice A f.len cap]
    have C1 := split2_any 3 n s f (.iface 78 (.agg #[.string s, .slice A f.len cap])) lo hi (w.alloc (.cells #[.string s, .slice A f.len cap] 78)) (hv3.keep (fun p _ hp => hb0.cell (by omega)) (Nat.le_refl _) (Nat.le_refl _)) (Nat.le_trans (by omega) hb0.size) hnd
    have H1 := Lib.hid C1
    have HB0 := Lib.hid hb0
    have HQ0 := Lib.hid hq0
    have HW := Lib.hid hw
    have HH := Lib.hid h
    have HSH := Lib.hid hs
    have HT := Lib.hid ht
    have HND := Lib.hid hnds
    have HLL := Lib.hid hl
    have HN := Lib.hid hnd
    have hfl := Nat.le_trans hnds.1 hnds.2.1
    clear C1 hb0 hq0 h hs ht hnds hl hv3 hkind hnd hw
    go_enter Tryz.func35, Tryz.ntmps35
    go_wp2_with fail
    refine H1.out.mono ?_
    rintro e w2 ⟨hb2, v2, tl, rfl, ⟨xs, hown, hD⟩, k', n', s', f', htl, hv'⟩
    have hbw := HB0.out.trans (hb2.mono HB0.out.size)
    have hq2 := HQ0.out.below hb2 HQ0.out.lt
    have hw2 := HW.out.below hbw
    have htf2 := TF.below hbw (Nat.le_of_lt hm0)
    have hs2 := hbw.size
    obtain ⟨T9, x9, rfl⟩ := hv'.iface
    have z0 := hq2.cell 0
    have z1 := hq2.cell 1
    simp only [List.getElem?_toArray, List.getElem?_cons_zero, List.getElem?_cons_succ] at z0 z1
    have HQ2 := Lib.hid hq2
    have HTF2 := Lib.hid htf2
    have HW2 := Lib.hid hw2
    cases hp : pairB 3 s f.len
    · have hfr := (pair_no n hp).1
      have HTX : Hid (txT 3 n s f = s.data.toList ++ argsB (txs f)) := Lib.hid (txT_str hp)
      have HAM := Lib.hid (argsB_more f)
      rw [hfr] at hown
      obtain ⟨A9, c9, rfl, _, _⟩ := row_form hown
      have ez : (Fr.nil.len : Int) = 0 := rfl
      have hl6 : bs.length + s.size ≤ 1073741824 := by
        have h := HLL.out
        rw [HTX.out, List.length_append] at h
        have h1 : s.data.toList.length = s.size := rfl
        omega
      have hsb : w.heap.size ≠ mb := by omega
      clear hown hD hb2 hv' htl hq2 htf2 hbw hp hfr hs3
      obtain ⟨tv3, hq3, ho3⟩ := hw2
      obtain ⟨A3, c3, rfl, _, _⟩ := row_form ho3
      have p03 := hq3.cell 0
      have p13 := hq3.cell 1
      have pf3 := hq3.frozen 0
      simp only [List.getElem?_toArray, List.getElem?_cons_zero, List.getElem?_cons_succ] at p03 p13
      unfold fW at p13
      have hm3 := hq3.lt
      have HO3 := Lib.hid ho3
      have HQ3 := Lib.hid hq3
      clear hq3 ho3
      go_wp2_with fail
      go_region_law
        (first
          | (refine step_append_str (w2.drew) (by rfl) _ _ _ _ (by rfl) (mb + 1) 5 i0 Tryz.underlying56 Tryz.underlying9 hi0 hz0 hz1 hz2 _ bs.length (Lib.byteCells bs) (by rfl) HO3.out.drew s (by rfl) hspos (by unfold maxLen; omega) (by omega) (by show mb + 1 ≤ w2.heap.size; omega) ?_
             intro g6 cap6 w6 hown6 hgrow6
             have hst6 := TW.step (add := s.data.toList) HQ3.out HO3.out (Below.refl w2.heap.size w2).drew hgrow6 hown6
             have hmd6 := TW.mid HQ3.out HO3.out (Below.refl w2.heap.size w2).drew hgrow6
             have hq6 := hmd6.blk HQ2.out hsb (by decide)
             have y6 := hst6.2.2.cell 0
             have yf6 := hst6.2.2.frozen 0
             have u6 := hq6.cell 0
             simp only [List.getElem?_toArray, List.getElem?_cons_zero] at y6 u6
             have v6 := (hst6.2.1.blk HQ2.out hsb (by decide)).cell 0
             simp only [List.getElem?_toArray, List.getElem?_cons_zero] at v6
             have HS6 := Lib.hid (And.intro hst6.1 hst6.2.1)
             clear hown6 hgrow6 hst6 hmd6 hq6))
      all_goals
        have HX6 : Hid (TW mb (bs ++ s.data.toList) (w6.setCell ⟨mb, 0, none⟩ (.slice (some ⟨g6, 0, none⟩) (bs.length + s.size) cap6)) ∧ TF mb w2 (w6.setCell ⟨mb, 0, none⟩ (.slice (some ⟨g6, 0, none⟩) (bs.length + s.size) cap6))) := HS6
        clear HS6 y6 u6 v6 yf6 z0 z1 p03 p13 pf3
        generalize w6.setCell ⟨mb, 0, none⟩ (.slice (some ⟨g6, 0, none⟩) (bs.length + s.size) cap6) = W6 at *
        have hq6 := HX6.out.2.blk HQ2.out hsb (by decide)
        have zz1 := hq6.cell 1
        simp only [List.getElem?_toArray, List.getElem?_cons_zero, List.getElem?_cons_succ] at zz1
        have HQ6 := Lib.hid hq6
        have HTF6 := Lib.hid (HTF2.out.trans HX6.out.2)
        have hm6 : mb < W6.heap.size := Nat.lt_of_lt_of_le hm0 HTF6.out.1.size
        clear hq6
        by_cases h0 : f.len = 0
        · have HV : Hid (txT 3 n s f = s.data.toList) := Lib.hid (by rw [HTX.out, HAM.out, if_pos h0, List.append_nil])
          have HFN : Hid (TW mb (bs ++ txT 3 n s f) W6 ∧ TF mb w W6) := Lib.hid (by rw [HV.out]; exact ⟨HX6.out.1, HTF6.out⟩)
          rw [h0] at zz1
          have t0 : ¬ (0 : Int) < ((0 : Nat) : Int) := by decide
          clear h0
          go_wp2_with fail
          go_end0
          exact ⟨rfl, HFN.out⟩
        · have hB : bs ++ txT 3 n s f = bs ++ s.data.toList ++ [40] ++ remB 0 f ++ [41] := by rw [HTX.out, HAM.out, if_neg h0, moreB_rem f h0]; simp
          have HBE := Lib.hid hB
          have hlB : bs.length + s.size + 2 + (remB 0 f).length ≤ 1073741824 := by
            have h1 := congrArg List.length hB
            have h2 := HLL.out
            have h3 : s.data.toList.length = s.size := rfl
            simp only [List.length_append, List.length_cons, List.length_nil] at h1 h2
            omega
          have t0 : (0 : Int) < (f.len : Int) := by omega
          have hw6 := HX6.out.1
          generalize hB1 : bs ++ s.data.toList = B1 at *
          have hlb1 : B1.length ≤ bs.length + s.size := by rw [← hB1, List.length_append]; exact Nat.le_refl _
          have HB1 := Lib.hid hB1
          clear hB1 hB h0
          obtain ⟨tv7, hq7, ho7⟩ := hw6
          obtain ⟨A7, c7, rfl, _, _⟩ := row_form ho7
          have p07 := hq7.cell 0
          have p17 := hq7.cell 1
          have pf7 := hq7.frozen 0
          simp only [List.getElem?_toArray, List.getElem?_cons_zero, List.getElem?_cons_succ] at p07 p17
          unfold fW at p17
          have hm7 := hq7.lt
          have HO7 := Lib.hid ho7
          have HQ7 := Lib.hid hq7
          clear hq7 ho7
          go_wp2_with (at_builtin; go_must (refine wpList_append_lies _ rfl _ _ _ rfl (mb + 1) 5 i0 _ 1 1 Tryz.underlying56 hi0 hz0 hz1 hz2 rfl (by omega) _ (B1).length (Lib.byteCells (B1)) rfl (HO7.out.alloc _) ⟨W6.heap.size, 0, none⟩ 1 1 [.int .u8 40] rfl rfl (World.news_of_block (cs := #[.int .u8 40]) (t := 5) (fr := (0, 0)) (Blk.new W6 5 #[.int .u8 40])) (by simp [Value.oneCell']) (by omega) (by unfold maxLen; omega) (by omega) (by simp; omega) (W6.heap.size + 1) (by simp) ?_); intro g7 cap7 w7 hown7 hgrow7 _ _; have hst7 := TW.step1 (c := 40) HQ7.out HO7.out rfl hgrow7 hown7; have y7 := hst7.2.2.cell 0; have yf7 := hst7.2.2.frozen 0; simp only [List.getElem?_toArray, List.getElem?_cons_zero] at y7; have HS7 := Lib.hid (And.intro hst7.1 hst7.2.1); clear hown7 hgrow7 hst7; refine Hid.out ?_)
          refine Lib.hid ?_
          have hq7 := HS7.out.2.blk HQ6.out hsb (by decide)
          have zz7 := hq7.cell 1
          simp only [List.getElem?_toArray, List.getElem?_cons_zero, List.getElem?_cons_succ] at zz7
          have HTF7 := Lib.hid (HTF6.out.trans HS7.out.2)
          have C8 := parts_of f (fun j k n s kids rest hd => HH.out s kids (by have h1 := Fr.size_drop j f; rw [hd] at h1; simp only [Fr.size] at h1; omega)) (d - 1) A cap lo hi mb (B1 ++ [40]) _ (shapeT_kids HSH.out) (PR.old (HND.out.keep (fun p _ hp => HTF7.out.1.cell (by omega)) (Nat.le_refl _) (Nat.le_refl _)) hh) hh HS7.out.1 (by simp only [List.length_append, List.length_cons, List.length_nil]; omega) (HT.out.on HTF7.out.1) HN.out
          have H8 := Lib.hid C8
          clear C8 hq7 zz1
          go_wp2_with fail
          refine H8.out.mono ?_
          rintro e w8 ⟨rfl, hw8, htf8⟩
          have HTF8 := Lib.hid (HTF7.out.trans htf8)
          have hz8 : (B1 ++ [40] ++ remB 0 f).length ≤ 1073741824 := by simp only [List.length_append, List.length_cons, List.length_nil]; omega
          clear htf8
          generalize hB8 : B1 ++ [40] ++ remB 0 f = B8 at *
          have HB8 := Lib.hid hB8
          clear hB8
          obtain ⟨tv9, hq9, ho9⟩ := hw8
          obtain ⟨A9, c9, rfl, _, _⟩ := row_form ho9
          have p09 := hq9.cell 0
          have p19 := hq9.cell 1
          have pf9 := hq9.frozen 0
          simp only [List.getElem?_toArray, List.getElem?_cons_zero, List.getElem?_cons_succ] at p09 p19
          unfold fW at p19
          have hm9 := hq9.lt
          have HO9 := Lib.hid ho9
          have HQ9 := Lib.hid hq9
          clear hq9 ho9
          go_wp2_with (at_builtin; go_must (refine wpList_append_lies _ rfl _ _ _ rfl (mb + 1) 5 i0 _ 1 1 Tryz.underlying56 hi0 hz0 hz1 hz2 rfl (by omega) _ (B8).length (Lib.byteCells (B8)) rfl (HO9.out.alloc _) ⟨w8.heap.size, 0, none⟩ 1 1 [.int .u8 41] rfl rfl (World.news_of_block (cs := #[.int .u8 41]) (t := 5) (fr := (0, 0)) (Blk.new w8 5 #[.int .u8 41])) (by simp [Value.oneCell']) (by omega) (by unfold maxLen; omega) (by omega) (by simp; omega) (w8.heap.size + 1) (by simp) ?_); intro g9 cap9 w9 hown9 hgrow9 _ _; have hst9 := TW.step1 (c := 41) HQ9.out HO9.out rfl hgrow9 hown9; have y9 := hst9.2.2.cell 0; have yf9 := hst9.2.2.frozen 0; simp only [List.getElem?_toArray, List.getElem?_cons_zero] at y9; have HS9 := Lib.hid (And.intro hst9.1 hst9.2.1); clear hown9 hgrow9 hst9; refine Hid.out ?_)
          refine Lib.hid ?_
          have HFN : Hid (TW mb (bs ++ txT 3 n s f) _ ∧ TF mb w _) := Lib.hid ⟨by
            have e : B8 ++ [41] = bs ++ txT 3 n s f := by rw [HBE.out, ← HB8.out]
            rw [← e]; exact HS9.out.1, HTF8.out.trans HS9.out.2⟩
          go_wp2_with fail
          go_end0
          exact ⟨rfl, HFN.out⟩
    · obtain ⟨A9, c9, rfl, hPR⟩ := PR.new hown hD hb2 hh (by have := HB0.out.size; omega)
      have hpos : (fronts 3 s f).len ≠ 0 := by
        obtain ⟨k1, n1, s1, kd1, r, hf, _⟩ := txT_list hp htl
        rw [hf]; simp [Fr.len]
      obtain ⟨nf1, nf2⟩ := fr_nodes f.size 3 n s f (Nat.le_refl _)
      have C3 := wlist_of 3 n d s f hp HSH.out HH.out A9 c9 lo hi mb bs w2 hPR k' n' s' f' htl (.iface T9 x9) (hv'.keep (fun p _ hp => hb2.cell (by have := HB0.out.size; omega)) (Nat.le_refl _) (Nat.le_refl _)) hh hw2 HLL.out (HT.out.on htf2.1) (Nat.le_trans nf1 HN.out) (Nat.le_trans (nf2 k' n' s' f' htl) HN.out)
      have t0 : (0 : Int) < ((fronts 3 s f).len : Int) := by omega
      have H3 := Lib.hid C3
      clear C3 hown hD hb2 hv' htl hq2 htf2 hbw hp hs3 hw2 hPR hpos nf1 nf2
      generalize (fronts 3 s f).len = fl at *
      go_wp2_with fail
      refine H3.out.mono ?_
      rintro e w3 ⟨rfl, hw3, htf3⟩
      have HFN : Hid (TW mb (bs ++ txT 3 n s f) w3 ∧ TF mb w w3) := Lib.hid ⟨hw3, HTF2.out.trans htf3⟩
      clear hw3 htf3
      go_wp2_with fail
      first
        | (go_end0; exact ⟨rfl, HFN.out⟩)
        | ((try simp only [Exit.inBlock, Exit.then]); refine bodyPost_ret (results_none rfl _ _ _) rfl ?_; exact ⟨rfl, HFN.out⟩)
theorem tw_all (N : Nat) : ∀ (s : ByteArray) (f : Fr), f.size ≤ N → TwC s f := by
  induction N with
  | zero => exact fun s f hf => wterm_of s f fun s' f' h => by omega
  | succ N ih => exact fun s f hf => wterm_of s f fun s' f' h => ih s' f' (by omega)
end Go.Proofs.YtohkpgpcipjpkaaGreatDoor

/- OpLevel: spec.l2Level, spec.OpLevel; impl.operatorTable, operator.leftLevel, impl.OpLevel; the law FnExactOpLevel walked. Condition: the table of operators lies in its variable. -/
namespace Go.Proofs.YtohkpgpcipjpkaaGreatDoor.op
open Go.RowKit Go.WideMaps Go.Maps

/-- An operator reads as its level. -/
def opR : Value → Option (DataW Unit × List MemPlace)
  | .agg ⟨[.string _, .string _, .int .i64 l]⟩ => some (.lit (.int .i64 l), [])
  | _ => none
theorem opR_inv {v : Value} {z : DataW Unit × List MemPlace} (h : opR v = some z) : ∃ a b l, v = .agg #[.string a, .string b, .int .i64 l] ∧ z = (.lit (.int .i64 l), []) := by
  unfold opR at h
  split at h
  · cases h; exact ⟨_, _, _, rfl, rfl⟩
  · cases h

def opD (k : Nat) : DataW Unit := (tab.take k).foldl (fun D r => D.put (.string r.1) (.lit (.int .i64 r.2.2))) (.map [])
theorem opD_succ (k : Nat) (h : k < 14) : opD (k + 1) = (opD k).put (.string (nm k).data.toList) (.lit (.int .i64 (lv k))) := by
  have hl : k < tab.length := h
  have e : tab.take (k + 1) = tab.take k ++ [tab.getD k ([], [], 0)] := by
    rw [List.take_add_one, List.getElem?_eq_getElem hl]
    simp [List.getD, List.getElem?_eq_getElem hl]
  unfold opD
  rw [e, List.foldl_append]
  rfl
theorem fold_no (l : List UInt8) (z : DataW Unit) : ∀ (rs : List (List UInt8 × List UInt8 × Int)) (D : DataW Unit), (∀ r ∈ rs, r.1 ≠ l) →
    (rs.foldl (fun D r => D.put (.string r.1) (.lit (.int .i64 r.2.2))) D).atKey (.string l) z = D.atKey (.string l) z ∧
    has (rs.foldl (fun D r => D.put (.string r.1) (.lit (.int .i64 r.2.2))) D) (.string l) = has D (.string l)
  | [], D, _ => ⟨rfl, rfl⟩
  | r :: rs, D, h => by
    have h1 : r.1 ≠ l := h r (by simp)
    have hne : (Lit.string l) ≠ Lit.string r.1 := fun e => h1 (by injection e with e; exact e.symm)
    obtain ⟨h2, h3⟩ := fold_no l z rs (D.put (.string r.1) (.lit (.int .i64 r.2.2))) fun x hx => h x (by simp [hx])
    exact ⟨h2.trans (atKey_put_other hne _ _), h3.trans (has_put_other hne _)⟩
theorem at_no (l : List UInt8) (h : ∀ r ∈ tab, r.1 ≠ l) : (opD 14).atKey (.string l) (.lit (.int .i64 0)) = .lit (.int .i64 0) ∧ has (opD 14) (.string l) = false := by
  have h1 := fold_no l (.lit (.int .i64 0)) tab (.map []) h
  exact ⟨h1.1.trans rfl, h1.2.trans rfl⟩
theorem at_yes : ∀ r ∈ tab, (opD 14).atKey (.string r.1) (.lit (.int .i64 0)) = .lit (.int .i64 r.2.2) ∧ has (opD 14) (.string r.1) = true := by
  intro r hr
  simp only [tab, List.mem_cons, List.not_mem_nil, or_false] at hr
  rcases hr with rfl | rfl | rfl | rfl | rfl | rfl | rfl | rfl | rfl | rfl | rfl | rfl | rfl | rfl <;> exact ⟨by kernel_rfl, by kernel_rfl⟩
/-- What the full table answers. -/
theorem at_all (l : List UInt8) : ∃ ok : Bool, (opD 14).atKey (.string l) (.lit (.int .i64 0)) = .lit (.int .i64 (level l)) ∧ has (opD 14) (.string l) = ok ∧ (ok = true → 1 ≤ level l) ∧ (ok = false → level l = 0) := by
  by_cases h : ∃ r ∈ tab, r.1 = l
  · obtain ⟨r, hr, rfl⟩ := h
    obtain ⟨h1, h2⟩ := at_yes r hr
    refine ⟨true, by rw [h1, level_at r hr], h2, fun _ => ?_, fun e => by cases e⟩
    rw [level_at r hr]
    have all : ∀ r ∈ tab, 1 ≤ r.2.2 := by decide
    exact all r hr
  · have hn : ∀ r ∈ tab, r.1 ≠ l := fun r hr e => h ⟨r, hr, e⟩
    obtain ⟨h1, h2⟩ := at_no l hn
    exact ⟨false, by rw [h1, level_no l hn], h2, (fun e => by cases e), fun _ => level_no l hn⟩

theorem make_hint (t k e : TypeId) (kd : IntKind) (n : Int) (ht : Tryz.prog.underlying t = some (.map k e)) (w : World) :
    (Instr.makeMap t (some (.int kd n))).run Tryz.prog w = .ok (.map (some w.heap.size)) (w.alloc (.map #[] 0)) := by
  simp [Instr.makeMap, run_underlying ht]; rfl

theorem law : Keyed Tryz.prog 9 := string_keyed Tryz.underlying9
theorem key_ok (s : ByteArray) (hs : s.size ≤ maxLen) : keyOf Tryz.prog 9 (.string s) = some (.string s.data.toList) := keyOf_string_mk Tryz.underlying9 hs
theorem zero_op (w : World) : (zeroValue 87).run Tryz.prog w = .ok (.agg #[.string ⟨#[]⟩, .string ⟨#[]⟩, .int .i64 0]) w := by kernel_rfl
theorem nm_size (k : Nat) : (nm k).size ≤ maxLen := by
  rcases Nat.lt_or_ge k 14 with h | h
  · have all : ∀ j : Fin 14, (nm j.val).size ≤ 3 := by decide
    have := all ⟨k, h⟩
    simp only at this
    unfold maxLen; omega
  · unfold nm
    rw [List.getD, List.getElem?_eq_none (by exact h)]
    exact Nat.zero_le _

set_option maxRecDepth 100000 in
/-- impl.operatorTable. -/
theorem table_any (w : World) (ht : OpTab w) :
    Calls Tryz.prog 33 #[] w fun e w' => e = .returned (.map (some w.heap.size)) ∧ w'.ownsMap Tryz.prog 9 opR w.heap.size 14 (opD 14) ∧ Below w.heap.size w w' := by
  have hm := make_hint 60 9 87
  have HM := fun kd n w => hm kd n Tryz.underlying60 w
  clear hm
  have hb0 : Below w.heap.size w (w.alloc (.map #[] 0)) := (Below.refl _ _).alloc (Nat.le_refl _) _
  have ht1 := ht.below hb0
  obtain ⟨tt, fr, htab⟩ := ht1
  have HT := Lib.hid htab
  have HB0 := Lib.hid hb0
  clear htab hb0 ht
  go_enter Tryz.func33, Tryz.ntmps33
  go_wp2_with (refine wpList_load_row rfl 104 _ rfl 0 rfl tt _ fr _ HT.out Tryz.underlying104 rfl (by kernel_rfl) ?_)
  go_loopw [6] (fun i wr => ∃ k : Nat, k ≤ 14 ∧ i = .int .i64 k ∧ wr.ownsMap Tryz.prog 9 opR w.heap.size k (opD k) ∧ Below w.heap.size w wr) (fun i _ => 14 - (intOf i).toNat)
  case atStart => exact ⟨0, Nat.zero_le _, rfl, World.ownsMap_made _ _ _ _, HB0.out⟩
  case round =>
    obtain ⟨k, hk, rfl, hown, hbw⟩ := hrel
    by_cases h14 : k < 14
    · have hx := fun w => index_op k h14 w
      have hkey := key_ok (nm k) (nm_size k)
      have hs := opD_succ k h14
      have HS := Lib.hid hs
      have HB := Lib.hid hbw
      have hown1 := hown.alloc (.cells #[.string (nm k), .string (tx k), .int .i64 (lv k)] 87)
      have HO := Lib.hid hown1
      have him : (k : Int) < 14 := by omega
      clear hs hbw hown hown1
      generalize nm k = a at *
      generalize tx k = b at *
      generalize lv k = l at *
      go_wp2_with (first
        | (at_mapUpdate; refine wpList_mapUpdate_own _ rfl _ _ _ 60 rfl 9 87 law Tryz.underlying60 opR w.heap.size k _ rfl HO.out (by unfold maxLen; omega) _ _ _ rfl rfl hkey (.lit (.int .i64 l)) [] rfl ?_; intro w1 hown2 hgrow1)
        | fail)
      have R1 := HS.out.symm ▸ hown2
      have R2 := (HB.out.alloc HB.out.size (.cells #[.string a, .string b, .int .i64 l] 87)).grown hgrow1 (by simpa using Nat.le_succ_of_le HB.out.size) (fun j hj => by cases hj; exact Nat.le_refl _)
      have H1 := Lib.hid R1
      have H2 := Lib.hid R2
      clear R1 R2 hown2 hgrow1 hkey hx
      go_wp2_with fail
      go_roundw
      case rel => exact ⟨k + 1, by omega, by go_num, H1.out, H2.out⟩
      case measure => simp [intOf]; omega
    · obtain rfl : k = 14 := by omega
      have HO := Lib.hid hown
      have HB := Lib.hid hbw
      clear hown hbw
      go_wp2_with fail
      go_ret
      exact ⟨rfl, HO.out, HB.out⟩

def lmin (l : Int) : Int := if l ≤ 2 then l else 2
/-- operator.leftLevel. -/
theorem left_any (a b : ByteArray) (l : Int) (w : World) :
    Calls Tryz.prog 37 #[.agg #[.string a, .string b, .int .i64 l]] w fun e w' => e = .returned (.int .i64 (lmin l)) ∧ Below w.heap.size w w' := by
  have hb0 : ∀ o, Below w.heap.size w (w.alloc o) := fun o => (Below.refl _ _).alloc (Nat.le_refl _) _
  have HB := Lib.hid hb0
  clear hb0
  by_cases h : l ≤ 2
  · have HV : Hid (lmin l = l) := Lib.hid (if_pos h)
    go_enter Tryz.func37, Tryz.ntmps37
    go_wp2_with fail
    go_ret
    rw [HV.out]
    first | exact ⟨rfl, HB.out _⟩ | exact ⟨congrArg (fun x => Ending.returned (.int .i64 x)) (Int.min_eq_left h), HB.out _⟩
  · have HV : Hid (lmin l = 2) := Lib.hid (if_neg h)
    go_enter Tryz.func37, Tryz.ntmps37
    go_wp2_with fail
    go_ret
    rw [HV.out]
    first | exact ⟨rfl, HB.out _⟩ | exact ⟨congrArg (fun x => Ending.returned (.int .i64 x)) (Int.min_eq_right (by omega)), HB.out _⟩

end Go.Proofs.YtohkpgpcipjpkaaGreatDoor.op

/- The table of operators as a map whose entries read as text and level. Condition: the table of operators lies in its variable. -/
namespace Go.Proofs.YtohkpgpcipjpkaaGreatDoor.op
open Go.RowKit Go.WideMaps Go.Maps

/-- An operator reads as its name, its text and its level. -/
def opR2 : Value → Option (DataW Unit × List MemPlace)
  | .agg ⟨[.string a, .string b, .int .i64 l]⟩ => some (.agg [.lit (.string a.data.toList), .lit (.string b.data.toList), .lit (.int .i64 l)], [])
  | _ => none
theorem opR2_inv {v : Value} {s t : List UInt8} {l : Int} {ps : List MemPlace} (h : opR2 v = some (.agg [.lit (.string s), .lit (.string t), .lit (.int .i64 l)], ps)) : v = .agg #[.string ⟨s.toArray⟩, .string ⟨t.toArray⟩, .int .i64 l] := by
  unfold opR2 at h
  split at h
  · rename_i a b l'
    simp only [Option.some.injEq, Prod.mk.injEq, DataW.agg.injEq, List.cons.injEq, DataW.lit.injEq, Lit.string.injEq, Lit.int.injEq, true_and, and_true] at h
    obtain ⟨⟨h1, h2, rfl⟩, _⟩ := h
    rw [str_of h1, str_of h2]
  · cases h
def opE (r : List UInt8 × List UInt8 × Int) : DataW Unit := .agg [.lit (.string r.1), .lit (.string r.2.1), .lit (.int .i64 r.2.2)]
def opZ : DataW Unit := .agg [.lit (.string []), .lit (.string []), .lit (.int .i64 0)]
def opD2 (k : Nat) : DataW Unit := (tab.take k).foldl (fun D r => D.put (.string r.1) (opE r)) (.map [])
theorem opD2_succ (k : Nat) (h : k < 14) : opD2 (k + 1) = (opD2 k).put (.string (nm k).data.toList) (.agg [.lit (.string (nm k).data.toList), .lit (.string (tx k).data.toList), .lit (.int .i64 (lv k))]) := by
  have hl : k < tab.length := h
  have e : tab.take (k + 1) = tab.take k ++ [tab.getD k ([], [], 0)] := by
    rw [List.take_add_one, List.getElem?_eq_getElem hl]
    simp [List.getD, List.getElem?_eq_getElem hl]
  unfold opD2
  rw [e, List.foldl_append]
  rfl
theorem fold2_no (l : List UInt8) (z : DataW Unit) : ∀ (rs : List (List UInt8 × List UInt8 × Int)) (D : DataW Unit), (∀ r ∈ rs, r.1 ≠ l) →
    (rs.foldl (fun D r => D.put (.string r.1) (opE r)) D).atKey (.string l) z = D.atKey (.string l) z ∧
    has (rs.foldl (fun D r => D.put (.string r.1) (opE r)) D) (.string l) = has D (.string l)
  | [], D, _ => ⟨rfl, rfl⟩
  | r :: rs, D, h => by
    have h1 : r.1 ≠ l := h r (by simp)
    have hne : (Lit.string l) ≠ Lit.string r.1 := fun e => h1 (by injection e with e; exact e.symm)
    obtain ⟨h2, h3⟩ := fold2_no l z rs (D.put (.string r.1) (opE r)) fun x hx => h x (by simp [hx])
    exact ⟨h2.trans (atKey_put_other hne _ _), h3.trans (has_put_other hne _)⟩
theorem at2_yes : ∀ r ∈ tab, (opD2 14).atKey (.string r.1) opZ = opE r ∧ has (opD2 14) (.string r.1) = true := by
  intro r hr
  simp only [tab, List.mem_cons, List.not_mem_nil, or_false] at hr
  rcases hr with rfl | rfl | rfl | rfl | rfl | rfl | rfl | rfl | rfl | rfl | rfl | rfl | rfl | rfl <;> exact ⟨by kernel_rfl, by kernel_rfl⟩
/-- What the full table answers. -/
theorem at2_all (l : List UInt8) : (0 < level l ∧ (opD2 14).atKey (.string l) opZ = .agg [.lit (.string l), .lit (.string (wr.spB l)), .lit (.int .i64 (level l))] ∧ has (opD2 14) (.string l) = true) ∨
    (level l = 0 ∧ (opD2 14).atKey (.string l) opZ = .agg [.lit (.string []), .lit (.string []), .lit (.int .i64 0)] ∧ has (opD2 14) (.string l) = false) := by
  by_cases h : ∃ r ∈ tab, r.1 = l
  · obtain ⟨r, hr, rfl⟩ := h
    obtain ⟨h1, h2⟩ := at2_yes r hr
    have all : ∀ r ∈ tab, 0 < r.2.2 ∧ wr.spB r.1 = r.2.1 := by decide
    rw [level_at r hr, (all r hr).2]
    exact .inl ⟨(all r hr).1, h1, h2⟩
  · have hn : ∀ r ∈ tab, r.1 ≠ l := fun r hr e => h ⟨r, hr, e⟩
    have h1 := fold2_no l opZ tab (.map []) hn
    exact .inr ⟨level_no l hn, h1.1.trans rfl, h1.2.trans rfl⟩

set_option maxRecDepth 100000 in
/-- impl.operatorTable. -/
theorem table2_any (w : World) (ht : OpTab w) :
    Calls Tryz.prog 33 #[] w fun e w' => e = .returned (.map (some w.heap.size)) ∧ w'.ownsMap Tryz.prog 9 opR2 w.heap.size 14 (opD2 14) ∧ Below w.heap.size w w' := by
  have hm := make_hint 60 9 87
  have HM := fun kd n w => hm kd n Tryz.underlying60 w
  clear hm
  have hb0 : Below w.heap.size w (w.alloc (.map #[] 0)) := (Below.refl _ _).alloc (Nat.le_refl _) _
  have ht1 := ht.below hb0
  obtain ⟨tt, fr, htab⟩ := ht1
  have HT := Lib.hid htab
  have HB0 := Lib.hid hb0
  clear htab hb0 ht
  go_enter Tryz.func33, Tryz.ntmps33
  go_wp2_with (refine wpList_load_row rfl 104 _ rfl 0 rfl tt _ fr _ HT.out Tryz.underlying104 rfl (by kernel_rfl) ?_)
  go_loopw [6] (fun i wr => ∃ k : Nat, k ≤ 14 ∧ i = .int .i64 k ∧ wr.ownsMap Tryz.prog 9 opR2 w.heap.size k (opD2 k) ∧ Below w.heap.size w wr) (fun i _ => 14 - (intOf i).toNat)
  case atStart => exact ⟨0, Nat.zero_le _, rfl, World.ownsMap_made _ _ _ _, HB0.out⟩
  case round =>
    obtain ⟨k, hk, rfl, hown, hbw⟩ := hrel
    by_cases h14 : k < 14
    · have hx := fun w => index_op k h14 w
      have hkey := key_ok (nm k) (nm_size k)
      have hs := opD2_succ k h14
      have HS := Lib.hid hs
      have HB := Lib.hid hbw
      have hown1 := hown.alloc (.cells #[.string (nm k), .string (tx k), .int .i64 (lv k)] 87)
      have HO := Lib.hid hown1
      have him : (k : Int) < 14 := by omega
      clear hs hbw hown hown1
      generalize nm k = a at *
      generalize tx k = b at *
      generalize lv k = l at *
      go_wp2_with (first
        | (at_mapUpdate; refine wpList_mapUpdate_own _ rfl _ _ _ 60 rfl 9 87 law Tryz.underlying60 opR2 w.heap.size k _ rfl HO.out (by unfold maxLen; omega) _ _ _ rfl rfl hkey (.agg [.lit (.string a.data.toList), .lit (.string b.data.toList), .lit (.int .i64 l)]) [] rfl ?_; intro w1 hown2 hgrow1)
        | fail)
      have R1 := HS.out.symm ▸ hown2
      have R2 := (HB.out.alloc HB.out.size (.cells #[.string a, .string b, .int .i64 l] 87)).grown hgrow1 (by simpa using Nat.le_succ_of_le HB.out.size) (fun j hj => by cases hj; exact Nat.le_refl _)
      have H1 := Lib.hid R1
      have H2 := Lib.hid R2
      clear R1 R2 hown2 hgrow1 hkey hx
      go_wp2_with fail
      go_roundw
      case rel => exact ⟨k + 1, by omega, by go_num, H1.out, H2.out⟩
      case measure => simp [intOf]; omega
    · obtain rfl : k = 14 := by omega
      have HO := Lib.hid hown
      have HB := Lib.hid hbw
      clear hown hbw
      go_wp2_with fail
      go_ret
      exact ⟨rfl, HO.out, HB.out⟩
/-- The map of operators lies in block ob. -/
def OpM (w : World) (ob : Nat) : Prop := w.ownsMap Tryz.prog 9 opR2 ob 14 (opD2 14)
end Go.Proofs.YtohkpgpcipjpkaaGreatDoor.op

/- An opWriter in memory. Condition: the nodes lie in memory below the writer and are well-formed; the table of powers of ten in its variable. -/
namespace Go.Proofs.YtohkpgpcipjpkaaGreatDoor.wr
open Go.RowKit

/-- The function that writes parts: the writer's own. -/
def fW (mb : Nat) : Value := .func (.func 21) #[.pointer (some ⟨mb, 0, none⟩)] #[]
def TW (ob mb : Nat) (bs : List UInt8) (w : World) : Prop := ∃ tv, Blk w mb 62 #[tv, fW mb, .map (some ob)] ∧ w.ownsRow (mb + 1) 5 1 tv bs.length (Lib.byteCells bs)
theorem TW.below {ob mb : Nat} {bs : List UInt8} {w w' : World} (h : TW ob mb bs w) (hb : Below w.heap.size w w') : TW ob mb bs w' := by
  obtain ⟨tv, hq, ho⟩ := h
  exact ⟨tv, hq.below hb hq.lt, ho.kept (row := none) ⟨hb.os, hb.tape, hb.output, hb.size, fun k hk _ => hb.block k hk⟩ (by cases tv.ownBlock <;> simp)⟩
/-- One byte more. -/
theorem TW.step {ob mb g cap : Nat} {bs add : List UInt8} {w w1 w6 : World} {tv : Value} (hq : Blk w mb 62 #[tv, fW mb, .map (some ob)]) (ho : w.ownsRow (mb + 1) 5 1 tv bs.length (Lib.byteCells bs)) (h1 : Below w.heap.size w w1)
    (hg : w1.grownBy w6 tv.ownBlock) (ho6 : w6.ownsRow (mb + 1) 5 1 (.slice (some ⟨g, 0, none⟩) (bs.length + add.length) cap) (bs.length + add.length) (Lib.byteCells bs ++ Lib.byteCells add)) :
    TW ob mb (bs ++ add) (w6.setCell ⟨mb, 0, none⟩ (.slice (some ⟨g, 0, none⟩) (bs.length + add.length) cap)) ∧ TF mb w (w6.setCell ⟨mb, 0, none⟩ (.slice (some ⟨g, 0, none⟩) (bs.length + add.length) cap)) ∧ Blk w6 mb 62 #[tv, fW mb, .map (some ob)] := by
  have hmlt := hq.lt
  have hne : some mb ≠ tv.ownBlock := fun e => by have := (ho.lt mb e.symm).1; omega
  have hq1 := hq.below h1 hmlt
  have hq6 : Blk w6 mb 62 #[tv, fW mb, .map (some ob)] := hq1.keep (hg.block mb (Nat.lt_of_lt_of_le hmlt h1.size) hne)
  have h2 : TF mb w w6 := by
    refine ⟨(h1.mono (Nat.le_of_lt hmlt)).grown hg (Nat.le_trans (Nat.le_of_lt hmlt) h1.size) fun k hk => by have := (ho.lt k hk).1; omega, ?_⟩
    refine (TF.below h1 (Nat.le_of_lt hmlt)).2.grown hg fun k hk => ?_
    obtain ⟨c, fz, hc⟩ := row_kind ho k hk
    exact ⟨c, fz, (h1.block k (ho.lt k hk).2).trans hc⟩
  refine ⟨⟨.slice (some ⟨g, 0, none⟩) (bs.length + add.length) cap, ?_, ?_⟩, h2.set_ 0 _, hq6⟩
  · have h := hq6.set_ 0 (.slice (some ⟨g, 0, none⟩) (bs.length + add.length) cap)
    simpa using h
  · have e1 : (bs ++ add).length = bs.length + add.length := List.length_append
    have e2 : Lib.byteCells (bs ++ add) = Lib.byteCells bs ++ Lib.byteCells add := by simp [Lib.byteCells]
    rw [e1, e2]
    refine ho6.kept (row := some mb) ⟨rfl, rfl, rfl, by simp [World.setCell], fun k _ hk => ?_⟩ (.inr fun e => ?_)
    · exact heap_setCell_other _ _ _ _ fun e => hk (by rw [e])
    · have := (ho6.lt mb e).1
      omega
theorem TW.step1 {ob mb g cap : Nat} {bs : List UInt8} {c : UInt8} {x : Int} {w w6 : World} {tv : Value} (hq : Blk w mb 62 #[tv, fW mb, .map (some ob)]) (ho : w.ownsRow (mb + 1) 5 1 tv bs.length (Lib.byteCells bs)) (hc : (c.toNat : Int) = x)
    (hg : (w.alloc (.cells #[.int .u8 x] 5)).grownBy w6 tv.ownBlock) (ho6 : w6.ownsRow (mb + 1) 5 1 (.slice (some ⟨g, 0, none⟩) (bs.length + 1) cap) (bs.length + 1) (Lib.byteCells bs ++ [.int .u8 x])) :
    TW ob mb (bs ++ [c]) (w6.setCell ⟨mb, 0, none⟩ (.slice (some ⟨g, 0, none⟩) (bs.length + 1) cap)) ∧ TF mb w (w6.setCell ⟨mb, 0, none⟩ (.slice (some ⟨g, 0, none⟩) (bs.length + 1) cap)) ∧ Blk w6 mb 62 #[tv, fW mb, .map (some ob)] :=
  TW.step (add := [c]) hq ho ((Below.refl _ _).alloc (Nat.le_refl _) _) hg (by
    have e : Lib.byteCells [c] = [.int .u8 x] := by rw [← hc]; rfl
    rw [e]; exact ho6)
theorem TW.mid {ob mb : Nat} {bs : List UInt8} {w w1 w6 : World} {tv : Value} (hq : Blk w mb 62 #[tv, fW mb, .map (some ob)]) (ho : w.ownsRow (mb + 1) 5 1 tv bs.length (Lib.byteCells bs)) (h1 : Below w.heap.size w w1) (hg : w1.grownBy w6 tv.ownBlock) : TF mb w w6 := by
  have hmlt := hq.lt
  refine ⟨(h1.mono (Nat.le_of_lt hmlt)).grown hg (Nat.le_trans (Nat.le_of_lt hmlt) h1.size) fun k hk => by have := (ho.lt k hk).1; omega, ?_⟩
  refine (TF.below h1 (Nat.le_of_lt hmlt)).2.grown hg fun k hk => ?_
  obtain ⟨c, fz, hc⟩ := row_kind ho k hk
  exact ⟨c, fz, (h1.block k (ho.lt k hk).2).trans hc⟩
/-- The tables that a writer asks: powers of ten, and the map of operators. -/
def Pow10 (ob mb : Nat) (w : World) : Prop := Lib.TabBelow Tryz.prog mb w "internal/strconv.uint64pow10" .u64 Lib.pow10Tab ∧ ob < mb ∧ op.OpM w ob
theorem OpM_keep {w w' : World} {ob mb : Nat} (h : op.OpM w ob) (hb : Below mb w w') (ho : ob < mb) : op.OpM w' ob := by
  obtain ⟨es, clock, he, hr⟩ := h
  exact ⟨es, clock, (hb.block ob ho).trans he, hr⟩
theorem Pow10.on {w w' : World} {ob mb : Nat} (h : Pow10 ob mb w) (hb : Below mb w w') : Pow10 ob mb w' := ⟨h.1.on hb, h.2.1, OpM_keep h.2.2 hb h.2.1⟩
def OwC (s : ByteArray) (f : Fr) : Prop := ∀ (k n d : Int) (v : Value) (lo hi ob mb : Nat) (bs : List UInt8) (w : World), shapeT k n s f d = true → NdV w lo hi k n s f v → hi ≤ mb → TW ob mb bs w → bs.length + (txT k n s f).length ≤ 1073741824 → Pow10 ob mb w → nodes f ≤ 1048576 →
  Calls Tryz.prog 21 #[.pointer (some ⟨mb, 0, none⟩), v] w fun e w' => e = .returned (.tuple #[]) ∧ TW ob mb (bs ++ txT k n s f) w' ∧ TF mb w w'
def WtC (s : ByteArray) (f : Fr) : Prop := ∀ (k n d : Int) (v : Value) (lo hi ob mb : Nat) (bs : List UInt8) (w : World), infB k s f.len = false → shapeT k n s f d = true → NdV w lo hi k n s f v → hi ≤ mb → TW ob mb bs w → bs.length + (txT k n s f).length ≤ 1073741824 → Pow10 ob mb w → nodes f ≤ 1048576 →
  Calls Tryz.prog 35 #[.pointer (some ⟨mb, 0, none⟩), v] w fun e w' => e = .returned (.tuple #[]) ∧ TW ob mb (bs ++ txT k n s f) w' ∧ TF mb w w'
end Go.Proofs.YtohkpgpcipjpkaaGreatDoor.wr

/- slices.Insert of one byte within a row of bytes that the call owns. Condition: the byte lies in a block of its own. -/
namespace Go.Proofs.YtohkpgpcipjpkaaGreatDoor.wr
open Go.RowKit Go.Lib

theorem blk_setCells (g : Nat) (t : TypeId) : ∀ (vs : List Value) (o : Nat) (w : World) (cur : Array Value), Blk w g t cur → o + vs.length ≤ cur.size → ∃ cur' : Array Value, Blk (w.setCells g o vs) g t cur' ∧ cur'.toList = cur.toList.take o ++ (vs ++ cur.toList.drop (o + vs.length))
  | [], o, w, cur, h, _ => ⟨cur, h, by simp⟩
  | v :: r, o, w, cur, h, hl => by
    simp only [List.length_cons] at hl
    obtain ⟨cur', h1, h2⟩ := blk_setCells g t r (o + 1) (w.setCell ⟨g, o, none⟩ v) (cur.setIfInBounds o v) (h.set_ o v) (by simp; omega)
    refine ⟨cur', h1, ?_⟩
    rw [h2, Array.toList_setIfInBounds, List.take_succ_eq_append_getElem (by simp; omega), List.drop_set_of_lt (by omega)]
    simp [List.take_set_of_le, Nat.add_assoc, Nat.add_comm 1 r.length]
theorem grown_setCells (g : Nat) : ∀ (vs : List Value) (o : Nat) (w : World), w.grownBy (w.setCells g o vs) (some g)
  | [], o, w => ⟨rfl, rfl, rfl, Nat.le_refl _, fun _ _ _ => rfl⟩
  | v :: r, o, w => by
    have h := grown_setCells g r (o + 1) (w.setCell ⟨g, o, none⟩ v)
    have hs : (w.setCell ⟨g, o, none⟩ v).heap.size = w.heap.size := by simp [World.setCell]
    exact ⟨h.os, h.tape, h.output, by have := h.size; rw [hs] at this; exact this, fun k hk hn => (h.block k (by rw [hs]; exact hk) hn).trans (heap_setCell_other _ _ _ _ fun e => hn (by rw [e]))⟩
theorem grown_trans {a b c : World} {g : Option Nat} (h : a.grownBy b g) (k : b.grownBy c g) : a.grownBy c g :=
  ⟨k.os.trans h.os, k.tape.trans h.tape, k.output.trans h.output, Nat.le_trans h.size k.size, fun x hx hn => (k.block x (Nat.lt_of_lt_of_le hx h.size) hn).trans (h.block x hx hn)⟩
theorem ins_list {cur : List Value} {xs : List Value} {n i : Nat} {v : Value} (h : cur.take n = xs) (hl : xs.length = n) (hi : i < n) (L1 L2 : List Value)
    (h1 : L1 = cur.take (i + 1) ++ (xs.drop i ++ cur.drop (i + 1 + (xs.drop i).length))) (h2 : L2 = L1.take i ++ ([v] ++ L1.drop (i + 1))) : L2.take (n + 1) = xs.take i ++ v :: xs.drop i := by
  have hcl : n ≤ cur.length := by
    have := congrArg List.length h
    rw [List.length_take, hl] at this
    omega
  have a1 : L1.take i = xs.take i := by
    rw [h1, List.take_append_of_le_length (by rw [List.length_take]; omega), List.take_take, ← h, List.take_take]
    congr 1
    omega
  have a2 : L1.drop (i + 1) = xs.drop i ++ cur.drop (i + 1 + (xs.drop i).length) := by
    rw [h1, List.drop_append_of_le_length (by rw [List.length_take]; omega), List.drop_eq_nil_of_le (by rw [List.length_take]; omega), List.nil_append]
  rw [h2, a1, a2]
  have e : (xs.take i ++ ([v] ++ (xs.drop i ++ cur.drop (i + 1 + (xs.drop i).length)))) = (xs.take i ++ v :: xs.drop i) ++ cur.drop (i + 1 + (xs.drop i).length) := by simp
  rw [e, List.take_append_of_le_length (by simp only [List.length_append, List.length_take, List.length_cons, List.length_drop]; omega), List.take_of_length_le (by simp only [List.length_append, List.length_take, List.length_cons, List.length_drop]; omega)]

/-- What slices.Insert leaves: the row with one byte more. -/
def InsR (w : World) (base : Nat) (tv : Value) (n : Nat) (xs : List Value) (e : Ending) (w' : World) : Prop :=
  ∃ g cap, e = .returned (.slice (some ⟨g, 0, none⟩) (n + 1) cap) ∧ w'.ownsRow base 5 1 (.slice (some ⟨g, 0, none⟩) (n + 1) cap) (n + 1) xs ∧ w.grownBy w' tv.ownBlock

set_option maxHeartbeats 4000000 in
set_option maxRecDepth 100000 in
/-- slices.Insert where there is room. -/
theorem ins_room (base g n c i vb : Nat) (v : Value) (xs : List Value) (w : World) (hv1 : v.oneCell' = true) (hx1 : ∀ v ∈ xs, v.oneCell' = true) (hi : i < n) (hroom : n + 1 ≤ c) (hvb : vb ≠ g)
    (ho : w.ownsRow base 5 1 (.slice (some ⟨g, 0, none⟩) n c) n xs) (hq : Blk w vb 5 #[v]) :
    Calls Tryz.prog 60 #[.slice (some ⟨g, 0, none⟩) n c, .int .i64 i, .slice (some ⟨vb, 0, none⟩) 1 1] w fun e w' => InsR w base (.slice (some ⟨g, 0, none⟩) n c) n (xs.take i ++ v :: xs.drop i) e w' := by
  have hxl : xs.length = n := by have := ho.1; omega
  obtain ⟨cur, hg, hbg, hcm, hcs, htake⟩ : ∃ cur, Blk w g 5 cur ∧ base ≤ g ∧ c ≤ maxLen ∧ cur.size = c ∧ cur.toList.take n = xs := by
    rcases ho.2 with ⟨h, _⟩ | ⟨g', c', cur, h, hb, hg, h1, h2, h3, h4⟩
    · cases h
    · simp only [Value.slice.injEq, Option.some.injEq, Addr.mk.injEq, and_true] at h
      obtain ⟨rfl, _, rfl⟩ := h
      exact ⟨cur, hg, hb, h2, by omega, by rw [Nat.mul_one] at h4; exact h4⟩
  have hc63 : c ≤ 9223372036854775807 := hcm
  have hcs' : ∀ j u, xs[j]? = some u → w.cell? ⟨g, 0 + j, none⟩ = some u := fun j u hj => by
    rw [Nat.zero_add, hg.cell j, ← Array.getElem?_toList]
    rw [← htake, List.getElem?_take] at hj
    split at hj
    · exact hj
    · cases hj
  have hsp : ∀ j, j < n + 1 → (w.cell? ⟨g, 0 + j, none⟩).isSome = true := fun j hj => by
    rw [Nat.zero_add, hg.cell j, Array.getElem?_eq_getElem (by omega)]; rfl
  have hfz : ∀ j, w.frozen? ⟨g, 0 + j, none⟩ = false := fun j => hg.frozen _
  have hfin : Blk w g 5 cur → InsR w base (.slice (some ⟨g, 0, none⟩) n c) n (xs.take i ++ v :: xs.drop i) (.returned (.slice (some ⟨g, 0, none⟩) (n + 1) c)) ((w.drew.setCells g (i + 1) (xs.drop i)).setCells g i [v]) := fun hg => by
    obtain ⟨c1, b1, l1⟩ := blk_setCells g 5 (xs.drop i) (i + 1) w.drew cur hg (by rw [List.length_drop]; omega)
    have s1 : c1.size = c := by
      have := congrArg List.length l1
      simp only [Array.length_toList, List.length_append, List.length_take, List.length_drop] at this
      omega
    obtain ⟨c2, b2, l2⟩ := blk_setCells g 5 [v] i _ c1 b1 (by simp; omega)
    have s2 : c2.size = c := by
      have := congrArg List.length l2
      simp only [Array.length_toList, List.length_append, List.length_take, List.length_drop, List.length_cons, List.length_nil] at this
      omega
    refine ⟨g, c, rfl, ⟨by simp only [List.length_append, List.length_take, List.length_cons, List.length_drop]; omega, .inr ⟨g, c, c2, rfl, hbg, b2, hroom, hcm, by omega, ?_⟩⟩, ?_⟩
    · rw [Nat.mul_one]
      exact ins_list htake hxl hi c1.toList c2.toList l1 (by simpa using l2)
    · have h1 : w.grownBy w.drew (some g) := ⟨rfl, rfl, rfl, Nat.le_refl _, fun _ _ _ => rfl⟩
      exact grown_trans (grown_trans h1 (grown_setCells g _ _ _)) (grown_setCells g _ _ _)
  have HFIN := Lib.hid (hfin hg)
  have hz2 : ¬ ((i : Int) = (n : Int)) := by omega
  have hsz : (Tryz.prog.info? 5).map (·.size) = some 1 := by
    obtain ⟨i0, hi0, h0, h1, h2⟩ := info_parts infoU8
    rw [hi0]; simp [h1]
  have hsa : w.shape? vb = some (5, 1) := by
    unfold World.shape?
    rw [hq]
    rfl
  have hsb : w.shape? g = some (5, cur.size) := by
    unfold World.shape?
    rw [hg]
  have hov : ∀ lb cb, (callFunc 77 #[.slice (some ⟨vb, 0, none⟩) 1 1, .slice (some ⟨g, 0 + (i + 1), none⟩) lb cb]).run Tryz.prog w = .ok (.value (.bool false)) w := fun lb cb => by
    rw [run_callFunc_extern Tryz.func77 (by kernel_rfl) (by kernel_rfl) (by kernel_rfl) (e := Extern.SlicesOverlaps.overlaps #[56, 56] #[4]) (by kernel_rfl),
      Lib.run_overlaps_apart w 56 4 5 Tryz.underlying56 1 (fun w => by kernel_rfl) ⟨vb, 0, none⟩ ⟨g, 0 + (i + 1), none⟩ 1 1 lb cb hvb 5 5 1 cur.size hsa hsb (by omega) (hq.frozen 0) (hq.frozen 1)]
    rfl
  have hdl : (xs.drop i).length = n - i := by rw [List.length_drop, hxl]
  have hw1 : IntKind.i64.wrap ((i : Int) + 1) = (i : Int) + 1 := by rw [IntKind.wrap_i64]; omega
  have hb1 : (0 : Int) ≤ (i : Int) + 1 := by omega
  have hin : i ≤ n := by omega
  have htn : ((i : Int) + 1).toNat = i + 1 := by omega
  have hb2 : ¬ (c = i + 1) := by omega
  have hb3 : (i : Int) ≤ (n : Int) + 1 := by omega
  have hb4 : ¬ (c = i) := by omega
  have hcp1 : ∀ ty dc sc, (Builtin.copy_ #[56, 56] ty #[.slice (some ⟨g, i + 1, none⟩) (n - i) dc, .slice (some ⟨g, i, none⟩) (n + 1 - i) sc]).run Tryz.prog w.drew = .ok (goInt (xs.drop i).length) (w.drew.setCells g (i + 1) (xs.drop i)) := fun ty dc sc =>
    run_copy_cells w.drew _ _ ty 5 g (i + 1) (n - i) dc ⟨g, i, none⟩ (n + 1 - i) sc (xs.drop i) Tryz.underlying56 hsz (by rw [hdl]; simp only [Nat.min_def]; split <;> omega)
      (fun j u hj => by rw [Addr.add_lit]; have := hcs' (i + j) u (by rwa [List.getElem?_drop] at hj); rwa [Nat.zero_add] at this)
      (fun j hj => by have := hsp (i + 1 + j) (by omega); rwa [Nat.zero_add] at this) (fun j hj => by have := hfz (i + 1 + j); rwa [Nat.zero_add] at this) (fun u hu => hx1 u (List.mem_of_mem_drop hu))
  obtain ⟨W1, hW1⟩ : ∃ W1, W1 = w.drew.setCells g (i + 1) (xs.drop i) := ⟨_, rfl⟩
  have hsp1 : ∀ k, k < n + 1 → (W1.cell? ⟨g, k, none⟩).isSome = true := fun k hk => by
    rw [hW1]
    exact isSome_setCells g _ _ _ (fun j hj => by have := hsp (i + 1 + j) (by omega); rwa [Nat.zero_add] at this) _ (by have := hsp k hk; rwa [Nat.zero_add] at this)
  have hcp2 : ∀ (W : World), (∀ x, W.cell? x = W1.cell? x) → (∀ x, W.frozen? x = W1.frozen? x) → ∀ ty dc, (Builtin.copy_ #[56, 56] ty #[.slice (some ⟨g, i, none⟩) (n + 1 - i) dc, .slice (some ⟨vb, 0, none⟩) 1 1]).run Tryz.prog W = .ok (goInt 1) (W.setCells g i [v]) := fun W hWc hWf ty dc =>
    run_copy_cells W _ _ ty 5 g i (n + 1 - i) dc ⟨vb, 0, none⟩ 1 1 [v] Tryz.underlying56 hsz (by simp only [List.length_cons, List.length_nil, Nat.min_def]; split <;> omega)
      (fun j u hj => by
        rw [Addr.add_lit, hWc, hW1, World.cell?_setCells_out g _ _ _ _ (fun h _ => absurd h hvb)]
        cases j with
        | zero => exact (hq.cell 0).trans (by simpa using hj)
        | succ j => simp at hj)
      (fun j hj => by simp only [List.length_cons, List.length_nil] at hj; rw [hWc]; exact hsp1 _ (by omega)) (fun j hj => by rw [hWf, hW1, World.frozen?_setCells]; have := hfz (i + j); rwa [Nat.zero_add] at this) (fun u hu => by simp at hu; subst hu; exact hv1)
  rw [← hW1] at hcp1
  have HW := Lib.hid hW1
  clear hW1 hfin hsp1 hsz hsa hsb hcs' hsp hfz hdl ho hq hg htake hcs hxl
  simp only [Nat.zero_add] at hov
  go_enter Tryz.func60, Tryz.ntmps60
  go_wp2_with (simp only [hov])
  go_region_law (refine step_copy_runI rfl _ _ 56 56 rfl _ _ (by simp [Act.eval, Act.put]) (by simp [Act.eval, Act.put]) (hcp1 _ _ _) ?_)
  go_wp2_with (at_builtin; refine wpList_copy_runI _ rfl _ _ 56 56 rfl _ _ rfl rfl (hcp2 _ (fun _ => rfl) (fun _ => rfl) _ _) ?_)
  go_ret
  rw [HW.out]
  exact HFIN.out
end Go.Proofs.YtohkpgpcipjpkaaGreatDoor.wr

/- slices.Insert of one byte within a row of bytes that the call owns: where there is no room, and at every row. Condition: the byte lies in a block of its own. -/
namespace Go.Proofs.YtohkpgpcipjpkaaGreatDoor.wr
open Go.RowKit Go.Lib

set_option maxHeartbeats 4000000 in
set_option maxRecDepth 100000 in
/-- slices.Insert where there is no room. -/
theorem ins_grow (base g n c i vb : Nat) (v : Value) (xs : List Value) (w : World) (hv1 : v.oneCell' = true) (hx1 : ∀ v ∈ xs, v.oneCell' = true) (hi : i < n) (hnc : n ≤ c) (hroom : c < n + 1) (hbig : n ≤ 1073741824) (hbase : base ≤ w.heap.size)
    (ho : w.ownsRow base 5 1 (.slice (some ⟨g, 0, none⟩) n c) n xs) (hq : Blk w vb 5 #[v]) :
    Calls Tryz.prog 60 #[.slice (some ⟨g, 0, none⟩) n c, .int .i64 i, .slice (some ⟨vb, 0, none⟩) 1 1] w fun e w' => InsR w base (.slice (some ⟨g, 0, none⟩) n c) n (xs.take i ++ v :: xs.drop i) e w' := by
  have hxl : xs.length = n := by have := ho.1; omega
  obtain ⟨cur, hg, hbg, hcm, hcs, htake⟩ : ∃ cur, Blk w g 5 cur ∧ base ≤ g ∧ c ≤ maxLen ∧ cur.size = c ∧ cur.toList.take n = xs := by
    rcases ho.2 with ⟨h, _⟩ | ⟨g', c', cur, h, hb, hg, h1, h2, h3, h4⟩
    · cases h
    · simp only [Value.slice.injEq, Option.some.injEq, Addr.mk.injEq, and_true] at h
      obtain ⟨rfl, _, rfl⟩ := h
      exact ⟨cur, hg, hb, h2, by omega, by rw [Nat.mul_one] at h4; exact h4⟩
  have hc63 : c ≤ 9223372036854775807 := hcm
  have hcs' : ∀ j u, xs[j]? = some u → w.cell? ⟨g, j, none⟩ = some u := fun j u hj => by
    rw [hg.cell j, ← Array.getElem?_toList]
    rw [← htake, List.getElem?_take] at hj
    split at hj
    · exact hj
    · cases hj
  obtain ⟨i0, hi0, hz0, hzs, hzb⟩ := info_parts infoU8
  have hz2 : ¬ ((i : Int) = (n : Int)) := by omega
  have hz3 : (c : Int) < (n : Int) + 1 := by omega
  have hsz : (Tryz.prog.info? 5).map (·.size) = some 1 := by rw [hi0]; simp [hzs]
  have hbw : g < w.heap.size := hg.lt
  have hvw : vb < w.heap.size := hq.lt
  have hkk : (n : Int) + 1 - (i : Int) = ((n + 1 - i : Nat) : Int) := by omega
  have hik : i + (n + 1 - i) = n + 1 := by omega
  have hold : (Builtin.firstCells i0.size i (.slice (some ⟨g, 0, none⟩) i c)).run Tryz.prog w.drew = .ok (xs.take i).toArray w.drew := by
    rw [hzs]
    exact run_firstCells_some w.drew 1 i ⟨g, 0, none⟩ i c (xs.take i) (by rw [List.length_take]; omega) (fun j u hj => by
      rw [Addr.add_lit, Nat.zero_add]
      rw [List.getElem?_take] at hj
      split at hj
      · exact hcs' j u hj
      · cases hj)
  have hrz : ∀ ty, (Builtin.append_ #[56, 3] ty #[.slice (some ⟨g, 0, none⟩) i c, .int .i64 ((n : Int) + 1 - (i : Int))]).run Tryz.prog w =
      .ok (.slice (some ⟨w.heap.size, 0, none⟩) (n + 1) (grownCap w (n + 1) c 5)) (w.drew.alloc (.cells ((xs.take i).toArray ++ Builtin.zeroCells (Value.int .u8 0).cells (n + 1 - i) ++ Builtin.zeroCells (Value.int .u8 0).cells (grownCap w (n + 1) c 5 - (n + 1))) 5)) := fun ty => by
    have h := Lib.run_append_grow_zeros w 56 3 ty 5 i0 _ .i64 .i64 Tryz.underlying56 Tryz.underlying3 hi0 hz0 (some ⟨g, 0, none⟩) i c (xs.take i) hold (n + 1 - i) (by omega) (by omega) (by omega) (by omega) (by rw [hzb]; omega) (by rw [hzb, hik]; exact growslice_fits hroom (by omega))
    rw [hik] at h
    rw [hkk]
    exact h
  have hGn : n + 1 ≤ grownCap w (n + 1) c 5 := grownCap_ge w _ _ _
  have hGm : grownCap w (n + 1) c 5 ≤ maxLen := grownCap_le_maxLen w (n + 1) c 5 (by unfold maxLen; omega)
  generalize grownCap w (n + 1) c 5 = G at *
  have hRS : ((xs.take i).toArray ++ Builtin.zeroCells (Value.int .u8 0).cells (n + 1 - i) ++ Builtin.zeroCells (Value.int .u8 0).cells (G - (n + 1))).size = G := by
    simp [Builtin.zeroCells, Value.cells]
    omega
  have hRT : ((xs.take i).toArray ++ Builtin.zeroCells (Value.int .u8 0).cells (n + 1 - i) ++ Builtin.zeroCells (Value.int .u8 0).cells (G - (n + 1))).toList.take i = xs.take i := by
    simp only [Array.toList_append, List.append_assoc]
    rw [List.take_append_of_le_length (by simp; omega), List.take_of_length_le (by simp; omega)]
  generalize hROW : (xs.take i).toArray ++ Builtin.zeroCells (Value.int .u8 0).cells (n + 1 - i) ++ Builtin.zeroCells (Value.int .u8 0).cells (G - (n + 1)) = ROW at *
  have hfin : InsR w base (.slice (some ⟨g, 0, none⟩) n c) n (xs.take i ++ v :: xs.drop i) (.returned (.slice (some ⟨w.heap.size, 0, none⟩) (n + 1) G)) ((((w.alloc (.cells ROW 5)).drew.setCells w.heap.size i [v]).drew).setCells w.heap.size (i + 1) (xs.drop i)) := by
    obtain ⟨c1, b1, l1⟩ := blk_setCells w.heap.size 5 [v] i (w.alloc (.cells ROW 5)).drew ROW (Blk.new w _ _) (by simp; omega)
    have s1 : c1.size = G := by
      have := congrArg List.length l1
      simp only [Array.length_toList, List.length_append, List.length_take, List.length_drop, List.length_cons, List.length_nil] at this
      omega
    obtain ⟨c2, b2, l2⟩ := blk_setCells w.heap.size 5 (xs.drop i) (i + 1) ((w.alloc (.cells ROW 5)).drew.setCells w.heap.size i [v]).drew c1 b1 (by rw [List.length_drop]; omega)
    have s2 : c2.size = G := by
      have := congrArg List.length l2
      simp only [Array.length_toList, List.length_append, List.length_take, List.length_drop] at this
      omega
    refine ⟨w.heap.size, G, rfl, ⟨by simp only [List.length_append, List.length_take, List.length_cons, List.length_drop]; omega, .inr ⟨w.heap.size, G, c2, rfl, hbase, b2, hGn, hGm, by omega, ?_⟩⟩, ?_⟩
    · rw [Nat.mul_one, l2, l1]
      have e1 : (ROW.toList.take i ++ ([v] ++ ROW.toList.drop (i + [v].length))).take (i + 1) = xs.take i ++ [v] := by
        rw [hRT, ← List.append_assoc, List.take_append_of_le_length (by simp; omega), List.take_of_length_le (by simp; omega)]
      rw [e1, ← List.append_assoc, List.take_append_of_le_length (by simp; omega), List.take_of_length_le (by simp; omega)]
      simp
    · have hb : ∀ (x : World) (vs : List Value) (o : Nat), w.heap.size ≤ x.heap.size → (∀ k, k < w.heap.size → x.heap[k]? = w.heap[k]?) → x.os = w.os → x.tape = w.tape → x.output = w.output → w.grownBy (x.setCells w.heap.size o vs) (some g) := fun x vs o h1 h2 h3 h4 h5 => by
        have h := grown_setCells w.heap.size vs o x
        exact ⟨h.os.trans h3, h.tape.trans h4, h.output.trans h5, Nat.le_trans h1 h.size, fun k hk hn => (h.block k (Nat.lt_of_lt_of_le hk h1) (by simp; omega)).trans (h2 k hk)⟩
      have h1 := grown_setCells w.heap.size [v] i (w.alloc (.cells ROW 5)).drew
      have hb0 : Below w.heap.size w (w.alloc (.cells ROW 5)) := (Below.refl _ _).alloc (Nat.le_refl _) _
      exact hb _ _ _ (Nat.le_trans hb0.size h1.size) (fun k hk => (h1.block k (Nat.lt_of_lt_of_le hk hb0.size) (by simp; omega)).trans (hb0.block k hk)) (h1.os.trans hb0.os) (h1.tape.trans hb0.tape) (h1.output.trans hb0.output)
  have HFIN := Lib.hid hfin
  obtain ⟨W1, hW1⟩ : ∃ W1, W1 = w.drew.alloc (.cells ROW 5) := ⟨_, rfl⟩
  rw [← hW1] at hrz
  have hN : ∀ j, j < n + 1 → (W1.cell? ⟨w.heap.size, j, none⟩).isSome = true := fun j hj => by
    rw [hW1, World.cell?_alloc_at (w := w.drew) ROW _ w.heap.size j rfl, Array.getElem?_eq_getElem (by omega)]; rfl
  have hNf : ∀ j, W1.frozen? ⟨w.heap.size, j, none⟩ = false := fun j => by rw [hW1]; exact World.frozen?_alloc_at (w := w.drew) ROW _ w.heap.size j rfl
  have hOb : ∀ j u, w.cell? ⟨g, j, none⟩ = some u → W1.cell? ⟨g, j, none⟩ = some u := fun j u h => by rw [hW1, World.cell?_alloc_past (w := w.drew) _ g j hbw]; exact h
  have hOv : ∀ j u, w.cell? ⟨vb, j, none⟩ = some u → W1.cell? ⟨vb, j, none⟩ = some u := fun j u h => by rw [hW1, World.cell?_alloc_past (w := w.drew) _ vb j hvw]; exact h
  have hdl : (xs.drop i).length = n - i := by rw [List.length_drop, hxl]
  have hcpA : ∀ (W : World), (∀ x, W.cell? x = W1.cell? x) → (∀ x, W.frozen? x = W1.frozen? x) → ∀ ty dc, (Builtin.copy_ #[56, 56] ty #[.slice (some ⟨w.heap.size, i, none⟩) (n + 1 - i) dc, .slice (some ⟨vb, 0, none⟩) 1 1]).run Tryz.prog W = .ok (goInt 1) (W.setCells w.heap.size i [v]) := fun W hWc hWf ty dc =>
    run_copy_cells W _ _ ty 5 w.heap.size i (n + 1 - i) dc ⟨vb, 0, none⟩ 1 1 [v] Tryz.underlying56 hsz (by simp only [List.length_cons, List.length_nil, Nat.min_def]; split <;> omega)
      (fun j u hj => by
        rw [Addr.add_lit, hWc]
        cases j with
        | zero => exact hOv _ u ((hq.cell 0).trans (by simpa using hj))
        | succ j => simp at hj)
      (fun j hj => by simp only [List.length_cons, List.length_nil] at hj; rw [hWc]; exact hN _ (by omega)) (fun j hj => by rw [hWf]; exact hNf _) (fun u hu => by simp at hu; subst hu; exact hv1)
  have hbN : g ≠ w.heap.size := by omega
  have hcpB : ∀ (W : World), (∀ x, W.cell? x = (W1.setCells w.heap.size i [v]).cell? x) → (∀ x, W.frozen? x = (W1.setCells w.heap.size i [v]).frozen? x) → ∀ ty dc sc, (Builtin.copy_ #[56, 56] ty #[.slice (some ⟨w.heap.size, i + 1, none⟩) (n - i) dc, .slice (some ⟨g, i, none⟩) (n - i) sc]).run Tryz.prog W = .ok (goInt (xs.drop i).length) (W.setCells w.heap.size (i + 1) (xs.drop i)) := fun W hWc hWf ty dc sc =>
    run_copy_cells W _ _ ty 5 w.heap.size (i + 1) (n - i) dc ⟨g, i, none⟩ (n - i) sc (xs.drop i) Tryz.underlying56 hsz (by rw [hdl]; simp only [Nat.min_def]; split <;> omega)
      (fun j u hj => by
        rw [Addr.add_lit, hWc, World.cell?_setCells_out _ _ _ _ _ (fun h _ => absurd h hbN)]
        exact hOb _ u (hcs' (i + j) u (by rwa [List.getElem?_drop] at hj)))
      (fun j hj => by rw [hWc]; exact isSome_setCells _ _ _ _ (fun t ht => hN _ (by simp at ht; omega)) _ (hN _ (by omega)))
      (fun j hj => by rw [hWf, World.frozen?_setCells]; exact hNf _) (fun u hu => hx1 u (List.mem_of_mem_drop hu))
  subst hW1
  have hE1 : ∀ x, ((w.alloc (.cells ROW 5)).drew).cell? x = (w.drew.alloc (.cells ROW 5)).cell? x := fun x => rfl
  have hE2 : ∀ x, ((w.alloc (.cells ROW 5)).drew).frozen? x = (w.drew.alloc (.cells ROW 5)).frozen? x := fun x => rfl
  have hF1 : ∀ x, (((w.alloc (.cells ROW 5)).drew.setCells w.heap.size i [v]).drew).cell? x = ((w.drew.alloc (.cells ROW 5)).setCells w.heap.size i [v]).cell? x := fun x => rfl
  have hF2 : ∀ x, (((w.alloc (.cells ROW 5)).drew.setCells w.heap.size i [v]).drew).frozen? x = ((w.drew.alloc (.cells ROW 5)).setCells w.heap.size i [v]).frozen? x := fun x => rfl
  have hw1 : IntKind.i64.wrap ((i : Int) + 1) = (i : Int) + 1 := by rw [IntKind.wrap_i64]; omega
  have hb1 : (0 : Int) ≤ (i : Int) + 1 := by omega
  have hin : i ≤ n := by omega
  have htn : ((i : Int) + 1).toNat = i + 1 := by omega
  have hb3 : (i : Int) ≤ (n : Int) := by omega
  have hG63 : G ≤ 9223372036854775807 := hGm
  have hGi : ¬ (G = i) := by omega
  have hGim : ¬ (G = i + 1) := by omega
  have hci : ¬ (c = i) := by omega
  clear hkk hik hold hROW hRS hRT hfin hN hNf hOb hOv hdl hsz hcs' ho hq hg htake hcs hxl hGm
  go_enter Tryz.func60, Tryz.ntmps60
  go_wp2_with (first
    | (at_builtin; refine Lib.wpList_append_run _ rfl _ _ _ _ rfl _ _ rfl rfl _ _ (hrz _) ?_)
    | (at_builtin; refine wpList_copy_runI _ rfl _ _ 56 56 rfl _ _ rfl rfl (hcpA _ hE1 hE2 _ _) ?_)
    | (at_builtin; refine wpList_copy_runI _ rfl _ _ 56 56 rfl _ _ rfl rfl (hcpB _ (fun _ => rfl) (fun _ => rfl) _ _ _) ?_))
  go_region_law (refine step_copy_runI rfl _ _ 56 56 rfl (.slice (some ⟨w.heap.size, i + 1, none⟩) (n - i) (G - (i + 1))) (.slice (some ⟨g, i, none⟩) (n - i) (c - i)) (by simp [Act.eval, Act.put]) (by simp [Act.eval, Act.put]) (hcpB _ hF1 hF2 3 (G - (i + 1)) (c - i)) ?_)
  go_wp2_with fail
  go_ret
  exact HFIN.out

/-- slices.Insert of a byte ahead of byte i. -/
theorem ins_any (base n i vb : Nat) (tv v : Value) (xs : List Value) (w : World) (hv1 : v.oneCell' = true) (hx1 : ∀ v ∈ xs, v.oneCell' = true) (hi : i < n) (hbig : n ≤ 1073741824) (hbase : base ≤ w.heap.size) (hvb : some vb ≠ tv.ownBlock)
    (ho : w.ownsRow base 5 1 tv n xs) (hq : Blk w vb 5 #[v]) :
    Calls Tryz.prog 60 #[tv, .int .i64 i, .slice (some ⟨vb, 0, none⟩) 1 1] w fun e w' => InsR w base tv n (xs.take i ++ v :: xs.drop i) e w' := by
  have ho' := ho
  rcases ho.2 with ⟨_, h0⟩ | ⟨g, c, cur, rfl, hb, hg, h1, h2, h3, h4⟩
  · omega
  · by_cases hr : n + 1 ≤ c
    · exact ins_room base g n c i vb v xs w hv1 hx1 hi hr (fun e => hvb (by rw [e]; rfl)) ho' hq
    · exact ins_grow base g n c i vb v xs w hv1 hx1 hi h1 (by omega) hbig hbase ho' hq
end Go.Proofs.YtohkpgpcipjpkaaGreatDoor.wr

/- impl.termWriter.writeParts of an opWriter. Condition: the nodes lie in memory below the writer and are well-formed; the table of powers of ten in its variable. -/
namespace Go.Proofs.YtohkpgpcipjpkaaGreatDoor.wr
open Go.RowKit

set_option maxRecDepth 100000 in
set_option maxHeartbeats 4000000 in
/-- termWriter.writeParts. -/
theorem parts_of (F : Fr) (h : ∀ j k n s kids rest, F.drop j = .cons k n s kids rest → OwC s kids) (d : Int) (A : Option Addr) (cap lo hi ob mb : Nat) (bs : List UInt8) (w : World) (hs : shapeF F d = true) (hp : PR w lo hi mb F A cap) (hh : hi ≤ mb) (hw : TW ob mb bs w) (hl : bs.length + (remB 0 F).length ≤ 1073741824) (ht : Pow10 ob mb w) (hnd : nodes F ≤ 1048576) :
    Calls Tryz.prog 57 #[.pointer (some ⟨mb, 0, none⟩), .slice A F.len cap] w fun e w' => e = .returned (.tuple #[]) ∧ TW ob mb (bs ++ remB 0 F) w' ∧ TF mb w w' := by
  have hlen : F.len ≤ 1048576 := by have := len_le_nodes F; omega
  obtain ⟨i0, hi0, hz0, hz1, hz2⟩ := info_parts infoU8
  have HP := Lib.hid hp
  have HH := Lib.hid h
  have HS := Lib.hid hs
  have HHI := Lib.hid hh
  have HW := Lib.hid hw
  have HL := Lib.hid hl
  have HT := Lib.hid ht
  have HND := Lib.hid hnd
  clear h hs hp hh hw hl ht hnd
  generalize hn : F.len = len at *
  have HN := Lib.hid hn
  clear hn
  go_enter Tryz.func57, Tryz.ntmps57
  go_wp2_with fail
  go_loopw [8] (fun i wr => ∃ (j : Nat) (b2 : List UInt8), j ≤ len ∧ i = .int .i64 j ∧ TW ob mb b2 wr ∧ TF mb w wr ∧ b2 ++ remB j (F.drop j) = bs ++ remB 0 F) (fun i _ => len - (intOf i).toNat)
  case atStart => exact ⟨0, bs, Nat.zero_le _, rfl, HW.out, TF.refl _ _, rfl⟩
  case round =>
    obtain ⟨j, b2, hj, rfl, hw, htf, hb⟩ := hrel
    by_cases hlt : j < len
    · obtain ⟨kk, nn, ss, kids, hd⟩ := Fr.drop_cons j F (by rw [HN.out]; exact hlt)
      have hp := HP.out.keep HHI.out htf
      obtain ⟨g, rfl, hkp, hall⟩ := hp.2.2 (by rw [HN.out]; omega)
      obtain ⟨gv, hc, hv⟩ := hall j _ _ _ _ _ hd
      have hsh := shape_drop F j d hd HS.out
      have C := HH.out j _ _ _ _ _ hd
      rw [hd] at hb
      obtain ⟨tv, hq, ho⟩ := hw
      obtain ⟨A0, c0, rfl, hc1, hc2⟩ := row_form ho
      have y0 := hq.cell 0
      have y1 := hq.cell 1
      have yf := hq.frozen 0
      simp only [List.getElem?_toArray, List.getElem?_cons_zero, List.getElem?_cons_succ] at y0 y1
      unfold fW at y1
      have hmw := hq.lt
      have hndk : nodes kids ≤ 1048576 := Nat.le_trans (nodes_drop_elem j F hd) HND.out
      have HBB := Lib.hid hb
      have HTF := Lib.hid htf
      have HV := Lib.hid hv
      have HSH := Lib.hid hsh
      have HC := Lib.hid C
      have HO := Lib.hid ho
      have HQ := Lib.hid hq
      have HNK := Lib.hid hndk
      obtain ⟨T0, x0, rfl⟩ := hv.iface
      have hbl := congrArg List.length hb
      clear hb htf hv hsh C ho hq hall hkp hp hndk hd
      have hBL := HL.out
      by_cases hj0 : j = 0
      · subst hj0
        have hstep : b2 ++ (txT kk nn ss kids ++ remB 1 (F.drop 1)) = bs ++ remB 0 F := by have := HBB.out; rwa [remB_zero] at this
        have HST := Lib.hid hstep
        have hll : b2.length + (txT kk nn ss kids).length ≤ 1073741824 := by have := congrArg List.length hstep; simp only [List.length_append] at this; omega
        have C2 := HC.out kk nn d (.iface T0 x0) lo hi ob mb b2 wr HSH.out HV.out HHI.out ⟨_, HQ.out, HO.out⟩ hll (HT.out.on HTF.out.1) HNK.out
        have H2 := Lib.hid C2
        clear C2 hstep hbl hll
        go_wp2_with fail
        refine H2.out.mono ?_
        rintro e w3 ⟨rfl, hw3, htf3⟩
        have HW3 := Lib.hid hw3
        have HTF3 := Lib.hid (HTF.out.trans htf3)
        have HE3 : Hid ((b2 ++ txT kk nn ss kids) ++ remB (0 + 1) (F.drop (0 + 1)) = bs ++ remB 0 F) := Lib.hid (by rw [List.append_assoc]; exact HST.out)
        clear hw3 htf3
        go_wp2_with fail
        go_roundw
        case rel => exact ⟨0 + 1, _, by omega, by go_num, HW3.out, HTF3.out, HE3.out⟩
        case measure => simp [intOf]; omega
      · have hstep : b2 ++ 44 :: (txT kk nn ss kids ++ remB (j + 1) (F.drop (j + 1))) = bs ++ remB 0 F := by have := HBB.out; rwa [remB_step j hj0] at this
        have HST := Lib.hid hstep
        have hll : b2.length + 1 + (txT kk nn ss kids).length ≤ 1073741824 := by have := congrArg List.length hstep; simp only [List.length_append, List.length_cons] at this; omega
        have hjp : (0 : Int) < j := by omega
        clear hstep hbl
        go_wp2_with (at_builtin; go_must (refine wpList_append_lies _ rfl _ _ _ rfl (mb + 1) 5 i0 _ 1 1 Tryz.underlying56 hi0 hz0 hz1 hz2 rfl (by omega) _ (b2).length (Lib.byteCells (b2)) rfl (HO.out.alloc _) ⟨wr.heap.size, 0, none⟩ 1 1 [.int .u8 44] rfl rfl (World.news_of_block (cs := #[.int .u8 44]) (t := 5) (fr := (0, 0)) (Blk.new wr 5 #[.int .u8 44])) (by simp [Value.oneCell']) (by omega) (by unfold maxLen; omega) (by omega) (by simp; omega) (wr.heap.size + 1) (by simp) ?_); intro g9 cap9 w9 hown9 hgrow9 _ _; have hst9 := TW.step1 (c := 44) HQ.out HO.out rfl hgrow9 hown9; have y9 := hst9.2.2.cell 0; have yf9 := hst9.2.2.frozen 0; simp only [List.getElem?_toArray, List.getElem?_cons_zero] at y9; have HS9 := Lib.hid (And.intro hst9.1 hst9.2.1); clear hown9 hgrow9 hst9; refine Hid.out ?_)
        refine Lib.hid ?_
        have HTF9 := HTF.out.trans HS9.out.2
        obtain ⟨tv9, hq9, ho9⟩ := HS9.out.1
        have C2 := HC.out kk nn d (.iface T0 x0) lo hi ob mb (b2 ++ [44]) _ HSH.out (HV.out.keep (fun p _ hp => HS9.out.2.1.cell (by have := HHI.out; omega)) (Nat.le_refl _) (Nat.le_refl _)) HHI.out HS9.out.1 (by simp only [List.length_append, List.length_cons, List.length_nil]; omega) (HT.out.on HTF9.1) HNK.out
        have z1 := hq9.cell 1
        simp only [List.getElem?_toArray, List.getElem?_cons_zero, List.getElem?_cons_succ] at z1
        unfold fW at z1
        have H2 := Lib.hid C2
        have HTF10 := Lib.hid HTF9
        clear C2 HTF9 hq9 ho9
        go_wp2_with fail
        refine H2.out.mono ?_
        rintro e w3 ⟨rfl, hw3, htf3⟩
        have HW3 := Lib.hid hw3
        have HTF3 := Lib.hid (HTF10.out.trans htf3)
        have HE3 : Hid ((b2 ++ [44] ++ txT kk nn ss kids) ++ remB (j + 1) (F.drop (j + 1)) = bs ++ remB 0 F) := Lib.hid (by rw [← HST.out]; simp)
        clear hw3 htf3
        go_wp2_with fail
        go_roundw
        case rel => exact ⟨j + 1, _, by omega, by go_num, HW3.out, HTF3.out, HE3.out⟩
        case measure => simp [intOf]; omega
    · obtain rfl : j = len := by omega
      have hfin : b2 = bs ++ remB 0 F := by
        have h1 := Fr.drop_len F
        rw [HN.out] at h1
        rw [← hb, h1, remB_nil, List.append_nil]
      have HFN : Hid (TW ob mb (bs ++ remB 0 F) wr ∧ TF mb w wr) := Lib.hid (by rw [← hfin]; exact ⟨hw, htf⟩)
      clear hw htf hb hfin
      go_wp2_with fail
      go_end0
      exact ⟨rfl, HFN.out⟩
end Go.Proofs.YtohkpgpcipjpkaaGreatDoor.wr

/- impl.termWriter.writeList of an opWriter. Condition: the nodes lie in memory below the writer and are well-formed; the table of powers of ten in its variable. -/
namespace Go.Proofs.YtohkpgpcipjpkaaGreatDoor.wr
open Go.RowKit

set_option maxRecDepth 100000 in
set_option maxHeartbeats 4000000 in
/-- termWriter.writeList. -/
theorem wlist_of (k n d : Int) (s : ByteArray) (f : Fr) (hp : pairB k s f.len = true) (hs : shapeT k n s f d = true) (h : ∀ s' f', f'.size < f.size → OwC s' f') (A : Option Addr) (cap lo hi ob mb : Nat) (bs : List UInt8) (w : World) (hr : PR w lo hi mb (fronts k s f) A cap)
    (k' n' : Int) (s' : ByteArray) (f' : Fr) (htl : tails k n s f = .cons k' n' s' f' .nil) (v : Value) (hv : NdV w lo hi k' n' s' f' v) (hh : hi ≤ mb) (hw : TW ob mb bs w) (hl : bs.length + (txT k n s f).length ≤ 1073741824) (ht : Pow10 ob mb w) (hnf : nodes (fronts k s f) ≤ 1048576) (hnt : nodes f' ≤ 1048576) :
    Calls Tryz.prog 56 #[.pointer (some ⟨mb, 0, none⟩), .slice A (fronts k s f).len cap, v] w fun e w' => e = .returned (.tuple #[]) ∧ TW ob mb (bs ++ txT k n s f) w' ∧ TF mb w w' := by
  obtain ⟨i0, hi0, hz0, hz1, hz2⟩ := info_parts infoU8
  obtain ⟨a1, a2, a3⟩ := fr_facts f.size k n s f d (Nat.le_refl _) hs
  obtain ⟨b1, _, b3⟩ := a3 k' n' s' f' htl
  have hb3 := b3 hp
  have hT := txT_rem hp htl
  rw [hT] at hl ⊢
  simp only [List.length_cons, List.length_append, List.length_nil] at hl
  have hm0 : mb < w.heap.size := by obtain ⟨_, hq, _⟩ := hw; exact hq.lt
  have C1 := fun wx (htf : TF mb w wx) (hw : TW ob mb (bs ++ [91]) wx) => parts_of (fronts k s f) (fun j k n s kids rest hd => h s kids (a2 j k n s kids rest hd)) d A cap lo hi ob mb (bs ++ [91]) wx a1 (hr.keep hh htf) hh hw (by simp only [List.length_append, List.length_cons, List.length_nil]; omega) (ht.on htf.1) hnf
  have C2 := fun wx (htf : TF mb w wx) => emptyList_any k' n' s' f' v lo hi wx (hv.keep (fun p _ hp => htf.1.cell (by omega)) (Nat.le_refl _) (Nat.le_refl _))
  have C3 := fun wx b2 (htf : TF mb w wx) (hw : TW ob mb b2 wx) (hl : b2.length + (txT k' n' s' f').length ≤ 1073741824) => h s' f' hb3 k' n' d v lo hi ob mb b2 wx b1 (hv.keep (fun p _ hp => htf.1.cell (by omega)) (Nat.le_refl _) (Nat.le_refl _)) hh hw hl (ht.on htf.1) hnt
  have HE : Hid (endB k' n' s' f' = if nilB k' s' f'.len = true then [] else 124 :: txT k' n' s' f') := Lib.hid rfl
  obtain ⟨T0, x0, rfl⟩ := hv.iface
  have H1 := Lib.hid C1
  have H3 := Lib.hid C3
  generalize remB 0 (fronts k s f) = RB at *
  generalize (fronts k s f).len = fl at *
  clear C1 C3 hp hs h hr hh ht hnf hnt a1 a2 a3 b1 b3 hb3 hT htl hv
  obtain ⟨tv0, hq0, ho0⟩ := hw
  obtain ⟨A0, c0, rfl, _, _⟩ := row_form ho0
  have p00 := hq0.cell 0
  have p10 := hq0.cell 1
  have pf0 := hq0.frozen 0
  simp only [List.getElem?_toArray, List.getElem?_cons_zero, List.getElem?_cons_succ] at p00 p10
  unfold fW at p10
  have hm0 := hq0.lt
  have HO0 := Lib.hid ho0
  have HQ0 := Lib.hid hq0
  clear hq0 ho0
  go_enter Tryz.func56, Tryz.ntmps56
  go_wp2_with (at_builtin; go_must (refine wpList_append_lies _ rfl _ _ _ rfl (mb + 1) 5 i0 _ 1 1 Tryz.underlying56 hi0 hz0 hz1 hz2 rfl (by omega) _ (bs).length (Lib.byteCells (bs)) rfl (HO0.out.alloc _) ⟨w.heap.size, 0, none⟩ 1 1 [.int .u8 91] rfl rfl (World.news_of_block (cs := #[.int .u8 91]) (t := 5) (fr := (0, 0)) (Blk.new w 5 #[.int .u8 91])) (by simp [Value.oneCell']) (by omega) (by unfold maxLen; omega) (by omega) (by simp; omega) (w.heap.size + 1) (by simp) ?_); intro g1 cap1 w1 hown1 hgrow1 _ _; have hst1 := TW.step1 (c := 91) HQ0.out HO0.out rfl hgrow1 hown1; have y1 := hst1.2.2.cell 0; have yf1 := hst1.2.2.frozen 0; simp only [List.getElem?_toArray, List.getElem?_cons_zero] at y1; have HS1 := Lib.hid (And.intro hst1.1 hst1.2.1); clear hown1 hgrow1 hst1; refine Hid.out ?_)
  refine Lib.hid ?_
  have HTF1 := Lib.hid HS1.out.2
  have hA1 := HS1.out.1
  have C4 := H1.out _ HTF1.out hA1
  have H4 := Lib.hid C4
  clear C4 hA1
  go_wp2_with fail
  refine H4.out.mono ?_
  rintro e w2 ⟨rfl, hw2, htf2⟩
  have HW2 := Lib.hid hw2
  have HTF2 := Lib.hid (HTF1.out.trans htf2)
  have C5 := C2 w2 HTF2.out
  have H5 := Lib.hid C5
  clear hw2 htf2 C5 C2
  go_wp2_with fail
  refine H5.out.mono ?_
  rintro e w3 ⟨rfl, hb3⟩
  have hmb2 : mb ≤ w2.heap.size := Nat.le_trans (Nat.le_of_lt hm0) HTF2.out.1.size
  have HW3 := Lib.hid (HW2.out.below hb3)
  have HTF3 := Lib.hid (HTF2.out.trans (TF.below hb3 hmb2))
  clear hb3
  cases hnil : nilB k' s' f'.len
  · have HEE : Hid (endB k' n' s' f' = 124 :: txT k' n' s' f') := Lib.hid (by rw [HE.out, hnil]; rfl)
    rw [HEE.out] at hl
    simp only [List.length_cons] at hl
    have hz3 : (bs ++ [91] ++ RB).length + (txT k' n' s' f').length + 1 ≤ 1073741824 := by simp only [List.length_append, List.length_cons, List.length_nil]; omega
    have hw3 := HW3.out
    generalize hB3 : bs ++ [91] ++ RB = B3 at *
    have HB3 := Lib.hid hB3
    clear hB3
    clear hnil
    obtain ⟨tv3, hq3, ho3⟩ := hw3
    obtain ⟨A3, c3, rfl, _, _⟩ := row_form ho3
    have p03 := hq3.cell 0
    have p13 := hq3.cell 1
    have pf3 := hq3.frozen 0
    simp only [List.getElem?_toArray, List.getElem?_cons_zero, List.getElem?_cons_succ] at p03 p13
    unfold fW at p13
    have hm3 := hq3.lt
    have HO3 := Lib.hid ho3
    have HQ3 := Lib.hid hq3
    clear hq3 ho3
    go_wp2_with (at_builtin; go_must (refine wpList_append_lies _ rfl _ _ _ rfl (mb + 1) 5 i0 _ 1 1 Tryz.underlying56 hi0 hz0 hz1 hz2 rfl (by omega) _ (B3).length (Lib.byteCells (B3)) rfl (HO3.out.alloc _) ⟨w3.heap.size, 0, none⟩ 1 1 [.int .u8 124] rfl rfl (World.news_of_block (cs := #[.int .u8 124]) (t := 5) (fr := (0, 0)) (Blk.new w3 5 #[.int .u8 124])) (by simp [Value.oneCell']) (by omega) (by unfold maxLen; omega) (by omega) (by simp; omega) (w3.heap.size + 1) (by simp) ?_); intro g4 cap4 w4 hown4 hgrow4 _ _; have hst4 := TW.step1 (c := 124) HQ3.out HO3.out rfl hgrow4 hown4; have y4 := hst4.2.2.cell 0; have yf4 := hst4.2.2.frozen 0; simp only [List.getElem?_toArray, List.getElem?_cons_zero] at y4; have HS4 := Lib.hid (And.intro hst4.1 hst4.2.1); clear hown4 hgrow4 hst4; refine Hid.out ?_)
    refine Lib.hid ?_
    have HTF4 := Lib.hid (HTF3.out.trans HS4.out.2)
    obtain ⟨tv5, hq5, _⟩ := HS4.out.1
    have p15 := hq5.cell 1
    simp only [List.getElem?_toArray, List.getElem?_cons_zero, List.getElem?_cons_succ] at p15
    unfold fW at p15
    have C6 := H3.out _ _ HTF4.out HS4.out.1 (by simp only [List.length_append, List.length_cons, List.length_nil]; omega)
    have H6 := Lib.hid C6
    clear C6 hq5
    go_wp2_with fail
    refine H6.out.mono ?_
    rintro e w6 ⟨rfl, hw6, htf6⟩
    have HTF6 := Lib.hid (HTF4.out.trans htf6)
    have hz6 : (B3 ++ [124] ++ txT k' n' s' f').length ≤ 1073741824 := by simp only [List.length_append, List.length_cons, List.length_nil]; omega
    clear htf6
    generalize hB6 : B3 ++ [124] ++ txT k' n' s' f' = B6 at *
    have HB6 := Lib.hid hB6
    clear hB6
    obtain ⟨tv6, hq6, ho6⟩ := hw6
    obtain ⟨A6, c6, rfl, _, _⟩ := row_form ho6
    have p06 := hq6.cell 0
    have p16 := hq6.cell 1
    have pf6 := hq6.frozen 0
    simp only [List.getElem?_toArray, List.getElem?_cons_zero, List.getElem?_cons_succ] at p06 p16
    unfold fW at p16
    have hm6 := hq6.lt
    have HO6 := Lib.hid ho6
    have HQ6 := Lib.hid hq6
    clear hq6 ho6
    go_wp2_with (at_builtin; go_must (refine wpList_append_lies _ rfl _ _ _ rfl (mb + 1) 5 i0 _ 1 1 Tryz.underlying56 hi0 hz0 hz1 hz2 rfl (by omega) _ (B6).length (Lib.byteCells (B6)) rfl (HO6.out.alloc _) ⟨w6.heap.size, 0, none⟩ 1 1 [.int .u8 93] rfl rfl (World.news_of_block (cs := #[.int .u8 93]) (t := 5) (fr := (0, 0)) (Blk.new w6 5 #[.int .u8 93])) (by simp [Value.oneCell']) (by omega) (by unfold maxLen; omega) (by omega) (by simp; omega) (w6.heap.size + 1) (by simp) ?_); intro g7 cap7 w7 hown7 hgrow7 _ _; have hst7 := TW.step1 (c := 93) HQ6.out HO6.out rfl hgrow7 hown7; have y7 := hst7.2.2.cell 0; have yf7 := hst7.2.2.frozen 0; simp only [List.getElem?_toArray, List.getElem?_cons_zero] at y7; have HS7 := Lib.hid (And.intro hst7.1 hst7.2.1); clear hown7 hgrow7 hst7; refine Hid.out ?_)
    refine Lib.hid ?_
    have HFN : Hid (TW ob mb (bs ++ 91 :: (RB ++ (endB k' n' s' f' ++ [93]))) _ ∧ TF mb w _) := Lib.hid ⟨by
      have e : B6 ++ [93] = bs ++ 91 :: (RB ++ (endB k' n' s' f' ++ [93])) := by rw [← HB6.out, ← HB3.out, HEE.out]; simp
      rw [← e]; exact HS7.out.1, HTF6.out.trans HS7.out.2⟩
    go_wp2_with fail
    go_end0
    exact ⟨rfl, HFN.out⟩
  · have HEE : Hid (endB k' n' s' f' = []) := Lib.hid (by rw [HE.out, hnil]; rfl)
    have hz3 : (bs ++ [91] ++ RB).length ≤ 1073741824 := by simp only [List.length_append, List.length_cons, List.length_nil]; omega
    have hw3 := HW3.out
    generalize hB3 : bs ++ [91] ++ RB = B3 at *
    have HB3 := Lib.hid hB3
    clear hB3
    clear hnil
    obtain ⟨tv8, hq8, ho8⟩ := hw3
    obtain ⟨A8, c8, rfl, _, _⟩ := row_form ho8
    have p08 := hq8.cell 0
    have p18 := hq8.cell 1
    have pf8 := hq8.frozen 0
    simp only [List.getElem?_toArray, List.getElem?_cons_zero, List.getElem?_cons_succ] at p08 p18
    unfold fW at p18
    have hm8 := hq8.lt
    have HO8 := Lib.hid ho8
    have HQ8 := Lib.hid hq8
    clear hq8 ho8
    go_wp2_with (at_builtin; go_must (refine wpList_append_lies _ rfl _ _ _ rfl (mb + 1) 5 i0 _ 1 1 Tryz.underlying56 hi0 hz0 hz1 hz2 rfl (by omega) _ (B3).length (Lib.byteCells (B3)) rfl (HO8.out.alloc _) ⟨w3.heap.size, 0, none⟩ 1 1 [.int .u8 93] rfl rfl (World.news_of_block (cs := #[.int .u8 93]) (t := 5) (fr := (0, 0)) (Blk.new w3 5 #[.int .u8 93])) (by simp [Value.oneCell']) (by omega) (by unfold maxLen; omega) (by omega) (by simp; omega) (w3.heap.size + 1) (by simp) ?_); intro g9 cap9 w9 hown9 hgrow9 _ _; have hst9 := TW.step1 (c := 93) HQ8.out HO8.out rfl hgrow9 hown9; have y9 := hst9.2.2.cell 0; have yf9 := hst9.2.2.frozen 0; simp only [List.getElem?_toArray, List.getElem?_cons_zero] at y9; have HS9 := Lib.hid (And.intro hst9.1 hst9.2.1); clear hown9 hgrow9 hst9; refine Hid.out ?_)
    refine Lib.hid ?_
    have HFN : Hid (TW ob mb (bs ++ 91 :: (RB ++ (endB k' n' s' f' ++ [93]))) _ ∧ TF mb w _) := Lib.hid ⟨by
      have e : B3 ++ [93] = bs ++ 91 :: (RB ++ (endB k' n' s' f' ++ [93])) := by rw [← HB3.out, HEE.out]; simp
      rw [← e]; exact HS9.out.1, HTF3.out.trans HS9.out.2⟩
    go_wp2_with fail
    go_end0
    exact ⟨rfl, HFN.out⟩
end Go.Proofs.YtohkpgpcipjpkaaGreatDoor.wr
