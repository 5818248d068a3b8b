/- impl.MakeList. Condition: the terms lie in memory, the table of signs in its variable. -/
import Derived.Test.YtppnmodemhoebaaDoorProg
import Derived.Test.YtppnmodemhoebaaDoorMakeL
import Derived.Test.YtppnmodemhoebaaDoorVt
namespace Go.Proofs.YtppnmodemhoebaaDoor
open Go.RowKit

theorem nds_below {w w' : World} {lo hi : Nat} {f : Fr} {A : Option Addr} {cap : Nat} (h : NdS w lo hi f A cap) (hb : Below w.heap.size w w') (hh : hi ≤ w.heap.size) : NdS w' 0 w'.heap.size f A cap :=
  h.keep (fun p _ hp => hb.cell (by omega)) (Nat.zero_le _) (Nat.le_trans hh hb.size)

set_option maxRecDepth 100000 in
set_option maxHeartbeats 8000000 in
/-- impl.MakeList. -/
theorem implMake_any (f : Fr) (A : Option Addr) (cap : Nat) (k n : Int) (s : ByteArray) (kids : Fr) (A2 : Option Addr) (cap2 lo hi lo2 hi2 : Nat) (w : World) (hk : KidsAt w lo hi f A cap) (hh : hi ≤ w.heap.size) (ht : KidsAt w lo2 hi2 kids A2 cap2) (hh2 : hi2 ≤ w.heap.size) (hf : Fits k n s) (hnd : nodes f ≤ 1048576) (hnd2 : nodes kids ≤ 1048576) (htab : nv.Tab w) :
    Calls Tryd.prog 24 #[.slice A f.len cap, .agg #[.int .i64 k, .int .i64 n, .string s, .slice A2 kids.len cap2]] w fun e w' => TermRes w (mlF f k n s kids) (mlB f k n s kids) e w' := by
  have hl : f.len ≤ 1048576 := by have := len_le_nodes f; omega
  have hlt := tab_lt htab
  have C1 := fun w1 (hb : Below w.heap.size w w1) => nodesOf_any f A cap lo hi w1 (hk.below hb hh) (Nat.le_trans hh hb.size) hnd (tab_below htab hb hlt)
  have C2 := fun w1 (hb : Below w.heap.size w w1) => nodeOf_any k n s kids A2 cap2 lo2 hi2 w1 (ht.below hb hh2) (Nat.le_trans hh2 hb.size) hf hnd2 (tab_below htab hb hlt)
  have hno := fun w' h hb => termRes_no (w := w) (w' := w') (f := f) (k := k) (n := n) (s := s) (kids := kids) h hb
  have HCN : Hid (f.len ≤ 120 → allV f = true → validT k n s kids = true → nodes (chain f (.cons k n s kids .nil)) ≤ 1048576) := Lib.hid fun h1 h2 h3 => by
    have hcn := nodes_chain f (.cons k n s kids .nil)
    simp only [nodes] at hcn
    have h4 := nodes_allV f h2
    have h5 := validT_nodes h3
    omega
  have HSHP : Hid (allV f = true → validT k n s kids = true → shapeF (chain f (.cons k n s kids .nil)) (30 + f.len) = true) := Lib.hid fun h1 h2 => shape_chain f k n s kids h1 h2
  have HJ : Hid (∀ (w3 : World) (A3 : Option Addr) (cap3 : Nat) (x : Value), NdS w3 0 w3.heap.size f A3 cap3 → NdV w3 0 w3.heap.size k n s kids x → Calls Tryd.prog 49 #[.slice A3 f.len cap3, x] w3 fun e w' => ∃ v, e = .returned v ∧ NdOne w' 0 w'.heap.size (chain f (.cons k n s kids .nil)) v ∧ Below w3.heap.size w3 w') :=
    Lib.hid fun w3 A3 cap3 x h1 h2 => join_any f (.cons k n s kids .nil) A3 cap3 x w3 h1 ⟨k, n, s, kids, rfl, h2⟩ hl
  have hml : mlB f k n s kids = (decide (f.len ≤ 120) && (allV f && (validT k n s kids && validO (chain f (.cons k n s kids .nil))))) := rfl
  have hmn : mlB f k n s kids = false → mlF f k n s kids = .cons nd0.k nd0.n nd0.s nd0.f .nil := fun h => by unfold mlF; rw [h]; rfl
  have hmf : mlB f k n s kids = true → mlF f k n s kids = chain f (.cons k n s kids .nil) := fun h => by unfold mlF; rw [if_pos h]
  generalize mlB f k n s kids = ok at *
  generalize mlF f k n s kids = G at *
  generalize chain f (.cons k n s kids .nil) = C at *
  have hb0 := two_alloc w (.cells #[.int .i64 k, .int .i64 n, .string s, .slice A2 kids.len cap2] 31) (.cells #[.int .i64 0, .int .i64 0, .string ⟨#[]⟩, .slice none 0 0] 31)
  have hq0 : Blk ((w.alloc (.cells #[.int .i64 k, .int .i64 n, .string s, .slice A2 kids.len cap2] 31)).alloc (.cells #[.int .i64 0, .int .i64 0, .string ⟨#[]⟩, .slice none 0 0] 31)) w.heap.size 31 #[.int .i64 k, .int .i64 n, .string s, .slice A2 kids.len cap2] := (Blk.new w _ _).alloc _
  have hq1 : Blk ((w.alloc (.cells #[.int .i64 k, .int .i64 n, .string s, .slice A2 kids.len cap2] 31)).alloc (.cells #[.int .i64 0, .int .i64 0, .string ⟨#[]⟩, .slice none 0 0] 31)) (w.heap.size + 1) 31 #[.int .i64 0, .int .i64 0, .string ⟨#[]⟩, .slice none 0 0] := by
    have h := Blk.new (w.alloc (.cells #[.int .i64 k, .int .i64 n, .string s, .slice A2 kids.len cap2] 31)) 31 #[.int .i64 0, .int .i64 0, .string ⟨#[]⟩, .slice none 0 0]
    simpa using h
  have H1 := Lib.hid C1
  have H2 := Lib.hid C2
  have HNO := Lib.hid hno
  have HML := Lib.hid hml
  have HMF := Lib.hid hmf
  have HMN := Lib.hid hmn
  have HB0 := Lib.hid hb0
  have HQ0 := Lib.hid hq0
  have HQ1 := Lib.hid hq1
  have HT := Lib.hid htab
  clear C1 C2 hno hml hmf hmn hb0 hq0 hq1 hk ht hf hnd hnd2 htab
  by_cases hgt : 120 < f.len
  · have hok : ok = false := by rw [HML.out, decide_eq_false (by omega)]; rfl
    have hgi : (120 : Int) < (f.len : Int) := by omega
    have HOK := Lib.hid hok
    clear hok
    go_enter Tryd.func24, Tryd.ntmps24
    go_wp2_with fail
    refine bodyPost_ret (v := .tuple #[.agg #[.int .i64 0, .int .i64 0, .string ⟨#[]⟩, .slice none 0 0], .bool false]) ?_ rfl (HNO.out _ HOK.out HB0.out)
    exact results_cell_row2 Tryd.results24 _ _ (w.heap.size + 1) _ _ _ _ rfl HQ1.out Tryd.underlying31 rfl (by kernel_rfl)
  · have hgi : ¬ (120 : Int) < (f.len : Int) := by omega
    have hle : f.len ≤ 120 := by omega
    have sz0 : ((w.alloc (.cells #[.int .i64 k, .int .i64 n, .string s, .slice A2 kids.len cap2] 31)).alloc (.cells #[.int .i64 0, .int .i64 0, .string ⟨#[]⟩, .slice none 0 0] 31)).heap.size = w.heap.size + 1 + 1 := by simp
    have HSZ := Lib.hid sz0
    clear sz0 hgt
    go_enter Tryd.func24, Tryd.ntmps24
    go_wp2_with fail
    refine (H1.out _ HB0.out).mono ?_
    rintro e w2 ⟨hb, hr⟩
    have hb2 : Below w.heap.size w w2 := HB0.out.trans (hb.mono HB0.out.size)
    have hq2 := HQ0.out.below hb HQ0.out.lt
    have hr2 := HQ1.out.below hb HQ1.out.lt
    have hs2 : w.heap.size + 1 + 1 ≤ w2.heap.size := by have h1 := hb.size; have h2 := HSZ.out; omega
    obtain ⟨a0, a1, a2, a3⟩ := cells4i hq2
    obtain ⟨d0, d1, d2, d3⟩ := cells4i hr2
    obtain ⟨f0, f1, f2, f3⟩ := frozen4 hr2
    have HB2 := Lib.hid hb2
    have HQ2 := Lib.hid hq2
    have HR2 := Lib.hid hr2
    clear hb hb2 hq2 hr2 HQ0 HQ1 HB0 H1 HSZ
    rcases hr with ⟨hav, A3, cap3, rfl, hns⟩ | ⟨hav, rfl⟩
    rotate_left
    · have HOK : Hid (ok = false) := Lib.hid (by rw [HML.out, hav, Bool.false_and, Bool.and_false])
      clear hav
      go_wp2_with fail
      have e1 := ((((HR2.out).set_ 0 (.int .i64 0)).set_ 1 (.int .i64 0)).set_ 2 (.string ⟨#[]⟩)).set_ 3 (.slice none 0 0)
      refine bodyPost_ret (v := .tuple #[.agg #[.int .i64 0, .int .i64 0, .string ⟨#[]⟩, .slice none 0 0], .bool false]) ?_ rfl (HNO.out _ HOK.out ?_)
      · exact results_cell_row2 Tryd.results24 _ _ (w.heap.size + 1) _ _ _ _ rfl e1 Tryd.underlying31 rfl (by kernel_rfl)
      · exact ((((HB2.out).setCell (p := ⟨w.heap.size + 1, 0, none⟩) (by simp) _).setCell (p := ⟨w.heap.size + 1, 1, none⟩) (by simp) _).setCell (p := ⟨w.heap.size + 1, 2, none⟩) (by simp) _).setCell (p := ⟨w.heap.size + 1, 3, none⟩) (by simp) _
    · have HAV := Lib.hid hav
      have HNS := Lib.hid hns
      clear hav hns
      go_wp2_with fail
      refine (H2.out _ HB2.out).mono ?_
      rintro e w3 ⟨hb, hr⟩
      have hb3 : Below w.heap.size w w3 := HB2.out.trans (hb.mono HB2.out.size)
      have hr3 := HR2.out.below hb HR2.out.lt
      have hs3 := hb.size
      have hns3 := nds_below HNS.out hb (Nat.le_refl _)
      obtain ⟨d0, d1, d2, d3⟩ := cells4i hr3
      obtain ⟨f0, f1, f2, f3⟩ := frozen4 hr3
      have HB3 := Lib.hid hb3
      have HR3 := Lib.hid hr3
      have HNS3 := Lib.hid hns3
      clear hb hb3 hr3 hns3 HQ2 HR2 HB2 H2 HNS a0 a1 a2 a3
      rcases hr with ⟨hvt, v, rfl, hnv⟩ | ⟨hvt, rfl⟩
      rotate_left
      · have HOK : Hid (ok = false) := Lib.hid (by rw [HML.out, hvt, Bool.false_and, Bool.and_false, Bool.and_false])
        clear hvt
        go_wp2_with fail
        have e1 := ((((HR3.out).set_ 0 (.int .i64 0)).set_ 1 (.int .i64 0)).set_ 2 (.string ⟨#[]⟩)).set_ 3 (.slice none 0 0)
        refine bodyPost_ret (v := .tuple #[.agg #[.int .i64 0, .int .i64 0, .string ⟨#[]⟩, .slice none 0 0], .bool false]) ?_ rfl (HNO.out _ HOK.out ?_)
        · exact results_cell_row2 Tryd.results24 _ _ (w.heap.size + 1) _ _ _ _ rfl e1 Tryd.underlying31 rfl (by kernel_rfl)
        · exact ((((HB3.out).setCell (p := ⟨w.heap.size + 1, 0, none⟩) (by simp) _).setCell (p := ⟨w.heap.size + 1, 1, none⟩) (by simp) _).setCell (p := ⟨w.heap.size + 1, 2, none⟩) (by simp) _).setCell (p := ⟨w.heap.size + 1, 3, none⟩) (by simp) _
      · have HCN2 : Hid (nodes C ≤ 1048576) := Lib.hid (HCN.out hle HAV.out hvt)
        have HSH2 := Lib.hid (HSHP.out HAV.out hvt)
        have HOV : Hid (ok = validO C) := Lib.hid (by rw [HML.out, hvt, HAV.out, decide_eq_true hle]; simp)
        have C3 := HJ.out w3 A3 cap3 v HNS3.out (hnv.keep (fun _ _ _ => rfl) (Nat.zero_le _) (Nat.le_refl _))
        obtain ⟨T1, z1, rfl⟩ := hnv.iface
        have H3 := Lib.hid C3
        clear hvt HCN HML HAV HSHP hnv C3 HJ HNS3
        go_wp2_with fail
        refine H3.out.mono ?_
        rintro e w4 ⟨v4, rfl, ⟨ck, cn, cs, ckids, hC, hnv4⟩, hb⟩
        have hCN := HCN2.out
        have hSH := HSH2.out
        rw [hC] at hCN hSH
        simp only [nodes] at hCN
        rw [shapeF_cons, Bool.and_eq_true] at hSH
        have C4 := vt_any ⟨ck, cn, cs, ckids⟩ v4 0 w4.heap.size w4 (wfT_shape hSH.1) (wfF_shape ckids _ (shapeT_kids hSH.1)) hnv4 (Nat.le_refl _) (by show nodes ckids ≤ 1048576; omega)
        have hb4 : Below w.heap.size w w4 := HB3.out.trans (hb.mono HB3.out.size)
        have hr4 := HR3.out.below hb HR3.out.lt
        have hs4 := hb.size
        have hov : ok = vtB ⟨ck, cn, cs, ckids⟩ := by rw [HOV.out, hC]; rfl
        have hgo : G = .cons (vtF ⟨ck, cn, cs, ckids⟩).k (vtF ⟨ck, cn, cs, ckids⟩).n (vtF ⟨ck, cn, cs, ckids⟩).s (vtF ⟨ck, cn, cs, ckids⟩).f .nil := by
          unfold vtF
          by_cases hvb : vtB ⟨ck, cn, cs, ckids⟩ = true
          · rw [if_pos hvb, HMF.out (by rw [hov]; exact hvb), hC]
          · rw [if_neg hvb, HMN.out (by rw [hov]; simpa using hvb)]
        have hrc : RC w (w.heap.size + 1) w4 := ⟨hr4, by omega, hb4⟩
        rw [← hov] at C4
        generalize vtF ⟨ck, cn, cs, ckids⟩ = m at *
        obtain ⟨mk, mn, ms, mf⟩ := m
        obtain ⟨T4, z4, rfl⟩ := hnv4.iface
        have H4 := Lib.hid C4
        have HRC := Lib.hid hrc
        have HGO := Lib.hid hgo
        clear C4 hb hb4 hr4 hC hnv4 hCN hSH hov HB3 HR3 H3 HCN2 HOV HSH2 d0 d1 d2 d3 f0 f1 f2 f3 hgo hrc
        go_wp2_with fail
        refine H4.out.mono ?_
        rintro e w5 ⟨A5, cap5, rfl, hm⟩
        have q5 := HRC.out.below (made_below hm)
        obtain ⟨d0, d1, d2, d3⟩ := cells4i q5.1
        obtain ⟨f0, f1, f2, f3⟩ := frozen4 q5.1
        have hy := HRC.out.yes (k := mk) (n := mn) (s := ms) hm (.int .i64 mk) (.int .i64 mn) (.string ms) (.slice A5 mf.len cap5) ok
        have HY : Hid (TermRes w G ok (.returned (.tuple #[.agg #[.int .i64 mk, .int .i64 mn, .string ms, .slice A5 mf.len cap5], .bool ok])) ((((w5.setCell ⟨w.heap.size + 1, 0, none⟩ (.int .i64 mk)).setCell ⟨w.heap.size + 1, 1, none⟩ (.int .i64 mn)).setCell ⟨w.heap.size + 1, 2, none⟩ (.string ms)).setCell ⟨w.heap.size + 1, 3, none⟩ (.slice A5 mf.len cap5))) := Lib.hid (by
          obtain ⟨A6, c6, e6, hm6⟩ := hy
          exact ⟨mk, mn, ms, mf, A6, c6, HGO.out, e6, hm6⟩)
        have HQ5 := Lib.hid q5
        clear hm q5 hy H4 HRC
        go_wp2_with fail
        refine bodyPost_ret (v := .tuple #[.agg #[.int .i64 mk, .int .i64 mn, .string ms, .slice A5 mf.len cap5], .bool ok]) ?_ rfl HY.out
        exact results_cell_row2 Tryd.results24 _ _ (w.heap.size + 1) _ _ _ _ rfl (set4 HQ5.out.1 _ _ _ _) Tryd.underlying31 rfl (by kernel_rfl)
end Go.Proofs.YtppnmodemhoebaaDoor
