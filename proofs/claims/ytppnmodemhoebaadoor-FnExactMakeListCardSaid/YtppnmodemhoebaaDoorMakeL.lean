/- spec.MakeList, impl.MakeList. Condition: the terms lie in memory, the table of signs in its variable. -/
import Derived.Test.YtppnmodemhoebaaDoorProg
import Derived.Test.YtppnmodemhoebaaDoorSpecM
import Derived.Test.YtppnmodemhoebaaDoorImplL
import Derived.Test.YtppnmodemhoebaaDoorLawTV0
namespace Go.Proofs.YtppnmodemhoebaaDoor
open Go.RowKit


/-- The one term of f is valid. -/
def validO : Fr → Bool
  | .cons k n s kids _ => validT k n s kids
  | .nil => false
/-- Whether MakeList makes a list, and what it answers. -/
def mlB (f : Fr) (k n : Int) (s : ByteArray) (kids : Fr) : Bool := decide (f.len ≤ 120) && (allV f && (validT k n s kids && validO (chain f (.cons k n s kids .nil))))
def mlF (f : Fr) (k n : Int) (s : ByteArray) (kids : Fr) : Fr := if mlB f k n s kids = true then chain f (.cons k n s kids .nil) else .cons 0 0 ⟨#[]⟩ .nil .nil
theorem validT_nodes {k n : Int} {s : ByteArray} {f : Fr} (h : validT k n s f = true) : 1 + nodes f ≤ 120 := by
  unfold validT at h
  rw [Bool.and_eq_true, decide_eq_true_eq] at h
  exact h.2
theorem nodes_allV (f : Fr) (h : allV f = true) : nodes f ≤ 120 * f.len := by
  induction f with
  | nil => exact Nat.zero_le _
  | cons k n s kids rest _ ih =>
    simp only [allV, Bool.and_eq_true] at h
    have h1 := validT_nodes h.1
    have h2 := ih h.2
    simp only [nodes, Fr.len]
    omega
def TermRes (w : World) (g : Fr) (ok : Bool) (e : Ending) (w' : World) : Prop :=
  ∃ k n s kids A cap, g = .cons k n s kids .nil ∧ e = .returned (.tuple #[.agg #[.int .i64 k, .int .i64 n, .string s, .slice A kids.len cap], .bool ok]) ∧ Made w kids A cap w'
theorem termRes_no {w w' : World} {f : Fr} {k n : Int} {s : ByteArray} {kids : Fr} (h : mlB f k n s kids = false) (hb : Below w.heap.size w w') :
    TermRes w (mlF f k n s kids) (mlB f k n s kids) (.returned (.tuple #[.agg #[.int .i64 0, .int .i64 0, .string ⟨#[]⟩, .slice none 0 0], .bool false])) w' := by
  unfold mlF
  rw [h, if_neg (by simp)]
  exact ⟨0, 0, ⟨#[]⟩, .nil, none, 0, rfl, rfl, made_nil hb⟩

set_option maxRecDepth 100000 in
set_option maxHeartbeats 8000000 in
/-- spec.MakeList. -/
theorem specMake_any (f : Fr) (A : Option Addr) (cap : Nat) (k n : Int) (s : ByteArray) (kids : Fr) (A2 : Option Addr) (cap2 lo hi lo2 hi2 : Nat) (w : World) (hk : KidsAt w lo hi f A cap) (hh : hi ≤ w.heap.size) (ht : KidsAt w lo2 hi2 kids A2 cap2) (hh2 : hi2 ≤ w.heap.size) (hf : Fits k n s) (hnd : nodes f ≤ 1048576) (hnd2 : nodes kids ≤ 1048576) :
    Calls Tryd.prog 22 #[.slice A f.len cap, .agg #[.int .i64 k, .int .i64 n, .string s, .slice A2 kids.len cap2]] w fun e w' => TermRes w (mlF f k n s kids) (mlB f k n s kids) e w' := by
  have hl : f.len ≤ 1048576 := by have := len_le_nodes f; omega
  have C1 := fun w1 (hb : Below w.heap.size w w1) => specAll_any f A cap lo hi w1 (hk.below hb hh) (Nat.le_trans hh hb.size) (by omega)
  have C2 := fun w1 (hb : Below w.heap.size w w1) => specValid_any k n s kids A2 cap2 lo2 hi2 w1 (ht.below hb hh2) (Nat.le_trans hh2 hb.size) hf (by omega)
  have C3 := fun w1 (hb : Below w.heap.size w w1) => specChain_any f k n s kids A A2 cap cap2 w1 ((hk.below hb hh).more (Nat.zero_le _) (Nat.le_trans hh hb.size)) hf ((ht.below hb hh2).more (Nat.zero_le _) (Nat.le_trans hh2 hb.size)) (by omega)
  have hno := fun w' h hb => termRes_no (w := w) (w' := w') (f := f) (k := k) (n := n) (s := s) (kids := kids) h hb
  have HCN : Hid (f.len ≤ 120 → allV f = true → validT k n s kids = true → nodes (chain f (.cons k n s kids .nil)) ≤ 1048576) := Lib.hid fun h1 h2 h3 => by
    have hcn := nodes_chain f (.cons k n s kids .nil)
    simp only [nodes] at hcn
    have h4 := nodes_allV f h2
    have h5 := validT_nodes h3
    omega
  have hml : mlB f k n s kids = (decide (f.len ≤ 120) && (allV f && (validT k n s kids && validO (chain f (.cons k n s kids .nil))))) := rfl
  have hmf : mlB f k n s kids = true → mlF f k n s kids = chain f (.cons k n s kids .nil) := fun h => by unfold mlF; rw [if_pos h]
  generalize mlB f k n s kids = ok at *
  generalize mlF f k n s kids = G at *
  generalize chain f (.cons k n s kids .nil) = C at *
  have hb0 := two_alloc w (.cells #[.int .i64 k, .int .i64 n, .string s, .slice A2 kids.len cap2] 31) (.cells #[.int .i64 0, .int .i64 0, .string ⟨#[]⟩, .slice none 0 0] 31)
  have hq0 : Blk ((w.alloc (.cells #[.int .i64 k, .int .i64 n, .string s, .slice A2 kids.len cap2] 31)).alloc (.cells #[.int .i64 0, .int .i64 0, .string ⟨#[]⟩, .slice none 0 0] 31)) w.heap.size 31 #[.int .i64 k, .int .i64 n, .string s, .slice A2 kids.len cap2] := (Blk.new w _ _).alloc _
  have hq1 : Blk ((w.alloc (.cells #[.int .i64 k, .int .i64 n, .string s, .slice A2 kids.len cap2] 31)).alloc (.cells #[.int .i64 0, .int .i64 0, .string ⟨#[]⟩, .slice none 0 0] 31)) (w.heap.size + 1) 31 #[.int .i64 0, .int .i64 0, .string ⟨#[]⟩, .slice none 0 0] := by
    have h := Blk.new (w.alloc (.cells #[.int .i64 k, .int .i64 n, .string s, .slice A2 kids.len cap2] 31)) 31 #[.int .i64 0, .int .i64 0, .string ⟨#[]⟩, .slice none 0 0]
    simpa using h
  have H1 := Lib.hid C1
  have H2 := Lib.hid C2
  have H3 := Lib.hid C3
  have HNO := Lib.hid hno
  have HML := Lib.hid hml
  have HMF := Lib.hid hmf
  have HB0 := Lib.hid hb0
  have HQ0 := Lib.hid hq0
  have HQ1 := Lib.hid hq1
  clear C1 C2 C3 hno hml hmf hb0 hq0 hq1 hk ht hf hnd hnd2
  by_cases hgt : 120 < f.len
  · have hok : ok = false := by rw [HML.out, decide_eq_false (by omega)]; rfl
    have hgi : (120 : Int) < (f.len : Int) := by omega
    obtain ⟨d0, d1, d2, d3⟩ := cells4i HQ1.out
    obtain ⟨f0, f1, f2, f3⟩ := frozen4 HQ1.out
    have HOK := Lib.hid hok
    clear hok
    go_enter Tryd.func22, Tryd.ntmps22
    go_wp2_with fail
    refine bodyPost_ret (v := .tuple #[.agg #[.int .i64 0, .int .i64 0, .string ⟨#[]⟩, .slice none 0 0], .bool false]) ?_ rfl (HNO.out _ HOK.out HB0.out)
    exact results_cell_row2 Tryd.results22 _ _ (w.heap.size + 1) _ _ _ _ rfl HQ1.out Tryd.underlying31 rfl (by kernel_rfl)
  · have hgi : ¬ (120 : Int) < (f.len : Int) := by omega
    have hle : f.len ≤ 120 := by omega
    have sz0 : ((w.alloc (.cells #[.int .i64 k, .int .i64 n, .string s, .slice A2 kids.len cap2] 31)).alloc (.cells #[.int .i64 0, .int .i64 0, .string ⟨#[]⟩, .slice none 0 0] 31)).heap.size = w.heap.size + 1 + 1 := by simp
    have HSZ := Lib.hid sz0
    clear sz0 hgt
    go_enter Tryd.func22, Tryd.ntmps22
    go_wp2_with fail
    refine (H1.out _ HB0.out).mono ?_
    rintro e w2 ⟨rfl, hb⟩
    have hb2 : Below w.heap.size w w2 := HB0.out.trans (hb.mono HB0.out.size)
    have hq2 := HQ0.out.below hb HQ0.out.lt
    have hr2 := HQ1.out.below hb HQ1.out.lt
    have hs2 : w.heap.size + 1 + 1 ≤ w2.heap.size := by have h1 := hb.size; have h2 := HSZ.out; omega
    obtain ⟨a0, a1, a2, a3⟩ := cells4i hq2
    obtain ⟨d0, d1, d2, d3⟩ := cells4i hr2
    obtain ⟨f0, f1, f2, f3⟩ := frozen4 hr2
    have HB2 := Lib.hid hb2
    have HQ2 := Lib.hid hq2
    have HR2 := Lib.hid hr2
    clear hb hb2 hq2 hr2 HQ0 HQ1 HB0 H1 HSZ
    cases hav : allV f
    · have HOK : Hid (ok = false) := Lib.hid (by rw [HML.out, hav, Bool.false_and, Bool.and_false])
      clear hav
      go_wp2_with fail
      have e1 := ((((HR2.out).set_ 0 (.int .i64 0)).set_ 1 (.int .i64 0)).set_ 2 (.string ⟨#[]⟩)).set_ 3 (.slice none 0 0)
      refine bodyPost_ret (v := .tuple #[.agg #[.int .i64 0, .int .i64 0, .string ⟨#[]⟩, .slice none 0 0], .bool false]) ?_ rfl (HNO.out _ HOK.out ?_)
      · exact results_cell_row2 Tryd.results22 _ _ (w.heap.size + 1) _ _ _ _ rfl e1 Tryd.underlying31 rfl (by kernel_rfl)
      · exact ((((HB2.out).setCell (p := ⟨w.heap.size + 1, 0, none⟩) (by simp) _).setCell (p := ⟨w.heap.size + 1, 1, none⟩) (by simp) _).setCell (p := ⟨w.heap.size + 1, 2, none⟩) (by simp) _).setCell (p := ⟨w.heap.size + 1, 3, none⟩) (by simp) _
    · have HAV := Lib.hid hav
      clear hav
      go_wp2_with fail
      refine (H2.out _ HB2.out).mono ?_
      rintro e w3 ⟨rfl, hb⟩
      have hb3 : Below w.heap.size w w3 := HB2.out.trans (hb.mono HB2.out.size)
      have hq3 := HQ2.out.below hb HQ2.out.lt
      have hr3 := HR2.out.below hb HR2.out.lt
      have hs3 := hb.size
      obtain ⟨a0, a1, a2, a3⟩ := cells4i hq3
      obtain ⟨d0, d1, d2, d3⟩ := cells4i hr3
      obtain ⟨f0, f1, f2, f3⟩ := frozen4 hr3
      have HB3 := Lib.hid hb3
      have HR3 := Lib.hid hr3
      clear hb hb3 hq3 hr3 HQ2 HR2 HB2 H2
      cases hvt : validT k n s kids
      · have HOK : Hid (ok = false) := Lib.hid (by rw [HML.out, hvt, Bool.false_and, Bool.and_false, Bool.and_false])
        clear hvt
        go_wp2_with fail
        have e1 := ((((HR3.out).set_ 0 (.int .i64 0)).set_ 1 (.int .i64 0)).set_ 2 (.string ⟨#[]⟩)).set_ 3 (.slice none 0 0)
        refine bodyPost_ret (v := .tuple #[.agg #[.int .i64 0, .int .i64 0, .string ⟨#[]⟩, .slice none 0 0], .bool false]) ?_ rfl (HNO.out _ HOK.out ?_)
        · exact results_cell_row2 Tryd.results22 _ _ (w.heap.size + 1) _ _ _ _ rfl e1 Tryd.underlying31 rfl (by kernel_rfl)
        · exact ((((HB3.out).setCell (p := ⟨w.heap.size + 1, 0, none⟩) (by simp) _).setCell (p := ⟨w.heap.size + 1, 1, none⟩) (by simp) _).setCell (p := ⟨w.heap.size + 1, 2, none⟩) (by simp) _).setCell (p := ⟨w.heap.size + 1, 3, none⟩) (by simp) _
      · have HCN2 : Hid (nodes C ≤ 1048576) := Lib.hid (HCN.out hle HAV.out hvt)
        have HOV : Hid (ok = validO C) := Lib.hid (by rw [HML.out, hvt, HAV.out, decide_eq_true hle]; simp)
        clear hvt HCN HML HAV
        go_wp2_with fail
        refine (H3.out _ HB3.out).mono ?_
        rintro e w4 ⟨ck, cn, cs, ckids, Ac, capc, hC, rfl, hfc, hkc, hb⟩
        have hCN := HCN2.out
        rw [hC] at hCN
        simp only [nodes] at hCN
        have C4 := cpT_any cs ckids ck cn Ac capc 0 w4.heap.size w4 hkc (Nat.le_refl _) hfc (by omega)
        have C5 := fun w1 A1 cap1 lo hi (hk : KidsAt w1 lo hi ckids A1 cap1) hh => specValid_any ck cn cs ckids A1 cap1 lo hi w1 hk hh hfc (by omega)
        have hb4 : Below w.heap.size w w4 := HB3.out.trans (hb.mono HB3.out.size)
        have hr4 := HR3.out.below hb HR3.out.lt
        have hs4 := hb.size
        have hov : ok = validT ck cn cs ckids := by rw [HOV.out, hC]; rfl
        have H4 := Lib.hid C4
        have H5 := Lib.hid C5
        have HB4 := Lib.hid hb4
        have HR4 := Lib.hid hr4
        have HC := Lib.hid hC
        have HOV2 := Lib.hid hov
        clear C4 C5 hb hb4 hr4 hC hfc hkc hCN hov HB3 HR3 H3 HCN2 HOV d0 d1 d2 d3 f0 f1 f2 f3 a0 a1 a2 a3
        go_wp2_with fail
        refine H4.out.mono ?_
        rintro e w5 ⟨A5, cap5, rfl, hm⟩
        have hm5 := kids_of_made hm
        have hb5 : Below w.heap.size w w5 := HB4.out.trans (hm5.2.mono HB4.out.size)
        have hr5 := HR4.out.below hm5.2 HR4.out.lt
        have hs5 := hm5.2.size
        have hb6 : Below w5.heap.size w5 (w5.alloc (.cells #[.int .i64 ck, .int .i64 cn, .string cs, .slice A5 ckids.len cap5] 31)) := (Below.refl _ _).alloc (Nat.le_refl _) _
        have hbw6 := hb5.trans (hb6.mono hb5.size)
        have hr6 := hr5.below hb6 hr5.lt
        have hq6 := Blk.new w5 31 #[.int .i64 ck, .int .i64 cn, .string cs, .slice A5 ckids.len cap5]
        have hk6 := hm5.1.below hb6 (Nat.le_refl _)
        have hs6 : (w5.alloc (.cells #[.int .i64 ck, .int .i64 cn, .string cs, .slice A5 ckids.len cap5] 31)).heap.size = w5.heap.size + 1 := by simp
        have C6 := H5.out _ _ _ _ _ hk6 hb6.size
        have HM6 : Hid (∀ w7, Below (w5.alloc (.cells #[.int .i64 ck, .int .i64 cn, .string cs, .slice A5 ckids.len cap5] 31)).heap.size (w5.alloc (.cells #[.int .i64 ck, .int .i64 cn, .string cs, .slice A5 ckids.len cap5] 31)) w7 →
            Blk w7 (w.heap.size + 1) 31 #[.int .i64 0, .int .i64 0, .string ⟨#[]⟩, .slice none 0 0] ∧ Blk w7 w5.heap.size 31 #[.int .i64 ck, .int .i64 cn, .string cs, .slice A5 ckids.len cap5] ∧ Below w.heap.size w w7 ∧ ∃ L, OwnS w7 ckids A5 cap5 L ∧ L.Nodup ∧ (∀ x ∈ L, w4.heap.size ≤ x ∧ x < w7.heap.size)) := Lib.hid fun w7 hb7 => by
          obtain ⟨L, ho, hn, hL, _⟩ := hm
          have h57 : Below w5.heap.size w5 w7 := hb6.trans (hb7.mono hb6.size)
          exact ⟨hr6.below hb7 hr6.lt, hq6.below hb7 hq6.lt, hbw6.trans (hb7.mono hbw6.size), L, ho.below h57 fun x hx => (hL x hx).2, hn, fun x hx => ⟨(hL x hx).1, Nat.lt_of_lt_of_le (hL x hx).2 h57.size⟩⟩
        have H6 := Lib.hid C6
        clear C6 hm hm5 hb5 hr5 hb6 hbw6 hr6 hq6 hk6 H4 H5 HB4 HR4
        go_wp2_with fail
        refine H6.out.mono ?_
        rintro e w7 ⟨rfl, hb7⟩
        obtain ⟨hr7, hq7, hb8, hm7⟩ := HM6.out w7 hb7
        obtain ⟨x0, x1, x2, x3⟩ := cells4i hq7
        obtain ⟨d0, d1, d2, d3⟩ := cells4i hr7
        obtain ⟨f0, f1, f2, f3⟩ := frozen4 hr7
        have HR7 := Lib.hid hr7
        have HB7 := Lib.hid hb8
        have HM7 := Lib.hid hm7
        clear hb7 hr7 hq7 hb8 hm7 HM6 H6
        cases hvc : validT ck cn cs ckids
        · have HOK : Hid (ok = false) := Lib.hid (by rw [HOV2.out, hvc])
          clear hvc
          go_wp2_with fail
          have e1 := ((((HR7.out).set_ 0 (.int .i64 0)).set_ 1 (.int .i64 0)).set_ 2 (.string ⟨#[]⟩)).set_ 3 (.slice none 0 0)
          refine bodyPost_ret (v := .tuple #[.agg #[.int .i64 0, .int .i64 0, .string ⟨#[]⟩, .slice none 0 0], .bool false]) ?_ rfl (HNO.out _ HOK.out ?_)
          · exact results_cell_row2 Tryd.results22 _ _ (w.heap.size + 1) _ _ _ _ rfl e1 Tryd.underlying31 rfl (by kernel_rfl)
          · exact ((((HB7.out).setCell (p := ⟨w.heap.size + 1, 0, none⟩) (by simp) _).setCell (p := ⟨w.heap.size + 1, 1, none⟩) (by simp) _).setCell (p := ⟨w.heap.size + 1, 2, none⟩) (by simp) _).setCell (p := ⟨w.heap.size + 1, 3, none⟩) (by simp) _
        · have hok : ok = true := by rw [HOV2.out, hvc]
          have HG : Hid (G = .cons ck cn cs ckids .nil) := Lib.hid (by rw [HMF.out hok, HC.out])
          have HOK := Lib.hid hok
          clear hvc hok
          go_wp2_with fail
          have e1 := (((HR7.out.set_ 0 (.int .i64 ck)).set_ 1 (.int .i64 cn)).set_ 2 (.string cs)).set_ 3 (.slice A5 ckids.len cap5)
          have hm8 := made_set4 HM7.out HB7.out (H := w.heap.size + 1) (by omega) (by omega) (.int .i64 ck) (.int .i64 cn) (.string cs) (.slice A5 ckids.len cap5)
          refine bodyPost_ret (v := .tuple #[.agg #[.int .i64 ck, .int .i64 cn, .string cs, .slice A5 ckids.len cap5], .bool true]) ?_ rfl ?_
          · exact results_cell_row2 Tryd.results22 _ _ (w.heap.size + 1) _ _ _ _ rfl e1 Tryd.underlying31 rfl (by kernel_rfl)
          · rw [HOK.out]
            exact ⟨ck, cn, cs, ckids, A5, cap5, HG.out, rfl, hm8⟩
end Go.Proofs.YtppnmodemhoebaaDoor
