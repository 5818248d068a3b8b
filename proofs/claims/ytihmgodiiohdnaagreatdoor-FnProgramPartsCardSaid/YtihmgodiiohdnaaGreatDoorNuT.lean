/- spec.l1Number. No condition. -/
import Derived.Test.YtihmgodiiohdnaaGreatDoorProg
import Derived.Test.YtihmgodiiohdnaaGreatDoorNuS
import Derived.Test.YtihmgodiiohdnaaGreatDoorTb
namespace Go.Proofs.YtihmgodiiohdnaaGreatDoor.rdr
open Go.RowKit

theorem tw_low {p : UInt8 → Bool} (l : List UInt8) (k : Nat) (h : k < (l.takeWhile p).length) : ∃ c, l[k]? = some c ∧ p c = true := by
  induction l generalizing k with
  | nil => simp at h
  | cons x xs ih =>
    by_cases hx : p x = true
    · cases k with
      | zero => exact ⟨x, rfl, hx⟩
      | succ k =>
        have : k < (xs.takeWhile p).length := by simp [hx] at h ⊢; omega
        simpa using ih k this
    · simp [hx] at h
theorem tw_stop {p : UInt8 → Bool} (l : List UInt8) (c : UInt8) (h : l[(l.takeWhile p).length]? = some c) : p c = false := by
  induction l with
  | nil => simp at h
  | cons x xs ih =>
    by_cases hx : p x = true
    · have e : ((x :: xs).takeWhile p).length = (xs.takeWhile p).length + 1 := by simp [hx]
      rw [e] at h
      exact ih (by simpa using h)
    · have e : ((x :: xs).takeWhile p).length = 0 := by simp [hx]
      rw [e] at h
      simp at h
      subst h
      simpa using hx
theorem tw_at {p : UInt8 → Bool} (l : List UInt8) (i m : Nat) (h0 : i ≤ m) (h1 : m ≤ i + ((l.drop i).takeWhile p).length) : atB p l m = decide (m < i + ((l.drop i).takeWhile p).length) := by
  by_cases h : m < i + ((l.drop i).takeWhile p).length
  · obtain ⟨c, hc, hl⟩ := tw_low (p := p) (l.drop i) (m - i) (by omega)
    rw [List.getElem?_drop, show i + (m - i) = m by omega] at hc
    rw [atB_some hc, decide_eq_true h]
    exact hl
  · rw [decide_eq_false h]
    cases hc : l[m]? with
    | none => unfold atB; rw [hc]
    | some c =>
      rw [atB_some hc]
      exact tw_stop (p := p) (l.drop i) c (by rw [List.getElem?_drop, show i + ((l.drop i).takeWhile p).length = m by omega]; exact hc)

theorem dval_lt (l : List UInt8) (h : ∀ (k : Nat) (c : UInt8), l[k]? = some c → 48 ≤ c.toNat ∧ c.toNat ≤ 57) : ∀ k, k ≤ l.length → dval (l.take k) < 10 ^ k
  | 0, _ => by rw [List.take_zero]; decide
  | k + 1, hk => by
    have h1 := dval_lt l h k (by omega)
    have h2 : l[k]? = some l[k] := List.getElem?_eq_getElem (by omega)
    have h3 := h k _ h2
    rw [dval_take l k _ h2, Nat.pow_succ]
    omega
theorem dval_four (l : List UInt8) (h : ∀ (k : Nat) (c : UInt8), l[k]? = some c → 48 ≤ c.toNat ∧ c.toNat ≤ 57) (h4 : l.length ≤ 4) : dval l ≤ 9999 := by
  have h1 := dval_lt l h l.length (Nat.le_refl _)
  rw [List.take_length] at h1
  have h2 : 10 ^ l.length ≤ 10 ^ 4 := Nat.pow_le_pow_right (by omega) h4
  omega

/-- The sign, where the digits begin, how many are read, and the digits. -/
def nuG (l : List UInt8) (i : Nat) : Bool := atB (sgC 45) l i
def nuF (l : List UInt8) (i : Nat) : Nat := if nuG l i = true then i + 1 else i
def nuL (l : List UInt8) (j : Nat) : Nat := ((l.drop j).takeWhile dgC).length
def nuD (l : List UInt8) (j : Nat) : Nat := min 4 (nuL l j)
def nuB (l : List UInt8) (j : Nat) : List UInt8 := (l.drop j).take (nuD l j)
def nuK (g : Bool) (b : List UInt8) : Bool := okN b && (!(g && decide (dval b = 0)) && decide (dval b ≤ 999))
def nuV (g : Bool) (b : List UInt8) : Int := if g = true then -(dval b : Int) else dval b
def nuT (g : Bool) (b : List UInt8) : Value := if nuK g b = true then .agg #[.int .i64 2, .int .i64 (nuV g b), .string ⟨#[]⟩, .slice none 0 0] else .agg #[.int .i64 0, .int .i64 0, .string ⟨#[]⟩, .slice none 0 0]
def nuE (g : Bool) (b : List UInt8) (e : Nat) : Int := if nuK g b = true then e else -1
theorem nset4 {w : World} {g : Nat} {t : TypeId} {x0 x1 x2 x3 : Value} (h : Blk w g t #[x0, x1, x2, x3]) (a b c d : Value) : Blk ((((w.setCell ⟨g, 0, none⟩ a).setCell ⟨g, 1, none⟩ b).setCell ⟨g, 2, none⟩ c).setCell ⟨g, 3, none⟩ d) g t #[a, b, c, d] := (((h.set_ 0 a).set_ 1 b).set_ 2 c).set_ 3 d
theorem nuB_digit (l : List UInt8) (j k : Nat) (c : UInt8) (h : (nuB l j)[k]? = some c) : 48 ≤ c.toNat ∧ c.toNat ≤ 57 := by
  have hk : k < nuD l j := by
    rcases Nat.lt_or_ge k (nuD l j) with h1 | h1
    · exact h1
    · unfold nuB at h
      rw [List.getElem?_eq_none (by rw [List.length_take]; omega)] at h
      cases h
  unfold nuB at h
  rw [List.getElem?_take_of_lt hk] at h
  obtain ⟨d, hd, hp⟩ := tw_low (p := dgC) (l.drop j) k (by unfold nuD nuL at hk; omega)
  rw [h] at hd
  injection hd with hd
  subst hd
  unfold dgC at hp
  simpa using hp

set_option maxRecDepth 100000 in
/-- spec.l1Int. -/
theorem int2_any (n : Int) (w : World) : Calls Tryz.prog 58 #[.int .i64 n] w fun e w' => e = .returned (.agg #[.int .i64 2, .int .i64 n, .string ⟨#[]⟩, .slice none 0 0]) ∧ Below w.heap.size w w' := by
  have hq := Blk.new w 30 #[.int .i64 2, .int .i64 n, .string ⟨#[]⟩, .slice none 0 0]
  have HB : ∀ o, Hid (Below w.heap.size w (w.alloc o)) := fun o => Lib.hid ((Below.refl _ _).alloc (Nat.le_refl _) _)
  have HQ := Lib.hid hq
  clear hq
  go_enter Tryz.func58, Tryz.ntmps58
  go_wp2_with fail
  refine bodyPost_ret (v := .agg #[.int .i64 2, .int .i64 n, .string ⟨#[]⟩, .slice none 0 0]) ?_ rfl ⟨rfl, (HB _).out⟩
  exact results_cell_row Tryz.results58 _ _ w.heap.size _ _ _ _ rfl HQ.out Tryz.underlying30 rfl (by kernel_rfl)

set_option maxRecDepth 100000 in
set_option maxHeartbeats 4000000 in
theorem number_any (s : ByteArray) (i : Nat) (w : World) (hs : s.size ≤ 1000000) (hi : i ≤ s.size) :
    Calls Tryz.prog 93 #[.string s, .int .i64 i] w fun e w' => e = .returned (.tuple #[nuT (nuG s.data.toList i) (nuB s.data.toList (nuF s.data.toList i)), .int .i64 (nuE (nuG s.data.toList i) (nuB s.data.toList (nuF s.data.toList i)) (nuF s.data.toList i + nuD s.data.toList (nuF s.data.toList i)))]) ∧ Below w.heap.size w w' := by
  have hb0 : Below w.heap.size w (w.alloc (.cells #[.int .i64 0, .int .i64 0, .string ⟨#[]⟩, .slice none 0 0] 30)) := (Below.refl _ _).alloc (Nat.le_refl _) _
  have hq0 := Blk.new w 30 #[.int .i64 0, .int .i64 0, .string ⟨#[]⟩, .slice none 0 0]
  have hsg := fun w1 => sign_any s i 45 w1 (by unfold maxLen; omega) (by unfold maxLen; omega)
  have hdg := fun m w1 (h : m ≤ s.size + 1) => digit_any s m w1 (by unfold maxLen; omega) (by unfold maxLen; omega)
  have hlen : ∀ j, nuL s.data.toList j ≤ s.size - j := fun j => by
    have h1 := (List.takeWhile_sublist dgC (l := s.data.toList.drop j)).length_le
    rw [List.length_drop] at h1
    exact h1
  have hF : nuF s.data.toList i = if nuG s.data.toList i = true then i + 1 else i := rfl
  have hG : nuG s.data.toList i = atB (sgC 45) s.data.toList i := rfl
  have hgi : nuG s.data.toList i = true → i < s.size := fun h => by
    rcases Nat.lt_or_ge i s.size with h1 | h1
    · exact h1
    · unfold nuG at h
      rw [atB_none (by exact h1)] at h
      cases h
  rw [← hG] at hsg
  have HB0 := Lib.hid hb0
  have HQ0 := Lib.hid hq0
  have HSG := Lib.hid hsg
  have HDG := Lib.hid hdg
  have HLEN := Lib.hid hlen
  have HF := Lib.hid hF
  have HGI := Lib.hid hgi
  clear hb0 hq0 hsg hdg hlen hF hG hgi
  generalize nuG s.data.toList i = g at *
  cases g
  · have hf : nuF s.data.toList i = i := by rw [HF.out]; rfl
    rw [hf]
    have hLn := HLEN.out i
    have htw : ∀ m, i ≤ m → m ≤ i + nuL s.data.toList i → atB dgC s.data.toList m = decide (m < i + nuL s.data.toList i) := tw_at (p := dgC) s.data.toList i
    have hD : nuD s.data.toList i = min 4 (nuL s.data.toList i) := rfl
    have hX : ∀ m, (s.extract i m).data.toList = (s.data.toList.drop i).take (m - i) := ext_list s i
    have hBB : nuB s.data.toList i = (s.data.toList.drop i).take (nuD s.data.toList i) := rfl
    have hdig := nuB_digit s.data.toList i
    have HTW := Lib.hid htw
    have HX := Lib.hid hX
    have HBB := Lib.hid hBB
    have HDIG := Lib.hid hdig
    clear hf htw hX hBB hdig HF HGI HLEN
    generalize nuB s.data.toList i = B at *
    generalize nuD s.data.toList i = d at *
    generalize nuL s.data.toList i = n at *
    have hd4 : d ≤ 4 := by omega
    have hdn : d ≤ n := by omega
    have hdm : d = 4 ∨ d = n := by omega
    clear hD
    go_enter Tryz.func93, Tryz.ntmps93
    go_wp2_with fail
    refine (HSG.out _).mono ?_
    rintro e w2 ⟨rfl, hw⟩
    subst hw
    go_wp2_with fail
    generalize hw1 : w.alloc (.cells #[.int .i64 0, .int .i64 0, .string ⟨#[]⟩, .slice none 0 0] 30) = w1 at *
    clear hw1 HSG
    go_loopw [6] (fun e wr => ∃ (m : Nat), i ≤ m ∧ m ≤ i + d ∧ e = .int .i64 m ∧ wr = w1) (fun e _ => 1000010 - (intOf e).toNat)
    case atStart => exact ⟨i, Nat.le_refl _, by omega, by go_num, by trivial⟩
    case round =>
      obtain ⟨m, h0, h1, rfl, hwr⟩ := hrel
      subst hwr
      have C1 := HDG.out m wr (by omega)
      rw [HTW.out m h0 (by omega)] at C1
      by_cases hc : m < i + n
      · rw [decide_eq_true hc] at C1
        have H1 := Lib.hid C1
        clear C1
        by_cases h4 : m < i + 4
        · have t4 : (m : Int) < (i : Int) + 4 := by omega
          have hm9 : m + 1 ≤ i + d := by omega
          go_wp2_with fail
          refine H1.out.mono ?_
          rintro e w2 ⟨rfl, hw⟩
          subst hw
          go_wp2_with fail
          go_roundw
          case rel => exact ⟨m + 1, by omega, hm9, by go_num, by trivial⟩
          case measure => simp [intOf]; omega
        · have t4 : ¬ ((m : Int) < (i : Int) + 4) := by omega
          have hmd : m = i + d := by omega
          have hms : m ≤ s.size := by omega
          have hes : (s.extract i m).data.toList = B := by rw [HX.out m, hmd, Nat.add_sub_cancel_left, HBB.out]
          have hbl : B.length ≤ 4 := by rw [HBB.out, List.length_take]; omega
          have CN := num18_any (s.extract i m) wr (by have h1 : (s.extract i m).data.toList.length = (s.extract i m).size := rfl; rw [← h1, hes]; exact hbl) (fun k hk => HDIG.out k _ (by rw [← hes]; exact Lib.data_getElem? _ k hk))
          rw [hes] at CN
          have l0 : (0 : Int) ≤ (i : Int) := by omega
          have l1 : (i : Int) ≤ (m : Int) := by omega
          have l2 : (m : Int) ≤ (s.size : Int) := by omega
          have HMD := Lib.hid hmd
          have HCN := Lib.hid CN
          clear hmd hes CN h0 h1
          go_wp2_with fail
          refine H1.out.mono ?_
          rintro e w2 ⟨rfl, hw⟩
          subst hw
          go_wp2_with fail
          refine HCN.out.mono ?_
          rintro e w3 ⟨rfl, hb3⟩
          have hq3 := HQ0.out.below hb3 HQ0.out.lt
          have HB3 := Lib.hid (HB0.out.trans (hb3.mono HB0.out.size))
          have HQ3 := Lib.hid hq3
          have a0 := hq3.cell 0
          have a1 := hq3.cell 1
          have a2 := hq3.cell 2
          have a3 := hq3.cell 3
          have f0 := hq3.frozen 0
          have f1 := hq3.frozen 1
          have f2 := hq3.frozen 2
          have f3 := hq3.frozen 3
          simp only [List.getElem?_toArray, List.getElem?_cons_zero, List.getElem?_cons_succ] at a0 a1 a2 a3
          clear hq3 hb3 H1 HCN
          cases hok : okN B
          · have hkf : nuK false B = false := by unfold nuK; rw [hok]; rfl
            clear hok
            have HT : Hid (nuT false B = .agg #[.int .i64 0, .int .i64 0, .string ⟨#[]⟩, .slice none 0 0] ∧ nuE false B (i + d) = -1) := Lib.hid ⟨by unfold nuT; rw [hkf]; rfl, by unfold nuE; rw [hkf]; rfl⟩
            clear hkf
            go_wp2_with fail
            refine bodyPost_ret (v := .tuple #[.agg #[.int .i64 0, .int .i64 0, .string ⟨#[]⟩, .slice none 0 0], .int .i64 (-1)]) ?_ rfl ⟨by rw [HT.out.1, HT.out.2], ?_⟩
            · exact results_cell_row2 Tryz.results93 _ _ w.heap.size _ _ _ _ rfl (nset4 HQ3.out _ _ _ _) Tryz.underlying30 rfl (by kernel_rfl)
            · exact (((HB3.out.setCell (Nat.le_refl _) _).setCell (Nat.le_refl _) _).setCell (Nat.le_refl _) _).setCell (Nat.le_refl _) _
          · have hn : n18 B = (dval B : Int) := by unfold n18; rw [if_pos hok]
            have hdb : dval B ≤ 9999 := dval_four B HDIG.out hbl
            rw [hn]
            clear hn
            by_cases h9 : dval B ≤ 999
            · have hkt : nuK false B = true := by unfold nuK; rw [hok, decide_eq_true h9]; rfl
              have q9 : ¬ ((dval B : Int) > 999) := by omega
              clear hok h9
              have HT : Hid (nuT false B = .agg #[.int .i64 2, .int .i64 ((dval B : Int)), .string ⟨#[]⟩, .slice none 0 0] ∧ nuE false B (i + d) = (m : Int)) := Lib.hid ⟨by unfold nuT nuV; rw [hkt]; rfl, by unfold nuE; rw [hkt, HMD.out]; rfl⟩
              clear hkt
              go_wp2_with fail
              refine (int2_any _ _).mono ?_
              rintro e w4 ⟨rfl, hb4⟩
              have hq4 := HQ3.out.below hb4 HQ3.out.lt
              have HB4 := Lib.hid (HB3.out.trans (hb4.mono HB3.out.size))
              have HQ4 := Lib.hid hq4
              clear a0 a1 a2 a3 f0 f1 f2 f3
              have a0 := hq4.cell 0
              have a1 := hq4.cell 1
              have a2 := hq4.cell 2
              have a3 := hq4.cell 3
              have f0 := hq4.frozen 0
              have f1 := hq4.frozen 1
              have f2 := hq4.frozen 2
              have f3 := hq4.frozen 3
              simp only [List.getElem?_toArray, List.getElem?_cons_zero, List.getElem?_cons_succ] at a0 a1 a2 a3
              clear hq4 hb4
              go_wp2_with fail
              refine bodyPost_ret (v := .tuple #[.agg #[.int .i64 2, .int .i64 ((dval B : Int)), .string ⟨#[]⟩, .slice none 0 0], .int .i64 m]) ?_ rfl ⟨by rw [HT.out.1, HT.out.2], ?_⟩
              · exact results_cell_row2 Tryz.results93 _ _ w.heap.size _ _ _ _ rfl (nset4 HQ4.out _ _ _ _) Tryz.underlying30 rfl (by kernel_rfl)
              · exact (((HB4.out.setCell (Nat.le_refl _) _).setCell (Nat.le_refl _) _).setCell (Nat.le_refl _) _).setCell (Nat.le_refl _) _
            · have hkf : nuK false B = false := by unfold nuK; rw [hok, decide_eq_false h9]; rfl
              have q9 : (dval B : Int) > 999 := by omega
              clear hok h9
              have HT : Hid (nuT false B = .agg #[.int .i64 0, .int .i64 0, .string ⟨#[]⟩, .slice none 0 0] ∧ nuE false B (i + d) = -1) := Lib.hid ⟨by unfold nuT; rw [hkf]; rfl, by unfold nuE; rw [hkf]; rfl⟩
              clear hkf
              go_wp2_with fail
              refine bodyPost_ret (v := .tuple #[.agg #[.int .i64 0, .int .i64 0, .string ⟨#[]⟩, .slice none 0 0], .int .i64 (-1)]) ?_ rfl ⟨by rw [HT.out.1, HT.out.2], ?_⟩
              · exact results_cell_row2 Tryz.results93 _ _ w.heap.size _ _ _ _ rfl (nset4 HQ3.out _ _ _ _) Tryz.underlying30 rfl (by kernel_rfl)
              · exact (((HB3.out.setCell (Nat.le_refl _) _).setCell (Nat.le_refl _) _).setCell (Nat.le_refl _) _).setCell (Nat.le_refl _) _
      · rw [decide_eq_false hc] at C1
        have H1 := Lib.hid C1
        clear C1
        have hmd : m = i + d := by omega
        have hms : m ≤ s.size := by omega
        have hes : (s.extract i m).data.toList = B := by rw [HX.out m, hmd, Nat.add_sub_cancel_left, HBB.out]
        have hbl : B.length ≤ 4 := by rw [HBB.out, List.length_take]; omega
        have CN := num18_any (s.extract i m) wr (by have h1 : (s.extract i m).data.toList.length = (s.extract i m).size := rfl; rw [← h1, hes]; exact hbl) (fun k hk => HDIG.out k _ (by rw [← hes]; exact Lib.data_getElem? _ k hk))
        rw [hes] at CN
        have l0 : (0 : Int) ≤ (i : Int) := by omega
        have l1 : (i : Int) ≤ (m : Int) := by omega
        have l2 : (m : Int) ≤ (s.size : Int) := by omega
        have HMD := Lib.hid hmd
        have HCN := Lib.hid CN
        clear hmd hes CN h0 h1
        go_wp2_with fail
        refine H1.out.mono ?_
        rintro e w2 ⟨rfl, hw⟩
        subst hw
        go_wp2_with fail
        refine HCN.out.mono ?_
        rintro e w3 ⟨rfl, hb3⟩
        have hq3 := HQ0.out.below hb3 HQ0.out.lt
        have HB3 := Lib.hid (HB0.out.trans (hb3.mono HB0.out.size))
        have HQ3 := Lib.hid hq3
        have a0 := hq3.cell 0
        have a1 := hq3.cell 1
        have a2 := hq3.cell 2
        have a3 := hq3.cell 3
        have f0 := hq3.frozen 0
        have f1 := hq3.frozen 1
        have f2 := hq3.frozen 2
        have f3 := hq3.frozen 3
        simp only [List.getElem?_toArray, List.getElem?_cons_zero, List.getElem?_cons_succ] at a0 a1 a2 a3
        clear hq3 hb3 H1 HCN
        cases hok : okN B
        · have hkf : nuK false B = false := by unfold nuK; rw [hok]; rfl
          clear hok
          have HT : Hid (nuT false B = .agg #[.int .i64 0, .int .i64 0, .string ⟨#[]⟩, .slice none 0 0] ∧ nuE false B (i + d) = -1) := Lib.hid ⟨by unfold nuT; rw [hkf]; rfl, by unfold nuE; rw [hkf]; rfl⟩
          clear hkf
          go_wp2_with fail
          refine bodyPost_ret (v := .tuple #[.agg #[.int .i64 0, .int .i64 0, .string ⟨#[]⟩, .slice none 0 0], .int .i64 (-1)]) ?_ rfl ⟨by rw [HT.out.1, HT.out.2], ?_⟩
          · exact results_cell_row2 Tryz.results93 _ _ w.heap.size _ _ _ _ rfl (nset4 HQ3.out _ _ _ _) Tryz.underlying30 rfl (by kernel_rfl)
          · exact (((HB3.out.setCell (Nat.le_refl _) _).setCell (Nat.le_refl _) _).setCell (Nat.le_refl _) _).setCell (Nat.le_refl _) _
        · have hn : n18 B = (dval B : Int) := by unfold n18; rw [if_pos hok]
          have hdb : dval B ≤ 9999 := dval_four B HDIG.out hbl
          rw [hn]
          clear hn
          by_cases h9 : dval B ≤ 999
          · have hkt : nuK false B = true := by unfold nuK; rw [hok, decide_eq_true h9]; rfl
            have q9 : ¬ ((dval B : Int) > 999) := by omega
            clear hok h9
            have HT : Hid (nuT false B = .agg #[.int .i64 2, .int .i64 ((dval B : Int)), .string ⟨#[]⟩, .slice none 0 0] ∧ nuE false B (i + d) = (m : Int)) := Lib.hid ⟨by unfold nuT nuV; rw [hkt]; rfl, by unfold nuE; rw [hkt, HMD.out]; rfl⟩
            clear hkt
            go_wp2_with fail
            refine (int2_any _ _).mono ?_
            rintro e w4 ⟨rfl, hb4⟩
            have hq4 := HQ3.out.below hb4 HQ3.out.lt
            have HB4 := Lib.hid (HB3.out.trans (hb4.mono HB3.out.size))
            have HQ4 := Lib.hid hq4
            clear a0 a1 a2 a3 f0 f1 f2 f3
            have a0 := hq4.cell 0
            have a1 := hq4.cell 1
            have a2 := hq4.cell 2
            have a3 := hq4.cell 3
            have f0 := hq4.frozen 0
            have f1 := hq4.frozen 1
            have f2 := hq4.frozen 2
            have f3 := hq4.frozen 3
            simp only [List.getElem?_toArray, List.getElem?_cons_zero, List.getElem?_cons_succ] at a0 a1 a2 a3
            clear hq4 hb4
            go_wp2_with fail
            refine bodyPost_ret (v := .tuple #[.agg #[.int .i64 2, .int .i64 ((dval B : Int)), .string ⟨#[]⟩, .slice none 0 0], .int .i64 m]) ?_ rfl ⟨by rw [HT.out.1, HT.out.2], ?_⟩
            · exact results_cell_row2 Tryz.results93 _ _ w.heap.size _ _ _ _ rfl (nset4 HQ4.out _ _ _ _) Tryz.underlying30 rfl (by kernel_rfl)
            · exact (((HB4.out.setCell (Nat.le_refl _) _).setCell (Nat.le_refl _) _).setCell (Nat.le_refl _) _).setCell (Nat.le_refl _) _
          · have hkf : nuK false B = false := by unfold nuK; rw [hok, decide_eq_false h9]; rfl
            have q9 : (dval B : Int) > 999 := by omega
            clear hok h9
            have HT : Hid (nuT false B = .agg #[.int .i64 0, .int .i64 0, .string ⟨#[]⟩, .slice none 0 0] ∧ nuE false B (i + d) = -1) := Lib.hid ⟨by unfold nuT; rw [hkf]; rfl, by unfold nuE; rw [hkf]; rfl⟩
            clear hkf
            go_wp2_with fail
            refine bodyPost_ret (v := .tuple #[.agg #[.int .i64 0, .int .i64 0, .string ⟨#[]⟩, .slice none 0 0], .int .i64 (-1)]) ?_ rfl ⟨by rw [HT.out.1, HT.out.2], ?_⟩
            · exact results_cell_row2 Tryz.results93 _ _ w.heap.size _ _ _ _ rfl (nset4 HQ3.out _ _ _ _) Tryz.underlying30 rfl (by kernel_rfl)
            · exact (((HB3.out.setCell (Nat.le_refl _) _).setCell (Nat.le_refl _) _).setCell (Nat.le_refl _) _).setCell (Nat.le_refl _) _
  · have hf : nuF s.data.toList i = (i + 1) := by rw [HF.out]; rfl
    rw [hf]
    have hi9 := HGI.out rfl
    have hLn := HLEN.out (i + 1)
    have htw : ∀ m, (i + 1) ≤ m → m ≤ (i + 1) + nuL s.data.toList (i + 1) → atB dgC s.data.toList m = decide (m < (i + 1) + nuL s.data.toList (i + 1)) := tw_at (p := dgC) s.data.toList (i + 1)
    have hD : nuD s.data.toList (i + 1) = min 4 (nuL s.data.toList (i + 1)) := rfl
    have hX : ∀ m, (s.extract (i + 1) m).data.toList = (s.data.toList.drop (i + 1)).take (m - (i + 1)) := ext_list s (i + 1)
    have hBB : nuB s.data.toList (i + 1) = (s.data.toList.drop (i + 1)).take (nuD s.data.toList (i + 1)) := rfl
    have hdig := nuB_digit s.data.toList (i + 1)
    have HTW := Lib.hid htw
    have HX := Lib.hid hX
    have HBB := Lib.hid hBB
    have HDIG := Lib.hid hdig
    clear hf htw hX hBB hdig HF HGI HLEN
    generalize nuB s.data.toList (i + 1) = B at *
    generalize nuD s.data.toList (i + 1) = d at *
    generalize nuL s.data.toList (i + 1) = n at *
    have hd4 : d ≤ 4 := by omega
    have hdn : d ≤ n := by omega
    have hdm : d = 4 ∨ d = n := by omega
    clear hD
    go_enter Tryz.func93, Tryz.ntmps93
    go_wp2_with fail
    refine (HSG.out _).mono ?_
    rintro e w2 ⟨rfl, hw⟩
    subst hw
    go_wp2_with fail
    generalize hw1 : w.alloc (.cells #[.int .i64 0, .int .i64 0, .string ⟨#[]⟩, .slice none 0 0] 30) = w1 at *
    clear hw1 HSG
    go_loopw [6] (fun e wr => ∃ (m : Nat), (i + 1) ≤ m ∧ m ≤ (i + 1) + d ∧ e = .int .i64 m ∧ wr = w1) (fun e _ => 1000010 - (intOf e).toNat)
    case atStart => exact ⟨(i + 1), Nat.le_refl _, by omega, by go_num, by trivial⟩
    case round =>
      obtain ⟨m, h0, h1, rfl, hwr⟩ := hrel
      subst hwr
      have C1 := HDG.out m wr (by omega)
      rw [HTW.out m h0 (by omega)] at C1
      by_cases hc : m < (i + 1) + n
      · rw [decide_eq_true hc] at C1
        have H1 := Lib.hid C1
        clear C1
        by_cases h4 : m < (i + 1) + 4
        · have t4 : (m : Int) < ((i : Int) + 1) + 4 := by omega
          have hm9 : m + 1 ≤ (i + 1) + d := by omega
          go_wp2_with fail
          refine H1.out.mono ?_
          rintro e w2 ⟨rfl, hw⟩
          subst hw
          go_wp2_with fail
          go_roundw
          case rel => exact ⟨m + 1, by omega, hm9, by go_num, by trivial⟩
          case measure => simp [intOf]; omega
        · have t4 : ¬ ((m : Int) < ((i : Int) + 1) + 4) := by omega
          have hmd : m = (i + 1) + d := by omega
          have hms : m ≤ s.size := by omega
          have hes : (s.extract (i + 1) m).data.toList = B := by rw [HX.out m, hmd, Nat.add_sub_cancel_left, HBB.out]
          have hbl : B.length ≤ 4 := by rw [HBB.out, List.length_take]; omega
          have CN := num18_any (s.extract (i + 1) m) wr (by have h1 : (s.extract (i + 1) m).data.toList.length = (s.extract (i + 1) m).size := rfl; rw [← h1, hes]; exact hbl) (fun k hk => HDIG.out k _ (by rw [← hes]; exact Lib.data_getElem? _ k hk))
          rw [hes] at CN
          have l0 : (0 : Int) ≤ ((i : Int) + 1) := by omega
          have l1 : ((i : Int) + 1) ≤ (m : Int) := by omega
          have l2 : (m : Int) ≤ (s.size : Int) := by omega
          have HMD := Lib.hid hmd
          have HCN := Lib.hid CN
          clear hmd hes CN h0 h1
          go_wp2_with fail
          refine H1.out.mono ?_
          rintro e w2 ⟨rfl, hw⟩
          subst hw
          go_wp2_with fail
          refine HCN.out.mono ?_
          rintro e w3 ⟨rfl, hb3⟩
          have hq3 := HQ0.out.below hb3 HQ0.out.lt
          have HB3 := Lib.hid (HB0.out.trans (hb3.mono HB0.out.size))
          have HQ3 := Lib.hid hq3
          have a0 := hq3.cell 0
          have a1 := hq3.cell 1
          have a2 := hq3.cell 2
          have a3 := hq3.cell 3
          have f0 := hq3.frozen 0
          have f1 := hq3.frozen 1
          have f2 := hq3.frozen 2
          have f3 := hq3.frozen 3
          simp only [List.getElem?_toArray, List.getElem?_cons_zero, List.getElem?_cons_succ] at a0 a1 a2 a3
          clear hq3 hb3 H1 HCN
          cases hok : okN B
          · have hkf : nuK true B = false := by unfold nuK; rw [hok]; rfl
            clear hok
            have HT : Hid (nuT true B = .agg #[.int .i64 0, .int .i64 0, .string ⟨#[]⟩, .slice none 0 0] ∧ nuE true B ((i + 1) + d) = -1) := Lib.hid ⟨by unfold nuT; rw [hkf]; rfl, by unfold nuE; rw [hkf]; rfl⟩
            clear hkf
            go_wp2_with fail
            refine bodyPost_ret (v := .tuple #[.agg #[.int .i64 0, .int .i64 0, .string ⟨#[]⟩, .slice none 0 0], .int .i64 (-1)]) ?_ rfl ⟨by rw [HT.out.1, HT.out.2], ?_⟩
            · exact results_cell_row2 Tryz.results93 _ _ w.heap.size _ _ _ _ rfl (nset4 HQ3.out _ _ _ _) Tryz.underlying30 rfl (by kernel_rfl)
            · exact (((HB3.out.setCell (Nat.le_refl _) _).setCell (Nat.le_refl _) _).setCell (Nat.le_refl _) _).setCell (Nat.le_refl _) _
          · have hn : n18 B = (dval B : Int) := by unfold n18; rw [if_pos hok]
            have hdb : dval B ≤ 9999 := dval_four B HDIG.out hbl
            rw [hn]
            clear hn
            by_cases hz : dval B = 0
            · have hkf : nuK true B = false := by unfold nuK; rw [hok, decide_eq_true hz]; rfl
              have q0 : ((dval B : Int) == 0) = true := by rw [beq_iff_eq]; omega
              clear hok hz
              have HT : Hid (nuT true B = .agg #[.int .i64 0, .int .i64 0, .string ⟨#[]⟩, .slice none 0 0] ∧ nuE true B ((i + 1) + d) = -1) := Lib.hid ⟨by unfold nuT; rw [hkf]; rfl, by unfold nuE; rw [hkf]; rfl⟩
              clear hkf
              go_wp2_with fail
              refine bodyPost_ret (v := .tuple #[.agg #[.int .i64 0, .int .i64 0, .string ⟨#[]⟩, .slice none 0 0], .int .i64 (-1)]) ?_ rfl ⟨by rw [HT.out.1, HT.out.2], ?_⟩
              · exact results_cell_row2 Tryz.results93 _ _ w.heap.size _ _ _ _ rfl (nset4 HQ3.out _ _ _ _) Tryz.underlying30 rfl (by kernel_rfl)
              · exact (((HB3.out.setCell (Nat.le_refl _) _).setCell (Nat.le_refl _) _).setCell (Nat.le_refl _) _).setCell (Nat.le_refl _) _
            · have q0 : ((dval B : Int) == 0) = false := by rw [beq_eq_false_iff_ne]; omega
              by_cases h9 : dval B ≤ 999
              · have hkt : nuK true B = true := by unfold nuK; rw [hok, decide_eq_false hz, decide_eq_true h9]; rfl
                have q9 : ¬ ((dval B : Int) > 999) := by omega
                clear hok hz h9
                have HT : Hid (nuT true B = .agg #[.int .i64 2, .int .i64 (-(dval B : Int)), .string ⟨#[]⟩, .slice none 0 0] ∧ nuE true B ((i + 1) + d) = (m : Int)) := Lib.hid ⟨by unfold nuT nuV; rw [hkt]; rfl, by unfold nuE; rw [hkt, HMD.out]; rfl⟩
                clear hkt
                have twn : IntKind.i64.wrap (-(dval B : Int)) = -(dval B : Int) := IntWalk.i64_in _ (by omega)
                go_wp2_with fail
                refine (int2_any _ _).mono ?_
                rintro e w4 ⟨rfl, hb4⟩
                have hq4 := HQ3.out.below hb4 HQ3.out.lt
                have HB4 := Lib.hid (HB3.out.trans (hb4.mono HB3.out.size))
                have HQ4 := Lib.hid hq4
                clear a0 a1 a2 a3 f0 f1 f2 f3
                have a0 := hq4.cell 0
                have a1 := hq4.cell 1
                have a2 := hq4.cell 2
                have a3 := hq4.cell 3
                have f0 := hq4.frozen 0
                have f1 := hq4.frozen 1
                have f2 := hq4.frozen 2
                have f3 := hq4.frozen 3
                simp only [List.getElem?_toArray, List.getElem?_cons_zero, List.getElem?_cons_succ] at a0 a1 a2 a3
                clear hq4 hb4
                go_wp2_with fail
                refine bodyPost_ret (v := .tuple #[.agg #[.int .i64 2, .int .i64 (-(dval B : Int)), .string ⟨#[]⟩, .slice none 0 0], .int .i64 m]) ?_ rfl ⟨by rw [HT.out.1, HT.out.2], ?_⟩
                · exact results_cell_row2 Tryz.results93 _ _ w.heap.size _ _ _ _ rfl (nset4 HQ4.out _ _ _ _) Tryz.underlying30 rfl (by kernel_rfl)
                · exact (((HB4.out.setCell (Nat.le_refl _) _).setCell (Nat.le_refl _) _).setCell (Nat.le_refl _) _).setCell (Nat.le_refl _) _
              · have hkf : nuK true B = false := by unfold nuK; rw [hok, decide_eq_false hz, decide_eq_false h9]; rfl
                have q9 : (dval B : Int) > 999 := by omega
                clear hok hz h9
                have HT : Hid (nuT true B = .agg #[.int .i64 0, .int .i64 0, .string ⟨#[]⟩, .slice none 0 0] ∧ nuE true B ((i + 1) + d) = -1) := Lib.hid ⟨by unfold nuT; rw [hkf]; rfl, by unfold nuE; rw [hkf]; rfl⟩
                clear hkf
                go_wp2_with fail
                refine bodyPost_ret (v := .tuple #[.agg #[.int .i64 0, .int .i64 0, .string ⟨#[]⟩, .slice none 0 0], .int .i64 (-1)]) ?_ rfl ⟨by rw [HT.out.1, HT.out.2], ?_⟩
                · exact results_cell_row2 Tryz.results93 _ _ w.heap.size _ _ _ _ rfl (nset4 HQ3.out _ _ _ _) Tryz.underlying30 rfl (by kernel_rfl)
                · exact (((HB3.out.setCell (Nat.le_refl _) _).setCell (Nat.le_refl _) _).setCell (Nat.le_refl _) _).setCell (Nat.le_refl _) _
      · rw [decide_eq_false hc] at C1
        have H1 := Lib.hid C1
        clear C1
        have hmd : m = (i + 1) + d := by omega
        have hms : m ≤ s.size := by omega
        have hes : (s.extract (i + 1) m).data.toList = B := by rw [HX.out m, hmd, Nat.add_sub_cancel_left, HBB.out]
        have hbl : B.length ≤ 4 := by rw [HBB.out, List.length_take]; omega
        have CN := num18_any (s.extract (i + 1) m) wr (by have h1 : (s.extract (i + 1) m).data.toList.length = (s.extract (i + 1) m).size := rfl; rw [← h1, hes]; exact hbl) (fun k hk => HDIG.out k _ (by rw [← hes]; exact Lib.data_getElem? _ k hk))
        rw [hes] at CN
        have l0 : (0 : Int) ≤ ((i : Int) + 1) := by omega
        have l1 : ((i : Int) + 1) ≤ (m : Int) := by omega
        have l2 : (m : Int) ≤ (s.size : Int) := by omega
        have HMD := Lib.hid hmd
        have HCN := Lib.hid CN
        clear hmd hes CN h0 h1
        go_wp2_with fail
        refine H1.out.mono ?_
        rintro e w2 ⟨rfl, hw⟩
        subst hw
        go_wp2_with fail
        refine HCN.out.mono ?_
        rintro e w3 ⟨rfl, hb3⟩
        have hq3 := HQ0.out.below hb3 HQ0.out.lt
        have HB3 := Lib.hid (HB0.out.trans (hb3.mono HB0.out.size))
        have HQ3 := Lib.hid hq3
        have a0 := hq3.cell 0
        have a1 := hq3.cell 1
        have a2 := hq3.cell 2
        have a3 := hq3.cell 3
        have f0 := hq3.frozen 0
        have f1 := hq3.frozen 1
        have f2 := hq3.frozen 2
        have f3 := hq3.frozen 3
        simp only [List.getElem?_toArray, List.getElem?_cons_zero, List.getElem?_cons_succ] at a0 a1 a2 a3
        clear hq3 hb3 H1 HCN
        cases hok : okN B
        · have hkf : nuK true B = false := by unfold nuK; rw [hok]; rfl
          clear hok
          have HT : Hid (nuT true B = .agg #[.int .i64 0, .int .i64 0, .string ⟨#[]⟩, .slice none 0 0] ∧ nuE true B ((i + 1) + d) = -1) := Lib.hid ⟨by unfold nuT; rw [hkf]; rfl, by unfold nuE; rw [hkf]; rfl⟩
          clear hkf
          go_wp2_with fail
          refine bodyPost_ret (v := .tuple #[.agg #[.int .i64 0, .int .i64 0, .string ⟨#[]⟩, .slice none 0 0], .int .i64 (-1)]) ?_ rfl ⟨by rw [HT.out.1, HT.out.2], ?_⟩
          · exact results_cell_row2 Tryz.results93 _ _ w.heap.size _ _ _ _ rfl (nset4 HQ3.out _ _ _ _) Tryz.underlying30 rfl (by kernel_rfl)
          · exact (((HB3.out.setCell (Nat.le_refl _) _).setCell (Nat.le_refl _) _).setCell (Nat.le_refl _) _).setCell (Nat.le_refl _) _
        · have hn : n18 B = (dval B : Int) := by unfold n18; rw [if_pos hok]
          have hdb : dval B ≤ 9999 := dval_four B HDIG.out hbl
          rw [hn]
          clear hn
          by_cases hz : dval B = 0
          · have hkf : nuK true B = false := by unfold nuK; rw [hok, decide_eq_true hz]; rfl
            have q0 : ((dval B : Int) == 0) = true := by rw [beq_iff_eq]; omega
            clear hok hz
            have HT : Hid (nuT true B = .agg #[.int .i64 0, .int .i64 0, .string ⟨#[]⟩, .slice none 0 0] ∧ nuE true B ((i + 1) + d) = -1) := Lib.hid ⟨by unfold nuT; rw [hkf]; rfl, by unfold nuE; rw [hkf]; rfl⟩
            clear hkf
            go_wp2_with fail
            refine bodyPost_ret (v := .tuple #[.agg #[.int .i64 0, .int .i64 0, .string ⟨#[]⟩, .slice none 0 0], .int .i64 (-1)]) ?_ rfl ⟨by rw [HT.out.1, HT.out.2], ?_⟩
            · exact results_cell_row2 Tryz.results93 _ _ w.heap.size _ _ _ _ rfl (nset4 HQ3.out _ _ _ _) Tryz.underlying30 rfl (by kernel_rfl)
            · exact (((HB3.out.setCell (Nat.le_refl _) _).setCell (Nat.le_refl _) _).setCell (Nat.le_refl _) _).setCell (Nat.le_refl _) _
          · have q0 : ((dval B : Int) == 0) = false := by rw [beq_eq_false_iff_ne]; omega
            by_cases h9 : dval B ≤ 999
            · have hkt : nuK true B = true := by unfold nuK; rw [hok, decide_eq_false hz, decide_eq_true h9]; rfl
              have q9 : ¬ ((dval B : Int) > 999) := by omega
              clear hok hz h9
              have HT : Hid (nuT true B = .agg #[.int .i64 2, .int .i64 (-(dval B : Int)), .string ⟨#[]⟩, .slice none 0 0] ∧ nuE true B ((i + 1) + d) = (m : Int)) := Lib.hid ⟨by unfold nuT nuV; rw [hkt]; rfl, by unfold nuE; rw [hkt, HMD.out]; rfl⟩
              clear hkt
              have twn : IntKind.i64.wrap (-(dval B : Int)) = -(dval B : Int) := IntWalk.i64_in _ (by omega)
              go_wp2_with fail
              refine (int2_any _ _).mono ?_
              rintro e w4 ⟨rfl, hb4⟩
              have hq4 := HQ3.out.below hb4 HQ3.out.lt
              have HB4 := Lib.hid (HB3.out.trans (hb4.mono HB3.out.size))
              have HQ4 := Lib.hid hq4
              clear a0 a1 a2 a3 f0 f1 f2 f3
              have a0 := hq4.cell 0
              have a1 := hq4.cell 1
              have a2 := hq4.cell 2
              have a3 := hq4.cell 3
              have f0 := hq4.frozen 0
              have f1 := hq4.frozen 1
              have f2 := hq4.frozen 2
              have f3 := hq4.frozen 3
              simp only [List.getElem?_toArray, List.getElem?_cons_zero, List.getElem?_cons_succ] at a0 a1 a2 a3
              clear hq4 hb4
              go_wp2_with fail
              refine bodyPost_ret (v := .tuple #[.agg #[.int .i64 2, .int .i64 (-(dval B : Int)), .string ⟨#[]⟩, .slice none 0 0], .int .i64 m]) ?_ rfl ⟨by rw [HT.out.1, HT.out.2], ?_⟩
              · exact results_cell_row2 Tryz.results93 _ _ w.heap.size _ _ _ _ rfl (nset4 HQ4.out _ _ _ _) Tryz.underlying30 rfl (by kernel_rfl)
              · exact (((HB4.out.setCell (Nat.le_refl _) _).setCell (Nat.le_refl _) _).setCell (Nat.le_refl _) _).setCell (Nat.le_refl _) _
            · have hkf : nuK true B = false := by unfold nuK; rw [hok, decide_eq_false hz, decide_eq_false h9]; rfl
              have q9 : (dval B : Int) > 999 := by omega
              clear hok hz h9
              have HT : Hid (nuT true B = .agg #[.int .i64 0, .int .i64 0, .string ⟨#[]⟩, .slice none 0 0] ∧ nuE true B ((i + 1) + d) = -1) := Lib.hid ⟨by unfold nuT; rw [hkf]; rfl, by unfold nuE; rw [hkf]; rfl⟩
              clear hkf
              go_wp2_with fail
              refine bodyPost_ret (v := .tuple #[.agg #[.int .i64 0, .int .i64 0, .string ⟨#[]⟩, .slice none 0 0], .int .i64 (-1)]) ?_ rfl ⟨by rw [HT.out.1, HT.out.2], ?_⟩
              · exact results_cell_row2 Tryz.results93 _ _ w.heap.size _ _ _ _ rfl (nset4 HQ3.out _ _ _ _) Tryz.underlying30 rfl (by kernel_rfl)
              · exact (((HB3.out.setCell (Nat.le_refl _) _).setCell (Nat.le_refl _) _).setCell (Nat.le_refl _) _).setCell (Nat.le_refl _) _
end Go.Proofs.YtihmgodiiohdnaaGreatDoor.rdr
