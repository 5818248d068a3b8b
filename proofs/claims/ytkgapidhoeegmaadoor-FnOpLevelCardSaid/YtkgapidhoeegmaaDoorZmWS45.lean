/- The model's texts with operators, first part: spec.l2Infix, l2Sole, l2Spaced, l2Plain, l2Bracket, l2Left, l2Right. Condition: the term lies in memory and is well-formed. -/
import Derived.Test.YtkgapidhoeegmaaDoorProg
import Derived.Test.YtkgapidhoeegmaaDoorZmWS44
import Derived.Test.YtkgapidhoeegmaaDoorMk
import Derived.Test.YtkgapidhoeegmaaDoorSpecL
import Derived.Test.YtkgapidhoeegmaaDoorZmWS43
namespace Go.Proofs.YtkgapidhoeegmaaDoor.wr
open Go.RowKit

set_option maxHeartbeats 1000000 in
/-- spec.l2Infix. -/
theorem infix_any (k n : Int) (s : ByteArray) (A : Option Addr) (len cap : Nat) (w : World) :
    Calls Tryd.prog 40 #[.agg #[.int .i64 k, .int .i64 n, .string s, .slice A len cap]] w fun e w' => e = .returned (.bool (infB k s len)) ∧ Below w.heap.size w w' := by
  have hb0 : Below w.heap.size w (w.alloc (.cells #[.int .i64 k, .int .i64 n, .string s, .slice A len cap] 28)) := (Below.refl _ _).alloc (Nat.le_refl _) _
  have HB := Lib.hid hb0
  clear hb0
  by_cases h1 : k = 3
  · subst h1
    by_cases h2 : len = 2
    · subst h2
      have HV : Hid (infB 3 s 2 = decide (0 < op.level s.data.toList)) := Lib.hid rfl
      have C := fun w1 => op.l2_any s w1
      have H := Lib.hid C
      clear C
      generalize op.level s.data.toList = lv at *
      by_cases h3 : 0 < lv
      · have HW : Hid (infB 3 s 2 = true) := Lib.hid (by rw [HV.out, decide_eq_true h3])
        have d3 : decide ((0 : Int) < lv) = true := decide_eq_true h3
        clear HV
        go_enter Tryd.func40, Tryd.ntmps40
        go_wp2_with (first | (go_at_call 17; refine (H.out _).mono ?_; rintro e w' ⟨rfl, rfl⟩) | fail)
        go_ret
        rw [HW.out]; exact ⟨rfl, HB.out⟩
      · have HW : Hid (infB 3 s 2 = false) := Lib.hid (by rw [HV.out, decide_eq_false h3])
        have d3 : decide ((0 : Int) < lv) = false := decide_eq_false h3
        clear HV
        go_enter Tryd.func40, Tryd.ntmps40
        go_wp2_with (first | (go_at_call 17; refine (H.out _).mono ?_; rintro e w' ⟨rfl, rfl⟩) | fail)
        go_ret
        rw [HW.out]; exact ⟨rfl, HB.out⟩
    · have HV : Hid (infB 3 s len = false) := Lib.hid (by simp [infB, h2])
      have t2 : ((len : Int) == 2) = false := by rw [beq_eq_false_iff_ne]; omega
      clear h2
      go_enter Tryd.func40, Tryd.ntmps40
      go_wp2_with fail
      go_ret
      rw [HV.out]; exact ⟨rfl, HB.out⟩
  · have HV : Hid (infB k s len = false) := Lib.hid (by simp [infB, h1])
    have t1 : (k == 3) = false := by rw [beq_eq_false_iff_ne]; exact h1
    clear h1
    go_enter Tryd.func40, Tryd.ntmps40
    go_wp2_with fail
    go_ret
    rw [HV.out]; exact ⟨rfl, HB.out⟩
set_option maxHeartbeats 1000000 in
/-- spec.l2Sole. -/
theorem sole_any (k n : Int) (s : ByteArray) (A : Option Addr) (len cap : Nat) (w : World) :
    Calls Tryd.prog 58 #[.agg #[.int .i64 k, .int .i64 n, .string s, .slice A len cap]] w fun e w' => e = .returned (.bool (soleB k s len)) ∧ Below w.heap.size w w' := by
  have hb0 : Below w.heap.size w (w.alloc (.cells #[.int .i64 k, .int .i64 n, .string s, .slice A len cap] 28)) := (Below.refl _ _).alloc (Nat.le_refl _) _
  have HB := Lib.hid hb0
  clear hb0
  by_cases h1 : k = 3
  · subst h1
    by_cases h2 : len = 0
    · subst h2
      have HV : Hid (soleB 3 s 0 = decide (0 < op.level s.data.toList)) := Lib.hid rfl
      have C := fun w1 => op.l2_any s w1
      have H := Lib.hid C
      clear C
      generalize op.level s.data.toList = lv at *
      by_cases h3 : 0 < lv
      · have HW : Hid (soleB 3 s 0 = true) := Lib.hid (by rw [HV.out, decide_eq_true h3])
        have d3 : decide ((0 : Int) < lv) = true := decide_eq_true h3
        clear HV
        go_enter Tryd.func58, Tryd.ntmps58
        go_wp2_with (first | (go_at_call 17; refine (H.out _).mono ?_; rintro e w' ⟨rfl, rfl⟩) | fail)
        go_ret
        rw [HW.out]; exact ⟨rfl, HB.out⟩
      · have HW : Hid (soleB 3 s 0 = false) := Lib.hid (by rw [HV.out, decide_eq_false h3])
        have d3 : decide ((0 : Int) < lv) = false := decide_eq_false h3
        clear HV
        go_enter Tryd.func58, Tryd.ntmps58
        go_wp2_with (first | (go_at_call 17; refine (H.out _).mono ?_; rintro e w' ⟨rfl, rfl⟩) | fail)
        go_ret
        rw [HW.out]; exact ⟨rfl, HB.out⟩
    · have HV : Hid (soleB 3 s len = false) := Lib.hid (by simp [soleB, h2])
      have t2 : ((len : Int) == 0) = false := by rw [beq_eq_false_iff_ne]; omega
      clear h2
      go_enter Tryd.func58, Tryd.ntmps58
      go_wp2_with fail
      go_ret
      rw [HV.out]; exact ⟨rfl, HB.out⟩
  · have HV : Hid (soleB k s len = false) := Lib.hid (by simp [soleB, h1])
    have t1 : (k == 3) = false := by rw [beq_eq_false_iff_ne]; exact h1
    clear h1
    go_enter Tryd.func58, Tryd.ntmps58
    go_wp2_with fail
    go_ret
    rw [HV.out]; exact ⟨rfl, HB.out⟩
set_option maxHeartbeats 1000000 in
/-- spec.l2Spaced. -/
theorem spaced_any (s : ByteArray) (w : World) (hs : s.size ≤ 6) :
    Calls Tryd.prog 42 #[.string s] w fun e w' => e = .returned (.string ⟨(spB s.data.toList).toArray⟩) ∧ w' = w := by
  by_cases h1 : s.data.toList = [105, 115]
  · obtain rfl := op.str_of h1
    go_enter Tryd.func42, Tryd.ntmps42
    go_wp2_with fail
    go_ret
    exact ⟨rfl, rfl⟩
  · by_cases h2 : s.data.toList = [109, 111, 100]
    · obtain rfl := op.str_of h2
      go_enter Tryd.func42, Tryd.ntmps42
      go_wp2_with fail
      go_ret
      exact ⟨rfl, rfl⟩
    · have HV : Hid (⟨(spB s.data.toList).toArray⟩ = s) := Lib.hid (by
        have e : spB s.data.toList = s.data.toList := by unfold spB; rw [if_neg (by rintro (h | h); exact h1 h; exact h2 h)]
        rw [e])
      have t1 : (s.toList == [105, 115]) = false := by rw [ByteArray.toList_eq, beq_eq_false_iff_ne]; exact h1
      have t2 : (s.toList == [109, 111, 100]) = false := by rw [ByteArray.toList_eq, beq_eq_false_iff_ne]; exact h2
      clear h1 h2
      go_enter Tryd.func42, Tryd.ntmps42
      go_wp2_with fail
      go_ret
      rw [HV.out]; exact ⟨rfl, rfl⟩
theorem plC_of (c : UInt8) : plC c = (smC c || (dgC c || ((decide (65 ≤ c.toNat) && decide (c.toNat ≤ 90)) || (((c.toNat : Int) == 91) || ((c.toNat : Int) == 40))))) := by
  have e1 : (c == 91) = ((c.toNat : Int) == 91) := by
    rw [Bool.eq_iff_iff, beq_iff_eq, beq_iff_eq]
    constructor
    · rintro rfl; rfl
    · intro h
      have : c.toNat = 91 := by omega
      exact UInt8.toNat_inj.1 this
  have e2 : (c == 40) = ((c.toNat : Int) == 40) := by
    rw [Bool.eq_iff_iff, beq_iff_eq, beq_iff_eq]
    constructor
    · rintro rfl; rfl
    · intro h
      have : c.toNat = 40 := by omega
      exact UInt8.toNat_inj.1 this
  unfold plC smC dgC
  rw [e1, e2]
  simp only [Bool.or_assoc]
set_option maxHeartbeats 2000000 in
/-- spec.l2Plain. -/
theorem plain_any (s : ByteArray) (w : World) (hs : s.size ≤ maxLen) (h0 : 0 < s.size) :
    Calls Tryd.prog 60 #[.string s] w fun e w' => e = .returned (.bool (plB s.data.toList)) ∧ w' = w := by
  have hat : s.data.toList[0]? = some s[0] := Lib.data_getElem? s 0 h0
  have hpl : plB s.data.toList = plC s[0] := by
    cases hc : s.data.toList with
    | nil => rw [hc] at hat; cases hat
    | cons c l => rw [hc] at hat; simp at hat; rw [← hat]; rfl
  rw [plC_of] at hpl
  have C1 := small_any s 0 w hs (Nat.zero_le _)
  have C2 := digit_any s 0 w hs (Nat.zero_le _)
  rw [atB_some hat] at C1 C2
  have HV := Lib.hid hpl
  clear hpl hat
  cases b1 : smC s[0]
  · rw [b1] at C1
    cases b2 : dgC s[0]
    · rw [b2] at C2
      have HV2 : Hid (plB s.data.toList = ((decide (65 ≤ s[0].toNat) && decide (s[0].toNat ≤ 90)) || (((s[0].toNat : Int) == 91) || ((s[0].toNat : Int) == 40)))) := Lib.hid (by rw [HV.out, b1, b2]; rfl)
      have H1 := Lib.hid C1
      have H2 := Lib.hid C2
      clear C1 C2 b1 b2 HV
      have hs' : s.size ≤ 9223372036854775807 := hs
      clear hs
      by_cases b3 : 65 ≤ s[0].toNat ∧ s[0].toNat ≤ 90
      · have HW : Hid (plB s.data.toList = true) := Lib.hid (by rw [HV2.out, decide_eq_true b3.1, decide_eq_true b3.2]; rfl)
        have d1 : (65 : Int) ≤ (s[0].toNat : Int) := by omega
        have d2 : (s[0].toNat : Int) ≤ 90 := by omega
        clear HV2 b3
        go_enter Tryd.func60, Tryd.ntmps60
        go_wp2_with (first
          | (go_at_call 72; refine H1.out.mono ?_; rintro e w' ⟨rfl, rfl⟩)
          | (go_at_call 73; refine H2.out.mono ?_; rintro e w' ⟨rfl, rfl⟩)
          | fail)
        go_ret
        rw [HW.out]; exact ⟨rfl, rfl⟩
      · have HV3 : Hid (plB s.data.toList = (((s[0].toNat : Int) == 91) || ((s[0].toNat : Int) == 40))) := Lib.hid (by
          have : (decide (65 ≤ s[0].toNat) && decide (s[0].toNat ≤ 90)) = false := by
            rw [← Bool.not_eq_true, Bool.and_eq_true, decide_eq_true_iff, decide_eq_true_iff]; exact b3
          rw [HV2.out, this]; rfl)
        have d1 : (s[0].toNat : Int) < 65 ∨ (65 : Int) ≤ (s[0].toNat : Int) ∧ decide ((s[0].toNat : Int) ≤ 90) = false := by simp; omega
        clear HV2 b3
        cases b4 : ((s[0].toNat : Int) == 91)
        · cases b5 : ((s[0].toNat : Int) == 40)
          · have HW : Hid (plB s.data.toList = false) := Lib.hid (by rw [HV3.out, b4, b5]; rfl)
            clear HV3
            rcases d1 with d1 | ⟨d1, d2⟩
            · go_enter Tryd.func60, Tryd.ntmps60
              go_wp2_with (first
                | (go_at_call 72; refine H1.out.mono ?_; rintro e w' ⟨rfl, rfl⟩)
                | (go_at_call 73; refine H2.out.mono ?_; rintro e w' ⟨rfl, rfl⟩)
                | fail)
              go_ret
              rw [HW.out]; exact ⟨rfl, rfl⟩
            · go_enter Tryd.func60, Tryd.ntmps60
              go_wp2_with (first
                | (go_at_call 72; refine H1.out.mono ?_; rintro e w' ⟨rfl, rfl⟩)
                | (go_at_call 73; refine H2.out.mono ?_; rintro e w' ⟨rfl, rfl⟩)
                | fail)
              go_ret
              rw [HW.out]; exact ⟨rfl, rfl⟩
          · have HW : Hid (plB s.data.toList = true) := Lib.hid (by rw [HV3.out, b4, b5]; rfl)
            clear HV3
            rcases d1 with d1 | ⟨d1, d2⟩
            · go_enter Tryd.func60, Tryd.ntmps60
              go_wp2_with (first
                | (go_at_call 72; refine H1.out.mono ?_; rintro e w' ⟨rfl, rfl⟩)
                | (go_at_call 73; refine H2.out.mono ?_; rintro e w' ⟨rfl, rfl⟩)
                | fail)
              go_ret
              rw [HW.out]; exact ⟨rfl, rfl⟩
            · go_enter Tryd.func60, Tryd.ntmps60
              go_wp2_with (first
                | (go_at_call 72; refine H1.out.mono ?_; rintro e w' ⟨rfl, rfl⟩)
                | (go_at_call 73; refine H2.out.mono ?_; rintro e w' ⟨rfl, rfl⟩)
                | fail)
              go_ret
              rw [HW.out]; exact ⟨rfl, rfl⟩
        · have HW : Hid (plB s.data.toList = true) := Lib.hid (by rw [HV3.out, b4]; rfl)
          clear HV3
          rcases d1 with d1 | ⟨d1, d2⟩
          · go_enter Tryd.func60, Tryd.ntmps60
            go_wp2_with (first
              | (go_at_call 72; refine H1.out.mono ?_; rintro e w' ⟨rfl, rfl⟩)
              | (go_at_call 73; refine H2.out.mono ?_; rintro e w' ⟨rfl, rfl⟩)
              | fail)
            go_ret
            rw [HW.out]; exact ⟨rfl, rfl⟩
          · go_enter Tryd.func60, Tryd.ntmps60
            go_wp2_with (first
              | (go_at_call 72; refine H1.out.mono ?_; rintro e w' ⟨rfl, rfl⟩)
              | (go_at_call 73; refine H2.out.mono ?_; rintro e w' ⟨rfl, rfl⟩)
              | fail)
            go_ret
            rw [HW.out]; exact ⟨rfl, rfl⟩
    · rw [b2] at C2
      have HW : Hid (plB s.data.toList = true) := Lib.hid (by rw [HV.out, b1, b2]; rfl)
      have H1 := Lib.hid C1
      have H2 := Lib.hid C2
      clear C1 C2 b1 b2 HV hs
      go_enter Tryd.func60, Tryd.ntmps60
      go_wp2_with (first
        | (go_at_call 72; refine H1.out.mono ?_; rintro e w' ⟨rfl, rfl⟩)
        | (go_at_call 73; refine H2.out.mono ?_; rintro e w' ⟨rfl, rfl⟩)
        | fail)
      go_ret
      rw [HW.out]; exact ⟨rfl, rfl⟩
  · rw [b1] at C1
    have HW : Hid (plB s.data.toList = true) := Lib.hid (by rw [HV.out, b1]; rfl)
    have H1 := Lib.hid C1
    clear C1 C2 b1 HV hs
    go_enter Tryd.func60, Tryd.ntmps60
    go_wp2_with (first
      | (go_at_call 72; refine H1.out.mono ?_; rintro e w' ⟨rfl, rfl⟩)
      | fail)
    go_ret
    rw [HW.out]; exact ⟨rfl, rfl⟩
end Go.Proofs.YtkgapidhoeegmaaDoor.wr

/- The model's texts with operators: spec.l2Bracket, l2Left, l2Right, given spec.l2Text's contract. Condition: the term lies in memory and is well-formed. -/
namespace Go.Proofs.YtkgapidhoeegmaaDoor.wr
open Go.RowKit

/-- spec.l2Text's contract at a name and arguments. -/
def TxC (s : ByteArray) (f : Fr) : Prop := ∀ (k n : Int) (A : Option Addr) (cap lo hi : Nat) (d : Int) (w : World), KidsAt w lo hi f A cap → hi ≤ w.heap.size → shapeT k n s f d = true → nodes f ≤ 1048576 →
  Calls Tryd.prog 25 #[.agg #[.int .i64 k, .int .i64 n, .string s, .slice A f.len cap]] w fun e w' => e = .returned (.string ⟨(txT k n s f).toArray⟩) ∧ Below w.heap.size w w'
def braT (k n : Int) (s : ByteArray) (f : Fr) (l : Int) : List UInt8 := if infB k s f.len = true ∧ l < op.level s.data.toList then braB (txT k n s f) else txT k n s f
theorem bra_str (T : List UInt8) : (.string ((⟨#[40]⟩ ++ ⟨T.toArray⟩) ++ ⟨#[41]⟩) : Value) = .string ⟨(braB T).toArray⟩ := by
  rw [show (⟨#[40]⟩ : ByteArray) = ⟨[40].toArray⟩ from rfl, show (⟨#[41]⟩ : ByteArray) = ⟨[41].toArray⟩ from rfl, ByteArray.mk_append_mk, ByteArray.mk_append_mk]
  rfl
set_option maxRecDepth 100000 in
set_option maxHeartbeats 2000000 in
/-- spec.l2Bracket. -/
theorem bracket_of (s : ByteArray) (f : Fr) (h : TxC s f) (k n l : Int) (A : Option Addr) (cap lo hi : Nat) (d : Int) (w : World) (hk : KidsAt w lo hi f A cap) (hh : hi ≤ w.heap.size) (hs : shapeT k n s f d = true) (hnd : nodes f ≤ 1048576) :
    Calls Tryd.prog 59 #[.agg #[.int .i64 k, .int .i64 n, .string s, .slice A f.len cap], .int .i64 l] w fun e w' => e = .returned (.string ⟨(braT k n s f l).toArray⟩) ∧ Below w.heap.size w w' := by
  have hb0 : Below w.heap.size w (w.alloc (.cells #[.int .i64 k, .int .i64 n, .string s, .slice A f.len cap] 28)) := (Below.refl _ _).alloc (Nat.le_refl _) _
  have hq0 := Blk.new w 28 #[.int .i64 k, .int .i64 n, .string s, .slice A f.len cap]
  obtain ⟨x0, x1, x2, x3⟩ := cells4i hq0
  have C1 := fun w1 => infix_any k n s A f.len cap w1
  have C2 := fun w1 => op.l2_any s w1
  have C3 := fun w1 (hb : Below w.heap.size w w1) => h k n A cap lo hi d w1 (hk.below hb hh) (Nat.le_trans hh hb.size) hs hnd
  have hl := (txT_shape hs).1
  have hl2 : (txT k n s f).length ≤ 67108864 := by omega
  have HV : Hid (braT k n s f l = if infB k s f.len = true ∧ l < op.level s.data.toList then braB (txT k n s f) else txT k n s f) := Lib.hid rfl
  have HQ := Lib.hid hq0
  have HB0 := Lib.hid hb0
  have H1 := Lib.hid C1
  have H2 := Lib.hid C2
  have H3 := Lib.hid C3
  have HE := Lib.hid (bra_str (txT k n s f))
  have hsz : w.heap.size < (w.alloc (.cells #[.int .i64 k, .int .i64 n, .string s, .slice A f.len cap] 28)).heap.size := by simp
  clear h C1 C2 C3 hk hs hnd hb0 hq0 hh hl
  generalize txT k n s f = T at *
  generalize braT k n s f l = R at *
  generalize op.level s.data.toList = lv at *
  generalize f.len = len at *
  have back : ∀ w2, Below (w.alloc (.cells #[.int .i64 k, .int .i64 n, .string s, .slice A len cap] 28)).heap.size (w.alloc (.cells #[.int .i64 k, .int .i64 n, .string s, .slice A len cap] 28)) w2 → Below w.heap.size w w2 ∧ Blk w2 w.heap.size 28 #[.int .i64 k, .int .i64 n, .string s, .slice A len cap] := fun w2 hb => ⟨HB0.out.trans (hb.mono HB0.out.size), HQ.out.below hb HQ.out.lt⟩
  have HBK := Lib.hid back
  clear back hsz
  cases hi1 : infB k s len
  · rw [hi1] at H1 HV
    have HW : Hid (R = T) := Lib.hid (by rw [HV.out, if_neg (by simp)])
    clear hi1 HV
    go_enter Tryd.func59, Tryd.ntmps59
    go_wp2_with fail
    refine (H1.out _).mono ?_
    rintro e w2 ⟨rfl, hb⟩
    obtain ⟨hbw, hq⟩ := HBK.out w2 hb
    clear x0 x1 x2 x3 hb
    obtain ⟨x0, x1, x2, x3⟩ := cells4i hq
    have HB2 := Lib.hid hbw
    clear hq hbw
    go_wp2_with fail
    refine (H3.out w2 HB2.out).mono ?_
    rintro e w3 ⟨rfl, hb⟩
    have HB3 := Lib.hid (HB2.out.trans (hb.mono HB2.out.size))
    clear hb
    go_wp2_with fail
    go_ret
    rw [HW.out]; exact ⟨rfl, HB3.out⟩
  · rw [hi1] at H1 HV
    clear hi1
    by_cases hlt : l < lv
    · have HW : Hid (R = braB T) := Lib.hid (by rw [HV.out, if_pos ⟨rfl, hlt⟩])
      have d1 : decide (l < lv) = true := decide_eq_true hlt
      clear HV
      go_enter Tryd.func59, Tryd.ntmps59
      go_wp2_with fail
      refine (H1.out _).mono ?_
      rintro e w2 ⟨rfl, hb⟩
      obtain ⟨hbw, hq⟩ := HBK.out w2 hb
      clear x0 x1 x2 x3 hb
      obtain ⟨x0, x1, x2, x3⟩ := cells4i hq
      have HB2 := Lib.hid hbw
      clear hq hbw
      go_wp2_with (first | (go_at_call 17; refine (H2.out _).mono ?_; rintro e w' ⟨rfl, rfl⟩) | fail)
      refine (H3.out _ HB2.out).mono ?_
      rintro e w3 ⟨rfl, hb⟩
      have HB3 := Lib.hid (HB2.out.trans (hb.mono HB2.out.size))
      clear hb
      go_wp2_with fail
      go_ret
      rw [HW.out]; exact ⟨congrArg Ending.returned HE.out, HB3.out⟩
    · have HW : Hid (R = T) := Lib.hid (by rw [HV.out, if_neg (fun h => hlt h.2)])
      have d1 : decide (l < lv) = false := decide_eq_false hlt
      clear HV
      go_enter Tryd.func59, Tryd.ntmps59
      go_wp2_with fail
      refine (H1.out _).mono ?_
      rintro e w2 ⟨rfl, hb⟩
      obtain ⟨hbw, hq⟩ := HBK.out w2 hb
      clear x0 x1 x2 x3 hb
      obtain ⟨x0, x1, x2, x3⟩ := cells4i hq
      have HB2 := Lib.hid hbw
      clear hq hbw
      go_wp2_with (first | (go_at_call 17; refine (H2.out _).mono ?_; rintro e w' ⟨rfl, rfl⟩) | fail)
      refine (H3.out _ HB2.out).mono ?_
      rintro e w3 ⟨rfl, hb⟩
      have HB3 := Lib.hid (HB2.out.trans (hb.mono HB2.out.size))
      clear hb
      go_wp2_with fail
      go_ret
      rw [HW.out]; exact ⟨rfl, HB3.out⟩
theorem lefT_of (k n : Int) (s : ByteArray) (f : Fr) (l : Int) (hl : 0 ≤ l ∧ l ≤ 3) : lefT k n s f l = if soleB k s f.len = true then braB (txT k n s f) else braT k n s f l := by
  unfold lefT braT olv
  cases h1 : infB k s f.len
  · cases h2 : soleB k s f.len
    · rw [if_neg (by simp; omega)]; simp
    · rw [if_pos (by simp; omega)]; simp
  · have h2 : soleB k s f.len = false := by
      obtain ⟨_, _, _, _, _, _, _, _, _, _, rfl⟩ := inf_kids h1
      simp [soleB, Fr.len]
    rw [h2]
    simp
theorem plB_bra (T : List UInt8) : plB (braB T) = true := rfl
theorem rigT_of (k n : Int) (s : ByteArray) (f : Fr) (l : Int) (hl : 0 ≤ l ∧ l ≤ 3) : rigT k n s f l = if soleB k s f.len = true ∨ plB (braT k n s f l) = false then braB (braT k n s f l) else braT k n s f l := by
  unfold rigT braT olv
  cases h1 : infB k s f.len
  · cases h2 : soleB k s f.len
    · simp only [Bool.false_eq_true, false_and, if_false, false_or]
      have : ¬ l < 0 := by omega
      simp only [this, false_or]
    · simp; omega
  · have h2 : soleB k s f.len = false := by
      obtain ⟨_, _, _, _, _, _, _, _, _, _, rfl⟩ := inf_kids h1
      simp [soleB, Fr.len]
    rw [h2]
    by_cases h3 : l < op.level s.data.toList
    · simp [h3, plB_bra]
    · simp [h3]
theorem braT_len (k n : Int) (s : ByteArray) (f : Fr) (l : Int) : (braT k n s f l).length ≤ (txT k n s f).length + 2 ∧ (0 < (txT k n s f).length → 0 < (braT k n s f l).length) := by
  unfold braT braB
  split
  · simp only [List.length_cons, List.length_append, List.length_nil]; omega
  · omega
set_option maxRecDepth 100000 in
set_option maxHeartbeats 2000000 in
/-- spec.l2Left. -/
theorem left_of (s : ByteArray) (f : Fr) (h : TxC s f) (k n l : Int) (hlv : 0 ≤ l ∧ l ≤ 3) (A : Option Addr) (cap lo hi : Nat) (d : Int) (w : World) (hk : KidsAt w lo hi f A cap) (hh : hi ≤ w.heap.size) (hs : shapeT k n s f d = true) (hnd : nodes f ≤ 1048576) :
    Calls Tryd.prog 41 #[.agg #[.int .i64 k, .int .i64 n, .string s, .slice A f.len cap], .int .i64 l] w fun e w' => e = .returned (.string ⟨(lefT k n s f l).toArray⟩) ∧ Below w.heap.size w w' := by
  have hb0 : Below w.heap.size w (w.alloc (.cells #[.int .i64 k, .int .i64 n, .string s, .slice A f.len cap] 28)) := (Below.refl _ _).alloc (Nat.le_refl _) _
  have hq0 := Blk.new w 28 #[.int .i64 k, .int .i64 n, .string s, .slice A f.len cap]
  obtain ⟨x0, x1, x2, x3⟩ := cells4i hq0
  have C1 := fun w1 => sole_any k n s A f.len cap w1
  have C2 := fun w1 (hb : Below w.heap.size w w1) => bracket_of s f h k n l A cap lo hi d w1 (hk.below hb hh) (Nat.le_trans hh hb.size) hs hnd
  have C3 := fun w1 (hb : Below w.heap.size w w1) => h k n A cap lo hi d w1 (hk.below hb hh) (Nat.le_trans hh hb.size) hs hnd
  have hl := (txT_shape hs).1
  have hl2 : (txT k n s f).length ≤ 67108864 := by omega
  have HV := Lib.hid (lefT_of k n s f l hlv)
  have HQ := Lib.hid hq0
  have HB0 := Lib.hid hb0
  have H1 := Lib.hid C1
  have H2 := Lib.hid C2
  have H3 := Lib.hid C3
  have HE := Lib.hid (bra_str (txT k n s f))
  clear h C1 C2 C3 hk hs hnd hb0 hq0 hh hl hlv
  generalize txT k n s f = T at *
  generalize braT k n s f l = T2 at *
  generalize lefT k n s f l = R at *
  generalize f.len = len at *
  have back : ∀ w2, Below (w.alloc (.cells #[.int .i64 k, .int .i64 n, .string s, .slice A len cap] 28)).heap.size (w.alloc (.cells #[.int .i64 k, .int .i64 n, .string s, .slice A len cap] 28)) w2 → Below w.heap.size w w2 ∧ Blk w2 w.heap.size 28 #[.int .i64 k, .int .i64 n, .string s, .slice A len cap] := fun w2 hb => ⟨HB0.out.trans (hb.mono HB0.out.size), HQ.out.below hb HQ.out.lt⟩
  have HBK := Lib.hid back
  clear back
  cases hi1 : soleB k s len
  · rw [hi1] at H1 HV
    have HW : Hid (R = T2) := Lib.hid (by rw [HV.out, if_neg (by simp)])
    clear hi1 HV
    go_enter Tryd.func41, Tryd.ntmps41
    go_wp2_with fail
    refine (H1.out _).mono ?_
    rintro e w2 ⟨rfl, hb⟩
    obtain ⟨hbw, hq⟩ := HBK.out w2 hb
    clear x0 x1 x2 x3 hb
    obtain ⟨x0, x1, x2, x3⟩ := cells4i hq
    have HB2 := Lib.hid hbw
    clear hq hbw
    go_wp2_with fail
    refine (H2.out w2 HB2.out).mono ?_
    rintro e w3 ⟨rfl, hb⟩
    have HB3 := Lib.hid (HB2.out.trans (hb.mono HB2.out.size))
    clear hb
    go_wp2_with fail
    go_ret
    rw [HW.out]; exact ⟨rfl, HB3.out⟩
  · rw [hi1] at H1 HV
    have HW : Hid (R = braB T) := Lib.hid (by rw [HV.out, if_pos rfl])
    clear hi1 HV
    go_enter Tryd.func41, Tryd.ntmps41
    go_wp2_with fail
    refine (H1.out _).mono ?_
    rintro e w2 ⟨rfl, hb⟩
    obtain ⟨hbw, hq⟩ := HBK.out w2 hb
    clear x0 x1 x2 x3 hb
    obtain ⟨x0, x1, x2, x3⟩ := cells4i hq
    have HB2 := Lib.hid hbw
    clear hq hbw
    go_wp2_with fail
    refine (H3.out w2 HB2.out).mono ?_
    rintro e w3 ⟨rfl, hb⟩
    have HB3 := Lib.hid (HB2.out.trans (hb.mono HB2.out.size))
    clear hb
    go_wp2_with fail
    go_ret
    rw [HW.out]; exact ⟨congrArg Ending.returned HE.out, HB3.out⟩
set_option maxRecDepth 100000 in
set_option maxHeartbeats 2000000 in
/-- spec.l2Right. -/
theorem right_of (s : ByteArray) (f : Fr) (h : TxC s f) (k n l : Int) (hlv : 0 ≤ l ∧ l ≤ 3) (hpos : 0 < (txT k n s f).length) (A : Option Addr) (cap lo hi : Nat) (d : Int) (w : World) (hk : KidsAt w lo hi f A cap) (hh : hi ≤ w.heap.size) (hs : shapeT k n s f d = true) (hnd : nodes f ≤ 1048576) :
    Calls Tryd.prog 43 #[.agg #[.int .i64 k, .int .i64 n, .string s, .slice A f.len cap], .int .i64 l] w fun e w' => e = .returned (.string ⟨(rigT k n s f l).toArray⟩) ∧ Below w.heap.size w w' := by
  have hb0 : Below w.heap.size w (w.alloc (.cells #[.int .i64 k, .int .i64 n, .string s, .slice A f.len cap] 28)) := (Below.refl _ _).alloc (Nat.le_refl _) _
  have hq0 := Blk.new w 28 #[.int .i64 k, .int .i64 n, .string s, .slice A f.len cap]
  obtain ⟨x0, x1, x2, x3⟩ := cells4i hq0
  have C1 := fun w1 => sole_any k n s A f.len cap w1
  have C2 := fun w1 (hb : Below w.heap.size w w1) => bracket_of s f h k n l A cap lo hi d w1 (hk.below hb hh) (Nat.le_trans hh hb.size) hs hnd
  have hl := (txT_shape hs).1
  have hl2 : (braT k n s f l).length ≤ 67108864 := by have := (braT_len k n s f l).1; omega
  have hl3 := (braT_len k n s f l).2 hpos
  have C3 := fun w1 => plain_any ⟨(braT k n s f l).toArray⟩ w1 (by show (braT k n s f l).length ≤ _; unfold maxLen; omega) hl3
  have HV := Lib.hid (rigT_of k n s f l hlv)
  have HQ := Lib.hid hq0
  have HB0 := Lib.hid hb0
  have H1 := Lib.hid C1
  have H2 := Lib.hid C2
  have H3 := Lib.hid C3
  have HE := Lib.hid (bra_str (braT k n s f l))
  clear h C1 C2 C3 hk hs hnd hb0 hq0 hh hl hlv hpos
  generalize txT k n s f = T at *
  generalize braT k n s f l = T2 at *
  generalize rigT k n s f l = R at *
  generalize f.len = len at *
  have back : ∀ w2, Below (w.alloc (.cells #[.int .i64 k, .int .i64 n, .string s, .slice A len cap] 28)).heap.size (w.alloc (.cells #[.int .i64 k, .int .i64 n, .string s, .slice A len cap] 28)) w2 → Below w.heap.size w w2 ∧ Blk w2 w.heap.size 28 #[.int .i64 k, .int .i64 n, .string s, .slice A len cap] := fun w2 hb => ⟨HB0.out.trans (hb.mono HB0.out.size), HQ.out.below hb HQ.out.lt⟩
  have HBK := Lib.hid back
  clear back
  go_enter Tryd.func43, Tryd.ntmps43
  go_wp2_with fail
  refine (H2.out _ HB0.out).mono ?_
  rintro e w2 ⟨rfl, hb⟩
  obtain ⟨hbw, hq⟩ := HBK.out w2 hb
  clear x0 x1 x2 x3 hb
  obtain ⟨x0, x1, x2, x3⟩ := cells4i hq
  have HB2 := Lib.hid hbw
  have HQ2 := Lib.hid hq
  clear hq hbw
  cases hi1 : soleB k s len
  · rw [hi1] at H1 HV
    clear hi1
    cases hpl : plB T2
    · have e1 : plB (⟨T2.toArray⟩ : ByteArray).data.toList = false := by simpa using hpl
      rw [e1] at H3
      have HW : Hid (R = braB T2) := Lib.hid (by rw [HV.out, if_pos (.inr hpl)])
      clear hpl e1 HV
      go_wp2_with fail
      refine (H1.out w2).mono ?_
      rintro e w3 ⟨rfl, hb⟩
      have HB3 := Lib.hid (HB2.out.trans (hb.mono HB2.out.size))
      clear hb
      go_wp2_with (first | (go_at_call 60; refine (H3.out _).mono ?_; rintro e w' ⟨rfl, rfl⟩) | fail)
      go_ret
      rw [HW.out]; exact ⟨congrArg Ending.returned HE.out, HB3.out⟩
    · have e1 : plB (⟨T2.toArray⟩ : ByteArray).data.toList = true := by simpa using hpl
      rw [e1] at H3
      have HW : Hid (R = T2) := Lib.hid (by rw [HV.out, if_neg (by simp [hpl])])
      clear hpl e1 HV
      go_wp2_with fail
      refine (H1.out w2).mono ?_
      rintro e w3 ⟨rfl, hb⟩
      have HB3 := Lib.hid (HB2.out.trans (hb.mono HB2.out.size))
      clear hb
      go_wp2_with (first | (go_at_call 60; refine (H3.out _).mono ?_; rintro e w' ⟨rfl, rfl⟩) | fail)
      go_ret
      rw [HW.out]; exact ⟨rfl, HB3.out⟩
  · rw [hi1] at H1 HV
    have HW : Hid (R = braB T2) := Lib.hid (by rw [HV.out, if_pos (.inl rfl)])
    clear hi1 HV
    go_wp2_with fail
    refine (H1.out w2).mono ?_
    rintro e w3 ⟨rfl, hb⟩
    have HB3 := Lib.hid (HB2.out.trans (hb.mono HB2.out.size))
    clear hb
    go_wp2_with fail
    go_ret
    rw [HW.out]; exact ⟨congrArg Ending.returned HE.out, HB3.out⟩
end Go.Proofs.YtkgapidhoeegmaaDoor.wr

/- Rows of terms whose arguments lie in memory: what append of terms that were there makes. No condition. -/
namespace Go.Proofs.YtkgapidhoeegmaaDoor
open Go.RowKit

/-- The cells of a row of terms whose arguments lie in blocks from lo to hi. -/
def XD (w : World) (lo hi : Nat) : Fr → List Value → Prop
  | .nil, xs => xs = []
  | .cons k n s kids rest, xs => ∃ (A : Option Addr) (cap : Nat) (ys : List Value), xs = .int .i64 k :: .int .i64 n :: .string s :: .slice A kids.len cap :: ys ∧ Fits k n s ∧ KidsAt w lo hi kids A cap ∧ XD w lo hi rest ys
theorem XD.len {w : World} {lo hi : Nat} : ∀ (f : Fr) (xs : List Value), XD w lo hi f xs → xs.length = f.len * 4
  | .nil, xs, h => by obtain rfl : xs = [] := h; rfl
  | .cons k n s kids rest, xs, h => by
    obtain ⟨A, cap, ys, rfl, _, _, h⟩ := h
    have := XD.len rest ys h
    simp only [List.length_cons, Fr.len, this]; omega
theorem XD.snoc {w : World} {lo hi : Nat} {k n : Int} {s : ByteArray} {kids : Fr} {A : Option Addr} {cap : Nat} (hf : Fits k n s) (hk : KidsAt w lo hi kids A cap) :
    ∀ (f : Fr) (xs : List Value), XD w lo hi f xs → XD w lo hi (f.app (.cons k n s kids .nil)) (xs ++ [.int .i64 k, .int .i64 n, .string s, .slice A kids.len cap])
  | .nil, xs, h => by obtain rfl : xs = [] := h; exact ⟨A, cap, [], rfl, hf, hk, rfl⟩
  | .cons k' n' s' kids' rest, xs, h => by
    obtain ⟨A', cap', ys, rfl, hf', hk', h⟩ := h
    exact ⟨A', cap', _, rfl, hf', hk', XD.snoc hf hk rest ys h⟩
theorem XD.row {w w' : World} {lo hi lo2 hi2 g : Nat} (hkeep : ∀ p : Addr, lo ≤ p.block → p.block < hi → w'.cell? p = w.cell? p) (hlo : lo2 ≤ lo) (hhi : hi ≤ hi2) :
    ∀ (f : Fr) (xs : List Value) (o : Nat), XD w lo hi f xs → (∀ j u, xs[j]? = some u → w'.cell? ⟨g, o + j, none⟩ = some u) → RowAt w' lo2 hi2 f g o
  | .nil, _, _, _, _ => trivial
  | .cons k n s kids rest, xs, o, h, hc => by
    obtain ⟨A, cap, ys, rfl, hf, hk, h⟩ := h
    refine ⟨hf, ⟨A, cap, ⟨hc 0 _ rfl, hc 1 _ rfl, hc 2 _ rfl, hc 3 _ rfl⟩, hk.1, hk.2.1, ?_⟩, XD.row hkeep hlo hhi rest ys (o + 4) h fun j u hj => ?_⟩
    · exact ((hk.keep hkeep).more hlo hhi).2.2
    · have := hc (j + 4) u (by simpa using hj)
      rw [show o + (j + 4) = o + 4 + j by omega] at this
      exact this
theorem XD.kids {w wr : World} {lo hi base : Nat} {f : Fr} {xs : List Value} {v : Value} (h : XD w lo hi f xs) (ho : wr.ownsRow base 28 4 v f.len xs) (hkeep : ∀ p : Addr, lo ≤ p.block → p.block < hi → wr.cell? p = w.cell? p) (hlo : lo ≤ base) (hhi : hi ≤ wr.heap.size) :
    ∃ A cap, v = .slice A f.len cap ∧ KidsAt wr lo wr.heap.size f A cap := by
  have hl := ho.lt
  rcases ho.2 with ⟨rfl, h0⟩ | ⟨g, cap, cur, rfl, hbg, hg, hnc, hcm, hcs, htake⟩
  · exact ⟨none, 0, by rw [h0], by omega, Nat.zero_le _, fun hp => by omega⟩
  · refine ⟨some ⟨g, 0, none⟩, cap, rfl, hnc, hcm, fun _ => ⟨g, 0, rfl, by omega, (hl g rfl).2, XD.row hkeep (Nat.le_refl _) hhi f xs 0 h fun j u hj => ?_⟩⟩
    have h3 := World.ownsRow.cells ho (g := g) rfl j u hj
    have e : (⟨g, 0, none⟩ : Addr).add j = ⟨g, 0 + j, none⟩ := by unfold Addr.add; split <;> simp_all
    rwa [e] at h3
end Go.Proofs.YtkgapidhoeegmaaDoor

/- The model's texts with operators: spec.l2Args, l2List, l2Text, WriteTerm. Condition: the term lies in memory. -/
namespace Go.Proofs.YtkgapidhoeegmaaDoor.wr
open Go.RowKit

set_option maxRecDepth 100000 in
set_option maxHeartbeats 4000000 in
/-- spec.l2Args. -/
theorem args_of (F : Fr) (h : ∀ j k n s kids rest, F.drop j = .cons k n s kids rest → TxC s kids) (d : Int) (A : Option Addr) (cap lo hi : Nat) (w : World) (hk : KidsAt w lo hi F A cap) (hh : hi ≤ w.heap.size) (hs : shapeF F d = true) (hnd : nodes F ≤ 1048576) (hl : (remB 0 F).length ≤ 67108864) :
    Calls Tryd.prog 44 #[.slice A F.len cap] w fun e w' => e = .returned (.string ⟨(remB 0 F).toArray⟩) ∧ Below w.heap.size w w' := by
  have hlen : F.len ≤ 1048576 := by have := len_le_nodes F; omega
  have H := Lib.hid h
  have HK := Lib.hid hk
  have HHI := Lib.hid hh
  have HSH := Lib.hid hs
  have HND := Lib.hid hnd
  clear h hk hh hs hnd
  generalize hn : F.len = len at *
  have HN := Lib.hid hn
  clear hn
  go_enter Tryd.func44, Tryd.ntmps44
  go_wp2_with fail
  go_loopw [3, 4] (fun ov i wr => ∃ (j : Nat) (L : List UInt8), j ≤ len ∧ i = .int .i64 j ∧ ov = .string ⟨L.toArray⟩ ∧ L ++ remB j (F.drop j) = remB 0 F ∧ Below w.heap.size w wr) (fun _ i _ => len - (intOf i).toNat)
  case atStart => exact ⟨0, [], Nat.zero_le _, rfl, rfl, rfl, Below.refl _ _⟩
  case round =>
    obtain ⟨j, L, hj, rfl, rfl, hL, hb⟩ := hrel
    have HLE := Lib.hid hL
    have HB := Lib.hid hb
    have hLl : L.length + (remB j (F.drop j)).length ≤ 67108864 := by have := congrArg List.length hL; simp only [List.length_append] at this; omega
    clear hL
    by_cases hlt : j < len
    · obtain ⟨kk, nn, ss, kids, hd⟩ := Fr.drop_cons j F (by rw [HN.out]; exact hlt)
      obtain ⟨b, o, rfl, hlb, hbb, hrow⟩ := HK.out.2.2 (by rw [HN.out]; omega)
      obtain ⟨hfit, A', cp, c0, c1, c2, c3, hkid⟩ := hrow.elem hd
      have hlo : (⟨b, o, none⟩ : Addr).block < w.heap.size := Nat.lt_of_lt_of_le hbb HHI.out
      have k0 := (hb.cell (p := ⟨b, o + j * 4, none⟩) hlo).trans c0
      have k1 := (hb.cell (p := ⟨b, o + j * 4 + 1, none⟩) hlo).trans c1
      have k2 := (hb.cell (p := ⟨b, o + j * 4 + 2, none⟩) hlo).trans c2
      have k3 := (hb.cell (p := ⟨b, o + j * 4 + 3, none⟩) hlo).trans c3
      have C3 := H.out j _ _ _ _ _ hd kk nn A' cp lo hi _ wr (hkid.below hb HHI.out) (Nat.le_trans HHI.out hb.size) (shape_drop F j _ hd HSH.out) (Nat.le_trans (nodes_drop_elem j F hd) HND.out)
      have hL2 := HLE.out
      have H3 := Lib.hid C3
      by_cases hj0 : j = 0
      · subst hj0
        rw [hd, remB_zero] at hL2 hLl
        have HL2 := Lib.hid hL2
        clear C3 c0 c1 c2 c3 hkid hrow hfit hd hlo hL2 hb
        generalize txT kk nn ss kids = T at *
        have hTl : L.length + T.length ≤ 67108864 := by simp only [List.length_append] at hLl; omega
        have HSTR : Hid ((.string (⟨L.toArray⟩ ++ ⟨T.toArray⟩) : Value) = .string ⟨(L ++ T).toArray⟩) := Lib.hid (str_app L T)
        have HL3 : Hid ((L ++ T) ++ remB (0 + 1) (F.drop (0 + 1)) = remB 0 F) := Lib.hid (by rw [← HL2.out]; simp)
        simp only [Nat.zero_mul, Nat.add_zero] at k0 k1 k2 k3
        go_wp2_with fail
        refine H3.out.mono ?_
        rintro e w3 ⟨rfl, hb3⟩
        have HB3 := Lib.hid (HB.out.trans (hb3.mono HB.out.size))
        clear hb3
        go_wp2_with fail
        go_roundw
        case rel => exact ⟨0 + 1, L ++ T, by omega, by go_num, HSTR.out, HL3.out, HB3.out⟩
        case measure => simp [intOf]; omega
      · rw [hd, remB_step j hj0] at hL2 hLl
        have HL2 := Lib.hid hL2
        clear C3 c0 c1 c2 c3 hkid hrow hfit hd hlo hL2 hb
        generalize txT kk nn ss kids = T at *
        have hTl : L.length + 1 + T.length ≤ 67108864 := by simp only [List.length_append, List.length_cons] at hLl; omega
        have t0 : (0 : Int) < (j : Int) := by omega
        have HSTR : Hid ((.string ((⟨L.toArray⟩ ++ ⟨#[44]⟩) ++ ⟨T.toArray⟩) : Value) = .string ⟨(L ++ 44 :: T).toArray⟩) := Lib.hid (by
          rw [show (⟨#[44]⟩ : ByteArray) = ⟨[44].toArray⟩ from rfl, ByteArray.mk_append_mk, ByteArray.mk_append_mk]
          simp)
        have HL3 : Hid ((L ++ 44 :: T) ++ remB (j + 1) (F.drop (j + 1)) = remB 0 F) := Lib.hid (by rw [← HL2.out]; simp)
        clear hj0
        go_wp2_with fail
        refine H3.out.mono ?_
        rintro e w3 ⟨rfl, hb3⟩
        have HB3 := Lib.hid (HB.out.trans (hb3.mono HB.out.size))
        clear hb3
        go_wp2_with fail
        go_roundw
        case rel => exact ⟨j + 1, L ++ 44 :: T, by omega, by go_num, HSTR.out, HL3.out, HB3.out⟩
        case measure => simp [intOf]; omega
    · obtain rfl : j = len := by omega
      have hLL : L = remB 0 F := by
        have h1 := Fr.drop_len F
        rw [HN.out] at h1
        rw [← HLE.out, h1, remB_nil, List.append_nil]
      have HLL := Lib.hid hLL
      clear hb hLL hLl
      go_wp2_with fail
      go_ret
      rw [← HLL.out]
      exact ⟨rfl, HB.out⟩

/-- The loop's relation: the term that is looked at lies in block H; its elements before it lie in the row v. -/
def LiP (w : World) (lo hi H : Nat) (F T : Fr) (k n : Int) (s : ByteArray) (f : Fr) (A : Option Addr) (cap : Nat) (acc : Fr) (v : Value) (wr : World) : Prop :=
  Blk wr H 28 #[.int .i64 k, .int .i64 n, .string s, .slice A f.len cap] ∧ KidsAt w lo hi f A cap ∧ (∃ xs, wr.ownsRow (H + 1) 28 4 v acc.len xs ∧ XD w lo hi acc xs) ∧ acc.app (fronts k s f) = F ∧ tails k n s f = T ∧ Below w.heap.size w wr ∧ H + 1 ≤ wr.heap.size ∧ w.heap.size ≤ H
theorem LiP.below {w wr w1 : World} {lo hi H : Nat} {F T : Fr} {k n : Int} {s : ByteArray} {f : Fr} {A : Option Addr} {cap : Nat} {acc : Fr} {v : Value}
    (h : LiP w lo hi H F T k n s f A cap acc v wr) (hb : Below wr.heap.size wr w1) : LiP w lo hi H F T k n s f A cap acc v w1 := by
  obtain ⟨b0, hk, ⟨xs, ho, hx⟩, hF, hT, hbw, hs, hH⟩ := h
  exact ⟨b0.below hb (by omega), hk, ⟨xs, ho.kept (row := none) ⟨hb.os, hb.tape, hb.output, hb.size, fun k hk _ => hb.block k hk⟩ (by cases v.ownBlock <;> simp), hx⟩, hF, hT, hbw.trans (hb.mono hbw.size), Nat.le_trans hs hb.size, hH⟩
/-- One element more. -/
theorem LiP.step {w wr w4 : World} {lo hi H : Nat} {F T : Fr} {k n : Int} {s : ByteArray} {k1 n1 k2 n2 : Int} {s1 s2 : ByteArray} {kd1 kd2 : Fr} {A A1 A2 : Option Addr} {cap cap1 cap2 : Nat} {acc : Fr} {v : Value} {xs : List Value} {g cap4 : Nat} {o : Obj}
    (h : LiP w lo hi H F T k n s (.cons k1 n1 s1 kd1 (.cons k2 n2 s2 kd2 .nil)) A cap acc v wr) (hp : pairB k s 2 = true) (hx : XD w lo hi acc xs) (hvl : ∀ g, v.ownBlock = some g → H + 1 ≤ g ∧ g < wr.heap.size)
    (hf1 : Fits k1 n1 s1) (hk1 : KidsAt w lo hi kd1 A1 cap1) (hg : (wr.alloc o).grownBy w4 v.ownBlock)
    (ho : w4.ownsRow (H + 1) 28 4 (.slice (some ⟨g, 0, none⟩) (acc.len + 1) cap4) (acc.len + 1) (xs ++ [.int .i64 k1, .int .i64 n1, .string s1, .slice A1 kd1.len cap1])) (hk2 : KidsAt w lo hi kd2 A2 cap2) :
    LiP w lo hi H F T k2 n2 s2 kd2 A2 cap2 (acc.app (.cons k1 n1 s1 kd1 .nil)) (.slice (some ⟨g, 0, none⟩) (acc.len + 1) cap4) ((((w4.setCell ⟨H, 0, none⟩ (.int .i64 k2)).setCell ⟨H, 1, none⟩ (.int .i64 n2)).setCell ⟨H, 2, none⟩ (.string s2)).setCell ⟨H, 3, none⟩ (.slice A2 kd2.len cap2)) := by
  obtain ⟨b0, hk, _, hF, hT, hb, hs, hH⟩ := h
  have hb1 : Below wr.heap.size wr (wr.alloc o) := (Below.refl _ _).alloc (Nat.le_refl _) _
  have s1' := hb1.size
  have s4' := hg.size
  have far : w4.heap[H]? = wr.heap[H]? := by
    rw [hg.block H (by omega) fun e => by have := (hvl H e.symm).1; omega, hb1.block H (by omega)]
  have hbw : Below w.heap.size w w4 := by
    have h2 := hb.trans (hb1.mono hb.size)
    refine h2.grown hg h2.size fun g hg => ?_
    have := (hvl g hg).1; omega
  have hlen : (acc.app (.cons k1 n1 s1 kd1 .nil)).len = acc.len + 1 := by rw [Fr.len_app]; rfl
  have hF' : (acc.app (.cons k1 n1 s1 kd1 .nil)).app (fronts k2 s2 kd2) = F := by
    rw [← hF, fronts, if_pos hp, app_assoc]; rfl
  have hT' : tails k2 n2 s2 kd2 = T := by rw [← hT, tails, if_pos hp]
  have hset : ∀ (w5 : World) (i : Nat) (u : Value), w5.ownsRow (H + 1) 28 4 (.slice (some ⟨g, 0, none⟩) (acc.len + 1) cap4) (acc.len + 1) (xs ++ [.int .i64 k1, .int .i64 n1, .string s1, .slice A1 kd1.len cap1]) →
      (w5.setCell ⟨H, i, none⟩ u).ownsRow (H + 1) 28 4 (.slice (some ⟨g, 0, none⟩) (acc.len + 1) cap4) (acc.len + 1) (xs ++ [.int .i64 k1, .int .i64 n1, .string s1, .slice A1 kd1.len cap1]) := fun w5 i u h5 =>
    h5.kept (row := some H) ⟨rfl, rfl, rfl, by simp [World.setCell], fun k _ hk => heap_setCell_other _ _ _ _ fun e => hk (by rw [e])⟩ (.inr fun e => by
      have := (h5.lt H e).1; omega)
  refine ⟨((((b0.keep far).set_ 0 _).set_ 1 _).set_ 2 _).set_ 3 _, hk2, ⟨_, by rw [hlen]; exact hset _ 3 _ (hset _ 2 _ (hset _ 1 _ (hset _ 0 _ ho))), XD.snoc hf1 hk1 acc xs hx⟩, hF', hT', (((hbw.setCell hH _).setCell hH _).setCell hH _).setCell hH _, ?_, hH⟩
  simp only [World.setCell, Array.size_modify]
  omega
theorem LiP.done {w wr : World} {lo hi H : Nat} {F T : Fr} {k n : Int} {s : ByteArray} {f : Fr} {A : Option Addr} {cap : Nat} {acc : Fr} {v : Value}
    (h : LiP w lo hi H F T k n s f A cap acc v wr) (hp : pairB k s f.len = false) (hh : hi ≤ w.heap.size) (hlo : lo ≤ w.heap.size) : ∃ A2 cap2, v = .slice A2 F.len cap2 ∧ KidsAt wr lo wr.heap.size F A2 cap2 := by
  obtain ⟨b0, hk, ⟨xs, ho, hx⟩, hF, hT, hbw, hs, hH⟩ := h
  rw [(pair_no n hp).1, app_nil] at hF
  subst hF
  exact hx.kids ho (fun p _ hp => hbw.cell (by omega)) (by omega) (Nat.le_trans hh hbw.size)
end Go.Proofs.YtkgapidhoeegmaaDoor.wr

/- The elements of a list and its tail are smaller and well-formed. No condition. -/
namespace Go.Proofs.YtkgapidhoeegmaaDoor.wr
open Go.RowKit

theorem fr_facts (N : Nat) : ∀ (k n : Int) (s : ByteArray) (f : Fr) (d : Int), f.size ≤ N → shapeT k n s f d = true → shapeF (fronts k s f) d = true ∧ (∀ j k' n' s' kids rest, (fronts k s f).drop j = .cons k' n' s' kids rest → kids.size < f.size) ∧ ∀ k' n' s' f', tails k n s f = .cons k' n' s' f' .nil → shapeT k' n' s' f' d = true ∧ f'.size ≤ f.size ∧ (pairB k s f.len = true → f'.size < f.size) := by
  induction N with
  | zero =>
    intro k n s f d hf hs
    have hp : pairB k s f.len = false := by
      cases f with
      | nil => unfold pairB; simp [Fr.len]
      | cons _ _ _ _ _ => simp [Fr.size] at hf
    rw [(pair_no n hp).1, (pair_no n hp).2]
    refine ⟨rfl, fun j _ _ _ _ _ h => by (cases j <;> cases h), fun k' n' s' f' h => ?_⟩
    simp only [Fr.cons.injEq, and_true] at h
    obtain ⟨rfl, rfl, rfl, rfl⟩ := h
    exact ⟨hs, Nat.le_refl _, fun e => by rw [hp] at e; cases e⟩
  | succ N ih =>
    intro k n s f d hf hs
    cases hp : pairB k s f.len
    · rw [(pair_no n hp).1, (pair_no n hp).2]
      refine ⟨rfl, fun j _ _ _ _ _ h => by (cases j <;> cases h), fun k' n' s' f' h => ?_⟩
      simp only [Fr.cons.injEq, and_true] at h
      obtain ⟨rfl, rfl, rfl, rfl⟩ := h
      exact ⟨hs, Nat.le_refl _, fun e => by cases e⟩
    · obtain ⟨k1, n1, s1, kd1, k2, n2, s2, kd2, rfl, hfr, htl⟩ := pair_yes n hp
      have hk := shapeT_kids hs
      rw [shapeF_cons, shapeF_cons, Bool.and_eq_true, Bool.and_eq_true] at hk
      have up : ∀ {k n : Int} {s : ByteArray} {f : Fr}, shapeT k n s f (d - 1) = true → shapeT k n s f d = true := fun {k n s f} h => by
        have := shapeF_mono (.cons k n s f .nil) (d - 1) d (by omega) (by rw [shapeF_cons, h]; rfl)
        rw [shapeF_cons, Bool.and_eq_true] at this
        exact this.1
      simp only [Fr.size] at hf
      obtain ⟨a1, a2, a3⟩ := ih k2 n2 s2 kd2 d (by omega) (up hk.2.1)
      rw [hfr, htl]
      refine ⟨by rw [shapeF_cons, up hk.1, a1]; rfl, fun j k' n' s' kids rest h => ?_, fun k' n' s' f' h => ?_⟩
      · cases j with
        | zero =>
          injection h with h1 h2 h3 h4 h5
          subst h4
          simp only [Fr.size]; omega
        | succ j =>
          have := a2 j k' n' s' kids rest h
          simp only [Fr.size]; omega
      · obtain ⟨b1, b2, _⟩ := a3 k' n' s' f' h
        exact ⟨b1, by simp only [Fr.size]; omega, fun _ => by simp only [Fr.size]; omega⟩
theorem fr_nodes (N : Nat) : ∀ (k n : Int) (s : ByteArray) (f : Fr), f.size ≤ N → nodes (fronts k s f) ≤ nodes f ∧ ∀ k' n' s' f', tails k n s f = .cons k' n' s' f' .nil → nodes f' ≤ nodes f := by
  induction N with
  | zero =>
    intro k n s f hf
    have hp : pairB k s f.len = false := by
      cases f with
      | nil => unfold pairB; simp [Fr.len]
      | cons _ _ _ _ _ => simp [Fr.size] at hf
    rw [(pair_no n hp).1, (pair_no n hp).2]
    refine ⟨Nat.zero_le _, fun k' n' s' f' h => ?_⟩
    simp only [Fr.cons.injEq, and_true] at h
    obtain ⟨rfl, rfl, rfl, rfl⟩ := h
    exact Nat.le_refl _
  | succ N ih =>
    intro k n s f hf
    cases hp : pairB k s f.len
    · rw [(pair_no n hp).1, (pair_no n hp).2]
      refine ⟨Nat.zero_le _, fun k' n' s' f' h => ?_⟩
      simp only [Fr.cons.injEq, and_true] at h
      obtain ⟨rfl, rfl, rfl, rfl⟩ := h
      exact Nat.le_refl _
    · obtain ⟨k1, n1, s1, kd1, k2, n2, s2, kd2, rfl, hfr, htl⟩ := pair_yes n hp
      simp only [Fr.size] at hf
      obtain ⟨a1, a2⟩ := ih k2 n2 s2 kd2 (by omega)
      rw [hfr, htl]
      refine ⟨by simp only [nodes]; omega, fun k' n' s' f' h => ?_⟩
      have := a2 k' n' s' f' h
      simp only [nodes]; omega
theorem tails_form (N : Nat) : ∀ (k n : Int) (s : ByteArray) (f : Fr), f.size ≤ N → ∃ k' n' s' f', tails k n s f = .cons k' n' s' f' .nil := by
  induction N with
  | zero =>
    intro k n s f hf
    have hp : pairB k s f.len = false := by
      cases f with
      | nil => unfold pairB; simp [Fr.len]
      | cons _ _ _ _ _ => simp [Fr.size] at hf
    exact ⟨k, n, s, f, (pair_no n hp).2⟩
  | succ N ih =>
    intro k n s f hf
    cases hp : pairB k s f.len
    · exact ⟨k, n, s, f, (pair_no n hp).2⟩
    · obtain ⟨k1, n1, s1, kd1, k2, n2, s2, kd2, rfl, _, htl⟩ := pair_yes n hp
      rw [htl]
      simp only [Fr.size] at hf
      exact ih k2 n2 s2 kd2 (by omega)
end Go.Proofs.YtkgapidhoeegmaaDoor.wr

/- The model's texts with operators: spec.l2List, l2Text, WriteTerm. Condition: the term lies in memory. -/
namespace Go.Proofs.YtkgapidhoeegmaaDoor.wr
open Go.RowKit

theorem list_str (a b : List UInt8) : (.string ((((⟨#[91]⟩ ++ ⟨a.toArray⟩) ++ ⟨#[124]⟩) ++ ⟨b.toArray⟩) ++ ⟨#[93]⟩) : Value) = .string ⟨(91 :: (a ++ (124 :: b ++ [93]))).toArray⟩ := by
  rw [show (⟨#[91]⟩ : ByteArray) = ⟨[91].toArray⟩ from rfl, show (⟨#[124]⟩ : ByteArray) = ⟨[124].toArray⟩ from rfl, show (⟨#[93]⟩ : ByteArray) = ⟨[93].toArray⟩ from rfl, ByteArray.mk_append_mk, ByteArray.mk_append_mk, ByteArray.mk_append_mk, ByteArray.mk_append_mk]
  simp
theorem list_str0 (a : List UInt8) : (.string ((⟨#[91]⟩ ++ ⟨a.toArray⟩) ++ ⟨#[93]⟩) : Value) = .string ⟨(91 :: (a ++ ([] ++ [93]))).toArray⟩ := by
  rw [show (⟨#[91]⟩ : ByteArray) = ⟨[91].toArray⟩ from rfl, show (⟨#[93]⟩ : ByteArray) = ⟨[93].toArray⟩ from rfl, ByteArray.mk_append_mk, ByteArray.mk_append_mk]
  simp
theorem str_args (s : ByteArray) (a : List UInt8) : (.string (((s ++ ⟨#[40]⟩) ++ ⟨a.toArray⟩) ++ ⟨#[41]⟩) : Value) = .string ⟨(s.data.toList ++ (40 :: (a ++ [41]))).toArray⟩ := by
  conv => lhs; rw [str_own s]
  rw [show (⟨#[40]⟩ : ByteArray) = ⟨[40].toArray⟩ from rfl, show (⟨#[41]⟩ : ByteArray) = ⟨[41].toArray⟩ from rfl, ByteArray.mk_append_mk, ByteArray.mk_append_mk, ByteArray.mk_append_mk]
  simp
theorem inf_str (a b c : List UInt8) : (.string ((⟨a.toArray⟩ ++ ⟨b.toArray⟩) ++ ⟨c.toArray⟩) : Value) = .string ⟨(a ++ (b ++ c)).toArray⟩ := by
  rw [ByteArray.mk_append_mk, ByteArray.mk_append_mk]
  simp

set_option maxRecDepth 100000 in
set_option maxHeartbeats 8000000 in
/-- spec.l2List. -/
theorem list_of (s : ByteArray) (f : Fr) (h : ∀ s' f', f'.size < f.size → TxC s' f') (k n : Int) (A : Option Addr) (cap lo hi : Nat) (d : Int) (w : World) (hk : KidsAt w lo hi f A cap) (hh : hi ≤ w.heap.size) (hlo : lo ≤ w.heap.size) (hp : pairB k s f.len = true) (hs : shapeT k n s f d = true) (hnd : nodes f ≤ 1048576) :
    Calls Tryd.prog 39 #[.agg #[.int .i64 k, .int .i64 n, .string s, .slice A f.len cap]] w fun e w' => e = .returned (.string ⟨(txT k n s f).toArray⟩) ∧ Below w.heap.size w w' := by
  obtain ⟨a1, a2, a3⟩ := fr_facts f.size k n s f d (Nat.le_refl _) hs
  obtain ⟨m1, m2⟩ := fr_nodes f.size k n s f (Nat.le_refl _)
  obtain ⟨kt, nt, st, ft, htl⟩ : ∃ kt nt st ft, tails k n s f = .cons kt nt st ft .nil := tails_form f.size k n s f (Nat.le_refl _)
  obtain ⟨b1, _, b3⟩ := a3 kt nt st ft htl
  have hG := txT_rem hp htl
  have hGl := (txT_shape hs).1
  have hG2 : (txT k n s f).length ≤ 67108864 := by omega
  have hrl : (remB 0 (fronts k s f)).length ≤ 67108864 := by rw [hG] at hG2; simp only [List.length_cons, List.length_append] at hG2; omega
  have C1 := fun (A2 : Option Addr) (cap2 : Nat) w1 (hk : KidsAt w1 lo w1.heap.size (fronts k s f) A2 cap2) => args_of (fronts k s f) (fun j k n s kids rest hd => h s kids (a2 j k n s kids rest hd)) d A2 cap2 lo w1.heap.size w1 hk (Nat.le_refl _) a1 (by omega) hrl
  have C2 := fun (A2 : Option Addr) (cap2 : Nat) w1 (hk : KidsAt w1 lo hi ft A2 cap2) (hh : hi ≤ w1.heap.size) => h st ft (b3 hp) kt nt A2 cap2 lo hi d w1 hk hh b1 (Nat.le_trans (m2 kt nt st ft htl) hnd)
  have hfl : (fronts k s f).len ≤ 1048576 := by have := len_le_nodes (fronts k s f); omega
  have HE : Hid (endB kt nt st ft = if nilB kt st ft.len = true then [] else 124 :: txT kt nt st ft) := Lib.hid rfl
  have HK := Lib.hid hk
  have HHI := Lib.hid hh
  have HLO := Lib.hid hlo
  have H1 := Lib.hid C1
  have H2 := Lib.hid C2
  have HG := Lib.hid hG
  have HFL := Lib.hid hfl
  have HTL := Lib.hid htl
  have HG2 := Lib.hid hG2
  have HRL := Lib.hid hrl
  clear h C1 C2 hk hh hs hnd hp hGl a1 a2 a3 m1 m2 b1 b3 hG hG2 hrl hfl htl
  generalize txT k n s f = G at *
  obtain ⟨i0, hi0, hz0, hz1, hz2⟩ := info_parts infoT
  have hb0 := two_alloc w (.cells #[.int .i64 k, .int .i64 n, .string s, .slice A f.len cap] 28) (.cells #[] 28)
  have hst : LiP w lo hi w.heap.size (fronts k s f) (tails k n s f) k n s f A cap .nil (.slice (some ⟨w.heap.size + 1, 0, none⟩) 0 0) ((w.alloc (.cells #[.int .i64 k, .int .i64 n, .string s, .slice A f.len cap] 28)).alloc (.cells #[] 28)) := by
    refine ⟨(Blk.new w _ _).alloc _, HK.out, ⟨[], ?_, rfl⟩, rfl, rfl, hb0, by simp, Nat.le_refl _⟩
    obtain ⟨xs, L, ho, hd, _⟩ := RowP.empty (base := w.heap.size + 1) (w := w.alloc (.cells #[.int .i64 k, .int .i64 n, .string s, .slice A f.len cap] 28)) (by simp)
    obtain rfl : xs = [] := by
      have := ho.2
      obtain ⟨h1, _⟩ := hd
      exact h1
    simpa using ho
  have HST := Lib.hid hst
  clear hst hb0
  go_enter Tryd.func39, Tryd.ntmps39
  go_wp2_with fail
  go_loopw [3] (fun u wr => ∃ (k' n' : Int) (s' : ByteArray) (f' : Fr) (A' : Option Addr) (cap' : Nat) (acc : Fr) (v : Value), v = u ∧ LiP w lo hi w.heap.size (fronts k s f) (tails k n s f) k' n' s' f' A' cap' acc v wr) (fun v _ => (fronts k s f).len - lenOf v)
  case atStart => exact ⟨k, n, s, f, A, cap, .nil, _, rfl, HST.out⟩
  case round =>
    obtain ⟨k', n', s', f', A', cap', acc, v, rfl, hp⟩ := hrel
    have HP := Lib.hid hp
    obtain ⟨b0, hk', ⟨xs, hown, hX⟩, hF, hT, hb, hs, hH⟩ := hp
    obtain ⟨a0, a1, a2, a3⟩ := cells4i b0
    have C3 := pair_any k' n' s' A' f'.len cap'
    cases hpb : pairB k' s' f'.len
    · rw [hpb] at C3
      obtain ⟨A2, cap2, hv2, hkf⟩ := HP.out.done hpb HHI.out HLO.out
      subst hv2
      have hto : tails k n s f = .cons k' n' s' f' .nil := by rw [← hT, (pair_no n' hpb).2]
      rw [HTL.out] at hto
      simp only [Fr.cons.injEq, and_true] at hto
      obtain ⟨rfl, rfl, rfl, rfl⟩ := hto
      have C4 := nil_any kt nt st A' ft.len cap'
      have H3 := Lib.hid C3
      have H4 := Lib.hid C4
      have HKF := Lib.hid hkf
      have HK' := Lib.hid hk'
      have HB := Lib.hid hb
      have HB0 := Lib.hid b0
      clear C3 C4 b0 hk' hown hX hF hT hb hpb hkf HP
      have hsw : w.heap.size < wr.heap.size := by omega
      generalize (fronts k s f).len = fl at *
      go_wp2_with fail
      refine (H3.out _).mono ?_
      rintro e w3 ⟨rfl, hb3⟩
      obtain ⟨b0, b1, b2, b3⟩ := cells4i (HB0.out.below hb3 (by omega))
      have HB3 := Lib.hid hb3
      clear hb3 a0 a1 a2 a3
      go_wp2_with fail
      refine (H4.out _).mono ?_
      rintro e w4 ⟨rfl, hb4⟩
      have hb34 : Below wr.heap.size wr w4 := HB3.out.trans (hb4.mono HB3.out.size)
      have HB34 := Lib.hid hb34
      have hq4 := HB0.out.below hb34 (by omega)
      obtain ⟨c0, c1, c2, c3⟩ := cells4i hq4
      have HQ4 := Lib.hid hq4
      have hsw4 : w.heap.size < w4.heap.size := by have := hb34.size; omega
      have hkf4 : KidsAt w4 lo w4.heap.size (fronts k s f) A2 cap2 := (HKF.out.below hb34 (Nat.le_refl _)).more (Nat.le_refl _) hb34.size
      have HKF4 := Lib.hid hkf4
      have HBW4 := Lib.hid (HB.out.trans (hb34.mono HB.out.size))
      clear hb4 hb34 b0 b1 b2 b3 hq4 hkf4
      have hrl := HRL.out
      cases hnb : nilB kt st ft.len
      · have HV : Hid (91 :: (remB 0 (fronts k s f) ++ (124 :: txT kt nt st ft ++ [93])) = G) := Lib.hid (by rw [HG.out, HE.out, hnb]; rfl)
        have hl2 : (remB 0 (fronts k s f)).length + (txT kt nt st ft).length ≤ 67108864 := by
          have h1 := congrArg List.length HV.out
          have h2 := HG2.out
          simp only [List.length_cons, List.length_append] at h1
          omega
        have H1' := Lib.hid (fun w1 (hb : Below w4.heap.size w4 w1) => H1.out A2 cap2 w1 ((HKF4.out.below hb (Nat.le_refl _)).more (Nat.le_refl _) hb.size))
        have H2' := Lib.hid (fun w1 (hb : Below w4.heap.size w4 w1) => H2.out A' cap' w1 (HK'.out.below (HBW4.out.trans (hb.mono HBW4.out.size)) HHI.out) (Nat.le_trans HHI.out (HBW4.out.trans (hb.mono HBW4.out.size)).size))
        have HSTR := Lib.hid (list_str (remB 0 (fronts k s f)) (txT kt nt st ft))
        clear hnb
        generalize remB 0 (fronts k s f) = RB at *
        generalize txT kt nt st ft = TT at *
        generalize ft.len = tl at *
        have t1 : ¬ 9223372036854775807 < 1 + RB.length := by omega
        have t2 : ¬ 9223372036854775807 < 1 + RB.length + 1 := by omega
        have t3 : ¬ 9223372036854775807 < 1 + RB.length + 1 + TT.length := by omega
        have t4 : ¬ 9223372036854775807 < 1 + RB.length + 1 + TT.length + 1 := by omega
        go_wp2_with fail
        go_region_held3 (fun w' => w'.cell? ⟨w.heap.size, 0, none⟩ = some (.int .i64 kt) ∧ w'.cell? ⟨w.heap.size, 1, none⟩ = some (.int .i64 nt) ∧ w'.cell? ⟨w.heap.size, 2, none⟩ = some (.string st) ∧ w'.cell? ⟨w.heap.size, 3, none⟩ = some (.slice A' tl cap'))
          (first | exact ⟨z0, z1, z2, z3⟩ | exact ⟨y0, y1, y2, y3⟩ | exact ⟨c0, c1, c2, c3⟩)
          (first
            | (go_at_call 44
               refine (H1'.out _ (Below.refl _ _).drew).mono ?_
               rintro e w5 ⟨rfl, hb5⟩
               have hd5 : Below w4.heap.size w4 w5 := (Below.refl w4.heap.size w4).drew.trans hb5
               obtain ⟨y0, y1, y2, y3⟩ := cells4i (HQ4.out.below hd5 hsw4)
               have HB5 := Lib.hid hd5
               clear hb5 hd5)
            | (go_at_call 25
               refine (H2'.out _ HB5.out).mono ?_
               rintro e w6 ⟨rfl, hb6⟩
               have hd6 : Below w4.heap.size w4 w6 := HB5.out.trans (hb6.mono HB5.out.size)
               obtain ⟨z0, z1, z2, z3⟩ := cells4i (HQ4.out.below hd6 hsw4)
               have HB6 := Lib.hid hd6
               clear hb6 hd6))
        go_wp2_with fail
        go_ret
        rw [← HV.out]
        exact ⟨congrArg Ending.returned HSTR.out, HBW4.out.trans (HB6.out.mono HBW4.out.size)⟩
      · have HV : Hid (91 :: (remB 0 (fronts k s f) ++ ([] ++ [93])) = G) := Lib.hid (by rw [HG.out, HE.out, hnb]; rfl)
        have C1 := H1.out A2 cap2 w4 HKF4.out
        have HSTR := Lib.hid (list_str0 (remB 0 (fronts k s f)))
        have H1' := Lib.hid C1
        clear hnb C1
        generalize remB 0 (fronts k s f) = RB at *
        go_wp2_with fail
        refine H1'.out.mono ?_
        rintro e w5 ⟨rfl, hb5⟩
        have HB5 := Lib.hid (HBW4.out.trans (hb5.mono HBW4.out.size))
        clear hb5
        go_wp2_with fail
        go_ret
        rw [← HV.out]
        exact ⟨congrArg Ending.returned HSTR.out, HB5.out⟩
    · rw [hpb] at C3
      obtain ⟨k1, n1, s1, kd1, k2, n2, s2, kd2, rfl, hfr, htl⟩ := pair_yes n' hpb
      have hp2 : pairB k' s' 2 = true := hpb
      obtain ⟨b, o, rfl, hlb, hbb, hrow⟩ := hk'.2.2 (by simp [Fr.len])
      obtain ⟨hfit1, A1, cap1, c0, c1, c2, c3, hkid1⟩ := hrow.elem (i := 0) rfl
      obtain ⟨hfit2, A2, cap2, e0, e1, e2, e3, hkid2⟩ := hrow.elem (i := 1) rfl
      have hlo' : (⟨b, o, none⟩ : Addr).block < w.heap.size := Nat.lt_of_lt_of_le hbb HHI.out
      simp only [Nat.zero_mul, Nat.one_mul, Nat.add_zero] at c0 c1 c2 c3 e0 e1 e2 e3
      have hvl := hown.lt
      have hacc : acc.len + 1 ≤ (fronts k s f).len := by
        have h1 := congrArg Fr.len hF
        rw [Fr.len_app, hfr] at h1
        simp only [Fr.len] at h1
        omega
      have hacc2 : acc.len < 1048577 := by have := HFL.out; omega
      have hmeas : (fronts k s f).len - (acc.len + 1) < (fronts k s f).len - lenOf v := by
        obtain ⟨A0, cap0, rfl⟩ : ∃ A0 cap0, v = .slice A0 acc.len cap0 := by
          rcases hown.2 with ⟨rfl, h0⟩ | ⟨g, cap, cur, rfl, _⟩
          · exact ⟨none, 0, by rw [h0]⟩
          · exact ⟨_, _, rfl⟩
        simp only [lenOf]
        omega
      have far : ∀ w3, Below wr.heap.size wr w3 → Below wr.heap.size wr w3 := fun _ h => h
      have HC0 : Hid (∀ w6 : World, (∀ x, x ≤ w.heap.size → w6.heap[x]? = wr.heap[x]?) → w6.cell? ⟨b, o, none⟩ = some (.int .i64 k1) ∧ w6.cell? ⟨b, o + 1, none⟩ = some (.int .i64 n1) ∧ w6.cell? ⟨b, o + 2, none⟩ = some (.string s1) ∧ w6.cell? ⟨b, o + 3, none⟩ = some (.slice A1 kd1.len cap1) ∧
          w6.cell? ⟨b, o + 4, none⟩ = some (.int .i64 k2) ∧ w6.cell? ⟨b, o + 4 + 1, none⟩ = some (.int .i64 n2) ∧ w6.cell? ⟨b, o + 4 + 2, none⟩ = some (.string s2) ∧ w6.cell? ⟨b, o + 4 + 3, none⟩ = some (.slice A2 kd2.len cap2)) := Lib.hid fun w6 h6 => by
        have all : ∀ i, w6.cell? ⟨b, i, none⟩ = w.cell? ⟨b, i, none⟩ := fun i => (World.cell?_of_block (a := ⟨b, i, none⟩) (h6 b (Nat.le_of_lt hlo'))).trans (hb.cell (p := ⟨b, i, none⟩) hlo')
        exact ⟨(all _).trans c0, (all _).trans c1, (all _).trans c2, (all _).trans c3, (all _).trans e0, (all _).trans e1, (all _).trans e2, (all _).trans e3⟩
      have H3 := Lib.hid C3
      have HB0 := Lib.hid b0
      have HM := Lib.hid hmeas
      have HX := Lib.hid hX
      have HVL := Lib.hid hvl
      have HF1 := Lib.hid hfit1
      have HK1 := Lib.hid hkid1
      have HK2 := Lib.hid hkid2
      have HP2 := Lib.hid hp2
      have HOWN := Lib.hid hown
      have hs' : w.heap.size + 1 ≤ wr.heap.size := hs
      have hlb' : b < w.heap.size := hlo'
      clear C3 far hown hX hvl hb b0 hmeas hF hT hpb hp2 hfr htl hk' hrow hfit1 hfit2 hkid1 hkid2 c0 c1 c2 c3 e0 e1 e2 e3 hlo' hacc hlb hbb
      simp only [Fr.len] at *
      go_wp2_with fail
      refine (H3.out _).mono ?_
      rintro e w3 ⟨rfl, hb3⟩
      have hp3 := HP.out.below hb3
      obtain ⟨c0, c1, c2, c3, -, -, -, -⟩ := HC0.out w3 fun x hx => hb3.block x (by omega)
      obtain ⟨b0, b1, b2, b3⟩ := cells4i (HB0.out.below hb3 (by omega))
      have HO3 := Lib.hid (HOWN.out.kept (row := none) ⟨hb3.os, hb3.tape, hb3.output, hb3.size, fun k hk _ => hb3.block k hk⟩ (by cases v.ownBlock <;> simp))
      have hs3 := hb3.size
      have HSTEP := Lib.hid (fun (w6 : World) (g cap4 : Nat) (ob : Obj) hg ho => hp3.step (w4 := w6) (g := g) (cap4 := cap4) (o := ob) HP2.out HX.out (fun g hg => ⟨(HVL.out g hg).1, Nat.lt_of_lt_of_le (HVL.out g hg).2 hb3.size⟩) HF1.out HK1.out hg ho HK2.out)
      have HALL : Hid (∀ (o0 : Obj) w6, (w3.alloc o0).grownBy w6 v.ownBlock → (w6.cell? ⟨b, o + 4, none⟩ = some (.int .i64 k2) ∧ w6.cell? ⟨b, o + 4 + 1, none⟩ = some (.int .i64 n2) ∧ w6.cell? ⟨b, o + 4 + 2, none⟩ = some (.string s2) ∧ w6.cell? ⟨b, o + 4 + 3, none⟩ = some (.slice A2 kd2.len cap2)) ∧
          (w6.cell? ⟨w.heap.size, 0, none⟩ = some (.int .i64 k') ∧ w6.cell? ⟨w.heap.size, 1, none⟩ = some (.int .i64 n') ∧ w6.cell? ⟨w.heap.size, 2, none⟩ = some (.string s') ∧ w6.cell? ⟨w.heap.size, 3, none⟩ = some (.slice (some ⟨b, o, none⟩) (0 + 1 + 1) cap')) ∧
          (w6.frozen? ⟨w.heap.size, 0, none⟩ = false ∧ w6.frozen? ⟨w.heap.size, 1, none⟩ = false ∧ w6.frozen? ⟨w.heap.size, 2, none⟩ = false ∧ w6.frozen? ⟨w.heap.size, 3, none⟩ = false)) := Lib.hid fun o0 w6 hg6 => by
        have hfar : ∀ x, x ≤ w.heap.size → w6.heap[x]? = wr.heap[x]? := fun x hx => by
          have hb1 : Below w3.heap.size w3 (w3.alloc o0) := (Below.refl _ _).alloc (Nat.le_refl _) _
          have := hb1.size
          rw [hg6.block x (by omega) fun e => by have := (HVL.out x e.symm).1; omega, hb1.block x (by omega), hb3.block x (by omega)]
        have hq := HB0.out.keep (hfar _ (Nat.le_refl _))
        exact ⟨(HC0.out w6 hfar).2.2.2.2, cells4i hq, frozen4 hq⟩
      clear hb3 hp3 a0 a1 a2 a3
      go_wp2_with (at_builtin; go_must (refine wpList_append_lies _ rfl _ _ _ rfl (w.heap.size + 1) 28 i0 _ 4 56 Tryd.underlying26 hi0 hz0 hz1 hz2 rfl (by omega) v acc.len _ rfl (HO3.out.alloc _) ⟨w3.heap.size, 0, none⟩ 1 1 [.int .i64 k1, .int .i64 n1, .string s1, .slice A1 kd1.len cap1] rfl rfl (World.news_of_block (cs := #[.int .i64 k1, .int .i64 n1, .string s1, .slice A1 kd1.len cap1]) (fr := (0, 0)) (heap_alloc_new w3 _)) (by simp [Value.oneCell']) (by omega) (by unfold maxLen; omega) (by omega) (by simp; omega) (w3.heap.size + 1) (by simp) ?_); intro g cap4 w6 hown6 hgrow hat hlt6; obtain ⟨⟨e0, e1, e2, e3⟩, ⟨x0, x1, x2, x3⟩, ⟨y0, y1, y2, y3⟩⟩ := HALL.out _ w6 hgrow; have HST6 := Lib.hid (HSTEP.out w6 g cap4 _ hgrow hown6); clear hown6 hgrow hat b0 b1 b2 b3)
      go_roundw
      case rel => exact ⟨_, _, _, _, _, _, _, _, rfl, HST6.out⟩
      case measure => exact HM.out
end Go.Proofs.YtkgapidhoeegmaaDoor.wr
