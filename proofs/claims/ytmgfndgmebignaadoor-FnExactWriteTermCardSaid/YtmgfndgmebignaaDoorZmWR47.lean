/- The model's texts with operators: spec.l2Bracket, l2Left, l2Right, given spec.l2Text's contract. Condition: the term lies in memory and is well-formed. -/
import Derived.Test.YtmgfndgmebignaaDoorProg
import Derived.Test.YtmgfndgmebignaaDoorZmWR45
import Derived.Test.YtmgfndgmebignaaDoorMk
import Derived.Test.YtmgfndgmebignaaDoorSpecL
namespace Go.Proofs.YtmgfndgmebignaaDoor.wr
open Go.RowKit

/-- spec.l2Text's contract at a name and arguments. -/
def TxC (s : ByteArray) (f : Fr) : Prop := ∀ (k n : Int) (A : Option Addr) (cap lo hi : Nat) (d : Int) (w : World), KidsAt w lo hi f A cap → hi ≤ w.heap.size → shapeT k n s f d = true → nodes f ≤ 1048576 →
  Calls Tryd.prog 11 #[.agg #[.int .i64 k, .int .i64 n, .string s, .slice A f.len cap]] w fun e w' => e = .returned (.string ⟨(txT k n s f).toArray⟩) ∧ Below w.heap.size w w'
def braT (k n : Int) (s : ByteArray) (f : Fr) (l : Int) : List UInt8 := if infB k s f.len = true ∧ l < op.level s.data.toList then braB (txT k n s f) else txT k n s f
theorem bra_str (T : List UInt8) : (.string ((⟨#[40]⟩ ++ ⟨T.toArray⟩) ++ ⟨#[41]⟩) : Value) = .string ⟨(braB T).toArray⟩ := by
  rw [show (⟨#[40]⟩ : ByteArray) = ⟨[40].toArray⟩ from rfl, show (⟨#[41]⟩ : ByteArray) = ⟨[41].toArray⟩ from rfl, ByteArray.mk_append_mk, ByteArray.mk_append_mk]
  rfl
set_option maxRecDepth 100000 in
set_option maxHeartbeats 2000000 in
/-- spec.l2Bracket. -/
theorem bracket_of (s : ByteArray) (f : Fr) (h : TxC s f) (k n l : Int) (A : Option Addr) (cap lo hi : Nat) (d : Int) (w : World) (hk : KidsAt w lo hi f A cap) (hh : hi ≤ w.heap.size) (hs : shapeT k n s f d = true) (hnd : nodes f ≤ 1048576) :
    Calls Tryd.prog 38 #[.agg #[.int .i64 k, .int .i64 n, .string s, .slice A f.len cap], .int .i64 l] w fun e w' => e = .returned (.string ⟨(braT k n s f l).toArray⟩) ∧ Below w.heap.size w w' := by
  have hb0 : Below w.heap.size w (w.alloc (.cells #[.int .i64 k, .int .i64 n, .string s, .slice A f.len cap] 29)) := (Below.refl _ _).alloc (Nat.le_refl _) _
  have hq0 := Blk.new w 29 #[.int .i64 k, .int .i64 n, .string s, .slice A f.len cap]
  obtain ⟨x0, x1, x2, x3⟩ := cells4i hq0
  have C1 := fun w1 => infix_any k n s A f.len cap w1
  have C2 := fun w1 => op.l2_any s w1
  have C3 := fun w1 (hb : Below w.heap.size w w1) => h k n A cap lo hi d w1 (hk.below hb hh) (Nat.le_trans hh hb.size) hs hnd
  have hl := (txT_shape hs).1
  have hl2 : (txT k n s f).length ≤ 67108864 := by omega
  have HV : Hid (braT k n s f l = if infB k s f.len = true ∧ l < op.level s.data.toList then braB (txT k n s f) else txT k n s f) := Lib.hid rfl
  have HQ := Lib.hid hq0
  have HB0 := Lib.hid hb0
  have H1 := Lib.hid C1
  have H2 := Lib.hid C2
  have H3 := Lib.hid C3
  have HE := Lib.hid (bra_str (txT k n s f))
  have hsz : w.heap.size < (w.alloc (.cells #[.int .i64 k, .int .i64 n, .string s, .slice A f.len cap] 29)).heap.size := by simp
  clear h C1 C2 C3 hk hs hnd hb0 hq0 hh hl
  generalize txT k n s f = T at *
  generalize braT k n s f l = R at *
  generalize op.level s.data.toList = lv at *
  generalize f.len = len at *
  have back : ∀ w2, Below (w.alloc (.cells #[.int .i64 k, .int .i64 n, .string s, .slice A len cap] 29)).heap.size (w.alloc (.cells #[.int .i64 k, .int .i64 n, .string s, .slice A len cap] 29)) w2 → Below w.heap.size w w2 ∧ Blk w2 w.heap.size 29 #[.int .i64 k, .int .i64 n, .string s, .slice A len cap] := fun w2 hb => ⟨HB0.out.trans (hb.mono HB0.out.size), HQ.out.below hb HQ.out.lt⟩
  have HBK := Lib.hid back
  clear back hsz
  cases hi1 : infB k s len
  · rw [hi1] at H1 HV
    have HW : Hid (R = T) := Lib.hid (by rw [HV.out, if_neg (by simp)])
    clear hi1 HV
    go_enter Tryd.func38, Tryd.ntmps38
    go_wp2_with fail
    refine (H1.out _).mono ?_
    rintro e w2 ⟨rfl, hb⟩
    obtain ⟨hbw, hq⟩ := HBK.out w2 hb
    clear x0 x1 x2 x3 hb
    obtain ⟨x0, x1, x2, x3⟩ := cells4i hq
    have HB2 := Lib.hid hbw
    clear hq hbw
    go_wp2_with fail
    refine (H3.out w2 HB2.out).mono ?_
    rintro e w3 ⟨rfl, hb⟩
    have HB3 := Lib.hid (HB2.out.trans (hb.mono HB2.out.size))
    clear hb
    go_wp2_with fail
    go_ret
    rw [HW.out]; exact ⟨rfl, HB3.out⟩
  · rw [hi1] at H1 HV
    clear hi1
    by_cases hlt : l < lv
    · have HW : Hid (R = braB T) := Lib.hid (by rw [HV.out, if_pos ⟨rfl, hlt⟩])
      have d1 : decide (l < lv) = true := decide_eq_true hlt
      clear HV
      go_enter Tryd.func38, Tryd.ntmps38
      go_wp2_with fail
      refine (H1.out _).mono ?_
      rintro e w2 ⟨rfl, hb⟩
      obtain ⟨hbw, hq⟩ := HBK.out w2 hb
      clear x0 x1 x2 x3 hb
      obtain ⟨x0, x1, x2, x3⟩ := cells4i hq
      have HB2 := Lib.hid hbw
      clear hq hbw
      go_wp2_with (first | (go_at_call 22; refine (H2.out _).mono ?_; rintro e w' ⟨rfl, rfl⟩) | fail)
      refine (H3.out _ HB2.out).mono ?_
      rintro e w3 ⟨rfl, hb⟩
      have HB3 := Lib.hid (HB2.out.trans (hb.mono HB2.out.size))
      clear hb
      go_wp2_with fail
      go_ret
      rw [HW.out]; exact ⟨congrArg Ending.returned HE.out, HB3.out⟩
    · have HW : Hid (R = T) := Lib.hid (by rw [HV.out, if_neg (fun h => hlt h.2)])
      have d1 : decide (l < lv) = false := decide_eq_false hlt
      clear HV
      go_enter Tryd.func38, Tryd.ntmps38
      go_wp2_with fail
      refine (H1.out _).mono ?_
      rintro e w2 ⟨rfl, hb⟩
      obtain ⟨hbw, hq⟩ := HBK.out w2 hb
      clear x0 x1 x2 x3 hb
      obtain ⟨x0, x1, x2, x3⟩ := cells4i hq
      have HB2 := Lib.hid hbw
      clear hq hbw
      go_wp2_with (first | (go_at_call 22; refine (H2.out _).mono ?_; rintro e w' ⟨rfl, rfl⟩) | fail)
      refine (H3.out _ HB2.out).mono ?_
      rintro e w3 ⟨rfl, hb⟩
      have HB3 := Lib.hid (HB2.out.trans (hb.mono HB2.out.size))
      clear hb
      go_wp2_with fail
      go_ret
      rw [HW.out]; exact ⟨rfl, HB3.out⟩
theorem lefT_of (k n : Int) (s : ByteArray) (f : Fr) (l : Int) (hl : 0 ≤ l ∧ l ≤ 3) : lefT k n s f l = if soleB k s f.len = true then braB (txT k n s f) else braT k n s f l := by
  unfold lefT braT olv
  cases h1 : infB k s f.len
  · cases h2 : soleB k s f.len
    · rw [if_neg (by simp; omega)]; simp
    · rw [if_pos (by simp; omega)]; simp
  · have h2 : soleB k s f.len = false := by
      obtain ⟨_, _, _, _, _, _, _, _, _, _, rfl⟩ := inf_kids h1
      simp [soleB, Fr.len]
    rw [h2]
    simp
theorem plB_bra (T : List UInt8) : plB (braB T) = true := rfl
theorem rigT_of (k n : Int) (s : ByteArray) (f : Fr) (l : Int) (hl : 0 ≤ l ∧ l ≤ 3) : rigT k n s f l = if soleB k s f.len = true ∨ plB (braT k n s f l) = false then braB (braT k n s f l) else braT k n s f l := by
  unfold rigT braT olv
  cases h1 : infB k s f.len
  · cases h2 : soleB k s f.len
    · simp only [Bool.false_eq_true, false_and, if_false, false_or]
      have : ¬ l < 0 := by omega
      simp only [this, false_or]
    · simp; omega
  · have h2 : soleB k s f.len = false := by
      obtain ⟨_, _, _, _, _, _, _, _, _, _, rfl⟩ := inf_kids h1
      simp [soleB, Fr.len]
    rw [h2]
    by_cases h3 : l < op.level s.data.toList
    · simp [h3, plB_bra]
    · simp [h3]
theorem braT_len (k n : Int) (s : ByteArray) (f : Fr) (l : Int) : (braT k n s f l).length ≤ (txT k n s f).length + 2 ∧ (0 < (txT k n s f).length → 0 < (braT k n s f l).length) := by
  unfold braT braB
  split
  · simp only [List.length_cons, List.length_append, List.length_nil]; omega
  · omega
set_option maxRecDepth 100000 in
set_option maxHeartbeats 2000000 in
/-- spec.l2Left. -/
theorem left_of (s : ByteArray) (f : Fr) (h : TxC s f) (k n l : Int) (hlv : 0 ≤ l ∧ l ≤ 3) (A : Option Addr) (cap lo hi : Nat) (d : Int) (w : World) (hk : KidsAt w lo hi f A cap) (hh : hi ≤ w.heap.size) (hs : shapeT k n s f d = true) (hnd : nodes f ≤ 1048576) :
    Calls Tryd.prog 23 #[.agg #[.int .i64 k, .int .i64 n, .string s, .slice A f.len cap], .int .i64 l] w fun e w' => e = .returned (.string ⟨(lefT k n s f l).toArray⟩) ∧ Below w.heap.size w w' := by
  have hb0 : Below w.heap.size w (w.alloc (.cells #[.int .i64 k, .int .i64 n, .string s, .slice A f.len cap] 29)) := (Below.refl _ _).alloc (Nat.le_refl _) _
  have hq0 := Blk.new w 29 #[.int .i64 k, .int .i64 n, .string s, .slice A f.len cap]
  obtain ⟨x0, x1, x2, x3⟩ := cells4i hq0
  have C1 := fun w1 => sole_any k n s A f.len cap w1
  have C2 := fun w1 (hb : Below w.heap.size w w1) => bracket_of s f h k n l A cap lo hi d w1 (hk.below hb hh) (Nat.le_trans hh hb.size) hs hnd
  have C3 := fun w1 (hb : Below w.heap.size w w1) => h k n A cap lo hi d w1 (hk.below hb hh) (Nat.le_trans hh hb.size) hs hnd
  have hl := (txT_shape hs).1
  have hl2 : (txT k n s f).length ≤ 67108864 := by omega
  have HV := Lib.hid (lefT_of k n s f l hlv)
  have HQ := Lib.hid hq0
  have HB0 := Lib.hid hb0
  have H1 := Lib.hid C1
  have H2 := Lib.hid C2
  have H3 := Lib.hid C3
  have HE := Lib.hid (bra_str (txT k n s f))
  clear h C1 C2 C3 hk hs hnd hb0 hq0 hh hl hlv
  generalize txT k n s f = T at *
  generalize braT k n s f l = T2 at *
  generalize lefT k n s f l = R at *
  generalize f.len = len at *
  have back : ∀ w2, Below (w.alloc (.cells #[.int .i64 k, .int .i64 n, .string s, .slice A len cap] 29)).heap.size (w.alloc (.cells #[.int .i64 k, .int .i64 n, .string s, .slice A len cap] 29)) w2 → Below w.heap.size w w2 ∧ Blk w2 w.heap.size 29 #[.int .i64 k, .int .i64 n, .string s, .slice A len cap] := fun w2 hb => ⟨HB0.out.trans (hb.mono HB0.out.size), HQ.out.below hb HQ.out.lt⟩
  have HBK := Lib.hid back
  clear back
  cases hi1 : soleB k s len
  · rw [hi1] at H1 HV
    have HW : Hid (R = T2) := Lib.hid (by rw [HV.out, if_neg (by simp)])
    clear hi1 HV
    go_enter Tryd.func23, Tryd.ntmps23
    go_wp2_with fail
    refine (H1.out _).mono ?_
    rintro e w2 ⟨rfl, hb⟩
    obtain ⟨hbw, hq⟩ := HBK.out w2 hb
    clear x0 x1 x2 x3 hb
    obtain ⟨x0, x1, x2, x3⟩ := cells4i hq
    have HB2 := Lib.hid hbw
    clear hq hbw
    go_wp2_with fail
    refine (H2.out w2 HB2.out).mono ?_
    rintro e w3 ⟨rfl, hb⟩
    have HB3 := Lib.hid (HB2.out.trans (hb.mono HB2.out.size))
    clear hb
    go_wp2_with fail
    go_ret
    rw [HW.out]; exact ⟨rfl, HB3.out⟩
  · rw [hi1] at H1 HV
    have HW : Hid (R = braB T) := Lib.hid (by rw [HV.out, if_pos rfl])
    clear hi1 HV
    go_enter Tryd.func23, Tryd.ntmps23
    go_wp2_with fail
    refine (H1.out _).mono ?_
    rintro e w2 ⟨rfl, hb⟩
    obtain ⟨hbw, hq⟩ := HBK.out w2 hb
    clear x0 x1 x2 x3 hb
    obtain ⟨x0, x1, x2, x3⟩ := cells4i hq
    have HB2 := Lib.hid hbw
    clear hq hbw
    go_wp2_with fail
    refine (H3.out w2 HB2.out).mono ?_
    rintro e w3 ⟨rfl, hb⟩
    have HB3 := Lib.hid (HB2.out.trans (hb.mono HB2.out.size))
    clear hb
    go_wp2_with fail
    go_ret
    rw [HW.out]; exact ⟨congrArg Ending.returned HE.out, HB3.out⟩
set_option maxRecDepth 100000 in
set_option maxHeartbeats 2000000 in
/-- spec.l2Right. -/
theorem right_of (s : ByteArray) (f : Fr) (h : TxC s f) (k n l : Int) (hlv : 0 ≤ l ∧ l ≤ 3) (hpos : 0 < (txT k n s f).length) (A : Option Addr) (cap lo hi : Nat) (d : Int) (w : World) (hk : KidsAt w lo hi f A cap) (hh : hi ≤ w.heap.size) (hs : shapeT k n s f d = true) (hnd : nodes f ≤ 1048576) :
    Calls Tryd.prog 25 #[.agg #[.int .i64 k, .int .i64 n, .string s, .slice A f.len cap], .int .i64 l] w fun e w' => e = .returned (.string ⟨(rigT k n s f l).toArray⟩) ∧ Below w.heap.size w w' := by
  have hb0 : Below w.heap.size w (w.alloc (.cells #[.int .i64 k, .int .i64 n, .string s, .slice A f.len cap] 29)) := (Below.refl _ _).alloc (Nat.le_refl _) _
  have hq0 := Blk.new w 29 #[.int .i64 k, .int .i64 n, .string s, .slice A f.len cap]
  obtain ⟨x0, x1, x2, x3⟩ := cells4i hq0
  have C1 := fun w1 => sole_any k n s A f.len cap w1
  have C2 := fun w1 (hb : Below w.heap.size w w1) => bracket_of s f h k n l A cap lo hi d w1 (hk.below hb hh) (Nat.le_trans hh hb.size) hs hnd
  have hl := (txT_shape hs).1
  have hl2 : (braT k n s f l).length ≤ 67108864 := by have := (braT_len k n s f l).1; omega
  have hl3 := (braT_len k n s f l).2 hpos
  have C3 := fun w1 => plain_any ⟨(braT k n s f l).toArray⟩ w1 (by show (braT k n s f l).length ≤ _; unfold maxLen; omega) hl3
  have HV := Lib.hid (rigT_of k n s f l hlv)
  have HQ := Lib.hid hq0
  have HB0 := Lib.hid hb0
  have H1 := Lib.hid C1
  have H2 := Lib.hid C2
  have H3 := Lib.hid C3
  have HE := Lib.hid (bra_str (braT k n s f l))
  clear h C1 C2 C3 hk hs hnd hb0 hq0 hh hl hlv hpos
  generalize txT k n s f = T at *
  generalize braT k n s f l = T2 at *
  generalize rigT k n s f l = R at *
  generalize f.len = len at *
  have back : ∀ w2, Below (w.alloc (.cells #[.int .i64 k, .int .i64 n, .string s, .slice A len cap] 29)).heap.size (w.alloc (.cells #[.int .i64 k, .int .i64 n, .string s, .slice A len cap] 29)) w2 → Below w.heap.size w w2 ∧ Blk w2 w.heap.size 29 #[.int .i64 k, .int .i64 n, .string s, .slice A len cap] := fun w2 hb => ⟨HB0.out.trans (hb.mono HB0.out.size), HQ.out.below hb HQ.out.lt⟩
  have HBK := Lib.hid back
  clear back
  go_enter Tryd.func25, Tryd.ntmps25
  go_wp2_with fail
  refine (H2.out _ HB0.out).mono ?_
  rintro e w2 ⟨rfl, hb⟩
  obtain ⟨hbw, hq⟩ := HBK.out w2 hb
  clear x0 x1 x2 x3 hb
  obtain ⟨x0, x1, x2, x3⟩ := cells4i hq
  have HB2 := Lib.hid hbw
  have HQ2 := Lib.hid hq
  clear hq hbw
  cases hi1 : soleB k s len
  · rw [hi1] at H1 HV
    clear hi1
    cases hpl : plB T2
    · have e1 : plB (⟨T2.toArray⟩ : ByteArray).data.toList = false := by simpa using hpl
      rw [e1] at H3
      have HW : Hid (R = braB T2) := Lib.hid (by rw [HV.out, if_pos (.inr hpl)])
      clear hpl e1 HV
      go_wp2_with fail
      refine (H1.out w2).mono ?_
      rintro e w3 ⟨rfl, hb⟩
      have HB3 := Lib.hid (HB2.out.trans (hb.mono HB2.out.size))
      clear hb
      go_wp2_with (first | (go_at_call 39; refine (H3.out _).mono ?_; rintro e w' ⟨rfl, rfl⟩) | fail)
      go_ret
      rw [HW.out]; exact ⟨congrArg Ending.returned HE.out, HB3.out⟩
    · have e1 : plB (⟨T2.toArray⟩ : ByteArray).data.toList = true := by simpa using hpl
      rw [e1] at H3
      have HW : Hid (R = T2) := Lib.hid (by rw [HV.out, if_neg (by simp [hpl])])
      clear hpl e1 HV
      go_wp2_with fail
      refine (H1.out w2).mono ?_
      rintro e w3 ⟨rfl, hb⟩
      have HB3 := Lib.hid (HB2.out.trans (hb.mono HB2.out.size))
      clear hb
      go_wp2_with (first | (go_at_call 39; refine (H3.out _).mono ?_; rintro e w' ⟨rfl, rfl⟩) | fail)
      go_ret
      rw [HW.out]; exact ⟨rfl, HB3.out⟩
  · rw [hi1] at H1 HV
    have HW : Hid (R = braB T2) := Lib.hid (by rw [HV.out, if_pos (.inl rfl)])
    clear hi1 HV
    go_wp2_with fail
    refine (H1.out w2).mono ?_
    rintro e w3 ⟨rfl, hb⟩
    have HB3 := Lib.hid (HB2.out.trans (hb.mono HB2.out.size))
    clear hb
    go_wp2_with fail
    go_ret
    rw [HW.out]; exact ⟨congrArg Ending.returned HE.out, HB3.out⟩
end Go.Proofs.YtmgfndgmebignaaDoor.wr

/- Rows of terms whose arguments lie in memory: what append of terms that were there makes. No condition. -/
namespace Go.Proofs.YtmgfndgmebignaaDoor
open Go.RowKit

/-- The cells of a row of terms whose arguments lie in blocks from lo to hi. -/
def XD (w : World) (lo hi : Nat) : Fr → List Value → Prop
  | .nil, xs => xs = []
  | .cons k n s kids rest, xs => ∃ (A : Option Addr) (cap : Nat) (ys : List Value), xs = .int .i64 k :: .int .i64 n :: .string s :: .slice A kids.len cap :: ys ∧ Fits k n s ∧ KidsAt w lo hi kids A cap ∧ XD w lo hi rest ys
theorem XD.len {w : World} {lo hi : Nat} : ∀ (f : Fr) (xs : List Value), XD w lo hi f xs → xs.length = f.len * 4
  | .nil, xs, h => by obtain rfl : xs = [] := h; rfl
  | .cons k n s kids rest, xs, h => by
    obtain ⟨A, cap, ys, rfl, _, _, h⟩ := h
    have := XD.len rest ys h
    simp only [List.length_cons, Fr.len, this]; omega
theorem XD.snoc {w : World} {lo hi : Nat} {k n : Int} {s : ByteArray} {kids : Fr} {A : Option Addr} {cap : Nat} (hf : Fits k n s) (hk : KidsAt w lo hi kids A cap) :
    ∀ (f : Fr) (xs : List Value), XD w lo hi f xs → XD w lo hi (f.app (.cons k n s kids .nil)) (xs ++ [.int .i64 k, .int .i64 n, .string s, .slice A kids.len cap])
  | .nil, xs, h => by obtain rfl : xs = [] := h; exact ⟨A, cap, [], rfl, hf, hk, rfl⟩
  | .cons k' n' s' kids' rest, xs, h => by
    obtain ⟨A', cap', ys, rfl, hf', hk', h⟩ := h
    exact ⟨A', cap', _, rfl, hf', hk', XD.snoc hf hk rest ys h⟩
theorem XD.row {w w' : World} {lo hi lo2 hi2 g : Nat} (hkeep : ∀ p : Addr, lo ≤ p.block → p.block < hi → w'.cell? p = w.cell? p) (hlo : lo2 ≤ lo) (hhi : hi ≤ hi2) :
    ∀ (f : Fr) (xs : List Value) (o : Nat), XD w lo hi f xs → (∀ j u, xs[j]? = some u → w'.cell? ⟨g, o + j, none⟩ = some u) → RowAt w' lo2 hi2 f g o
  | .nil, _, _, _, _ => trivial
  | .cons k n s kids rest, xs, o, h, hc => by
    obtain ⟨A, cap, ys, rfl, hf, hk, h⟩ := h
    refine ⟨hf, ⟨A, cap, ⟨hc 0 _ rfl, hc 1 _ rfl, hc 2 _ rfl, hc 3 _ rfl⟩, hk.1, hk.2.1, ?_⟩, XD.row hkeep hlo hhi rest ys (o + 4) h fun j u hj => ?_⟩
    · exact ((hk.keep hkeep).more hlo hhi).2.2
    · have := hc (j + 4) u (by simpa using hj)
      rw [show o + (j + 4) = o + 4 + j by omega] at this
      exact this
theorem XD.kids {w wr : World} {lo hi base : Nat} {f : Fr} {xs : List Value} {v : Value} (h : XD w lo hi f xs) (ho : wr.ownsRow base 29 4 v f.len xs) (hkeep : ∀ p : Addr, lo ≤ p.block → p.block < hi → wr.cell? p = w.cell? p) (hlo : lo ≤ base) (hhi : hi ≤ wr.heap.size) :
    ∃ A cap, v = .slice A f.len cap ∧ KidsAt wr lo wr.heap.size f A cap := by
  have hl := ho.lt
  rcases ho.2 with ⟨rfl, h0⟩ | ⟨g, cap, cur, rfl, hbg, hg, hnc, hcm, hcs, htake⟩
  · exact ⟨none, 0, by rw [h0], by omega, Nat.zero_le _, fun hp => by omega⟩
  · refine ⟨some ⟨g, 0, none⟩, cap, rfl, hnc, hcm, fun _ => ⟨g, 0, rfl, by omega, (hl g rfl).2, XD.row hkeep (Nat.le_refl _) hhi f xs 0 h fun j u hj => ?_⟩⟩
    have h3 := World.ownsRow.cells ho (g := g) rfl j u hj
    have e : (⟨g, 0, none⟩ : Addr).add j = ⟨g, 0 + j, none⟩ := by unfold Addr.add; split <;> simp_all
    rwa [e] at h3
end Go.Proofs.YtmgfndgmebignaaDoor

/- The model's texts with operators: spec.l2Args, l2List, l2Text, WriteTerm. Condition: the term lies in memory. -/
namespace Go.Proofs.YtmgfndgmebignaaDoor.wr
open Go.RowKit

set_option maxRecDepth 100000 in
set_option maxHeartbeats 4000000 in
/-- spec.l2Args. -/
theorem args_of (F : Fr) (h : ∀ j k n s kids rest, F.drop j = .cons k n s kids rest → TxC s kids) (d : Int) (A : Option Addr) (cap lo hi : Nat) (w : World) (hk : KidsAt w lo hi F A cap) (hh : hi ≤ w.heap.size) (hs : shapeF F d = true) (hnd : nodes F ≤ 1048576) (hl : (remB 0 F).length ≤ 67108864) :
    Calls Tryd.prog 26 #[.slice A F.len cap] w fun e w' => e = .returned (.string ⟨(remB 0 F).toArray⟩) ∧ Below w.heap.size w w' := by
  have hlen : F.len ≤ 1048576 := by have := len_le_nodes F; omega
  have H := Lib.hid h
  have HK := Lib.hid hk
  have HHI := Lib.hid hh
  have HSH := Lib.hid hs
  have HND := Lib.hid hnd
  clear h hk hh hs hnd
  generalize hn : F.len = len at *
  have HN := Lib.hid hn
  clear hn
  go_enter Tryd.func26, Tryd.ntmps26
  go_wp2_with fail
  go_loopw [3, 4] (fun ov i wr => ∃ (j : Nat) (L : List UInt8), j ≤ len ∧ i = .int .i64 j ∧ ov = .string ⟨L.toArray⟩ ∧ L ++ remB j (F.drop j) = remB 0 F ∧ Below w.heap.size w wr) (fun _ i _ => len - (intOf i).toNat)
  case atStart => exact ⟨0, [], Nat.zero_le _, rfl, rfl, rfl, Below.refl _ _⟩
  case round =>
    obtain ⟨j, L, hj, rfl, rfl, hL, hb⟩ := hrel
    have HLE := Lib.hid hL
    have HB := Lib.hid hb
    have hLl : L.length + (remB j (F.drop j)).length ≤ 67108864 := by have := congrArg List.length hL; simp only [List.length_append] at this; omega
    clear hL
    by_cases hlt : j < len
    · obtain ⟨kk, nn, ss, kids, hd⟩ := Fr.drop_cons j F (by rw [HN.out]; exact hlt)
      obtain ⟨b, o, rfl, hlb, hbb, hrow⟩ := HK.out.2.2 (by rw [HN.out]; omega)
      obtain ⟨hfit, A', cp, c0, c1, c2, c3, hkid⟩ := hrow.elem hd
      have hlo : (⟨b, o, none⟩ : Addr).block < w.heap.size := Nat.lt_of_lt_of_le hbb HHI.out
      have k0 := (hb.cell (p := ⟨b, o + j * 4, none⟩) hlo).trans c0
      have k1 := (hb.cell (p := ⟨b, o + j * 4 + 1, none⟩) hlo).trans c1
      have k2 := (hb.cell (p := ⟨b, o + j * 4 + 2, none⟩) hlo).trans c2
      have k3 := (hb.cell (p := ⟨b, o + j * 4 + 3, none⟩) hlo).trans c3
      have C3 := H.out j _ _ _ _ _ hd kk nn A' cp lo hi _ wr (hkid.below hb HHI.out) (Nat.le_trans HHI.out hb.size) (shape_drop F j _ hd HSH.out) (Nat.le_trans (nodes_drop_elem j F hd) HND.out)
      have hL2 := HLE.out
      have H3 := Lib.hid C3
      by_cases hj0 : j = 0
      · subst hj0
        rw [hd, remB_zero] at hL2 hLl
        have HL2 := Lib.hid hL2
        clear C3 c0 c1 c2 c3 hkid hrow hfit hd hlo hL2 hb
        generalize txT kk nn ss kids = T at *
        have hTl : L.length + T.length ≤ 67108864 := by simp only [List.length_append] at hLl; omega
        have HSTR : Hid ((.string (⟨L.toArray⟩ ++ ⟨T.toArray⟩) : Value) = .string ⟨(L ++ T).toArray⟩) := Lib.hid (str_app L T)
        have HL3 : Hid ((L ++ T) ++ remB (0 + 1) (F.drop (0 + 1)) = remB 0 F) := Lib.hid (by rw [← HL2.out]; simp)
        simp only [Nat.zero_mul, Nat.add_zero] at k0 k1 k2 k3
        go_wp2_with fail
        refine H3.out.mono ?_
        rintro e w3 ⟨rfl, hb3⟩
        have HB3 := Lib.hid (HB.out.trans (hb3.mono HB.out.size))
        clear hb3
        go_wp2_with fail
        go_roundw
        case rel => exact ⟨0 + 1, L ++ T, by omega, by go_num, HSTR.out, HL3.out, HB3.out⟩
        case measure => simp [intOf]; omega
      · rw [hd, remB_step j hj0] at hL2 hLl
        have HL2 := Lib.hid hL2
        clear C3 c0 c1 c2 c3 hkid hrow hfit hd hlo hL2 hb
        generalize txT kk nn ss kids = T at *
        have hTl : L.length + 1 + T.length ≤ 67108864 := by simp only [List.length_append, List.length_cons] at hLl; omega
        have t0 : (0 : Int) < (j : Int) := by omega
        have HSTR : Hid ((.string ((⟨L.toArray⟩ ++ ⟨#[44]⟩) ++ ⟨T.toArray⟩) : Value) = .string ⟨(L ++ 44 :: T).toArray⟩) := Lib.hid (by
          rw [show (⟨#[44]⟩ : ByteArray) = ⟨[44].toArray⟩ from rfl, ByteArray.mk_append_mk, ByteArray.mk_append_mk]
          simp)
        have HL3 : Hid ((L ++ 44 :: T) ++ remB (j + 1) (F.drop (j + 1)) = remB 0 F) := Lib.hid (by rw [← HL2.out]; simp)
        clear hj0
        go_wp2_with fail
        refine H3.out.mono ?_
        rintro e w3 ⟨rfl, hb3⟩
        have HB3 := Lib.hid (HB.out.trans (hb3.mono HB.out.size))
        clear hb3
        go_wp2_with fail
        go_roundw
        case rel => exact ⟨j + 1, L ++ 44 :: T, by omega, by go_num, HSTR.out, HL3.out, HB3.out⟩
        case measure => simp [intOf]; omega
    · obtain rfl : j = len := by omega
      have hLL : L = remB 0 F := by
        have h1 := Fr.drop_len F
        rw [HN.out] at h1
        rw [← HLE.out, h1, remB_nil, List.append_nil]
      have HLL := Lib.hid hLL
      clear hb hLL hLl
      go_wp2_with fail
      go_ret
      rw [← HLL.out]
      exact ⟨rfl, HB.out⟩

/-- The loop's relation: the term that is looked at lies in block H; its elements before it lie in the row v. -/
def LiP (w : World) (lo hi H : Nat) (F T : Fr) (k n : Int) (s : ByteArray) (f : Fr) (A : Option Addr) (cap : Nat) (acc : Fr) (v : Value) (wr : World) : Prop :=
  Blk wr H 29 #[.int .i64 k, .int .i64 n, .string s, .slice A f.len cap] ∧ KidsAt w lo hi f A cap ∧ (∃ xs, wr.ownsRow (H + 1) 29 4 v acc.len xs ∧ XD w lo hi acc xs) ∧ acc.app (fronts k s f) = F ∧ tails k n s f = T ∧ Below w.heap.size w wr ∧ H + 1 ≤ wr.heap.size ∧ w.heap.size ≤ H
theorem LiP.below {w wr w1 : World} {lo hi H : Nat} {F T : Fr} {k n : Int} {s : ByteArray} {f : Fr} {A : Option Addr} {cap : Nat} {acc : Fr} {v : Value}
    (h : LiP w lo hi H F T k n s f A cap acc v wr) (hb : Below wr.heap.size wr w1) : LiP w lo hi H F T k n s f A cap acc v w1 := by
  obtain ⟨b0, hk, ⟨xs, ho, hx⟩, hF, hT, hbw, hs, hH⟩ := h
  exact ⟨b0.below hb (by omega), hk, ⟨xs, ho.kept (row := none) ⟨hb.os, hb.tape, hb.output, hb.size, fun k hk _ => hb.block k hk⟩ (by cases v.ownBlock <;> simp), hx⟩, hF, hT, hbw.trans (hb.mono hbw.size), Nat.le_trans hs hb.size, hH⟩
/-- One element more. -/
theorem LiP.step {w wr w4 : World} {lo hi H : Nat} {F T : Fr} {k n : Int} {s : ByteArray} {k1 n1 k2 n2 : Int} {s1 s2 : ByteArray} {kd1 kd2 : Fr} {A A1 A2 : Option Addr} {cap cap1 cap2 : Nat} {acc : Fr} {v : Value} {xs : List Value} {g cap4 : Nat} {o : Obj}
    (h : LiP w lo hi H F T k n s (.cons k1 n1 s1 kd1 (.cons k2 n2 s2 kd2 .nil)) A cap acc v wr) (hp : pairB k s 2 = true) (hx : XD w lo hi acc xs) (hvl : ∀ g, v.ownBlock = some g → H + 1 ≤ g ∧ g < wr.heap.size)
    (hf1 : Fits k1 n1 s1) (hk1 : KidsAt w lo hi kd1 A1 cap1) (hg : (wr.alloc o).grownBy w4 v.ownBlock)
    (ho : w4.ownsRow (H + 1) 29 4 (.slice (some ⟨g, 0, none⟩) (acc.len + 1) cap4) (acc.len + 1) (xs ++ [.int .i64 k1, .int .i64 n1, .string s1, .slice A1 kd1.len cap1])) (hk2 : KidsAt w lo hi kd2 A2 cap2) :
    LiP w lo hi H F T k2 n2 s2 kd2 A2 cap2 (acc.app (.cons k1 n1 s1 kd1 .nil)) (.slice (some ⟨g, 0, none⟩) (acc.len + 1) cap4) ((((w4.setCell ⟨H, 0, none⟩ (.int .i64 k2)).setCell ⟨H, 1, none⟩ (.int .i64 n2)).setCell ⟨H, 2, none⟩ (.string s2)).setCell ⟨H, 3, none⟩ (.slice A2 kd2.len cap2)) := by
  obtain ⟨b0, hk, _, hF, hT, hb, hs, hH⟩ := h
  have hb1 : Below wr.heap.size wr (wr.alloc o) := (Below.refl _ _).alloc (Nat.le_refl _) _
  have s1' := hb1.size
  have s4' := hg.size
  have far : w4.heap[H]? = wr.heap[H]? := by
    rw [hg.block H (by omega) fun e => by have := (hvl H e.symm).1; omega, hb1.block H (by omega)]
  have hbw : Below w.heap.size w w4 := by
    have h2 := hb.trans (hb1.mono hb.size)
    refine h2.grown hg h2.size fun g hg => ?_
    have := (hvl g hg).1; omega
  have hlen : (acc.app (.cons k1 n1 s1 kd1 .nil)).len = acc.len + 1 := by rw [Fr.len_app]; rfl
  have hF' : (acc.app (.cons k1 n1 s1 kd1 .nil)).app (fronts k2 s2 kd2) = F := by
    rw [← hF, fronts, if_pos hp, app_assoc]; rfl
  have hT' : tails k2 n2 s2 kd2 = T := by rw [← hT, tails, if_pos hp]
  have hset : ∀ (w5 : World) (i : Nat) (u : Value), w5.ownsRow (H + 1) 29 4 (.slice (some ⟨g, 0, none⟩) (acc.len + 1) cap4) (acc.len + 1) (xs ++ [.int .i64 k1, .int .i64 n1, .string s1, .slice A1 kd1.len cap1]) →
      (w5.setCell ⟨H, i, none⟩ u).ownsRow (H + 1) 29 4 (.slice (some ⟨g, 0, none⟩) (acc.len + 1) cap4) (acc.len + 1) (xs ++ [.int .i64 k1, .int .i64 n1, .string s1, .slice A1 kd1.len cap1]) := fun w5 i u h5 =>
    h5.kept (row := some H) ⟨rfl, rfl, rfl, by simp [World.setCell], fun k _ hk => heap_setCell_other _ _ _ _ fun e => hk (by rw [e])⟩ (.inr fun e => by
      have := (h5.lt H e).1; omega)
  refine ⟨((((b0.keep far).set_ 0 _).set_ 1 _).set_ 2 _).set_ 3 _, hk2, ⟨_, by rw [hlen]; exact hset _ 3 _ (hset _ 2 _ (hset _ 1 _ (hset _ 0 _ ho))), XD.snoc hf1 hk1 acc xs hx⟩, hF', hT', (((hbw.setCell hH _).setCell hH _).setCell hH _).setCell hH _, ?_, hH⟩
  simp only [World.setCell, Array.size_modify]
  omega
theorem LiP.done {w wr : World} {lo hi H : Nat} {F T : Fr} {k n : Int} {s : ByteArray} {f : Fr} {A : Option Addr} {cap : Nat} {acc : Fr} {v : Value}
    (h : LiP w lo hi H F T k n s f A cap acc v wr) (hp : pairB k s f.len = false) (hh : hi ≤ w.heap.size) (hlo : lo ≤ w.heap.size) : ∃ A2 cap2, v = .slice A2 F.len cap2 ∧ KidsAt wr lo wr.heap.size F A2 cap2 := by
  obtain ⟨b0, hk, ⟨xs, ho, hx⟩, hF, hT, hbw, hs, hH⟩ := h
  rw [(pair_no n hp).1, app_nil] at hF
  subst hF
  exact hx.kids ho (fun p _ hp => hbw.cell (by omega)) (by omega) (Nat.le_trans hh hbw.size)
end Go.Proofs.YtmgfndgmebignaaDoor.wr
