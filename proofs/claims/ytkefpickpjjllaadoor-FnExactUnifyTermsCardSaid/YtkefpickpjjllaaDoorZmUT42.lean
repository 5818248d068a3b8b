/- budget.fits, impl.validTermOf. Condition: the nodes lie in memory; their names and numbers are right. -/
import Derived.Test.YtkefpickpjjllaaDoorProg
import Derived.Test.YtkefpickpjjllaaDoorAs
import Derived.Test.YtkefpickpjjllaaDoorTermOf
import Derived.Test.YtkefpickpjjllaaDoorMake
import Derived.Test.YtkefpickpjjllaaDoorTb
namespace Go.Proofs.YtkefpickpjjllaaDoor
open Go.RowKit

/-- The node's own fields are such as nodes have, whatever the limits. -/
def wfT (k n : Int) (s : ByteArray) (len : Nat) : Bool :=
  (k == 1 && (decide (-9223372036854775808 ≤ n) && decide (n ≤ 9223372036854775807) && noName s && (len == 0))) || (k == 2 && (decide (-999 ≤ n) && decide (n ≤ 999) && noName s && (len == 0))) || (k == 3 && ((n == 0) && nv.nameB s.data.toList))
def wfF : Fr → Bool
  | .nil => true
  | .cons k n s kids rest => (wfT k n s kids.len && wfF kids) && wfF rest
theorem wfF_cons (k n : Int) (s : ByteArray) (kids rest : Fr) : wfF (.cons k n s kids rest) = ((wfT k n s kids.len && wfF kids) && wfF rest) := rfl
theorem wfT_leaf {k n : Int} {s : ByteArray} {f : Fr} (h : wfT k n s f.len = true) (hk : k ≠ 3) : s = ⟨#[]⟩ ∧ f = .nil ∧ (-9223372036854775808 ≤ n ∧ n ≤ 9223372036854775807) ∧ (k = 2 → -999 ≤ n ∧ n ≤ 999) := by
  unfold wfT at h
  simp only [Bool.and_eq_true, Bool.or_eq_true, decide_eq_true_eq, beq_iff_eq] at h
  have hf : f.len = 0 → f = .nil := fun h0 => by
    cases f with
    | nil => rfl
    | cons _ _ _ _ _ => simp [Fr.len] at h0
  rcases h with (⟨h0, ⟨⟨h1, h2⟩, h3⟩, h4⟩ | ⟨h0, ⟨⟨h1, h2⟩, h3⟩, h4⟩) | ⟨h, _⟩
  · exact ⟨noName_eq h3, hf h4, by omega, by omega⟩
  · exact ⟨noName_eq h3, hf h4, by omega, by omega⟩
  · exact absurd h hk
theorem wfT_three {n : Int} {s : ByteArray} {l : Nat} (h : wfT 3 n s l = true) : n = 0 ∧ nv.nameB s.data.toList = true := by
  unfold wfT at h
  simp only [Bool.and_eq_true, Bool.or_eq_true, decide_eq_true_eq, beq_iff_eq] at h
  rcases h with (⟨h, _⟩ | ⟨h, _⟩) | ⟨_, h1, h2⟩
  · omega
  · omega
  · exact ⟨h1, h2⟩
theorem okT_var (n d left : Int) (h0 : 0 < left) (hd : d ≤ 30) : okT 1 n ⟨#[]⟩ .nil d left = (decide (0 ≤ n) && decide (n ≤ 25)) := by
  unfold okT shapeT ownB
  rw [decide_eq_true (show (1 : Int) ≤ 31 - d by omega), decide_eq_true (show ((nodes .nil : Nat) : Int) + 1 ≤ left by show (0 : Int) + 1 ≤ left; omega)]
  rw [show (noName ⟨#[]⟩) = true from rfl, show (Fr.nil.len == 0) = true from rfl, show shapeF .nil (31 - d - 1) = true from rfl]
  simp
theorem okT_num (n d left : Int) (h0 : 0 < left) (hd : d ≤ 30) (h1 : -999 ≤ n) (h2 : n ≤ 999) : okT 2 n ⟨#[]⟩ .nil d left = true := by
  unfold okT shapeT ownB
  rw [decide_eq_true (show (1 : Int) ≤ 31 - d by omega), decide_eq_true (show ((nodes .nil : Nat) : Int) + 1 ≤ left by show (0 : Int) + 1 ≤ left; omega)]
  rw [show (noName ⟨#[]⟩) = true from rfl, show (Fr.nil.len == 0) = true from rfl, show shapeF .nil (31 - d - 1) = true from rfl, decide_eq_true h1, decide_eq_true h2]
  simp
theorem okT_none (k n : Int) (s : ByteArray) (f : Fr) (d left : Int) (h : 30 < d ∨ left = 0) : okT k n s f d left = false := by
  unfold okT shapeT
  rcases h with h | h
  · rw [decide_eq_false (show ¬ (1 : Int) ≤ 31 - d by omega)]; rfl
  · subst h
    rw [decide_eq_false (show ¬ (nodes f : Int) + 1 ≤ 0 by omega)]; simp

/-- What fits leaves. -/
def FtRes (w : World) (mb : Nat) (ok : Bool) (l : Int) (e : Ending) (w' : World) : Prop :=
  e = .returned (.bool ok) ∧ w.grownBy w' (some mb) ∧ (∃ l', Blk w' mb 99 #[.int .i64 l'] ∧ (ok = true → l' = l))
def FtT (s : ByteArray) (f : Fr) : Prop := ∀ (k n d left : Int) (v : Value) (lo hi mb : Nat) (w : World), wfT k n s f.len = true → wfF f = true → NdV w lo hi k n s f v → hi ≤ w.heap.size → hi ≤ mb → nodes f ≤ 1048576 →
  Blk w mb 99 #[.int .i64 left] → 0 ≤ left → left ≤ 120 → 1 ≤ d → d ≤ 31 →
  Calls Tryd.prog 54 #[.pointer (some ⟨mb, 0, none⟩), v, .int .i64 d] w fun e w' => FtRes w mb (okT k n s f d left) (left - (nodes f + 1)) e w'

set_option maxRecDepth 100000 in
set_option maxHeartbeats 4000000 in
theorem ftT_of (s : ByteArray) (f : Fr) (h : ∀ i k n s kids rest, f.drop i = .cons k n s kids rest → FtT s kids) : FtT s f := by
  intro k n d left v lo hi mb w hwf hwk hv hh hmb hnd hblk hl0 hl1 hd0 hd1
  have hmlt := hblk.lt
  by_cases c1 : 30 < d ∨ left = 0
  · have HV : Hid (okT k n s f d left = false) := Lib.hid (okT_none k n s f d left c1)
    have HB := Lib.hid hblk
    obtain ⟨T, x, rfl⟩ := hv.iface
    clear h hv hblk hwf hwk
    go_enter Tryd.func54, Tryd.ntmps54
    go_wp2_with fail
    refine (take_no d _ mb _ HB.out c1).mono ?_
    rintro e w2 ⟨rfl, rfl⟩
    go_wp2_with fail
    go_ret
    rw [HV.out]
    exact ⟨rfl, World.grownBy.refl _ _, left, HB.out, fun h => by cases h⟩
  · have T1 := take_yes d left mb w hblk (by omega) hl1 (by omega)
    have HT1 := Lib.hid T1
    clear T1 hblk
    rcases hv with ⟨rfl, rfl⟩ | ⟨rfl, rfl⟩ | ⟨rfl, A, cap, rfl, hk⟩
    · obtain ⟨rfl, rfl, hn, _⟩ := wfT_leaf hwf (by omega)
      have HV := Lib.hid (okT_var n d left (by omega) (by omega))
      have HL : Hid (left - ((nodes .nil : Int) + 1) = left - 1) := Lib.hid (by show left - (0 + 1) = left - 1; omega)
      clear h hwf hwk hnd
      rcases (show n < 0 ∨ (0 ≤ n ∧ 25 < n) ∨ (0 ≤ n ∧ n ≤ 25) by omega) with r1 | ⟨r1, r2⟩ | ⟨r1, r2⟩
      · have HE : Hid (okT 1 n ⟨#[]⟩ .nil d left = false) := Lib.hid (by rw [HV.out, decide_eq_false (by omega)]; rfl)
        clear HV
        go_enter Tryd.func54, Tryd.ntmps54
        go_wp2_with fail
        refine HT1.out.mono ?_
        rintro e w2 ⟨rfl, hg2, _, hq2⟩
        have HG2 := Lib.hid hg2
        have HQ2 := Lib.hid hq2
        clear hg2 hq2
        go_wp2_with fail
        go_ret
        rw [HE.out]
        exact ⟨rfl, HG2.out, _, HQ2.out, fun h => by cases h⟩
      · have HE : Hid (okT 1 n ⟨#[]⟩ .nil d left = false) := Lib.hid (by rw [HV.out, decide_eq_false (show ¬ n ≤ 25 by omega)]; simp)
        clear HV
        have d2 : decide (n ≤ 25) = false := decide_eq_false (by omega)
        go_enter Tryd.func54, Tryd.ntmps54
        go_wp2_with fail
        refine HT1.out.mono ?_
        rintro e w2 ⟨rfl, hg2, _, hq2⟩
        have HG2 := Lib.hid hg2
        have HQ2 := Lib.hid hq2
        clear hg2 hq2
        go_wp2_with fail
        go_ret
        rw [HE.out]
        exact ⟨rfl, HG2.out, _, HQ2.out, fun h => by cases h⟩
      · have HE : Hid (okT 1 n ⟨#[]⟩ .nil d left = true) := Lib.hid (by rw [HV.out, decide_eq_true r1, decide_eq_true r2]; rfl)
        clear HV
        have d2 : decide (n ≤ 25) = true := decide_eq_true r2
        go_enter Tryd.func54, Tryd.ntmps54
        go_wp2_with fail
        refine HT1.out.mono ?_
        rintro e w2 ⟨rfl, hg2, _, hq2⟩
        have HG2 := Lib.hid hg2
        have HQ2 := Lib.hid hq2
        clear hg2 hq2
        go_wp2_with fail
        go_ret
        rw [HE.out]
        exact ⟨rfl, HG2.out, _, HQ2.out, fun _ => HL.out.symm⟩
    · obtain ⟨rfl, rfl, _, hn⟩ := wfT_leaf hwf (by omega)
      have hn := hn rfl
      have HE := Lib.hid (okT_num n d left (by omega) (by omega) hn.1 hn.2)
      have HL : Hid (left - ((nodes .nil : Int) + 1) = left - 1) := Lib.hid (by show left - (0 + 1) = left - 1; omega)
      clear h hwf hwk hnd
      go_enter Tryd.func54, Tryd.ntmps54
      go_wp2_with fail
      refine HT1.out.mono ?_
      rintro e w2 ⟨rfl, hg2, _, hq2⟩
      have HG2 := Lib.hid hg2
      have HQ2 := Lib.hid hq2
      clear hg2 hq2
      go_wp2_with fail
      go_ret
      rw [HE.out]
      exact ⟨rfl, HG2.out, _, HQ2.out, fun _ => HL.out.symm⟩
    · obtain ⟨rfl, hnm⟩ := wfT_three hwf
      have hl := hk.1
      have hm := hk.2.1
      unfold maxLen at hm
      have HOK : Hid (okT 3 0 s f d left = (decide (f.len ≤ 4) && okF f (d + 1) (left - 1))) := Lib.hid (by
        rw [okT_three 0 s f d left (by omega)]
        unfold okS
        rw [hnm]; simp)
      have HK := Lib.hid hk
      have HH := Lib.hid h
      have HND := Lib.hid hnd
      have HWK := Lib.hid hwk
      by_cases c2 : 4 < f.len
      · have HE : Hid (okT 3 0 s f d left = false) := Lib.hid (by rw [HOK.out, decide_eq_false (show ¬ f.len ≤ 4 by omega)]; rfl)
        clear hk h hnd hwk hwf hnm HOK
        go_enter Tryd.func54, Tryd.ntmps54
        go_wp2_with fail
        refine HT1.out.mono ?_
        rintro e w2 ⟨rfl, hg2, hs2, hq2⟩
        have HG2 := Lib.hid hg2
        have HQ2 := Lib.hid hq2
        clear hg2 hq2
        go_wp2_with fail
        go_ret
        rw [HE.out]
        exact ⟨rfl, grownBy_alloc' HG2.out _, _, HQ2.out.alloc _, fun h => by cases h⟩
      · have HV : Hid (okT 3 0 s f d left = okF f (d + 1) (left - 1)) := Lib.hid (by rw [HOK.out, decide_eq_true (show f.len ≤ 4 by omega)]; rfl)
        have hv0 : okF f (d + 1) (left - 1) = okF f (d + 1) (left - 1) := rfl
        generalize hv : okF f (d + 1) (left - 1) = v at *
        have HV0 := Lib.hid hv
        clear hk h hnd hwk hwf hnm HOK hv hv0
        have hfl : f.len ≤ 4 := by omega
        generalize hn : f.len = len at *
        have HN := Lib.hid hn
        clear hn
        go_enter Tryd.func54, Tryd.ntmps54
        go_wp2_with fail
        refine HT1.out.mono ?_
        rintro e w2 ⟨rfl, hg2, hs2, hq2⟩
        have hbx := (Blk.new w2 105 #[.string s, .slice A len cap])
        have hq3 := hq2.alloc (.cells #[.string s, .slice A len cap] 105)
        have hg3 := grownBy_alloc' hg2 (.cells #[.string s, .slice A len cap] 105)
        rw [hs2] at hbx
        have HBX := Lib.hid hbx
        have HQ3 := Lib.hid hq3
        have HG3 := Lib.hid hg3
        clear hg2 hq2 hbx hq3 hg3
        go_wp2_with fail
        have hsz := HG3.out.size
        generalize w2.alloc (.cells #[.string s, .slice A len cap] 105) = w3 at *
        go_loopw [35] (fun i wr => ∃ (j : Nat) (l' : Int), j ≤ len ∧ i = .int .i64 j ∧ okF (f.drop j) (d + 1) l' = v ∧ l' - nodes (f.drop j) = left - 1 - nodes f ∧ 0 ≤ l' ∧ l' ≤ 120 ∧ wfF (f.drop j) = true ∧ w.grownBy wr (some mb) ∧ Blk wr mb 99 #[.int .i64 l']) (fun i _ => len - (intOf i).toNat)
        case atStart => exact ⟨0, left - 1, Nat.zero_le _, rfl, HV0.out, rfl, by omega, by omega, HWK.out, HG3.out, HQ3.out⟩
        case round =>
          obtain ⟨j, l', hj, rfl, hv, hcnt, hl0', hl1', hwf', hgr, hq⟩ := hrel
          by_cases hlt : j < len
          · obtain ⟨kk, nn, s', kids, hd'⟩ := Fr.drop_cons j f (by rw [HN.out]; exact hlt)
            obtain ⟨b, rfl, hlb, hbb, hrow⟩ := HK.out.2.2 (by rw [HN.out]; omega)
            obtain ⟨vv, hcell, hnv⟩ := hrow.elem hd'
            rw [Nat.zero_add] at hcell
            have hne := nodes_elem j f hd'
            have hndf := HND.out
            rw [hd', okF_cons] at hv
            rw [hd'] at hcnt
            simp only [nodes] at hcnt
            rw [hd', wfF_cons, Bool.and_eq_true, Bool.and_eq_true] at hwf'
            have hkeep : ∀ p : Addr, p.block < hi → wr.cell? p = w.cell? p := fun p hp => cell_grownBy hgr (by omega) (by omega)
            have k0 := (hkeep ⟨b, j, none⟩ hbb).trans hcell
            have C1 := HH.out _ _ _ _ _ _ hd' kk nn (d + 1) l' vv lo hi mb wr hwf'.1.1 hwf'.1.2 (hnv.keep (fun p _ hp => hkeep p hp) (Nat.le_refl _) (Nat.le_refl _)) (Nat.le_trans hh hgr.size) hmb (by omega) hq hl0' hl1' (by omega) (by omega)
            have HR : Hid (okT kk nn s' kids (d + 1) l' = true → (nodes kids : Int) + 1 ≤ l') := Lib.hid (okT_range kk nn s' kids (d + 1) l')
            generalize okT kk nn s' kids (d + 1) l' = t at *
            obtain ⟨T, x, rfl⟩ := hnv.iface
            have H1 := Lib.hid C1
            have HE := Lib.hid hv
            have HCN := Lib.hid hcnt
            have HGR := Lib.hid hgr
            have HWF := Lib.hid hwf'.2
            clear C1 hv hcnt hgr hq hwf' hcell hrow hnv hkeep hne hndf
            go_wp2_with fail
            refine H1.out.mono ?_
            rintro e w4 ⟨rfl, hg4, l2, hq4, hl2⟩
            cases t
            · have HF : Hid (v = false) := Lib.hid (by rw [← HE.out]; rfl)
              have HG4 := Lib.hid (grownBy_trans HGR.out hg4)
              have HQ4 := Lib.hid hq4
              clear hg4 hq4 hl2 k0
              go_wp2_with fail
              go_ret
              rw [HV.out, HF.out]
              exact ⟨rfl, HG4.out, l2, HQ4.out, fun h => by cases h⟩
            · have hl3 := hl2 rfl
              subst hl3
              have HF : Hid (okF (f.drop (j + 1)) (d + 1) (l' - (nodes kids + 1)) = v) := Lib.hid (by rw [← HE.out]; rfl)
              have hr1 := HR.out rfl
              have hcn := HCN.out
              have HF2 : Hid (l' - ((nodes kids : Int) + 1) - nodes (f.drop (j + 1)) = left - 1 - nodes f) := Lib.hid (by omega)
              have HG4 := Lib.hid (grownBy_trans HGR.out hg4)
              have HQ4 := Lib.hid hq4
              clear hg4 hq4 hl2 k0 hcn
              go_wp2_with fail
              go_roundw
              case rel => exact ⟨j + 1, _, by omega, by go_num, HF.out, HF2.out, by omega, by omega, HWF.out, HG4.out, HQ4.out⟩
              case measure => simp [intOf]; omega
          · obtain rfl : j = len := by omega
            have h1 := Fr.drop_len f
            rw [HN.out] at h1
            rw [h1] at hv hcnt
            have HE : Hid (v = true) := Lib.hid (by rw [← hv]; exact okF_nil _ _ hl0')
            have HL : Hid (l' = left - (nodes f + 1)) := Lib.hid (by
              have : nodes .nil = 0 := rfl
              rw [this] at hcnt; omega)
            have HGR := Lib.hid hgr
            have HQ := Lib.hid hq
            clear hv hcnt hgr hq hwf' h1
            go_wp2_with fail
            go_ret
            rw [HV.out, HE.out]
            exact ⟨rfl, HGR.out, l', HQ.out, fun _ => HL.out⟩
theorem ft_all (N : Nat) : ∀ (s : ByteArray) (f : Fr), f.size ≤ N → FtT s f := by
  induction N with
  | zero =>
    intro s f hf
    refine ftT_of s f fun i k n s kids rest hd => ?_
    have h1 := Fr.size_drop i f
    rw [hd] at h1
    simp only [Fr.size] at h1
    omega
  | succ N ih =>
    intro s f hf
    refine ftT_of s f fun i k n s kids rest hd => ih s kids ?_
    have h1 := Fr.size_drop i f
    rw [hd] at h1
    simp only [Fr.size] at h1
    omega
/-- budget.fits. -/
theorem ftT_any (s : ByteArray) (f : Fr) : FtT s f := ft_all f.size s f (Nat.le_refl _)
end Go.Proofs.YtkefpickpjjllaaDoor

/- impl.validTermOf. Condition: the nodes lie in memory; their names and numbers are right. -/
namespace Go.Proofs.YtkefpickpjjllaaDoor
open Go.RowKit

theorem wfT_shape {k n : Int} {s : ByteArray} {f : Fr} {d : Int} (h : shapeT k n s f d = true) : wfT k n s f.len = true := by
  have hk := shapeT_kind h
  by_cases h3 : k = 3
  · subst h3
    obtain ⟨rfl, hn, _⟩ := shapeT_struct h
    unfold wfT
    rw [hn]; simp
  · obtain ⟨rfl, rfl, hn⟩ := shapeT_leaf h h3
    unfold wfT
    rcases (show k = 1 ∨ k = 2 by omega) with rfl | rfl
    · rw [decide_eq_true (show (-9223372036854775808 : Int) ≤ n by omega), decide_eq_true (show n ≤ 9223372036854775807 by omega)]
      rfl
    · rw [decide_eq_true (show (-999 : Int) ≤ n by omega), decide_eq_true (show n ≤ 999 by omega)]
      rfl
theorem wfF_shape (f : Fr) : ∀ d, shapeF f d = true → wfF f = true := by
  induction f with
  | nil => intro d _; rfl
  | cons k n s kids rest ihk ihr =>
    intro d h
    rw [shapeF_cons, Bool.and_eq_true] at h
    rw [wfF_cons, wfT_shape h.1, ihk (d - 1) (shapeT_kids h.1), ihr d h.2]
    rfl

set_option maxRecDepth 100000 in
set_option maxHeartbeats 2000000 in
/-- impl.validTermOf. -/
theorem vt_any (m : Nd) (v : Value) (lo hi : Nat) (w : World) (hwf : wfT m.k m.n m.s m.f.len = true) (hwk : wfF m.f = true) (hv : NdV w lo hi m.k m.n m.s m.f v) (hh : hi ≤ w.heap.size) (hnd : nodes m.f ≤ 1048576) :
    Calls Tryd.prog 34 #[v] w fun e w' => TbRes w (vtF m) (vtB m) e w' := by
  obtain ⟨k, n, s, f⟩ := m
  have C1 := fun w1 mb (hb : Below w.heap.size w w1) (hq : Blk w1 mb 99 #[.int .i64 120]) (hm : w.heap.size ≤ mb) =>
    ftT_any s f k n 1 120 v lo hi mb w1 hwf hwk (hv.keep (fun p _ hp => hb.cell (by omega)) (Nat.le_refl _) (Nat.le_refl _)) (Nat.le_trans hh hb.size) (Nat.le_trans hh hm) hnd hq (by omega) (by omega) (by omega) (by omega)
  have C2 := fun w1 (hb : Below w.heap.size w w1) (hs : shapeT k n s f 30 = true) => tmT_any s f k n 30 v lo hi w1 hs (hv.keep (fun p _ hp => hb.cell (by omega)) (Nat.le_refl _) (Nat.le_refl _)) (Nat.le_trans hh hb.size) hnd
  rw [okT_valid] at C1
  have hb0 := two_alloc w (.cells #[.int .i64 0, .int .i64 0, .string ⟨#[]⟩, .slice none 0 0] 31) (.cells #[.int .i64 120] 99)
  have hz0 : Blk ((w.alloc (.cells #[.int .i64 0, .int .i64 0, .string ⟨#[]⟩, .slice none 0 0] 31)).alloc (.cells #[.int .i64 120] 99)) w.heap.size 31 #[.int .i64 0, .int .i64 0, .string ⟨#[]⟩, .slice none 0 0] := (Blk.new w _ _).alloc _
  have hq0 : Blk ((w.alloc (.cells #[.int .i64 0, .int .i64 0, .string ⟨#[]⟩, .slice none 0 0] 31)).alloc (.cells #[.int .i64 120] 99)) (w.heap.size + 1) 99 #[.int .i64 120] := by
    have h := Blk.new (w.alloc (.cells #[.int .i64 0, .int .i64 0, .string ⟨#[]⟩, .slice none 0 0] 31)) 99 #[.int .i64 120]
    simpa using h
  have C0 := C1 _ _ hb0 hq0 (by omega)
  obtain ⟨T, x, rfl⟩ := hv.iface
  have hsz : ((w.alloc (.cells #[.int .i64 0, .int .i64 0, .string ⟨#[]⟩, .slice none 0 0] 31)).alloc (.cells #[.int .i64 120] 99)).heap.size = w.heap.size + 1 + 1 := by simp
  have H1 := Lib.hid C0
  have H2 := Lib.hid C2
  have HB0 := Lib.hid hb0
  have HZ0 := Lib.hid hz0
  have HSZ := Lib.hid hsz
  clear C0 C1 C2 hwf hwk hv hnd hh hb0 hz0 hq0 hsz
  have HM : Hid (vtF ⟨k, n, s, f⟩ = (if validT k n s f = true then ⟨k, n, s, f⟩ else nd0) ∧ vtB ⟨k, n, s, f⟩ = validT k n s f) := Lib.hid ⟨rfl, rfl⟩
  have HSH : Hid (validT k n s f = true → shapeT k n s f 30 = true) := Lib.hid fun h => by unfold validT at h; rw [Bool.and_eq_true] at h; exact h.1
  generalize validT k n s f = ok at *
  go_enter Tryd.func34, Tryd.ntmps34
  go_wp2_with fail
  refine H1.out.mono ?_
  rintro e w3 ⟨rfl, hg, _⟩
  have hb3 := below_grownBy HB0.out (by omega) hg
  have hz3 := HZ0.out.grown hg (by omega)
  have hs3 : w.heap.size + 1 + 1 ≤ w3.heap.size := by have := HSZ.out; have := hg.size; omega
  clear hg
  cases ok
  · obtain ⟨d0, d1, d2, d3⟩ := cells4i hz3
    obtain ⟨f0, f1, f2, f3⟩ := frozen4 hz3
    have HB3 := Lib.hid hb3
    have HZ3 := Lib.hid hz3
    clear hb3 hz3 H1 H2 HSH
    go_wp2_with fail
    rw [HM.out.1, HM.out.2]
    refine bodyPost_ret (v := .tuple #[.agg #[.int .i64 0, .int .i64 0, .string ⟨#[]⟩, .slice none 0 0], .bool false]) ?_ rfl (tb_no (below4 HB3.out (Nat.le_refl _) _ _ _ _))
    exact results_cell_row2 Tryd.results34 _ _ w.heap.size _ _ _ _ rfl (set4 HZ3.out _ _ _ _) Tryd.underlying31 rfl (by kernel_rfl)
  · have HB3 := Lib.hid hb3
    have HZ3 := Lib.hid hz3
    clear hb3 hz3 H1
    go_wp2_with fail
    refine (H2.out _ HB3.out (HSH.out (by first | rfl | trivial))).mono ?_
    rintro e w4 ⟨A4, cap4, rfl, hm⟩
    have hd := made_below hm
    have hz4 := HZ3.out.below hd HZ3.out.lt
    obtain ⟨d0, d1, d2, d3⟩ := cells4i hz4
    obtain ⟨f0, f1, f2, f3⟩ := frozen4 hz4
    have HZ4 := Lib.hid hz4
    have HM4 : Hid (∃ L, OwnS w4 f A4 cap4 L ∧ L.Nodup ∧ (∀ x ∈ L, w3.heap.size ≤ x ∧ x < w4.heap.size)) := Lib.hid (by obtain ⟨L, h1, h2, h3, _⟩ := hm; exact ⟨L, h1, h2, h3⟩)
    have HB4 := Lib.hid (HB3.out.trans (hd.mono HB3.out.size))
    clear hm hd hz4 H2
    go_wp2_with fail
    rw [HM.out.1, HM.out.2]
    refine bodyPost_ret (v := .tuple #[.agg #[.int .i64 k, .int .i64 n, .string s, .slice A4 f.len cap4], .bool true]) ?_ rfl ⟨A4, cap4, rfl, made_set4 HM4.out HB4.out (Nat.le_refl _) (by omega) _ _ _ _⟩
    exact results_cell_row2 Tryd.results34 _ _ w.heap.size _ _ _ _ rfl (set4 HZ4.out _ _ _ _) Tryd.underlying31 rfl (by kernel_rfl)
end Go.Proofs.YtkefpickpjjllaaDoor

/- budget.fits and impl.validTermOf of a node of any size. Condition: the nodes lie in memory; their names and numbers are right. -/
namespace Go.Proofs.YtkefpickpjjllaaDoor.Big
open Go.RowKit

def FtT (s : ByteArray) (f : Fr) : Prop := ∀ (k n d left : Int) (v : Value) (lo hi mb : Nat) (w : World), wfT k n s f.len = true → wfF f = true → NdV w lo hi k n s f v → hi ≤ w.heap.size → hi ≤ mb → 
  Blk w mb 99 #[.int .i64 left] → 0 ≤ left → left ≤ 120 → 1 ≤ d → d ≤ 31 →
  Calls Tryd.prog 54 #[.pointer (some ⟨mb, 0, none⟩), v, .int .i64 d] w fun e w' => FtRes w mb (okT k n s f d left) (left - (nodes f + 1)) e w'

set_option maxRecDepth 100000 in
set_option maxHeartbeats 4000000 in
theorem ftT_of (s : ByteArray) (f : Fr) (h : ∀ i k n s kids rest, f.drop i = .cons k n s kids rest → FtT s kids) : FtT s f := by
  intro k n d left v lo hi mb w hwf hwk hv hh hmb hblk hl0 hl1 hd0 hd1
  have hmlt := hblk.lt
  by_cases c1 : 30 < d ∨ left = 0
  · have HV : Hid (okT k n s f d left = false) := Lib.hid (okT_none k n s f d left c1)
    have HB := Lib.hid hblk
    obtain ⟨T, x, rfl⟩ := hv.iface
    clear h hv hblk hwf hwk
    go_enter Tryd.func54, Tryd.ntmps54
    go_wp2_with fail
    refine (take_no d _ mb _ HB.out c1).mono ?_
    rintro e w2 ⟨rfl, rfl⟩
    go_wp2_with fail
    go_ret
    rw [HV.out]
    exact ⟨rfl, World.grownBy.refl _ _, left, HB.out, fun h => by cases h⟩
  · have T1 := take_yes d left mb w hblk (by omega) hl1 (by omega)
    have HT1 := Lib.hid T1
    clear T1 hblk
    rcases hv with ⟨rfl, rfl⟩ | ⟨rfl, rfl⟩ | ⟨rfl, A, cap, rfl, hk⟩
    · obtain ⟨rfl, rfl, hn, _⟩ := wfT_leaf hwf (by omega)
      have HV := Lib.hid (okT_var n d left (by omega) (by omega))
      have HL : Hid (left - ((nodes .nil : Int) + 1) = left - 1) := Lib.hid (by show left - (0 + 1) = left - 1; omega)
      clear h hwf hwk
      rcases (show n < 0 ∨ (0 ≤ n ∧ 25 < n) ∨ (0 ≤ n ∧ n ≤ 25) by omega) with r1 | ⟨r1, r2⟩ | ⟨r1, r2⟩
      · have HE : Hid (okT 1 n ⟨#[]⟩ .nil d left = false) := Lib.hid (by rw [HV.out, decide_eq_false (by omega)]; rfl)
        clear HV
        go_enter Tryd.func54, Tryd.ntmps54
        go_wp2_with fail
        refine HT1.out.mono ?_
        rintro e w2 ⟨rfl, hg2, _, hq2⟩
        have HG2 := Lib.hid hg2
        have HQ2 := Lib.hid hq2
        clear hg2 hq2
        go_wp2_with fail
        go_ret
        rw [HE.out]
        exact ⟨rfl, HG2.out, _, HQ2.out, fun h => by cases h⟩
      · have HE : Hid (okT 1 n ⟨#[]⟩ .nil d left = false) := Lib.hid (by rw [HV.out, decide_eq_false (show ¬ n ≤ 25 by omega)]; simp)
        clear HV
        have d2 : decide (n ≤ 25) = false := decide_eq_false (by omega)
        go_enter Tryd.func54, Tryd.ntmps54
        go_wp2_with fail
        refine HT1.out.mono ?_
        rintro e w2 ⟨rfl, hg2, _, hq2⟩
        have HG2 := Lib.hid hg2
        have HQ2 := Lib.hid hq2
        clear hg2 hq2
        go_wp2_with fail
        go_ret
        rw [HE.out]
        exact ⟨rfl, HG2.out, _, HQ2.out, fun h => by cases h⟩
      · have HE : Hid (okT 1 n ⟨#[]⟩ .nil d left = true) := Lib.hid (by rw [HV.out, decide_eq_true r1, decide_eq_true r2]; rfl)
        clear HV
        have d2 : decide (n ≤ 25) = true := decide_eq_true r2
        go_enter Tryd.func54, Tryd.ntmps54
        go_wp2_with fail
        refine HT1.out.mono ?_
        rintro e w2 ⟨rfl, hg2, _, hq2⟩
        have HG2 := Lib.hid hg2
        have HQ2 := Lib.hid hq2
        clear hg2 hq2
        go_wp2_with fail
        go_ret
        rw [HE.out]
        exact ⟨rfl, HG2.out, _, HQ2.out, fun _ => HL.out.symm⟩
    · obtain ⟨rfl, rfl, _, hn⟩ := wfT_leaf hwf (by omega)
      have hn := hn rfl
      have HE := Lib.hid (okT_num n d left (by omega) (by omega) hn.1 hn.2)
      have HL : Hid (left - ((nodes .nil : Int) + 1) = left - 1) := Lib.hid (by show left - (0 + 1) = left - 1; omega)
      clear h hwf hwk
      go_enter Tryd.func54, Tryd.ntmps54
      go_wp2_with fail
      refine HT1.out.mono ?_
      rintro e w2 ⟨rfl, hg2, _, hq2⟩
      have HG2 := Lib.hid hg2
      have HQ2 := Lib.hid hq2
      clear hg2 hq2
      go_wp2_with fail
      go_ret
      rw [HE.out]
      exact ⟨rfl, HG2.out, _, HQ2.out, fun _ => HL.out.symm⟩
    · obtain ⟨rfl, hnm⟩ := wfT_three hwf
      have hl := hk.1
      have hm := hk.2.1
      unfold maxLen at hm
      have HOK : Hid (okT 3 0 s f d left = (decide (f.len ≤ 4) && okF f (d + 1) (left - 1))) := Lib.hid (by
        rw [okT_three 0 s f d left (by omega)]
        unfold okS
        rw [hnm]; simp)
      have HK := Lib.hid hk
      have HH := Lib.hid h
      have HWK := Lib.hid hwk
      by_cases c2 : 4 < f.len
      · have HE : Hid (okT 3 0 s f d left = false) := Lib.hid (by rw [HOK.out, decide_eq_false (show ¬ f.len ≤ 4 by omega)]; rfl)
        clear hk h hwk hwf hnm HOK
        go_enter Tryd.func54, Tryd.ntmps54
        go_wp2_with fail
        refine HT1.out.mono ?_
        rintro e w2 ⟨rfl, hg2, hs2, hq2⟩
        have HG2 := Lib.hid hg2
        have HQ2 := Lib.hid hq2
        clear hg2 hq2
        go_wp2_with fail
        go_ret
        rw [HE.out]
        exact ⟨rfl, grownBy_alloc' HG2.out _, _, HQ2.out.alloc _, fun h => by cases h⟩
      · have HV : Hid (okT 3 0 s f d left = okF f (d + 1) (left - 1)) := Lib.hid (by rw [HOK.out, decide_eq_true (show f.len ≤ 4 by omega)]; rfl)
        have hv0 : okF f (d + 1) (left - 1) = okF f (d + 1) (left - 1) := rfl
        generalize hv : okF f (d + 1) (left - 1) = v at *
        have HV0 := Lib.hid hv
        clear hk h hwk hwf hnm HOK hv hv0
        have hfl : f.len ≤ 4 := by omega
        generalize hn : f.len = len at *
        have HN := Lib.hid hn
        clear hn
        go_enter Tryd.func54, Tryd.ntmps54
        go_wp2_with fail
        refine HT1.out.mono ?_
        rintro e w2 ⟨rfl, hg2, hs2, hq2⟩
        have hbx := (Blk.new w2 105 #[.string s, .slice A len cap])
        have hq3 := hq2.alloc (.cells #[.string s, .slice A len cap] 105)
        have hg3 := grownBy_alloc' hg2 (.cells #[.string s, .slice A len cap] 105)
        rw [hs2] at hbx
        have HBX := Lib.hid hbx
        have HQ3 := Lib.hid hq3
        have HG3 := Lib.hid hg3
        clear hg2 hq2 hbx hq3 hg3
        go_wp2_with fail
        have hsz := HG3.out.size
        generalize w2.alloc (.cells #[.string s, .slice A len cap] 105) = w3 at *
        go_loopw [35] (fun i wr => ∃ (j : Nat) (l' : Int), j ≤ len ∧ i = .int .i64 j ∧ okF (f.drop j) (d + 1) l' = v ∧ l' - nodes (f.drop j) = left - 1 - nodes f ∧ 0 ≤ l' ∧ l' ≤ 120 ∧ wfF (f.drop j) = true ∧ w.grownBy wr (some mb) ∧ Blk wr mb 99 #[.int .i64 l']) (fun i _ => len - (intOf i).toNat)
        case atStart => exact ⟨0, left - 1, Nat.zero_le _, rfl, HV0.out, rfl, by omega, by omega, HWK.out, HG3.out, HQ3.out⟩
        case round =>
          obtain ⟨j, l', hj, rfl, hv, hcnt, hl0', hl1', hwf', hgr, hq⟩ := hrel
          by_cases hlt : j < len
          · obtain ⟨kk, nn, s', kids, hd'⟩ := Fr.drop_cons j f (by rw [HN.out]; exact hlt)
            obtain ⟨b, rfl, hlb, hbb, hrow⟩ := HK.out.2.2 (by rw [HN.out]; omega)
            obtain ⟨vv, hcell, hnv⟩ := hrow.elem hd'
            rw [Nat.zero_add] at hcell
            rw [hd', okF_cons] at hv
            rw [hd'] at hcnt
            simp only [nodes] at hcnt
            rw [hd', wfF_cons, Bool.and_eq_true, Bool.and_eq_true] at hwf'
            have hkeep : ∀ p : Addr, p.block < hi → wr.cell? p = w.cell? p := fun p hp => cell_grownBy hgr (by omega) (by omega)
            have k0 := (hkeep ⟨b, j, none⟩ hbb).trans hcell
            have C1 := HH.out _ _ _ _ _ _ hd' kk nn (d + 1) l' vv lo hi mb wr hwf'.1.1 hwf'.1.2 (hnv.keep (fun p _ hp => hkeep p hp) (Nat.le_refl _) (Nat.le_refl _)) (Nat.le_trans hh hgr.size) hmb hq hl0' hl1' (by omega) (by omega)
            have HR : Hid (okT kk nn s' kids (d + 1) l' = true → (nodes kids : Int) + 1 ≤ l') := Lib.hid (okT_range kk nn s' kids (d + 1) l')
            generalize okT kk nn s' kids (d + 1) l' = t at *
            obtain ⟨T, x, rfl⟩ := hnv.iface
            have H1 := Lib.hid C1
            have HE := Lib.hid hv
            have HCN := Lib.hid hcnt
            have HGR := Lib.hid hgr
            have HWF := Lib.hid hwf'.2
            clear C1 hv hcnt hgr hq hwf' hcell hrow hnv hkeep
            go_wp2_with fail
            refine H1.out.mono ?_
            rintro e w4 ⟨rfl, hg4, l2, hq4, hl2⟩
            cases t
            · have HF : Hid (v = false) := Lib.hid (by rw [← HE.out]; rfl)
              have HG4 := Lib.hid (grownBy_trans HGR.out hg4)
              have HQ4 := Lib.hid hq4
              clear hg4 hq4 hl2 k0
              go_wp2_with fail
              go_ret
              rw [HV.out, HF.out]
              exact ⟨rfl, HG4.out, l2, HQ4.out, fun h => by cases h⟩
            · have hl3 := hl2 rfl
              subst hl3
              have HF : Hid (okF (f.drop (j + 1)) (d + 1) (l' - (nodes kids + 1)) = v) := Lib.hid (by rw [← HE.out]; rfl)
              have hr1 := HR.out rfl
              have hcn := HCN.out
              have HF2 : Hid (l' - ((nodes kids : Int) + 1) - nodes (f.drop (j + 1)) = left - 1 - nodes f) := Lib.hid (by omega)
              have HG4 := Lib.hid (grownBy_trans HGR.out hg4)
              have HQ4 := Lib.hid hq4
              clear hg4 hq4 hl2 k0 hcn
              go_wp2_with fail
              go_roundw
              case rel => exact ⟨j + 1, _, by omega, by go_num, HF.out, HF2.out, by omega, by omega, HWF.out, HG4.out, HQ4.out⟩
              case measure => simp [intOf]; omega
          · obtain rfl : j = len := by omega
            have h1 := Fr.drop_len f
            rw [HN.out] at h1
            rw [h1] at hv hcnt
            have HE : Hid (v = true) := Lib.hid (by rw [← hv]; exact okF_nil _ _ hl0')
            have HL : Hid (l' = left - (nodes f + 1)) := Lib.hid (by
              have : nodes .nil = 0 := rfl
              rw [this] at hcnt; omega)
            have HGR := Lib.hid hgr
            have HQ := Lib.hid hq
            clear hv hcnt hgr hq hwf' h1
            go_wp2_with fail
            go_ret
            rw [HV.out, HE.out]
            exact ⟨rfl, HGR.out, l', HQ.out, fun _ => HL.out⟩
theorem ft_all (N : Nat) : ∀ (s : ByteArray) (f : Fr), f.size ≤ N → FtT s f := by
  induction N with
  | zero =>
    intro s f hf
    refine ftT_of s f fun i k n s kids rest hd => ?_
    have h1 := Fr.size_drop i f
    rw [hd] at h1
    simp only [Fr.size] at h1
    omega
  | succ N ih =>
    intro s f hf
    refine ftT_of s f fun i k n s kids rest hd => ih s kids ?_
    have h1 := Fr.size_drop i f
    rw [hd] at h1
    simp only [Fr.size] at h1
    omega
/-- budget.fits. -/
theorem ftT_any (s : ByteArray) (f : Fr) : FtT s f := ft_all f.size s f (Nat.le_refl _)
set_option maxRecDepth 100000 in
set_option maxHeartbeats 2000000 in
/-- impl.validTermOf. -/
theorem vt_any (m : Nd) (v : Value) (lo hi : Nat) (w : World) (hwf : wfT m.k m.n m.s m.f.len = true) (hwk : wfF m.f = true) (hv : NdV w lo hi m.k m.n m.s m.f v) (hh : hi ≤ w.heap.size) :
    Calls Tryd.prog 34 #[v] w fun e w' => TbRes w (vtF m) (vtB m) e w' := by
  obtain ⟨k, n, s, f⟩ := m
  have C1 := fun w1 mb (hb : Below w.heap.size w w1) (hq : Blk w1 mb 99 #[.int .i64 120]) (hm : w.heap.size ≤ mb) =>
    ftT_any s f k n 1 120 v lo hi mb w1 hwf hwk (hv.keep (fun p _ hp => hb.cell (by omega)) (Nat.le_refl _) (Nat.le_refl _)) (Nat.le_trans hh hb.size) (Nat.le_trans hh hm) hq (by omega) (by omega) (by omega) (by omega)
  have C2 := fun w1 (hb : Below w.heap.size w w1) (hs : shapeT k n s f 30 = true) (hnd : nodes f ≤ 1048576) => tmT_any s f k n 30 v lo hi w1 hs (hv.keep (fun p _ hp => hb.cell (by omega)) (Nat.le_refl _) (Nat.le_refl _)) (Nat.le_trans hh hb.size) hnd
  rw [okT_valid] at C1
  have hb0 := two_alloc w (.cells #[.int .i64 0, .int .i64 0, .string ⟨#[]⟩, .slice none 0 0] 31) (.cells #[.int .i64 120] 99)
  have hz0 : Blk ((w.alloc (.cells #[.int .i64 0, .int .i64 0, .string ⟨#[]⟩, .slice none 0 0] 31)).alloc (.cells #[.int .i64 120] 99)) w.heap.size 31 #[.int .i64 0, .int .i64 0, .string ⟨#[]⟩, .slice none 0 0] := (Blk.new w _ _).alloc _
  have hq0 : Blk ((w.alloc (.cells #[.int .i64 0, .int .i64 0, .string ⟨#[]⟩, .slice none 0 0] 31)).alloc (.cells #[.int .i64 120] 99)) (w.heap.size + 1) 99 #[.int .i64 120] := by
    have h := Blk.new (w.alloc (.cells #[.int .i64 0, .int .i64 0, .string ⟨#[]⟩, .slice none 0 0] 31)) 99 #[.int .i64 120]
    simpa using h
  have C0 := C1 _ _ hb0 hq0 (by omega)
  obtain ⟨T, x, rfl⟩ := hv.iface
  have hsz : ((w.alloc (.cells #[.int .i64 0, .int .i64 0, .string ⟨#[]⟩, .slice none 0 0] 31)).alloc (.cells #[.int .i64 120] 99)).heap.size = w.heap.size + 1 + 1 := by simp
  have H1 := Lib.hid C0
  have H2 := Lib.hid C2
  have HB0 := Lib.hid hb0
  have HZ0 := Lib.hid hz0
  have HSZ := Lib.hid hsz
  clear C0 C1 C2 hwf hwk hv hh hb0 hz0 hq0 hsz
  have HM : Hid (vtF ⟨k, n, s, f⟩ = (if validT k n s f = true then ⟨k, n, s, f⟩ else nd0) ∧ vtB ⟨k, n, s, f⟩ = validT k n s f) := Lib.hid ⟨rfl, rfl⟩
  have HSH : Hid (validT k n s f = true → shapeT k n s f 30 = true) := Lib.hid fun h => by unfold validT at h; rw [Bool.and_eq_true] at h; exact h.1
  have HSN : Hid (validT k n s f = true → nodes f ≤ 1048576) := Lib.hid fun h => by unfold validT at h; rw [Bool.and_eq_true, decide_eq_true_iff] at h; omega
  generalize validT k n s f = ok at *
  go_enter Tryd.func34, Tryd.ntmps34
  go_wp2_with fail
  refine H1.out.mono ?_
  rintro e w3 ⟨rfl, hg, _⟩
  have hb3 := below_grownBy HB0.out (by omega) hg
  have hz3 := HZ0.out.grown hg (by omega)
  have hs3 : w.heap.size + 1 + 1 ≤ w3.heap.size := by have := HSZ.out; have := hg.size; omega
  clear hg
  cases ok
  · obtain ⟨d0, d1, d2, d3⟩ := cells4i hz3
    obtain ⟨f0, f1, f2, f3⟩ := frozen4 hz3
    have HB3 := Lib.hid hb3
    have HZ3 := Lib.hid hz3
    clear hb3 hz3 H1 H2 HSH HSN
    go_wp2_with fail
    rw [HM.out.1, HM.out.2]
    refine bodyPost_ret (v := .tuple #[.agg #[.int .i64 0, .int .i64 0, .string ⟨#[]⟩, .slice none 0 0], .bool false]) ?_ rfl (tb_no (below4 HB3.out (Nat.le_refl _) _ _ _ _))
    exact results_cell_row2 Tryd.results34 _ _ w.heap.size _ _ _ _ rfl (set4 HZ3.out _ _ _ _) Tryd.underlying31 rfl (by kernel_rfl)
  · have HB3 := Lib.hid hb3
    have HZ3 := Lib.hid hz3
    clear hb3 hz3 H1
    go_wp2_with fail
    refine (H2.out _ HB3.out (HSH.out (by first | rfl | trivial)) (HSN.out (by first | rfl | trivial))).mono ?_
    rintro e w4 ⟨A4, cap4, rfl, hm⟩
    have hd := made_below hm
    have hz4 := HZ3.out.below hd HZ3.out.lt
    obtain ⟨d0, d1, d2, d3⟩ := cells4i hz4
    obtain ⟨f0, f1, f2, f3⟩ := frozen4 hz4
    have HZ4 := Lib.hid hz4
    have HM4 : Hid (∃ L, OwnS w4 f A4 cap4 L ∧ L.Nodup ∧ (∀ x ∈ L, w3.heap.size ≤ x ∧ x < w4.heap.size)) := Lib.hid (by obtain ⟨L, h1, h2, h3, _⟩ := hm; exact ⟨L, h1, h2, h3⟩)
    have HB4 := Lib.hid (HB3.out.trans (hd.mono HB3.out.size))
    clear hm hd hz4 H2
    go_wp2_with fail
    rw [HM.out.1, HM.out.2]
    refine bodyPost_ret (v := .tuple #[.agg #[.int .i64 k, .int .i64 n, .string s, .slice A4 f.len cap4], .bool true]) ?_ rfl ⟨A4, cap4, rfl, made_set4 HM4.out HB4.out (Nat.le_refl _) (by omega) _ _ _ _⟩
    exact results_cell_row2 Tryd.results34 _ _ w.heap.size _ _ _ _ rfl (set4 HZ4.out _ _ _ _) Tryd.underlying31 rfl (by kernel_rfl)
end Go.Proofs.YtkefpickpjjllaaDoor.Big
