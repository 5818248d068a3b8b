/- budget.fits, impl.validTermOf. Condition: the nodes lie in memory; their names and numbers are right. -/
import Derived.Test.YtkgihpddjppmdaaDoorProg
import Derived.Test.YtkgihpddjppmdaaDoorAs
import Derived.Test.YtkgihpddjppmdaaDoorTermOf
import Derived.Test.YtkgihpddjppmdaaDoorMake
import Derived.Test.YtkgihpddjppmdaaDoorTb
import Derived.Test.YtkgihpddjppmdaaDoorZmAB44
import Derived.Maps.Own
import Derived.Maps.OwnOps
import Derived.Maps.OwnSet
namespace Go.Proofs.YtkgihpddjppmdaaDoor
open Go.RowKit

/-- The node's own fields are such as nodes have, whatever the limits. -/
def wfT (k n : Int) (s : ByteArray) (len : Nat) : Bool :=
  (k == 1 && (decide (-9223372036854775808 ≤ n) && decide (n ≤ 9223372036854775807) && noName s && (len == 0))) || (k == 2 && (decide (-999 ≤ n) && decide (n ≤ 999) && noName s && (len == 0))) || (k == 3 && ((n == 0) && nv.nameB s.data.toList))
def wfF : Fr → Bool
  | .nil => true
  | .cons k n s kids rest => (wfT k n s kids.len && wfF kids) && wfF rest
theorem wfF_cons (k n : Int) (s : ByteArray) (kids rest : Fr) : wfF (.cons k n s kids rest) = ((wfT k n s kids.len && wfF kids) && wfF rest) := rfl
theorem wfT_leaf {k n : Int} {s : ByteArray} {f : Fr} (h : wfT k n s f.len = true) (hk : k ≠ 3) : s = ⟨#[]⟩ ∧ f = .nil ∧ (-9223372036854775808 ≤ n ∧ n ≤ 9223372036854775807) ∧ (k = 2 → -999 ≤ n ∧ n ≤ 999) := by
  unfold wfT at h
  simp only [Bool.and_eq_true, Bool.or_eq_true, decide_eq_true_eq, beq_iff_eq] at h
  have hf : f.len = 0 → f = .nil := fun h0 => by
    cases f with
    | nil => rfl
    | cons _ _ _ _ _ => simp [Fr.len] at h0
  rcases h with (⟨h0, ⟨⟨h1, h2⟩, h3⟩, h4⟩ | ⟨h0, ⟨⟨h1, h2⟩, h3⟩, h4⟩) | ⟨h, _⟩
  · exact ⟨noName_eq h3, hf h4, by omega, by omega⟩
  · exact ⟨noName_eq h3, hf h4, by omega, by omega⟩
  · exact absurd h hk
theorem wfT_three {n : Int} {s : ByteArray} {l : Nat} (h : wfT 3 n s l = true) : n = 0 ∧ nv.nameB s.data.toList = true := by
  unfold wfT at h
  simp only [Bool.and_eq_true, Bool.or_eq_true, decide_eq_true_eq, beq_iff_eq] at h
  rcases h with (⟨h, _⟩ | ⟨h, _⟩) | ⟨_, h1, h2⟩
  · omega
  · omega
  · exact ⟨h1, h2⟩
theorem okT_var (n d left : Int) (h0 : 0 < left) (hd : d ≤ 30) : okT 1 n ⟨#[]⟩ .nil d left = (decide (0 ≤ n) && decide (n ≤ 25)) := by
  unfold okT shapeT ownB
  rw [decide_eq_true (show (1 : Int) ≤ 31 - d by omega), decide_eq_true (show ((nodes .nil : Nat) : Int) + 1 ≤ left by show (0 : Int) + 1 ≤ left; omega)]
  rw [show (noName ⟨#[]⟩) = true from rfl, show (Fr.nil.len == 0) = true from rfl, show shapeF .nil (31 - d - 1) = true from rfl]
  simp
theorem okT_num (n d left : Int) (h0 : 0 < left) (hd : d ≤ 30) (h1 : -999 ≤ n) (h2 : n ≤ 999) : okT 2 n ⟨#[]⟩ .nil d left = true := by
  unfold okT shapeT ownB
  rw [decide_eq_true (show (1 : Int) ≤ 31 - d by omega), decide_eq_true (show ((nodes .nil : Nat) : Int) + 1 ≤ left by show (0 : Int) + 1 ≤ left; omega)]
  rw [show (noName ⟨#[]⟩) = true from rfl, show (Fr.nil.len == 0) = true from rfl, show shapeF .nil (31 - d - 1) = true from rfl, decide_eq_true h1, decide_eq_true h2]
  simp
theorem okT_none (k n : Int) (s : ByteArray) (f : Fr) (d left : Int) (h : 30 < d ∨ left = 0) : okT k n s f d left = false := by
  unfold okT shapeT
  rcases h with h | h
  · rw [decide_eq_false (show ¬ (1 : Int) ≤ 31 - d by omega)]; rfl
  · subst h
    rw [decide_eq_false (show ¬ (nodes f : Int) + 1 ≤ 0 by omega)]; simp

/-- What fits leaves. -/
def FtRes (w : World) (mb : Nat) (ok : Bool) (l : Int) (e : Ending) (w' : World) : Prop :=
  e = .returned (.bool ok) ∧ w.grownBy w' (some mb) ∧ (∃ l', Blk w' mb 78 #[.int .i64 l'] ∧ (ok = true → l' = l))
def FtT (s : ByteArray) (f : Fr) : Prop := ∀ (k n d left : Int) (v : Value) (lo hi mb : Nat) (w : World), wfT k n s f.len = true → wfF f = true → NdV w lo hi k n s f v → hi ≤ w.heap.size → hi ≤ mb → nodes f ≤ 1048576 →
  Blk w mb 78 #[.int .i64 left] → 0 ≤ left → left ≤ 120 → 1 ≤ d → d ≤ 31 →
  Calls Tryd.prog 32 #[.pointer (some ⟨mb, 0, none⟩), v, .int .i64 d] w fun e w' => FtRes w mb (okT k n s f d left) (left - (nodes f + 1)) e w'

set_option maxRecDepth 100000 in
set_option maxHeartbeats 4000000 in
theorem ftT_of (s : ByteArray) (f : Fr) (h : ∀ i k n s kids rest, f.drop i = .cons k n s kids rest → FtT s kids) : FtT s f := by
  intro k n d left v lo hi mb w hwf hwk hv hh hmb hnd hblk hl0 hl1 hd0 hd1
  have hmlt := hblk.lt
  by_cases c1 : 30 < d ∨ left = 0
  · have HV : Hid (okT k n s f d left = false) := Lib.hid (okT_none k n s f d left c1)
    have HB := Lib.hid hblk
    obtain ⟨T, x, rfl⟩ := hv.iface
    clear h hv hblk hwf hwk
    go_enter Tryd.func32, Tryd.ntmps32
    go_wp2_with fail
    refine (take_no d _ mb _ HB.out c1).mono ?_
    rintro e w2 ⟨rfl, rfl⟩
    go_wp2_with fail
    go_ret
    rw [HV.out]
    exact ⟨rfl, World.grownBy.refl _ _, left, HB.out, fun h => by cases h⟩
  · have T1 := take_yes d left mb w hblk (by omega) hl1 (by omega)
    have HT1 := Lib.hid T1
    clear T1 hblk
    rcases hv with ⟨rfl, rfl⟩ | ⟨rfl, rfl⟩ | ⟨rfl, A, cap, rfl, hk⟩
    · obtain ⟨rfl, rfl, hn, _⟩ := wfT_leaf hwf (by omega)
      have HV := Lib.hid (okT_var n d left (by omega) (by omega))
      have HL : Hid (left - ((nodes .nil : Int) + 1) = left - 1) := Lib.hid (by show left - (0 + 1) = left - 1; omega)
      clear h hwf hwk hnd
      rcases (show n < 0 ∨ (0 ≤ n ∧ 25 < n) ∨ (0 ≤ n ∧ n ≤ 25) by omega) with r1 | ⟨r1, r2⟩ | ⟨r1, r2⟩
      · have HE : Hid (okT 1 n ⟨#[]⟩ .nil d left = false) := Lib.hid (by rw [HV.out, decide_eq_false (by omega)]; rfl)
        clear HV
        go_enter Tryd.func32, Tryd.ntmps32
        go_wp2_with fail
        refine HT1.out.mono ?_
        rintro e w2 ⟨rfl, hg2, _, hq2⟩
        have HG2 := Lib.hid hg2
        have HQ2 := Lib.hid hq2
        clear hg2 hq2
        go_wp2_with fail
        go_ret
        rw [HE.out]
        exact ⟨rfl, HG2.out, _, HQ2.out, fun h => by cases h⟩
      · have HE : Hid (okT 1 n ⟨#[]⟩ .nil d left = false) := Lib.hid (by rw [HV.out, decide_eq_false (show ¬ n ≤ 25 by omega)]; simp)
        clear HV
        have d2 : decide (n ≤ 25) = false := decide_eq_false (by omega)
        go_enter Tryd.func32, Tryd.ntmps32
        go_wp2_with fail
        refine HT1.out.mono ?_
        rintro e w2 ⟨rfl, hg2, _, hq2⟩
        have HG2 := Lib.hid hg2
        have HQ2 := Lib.hid hq2
        clear hg2 hq2
        go_wp2_with fail
        go_ret
        rw [HE.out]
        exact ⟨rfl, HG2.out, _, HQ2.out, fun h => by cases h⟩
      · have HE : Hid (okT 1 n ⟨#[]⟩ .nil d left = true) := Lib.hid (by rw [HV.out, decide_eq_true r1, decide_eq_true r2]; rfl)
        clear HV
        have d2 : decide (n ≤ 25) = true := decide_eq_true r2
        go_enter Tryd.func32, Tryd.ntmps32
        go_wp2_with fail
        refine HT1.out.mono ?_
        rintro e w2 ⟨rfl, hg2, _, hq2⟩
        have HG2 := Lib.hid hg2
        have HQ2 := Lib.hid hq2
        clear hg2 hq2
        go_wp2_with fail
        go_ret
        rw [HE.out]
        exact ⟨rfl, HG2.out, _, HQ2.out, fun _ => HL.out.symm⟩
    · obtain ⟨rfl, rfl, _, hn⟩ := wfT_leaf hwf (by omega)
      have hn := hn rfl
      have HE := Lib.hid (okT_num n d left (by omega) (by omega) hn.1 hn.2)
      have HL : Hid (left - ((nodes .nil : Int) + 1) = left - 1) := Lib.hid (by show left - (0 + 1) = left - 1; omega)
      clear h hwf hwk hnd
      go_enter Tryd.func32, Tryd.ntmps32
      go_wp2_with fail
      refine HT1.out.mono ?_
      rintro e w2 ⟨rfl, hg2, _, hq2⟩
      have HG2 := Lib.hid hg2
      have HQ2 := Lib.hid hq2
      clear hg2 hq2
      go_wp2_with fail
      go_ret
      rw [HE.out]
      exact ⟨rfl, HG2.out, _, HQ2.out, fun _ => HL.out.symm⟩
    · obtain ⟨rfl, hnm⟩ := wfT_three hwf
      have hl := hk.1
      have hm := hk.2.1
      unfold maxLen at hm
      have HOK : Hid (okT 3 0 s f d left = (decide (f.len ≤ 4) && okF f (d + 1) (left - 1))) := Lib.hid (by
        rw [okT_three 0 s f d left (by omega)]
        unfold okS
        rw [hnm]; simp)
      have HK := Lib.hid hk
      have HH := Lib.hid h
      have HND := Lib.hid hnd
      have HWK := Lib.hid hwk
      by_cases c2 : 4 < f.len
      · have HE : Hid (okT 3 0 s f d left = false) := Lib.hid (by rw [HOK.out, decide_eq_false (show ¬ f.len ≤ 4 by omega)]; rfl)
        clear hk h hnd hwk hwf hnm HOK
        go_enter Tryd.func32, Tryd.ntmps32
        go_wp2_with fail
        refine HT1.out.mono ?_
        rintro e w2 ⟨rfl, hg2, hs2, hq2⟩
        have HG2 := Lib.hid hg2
        have HQ2 := Lib.hid hq2
        clear hg2 hq2
        go_wp2_with fail
        go_ret
        rw [HE.out]
        exact ⟨rfl, grownBy_alloc' HG2.out _, _, HQ2.out.alloc _, fun h => by cases h⟩
      · have HV : Hid (okT 3 0 s f d left = okF f (d + 1) (left - 1)) := Lib.hid (by rw [HOK.out, decide_eq_true (show f.len ≤ 4 by omega)]; rfl)
        have hv0 : okF f (d + 1) (left - 1) = okF f (d + 1) (left - 1) := rfl
        generalize hv : okF f (d + 1) (left - 1) = v at *
        have HV0 := Lib.hid hv
        clear hk h hnd hwk hwf hnm HOK hv hv0
        have hfl : f.len ≤ 4 := by omega
        generalize hn : f.len = len at *
        have HN := Lib.hid hn
        clear hn
        go_enter Tryd.func32, Tryd.ntmps32
        go_wp2_with fail
        refine HT1.out.mono ?_
        rintro e w2 ⟨rfl, hg2, hs2, hq2⟩
        have hbx := (Blk.new w2 84 #[.string s, .slice A len cap])
        have hq3 := hq2.alloc (.cells #[.string s, .slice A len cap] 84)
        have hg3 := grownBy_alloc' hg2 (.cells #[.string s, .slice A len cap] 84)
        rw [hs2] at hbx
        have HBX := Lib.hid hbx
        have HQ3 := Lib.hid hq3
        have HG3 := Lib.hid hg3
        clear hg2 hq2 hbx hq3 hg3
        go_wp2_with fail
        have hsz := HG3.out.size
        generalize w2.alloc (.cells #[.string s, .slice A len cap] 84) = w3 at *
        go_loopw [35] (fun i wr => ∃ (j : Nat) (l' : Int), j ≤ len ∧ i = .int .i64 j ∧ okF (f.drop j) (d + 1) l' = v ∧ l' - nodes (f.drop j) = left - 1 - nodes f ∧ 0 ≤ l' ∧ l' ≤ 120 ∧ wfF (f.drop j) = true ∧ w.grownBy wr (some mb) ∧ Blk wr mb 78 #[.int .i64 l']) (fun i _ => len - (intOf i).toNat)
        case atStart => exact ⟨0, left - 1, Nat.zero_le _, rfl, HV0.out, rfl, by omega, by omega, HWK.out, HG3.out, HQ3.out⟩
        case round =>
          obtain ⟨j, l', hj, rfl, hv, hcnt, hl0', hl1', hwf', hgr, hq⟩ := hrel
          by_cases hlt : j < len
          · obtain ⟨kk, nn, s', kids, hd'⟩ := Fr.drop_cons j f (by rw [HN.out]; exact hlt)
            obtain ⟨b, rfl, hlb, hbb, hrow⟩ := HK.out.2.2 (by rw [HN.out]; omega)
            obtain ⟨vv, hcell, hnv⟩ := hrow.elem hd'
            rw [Nat.zero_add] at hcell
            have hne := nodes_elem j f hd'
            have hndf := HND.out
            rw [hd', okF_cons] at hv
            rw [hd'] at hcnt
            simp only [nodes] at hcnt
            rw [hd', wfF_cons, Bool.and_eq_true, Bool.and_eq_true] at hwf'
            have hkeep : ∀ p : Addr, p.block < hi → wr.cell? p = w.cell? p := fun p hp => cell_grownBy hgr (by omega) (by omega)
            have k0 := (hkeep ⟨b, j, none⟩ hbb).trans hcell
            have C1 := HH.out _ _ _ _ _ _ hd' kk nn (d + 1) l' vv lo hi mb wr hwf'.1.1 hwf'.1.2 (hnv.keep (fun p _ hp => hkeep p hp) (Nat.le_refl _) (Nat.le_refl _)) (Nat.le_trans hh hgr.size) hmb (by omega) hq hl0' hl1' (by omega) (by omega)
            have HR : Hid (okT kk nn s' kids (d + 1) l' = true → (nodes kids : Int) + 1 ≤ l') := Lib.hid (okT_range kk nn s' kids (d + 1) l')
            generalize okT kk nn s' kids (d + 1) l' = t at *
            obtain ⟨T, x, rfl⟩ := hnv.iface
            have H1 := Lib.hid C1
            have HE := Lib.hid hv
            have HCN := Lib.hid hcnt
            have HGR := Lib.hid hgr
            have HWF := Lib.hid hwf'.2
            clear C1 hv hcnt hgr hq hwf' hcell hrow hnv hkeep hne hndf
            go_wp2_with fail
            refine H1.out.mono ?_
            rintro e w4 ⟨rfl, hg4, l2, hq4, hl2⟩
            cases t
            · have HF : Hid (v = false) := Lib.hid (by rw [← HE.out]; rfl)
              have HG4 := Lib.hid (grownBy_trans HGR.out hg4)
              have HQ4 := Lib.hid hq4
              clear hg4 hq4 hl2 k0
              go_wp2_with fail
              go_ret
              rw [HV.out, HF.out]
              exact ⟨rfl, HG4.out, l2, HQ4.out, fun h => by cases h⟩
            · have hl3 := hl2 rfl
              subst hl3
              have HF : Hid (okF (f.drop (j + 1)) (d + 1) (l' - (nodes kids + 1)) = v) := Lib.hid (by rw [← HE.out]; rfl)
              have hr1 := HR.out rfl
              have hcn := HCN.out
              have HF2 : Hid (l' - ((nodes kids : Int) + 1) - nodes (f.drop (j + 1)) = left - 1 - nodes f) := Lib.hid (by omega)
              have HG4 := Lib.hid (grownBy_trans HGR.out hg4)
              have HQ4 := Lib.hid hq4
              clear hg4 hq4 hl2 k0 hcn
              go_wp2_with fail
              go_roundw
              case rel => exact ⟨j + 1, _, by omega, by go_num, HF.out, HF2.out, by omega, by omega, HWF.out, HG4.out, HQ4.out⟩
              case measure => simp [intOf]; omega
          · obtain rfl : j = len := by omega
            have h1 := Fr.drop_len f
            rw [HN.out] at h1
            rw [h1] at hv hcnt
            have HE : Hid (v = true) := Lib.hid (by rw [← hv]; exact okF_nil _ _ hl0')
            have HL : Hid (l' = left - (nodes f + 1)) := Lib.hid (by
              have : nodes .nil = 0 := rfl
              rw [this] at hcnt; omega)
            have HGR := Lib.hid hgr
            have HQ := Lib.hid hq
            clear hv hcnt hgr hq hwf' h1
            go_wp2_with fail
            go_ret
            rw [HV.out, HE.out]
            exact ⟨rfl, HGR.out, l', HQ.out, fun _ => HL.out⟩
theorem ft_all (N : Nat) : ∀ (s : ByteArray) (f : Fr), f.size ≤ N → FtT s f := by
  induction N with
  | zero =>
    intro s f hf
    refine ftT_of s f fun i k n s kids rest hd => ?_
    have h1 := Fr.size_drop i f
    rw [hd] at h1
    simp only [Fr.size] at h1
    omega
  | succ N ih =>
    intro s f hf
    refine ftT_of s f fun i k n s kids rest hd => ih s kids ?_
    have h1 := Fr.size_drop i f
    rw [hd] at h1
    simp only [Fr.size] at h1
    omega
/-- budget.fits. -/
theorem ftT_any (s : ByteArray) (f : Fr) : FtT s f := ft_all f.size s f (Nat.le_refl _)
end Go.Proofs.YtkgihpddjppmdaaDoor

/- impl.validTermOf. Condition: the nodes lie in memory; their names and numbers are right. -/
namespace Go.Proofs.YtkgihpddjppmdaaDoor
open Go.RowKit

theorem wfT_shape {k n : Int} {s : ByteArray} {f : Fr} {d : Int} (h : shapeT k n s f d = true) : wfT k n s f.len = true := by
  have hk := shapeT_kind h
  by_cases h3 : k = 3
  · subst h3
    obtain ⟨rfl, hn, _⟩ := shapeT_struct h
    unfold wfT
    rw [hn]; simp
  · obtain ⟨rfl, rfl, hn⟩ := shapeT_leaf h h3
    unfold wfT
    rcases (show k = 1 ∨ k = 2 by omega) with rfl | rfl
    · rw [decide_eq_true (show (-9223372036854775808 : Int) ≤ n by omega), decide_eq_true (show n ≤ 9223372036854775807 by omega)]
      rfl
    · rw [decide_eq_true (show (-999 : Int) ≤ n by omega), decide_eq_true (show n ≤ 999 by omega)]
      rfl
theorem wfF_shape (f : Fr) : ∀ d, shapeF f d = true → wfF f = true := by
  induction f with
  | nil => intro d _; rfl
  | cons k n s kids rest ihk ihr =>
    intro d h
    rw [shapeF_cons, Bool.and_eq_true] at h
    rw [wfF_cons, wfT_shape h.1, ihk (d - 1) (shapeT_kids h.1), ihr d h.2]
    rfl

set_option maxRecDepth 100000 in
set_option maxHeartbeats 2000000 in
/-- impl.validTermOf. -/
theorem vt_any (m : Nd) (v : Value) (lo hi : Nat) (w : World) (hwf : wfT m.k m.n m.s m.f.len = true) (hwk : wfF m.f = true) (hv : NdV w lo hi m.k m.n m.s m.f v) (hh : hi ≤ w.heap.size) (hnd : nodes m.f ≤ 1048576) :
    Calls Tryd.prog 16 #[v] w fun e w' => TbRes w (vtF m) (vtB m) e w' := by
  obtain ⟨k, n, s, f⟩ := m
  have C1 := fun w1 mb (hb : Below w.heap.size w w1) (hq : Blk w1 mb 78 #[.int .i64 120]) (hm : w.heap.size ≤ mb) =>
    ftT_any s f k n 1 120 v lo hi mb w1 hwf hwk (hv.keep (fun p _ hp => hb.cell (by omega)) (Nat.le_refl _) (Nat.le_refl _)) (Nat.le_trans hh hb.size) (Nat.le_trans hh hm) hnd hq (by omega) (by omega) (by omega) (by omega)
  have C2 := fun w1 (hb : Below w.heap.size w w1) (hs : shapeT k n s f 30 = true) => tmT_any s f k n 30 v lo hi w1 hs (hv.keep (fun p _ hp => hb.cell (by omega)) (Nat.le_refl _) (Nat.le_refl _)) (Nat.le_trans hh hb.size) hnd
  rw [okT_valid] at C1
  have hb0 := two_alloc w (.cells #[.int .i64 0, .int .i64 0, .string ⟨#[]⟩, .slice none 0 0] 25) (.cells #[.int .i64 120] 78)
  have hz0 : Blk ((w.alloc (.cells #[.int .i64 0, .int .i64 0, .string ⟨#[]⟩, .slice none 0 0] 25)).alloc (.cells #[.int .i64 120] 78)) w.heap.size 25 #[.int .i64 0, .int .i64 0, .string ⟨#[]⟩, .slice none 0 0] := (Blk.new w _ _).alloc _
  have hq0 : Blk ((w.alloc (.cells #[.int .i64 0, .int .i64 0, .string ⟨#[]⟩, .slice none 0 0] 25)).alloc (.cells #[.int .i64 120] 78)) (w.heap.size + 1) 78 #[.int .i64 120] := by
    have h := Blk.new (w.alloc (.cells #[.int .i64 0, .int .i64 0, .string ⟨#[]⟩, .slice none 0 0] 25)) 78 #[.int .i64 120]
    simpa using h
  have C0 := C1 _ _ hb0 hq0 (by omega)
  obtain ⟨T, x, rfl⟩ := hv.iface
  have hsz : ((w.alloc (.cells #[.int .i64 0, .int .i64 0, .string ⟨#[]⟩, .slice none 0 0] 25)).alloc (.cells #[.int .i64 120] 78)).heap.size = w.heap.size + 1 + 1 := by simp
  have H1 := Lib.hid C0
  have H2 := Lib.hid C2
  have HB0 := Lib.hid hb0
  have HZ0 := Lib.hid hz0
  have HSZ := Lib.hid hsz
  clear C0 C1 C2 hwf hwk hv hnd hh hb0 hz0 hq0 hsz
  have HM : Hid (vtF ⟨k, n, s, f⟩ = (if validT k n s f = true then ⟨k, n, s, f⟩ else nd0) ∧ vtB ⟨k, n, s, f⟩ = validT k n s f) := Lib.hid ⟨rfl, rfl⟩
  have HSH : Hid (validT k n s f = true → shapeT k n s f 30 = true) := Lib.hid fun h => by unfold validT at h; rw [Bool.and_eq_true] at h; exact h.1
  generalize validT k n s f = ok at *
  go_enter Tryd.func16, Tryd.ntmps16
  go_wp2_with fail
  refine H1.out.mono ?_
  rintro e w3 ⟨rfl, hg, _⟩
  have hb3 := below_grownBy HB0.out (by omega) hg
  have hz3 := HZ0.out.grown hg (by omega)
  have hs3 : w.heap.size + 1 + 1 ≤ w3.heap.size := by have := HSZ.out; have := hg.size; omega
  clear hg
  cases ok
  · obtain ⟨d0, d1, d2, d3⟩ := cells4i hz3
    obtain ⟨f0, f1, f2, f3⟩ := frozen4 hz3
    have HB3 := Lib.hid hb3
    have HZ3 := Lib.hid hz3
    clear hb3 hz3 H1 H2 HSH
    go_wp2_with fail
    rw [HM.out.1, HM.out.2]
    refine bodyPost_ret (v := .tuple #[.agg #[.int .i64 0, .int .i64 0, .string ⟨#[]⟩, .slice none 0 0], .bool false]) ?_ rfl (tb_no (below4 HB3.out (Nat.le_refl _) _ _ _ _))
    exact results_cell_row2 Tryd.results16 _ _ w.heap.size _ _ _ _ rfl (set4 HZ3.out _ _ _ _) Tryd.underlying25 rfl (by kernel_rfl)
  · have HB3 := Lib.hid hb3
    have HZ3 := Lib.hid hz3
    clear hb3 hz3 H1
    go_wp2_with fail
    refine (H2.out _ HB3.out (HSH.out (by first | rfl | trivial))).mono ?_
    rintro e w4 ⟨A4, cap4, rfl, hm⟩
    have hd := made_below hm
    have hz4 := HZ3.out.below hd HZ3.out.lt
    obtain ⟨d0, d1, d2, d3⟩ := cells4i hz4
    obtain ⟨f0, f1, f2, f3⟩ := frozen4 hz4
    have HZ4 := Lib.hid hz4
    have HM4 : Hid (∃ L, OwnS w4 f A4 cap4 L ∧ L.Nodup ∧ (∀ x ∈ L, w3.heap.size ≤ x ∧ x < w4.heap.size)) := Lib.hid (by obtain ⟨L, h1, h2, h3, _⟩ := hm; exact ⟨L, h1, h2, h3⟩)
    have HB4 := Lib.hid (HB3.out.trans (hd.mono HB3.out.size))
    clear hm hd hz4 H2
    go_wp2_with fail
    rw [HM.out.1, HM.out.2]
    refine bodyPost_ret (v := .tuple #[.agg #[.int .i64 k, .int .i64 n, .string s, .slice A4 f.len cap4], .bool true]) ?_ rfl ⟨A4, cap4, rfl, made_set4 HM4.out HB4.out (Nat.le_refl _) (by omega) _ _ _ _⟩
    exact results_cell_row2 Tryd.results16 _ _ w.heap.size _ _ _ _ rfl (set4 HZ4.out _ _ _ _) Tryd.underlying25 rfl (by kernel_rfl)
end Go.Proofs.YtkgihpddjppmdaaDoor

/- The map of impl.ApplyBinds, and the function that it hands on. Condition: the map holds the nodes of valid terms. -/
namespace Go.Proofs.YtkgihpddjppmdaaDoor
open Go.RowKit Go.Maps

/-- A node as an element of a map: held as it is. -/
def heldA (v : Value) : Option (DataW Value × List MemPlace) := some (.held v, [])
theorem heldA_inv {v u : Value} {ps : List MemPlace} {z : DataW Value} (h : heldA v = some (z, ps)) (hz : z = .held u) : v = u := by
  unfold heldA at h
  subst hz
  injection h with h
  injection h with h _
  injection h
theorem zeroA (w : World) : (zeroValue 44).run Tryd.prog w = .ok .nilIface w := by kernel_rfl
theorem lawA : Keyed Tryd.prog 48 := int_keyed Tryd.underlying48

theorem NdRowIn.of_range {w : World} {P : Nat → Prop} {lo hi : Nat} (hP : ∀ x, lo ≤ x → x < hi → P x) (f : Fr) : ∀ b o, NdRow w lo hi f b o → NdRowIn w P f b o := by
  induction f with
  | nil => intro b o _; trivial
  | cons k n s kids rest ihk ihr =>
    rintro b o ⟨⟨v, hv, hw⟩, hr⟩
    refine ⟨⟨v, hv, ?_⟩, ihr b (o + 1) hr⟩
    rcases hw with h | h | ⟨h1, A, cap, h2, h3, h4, h5⟩
    · exact .inl h
    · exact .inr (.inl h)
    · refine .inr (.inr ⟨h1, A, cap, h2, h3, h4, fun hp => ?_⟩)
      obtain ⟨b', e, hb, hb2, hrow⟩ := h5 hp
      exact ⟨b', e, hP _ hb hb2, ihk b' 0 hrow⟩
theorem NdVIn.of_range {w : World} {P : Nat → Prop} {lo hi : Nat} (hP : ∀ x, lo ≤ x → x < hi → P x) {k n : Int} {s : ByteArray} {kids : Fr} {v : Value} (h : NdV w lo hi k n s kids v) : NdVIn w P k n s kids v := by
  rcases h with h | h | ⟨h1, A, cap, h2, h3, h4, h5⟩
  · exact .inl h
  · exact .inr (.inl h)
  · refine .inr (.inr ⟨h1, A, cap, h2, h3, h4, fun hp => ?_⟩)
    obtain ⟨b', e, hb, hb2, hrow⟩ := h5 hp
    exact ⟨b', e, hP _ hb hb2, NdRowIn.of_range hP kids b' 0 hrow⟩

/-- The map in block mb holds the nodes of what F knows; these lie behind it, to below hi. -/
def MpA (w : World) (mb hi c : Nat) (F : Int → Option Nd) : Prop := ∃ D : DataW Value, w.ownsMap Tryd.prog 48 heldA mb c D ∧ IsMap D ∧ (∀ n, has D (.int .i64 n) = (F n).isSome) ∧
  ∀ n m, F n = some m → validT m.k m.n m.s m.f = true ∧ ∃ v, D.atKey (.int .i64 n) (.held .nilIface) = .held v ∧ NdV w (mb + 1) hi m.k m.n m.s m.f v
theorem MpA.wrote {w w' : World} {mb hi hi' c : Nat} {F : Int → Option Nd} {L : List Nat} (h : MpA w mb hi c F) (hb : Wrote L w w') (hh : hi ≤ w.heap.size) (hL : ∀ x ∈ L, x < mb ∨ hi ≤ x) (hm : mb < hi) (hH : hi ≤ hi') : MpA w' mb hi' c F := by
  obtain ⟨D, hD, h1, h2, h3⟩ := h
  have hlt := hD.lt
  obtain ⟨es, clock, he, r⟩ := hD
  refine ⟨D, ⟨es, clock, (hb.block mb hlt fun e => by have := hL _ e; omega).trans he, r⟩, h1, h2, fun n m hm => ?_⟩
  obtain ⟨a, v, b, c⟩ := h3 n m hm
  exact ⟨a, v, b, c.keep (fun p hl hp => hb.cell (by omega) fun e => by have := hL _ e; omega) (Nat.le_refl _) hH⟩
theorem MpA.below {w w' : World} {mb hi hi' c : Nat} {F : Int → Option Nd} (h : MpA w mb hi c F) (hb : Below w.heap.size w w') (hh : hi ≤ w.heap.size) (hm : mb < hi) (hH : hi ≤ hi') : MpA w' mb hi' c F := h.wrote (.of_below hb []) hh (by simp) hm hH
def updB (F : Int → Option Nd) (n : Int) (m : Nd) (x : Int) : Option Nd := if x = n then some m else F x
theorem updB_same (F : Int → Option Nd) (n : Int) (m : Nd) : updB F n m n = some m := if_pos rfl
theorem updB_other (F : Int → Option Nd) {n x : Int} (m : Nd) (h : ¬ x = n) : updB F n m x = F x := if_neg h
/-- One more. -/
theorem MpA.put {w w1 : World} {mb hi c : Nat} {F : Int → Option Nd} {D : DataW Value} {n : Int} {m : Nd} {v : Value} (h1 : IsMap D) (h2 : ∀ n, has D (.int .i64 n) = (F n).isSome)
    (h3 : ∀ n m, F n = some m → validT m.k m.n m.s m.f = true ∧ ∃ v, D.atKey (.int .i64 n) (.held .nilIface) = .held v ∧ NdV w (mb + 1) hi m.k m.n m.s m.f v) (hh : hi ≤ w.heap.size)
    (hD : w1.ownsMap Tryd.prog 48 heldA mb (c + 1) (D.put (.int .i64 n) (.held v))) (hg : w.grownBy w1 (some mb)) (hs : validT m.k m.n m.s m.f = true) (hv : NdV w (mb + 1) hi m.k m.n m.s m.f v) : MpA w1 mb w1.heap.size (c + 1) (updB F n m) := by
  have hs1 := hg.size
  have far : ∀ p : Addr, mb + 1 ≤ p.block → p.block < hi → w1.cell? p = w.cell? p := fun p hl hp => World.cell?_of_block (hg.block p.block (by omega) (by simp; omega))
  refine ⟨_, hD, h1.put _ _, fun x => ?_, fun x o ho => ?_⟩
  · by_cases e : x = n
    · subst e
      rw [has_put_same h1 (show WideAt.IsKeyLit (.int .i64 x) from trivial), updB_same]; rfl
    · rw [has_put_other (fun h => e (by injection h)), updB_other F m e, h2]
  · by_cases e : x = n
    · subst e
      rw [updB_same] at ho
      injection ho with ho
      subst ho
      exact ⟨hs, v, atKey_put_same h1 (show WideAt.IsKeyLit (.int .i64 x) from trivial) _ _, hv.keep far (Nat.le_refl _) (by omega)⟩
    · rw [updB_other F m e] at ho
      obtain ⟨a, u, b, c⟩ := h3 x o ho
      exact ⟨a, u, (atKey_put_other (fun h => e (by injection h)) _ _).trans b, c.keep far (Nat.le_refl _) (by omega)⟩

/-- The place of the function's state: the box cb leads to the map mb. -/
def ApI (mb cb hi c : Nat) (F : Int → Option Nd) (w : World) (_ : Unit) (Q : List Nat) : Prop := Q = [] ∧ w.cell? ⟨cb, 0, none⟩ = some (.map (some mb)) ∧ MpA w mb hi c F ∧ hi ≤ w.heap.size
theorem ap_ef : ∀ args w, (callFunc 18 args).run Tryd.prog w = .ok (.enter 18 args) w := fun _ _ => by kernel_rfl

set_option maxRecDepth 100000 in
set_option maxHeartbeats 2000000 in
/-- The function that ApplyBinds hands on. -/
theorem ap_rep (ns : List Int) (g : Fr) (mb cb hi c : Nat) (F : Int → Option Nd) (hF : ∀ x, F x = fdB ns g x) (h1 : mb < cb) (h2 : cb < hi) : RepC (α := Unit) 18 #[] #[.pointer (some ⟨cb, 0, none⟩)] (ApI mb cb hi c F) (fun x => mb ≤ x ∧ x < hi) hi (fun _ => 0) (fun a _ => a) (apO ns g) where
  keep := fun {w w' a Q L} h hw hL => by
    obtain ⟨rfl, hc, hM, hs⟩ := h
    have hL2 : ∀ x ∈ L, x < mb ∨ hi ≤ x := fun x hx => by have := (hL x hx).2; omega
    exact ⟨rfl, (hw.cell (by show cb < _; omega) fun e => by have := hL2 _ e; simp only at this; omega).trans hc, hM.wrote hw hs hL2 (by omega) (Nat.le_refl _), Nat.le_trans hs hw.size⟩
  lt := fun {w a Q} h x hx => by
    obtain ⟨rfl, _⟩ := h
    cases hx
  old := fun x hx => hx.2
  len := fun _ _ => Nat.zero_le _
  call := fun a Q n w h hB _ hn => by
    have h0 := h
    obtain ⟨rfl, hc, hM, hs⟩ := h
    obtain ⟨D, hD, hI, hH, hX⟩ := hM
    have hkey : keyOf Tryd.prog 48 (.int .i64 n) = some (.int .i64 n) := keyOf_int_mk Tryd.underlying48 (WalkArith.wf_i64 (by omega))
    have hhn := hH n
    have HD := Lib.hid hD
    cases hlk : F n with
    | none =>
      have ho : apO ns g a n = ⟨1, n, ⟨#[]⟩, .nil⟩ := by unfold apO; rw [← hF, hlk]; rfl
      rw [hlk] at hhn
      have HHN : Hid (has D (.int .i64 n) = false) := Lib.hid hhn
      have HR : Hid (∃ (Q' : List Nat) (v : Value), (Ending.returned (.iface 48 (.int .i64 n)) = .returned v) ∧ ApI mb cb hi c F w a Q' ∧ Wrote [] w w ∧ (∀ x ∈ Q', x ∈ ([] : List Nat) ∨ w.heap.size ≤ x) ∧ NdVIn w (Fresh3 (fun x => mb ≤ x ∧ x < hi) w.heap.size w.heap.size Q') (apO ns g a n).k (apO ns g a n).n (apO ns g a n).s (apO ns g a n).f v) :=
        Lib.hid ⟨[], _, rfl, h0, .refl _ _, (fun x hx => nomatch hx), by rw [ho]; exact .inl ⟨rfl, rfl⟩⟩
      clear hD hI hH hX hhn hlk ho h0
      go_enter Tryd.func18, Tryd.ntmps18
      go_wp2_with (at_lookup; refine wpList_lookup_own_ok _ rfl _ _ 47 rfl 48 44 lawA Tryd.underlying47 heldA (zeroA _) (.held .nilIface) [] rfl mb c D rfl HD.out _ _ rfl hkey ?_; intro v ps hv; rw [HHN.out]; clear hv)
      go_ret
      exact HR.out
    | some o =>
      have ho : apO ns g a n = o := by unfold apO; rw [← hF, hlk]; rfl
      rw [hlk] at hhn
      have HHN : Hid (has D (.int .i64 n) = true) := Lib.hid hhn
      obtain ⟨hso, u, hat, hu⟩ := hX n o hlk
      have HAT := Lib.hid hat
      have HR : Hid (∃ (Q' : List Nat) (v : Value), (Ending.returned u = .returned v) ∧ ApI mb cb hi c F w a Q' ∧ Wrote [] w w ∧ (∀ x ∈ Q', x ∈ ([] : List Nat) ∨ w.heap.size ≤ x) ∧ NdVIn w (Fresh3 (fun x => mb ≤ x ∧ x < hi) w.heap.size w.heap.size Q') (apO ns g a n).k (apO ns g a n).n (apO ns g a n).s (apO ns g a n).f v) :=
        Lib.hid ⟨[], u, rfl, h0, .refl _ _, (fun x hx => nomatch hx), by rw [ho]; exact NdVIn.of_range (fun x a b => ⟨.inl ⟨by omega, b⟩, by omega, by simp⟩) hu⟩
      obtain ⟨T3, z3, rfl⟩ := hu.iface
      clear hD hI hH hX hhn hlk ho h0 hat hu
      go_enter Tryd.func18, Tryd.ntmps18
      go_wp2_with (at_lookup; refine wpList_lookup_own_ok _ rfl _ _ 47 rfl 48 44 lawA Tryd.underlying47 heldA (zeroA _) (.held .nilIface) [] rfl mb c D rfl HD.out _ _ rfl hkey ?_; intro v ps hv; rw [HHN.out]; have hv2 := heldA_inv hv HAT.out; subst hv2; clear hv)
      go_ret
      exact HR.out

theorem wfF_ap {ns : List Int} {g : Fr} (ha : allB g = true) (f : Fr) : ∀ d, shapeF f d = true → wfF (apF ns g f) = true := by
  induction f with
  | nil => intro d _; rfl
  | cons k n s kids rest ihk ihr =>
    intro d h
    rw [shapeF_cons, Bool.and_eq_true] at h
    rw [apF_cons, wfF_cons, ihr d h.2]
    by_cases hk : k = 1
    · subst hk
      have h3 := (validT_fits (apO_good (ns := ns) ha h.1)).1
      have e : apT ns g 1 n s kids = apO ns g () n := by unfold apT rpT; rw [if_pos rfl]
      rw [e, wfT_shape h3, wfF_shape _ 29 (shapeT_kids h3)]
      rfl
    · rw [apT_other hk]
      show ((wfT k n s (apF ns g kids).len && wfF (apF ns g kids)) && true) = true
      rw [apF_len, wfT_shape h.1, ihk (d - 1) (shapeT_kids h.1)]
      rfl
theorem wf_ap {ns : List Int} {g : Fr} (ha : allB g = true) {k n d : Int} {s : ByteArray} {f : Fr} (h : shapeT k n s f d = true) : wfT (apT ns g k n s f).k (apT ns g k n s f).n (apT ns g k n s f).s (apT ns g k n s f).f.len = true ∧ wfF (apT ns g k n s f).f = true := by
  by_cases hk : k = 1
  · subst hk
    have h3 := (validT_fits (apO_good (ns := ns) ha h)).1
    have e : apT ns g 1 n s f = apO ns g () n := by unfold apT rpT; rw [if_pos rfl]
    rw [e]
    exact ⟨wfT_shape h3, wfF_shape _ 29 (shapeT_kids h3)⟩
  · rw [apT_other hk]
    exact ⟨by show wfT k n s (apF ns g f).len = true; rw [apF_len]; exact wfT_shape h, wfF_ap ha f (d - 1) (shapeT_kids h)⟩
theorem RC.wrote {w wk wl : World} {H : Nat} {L : List Nat} (h : RC w H wk) (hb : Wrote L wk wl) (hL : ∀ x ∈ L, H < x) : RC w H wl :=
  ⟨hb.blk h.1 fun e => by have := hL _ e; omega, h.2.1, h.2.2.trans (hb.below h.2.2.size fun x hx => by have := hL x hx; have := h.2.1; omega)⟩
end Go.Proofs.YtkgihpddjppmdaaDoor
