/- laws.szTerm, laws.szTermS: how much of a budget a term takes. No condition but that the term lies in memory. -/
import Derived.Test.YtohkpgpcipjpkaaGreatDoorProg
import Derived.Test.YtohkpgpcipjpkaaGreatDoorFr
import Derived.WalkKit
import Derived.WalkSpells
import Derived.Outline
namespace Go.Proofs.YtohkpgpcipjpkaaGreatDoor
open Go.RowKit

/-- What is left of l behind the row, or -1. -/
def szF : Fr → Int → Int
  | .nil, l => l
  | .cons _ _ s kids rest, l => if l - s.size < 0 then -1 else if l - s.size - kids.len < 0 then -1 else if szF kids (l - s.size - kids.len) < 0 then -1 else szF rest (szF kids (l - s.size - kids.len))
def szS (f : Fr) (l : Int) : Int := if l - f.len < 0 then -1 else szF f (l - f.len)
def szT (s : ByteArray) (kids : Fr) (l : Int) : Int := if l - s.size < 0 then -1 else szS kids (l - s.size)
/-- Letters and terms of the row's names and arguments, at every depth. -/
def wt : Fr → Nat
  | .nil => 0
  | .cons _ _ s kids rest => s.size + kids.len + wt kids + wt rest
theorem szF_range (f : Fr) : ∀ l : Int, 0 ≤ l → -1 ≤ szF f l ∧ szF f l ≤ l ∧ (0 ≤ szF f l → szF f l = l - wt f) := by
  induction f with
  | nil => intro l h; simp only [szF, wt]; omega
  | cons k n s kids rest ihk ihr =>
    intro l h
    simp only [szF, wt]
    split
    · omega
    · split
      · omega
      · rename_i h1 h2
        have hk := ihk (l - s.size - kids.len) (by omega)
        split
        · omega
        · rename_i h3
          have hr := ihr _ (Int.not_lt.1 h3)
          omega
theorem szS_range (f : Fr) (l : Int) (h : 0 ≤ l) : -1 ≤ szS f l ∧ szS f l ≤ l ∧ (0 ≤ szS f l → szS f l = l - f.len - wt f) := by
  unfold szS
  split
  · omega
  · have := szF_range f (l - f.len) (by omega); omega
theorem szT_range (s : ByteArray) (f : Fr) (l : Int) (h : 0 ≤ l) : -1 ≤ szT s f l ∧ szT s f l ≤ l ∧ (0 ≤ szT s f l → szT s f l = l - s.size - f.len - wt f) := by
  unfold szT
  split
  · omega
  · have := szS_range f (l - s.size) (by omega); omega
theorem szF_cons (k n : Int) (s : ByteArray) (kids rest : Fr) (l : Int) : szF (.cons k n s kids rest) l = if szT s kids l < 0 then -1 else szF rest (szT s kids l) := by
  simp only [szF, szT, szS]
  split
  · rfl
  · split <;> rfl

def SzS (f : Fr) : Prop := ∀ (A : Option Addr) (cap lo hi : Nat) (left : Int) (w : World), KidsAt w lo hi f A cap → hi ≤ w.heap.size → 0 ≤ left → left ≤ 1048576 →
  Calls Tryz.prog 4 #[.slice A f.len cap, .int .i64 left] w fun e w' => e = .returned (.int .i64 (szS f left)) ∧ Below w.heap.size w w'
def SzT (s : ByteArray) (f : Fr) : Prop := ∀ (k n : Int) (A : Option Addr) (cap lo hi : Nat) (left : Int) (w : World), KidsAt w lo hi f A cap → hi ≤ w.heap.size → Fits k n s → 0 ≤ left → left ≤ 1048576 →
  Calls Tryz.prog 12 #[.agg #[.int .i64 k, .int .i64 n, .string s, .slice A f.len cap], .int .i64 left] w fun e w' => e = .returned (.int .i64 (szT s f left)) ∧ Below w.heap.size w w'

set_option maxHeartbeats 400000 in
theorem szT_of (s : ByteArray) (f : Fr) (h : SzS f) : SzT s f := by
  intro k n A cap lo hi left w hk hh hf h0 h1
  have hs := hf.2.2
  unfold maxLen at hs
  have hl := hk.1
  have hm := hk.2.1
  unfold maxLen at hm
  clear hf
  by_cases hneg : left - s.size < 0
  · have HV : Hid (szT s f left = -1) := Lib.hid (by unfold szT; rw [if_pos hneg])
    clear hk h
    generalize f.len = len at *
    go_enter Tryz.func12, Tryz.ntmps12
    go_wp2_with fail
    go_ret
    rw [HV.out]
    exact ⟨rfl, (Below.refl _ _).alloc (Nat.le_refl _) _⟩
  · have HV : Hid (szT s f left = szS f (left - s.size)) := Lib.hid (by unfold szT; rw [if_neg hneg])
    have hr := szS_range f (left - s.size) (by omega)
    have C1 : ∀ w1, Below w.heap.size w w1 → Calls Tryz.prog 4 #[.slice A f.len cap, .int .i64 (left - s.size)] w1 fun e w' => e = .returned (.int .i64 (szS f (left - s.size))) ∧ Below w1.heap.size w1 w' :=
      fun w1 hb => h A cap lo hi _ w1 (hk.below hb hh) (Nat.le_trans hh hb.size) (by omega) (by omega)
    generalize szS f (left - s.size) = r at *
    have H1 := Lib.hid C1
    clear C1 hk h
    have r1 := hr.1
    have r2 := hr.2.1
    clear hr
    generalize f.len = len at *
    by_cases hz : r < 0
    all_goals
      go_enter Tryz.func12, Tryz.ntmps12
      go_wp2_with fail
      refine (H1.out _ ((Below.refl _ _).alloc (Nat.le_refl _) _)).mono ?_
      rintro e w' ⟨rfl, hb⟩
      have HB := Lib.hid hb
      clear hb
      go_wp2_with fail
      go_ret
      rw [HV.out]
      refine ⟨?_, ((Below.refl _ _).alloc (Nat.le_refl _) _).trans (HB.out.mono (by simp))⟩
      first | rfl | (have : r = -1 := by omega); rw [this]; rfl

set_option maxHeartbeats 1000000 in
theorem szS_of (f : Fr) (h : ∀ i k n s kids rest, f.drop i = .cons k n s kids rest → SzT s kids) : SzS f := by
  intro A cap lo hi left w hk hh h0 h1
  have HK := Lib.hid hk
  have HH := Lib.hid h
  have HHI := Lib.hid hh
  have hl := hk.1
  have hm := hk.2.1
  unfold maxLen at hm
  clear hk h hh
  by_cases hneg : left - f.len < 0
  · have HV : Hid (szS f left = -1) := Lib.hid (by unfold szS; rw [if_pos hneg])
    generalize f.len = len at *
    go_enter Tryz.func4, Tryz.ntmps4
    go_wp2_with fail
    go_ret
    rw [HV.out]
    exact ⟨rfl, Below.refl _ _⟩
  · have HV : Hid (szS f left = szF f (left - f.len)) := Lib.hid (by unfold szS; rw [if_neg hneg])
    generalize hn : f.len = len at *
    have HN := Lib.hid hn
    clear hn
    go_enter Tryz.func4, Tryz.ntmps4
    go_wp2_with fail
    go_loopw [1, 5] (fun l i wr => ∃ (k : Nat) (z : Int), k ≤ len ∧ i = .int .i64 k ∧ l = .int .i64 z ∧ 0 ≤ z ∧ z ≤ 1048576 ∧ szF (f.drop k) z = szF f (left - len) ∧ Below w.heap.size w wr) (fun _ i _ => len - (intOf i).toNat)
    case atStart => exact ⟨0, _, Nat.zero_le _, rfl, rfl, by omega, by omega, rfl, Below.refl _ _⟩
    case round =>
      obtain ⟨k, z, hk, rfl, rfl, hz0, hz1, hsz, hb⟩ := hrel
      by_cases hlt : k < len
      · obtain ⟨kk, nn, s, kids, hd⟩ := Fr.drop_cons k f (by rw [HN.out]; exact hlt)
        obtain ⟨b, o, rfl, hlb, hbb, hrow⟩ := HK.out.2.2 (by rw [HN.out]; omega)
        obtain ⟨hfit, A', cap', c0, c1, c2, c3, hkid⟩ := hrow.elem hd
        rw [hd, szF_cons] at hsz
        have hlo : (⟨b, o, none⟩ : Addr).block < w.heap.size := Nat.lt_of_lt_of_le hbb HHI.out
        have k0 := (hb.cell (p := ⟨b, o + k * 4, none⟩) hlo).trans c0
        have k1 := (hb.cell (p := ⟨b, o + k * 4 + 1, none⟩) hlo).trans c1
        have k2 := (hb.cell (p := ⟨b, o + k * 4 + 2, none⟩) hlo).trans c2
        have k3 := (hb.cell (p := ⟨b, o + k * 4 + 3, none⟩) hlo).trans c3
        have C1 := HH.out _ _ _ _ _ _ hd kk nn A' cap' lo hi z wr (hkid.below hb HHI.out) (Nat.le_trans HHI.out hb.size) hfit hz0 hz1
        have hr := szT_range s kids z hz0
        generalize szT s kids z = r at *
        have H1 := Lib.hid C1
        have HB := Lib.hid hb
        have HS := Lib.hid hsz
        have r1 := hr.1
        have r2 := hr.2.1
        clear C1 hb hsz hr c0 c1 c2 c3 hkid hrow hfit hd hlo
        generalize kids.len = kl at *
        by_cases hz : r < 0
        · have HE : Hid (szF f (left - len) = -1) := Lib.hid (by rw [← HS.out, if_pos hz])
          go_wp2_with fail
          refine H1.out.mono ?_
          rintro e w' ⟨rfl, hb2⟩
          have HB2 := Lib.hid hb2
          clear hb2
          go_wp2_with fail
          go_ret
          rw [HV.out, HE.out]
          exact ⟨rfl, HB.out.trans (HB2.out.mono HB.out.size)⟩
        · have HE : Hid (szF (f.drop (k + 1)) r = szF f (left - len)) := Lib.hid (by rw [← HS.out, if_neg hz])
          go_wp2_with fail
          refine H1.out.mono ?_
          rintro e w' ⟨rfl, hb2⟩
          have HB2 := Lib.hid hb2
          clear hb2
          go_wp2_with fail
          go_roundw
          case rel => exact ⟨k + 1, r, by omega, by go_num, rfl, by omega, by omega, HE.out, HB.out.trans (HB2.out.mono HB.out.size)⟩
          case measure => simp [intOf]; omega
      · obtain rfl : k = len := by omega
        have HE : Hid (szF f (left - k) = z) := Lib.hid (by
          have h1 := Fr.drop_len f
          rw [HN.out] at h1
          rw [← hsz, h1]; rfl)
        have HB := Lib.hid hb
        clear hb hsz
        go_wp2_with fail
        go_ret
        rw [HV.out, HE.out]
        exact ⟨rfl, HB.out⟩

theorem sz_all (N : Nat) : ∀ f : Fr, f.size ≤ N → SzS f := by
  induction N with
  | zero =>
    intro f hf
    refine szS_of f fun i k n s kids rest hd => ?_
    have h1 := Fr.size_drop i f
    rw [hd] at h1
    simp only [Fr.size] at h1
    omega
  | succ N ih =>
    intro f hf
    refine szS_of f fun i k n s kids rest hd => szT_of s kids (ih kids ?_)
    have h1 := Fr.size_drop i f
    rw [hd] at h1
    simp only [Fr.size] at h1
    omega
/-- laws.szTermS. -/
theorem szS_any (f : Fr) : SzS f := sz_all f.size f (Nat.le_refl _)
/-- laws.szTerm. -/
theorem szT_any (s : ByteArray) (f : Fr) : SzT s f := szT_of s f (szS_any f)
end Go.Proofs.YtohkpgpcipjpkaaGreatDoor
