/- laws.szClause, szClauseS, toClause, toClauseS. Condition: the clauses lie in memory; no more than the law's budget. -/
import Derived.Test.YtlapdnllncoomaaDoorProg
import Derived.Test.YtlapdnllncoomaaDoorCl
import Derived.Test.YtlapdnllncoomaaDoorSz
import Derived.Test.YtlapdnllncoomaaDoorSpecV
import Derived.OwnWalk
namespace Go.Proofs.YtlapdnllncoomaaDoor
open Go.RowKit

def szC (c : Cl) (l : Int) : Int := if szT c.s c.kids l < 0 then -1 else szS c.body (szT c.s c.kids l)
def wtC (c : Cl) : Nat := c.s.size + c.kids.len + wt c.kids + c.body.len + wt c.body
theorem szC_range (c : Cl) (l : Int) (h : 0 ≤ l) : -1 ≤ szC c l ∧ szC c l ≤ l ∧ (0 ≤ szC c l → szC c l = l - wtC c) := by
  have h1 := szT_range c.s c.kids l h
  unfold szC
  split
  · exact ⟨by omega, by omega, fun h => absurd h (by omega)⟩
  · have h2 := szS_range c.body (szT c.s c.kids l) (by omega)
    refine ⟨h2.1, by omega, fun h0 => ?_⟩
    have a := h1.2.2 (by omega)
    have b := h2.2.2 h0
    unfold wtC
    omega
def szCF : List Cl → Int → Int
  | [], l => l
  | c :: cs, l => if szC c l < 0 then -1 else szCF cs (szC c l)
def szCS (cs : List Cl) (l : Int) : Int := if l - cs.length < 0 then -1 else szCF cs (l - cs.length)
def wtCs : List Cl → Nat
  | [] => 0
  | c :: cs => wtC c + wtCs cs
theorem szCF_range : ∀ (cs : List Cl) (l : Int), 0 ≤ l → -1 ≤ szCF cs l ∧ szCF cs l ≤ l ∧ (0 ≤ szCF cs l → szCF cs l = l - wtCs cs)
  | [], l, h => ⟨by unfold szCF; omega, Int.le_refl _, fun _ => by simp [szCF, wtCs]⟩
  | c :: cs, l, h => by
    have h1 := szC_range c l h
    unfold szCF
    split
    · exact ⟨by omega, by omega, fun h => absurd h (by omega)⟩
    · have h2 := szCF_range cs (szC c l) (by omega)
      refine ⟨h2.1, by omega, fun h0 => ?_⟩
      have a := h1.2.2 (by omega)
      have b := h2.2.2 h0
      simp only [wtCs]
      omega
theorem szCS_range (cs : List Cl) (l : Int) (h : 0 ≤ l) : -1 ≤ szCS cs l ∧ szCS cs l ≤ l ∧ (0 ≤ szCS cs l → szCS cs l = l - cs.length - wtCs cs) := by
  unfold szCS
  split
  · exact ⟨by omega, by omega, fun h => absurd h (by omega)⟩
  · have := szCF_range cs (l - cs.length) (by omega)
    omega
theorem wtC_le : ∀ (cs : List Cl) (i : Nat) {c : Cl} {rest : List Cl}, cs.drop i = c :: rest → wtC c ≤ wtCs cs
  | [], i, _, _, h => by simp at h
  | c' :: cs, 0, _, _, h => by
    injection h with e1 e2
    subst e1
    simp only [wtCs]; omega
  | c' :: cs, i + 1, _, _, h => by
    have := wtC_le cs i h
    simp only [wtCs]; omega
theorem drop_cl (cs : List Cl) (i : Nat) (h : i < cs.length) : ∃ c, cs.drop i = c :: cs.drop (i + 1) := ⟨cs[i], List.drop_eq_getElem_cons h⟩

theorem infoC : (Tryd.prog.info? 68).map (fun i => (i.zero, i.size, i.bytes)) = some (some (.agg #[.int .i64 0, .int .i64 0, .string ByteArray.empty, .slice none 0 0, .slice none 0 0]), 5, 80) := by kernel_rfl

set_option maxRecDepth 100000 in
set_option maxHeartbeats 1000000 in
/-- laws.szClause. -/
theorem szC_any (c : Cl) (A B : Option Addr) (cap capB lo hi : Nat) (left : Int) (w : World) (hk : KidsAt w lo hi c.kids A cap) (hkb : KidsAt w lo hi c.body B capB) (hh : hi ≤ w.heap.size) (hf : Fits c.k c.n c.s) (h0 : 0 ≤ left) (h1 : left ≤ 1048576) :
    Calls Tryd.prog 38 #[.agg #[.int .i64 c.k, .int .i64 c.n, .string c.s, .slice A c.kids.len cap, .slice B c.body.len capB], .int .i64 left] w fun e w' => e = .returned (.int .i64 (szC c left)) ∧ Below w.heap.size w w' := by
  obtain ⟨k, n, s, kids, body⟩ := c
  simp only at *
  have C1 := fun w1 (hb : Below w.heap.size w w1) => szT_any s kids k n A cap lo hi left w1 (hk.below hb hh) (Nat.le_trans hh hb.size) hf h0 h1
  have hr := szT_range s kids left h0
  have hb0 : Below w.heap.size w (w.alloc (.cells #[.int .i64 k, .int .i64 n, .string s, .slice A kids.len cap, .slice B body.len capB] 65)) := (Below.refl _ _).alloc (Nat.le_refl _) _
  have HV : Hid (szC ⟨k, n, s, kids, body⟩ left = if szT s kids left < 0 then -1 else szS body (szT s kids left)) := Lib.hid rfl
  generalize szT s kids left = r at *
  have r1 := hr.1
  have r2 := hr.2.1
  have C2 := fun w1 (hb : Below w.heap.size w w1) (h : 0 ≤ r) => szS_any body B capB lo hi r w1 (hkb.below hb hh) (Nat.le_trans hh hb.size) h (by omega)
  have H1 := Lib.hid C1
  have H2 := Lib.hid C2
  have HB0 := Lib.hid hb0
  clear C1 C2 hk hkb hf hr hb0
  by_cases hneg : r < 0
  · have HE : Hid (szC ⟨k, n, s, kids, body⟩ left = -1) := Lib.hid (by rw [HV.out, if_pos hneg])
    go_enter Tryd.func38, Tryd.ntmps38
    go_wp2_with fail
    refine (H1.out _ HB0.out).mono ?_
    rintro e w2 ⟨rfl, hb⟩
    have HB := Lib.hid (HB0.out.trans (hb.mono HB0.out.size))
    clear hb
    go_wp2_with fail
    go_ret
    rw [HE.out]
    exact ⟨rfl, HB.out⟩
  · have HE : Hid (szC ⟨k, n, s, kids, body⟩ left = szS body r) := Lib.hid (by rw [HV.out, if_neg hneg])
    have hr2 := szS_range body r (by omega)
    generalize szS body r = r' at *
    have q1 := hr2.1
    have q2 := hr2.2.1
    clear hr2
    go_enter Tryd.func38, Tryd.ntmps38
    go_wp2_with fail
    refine (H1.out _ HB0.out).mono ?_
    rintro e w2 ⟨rfl, hb⟩
    have hcell := boxed hb 4
    simp only [List.getElem?_toArray, List.getElem?_cons_zero, List.getElem?_cons_succ] at hcell
    have HB := Lib.hid (HB0.out.trans (hb.mono HB0.out.size))
    clear hb
    go_wp2_with fail
    refine (H2.out _ HB.out (by omega)).mono ?_
    rintro e w3 ⟨rfl, hb⟩
    have HB3 := Lib.hid (HB.out.trans (hb.mono HB.out.size))
    clear hb
    by_cases hneg2 : r' < 0
    · have hr1 : r' = -1 := by omega
      subst hr1
      go_wp2_with fail
      go_ret
      rw [HE.out]
      exact ⟨rfl, HB3.out⟩
    · go_wp2_with fail
      go_ret
      rw [HE.out]
      exact ⟨rfl, HB3.out⟩

set_option maxRecDepth 100000 in
set_option maxHeartbeats 2000000 in
/-- laws.szClauseS. -/
theorem szCS_any (cs : List Cl) (A : Option Addr) (cap lo hi : Nat) (left : Int) (w : World) (hk : ClS w lo hi cs A cap) (hh : hi ≤ w.heap.size) (h0 : 0 ≤ left) (h1 : left ≤ 1048576) :
    Calls Tryd.prog 13 #[.slice A cs.length cap, .int .i64 left] w fun e w' => e = .returned (.int .i64 (szCS cs left)) ∧ Below w.heap.size w w' := by
  have HK := Lib.hid hk
  have HHI := Lib.hid hh
  have hl := hk.1
  have hm := hk.2.1
  unfold maxLen at hm
  clear hk hh
  by_cases hneg : left - cs.length < 0
  · have HV : Hid (szCS cs left = -1) := Lib.hid (by unfold szCS; rw [if_pos hneg])
    generalize cs.length = len at *
    go_enter Tryd.func13, Tryd.ntmps13
    go_wp2_with fail
    go_ret
    rw [HV.out]
    exact ⟨rfl, Below.refl _ _⟩
  · have HV : Hid (szCS cs left = szCF cs (left - cs.length)) := Lib.hid (by unfold szCS; rw [if_neg hneg])
    generalize hn : cs.length = len at *
    have HN := Lib.hid hn
    clear hn
    go_enter Tryd.func13, Tryd.ntmps13
    go_wp2_with fail
    go_loopw [1, 5] (fun l i wr => ∃ (k : Nat) (z : Int), k ≤ len ∧ i = .int .i64 k ∧ l = .int .i64 z ∧ 0 ≤ z ∧ z ≤ 1048576 ∧ szCF (cs.drop k) z = szCF cs (left - len) ∧ Below w.heap.size w wr) (fun _ i _ => len - (intOf i).toNat)
    case atStart => exact ⟨0, _, Nat.zero_le _, rfl, rfl, by omega, by omega, rfl, Below.refl _ _⟩
    case round =>
      obtain ⟨k, z, hk, rfl, rfl, hz0, hz1, hsz, hb⟩ := hrel
      by_cases hlt : k < len
      · obtain ⟨c, hd⟩ := drop_cl cs k (by rw [HN.out]; exact hlt)
        obtain ⟨b, o, rfl, hlb, hbb, hrow⟩ := HK.out.2.2 (by rw [HN.out]; omega)
        obtain ⟨hfit, A', cap', B', capB', c0, c1, c2, c3, c4, hkid, hbd⟩ := ClAt.elem k cs b o hrow hd
        rw [hd] at hsz
        have hsz' : (if szC c z < 0 then -1 else szCF (cs.drop (k + 1)) (szC c z)) = szCF cs (left - len) := hsz
        have hlo : (⟨b, o, none⟩ : Addr).block < w.heap.size := Nat.lt_of_lt_of_le hbb HHI.out
        have k0 := (hb.cell (p := ⟨b, o + k * 5, none⟩) hlo).trans c0
        have k1 := (hb.cell (p := ⟨b, o + k * 5 + 1, none⟩) hlo).trans c1
        have k2 := (hb.cell (p := ⟨b, o + k * 5 + 2, none⟩) hlo).trans c2
        have k3 := (hb.cell (p := ⟨b, o + k * 5 + 3, none⟩) hlo).trans c3
        have k4 := (hb.cell (p := ⟨b, o + k * 5 + 4, none⟩) hlo).trans c4
        have C1 := szC_any c A' B' cap' capB' lo hi z wr (hkid.below hb HHI.out) (hbd.below hb HHI.out) (Nat.le_trans HHI.out hb.size) hfit hz0 hz1
        have hr := szC_range c z hz0
        generalize szC c z = r at *
        have H1 := Lib.hid C1
        have HB := Lib.hid hb
        have HS := Lib.hid hsz'
        have r1 := hr.1
        have r2 := hr.2.1
        clear C1 hb hsz hsz' hr c0 c1 c2 c3 c4 hkid hbd hrow hfit hd hlo
        obtain ⟨ck, cn, csx, ckids, cbody⟩ := c
        simp only at *
        generalize ckids.len = kl at *
        generalize cbody.len = bl at *
        by_cases hz : r < 0
        · have HE : Hid (szCF cs (left - len) = -1) := Lib.hid (by rw [← HS.out, if_pos hz])
          go_wp2_with fail
          refine H1.out.mono ?_
          rintro e w' ⟨rfl, hb2⟩
          have HB2 := Lib.hid hb2
          clear hb2
          go_wp2_with fail
          go_ret
          rw [HV.out, HE.out]
          exact ⟨rfl, HB.out.trans (HB2.out.mono HB.out.size)⟩
        · have HE : Hid (szCF (cs.drop (k + 1)) r = szCF cs (left - len)) := Lib.hid (by rw [← HS.out, if_neg hz])
          go_wp2_with fail
          refine H1.out.mono ?_
          rintro e w' ⟨rfl, hb2⟩
          have HB2 := Lib.hid hb2
          clear hb2
          go_wp2_with fail
          go_roundw
          case rel => exact ⟨k + 1, r, by omega, by go_num, rfl, by omega, by omega, HE.out, HB.out.trans (HB2.out.mono HB.out.size)⟩
          case measure => simp [intOf]; omega
      · obtain rfl : k = len := by omega
        have HE : Hid (szCF cs (left - k) = z) := Lib.hid (by
          rw [← hsz, List.drop_eq_nil_of_le (by rw [HN.out]; exact Nat.le_refl _)]; rfl)
        have HB := Lib.hid hb
        clear hb hsz
        go_wp2_with fail
        go_ret
        rw [HV.out, HE.out]
        exact ⟨rfl, HB.out⟩
end Go.Proofs.YtlapdnllncoomaaDoor
