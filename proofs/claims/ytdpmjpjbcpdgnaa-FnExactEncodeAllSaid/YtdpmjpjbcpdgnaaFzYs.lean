/- Frames measured and copied. Condition: the frames lie in memory. -/
import Derived.Test.YtdpmjpjbcpdgnaaProg
import Derived.Test.YtdpmjpjbcpdgnaaFzY
import Derived.Laws.OwnMore
namespace Go.Proofs.Ytdpmjpjbcpdgnaa
open Go.RowKit

theorem i_fr' : ∃ i : TypeInfo, Try.prog.info? 26 = some i ∧ i.size = 2 ∧ i.bytes = 24 ∧ i.zero = some (.agg #[.int .i64 0, .string ⟨#[]⟩]) := by
  obtain ⟨i, hi, h⟩ := Option.map_eq_some_iff.1 (show (Try.prog.info? 26).map (fun i => (i.zero, i.size, i.bytes)) = some (some (.agg #[.int .i64 0, .string ⟨#[]⟩]), 2, 24) by kernel_rfl)
  simp only [Prod.mk.injEq] at h
  exact ⟨i, hi, h.2.1, h.2.2, h.1⟩
def fz0 : fz.F := ⟨0, ⟨#[]⟩⟩
theorem made_fcs (n : Nat) : (madeCells #[.int .i64 0, .string ⟨#[]⟩] (n * 2)).toList = fcs (List.replicate n fz0) := by
  apply List.ext_getElem?
  intro j
  by_cases hj : j < n * 2
  · have hq : (List.replicate n fz0)[j / 2]? = some fz0 := by rw [List.getElem?_replicate, if_pos (by omega)]
    obtain ⟨h1, h2⟩ := fcs_at _ _ _ hq
    rcases Nat.mod_two_eq_zero_or_one j with hm | hm
    · rw [show j / 2 * 2 = j by omega] at h1
      rw [h1]
      simp [madeCells, hj, hm, fz0]
    · rw [show j / 2 * 2 + 1 = j by omega] at h2
      rw [h2]
      simp [madeCells, hj, hm, fz0]
  · rw [List.getElem?_eq_none (by simp [madeCells]; omega), List.getElem?_eq_none (by rw [fcs_len, List.length_replicate]; omega)]
theorem rep_stepG (l : List fz.F) (k : Nat) (f : fz.F) (h : l[k]? = some f) : (l.take k ++ List.replicate (l.length - k) fz0).set k f = l.take (k + 1) ++ List.replicate (l.length - (k + 1)) fz0 := by
  have hk := (List.getElem?_eq_some_iff.1 h).1
  have e : l.take (k + 1) = l.take k ++ [f] := by rw [List.take_add_one, h]; rfl
  have hl : (l.take k).length = k := by rw [List.length_take]; omega
  have hr : List.replicate (l.length - k) fz0 = fz0 :: List.replicate (l.length - (k + 1)) fz0 := by
    rw [show l.length - k = (l.length - (k + 1)) + 1 by omega, List.replicate_succ]
  rw [e, List.set_append_right _ _ (by omega), hl, Nat.sub_self, hr, List.append_assoc]
  rfl

set_option maxRecDepth 100000 in
set_option maxHeartbeats 1000000 in
/-- laws.szFrameS. -/
theorem szFS_any (A : Option Addr) (cap : Nat) (fs : List fz.F) (w : World) (ha : AtG w w.heap.size A fs) (hc : fs.length ≤ cap) (hm : cap ≤ maxLen) (hs : ∀ f ∈ fs, f.s.size ≤ maxLen) :
    Calls Try.prog 15 #[.slice A fs.length cap, .int .i64 1048576] w fun e w' => (∃ z : Int, e = .returned (.int .i64 z) ∧ (0 ≤ z → fs.length ≤ 1048576)) ∧ Below w.heap.size w w' := by
  have hx : ∀ k, k < fs.length → ∃ f, fs[k]? = some f := fun k hk => ⟨_, List.getElem?_eq_getElem hk⟩
  have HA := Lib.hid ha
  have HX := Lib.hid hx
  have HS := Lib.hid hs
  generalize hn : fs.length = n at *
  have HN := Lib.hid hn
  unfold maxLen at hm
  clear ha hx hs hn
  by_cases hbig : 1048576 < n
  · have t0 : (1048576 : Int) - (n : Int) < 0 := by omega
    go_enter Try.func15, Try.ntmps15
    go_wp2_with fail
    go_ret
    exact ⟨⟨_, rfl, fun h => by omega⟩, Below.refl _ _⟩
  · have t0 : ¬ (1048576 : Int) - (n : Int) < 0 := by omega
    go_enter Try.func15, Try.ntmps15
    go_wp2_with fail
    go_loopw [1, 5] (fun lv i wr => ∃ (k : Nat) (left : Int), k ≤ n ∧ i = .int .i64 k ∧ lv = .int .i64 left ∧ 0 ≤ left ∧ left ≤ 1048576 ∧ Below w.heap.size w wr) (fun _ i _ => n - (intOf i).toNat)
    case atStart => exact ⟨0, _, Nat.zero_le _, rfl, rfl, by omega, by omega, Below.refl _ _⟩
    case round =>
      obtain ⟨k, left, hk, rfl, rfl, hl0, hl1, hb⟩ := hrel
      have HB := Lib.hid hb
      by_cases hlt : k < n
      · obtain ⟨f, hf⟩ := HX.out k hlt
        obtain ⟨b, o, rfl, hbb, hcell⟩ := HA.out (by rw [HN.out]; omega)
        have s0 := (hb.cell (p := ⟨b, o + k * 2, none⟩) hbb).trans (hcell k f hf).1
        have s1 := (hb.cell (p := ⟨b, o + (k * 2 + 1), none⟩) hbb).trans (hcell k f hf).2
        have s2 : wr.cell? ⟨b, o + k * 2 + 1, none⟩ = some (.string f.s) := s1
        have hfs := HS.out f (List.mem_of_getElem? hf)
        obtain ⟨t, s⟩ := f
        have CZ := szF_any t s left wr hfs hl0 hl1
        clear hb hcell hf hfs hbb
        by_cases h : left < (s.size : Int)
        · rw [if_pos h] at CZ
          have HCZ := Lib.hid CZ
          clear CZ h
          go_wp2_with fail
          refine HCZ.out.mono ?_
          rintro e w2 ⟨rfl, hb2⟩
          have HB2 := Lib.hid (HB.out.trans (hb2.mono HB.out.size))
          clear hb2 s0 s1 s2
          go_wp2_with fail
          go_ret
          exact ⟨⟨_, rfl, fun h => by omega⟩, HB2.out⟩
        · rw [if_neg h] at CZ
          have HCZ := Lib.hid CZ
          have t1 : ¬ left - (s.size : Int) < 0 := by omega
          obtain ⟨l2, hl2⟩ : ∃ l2 : Int, left - (s.size : Int) = l2 := ⟨_, rfl⟩
          have t2 : 0 ≤ l2 := by omega
          have t3 : l2 ≤ 1048576 := by omega
          have t4 : ¬ l2 < 0 := by omega
          rw [hl2] at HCZ
          clear CZ h hl2 t1
          go_wp2_with fail
          refine HCZ.out.mono ?_
          rintro e w2 ⟨rfl, hb2⟩
          have HB2 := Lib.hid (HB.out.trans (hb2.mono HB.out.size))
          clear hb2 s0 s1 s2
          go_wp2_with fail
          go_roundw
          case rel => exact ⟨k + 1, l2, by omega, by go_num, rfl, t2, t3, HB2.out⟩
          case measure => simp [intOf]; omega
      · obtain rfl : k = n := by omega
        clear hb
        go_wp2_with fail
        go_ret
        exact ⟨⟨_, rfl, fun h => by omega⟩, HB.out⟩

set_option maxRecDepth 100000 in
set_option maxHeartbeats 1000000 in
/-- laws.toFrameS. -/
theorem toFS_any (A : Option Addr) (cap : Nat) (fs : List fz.F) (w : World) (ha : AtG w w.heap.size A fs) (hc : fs.length ≤ cap) (hm : cap ≤ maxLen) (hz : fs.length ≤ 1048576) :
    Calls Try.prog 17 #[.slice A fs.length cap] w fun e w' => (∃ v, e = .returned v ∧ OwnG w' w.heap.size v fs) ∧ Below w.heap.size w w' := by
  obtain ⟨i, hi, hs, hby, hzz⟩ := i_fr'
  obtain ⟨w1, kmk, hown1, hgr1⟩ := run_make_full (P := Try.prog) w w.heap.size 36 26 i (.agg #[.int .i64 0, .string ⟨#[]⟩]) 2 (by kernel_rfl) hi hzz hs .i64 .i64 fs.length (by rw [hby]; omega) (by unfold maxLen; omega) (Nat.le_refl _)
  have hb1 : Below w.heap.size w w1 := (Below.refl w.heap.size w).grown hgr1 (Nat.le_refl _) (fun k hk => by cases hk)
  have hU1 : OwnG w1 w.heap.size (.slice (some ⟨w.heap.size, 0, none⟩) fs.length fs.length) (fs.take 0 ++ List.replicate (fs.length - 0) fz0) := by
    unfold OwnG
    have e1 : (fs.take 0 ++ List.replicate (fs.length - 0) fz0).length = fs.length := by simp
    have e2 : fcs (fs.take 0 ++ List.replicate (fs.length - 0) fz0) = (madeCells (Value.agg #[.int .i64 0, .string ⟨#[]⟩]).cells (fs.length * 2)).toList := by
      show _ = (madeCells #[.int .i64 0, .string ⟨#[]⟩] (fs.length * 2)).toList
      rw [made_fcs]
      simp
    rw [e1, e2]
    exact hown1
  have hx : ∀ k, k < fs.length → ∃ f, fs[k]? = some f := fun k hk => ⟨_, List.getElem?_eq_getElem hk⟩
  have HA := Lib.hid ha
  have HX := Lib.hid hx
  have HU1 := Lib.hid hU1
  have HB1 := Lib.hid hb1
  have hcm : cap ≤ 9223372036854775807 := hm
  clear ha hm hown1 hgr1 hU1 hb1 hi hs hby hzz hx
  obtain ⟨n, hn⟩ : ∃ n, n = fs.length := ⟨_, rfl⟩
  have HN := Lib.hid hn
  rw [← hn] at kmk hc hz HU1 HX
  rw [← hn]
  clear hn
  go_enter Try.func17, Try.ntmps17
  go_wp2_with fail
  go_loopw [4] (fun i wr => ∃ (k : Nat), k ≤ n ∧ i = .int .i64 k ∧ OwnG wr w.heap.size (.slice (some ⟨w.heap.size, 0, none⟩) n n) (fs.take k ++ List.replicate (n - k) fz0) ∧ Below w.heap.size w wr) (fun i _ => n - (intOf i).toNat)
  case atStart => exact ⟨0, Nat.zero_le _, rfl, HU1.out, HB1.out⟩
  case round =>
    obtain ⟨k, hk, rfl, ho, hb⟩ := hrel
    have hlen : (fs.take k ++ List.replicate (n - k) fz0).length = n := by rw [List.length_append, List.length_take, List.length_replicate, ← HN.out]; omega
    by_cases hlt : k < n
    · obtain ⟨f, hf⟩ := HX.out k hlt
      obtain ⟨b, o, rfl, hbb, hcell⟩ := HA.out (by rw [← HN.out]; omega)
      have s0 := (hb.cell (p := ⟨b, o + k * 2, none⟩) hbb).trans (hcell k f hf).1
      have s1 := (hb.cell (p := ⟨b, o + (k * 2 + 1), none⟩) hbb).trans (hcell k f hf).2
      have s2 : wr.cell? ⟨b, o + k * 2 + 1, none⟩ = some (.string f.s) := s1
      have HL := Lib.hid hlen
      have HF := Lib.hid hf
      have HO := Lib.hid ho
      have HB := Lib.hid hb
      obtain ⟨t, s⟩ := f
      clear ho hb hcell hf hlen hbb
      go_wp2_with fail
      refine (toF_any t s _).mono ?_
      rintro e w2 ⟨rfl, hb2⟩
      have ho2 := own_below HO.out hb2
      have hbb2 := HB.out.trans (hb2.mono HB.out.size)
      obtain ⟨f0, hf0⟩ : ∃ f0, (fs.take k ++ List.replicate (n - k) fz0)[k]? = some f0 := ⟨_, List.getElem?_eq_getElem (by rw [HL.out]; omega)⟩
      obtain ⟨A', cap', he, _, _, hr⟩ := OwnG.read ho2
      obtain ⟨g', e1, _, hcl⟩ := hr (by rw [HL.out]; omega)
      injection he with he1 he2 he3
      rw [← he1] at e1
      injection e1 with e1
      injection e1 with e1
      obtain ⟨c0, c1, d0, d1⟩ := hcl k f0 hf0
      rw [← e1] at c0 c1 d0 d1
      have hst := OwnG.stored (w := w2) (g := w.heap.size) (n := n) (cap := n) ho2 k ⟨t, s⟩ HL.out.symm
      have hrs := rep_stepG fs k _ HF.out
      rw [← HN.out] at hrs
      rw [hrs] at hst
      have HST := Lib.hid hst
      have HWS := Lib.hid ((hbb2.setCell (p := ⟨w.heap.size, k * 2, none⟩) (Nat.le_refl _) (.int .i64 t)).setCell (p := ⟨w.heap.size, k * 2 + 1, none⟩) (Nat.le_refl _) (.string s))
      clear ho2 hbb2 hb2 hr hcl he1 he2 he3 hst hrs hf0 e1 s0 s1 s2
      go_wp2_with fail
      go_roundw
      case rel => exact ⟨k + 1, by omega, by go_num, HST.out, HWS.out⟩
      case measure => simp [intOf]; omega
    · obtain rfl : k = n := by omega
      have e : fs.take k ++ List.replicate (k - k) fz0 = fs := by rw [Nat.sub_self, HN.out]; simp
      rw [e] at ho
      have HO := Lib.hid ho
      have HB := Lib.hid hb
      clear ho hb hlen e
      go_wp2_with fail
      go_ret
      exact ⟨⟨_, rfl, HO.out⟩, HB.out⟩
end Go.Proofs.Ytdpmjpjbcpdgnaa
