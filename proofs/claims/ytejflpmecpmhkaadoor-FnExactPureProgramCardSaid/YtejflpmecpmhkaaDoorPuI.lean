/- impl.PureProgram. Condition: the clauses lie in memory, both tables in their variables. -/
import Derived.Test.YtejflpmecpmhkaaDoorProg
import Derived.Test.YtejflpmecpmhkaaDoorPrW
import Derived.Test.YtejflpmecpmhkaaDoorPuS
import Derived.Test.YtejflpmecpmhkaaDoorFm
namespace Go.Proofs.YtejflpmecpmhkaaDoor
open Go.RowKit Go.WideMaps Go.Maps Go.ChangeShapes

@[go_sem] theorem as_c_bi (v : Value) (w : World) : (Instr.typeAssert (.iface 147 v) 84 121 true).run Tryd.prog w = .ok (.tuple #[.agg #[.string ⟨#[]⟩, .slice none 0 0], .bool false]) w := by kernel_rfl
@[go_sem] theorem as_p_bi (v : Value) (w : World) : (Instr.typeAssert (.iface 80 v) 84 121 true).run Tryd.prog w = .ok (.tuple #[.agg #[.string ⟨#[]⟩, .slice none 0 0], .bool false]) w := by kernel_rfl
@[go_sem] theorem as_b_bi (v : Value) (w : World) : (Instr.typeAssert (.iface 121 v) 84 121 true).run Tryd.prog w = .ok (.tuple #[v, .bool true]) w := by kernel_rfl
theorem allC_elem2 {c : Cl} {rest : List Cl} : ∀ (cs : List Cl) (i : Nat), cs.drop i = c :: rest → allC cs = true → clauseV c = true
  | [], i, h, _ => by simp at h
  | _ :: _, 0, h, ha => by
    simp at h
    obtain ⟨rfl, _⟩ := h
    exact (Bool.and_eq_true _ _ ▸ ha).1
  | _ :: cs, i + 1, h, ha => allC_elem2 cs i (by simpa using h) (Bool.and_eq_true _ _ ▸ ha).2
theorem clauseV_body2 {c : Cl} (h : clauseV c = true) : allG c.body = true := by
  unfold clauseV goalsV at h
  simp only [Bool.and_eq_true] at h
  exact h.2.2

set_option maxRecDepth 100000 in
set_option maxHeartbeats 1000000 in
/-- impl.isPure. -/
theorem isPure_any {k n : Int} {s : ByteArray} {kids : Fr} {v : Value} {A : Option Addr} {cap : Nat} (hv : goalV k n s kids = true) (hg : GIs (gk s kids.len) s A kids.len cap v) (w : World) :
    Calls Tryd.prog 42 #[v] w fun e w' => e = .returned (.bool (pureG k s kids.len)) ∧ Below w.heap.size w w' := by
  have HB : ∀ o, Hid (Below w.heap.size w (w.alloc o)) := fun o => Lib.hid ((Below.refl _ _).alloc (Nat.le_refl _) o)
  have HB0 : Hid (Below w.heap.size w w) := Lib.hid (Below.refl _ _)
  rcases hg with ⟨h, rfl⟩ | ⟨h, rfl⟩ | ⟨h, rfl⟩
  · have HV : Hid (pureG k s kids.len = false) := Lib.hid (by
      unfold pureG
      rw [goal_other hv (by rw [h]; decide)]
      have hc : cutB s kids.len = true := by
        unfold gk at h
        by_cases hc : cutB s kids.len = true
        · exact hc
        · rw [if_neg hc] at h
          split at h
          · omega
          · split at h <;> omega
      unfold cutB at hc
      simp only [Bool.and_eq_true, beq_iff_eq] at hc
      unfold pureN
      rw [ByteArray.toList_eq, hc.1]
      rfl)
    clear hv h
    go_enter Tryd.func42, Tryd.ntmps42
    go_wp2_with fail
    go_ret
    rw [HV.out]; exact ⟨rfl, HB0.out⟩
  · have HV : Hid (pureG k s kids.len = pureN s) := Lib.hid (by unfold pureG; rw [goal_other hv (by rw [h]; decide)]; rfl)
    have HP : Hid (pureN s = ((s.toList == [61]) || ((s.toList == [116, 114, 117, 101]) || (s.toList == [102, 97, 105, 108])))) := Lib.hid rfl
    clear hv h
    generalize kids.len = len at *
    generalize h1 : (s.toList == [61]) = b1 at *
    generalize h2 : (s.toList == [116, 114, 117, 101]) = b2 at *
    generalize h3 : (s.toList == [102, 97, 105, 108]) = b3 at *
    cases b1 <;> cases b2 <;> cases b3
    all_goals
      go_enter Tryd.func42, Tryd.ntmps42
      go_wp2_with fail
      go_ret
      rw [HV.out, HP.out]; exact ⟨rfl, (HB _).out⟩
  · have HV : Hid (pureG k s kids.len = true) := Lib.hid (by unfold pureG; rw [(goal_plain hv h).1]; rfl)
    clear hv h
    generalize kids.len = len at *
    go_enter Tryd.func42, Tryd.ntmps42
    go_wp2_with fail
    go_ret
    rw [HV.out]; exact ⟨rfl, (HB _).out⟩

set_option maxRecDepth 100000 in
set_option maxHeartbeats 8000000 in
/-- impl.PureProgram. -/
theorem implPu_any (cs : List Cl) (A : Option Addr) (cap lo hi : Nat) (w : World) (hk : ClS w lo hi cs A cap) (hh : hi ≤ w.heap.size) (hnd : cs.length + wtCs cs ≤ 1048576) (ht : nv.Tab w) (ho : op.OpTab w) :
    Calls Tryd.prog 21 #[.slice A cs.length cap] w fun e w' => e = .returned (.bool (pureP cs)) ∧ Below w.heap.size w w' := by
  have C1 := progOf_any cs A cap lo hi w hk hh hnd ht ho
  have HU : Hid (pureP cs = (progV cs && allPC cs)) := Lib.hid rfl
  have HP : Hid (progV cs = (decide (cs.length ≤ 20) && allC cs)) := Lib.hid rfl
  have HND := Lib.hid hnd
  have H1 := Lib.hid C1
  clear C1 hk hh hnd ht ho
  generalize hn : cs.length = len at *
  have HN := Lib.hid hn
  clear hn
  go_enter Tryd.func21, Tryd.ntmps21
  go_wp2_with fail
  refine H1.out.mono ?_
  rintro e w2 ⟨hb2, hr⟩
  have HB2 := Lib.hid hb2
  clear hb2 H1
  rcases hr with ⟨hok, rfl⟩ | ⟨hok, R, M, rfl, hM1, hM2, D, hD, hH, r, rfl, hr1, hr2, hct⟩
  · have HV : Hid (pureP cs = false) := Lib.hid (by rw [HU.out, hok]; rfl)
    clear hok
    go_wp2_with fail
    go_ret
    rw [HV.out]
    exact ⟨rfl, HB2.out.alloc HB2.out.size _⟩
  · have HV : Hid (pureP cs = allPC cs) := Lib.hid (by rw [HU.out, hok]; rfl)
    have hall : allC cs = true := by
      have h := HP.out
      rw [hok] at h
      exact (Bool.and_eq_true _ _ ▸ h.symm).2
    have hl20 : len ≤ 20 := by
      have h := HP.out
      rw [hok] at h
      have h2 := (Bool.and_eq_true _ _ ▸ h.symm).1
      rw [decide_eq_true_iff] at h2
      exact h2
    rw [HN.out] at hD
    have hb3 : Below w2.heap.size w2 (w2.alloc (.cells #[.slice (some ⟨r, 0, none⟩) len len, .map (some M)] 75)) := (Below.refl _ _).alloc (Nat.le_refl _) _
    have hq := Blk.new w2 75 #[.slice (some ⟨r, 0, none⟩) len len, .map (some M)]
    have hct3 : Cts (w2.alloc (.cells #[.slice (some ⟨r, 0, none⟩) len len, .map (some M)] 75)) (fun g => g < w2.heap.size) r cs 0 :=
      Cts.keep (fun p hp => hb3.cell hp.2) (fun g hg => hg.2) cs 0 (fun j _ => hb3.cell (p := ⟨r, j, none⟩) hr2) hct
    have hbw : Below w.heap.size w (w2.alloc (.cells #[.slice (some ⟨r, 0, none⟩) len len, .map (some M)] 75)) := HB2.out.trans (hb3.mono HB2.out.size)
    have hs3 : w2.heap.size < (w2.alloc (.cells #[.slice (some ⟨r, 0, none⟩) len len, .map (some M)] 75)).heap.size := by simp
    rw [HN.out]
    have HALL := Lib.hid hall
    have HQ := Lib.hid hq
    have HCT := Lib.hid hct3
    have HBW := Lib.hid hbw
    clear hok hM1 hM2 hD hH hr1 hct hb3 hct3 hq hbw hall HB2 HP HU
    go_wp2_with fail
    generalize w2.alloc (.cells #[.slice (some ⟨r, 0, none⟩) len len, .map (some M)] 75) = W0 at *
    generalize w2.heap.size = pg at *
    go_loopw [19] (fun i wr => ∃ (j : Nat), j ≤ len ∧ i = .int .i64 j ∧ allPC (cs.drop j) = allPC cs ∧ Below W0.heap.size W0 wr) (fun i _ => len - (intOf i).toNat)
    case atStart => exact ⟨0, Nat.zero_le _, rfl, rfl, Below.refl _ _⟩
    case round =>
      obtain ⟨j, hj, rfl, hF, hb⟩ := hrel
      by_cases hlt : j < len
      · obtain ⟨c, hd⟩ := drop_cl cs j (by rw [HN.out]; exact hlt)
        obtain ⟨A', cp, G, gcap, lo2, hi2, e0, e1, e2, hno, _, hgl⟩ := Cts.get cs 0 j hd HCT.out
        rw [Nat.zero_add] at e0 e1 e2
        have hlo : r < W0.heap.size := by omega
        have k0 := (hb.cell (p := ⟨r, j * 3, none⟩) hlo).trans e0
        have k1 := (hb.cell (p := ⟨r, j * 3 + 1, none⟩) hlo).trans e1
        have k2 := (hb.cell (p := ⟨r, j * 3 + 2, none⟩) hlo).trans e2
        have hF2 : (allP c.body && allPC (cs.drop (j + 1))) = allPC cs := by rw [hd] at hF; exact hF
        have hcb := clauseV_body2 (allC_elem2 cs j hd HALL.out)
        have hbx : Below wr.heap.size wr (wr.alloc (.cells #[.string c.s, .slice A' c.kids.len cp, .slice G c.body.len gcap] 82)) := (Below.refl _ _).alloc (Nat.le_refl _) _
        have hbb := hb.trans (hbx.mono hb.size)
        have hgm := Nat.le_trans hgl.1 hgl.2.1
        unfold maxLen at hgm
        have HF2 := Lib.hid hF2
        have HBB := Lib.hid hbb
        have HGL := Lib.hid hgl
        have HNO := Lib.hid hno
        have HCB := Lib.hid hcb
        clear hF hF2 hb hd e0 e1 e2 hno hgl hcb hbx hbb
        generalize hgn : c.body.len = gl at *
        have HGN := Lib.hid hgn
        clear hgn
        generalize c.kids.len = ckl at *
        go_wp2_with fail
        go_loopw [26] (fun i wx => ∃ (m : Nat), m ≤ gl ∧ i = .int .i64 m ∧ (allP (c.body.drop m) && allPC (cs.drop (j + 1))) = allPC cs ∧ Below W0.heap.size W0 wx) (fun i _ => gl - (intOf i).toNat)
        case atStart => exact ⟨0, Nat.zero_le _, rfl, HF2.out, HBB.out⟩
        case round =>
          obtain ⟨m, hm, rfl, hF, hb⟩ := hrel
          by_cases hlt2 : m < gl
          · obtain ⟨kk, nn, ss, kids, hd⟩ := Fr.drop_cons m c.body (by rw [HGN.out]; exact hlt2)
            obtain ⟨gb, rfl, hgb1, hgb2, hrow⟩ := HGL.out.2.2 (by rw [HGN.out]; omega)
            have hgb3 : gb < W0.heap.size := by have := HNO.out gb hgb1 hgb2; omega
            obtain ⟨gv, A3, cp3, hcell, hgi, hnd⟩ := hrow.elem hd
            rw [Nat.zero_add] at hcell
            have k3 := (hb.cell (p := ⟨gb, m, none⟩) hgb3).trans hcell
            have hgo := allG_elem c.body m hd HCB.out
            have C2 := fun w1 => isPure_any hgo hgi w1
            have hF3 : (pureG kk ss kids.len && (allP (c.body.drop (m + 1)) && allPC (cs.drop (j + 1)))) = allPC cs := by
              rw [hd] at hF
              rw [← hF, ← Bool.and_assoc]
              rfl
            obtain ⟨T, x, rfl⟩ := hgi.iface
            have HBX := Lib.hid hb
            have HF3 := Lib.hid hF3
            have H2 := Lib.hid C2
            clear hb hF hF3 hd hrow hcell hgo hnd hgi C2 k0 k1 k2
            generalize pureG kk ss kids.len = pg2 at *
            go_wp2_with fail
            refine (H2.out _).mono ?_
            rintro e w3 ⟨rfl, hb3⟩
            have HB3 := Lib.hid (HBX.out.trans (hb3.mono HBX.out.size))
            clear hb3 k3
            cases pg2
            · have HF4 : Hid (allPC cs = false) := Lib.hid (by rw [← HF3.out]; rfl)
              go_wp2_with fail
              go_ret
              rw [HV.out, HF4.out]
              exact ⟨rfl, HBW.out.trans (HB3.out.mono HBW.out.size)⟩
            · have HF4 : Hid ((allP (c.body.drop (m + 1)) && allPC (cs.drop (j + 1))) = allPC cs) := Lib.hid (by rw [← HF3.out]; rfl)
              go_wp2_with fail
              go_roundw
              case rel => exact ⟨m + 1, by omega, by go_num, HF4.out, HB3.out⟩
              case measure => simp [intOf]; omega
          · obtain rfl : m = gl := by omega
            have HF4 : Hid (allPC (cs.drop (j + 1)) = allPC cs) := Lib.hid (by
              have h1 := Fr.drop_len c.body
              rw [HGN.out] at h1
              rw [← hF, h1]; rfl)
            have HB := Lib.hid hb
            clear hF hb
            go_wp2_with fail
            go_roundw
            case rel => exact ⟨j + 1, by omega, by go_num, HF4.out, HB.out⟩
            case measure => simp [intOf]; omega
      · obtain rfl : j = len := by omega
        have HF4 : Hid (allPC cs = true) := Lib.hid (by
          rw [← hF, List.drop_eq_nil_of_le (by rw [HN.out]; exact Nat.le_refl _)]; rfl)
        have HB := Lib.hid hb
        clear hF hb
        go_wp2_with fail
        go_ret
        rw [HV.out, HF4.out]
        exact ⟨rfl, HBW.out.trans (HB.out.mono HBW.out.size)⟩
end Go.Proofs.YtejflpmecpmhkaaDoor
