/- spec.l1Name. No condition. -/
import Derived.Test.YtihmgodiiohdnaaGreatDoorProg
import Derived.Test.YtihmgodiiohdnaaGreatDoorNvWalks
import Derived.Test.YtihmgodiiohdnaaGreatDoorByt
import Derived.Test.YtihmgodiiohdnaaGreatDoorOwn
import Derived.BigQuiet
namespace Go.Proofs.YtihmgodiiohdnaaGreatDoor.rdr
open Go.RowKit

theorem ext_list (s : ByteArray) (a b : Nat) : (s.extract a b).data.toList = (s.data.toList.drop a).take (b - a) := by
  simp [ByteArray.data_extract]
theorem bytes_of {a : ByteArray} {l : List UInt8} (h : a.data.toList = l) : a = ⟨l.toArray⟩ := by
  cases a; subst h; simp
theorem low_at (l : List UInt8) (i m : Nat) (h0 : i ≤ m) (h1 : m ≤ i + nv.lowN (l.drop i)) : atB smC l m = decide (m < i + nv.lowN (l.drop i)) := by
  by_cases h : m < i + nv.lowN (l.drop i)
  · obtain ⟨c, hc, hl⟩ := nv.lowN_low (l.drop i) (m - i) (by omega)
    rw [List.getElem?_drop, show i + (m - i) = m by omega] at hc
    rw [atB_some hc, decide_eq_true h]
    exact hl
  · rw [decide_eq_false h]
    cases hc : l[m]? with
    | none => unfold atB; rw [hc]
    | some c =>
      rw [atB_some hc]
      exact nv.lowN_stop (l.drop i) c (by rw [List.getElem?_drop, show i + nv.lowN (l.drop i) = m by omega]; exact hc)
theorem fold_low (l : List UInt8) (n : Nat) (h : 0 < nv.lowN l) : ∀ ps : List (List UInt8), (∀ p ∈ ps, ∀ c, p.head? = some c → nv.lowB c = false) → (∀ p ∈ ps, p ≠ []) → ps.foldl (nv.stepSign l) n = n
  | [], _, _ => rfl
  | p :: ps, hp, hq => by
    rw [List.foldl_cons, nv.step_no l p n ?_]
    · exact fold_low l n h ps (fun q hm => hp q (by simp [hm])) (fun q hm => hq q (by simp [hm]))
    · intro _
      cases hx : p.isPrefixOf l with
      | false => rfl
      | true =>
        obtain ⟨t, ht⟩ := List.isPrefixOf_iff_prefix.1 hx
        cases p with
        | nil => exact absurd rfl (hq [] (by simp))
        | cons c cs =>
          obtain ⟨d, hd, hl⟩ := nv.lowN_low l 0 h
          have h1 := hp (c :: cs) (by simp) c rfl
          rw [← ht] at hd
          simp at hd
          rw [hd, hl] at h1
          cases h1
theorem name_low (l : List UInt8) (h : 0 < nv.lowN l) (h6 : nv.lowN l ≤ 6) : nv.nameLen l = nv.lowN l := by
  unfold nv.nameLen
  rw [if_neg (by omega)]
  exact fold_low l _ h _ (by decide) (by decide)
theorem name_sign (l : List UInt8) (h : nv.lowN l = 0) : nv.nameLen l = nv.signN l 15 := by
  unfold nv.nameLen
  rw [if_neg (by omega)]

/-- The length of the name at offset i, the name, and the offset behind it. -/
def nmN (s : ByteArray) (i : Nat) : Nat := nv.nameLen (s.data.toList.drop i)
def nmS (s : ByteArray) (i : Nat) : ByteArray := ⟨((s.data.toList.drop i).take (nmN s i)).toArray⟩
def nmE (s : ByteArray) (i : Nat) : Int := if nmN s i = 0 then -1 else ((i + nmN s i : Nat) : Int)
theorem nmN_le (s : ByteArray) (i : Nat) : nmN s i ≤ s.size - i := by
  have h := nv.nameLen_le (s.data.toList.drop i)
  rw [List.length_drop] at h
  exact h

set_option maxRecDepth 100000 in
set_option maxHeartbeats 4000000 in
theorem name_any (s : ByteArray) (i : Nat) (w : World) (hs : s.size ≤ 1000000) (hi : i ≤ s.size) :
    Calls Tryz.prog 94 #[.string s, .int .i64 i] w fun e w' => e = .returned (.tuple #[.string (nmS s i), .int .i64 (nmE s i)]) ∧ Below w.heap.size w w' := by
  have hll := nv.lowN_le (s.data.toList.drop i)
  rw [List.length_drop] at hll
  have hsz : s.data.toList.length = s.size := rfl
  have hlow : ∀ m, i ≤ m → m ≤ i + nv.lowN (s.data.toList.drop i) → atB smC s.data.toList m = decide (m < i + nv.lowN (s.data.toList.drop i)) := low_at s.data.toList i
  have hN : nmN s i = nv.nameLen (s.data.toList.drop i) := rfl
  have hS : nmS s i = ⟨((s.data.toList.drop i).take (nmN s i)).toArray⟩ := rfl
  have hE : nmE s i = if nmN s i = 0 then -1 else ((i + nmN s i : Nat) : Int) := rfl
  have hext : ∀ m, (s.extract i m).data.toList = (s.data.toList.drop i).take (m - i) := ext_list s i
  have hlen : (s.data.toList.drop i).length = s.size - i := by rw [List.length_drop]; rfl
  rw [hsz] at hll
  have HLOW := Lib.hid hlow
  have HN := Lib.hid hN
  have HS := Lib.hid hS
  have HE := Lib.hid hE
  have HX := Lib.hid hext
  have HL := Lib.hid hlen
  have HSM := Lib.hid (fun m hm => small_any s m w (by unfold maxLen; omega) hm)
  clear hlow hN hS hE hext hlen hsz
  generalize s.data.toList.drop i = L at *
  generalize nmN s i = N at *
  generalize nmS s i = S at *
  generalize nmE s i = E at *
  go_enter Tryz.func94, Tryz.ntmps94
  go_wp2_with fail
  go_loopw [6] (fun e wr => ∃ (m : Nat), i ≤ m ∧ m ≤ i + nv.lowN L ∧ e = .int .i64 m ∧ wr = w) (fun e _ => 1000001 - (intOf e).toNat)
  case atStart => exact ⟨i, Nat.le_refl _, by omega, rfl, rfl⟩
  case round =>
    obtain ⟨m, h0, h1, rfl, rfl⟩ := hrel
    have C1 := HSM.out m (by unfold maxLen; omega)
    rw [HLOW.out m h0 h1] at C1
    by_cases hlt : m < i + nv.lowN L
    · rw [decide_eq_true hlt] at C1
      have H1 := Lib.hid C1
      clear C1
      go_wp2_with fail
      refine H1.out.mono ?_
      rintro e w2 ⟨rfl, hw⟩
      subst hw
      go_wp2_with fail
      go_roundw
      case rel => exact ⟨m + 1, by omega, by omega, by go_num, trivial⟩
      case measure => simp [intOf]; omega
    · rw [decide_eq_false hlt] at C1
      have H1 := Lib.hid C1
      clear C1
      go_wp2_with fail
      refine H1.out.mono ?_
      rintro e w2 ⟨rfl, hw⟩
      subst hw
      have hm : m = i + nv.lowN L := by omega
      have hms : m ≤ s.size := by omega
      clear H1 HLOW HSM hlt h1
      by_cases h6 : 6 < nv.lowN L
      · have h0 : N = 0 := by rw [HN.out]; unfold nv.nameLen; rw [if_pos h6]
        have HV : Hid (S = ⟨#[]⟩ ∧ E = -1) := Lib.hid ⟨by rw [HS.out, h0]; rfl, by rw [HE.out, if_pos h0]⟩
        have t6 : (m : Int) > (i : Int) + 6 := by omega
        clear hm
        go_wp2_with fail
        go_ret2
        rw [HV.out.1, HV.out.2]; exact ⟨rfl, Below.refl _ _⟩
      · have t6 : ¬ ((m : Int) > (i : Int) + 6) := by omega
        by_cases hp : 0 < nv.lowN L
        · have hn : N = nv.lowN L := by rw [HN.out]; exact name_low L hp (by omega)
          have HV : Hid (S = s.extract i m ∧ E = (m : Int)) := Lib.hid ⟨by rw [HS.out, hn]; exact (bytes_of (by rw [HX.out m, hm, Nat.add_sub_cancel_left])).symm, by rw [HE.out, if_neg (by omega), hn, ← hm]⟩
          have t7 : (m : Int) > (i : Int) := by omega
          have l0 : (0 : Int) ≤ (i : Int) := by omega
          have l1 : (i : Int) ≤ (m : Int) := by omega
          have l2 : (m : Int) ≤ (s.size : Int) := by omega
          clear hm hn
          go_wp2_with fail
          go_ret2
          rw [HV.out.1, HV.out.2]; exact ⟨rfl, Below.refl _ _⟩
        · have hz : nv.lowN L = 0 := by omega
          have t7 : ¬ ((m : Int) > (i : Int)) := by omega
          have hn : N = nv.signN L 15 := by rw [HN.out]; exact name_sign L hz
          have hsl := nv.signN_le L
          rw [HL.out] at hsl
          have hs0 : nv.signN L 0 = 0 := by rw [nv.signN_zero]; exact hz
          have hss := nv.signN_succ L
          have HSL := Lib.hid hsl
          have HS0 := Lib.hid hs0
          have HSS := Lib.hid hss
          have HNN := Lib.hid hn
          obtain rfl : m = i := by omega
          have hb1 : Below w2.heap.size w2 (w2.alloc (.cells (nv.signB.map Value.string).toArray 9)) := (Below.refl _ _).alloc (Nat.le_refl _) _
          have hq1 := Blk.new w2 9 (nv.signB.map Value.string).toArray
          have HC : Hid (∀ k, k < 15 → (w2.alloc (.cells (nv.signB.map Value.string).toArray 9)).cell? ⟨w2.heap.size, k, none⟩ = some (.string (nv.signB.getD k ByteArray.empty))) := Lib.hid fun k hk => by
            have hk2 : k < nv.signB.length := hk
            rw [hq1.cell k]
            simp [List.getD, hk2]
          have HB1 := Lib.hid hb1
          have HWL : Hid (w2.heap.size < (w2.alloc (.cells (nv.signB.map Value.string).toArray 9)).heap.size) := Lib.hid (by simp)
          clear hsl hs0 hss hn hb1 hq1 hm hz
          go_wp2_with fail
          refine (nv.signs_any w2).mono ?_
          rintro e w1 ⟨rfl, rfl⟩
          generalize hw1 : w2.alloc (.cells (nv.signB.map Value.string).toArray 9) = w1 at *
          clear hw1
          go_wp2_with fail
          go_loopw [7, 9] (fun b ix wr => ∃ (k : Nat) (B : ByteArray), k ≤ 15 ∧ ix = .int .i64 k ∧ b = .string B ∧ B.data.toList = L.take (nv.signN L k) ∧ Below w1.heap.size w1 wr) (fun _ ix _ => 15 - (intOf ix).toNat)
          case atStart => exact ⟨0, ⟨#[]⟩, by omega, rfl, rfl, by rw [HS0.out]; rfl, Below.refl _ _⟩
          case round =>
            obtain ⟨k, B, hk, rfl, rfl, hB, hbr⟩ := hrel
            have HBR := Lib.hid hbr
            clear hbr
            have hsk : nv.signN L k ≤ s.size - m := by rw [← HL.out]; exact nv.signN_le L k
            have hBs : B.size = nv.signN L k := by
              have h1 : B.data.toList.length = B.size := rfl
              rw [← h1, hB, List.length_take, HL.out]
              omega
            by_cases hlt : k < 15
            · have kc := (HBR.out.cell (p := ⟨w2.heap.size, k, none⟩) HWL.out).trans (HC.out k hlt)
              have hp1 := nv.signB_size k hlt
              have hp2 := nv.signs_small k
              have hp3 := nv.signB_at k hlt
              have hst := HSS.out k hlt
              have hkeep : nv.signN L (k + 1) = nv.signN L k → B.data.toList = L.take (nv.signN L (k + 1)) := fun h => by rw [h]; exact hB
              generalize nv.signB.getD k ByteArray.empty = P at *
              generalize nv.signs.getD k [] = q at *
              generalize hn1 : nv.signN L (k + 1) = n1 at *
              have HN11 := Lib.hid hn1
              clear hn1
              generalize nv.signN L k = n0 at *
              have he : ((s.extract m (m + P.size)).toList == P.toList) = q.isPrefixOf L := by
                rw [ByteArray.toList_eq, ByteArray.toList_eq, HX.out (m + P.size), Nat.add_sub_cancel_left, hp3, hp1, Bool.eq_iff_iff, beq_iff_eq, List.isPrefixOf_iff_prefix, List.prefix_iff_eq_take]
                exact eq_comm
              have hfar : q.isPrefixOf L = true → q.length ≤ s.size - m := fun h => by rw [← HL.out]; exact (List.isPrefixOf_iff_prefix.1 h).length_le
              have htk : q.isPrefixOf L = true → q = L.take q.length := fun h => List.prefix_iff_eq_take.1 (List.isPrefixOf_iff_prefix.1 h)
              have HKP := Lib.hid hkeep
              have HB := Lib.hid hB
              have HFAR := Lib.hid hfar
              have HTK := Lib.hid htk
              have HP3 := Lib.hid hp3
              have HST := Lib.hid hst
              have hpa : P.size ≤ q.length := Nat.le_of_eq hp1
              have hpb : q.length ≤ P.size := Nat.le_of_eq hp1.symm
              have twr : IntKind.i64.wrap ((m : Int) + (P.size : Int)) = (m : Int) + (P.size : Int) := IntWalk.i64_in _ (by omega)
              clear hkeep hB hfar htk hp3 hst hp1
              have l0 : (0 : Int) ≤ (m : Int) := by omega
              have l1 : (m : Int) ≤ (m : Int) + (P.size : Int) := by omega
              by_cases hfit : m + P.size ≤ s.size
              · have tg : decide ((m : Int) + (P.size : Int) ≤ (s.size : Int)) = true := by simp; omega
                have tg2 : (m : Int) + (P.size : Int) ≤ (s.size : Int) := by omega
                cases hpre : q.isPrefixOf L
                · have HN1 : Hid (n1 = n0) := Lib.hid (by rw [HST.out]; exact nv.step_no L q n0 fun _ => hpre)
                  rw [hpre] at he
                  clear hpre
                  go_wp2_with fail
                  go_quiet (fail)
                  go_wp2_with fail
                  go_roundw
                  case rel => exact ⟨k + 1, B, by omega, by go_num, rfl, by rw [HN11.out]; exact HKP.out HN1.out, HBR.out.trans ⟨rfl, rfl, rfl, Nat.le_refl _, fun _ _ => rfl⟩⟩
                  case measure => simp [intOf]; omega
                · rw [hpre] at he
                  have HPR := Lib.hid hpre
                  clear hpre
                  by_cases hbig : n0 < P.size
                  · have tb : decide ((P.size : Int) > (B.size : Int)) = true := by simp; omega
                    have tb2 : (P.size : Int) > (B.size : Int) := by omega
                    have HN1 : Hid (P.data.toList = L.take n1) := Lib.hid (by rw [HST.out, nv.step_yes L q n0 (by omega) HPR.out, HP3.out]; exact HTK.out HPR.out)
                    go_wp2_with fail
                    go_quiet (fail)
                    go_wp2_with fail
                    go_roundw
                    case rel => exact ⟨k + 1, P, by omega, by go_num, rfl, by rw [HN11.out]; exact HN1.out, HBR.out.trans ⟨rfl, rfl, rfl, Nat.le_refl _, fun _ _ => rfl⟩⟩
                    case measure => simp [intOf]; omega
                  · have tb : decide ((P.size : Int) > (B.size : Int)) = false := by simp; omega
                    have tb2 : ¬ ((P.size : Int) > (B.size : Int)) := by omega
                    have HN1 : Hid (n1 = n0) := Lib.hid (by rw [HST.out]; exact nv.step_no L q n0 fun h => absurd h (by omega))
                    go_wp2_with fail
                    go_quiet (fail)
                    go_wp2_with fail
                    go_roundw
                    case rel => exact ⟨k + 1, B, by omega, by go_num, rfl, by rw [HN11.out]; exact HKP.out HN1.out, HBR.out.trans ⟨rfl, rfl, rfl, Nat.le_refl _, fun _ _ => rfl⟩⟩
                    case measure => simp [intOf]; omega
              · have tg : decide ((m : Int) + (P.size : Int) ≤ (s.size : Int)) = false := by simp; omega
                have tg2 : ¬ ((m : Int) + (P.size : Int) ≤ (s.size : Int)) := by omega
                have HN1 : Hid (n1 = n0) := Lib.hid (by
                  rw [HST.out]
                  refine nv.step_no L q n0 fun _ => ?_
                  cases hx : q.isPrefixOf L with
                  | false => rfl
                  | true => have := HFAR.out hx; omega)
                clear he
                go_wp2_with fail
                go_quiet (fail)
                go_wp2_with fail
                go_roundw
                case rel => exact ⟨k + 1, B, by omega, by go_num, rfl, by rw [HN11.out]; exact HKP.out HN1.out, HBR.out.trans ⟨rfl, rfl, rfl, Nat.le_refl _, fun _ _ => rfl⟩⟩
                case measure => simp [intOf]; omega
            · obtain rfl : k = 15 := by omega
              have hNB : B.size = N := by rw [HNN.out]; exact hBs
              have hSB : S = B := by rw [HS.out, HNN.out]; exact (bytes_of hB).symm
              by_cases h0 : N = 0
              · have hBe : B = ⟨#[]⟩ := by
                  have h2 : B.data.toList = [] := by rw [hB, ← HNN.out, h0, List.take_zero]
                  exact bytes_of h2
                have HV : Hid (S = ⟨#[]⟩ ∧ E = -1) := Lib.hid ⟨by rw [hSB, hBe], by rw [HE.out, if_pos h0]⟩
                clear hB hBs hNB hSB hsk
                subst hBe
                go_wp2_with fail
                go_ret2
                rw [HV.out.1, HV.out.2]; exact ⟨rfl, HB1.out.trans (HBR.out.mono HB1.out.size)⟩
              · have HV : Hid (S = B ∧ E = (m : Int) + (B.size : Int)) := Lib.hid ⟨hSB, by rw [HE.out, if_neg h0, hNB]; push_cast; omega⟩
                have hne : (B.toList == []) = false := by
                  rw [ByteArray.toList_eq, beq_eq_false_iff_ne]
                  intro h2
                  have h3 : B.data.toList.length = B.size := rfl
                  rw [h2] at h3
                  simp at h3
                  omega
                have hbs : B.size ≤ s.size := by omega
                clear hB hBs hNB hSB hsk
                go_wp2_with fail
                go_ret2
                rw [HV.out.1, HV.out.2]; exact ⟨rfl, HB1.out.trans (HBR.out.mono HB1.out.size)⟩
end Go.Proofs.YtihmgodiiohdnaaGreatDoor.rdr
