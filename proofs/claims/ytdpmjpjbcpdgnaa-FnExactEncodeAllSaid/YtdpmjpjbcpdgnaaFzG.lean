/- laws.markText, eqFrame, eqFrameS, markFrameS, heldFrameS on rows of frames that a call owns. Condition: the rows lie in memory. -/
import Derived.Test.YtdpmjpjbcpdgnaaProg
import Derived.Test.YtdpmjpjbcpdgnaaFzW
import Derived.WalkKit
import Derived.WalkSpells
import Derived.Outline
import Derived.Lib.SlBytesConst
import Derived.StillTailTactics
import Derived.Deep.RegionHeld3
import Derived.Deep.QuietTactic
import Derived.BigQuiet
import Derived.IntWalk
namespace Go.Proofs.Ytdpmjpjbcpdgnaa
open Go.RowKit

theorem one_byte (j : Nat) (w : World) : (convert 29 9 (.slice (some ⟨w.heap.size, 0, none⟩) 1 1)).run Try.prog (w.alloc (.cells #[.int .u8 (48 + (j : Int) % 10)] 5)) =
    .ok (.string ⟨[UInt8.ofNat (48 + j % 10)].toArray⟩) (w.alloc (.cells #[.int .u8 (48 + (j : Int) % 10)] 5)) := by
  refine run_convert_bytes_back _ _ _ 5 ⟨w.heap.size, 0, none⟩ 1 [UInt8.ofNat (48 + j % 10)] Try.underlying29 Try.underlying5 Try.underlying9 fun i hi => ?_
  obtain rfl : i = 0 := by simpa using hi
  have h := (Blk.new w 5 #[.int .u8 (48 + (j : Int) % 10)]).cell 0
  have e : ((UInt8.ofNat (48 + j % 10)).toNat : Int) = 48 + (j : Int) % 10 := by
    rw [UInt8.toNat_ofNat']
    omega
  show (w.alloc _).cell? ⟨w.heap.size, 0, none⟩ = some (.int .u8 ((UInt8.ofNat (48 + j % 10)).toNat : Int))
  rw [h, e]
  rfl
theorem digs_step (fu j : Nat) (out : List UInt8) (hj : j ≤ fu) (h0 : ¬ j = 0) : ∃ fu', j / 10 ≤ fu' ∧ digs fu j out = digs fu' (j / 10) (UInt8.ofNat (48 + j % 10) :: out) := by
  cases fu with
  | zero => omega
  | succ fu => exact ⟨fu, by omega, by simp only [digs]; rw [if_neg h0]⟩
theorem digs_zero (fu : Nat) (out : List UInt8) : digs fu 0 out = out := by
  cases fu with
  | zero => rfl
  | succ fu => rfl
theorem str_cons (d : UInt8) (out : List UInt8) : (.string (⟨[d].toArray⟩ ++ ⟨out.toArray⟩) : Value) = .string ⟨(d :: out).toArray⟩ := congrArg Value.string (ByteArray.mk_append_mk [d] out)
set_option maxRecDepth 100000 in
set_option maxHeartbeats 1000000 in
theorem markText_any (k0 : Nat) (w : World) (h0 : 0 < k0) (h1 : k0 ≤ 1099511627776) :
    Calls Try.prog 26 #[.int .i64 (k0 : Int)] w fun e w' => e = .returned (.string (mtext k0)) ∧ Below w.heap.size w w' := by
  have t0 : ¬ (k0 : Int) ≤ 0 := by omega
  go_enter Try.func26, Try.ntmps26
  go_wp2_with fail
  go_loopw [3, 0] (fun o i wr => ∃ (j fu : Nat) (out : List UInt8), j ≤ fu ∧ out.length + j ≤ k0 ∧ i = .int .i64 j ∧ o = .string ⟨out.toArray⟩ ∧ digs fu j out = digs k0 k0 [] ∧ Below w.heap.size w wr) (fun _ i _ => (intOf i).toNat)
  case atStart => exact ⟨k0, k0, [], Nat.le_refl _, by simp, rfl, rfl, rfl, Below.refl _ _⟩
  case round =>
    obtain ⟨j, fu, out, hj, hl, rfl, rfl, hd, hb⟩ := hrel
    have HD := Lib.hid hd
    have HB := Lib.hid hb
    clear hd hb
    by_cases hz : j = 0
    · subst hz
      have HV : Hid (mtext k0 = ⟨#[109]⟩ ++ ⟨out.toArray⟩) := Lib.hid (by
        have h := HD.out
        rw [digs_zero] at h
        unfold mtext
        rw [← h]
        exact (ByteArray.mk_append_mk [109] out).symm)
      clear HD
      go_wp2_with fail
      go_ret
      rw [HV.out]
      exact ⟨rfl, HB.out⟩
    · have hjp : (0 : Int) < j := by omega
      obtain ⟨fu', hfu, hdd⟩ := digs_step fu j out hj hz
      have HE : Hid (digs fu' (j / 10) (UInt8.ofNat (48 + j % 10) :: out) = digs k0 k0 []) := Lib.hid (hdd.symm.trans HD.out)
      have kc := one_byte j
      generalize UInt8.ofNat (48 + j % 10) = d at *
      clear hdd HD
      go_wp2_with fail
      go_roundw
      case rel => exact ⟨j / 10, fu', d :: out, hfu, by simp only [List.length_cons]; omega, by go_num, str_cons d out, HE.out, HB.out.alloc HB.out.size _⟩
      case measure => simp [intOf]; omega


/-- laws.eqFrame of equal frames. -/
theorem eqF1_any (t : Int) (s : ByteArray) (w : World) :
    Calls Try.prog 25 #[.agg #[.int .i64 t, .string s], .agg #[.int .i64 t, .string s]] w fun e w' => e = .returned (.bool true) ∧ Below w.heap.size w w' := by
  have t0 : (t != t) = false := by simp
  have t1 : (s.toList != s.toList) = false := by simp
  have HB := Lib.hid ((((Below.refl w.heap.size w).alloc (Nat.le_refl _) (.cells #[.int .i64 t, .string s] 26)).alloc (by simp) (.cells #[.int .i64 t, .string s] 26)))
  go_enter Try.func25, Try.ntmps25
  go_wp2_with fail
  go_ret
  exact ⟨rfl, HB.out⟩

set_option maxRecDepth 100000 in
set_option maxHeartbeats 1000000 in
/-- laws.eqFrameS on rows that read alike. -/
theorem eqG_any (xs : List fz.F) (v1 v2 : Value) (b1 b2 : Nat) (w : World) (h1 : OwnG w b1 v1 xs) (h2 : OwnG w b2 v2 xs) :
    Calls Try.prog 19 #[v1, v2] w fun e w' => e = .returned (.bool true) ∧ Below w.heap.size w w' := by
  have l1 := own_lt h1
  have l2 := own_lt h2
  obtain ⟨A, cap, rfl, hc1, hm1, hr1⟩ := h1.read
  obtain ⟨B, cap', rfl, hc2, hm2, hr2⟩ := h2.read
  clear h1 h2
  have hx : ∀ k, k < xs.length → ∃ f, xs[k]? = some f := fun k hk => ⟨_, List.getElem?_eq_getElem hk⟩
  generalize hn : xs.length = len at *
  unfold maxLen at hm1 hm2
  have H1 := Lib.hid hr1
  have H2 := Lib.hid hr2
  have HX := Lib.hid hx
  have L1 := Lib.hid l1
  have L2 := Lib.hid l2
  have t0 : ((len : Int) != (len : Int)) = false := by simp
  clear hr1 hr2 l1 l2 hn hx
  go_enter Try.func19, Try.ntmps19
  go_wp2_with fail
  go_loopw [5] (fun i wr => ∃ (k : Nat), k ≤ len ∧ i = .int .i64 k ∧ Below w.heap.size w wr) (fun i _ => len - (intOf i).toNat)
  case atStart => exact ⟨0, Nat.zero_le _, rfl, Below.refl _ _⟩
  case round =>
    obtain ⟨k, hk, rfl, hb⟩ := hrel
    by_cases hlt : k < len
    · obtain ⟨f, hf⟩ := HX.out k hlt
      obtain ⟨g, rfl, ho, hg⟩ := H1.out (by omega)
      obtain ⟨g', rfl, ho', hg'⟩ := H2.out (by omega)
      have l1 := (L1.out g (by rw [ho]; simp)).2
      have l2 := (L2.out g' (by rw [ho']; simp)).2
      have e1 := (hb.cell (p := ⟨g, k * 2, none⟩) l1).trans (hg k f hf).1
      have e2 := (hb.cell (p := ⟨g, k * 2 + 1, none⟩) l1).trans (hg k f hf).2.1
      have e3 := (hb.cell (p := ⟨g', k * 2, none⟩) l2).trans (hg' k f hf).1
      have e4 := (hb.cell (p := ⟨g', k * 2 + 1, none⟩) l2).trans (hg' k f hf).2.1
      obtain ⟨t, s⟩ := f
      have HB := Lib.hid hb
      clear hg hg' ho ho' hb hf l1 l2
      go_wp2_with fail
      go_still_tail 8, (by kernel_rfl)
      change wpList _ _ _ _ _ wr.drew
      have hbd : Below wr.heap.size wr wr.drew := (Below.refl _ _).drew
      generalize wr.drew = w2 at hbd ⊢
      have HD := Lib.hid hbd
      clear hbd e1 e2 e3 e4
      go_wp2_with fail
      refine (eqF1_any _ _ _).mono ?_
      rintro e w3 ⟨rfl, hb3⟩
      have HB3 := Lib.hid hb3
      clear hb3
      go_wp2_with fail
      go_roundw
      case rel => exact ⟨k + 1, by omega, by go_num, (HB.out.trans (HD.out.mono HB.out.size)).trans (HB3.out.mono (Nat.le_trans HB.out.size HD.out.size))⟩
      case measure => simp [intOf]; omega
    · obtain rfl : k = len := by omega
      have HB := Lib.hid hb
      clear hb
      go_wp2_with fail
      go_ret
      exact ⟨rfl, HB.out⟩

set_option maxRecDepth 100000 in
set_option maxHeartbeats 1000000 in
/-- laws.markFrameS. -/
theorem markG_any (xs : List fz.F) (v : Value) (base k0 : Nat) (w : World) (h : OwnG w base v xs) (hk0 : k0 + 2 * xs.length ≤ 1099511627776) :
    Calls Try.prog 20 #[v, .int .i64 (k0 : Int)] w fun e w' => e = .returned (.int .i64 ((k0 + 2 * xs.length : Nat) : Int)) ∧ OwnG w' base v (mkG k0 xs.length) ∧ Wrote (ownV v) w w' := by
  have l1 := own_lt h
  obtain ⟨A, cap, rfl, hc1, hm1, hr1⟩ := h.read
  unfold maxLen at hm1
  have hpos : 0 < xs.length → ∃ g, A = some ⟨g, 0, none⟩ ∧ ownV (.slice A xs.length cap) = [g] := fun hp => by
    obtain ⟨g, h1, h2, _⟩ := hr1 hp
    exact ⟨g, h1, h2⟩
  clear hr1
  have HP := Lib.hid hpos
  have HO := Lib.hid h
  have HL1 := Lib.hid l1
  clear hpos h l1
  generalize hn : xs.length = len at *
  have HN := Lib.hid hn
  clear hn
  go_enter Try.func20, Try.ntmps20
  go_wp2_with fail
  go_loopw [5, 1] (fun i k wr => ∃ (j : Nat), j ≤ len ∧ i = .int .i64 j ∧ k = .int .i64 ((k0 + 2 * j : Nat) : Int) ∧ OwnG wr base (.slice A len cap) (mkG k0 j ++ xs.drop j) ∧ Wrote (ownV (.slice A len cap)) w wr) (fun i _ _ => len - (intOf i).toNat)
  case atStart => exact ⟨0, Nat.zero_le _, rfl, rfl, HO.out, .refl _ _⟩
  case round =>
    obtain ⟨j, hj, rfl, rfl, ho, hw⟩ := hrel
    have hlen : (mkG k0 j ++ xs.drop j).length = len := by rw [List.length_append, mkG_len, List.length_drop, HN.out]; omega
    by_cases hlt : j < len
    · obtain ⟨g, rfl, hown⟩ := HP.out (by omega)
      have hlo := own_lt ho
      obtain ⟨A', cap', he, _, _, hr⟩ := ho.read
      obtain ⟨g', e1, _, hcell⟩ := hr (by omega)
      injection he with he1 he2 he3
      rw [← he1] at e1
      injection e1 with e1
      injection e1 with e1
      subst he3
      have hglt : g < wr.heap.size := (hlo g (by rw [hown]; simp)).2
      have hgw : g < w.heap.size := (HL1.out g (by rw [hown]; simp)).2
      obtain ⟨f, hf⟩ : ∃ f, (mkG k0 j ++ xs.drop j)[j]? = some f := ⟨_, List.getElem?_eq_getElem (by omega)⟩
      obtain ⟨c0, c1, f0, f1⟩ := hcell j f hf
      rw [← e1] at c0 c1 f0 f1
      have hst : ∀ w1, Below wr.heap.size (wr.setCell ⟨g, j * 2, none⟩ (.int .i64 ((k0 + 2 * j : Nat) : Int))) w1 → OwnG (w1.setCell ⟨g, j * 2 + 1, none⟩ (.string (mtext (k0 + 2 * j + 1)))) base (.slice (some ⟨g, 0, none⟩) len cap) (mkG k0 (j + 1) ++ xs.drop (j + 1)) := fun w1 hb1 => by
        have ho' : wr.ownsRow base 26 2 (.slice (some ⟨g, 0, none⟩) len cap) len (fcs (mkG k0 j ++ xs.drop j)) := by
          have hq := ho
          unfold OwnG at hq
          rw [hlen] at hq
          exact hq
        have h1 := (World.ownsRow.stored ho' (j * 2) (.int .i64 ((k0 + 2 * j : Nat) : Int))).1
        have h2 := own_below h1 (hb1.mono (by simp [World.setCell]))
        have h3 := (World.ownsRow.stored h2 (j * 2 + 1) (.string (mtext (k0 + 2 * j + 1)))).1
        have h4 := fcs_set (mkG k0 j ++ xs.drop j) j (mkG1 (k0 + 2 * j))
        rw [mkG_step k0 j xs (by rw [HN.out]; exact hlt)] at h4
        unfold OwnG
        have hl2 : (mkG k0 (j + 1) ++ xs.drop (j + 1)).length = len := by rw [List.length_append, mkG_len, List.length_drop, HN.out]; omega
        rw [hl2, ← h4]
        exact h3
      have hcs : ∀ w1, Below wr.heap.size (wr.setCell ⟨g, j * 2, none⟩ (.int .i64 ((k0 + 2 * j : Nat) : Int))) w1 → w1.cell? ⟨g, j * 2 + 1, none⟩ = some (.string f.s) ∧ w1.frozen? ⟨g, j * 2 + 1, none⟩ = false ∧ Wrote (ownV (.slice (some ⟨g, 0, none⟩) len cap)) w (w1.setCell ⟨g, j * 2 + 1, none⟩ (.string (mtext (k0 + 2 * j + 1)))) := fun w1 hb1 => by
        have hne : (⟨g, j * 2 + 1, none⟩ : Addr) ≠ ⟨g, j * 2, none⟩ := fun e => by injection e with _ e _; omega
        refine ⟨((hb1.cell (p := ⟨g, j * 2 + 1, none⟩) hglt).trans (World.cell?_setCell_other wr _ _ _ (fun e => hne e.symm))).trans c1, (hb1.frozen (p := ⟨g, j * 2 + 1, none⟩) hglt).trans (by simpa using f1), ?_⟩
        have q1 := hw.set_ (p := ⟨g, j * 2, none⟩) (.inl (by rw [hown]; simp)) (.int .i64 ((k0 + 2 * j : Nat) : Int))
        have q2 := q1.trans (.of_below (hb1.mono (by simp [World.setCell])) _)
        exact q2.set_ (p := ⟨g, j * 2 + 1, none⟩) (.inl (by rw [hown]; simp)) _
      have C1 := fun w1 => markText_any (k0 + 2 * j + 1) w1 (by omega) (by omega)
      have ek : ((k0 + 2 * j + 1 : Nat) : Int) = (k0 : Int) + 2 * (j : Int) + 1 := by omega
      rw [ek] at C1
      have H1 := Lib.hid C1
      have HST := Lib.hid hst
      have HCS := Lib.hid hcs
      clear ho hw hown hr hcell he1 he2 hst hcs hlen e1 hf hlo C1 ek c1 f1
      go_wp2_with fail
      refine (H1.out _).mono ?_
      rintro e w1 ⟨rfl, hb1⟩
      have hb2 : Below wr.heap.size (wr.setCell ⟨g, j * 2, none⟩ (.int .i64 ((k0 + 2 * j : Nat) : Int))) w1 := hb1.mono (by simp [World.setCell])
      obtain ⟨d1, d2, d3⟩ := HCS.out w1 hb2
      have HS1 := Lib.hid (HST.out w1 hb2)
      have HW1 := Lib.hid d3
      clear hb1 hb2 d3 c0 f0 HST HCS H1
      go_wp2_with fail
      go_roundw
      case rel => exact ⟨j + 1, by omega, by go_num, by go_num, HS1.out, HW1.out⟩
      case measure => simp [intOf]; omega
    · obtain rfl : j = len := by omega
      have e : mkG k0 j ++ xs.drop j = mkG k0 j := by rw [List.drop_eq_nil_of_le (by rw [HN.out]; exact Nat.le_refl _), List.append_nil]
      rw [e] at ho
      have H1 := Lib.hid ho
      have H2 := Lib.hid hw
      clear ho hw e hlen
      go_wp2_with fail
      go_ret
      exact ⟨rfl, H1.out, H2.out⟩

end Go.Proofs.Ytdpmjpjbcpdgnaa
