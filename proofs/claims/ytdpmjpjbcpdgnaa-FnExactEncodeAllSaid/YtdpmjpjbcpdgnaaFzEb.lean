/- impl.EncodeAll, impl.EncodeFrame. Condition: the frames lie in memory. -/
import Derived.Test.YtdpmjpjbcpdgnaaProg
import Derived.Test.YtdpmjpjbcpdgnaaFzEa
namespace Go.Proofs.Ytdpmjpjbcpdgnaa
open Go.RowKit

set_option maxRecDepth 100000 in
set_option maxHeartbeats 1000000 in
/-- impl.EncodeAll. -/
theorem implEA_any (fs : List fz.F) (lv : Value) (base : Nat) (w : World) (h : OwnG w base lv fs) (hs : ∀ f ∈ fs, f.s.size ≤ maxLen) (hz : fs.length ≤ 100000000) :
    Calls Try.prog 18 #[lv] w fun e w' => ∃ v, e = .returned v ∧ OwnU w' w.heap.size v (fz.encAll fs) ∧ Below w.heap.size w w' := by
  have l1 := own_lt h
  obtain ⟨A, cap, rfl, hc1, hm1, hr1⟩ := h.read
  have hx : ∀ k, k < fs.length → ∃ f, fs[k]? = some f := fun k hk => ⟨_, List.getElem?_eq_getElem hk⟩
  have H1 := Lib.hid hr1
  have HX := Lib.hid hx
  have L1 := Lib.hid l1
  have HS := Lib.hid hs
  have HF : Hid (∀ v wr, EA fs fs.length v w wr → OwnU wr w.heap.size v (fz.encAll fs)) := Lib.hid fun v wr h => h.fin
  have H0 : Hid (EA fs 0 (.slice none 0 0) w w) := Lib.hid ⟨ownU_nil w _, rfl, Below.refl _ _⟩
  generalize hn : fs.length = len at *
  unfold maxLen at hm1
  clear hr1 l1 hn hx h hs
  go_enter Try.func18, Try.ntmps18
  go_wp2_with fail
  go_loopw [3, 8] (fun v i wr => ∃ (k : Nat) (vv : Value), k ≤ len ∧ i = .int .i64 k ∧ vv = v ∧ EA fs k vv w wr) (fun _ i _ => len - (intOf i).toNat)
  case atStart => exact ⟨0, _, Nat.zero_le _, rfl, rfl, H0.out⟩
  case round =>
    obtain ⟨k, vv, hk, rfl, rfl, hea⟩ := hrel
    have HEA := Lib.hid hea
    by_cases hlt : k < len
    · obtain ⟨f, hf⟩ := HX.out k hlt
      obtain ⟨g, rfl, ho, hg⟩ := H1.out (by omega)
      have l1 := (L1.out g (by rw [ho]; simp)).2
      have e1 := (hea.2.2.cell (p := ⟨g, k * 2, none⟩) l1).trans (hg k f hf).1
      have e2 := (hea.2.2.cell (p := ⟨g, k * 2 + 1, none⟩) l1).trans (hg k f hf).2.1
      have hfs := HS.out f (List.mem_of_getElem? hf)
      obtain ⟨t, s⟩ := f
      have HFF := Lib.hid hf
      have hq1 := Blk.new wr 26 #[.int .i64 t, .string s]
      have hb1 := (Below.refl wr.heap.size wr).alloc (Nat.le_refl _) (.cells #[.int .i64 t, .string s] 26)
      have HQ1 := Lib.hid hq1
      have HB1 := Lib.hid hb1
      have HCV := Lib.hid (implFV_any t s (wr.alloc (.cells #[.int .i64 t, .string s] 26)) hfs)
      clear hg ho hf hea l1 hfs hq1 hb1
      cases hv : fz.okF ⟨t, s⟩ with
      | true =>
        have HST := Lib.hid fun v2 w2 => HEA.out.step (v2 := v2) (w2 := w2) HFF.out hv
        have HAP : Hid (∀ w2, Below wr.heap.size wr w2 → Calls Try.prog 24 #[vv, .agg #[.int .i64 t, .string s]] w2 fun e w' => ∃ v', e = .returned v' ∧ EA fs (k + 1) v' w w') := Lib.hid (fun w2 hb2 => by
          have hlen := HEA.out.len
          have hb := HEA.out.2.2.trans (hb2.mono HEA.out.2.2.size)
          refine (apf_any t s vv _ w.heap.size w2 hv (own_below HEA.out.1 hb2) hb.size (by omega)).mono ?_
          rintro e w' ⟨v', rfl, h1, h2⟩
          exact ⟨v', rfl, HST.out _ _ h1 (hb.trans h2)⟩)
        rw [hv] at HCV
        clear hv
        go_wp2_with fail
        generalize (wr.alloc (.cells #[.int .i64 t, .string s] 26)) = w1 at *
        refine HCV.out.mono ?_
        rintro e w2 ⟨rfl, hb2⟩
        have y1 : w2.cell? ⟨wr.heap.size, 0, none⟩ = some (.int .i64 t) := (HQ1.out.below hb2 HQ1.out.lt).cell 0
        have y2 : w2.cell? ⟨wr.heap.size, 1, none⟩ = some (.string s) := (HQ1.out.below hb2 HQ1.out.lt).cell 1
        have HB2 := Lib.hid (HB1.out.trans (hb2.mono HB1.out.size))
        clear hb2 e1 e2
        go_wp2_with fail
        refine (HAP.out _ HB2.out).mono ?_
        rintro e w3 ⟨v', rfl, h2⟩
        have HE2 := Lib.hid h2
        clear h2 y1 y2
        go_wp2_with fail
        go_roundw
        case rel => exact ⟨k + 1, _, by omega, by go_num, rfl, HE2.out⟩
        case measure => simp [intOf]; omega
      | false =>
        have HE : Hid (fz.encAll fs = []) := Lib.hid (encAll_no HFF.out hv)
        rw [hv] at HCV
        clear hv
        go_wp2_with fail
        generalize (wr.alloc (.cells #[.int .i64 t, .string s] 26)) = w1 at *
        refine HCV.out.mono ?_
        rintro e w2 ⟨rfl, hb2⟩
        have HB2 := Lib.hid (HEA.out.2.2.trans ((HB1.out.trans (hb2.mono HB1.out.size)).mono HEA.out.2.2.size))
        clear hb2 e1 e2
        go_wp2_with fail
        go_ret
        rw [HE.out]
        exact ⟨_, rfl, ownU_nil _ _, HB2.out⟩
    · obtain rfl : k = len := by omega
      clear hea
      go_wp2_with fail
      go_ret
      exact ⟨_, rfl, HF.out _ _ HEA.out, HEA.out.2.2⟩

set_option maxRecDepth 100000 in
set_option maxHeartbeats 1000000 in
/-- impl.EncodeFrame. -/
theorem implEF_any (t : Int) (s : ByteArray) (w : World) (hs : s.size ≤ maxLen) :
    Calls Try.prog 11 #[.agg #[.int .i64 t, .string s]] w fun e w' => ∃ v, e = .returned v ∧ OwnU w' w.heap.size v (fz.encAll [⟨t, s⟩]) ∧ Below w.heap.size w w' := by
  have hs1 : (w.alloc (.cells #[.int .i64 t, .string s] 26)).heap.size = w.heap.size + 1 := by simp
  have hq := Blk.new (w.alloc (.cells #[.int .i64 t, .string s] 26)) 26 #[.int .i64 t, .string s]
  rw [hs1] at hq
  have hb2 : Below w.heap.size w ((w.alloc (.cells #[.int .i64 t, .string s] 26)).alloc (.cells #[.int .i64 t, .string s] 26)) := ((Below.refl w.heap.size w).alloc (Nat.le_refl _) _).alloc (by simp) _
  have ho : OwnG ((w.alloc (.cells #[.int .i64 t, .string s] 26)).alloc (.cells #[.int .i64 t, .string s] 26)) w.heap.size (.slice (some ⟨w.heap.size + 1, 0, none⟩) 1 1) [⟨t, s⟩] :=
    ⟨rfl, .inr ⟨w.heap.size + 1, 1, _, rfl, by omega, hq, Nat.le_refl _, by unfold maxLen; omega, rfl, rfl⟩⟩
  have HC := Lib.hid (implEA_any [⟨t, s⟩] _ w.heap.size _ ho (fun f hf => by rw [List.mem_singleton.1 hf]; exact hs) (by simp))
  have HB := Lib.hid hb2
  clear hs1 hq hb2 ho hs
  go_enter Try.func11, Try.ntmps11
  go_wp2_with fail
  refine HC.out.mono ?_
  rintro e w3 ⟨v, rfl, h1, h2⟩
  have HO := Lib.hid (own_mono h1 HB.out.size)
  have HB3 := Lib.hid (HB.out.trans (h2.mono HB.out.size))
  clear h1 h2
  go_wp2_with fail
  go_ret
  exact ⟨_, rfl, HO.out, HB3.out⟩
end Go.Proofs.Ytdpmjpjbcpdgnaa
