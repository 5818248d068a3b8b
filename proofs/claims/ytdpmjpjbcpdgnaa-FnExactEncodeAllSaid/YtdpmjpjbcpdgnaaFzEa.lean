/- EncodeFrame, EncodeAll, of the model and of impl. Condition: the frames lie in memory. -/
import Derived.Test.YtdpmjpjbcpdgnaaProg
import Derived.Test.YtdpmjpjbcpdgnaaFzEn
import Derived.Test.YtdpmjpjbcpdgnaaFzV
namespace Go.Proofs.Ytdpmjpjbcpdgnaa
open Go.RowKit

theorem encs_app : ∀ a b : List fz.F, fz.encs (a ++ b) = fz.encs a ++ fz.encs b
  | [], _ => rfl
  | f :: a, b => by simp only [List.cons_append, fz.encs, encs_app a b, List.append_assoc]
theorem encs_len : ∀ a : List fz.F, a.all fz.okF = true → (fz.encs a).length ≤ 2003 * a.length
  | [], _ => Nat.zero_le _
  | f :: a, h => by
    simp only [List.all_cons, Bool.and_eq_true] at h
    have h1 := encs_len a h.2
    have h2 := (okF_facts (t := f.t) (s := f.s) h.1).2.2
    have h3 := fz.enc_len f
    simp only [fz.encs, List.length_append, List.length_cons]
    omega
/-- What a loop over frames has come to. -/
def EA (fs : List fz.F) (k : Nat) (v : Value) (w wr : World) : Prop := OwnU wr w.heap.size v (fz.encs (fs.take k)) ∧ (fs.take k).all fz.okF = true ∧ Below w.heap.size w wr
section
variable {fs : List fz.F} {k : Nat} {v v2 : Value} {w wr w2 : World} {f : fz.F}
theorem EA.len (h : EA fs k v w wr) : (fz.encs (fs.take k)).length ≤ 2003 * k := by
  have := encs_len _ h.2.1
  have h2 : (fs.take k).length ≤ k := List.length_take_le ..
  omega
theorem EA.step (h : EA fs k v w wr) (hf : fs[k]? = some f) (hv : fz.okF f = true) (ho : OwnU w2 w.heap.size v2 (fz.encs (fs.take k) ++ fz.enc f)) (hb : Below w.heap.size w w2) : EA fs (k + 1) v2 w w2 := by
  have e : fs.take (k + 1) = fs.take k ++ [f] := by rw [List.take_add_one, hf]; rfl
  refine ⟨?_, ?_, hb⟩
  · rw [e, encs_app]
    simpa [fz.encs] using ho
  · rw [e, List.all_append, h.2.1]
    simpa using hv
theorem EA.fin (h : EA fs fs.length v w wr) : OwnU wr w.heap.size v (fz.encAll fs) := by
  obtain ⟨h1, h2, _⟩ := h
  rw [List.take_length] at h1 h2
  unfold fz.encAll
  rw [if_pos h2]
  exact h1
theorem encAll_no (hf : fs[k]? = some f) (hv : fz.okF f = false) : fz.encAll fs = [] := by
  unfold fz.encAll
  rw [if_neg]
  rw [List.all_eq_true]
  intro h
  have := h f (List.mem_of_getElem? hf)
  rw [hv] at this
  cases this
end
theorem ownU_nil (w : World) (b : Nat) : OwnU w b (.slice none 0 0) [] := ⟨rfl, .inl ⟨rfl, rfl⟩⟩
theorem ownU_none (w : World) : OwnU (w.alloc (.cells #[] 5)) w.heap.size (.slice (some ⟨w.heap.size, 0, none⟩) 0 0) [] :=
  ⟨rfl, .inr ⟨w.heap.size, 0, #[], rfl, Nat.le_refl _, (Blk.new w _ _), Nat.le_refl _, Nat.zero_le _, rfl, rfl⟩⟩
/-- A row that the call owns, as a source. -/
theorem src_own {w : World} {b : Nat} {v : Value} {m : List UInt8} (h : OwnU w b v m) (hp : 0 < m.length) : ∃ g c, v = .slice (some ⟨g, 0, none⟩) m.length c ∧ ∀ j u, (Lib.byteCells m)[j]? = some u → w.cell? (Addr.add ⟨g, 0, none⟩ j) = some u := by
  obtain ⟨A, cap, rfl, _, _, hr⟩ := h.read
  obtain ⟨g, rfl, _, hc⟩ := hr hp
  refine ⟨g, cap, rfl, fun j u hj => ?_⟩
  have hl : j < m.length := by
    have := (List.getElem?_eq_some_iff.1 hj).1
    rwa [bcs_len] at this
  rw [show (Addr.add ⟨g, 0, none⟩ j) = ⟨g, j, none⟩ by simp [Addr.add]; exact fun h => h.symm, (hc j hl).1]
  unfold Lib.byteCells at hj
  rw [List.getElem?_map, List.getElem?_eq_getElem hl] at hj
  simp only [Option.map_some, Option.some.injEq] at hj
  rw [← hj]
  simp [List.getD, List.getElem?_eq_getElem hl]

set_option maxRecDepth 100000 in
set_option maxHeartbeats 1000000 in
/-- spec.EncodeFrame. -/
theorem specEF_any (t : Int) (s : ByteArray) (w : World) (hs : s.size ≤ maxLen) :
    Calls Try.prog 10 #[.agg #[.int .i64 t, .string s]] w fun e w' => ∃ v, e = .returned v ∧ OwnU w' w.heap.size v (fz.encAll [⟨t, s⟩]) ∧ Below w.heap.size w w' := by
  have hb1 := (Below.refl w.heap.size w).alloc (Nat.le_refl _) (.cells #[.int .i64 t, .string s] 26)
  have hq1 := Blk.new w 26 #[.int .i64 t, .string s]
  have HCV := Lib.hid (specFV_any t s (w.alloc (.cells #[.int .i64 t, .string s] 26)) hs)
  have HB1 := Lib.hid hb1
  have HQ1 := Lib.hid hq1
  clear hb1 hq1 hs
  cases hv : fz.okF ⟨t, s⟩ with
  | true =>
    have HE : Hid (fz.encAll [⟨t, s⟩] = fz.enc ⟨t, s⟩) := Lib.hid (by unfold fz.encAll; simp [hv, fz.encs])
    have HCE := Lib.hid fun w => l11e_any t s w hv
    rw [hv] at HCV
    clear hv
    go_enter Try.func10, Try.ntmps10
    go_wp2_with fail
    generalize (w.alloc (.cells #[.int .i64 t, .string s] 26)) = w1 at *
    refine HCV.out.mono ?_
    rintro e w2 ⟨rfl, hb2⟩
    have x0 : w2.cell? ⟨w.heap.size, 0, none⟩ = some (.int .i64 t) := (HQ1.out.below hb2 HQ1.out.lt).cell 0
    have x1 : w2.cell? ⟨w.heap.size, 1, none⟩ = some (.string s) := (HQ1.out.below hb2 HQ1.out.lt).cell 1
    have HB2 := Lib.hid (HB1.out.trans (hb2.mono HB1.out.size))
    clear hb2
    go_wp2_with fail
    refine (HCE.out _).mono ?_
    rintro e w3 ⟨v, rfl, ho, hb3⟩
    have HO := Lib.hid (own_mono ho HB2.out.size)
    have HB3 := Lib.hid (HB2.out.trans (hb3.mono HB2.out.size))
    clear ho hb3
    go_wp2_with fail
    go_ret
    rw [HE.out]
    exact ⟨_, rfl, HO.out, HB3.out⟩
  | false =>
    have HE : Hid (fz.encAll [⟨t, s⟩] = []) := Lib.hid (by unfold fz.encAll; simp [hv])
    rw [hv] at HCV
    clear hv
    go_enter Try.func10, Try.ntmps10
    go_wp2_with fail
    generalize (w.alloc (.cells #[.int .i64 t, .string s] 26)) = w1 at *
    refine HCV.out.mono ?_
    rintro e w2 ⟨rfl, hb2⟩
    have HB2 := Lib.hid (HB1.out.trans (hb2.mono HB1.out.size))
    clear hb2
    go_wp2_with fail
    go_ret
    rw [HE.out]
    exact ⟨_, rfl, own_mono (ownU_none w2) HB2.out.size, HB2.out.alloc HB2.out.size _⟩

set_option maxRecDepth 100000 in
set_option maxHeartbeats 1000000 in
/-- spec.EncodeAll. -/
theorem specEA_any (fs : List fz.F) (lv : Value) (base : Nat) (w : World) (h : OwnG w base lv fs) (hs : ∀ f ∈ fs, f.s.size ≤ maxLen) (hz : fs.length ≤ 100000000) :
    Calls Try.prog 16 #[lv] w fun e w' => ∃ v, e = .returned v ∧ OwnU w' w.heap.size v (fz.encAll fs) ∧ Below w.heap.size w w' := by
  have l1 := own_lt h
  obtain ⟨A, cap, rfl, hc1, hm1, hr1⟩ := h.read
  have hx : ∀ k, k < fs.length → ∃ f, fs[k]? = some f := fun k hk => ⟨_, List.getElem?_eq_getElem hk⟩
  have H1 := Lib.hid hr1
  have HX := Lib.hid hx
  have L1 := Lib.hid l1
  have HS := Lib.hid hs
  have HF : Hid (∀ v wr, EA fs fs.length v w wr → OwnU wr w.heap.size v (fz.encAll fs)) := Lib.hid fun v wr h => h.fin
  have H0 : Hid (EA fs 0 (.slice (some ⟨w.heap.size, 0, none⟩) 0 0) w (w.alloc (.cells #[] 5))) := Lib.hid ⟨ownU_none w, rfl, (Below.refl _ _).alloc (Nat.le_refl _) _⟩
  generalize hn : fs.length = len at *
  unfold maxLen at hm1
  clear hr1 l1 hn hx h hs
  go_enter Try.func16, Try.ntmps16
  go_wp2_with fail
  go_loopw [3, 4] (fun v i wr => ∃ (k : Nat) (vv : Value), k ≤ len ∧ i = .int .i64 k ∧ vv = v ∧ EA fs k vv w wr) (fun _ i _ => len - (intOf i).toNat)
  case atStart => exact ⟨0, _, Nat.zero_le _, rfl, rfl, H0.out⟩
  case round =>
    obtain ⟨k, vv, hk, rfl, rfl, hea⟩ := hrel
    have HEA := Lib.hid hea
    by_cases hlt : k < len
    · obtain ⟨f, hf⟩ := HX.out k hlt
      obtain ⟨g, rfl, ho, hg⟩ := H1.out (by omega)
      have l1 := (L1.out g (by rw [ho]; simp)).2
      have e1 := (hea.2.2.cell (p := ⟨g, k * 2, none⟩) l1).trans (hg k f hf).1
      have e2 := (hea.2.2.cell (p := ⟨g, k * 2 + 1, none⟩) l1).trans (hg k f hf).2.1
      have HG := Lib.hid hg
      have HL := Lib.hid l1
      have hfs := HS.out f (List.mem_of_getElem? hf)
      obtain ⟨t, s⟩ := f
      have HFF := Lib.hid hf
      have HCV := Lib.hid (specFV_any t s wr hfs)
      clear hg ho hf hea l1 hfs
      cases hv : fz.okF ⟨t, s⟩ with
      | true =>
        have HCE := Lib.hid fun w => l11e_any t s w hv
        have HST := Lib.hid fun v2 w2 => HEA.out.step (v2 := v2) (w2 := w2) HFF.out hv
        have hle := fz.enc_len ⟨t, s⟩
        have hle2 := (okF_facts hv).2.2
        have HAP : Hid (∀ w2 w3 u, Below w.heap.size w w2 → Below wr.heap.size wr w2 → Below w2.heap.size w2 w3 → OwnU w3 w2.heap.size u (fz.enc ⟨t, s⟩) → ∃ v' w', (Builtin.append_ #[29, 29] 29 #[vv, u]).run Try.prog w3 = .ok v' w' ∧ EA fs (k + 1) v' w w') := Lib.hid (fun w2 w3 u hb hb2 hb3 hu => by
          obtain ⟨gg, c, rfl, hsrc⟩ := src_own hu (by rw [hle]; omega)
          have hlen := HEA.out.len
          obtain ⟨v', w', h1, h2, h3, _⟩ := app_b (own_below (own_below HEA.out.1 hb2) hb3) rfl hsrc (Nat.le_trans hb.size hb3.size) (by rw [hle]; show _ + (s.size + 3) ≤ _; omega)
          exact ⟨v', w', h1, HST.out _ _ h2 ((hb.trans (hb3.mono hb.size)).trans h3)⟩)
        rw [hv] at HCV
        clear hv hle hle2
        go_wp2_with fail
        refine HCV.out.mono ?_
        rintro e w2 ⟨rfl, hb2⟩
        have HB2 := Lib.hid (HEA.out.2.2.trans (hb2.mono HEA.out.2.2.size))
        have HB2' := Lib.hid hb2
        have y1 := (HB2.out.cell (p := ⟨g, k * 2, none⟩) HL.out).trans (HG.out k _ HFF.out).1
        have y2 := (HB2.out.cell (p := ⟨g, k * 2 + 1, none⟩) HL.out).trans (HG.out k _ HFF.out).2.1
        clear hb2 e1 e2
        go_wp2_with fail
        refine (HCE.out _).mono ?_
        rintro e w3 ⟨u, rfl, hu, hb3⟩
        obtain ⟨v', w', h1, h2⟩ := HAP.out w2 w3 u HB2.out HB2'.out hb3 hu
        have HR := Lib.hid h1
        have HE2 := Lib.hid h2
        clear hu hb3 h1 h2 y1 y2
        go_wp2_with (refine wpList_appR _ rfl _ _ _ _ rfl _ _ rfl rfl HR.out ?_)
        go_roundw
        case rel => exact ⟨k + 1, _, by omega, by go_num, rfl, HE2.out⟩
        case measure => simp [intOf]; omega
      | false =>
        have HE : Hid (fz.encAll fs = []) := Lib.hid (encAll_no HFF.out hv)
        rw [hv] at HCV
        clear hv
        go_wp2_with fail
        refine HCV.out.mono ?_
        rintro e w2 ⟨rfl, hb2⟩
        have HB2 := Lib.hid (HEA.out.2.2.trans (hb2.mono HEA.out.2.2.size))
        clear hb2 e1 e2
        go_wp2_with fail
        go_ret
        rw [HE.out]
        exact ⟨_, rfl, own_mono (ownU_none w2) HB2.out.size, HB2.out.alloc HB2.out.size _⟩
    · obtain rfl : k = len := by omega
      clear hea
      go_wp2_with fail
      go_ret
      exact ⟨_, rfl, HF.out _ _ HEA.out, HEA.out.2.2⟩
end Go.Proofs.Ytdpmjpjbcpdgnaa
