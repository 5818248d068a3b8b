/- impl.decoding.advance. Condition: the decoding and the errors lie in memory. -/
import Derived.Test.YtdpmjpjbcpdgnaaDoorProg
import Derived.Test.YtdpmjpjbcpdgnaaDoorFzA
import Derived.Deep.LoopGhost
namespace Go.Proofs.YtdpmjpjbcpdgnaaDoor
open Go.RowKit

@[go_sem] theorem mth_Ln (d : Nat) (x : Value) (w : World) : (method (d + 3) 91 x "loop.example/prologserver/impl.needs").run Tryd.prog w = .ok (93, x) w := by kernel_rfl
@[go_sem] theorem mth_Ll (d : Nat) (x : Value) (w : World) : (method (d + 3) 91 x "loop.example/prologserver/impl.look").run Tryd.prog w = .ok (92, x) w := by kernel_rfl
@[go_sem] theorem mth_Fn (d : Nat) (x : Value) (w : World) : (method (d + 3) 134 x "loop.example/prologserver/impl.needs").run Tryd.prog w = .ok (110, x) w := by kernel_rfl
@[go_sem] theorem mth_Fl (d : Nat) (x : Value) (w : World) : (method (d + 3) 134 x "loop.example/prologserver/impl.look").run Tryd.prog w = .ok (109, x) w := by kernel_rfl

/-- What state a decoding is in. -/
def St (st : Value) (q : List UInt8) : Prop := st = aLv ∨ (st = aFv ((2 : Int) + (fz.lenOf q : Int)) ∧ 2 ≤ q.length ∧ 1 ≤ fz.lenOf q ∧ fz.lenOf q ≤ 2001)
theorem frA_take {q : List UInt8} {n : Nat} (h1 : 1 ≤ n) : fz.frA q n = ⟨(((q.take (2 + n)).getD 2 0).toNat : Int), ⟨((q.take (2 + n)).drop 3).toArray⟩⟩ := by
  unfold fz.frA
  have e : (q.take (2 + n)).getD 2 0 = q.getD 2 0 := by simp only [List.getD, List.getElem?_take]; rw [if_pos (by omega)]
  rw [e]
theorem lenOf_take {q : List UInt8} {n : Nat} (h : 2 ≤ n) : fz.lenOf (q.take n) = fz.lenOf q := by
  unfold fz.lenOf
  have e0 : (q.take n).getD 0 0 = q.getD 0 0 := by simp only [List.getD, List.getElem?_take]; rw [if_pos (by omega)]
  have e1 : (q.take n).getD 1 0 = q.getD 1 0 := by simp only [List.getD, List.getElem?_take]; rw [if_pos (by omega)]
  rw [e0, e1]
theorem dc_state {w : World} {xb s : Nat} {cur : List Value} {q : List UInt8} {st fv er : Value} {fs : List fz.F} (h : Dc w xb cur q s st fs fv er) (v : Value) :
    Dc (w.setCell ⟨xb, 2005, none⟩ v) xb (cur.set 2005 v) q s v fs fv er := by
  obtain ⟨r1, r2, r3, r4, r5, r6⟩ := h.rg
  refine ⟨?_, ⟨by rw [List.length_set]; exact r1, r2, r3, ?_, ?_, fun i hi => ?_⟩, ?_, ?_, ?_, ?_⟩
  · have := h.blk.set_ 2005 v
    rw [list_set_arr] at this
    exact this
  · rw [List.getElem?_set_ne (by omega)]; exact r4
  · rw [List.getElem?_set_ne (by omega)]; exact r5
  · have hx : (s + i) % 2003 < 2003 := Nat.mod_lt _ (by omega)
    rw [List.getElem?_set_ne (by omega)]; exact r6 i hi
  · rw [List.getElem?_set_self (by omega)]
  · rw [List.getElem?_set_ne (by omega)]; exact h.c6
  · rw [List.getElem?_set_ne (by omega)]; exact h.c7
  · refine own_keep h.own ((Wrote.refl [xb] w).set_ (.inl (by simp)) _) fun x hx => ?_
    have := (own_lt h.own x hx).1
    simp; omega
/-- What advance leaves. -/
def AdvR (w0 : World) (xb : Nat) (q0 : List UInt8) (fs0 : List fz.F) (er : Value) (eB eP : Addr) (e : Ending) (w' : World) : Prop :=
  ∃ cur' qq s' st' fv', Dc w' xb cur' qq s' st' (fs0 ++ (fz.tk q0).1) fv' er ∧ Below xb w0 w' ∧ ((fz.tk q0).2.2 = false → e = .returned (esV eP) ∧ qq = (fz.tk q0).2.1 ∧ St st' qq) ∧ ((fz.tk q0).2.2 = true → e = .returned (esV eB))
/-- What a round begins with. -/
structure AdR (w0 : World) (xb : Nat) (q0 : List UInt8) (fs0 : List fz.F) (er : Value) (k : Nat) (cur : List Value) (q : List UInt8) (s : Nat) (st : Value) (fs : List fz.F) (fv : Value) (wr : World) : Prop where
  dc : Dc wr xb cur q s st fs fv er
  bel : Below xb w0 wr
  st_ : St st q
  fr : fs0 ++ (fz.tk q0).1 = fs ++ (fz.tk q).1
  rest : (fz.tk q0).2 = (fz.tk q).2
  k_ : 2 * q.length + 1 ≤ k ∧ (st = aLv → 2 * q.length + 2 ≤ k)
  n_ : fs.length + q.length ≤ 100000000
theorem aLv_ne (n : Int) : aFv n ≠ aLv := by
  unfold aFv aLv
  intro h
  injection h with h1 _
  exact absurd h1 (by decide)
section
variable {w0 : World} {xb : Nat} {q0 : List UInt8} {fs0 : List fz.F} {er : Value} {k : Nat} {cur : List Value} {q : List UInt8} {s : Nat} {st : Value} {fs : List fz.F} {fv : Value} {wr w' : World} {eB eP : Addr}
/-- It ends for want of bytes. -/
theorem AdR.part (h : AdR w0 xb q0 fs0 er k cur q s st fs fv wr) (hn : fz.nx q = .need) (hb : Below wr.heap.size wr w') : AdvR w0 xb q0 fs0 er eB eP (.returned (esV eP)) w' := by
  have ht := fz.tk_need hn
  refine ⟨cur, q, s, st, fv, ?_, h.bel.trans (hb.mono (Nat.le_of_lt h.dc.blk.lt)), fun _ => ⟨rfl, ?_, h.st_⟩, fun hf => ?_⟩
  · have := h.dc.below hb
    rw [h.fr, ht]
    simpa using this
  · rw [h.rest, ht]
  · rw [h.rest, ht] at hf; cases hf
theorem AdR.brk (h : AdR w0 xb q0 fs0 er k cur q s st fs fv wr) (hn : fz.nx q = .bad) (hb : Below wr.heap.size wr w') : AdvR w0 xb q0 fs0 er eB eP (.returned (esV eB)) w' := by
  have ht := fz.tk_bad hn
  refine ⟨cur, q, s, st, fv, ?_, h.bel.trans (hb.mono (Nat.le_of_lt h.dc.blk.lt)), fun hf => ?_, fun _ => rfl⟩
  · have := h.dc.below hb
    rw [h.fr, ht]
    simpa using this
  · rw [h.rest, ht] at hf; cases hf
/-- A length is known. -/
theorem AdR.len (h : AdR w0 xb q0 fs0 er k cur q s aLv fs fv wr) (h2 : 2 ≤ q.length) (h1 : 1 ≤ fz.lenOf q) (h3 : fz.lenOf q ≤ 2001) (hb : Below wr.heap.size wr w') :
    AdR w0 xb q0 fs0 er (k - 1) (cur.set 2005 (aFv ((2 : Int) + (fz.lenOf q : Int)))) q s (aFv ((2 : Int) + (fz.lenOf q : Int))) fs fv (w'.setCell ⟨xb, 2005, none⟩ (aFv ((2 : Int) + (fz.lenOf q : Int)))) ∧ k - 1 < k := by
  have hk := h.k_.2 rfl
  exact ⟨⟨dc_state (h.dc.below hb) _, (h.bel.trans (hb.mono (Nat.le_of_lt h.dc.blk.lt))).setCell (Nat.le_refl _) _, .inr ⟨rfl, h2, h1, h3⟩, h.fr, h.rest, ⟨by omega, fun e => absurd e (aLv_ne _)⟩, h.n_⟩, by omega⟩
/-- A frame is complete. -/
theorem AdR.frame {cur' : List Value} {s' : Nat} {fv' : Value} {n : Nat} {f : fz.F} (h : AdR w0 xb q0 fs0 er k cur q s (aFv ((2 : Int) + (fz.lenOf q : Int))) fs fv wr) (hn : fz.nx q = .got f n) (hd : Dc w' xb cur' (q.drop n) s' (aFv ((2 : Int) + (fz.lenOf q : Int))) (fs ++ [f]) fv' er) (hb : Below xb wr w') :
    AdR w0 xb q0 fs0 er (k - 1) (cur'.set 2005 aLv) (q.drop n) s' aLv (fs ++ [f]) fv' (w'.setCell ⟨xb, 2005, none⟩ aLv) ∧ k - 1 < k := by
  have ht := fz.tk_got hn
  obtain ⟨_, hn2, h1, _, h5, _⟩ := fz.nx_got_facts hn
  have hk := h.k_.1
  have hl := h.n_
  refine ⟨⟨dc_state hd _, (h.bel.trans hb).setCell (Nat.le_refl _) _, .inl rfl, ?_, ?_, ?_, ?_⟩, by omega⟩
  · rw [h.fr, ht]; simp
  · rw [h.rest, ht]
  · rw [List.length_drop]; exact ⟨by omega, fun _ => by omega⟩
  · rw [List.length_append, List.length_drop]; simp; omega
end

set_option maxRecDepth 100000 in
set_option maxHeartbeats 2000000 in
/-- decoding.advance. -/
theorem adv_any (xb : Nat) (cur0 : List Value) (q0 : List UInt8) (s0 : Nat) (st0 : Value) (fs0 : List fz.F) (fv0 er : Value) (w : World) (eB eP : Addr) (hd : Dc w xb cur0 q0 s0 st0 fs0 fv0 er) (hst : St st0 q0) (hn : fs0.length + q0.length ≤ 100000000) (he : Er w eB eP)
    (hg : 0 < xb ∧ 1 < xb ∧ eB.block < xb ∧ eP.block < xb) :
    Calls Tryd.prog 69 #[.pointer (some ⟨xb, 0, none⟩)] w fun e w' => AdvR w xb q0 fs0 er eB eP e w' := by
  have H0 : Hid (AdR w xb q0 fs0 er (2 * q0.length + 2) cur0 q0 s0 st0 fs0 fv0 w) := Lib.hid ⟨hd, .refl _ _, hst, rfl, rfl, ⟨by omega, fun _ => by omega⟩, hn⟩
  have HE := Lib.hid he
  have HG := Lib.hid hg
  clear hd hst hn he hg
  go_enter Tryd.func69, Tryd.ntmps69
  go_wp2_with fail
  go_loopg [2] (2 * q0.length + 2) (fun gk _ wr => ∃ cur q s st fs fv, AdR w xb q0 fs0 er gk cur q s st fs fv wr)
  case atStart => exact ⟨cur0, q0, s0, st0, fs0, fv0, H0.out⟩
  case round =>
    obtain ⟨cur, q, s, st, fs, fv, hr⟩ := hrel
    have hEr := HE.out.keep xb HG.out hr.bel
    have HER := Lib.hid hEr
    have HR := Lib.hid hr
    have hxl := hr.dc.blk.lt
    have hst := hr.st_
    clear hEr
    rcases hst with rfl | ⟨rfl, h2, h1, h3⟩
    · have x5 : wr.cell? ⟨xb, 2005, none⟩ = some (.iface 91 (.agg #[])) := by rw [hr.dc.cell]; exact hr.dc.c5
      clear hr
      by_cases h2 : q.length < 2
      · have HN : Hid (fz.nx q = .need) := Lib.hid (fz.nx_short h2)
        have CF := fun w1 (hb : Below wr.heap.size wr w1) => first_no xb s cur q 2 w1 eB eP (HR.out.dc.blk.below hb HR.out.dc.blk.lt) HR.out.dc.rg (HER.out.below hb) h2
        simp only [esV] at CF
        have HF := Lib.hid CF
        clear CF h2
        go_wp2_with fail
        go_region_law (first
          | (go_simp
             go_at_call 93
             refine (needsL_any _).mono ?_
             rintro e w2 ⟨rfl, hb2⟩
             have HB2 := Lib.hid (((Below.refl wr.heap.size wr).drew).trans hb2)
             clear hb2)
          | (go_simp
             go_at_call 72
             refine (HF.out _ HB2.out).mono ?_
             rintro e w3 ⟨rfl, hb3⟩
             have HB3 := Lib.hid (HB2.out.trans (hb3.mono HB2.out.size))
             clear hb3))
        all_goals
          go_wp2_with fail
          go_ret
          exact HR.out.part HN.out HB3.out
      · have CF := fun w1 (hb : Below wr.heap.size wr w1) => first_any xb s cur q 2 w1 (HR.out.dc.blk.below hb HR.out.dc.blk.lt) HR.out.dc.rg (by omega)
        have HF := Lib.hid CF
        have H2 := Lib.hid h2
        clear CF h2
        go_wp2_with fail
        go_cut [3, 4] (fun u v wx => ∃ A cap, u = .slice A 2 cap ∧ v = .nilIface ∧ AtU wx wx.heap.size A (q.take 2) ∧ 2 ≤ cap ∧ cap ≤ maxLen ∧ Below wr.heap.size wr wx)
        case first =>
          go_region_law (first
            | (go_simp
               go_at_call 93
               refine (needsL_any _).mono ?_
               rintro e w2 ⟨rfl, hb2⟩
               have HB2 := Lib.hid (((Below.refl wr.heap.size wr).drew).trans hb2)
               clear hb2)
            | (go_simp
               go_at_call 72
               refine (HF.out _ HB2.out).mono ?_
               rintro e w3 ⟨A, cap, rfl, hat, hc1, hc2, hb3⟩
               have HB3 := Lib.hid (HB2.out.trans (hb3.mono HB2.out.size))
               have HAT := Lib.hid hat
               have HC2 := Lib.hid hc2
               clear hb3 hat hc2))
          all_goals
            go_wp2_with fail
            go_meet
          all_goals exact ⟨_, _, rfl, rfl, HAT.out, hc1, HC2.out, HB3.out⟩
        case rest =>
          obtain ⟨A, cap, rfl, rfl, hat, hc1, hc2, hb3⟩ := hcut
          generalize wc = w3 at *
          have y5 : w3.cell? ⟨xb, 2005, none⟩ = some (.iface 91 (.agg #[])) := (hb3.cell (p := ⟨xb, 2005, none⟩) hxl).trans x5
          have CL := lookL_any xb A cap (q.take 2) w3 eB eP hat (by rw [List.length_take]; have := H2.out; omega) (HER.out.below hb3)
          rw [lenOf_take (Nat.le_refl _)] at CL
          by_cases hbad : fz.lenOf q < 1 ∨ 2001 < fz.lenOf q
          · have hlk : lkL eB (fz.lenOf q) = .tuple #[.nilIface, .iface 116 (.pointer (some eB))] := by unfold lkL; rw [if_pos hbad]; rfl
            have HN : Hid (fz.nx q = .bad) := Lib.hid (fz.nx_badlen (by have := H2.out; omega) hbad)
            rw [hlk] at CL
            have HL := Lib.hid CL
            have HB3 := Lib.hid hb3
            clear CL hlk hbad hb3 hat
            go_wp2_with fail
            refine HL.out.mono ?_
            rintro e w4 ⟨rfl, hb4⟩
            have HB4 := Lib.hid (HB3.out.trans (hb4.mono HB3.out.size))
            clear hb4
            go_wp2_with fail
            go_ret
            exact HR.out.brk HN.out HB4.out
          · have hlk : lkL eB (fz.lenOf q) = .tuple #[.iface 134 (.agg #[.int .i64 ((2 : Int) + (fz.lenOf q : Int))]), .nilIface] := by unfold lkL; rw [if_neg hbad]; rfl
            rw [hlk] at CL
            have HL := Lib.hid CL
            have HB3 := Lib.hid hb3
            have HBD := Lib.hid hbad
            clear CL hlk hbad hb3 hat
            go_wp2_with fail
            refine HL.out.mono ?_
            rintro e w4 ⟨rfl, hb4⟩
            have hb5 := HB3.out.trans (hb4.mono HB3.out.size)
            have z5 : w4.cell? ⟨xb, 2005, none⟩ = some (.iface 91 (.agg #[])) := (hb5.cell (p := ⟨xb, 2005, none⟩) hxl).trans x5
            have zf : w4.frozen? ⟨xb, 2005, none⟩ = false := (hb5.frozen (p := ⟨xb, 2005, none⟩) hxl).trans (HR.out.dc.blk.frozen 2005)
            have HS := Lib.hid (HR.out.len (by have := H2.out; omega) (by have := HBD.out; omega) (by have := HBD.out; omega) hb5)
            clear hb4 hb5 y5 x5
            go_wp2_with fail
            go_roundg (gk - 1)
            case measure => exact HS.out.2
            case rel => exact ⟨_, _, _, _, _, _, HS.out.1⟩
    · have x5 : wr.cell? ⟨xb, 2005, none⟩ = some (.iface 134 (.agg #[.int .i64 ((2 : Int) + (fz.lenOf q : Int))])) := by rw [hr.dc.cell]; exact hr.dc.c5
      have hn8 := hr.n_
      clear hr
      obtain ⟨n, hn⟩ : ∃ n, n = 2 + fz.lenOf q := ⟨_, rfl⟩
      have en : (2 : Int) + (fz.lenOf q : Int) = (n : Int) := by omega
      rw [en] at x5
      have HEN := Lib.hid en
      have HNN := Lib.hid hn
      have HLO := Lib.hid (show 3 ≤ n ∧ n ≤ 2003 by omega)
      by_cases hq : q.length < n
      · have HN : Hid (fz.nx q = .need) := Lib.hid (fz.nx_part h2 h1 h3 (by omega))
        have CF := fun w1 (hb : Below wr.heap.size wr w1) => first_no xb s cur q n w1 eB eP (HR.out.dc.blk.below hb HR.out.dc.blk.lt) HR.out.dc.rg (HER.out.below hb) hq
        simp only [esV] at CF
        have HF := Lib.hid CF
        clear CF hq h1 h2 h3 hn en hn8
        go_wp2_with fail
        go_region_law (first
          | (go_simp
             go_at_call 110
             refine (needsF_any _ _).mono ?_
             rintro e w2 ⟨rfl, hb2⟩
             have HB2 := Lib.hid (((Below.refl wr.heap.size wr).drew).trans hb2)
             clear hb2)
          | (go_simp
             go_at_call 72
             refine (HF.out _ HB2.out).mono ?_
             rintro e w3 ⟨rfl, hb3⟩
             have HB3 := Lib.hid (HB2.out.trans (hb3.mono HB2.out.size))
             clear hb3))
        all_goals
          go_wp2_with fail
          go_ret
          exact HR.out.part HN.out HB3.out
      · have CF := fun w1 (hb : Below wr.heap.size wr w1) => first_any xb s cur q n w1 (HR.out.dc.blk.below hb HR.out.dc.blk.lt) HR.out.dc.rg (by omega)
        have HF := Lib.hid CF
        have HQ := Lib.hid (show n ≤ q.length by omega)
        have H13 := Lib.hid (And.intro h2 (And.intro h1 h3))
        have H8 := Lib.hid hn8
        clear CF hq h1 h2 h3 hn en hn8
        go_wp2_with fail
        go_cut [3, 4] (fun u v wx => ∃ A cap, u = .slice A n cap ∧ v = .nilIface ∧ AtU wx wx.heap.size A (q.take n) ∧ n ≤ cap ∧ cap ≤ maxLen ∧ Below wr.heap.size wr wx)
        case first =>
          go_region_law (first
            | (go_simp
               go_at_call 110
               refine (needsF_any _ _).mono ?_
               rintro e w2 ⟨rfl, hb2⟩
               have HB2 := Lib.hid (((Below.refl wr.heap.size wr).drew).trans hb2)
               clear hb2)
            | (go_simp
               go_at_call 72
               refine (HF.out _ HB2.out).mono ?_
               rintro e w3 ⟨A, cap, rfl, hat, hc1, hc2, hb3⟩
               have HB3 := Lib.hid (HB2.out.trans (hb3.mono HB2.out.size))
               have HAT := Lib.hid hat
               have HC2 := Lib.hid hc2
               clear hb3 hat hc2))
          all_goals
            go_wp2_with fail
            go_meet
          all_goals exact ⟨_, _, rfl, rfl, HAT.out, hc1, HC2.out, HB3.out⟩
        case rest =>
          obtain ⟨A, cap, rfl, rfl, hat, hc1, hc2, hb3⟩ := hcut
          generalize wc = w3 at *
          have y5 : w3.cell? ⟨xb, 2005, none⟩ = some (.iface 134 (.agg #[.int .i64 (n : Int)])) := (hb3.cell (p := ⟨xb, 2005, none⟩) hxl).trans x5
          have hfr := frA_take (q := q) (n := fz.lenOf q) H13.out.2.1
          rw [← HNN.out] at hfr
          have hlen : (q.take n).length = n := by rw [List.length_take]; have := HQ.out; omega
          cases hok : fz.okF (fz.frA q (fz.lenOf q)) with
          | false =>
            have HN : Hid (fz.nx q = .bad) := Lib.hid (fz.nx_badfr H13.out.1 H13.out.2.1 H13.out.2.2 (by have := HQ.out; have := HNN.out; omega) hok)
            rw [hfr] at hok
            have CL := lookF_no xb n A cap (q.take n) w3 eB eP hat hlen HLO.out.1 HLO.out.2 hc1 (HER.out.below hb3) hok
            simp only [esV] at CL
            have HL := Lib.hid CL
            have HB3 := Lib.hid hb3
            clear CL hok hfr hlen hb3 hat
            go_wp2_with fail
            refine HL.out.mono ?_
            rintro e w4 ⟨rfl, hb4⟩
            have HB4 := Lib.hid (HB3.out.trans (hb4.mono HB3.out.size))
            clear hb4
            go_wp2_with fail
            go_ret
            exact HR.out.brk HN.out HB4.out
          | true =>
            have hgot := fz.nx_got H13.out.1 H13.out.2.1 H13.out.2.2 (by have := HQ.out; have := HNN.out; omega) hok
            rw [← HNN.out] at hgot
            have HGOT := Lib.hid hgot
            have HFR := Lib.hid hfr
            rw [hfr] at hok
            have CL := lookF_yes xb n s cur q _ fv er fs A cap (q.take n) w3 hat hlen HLO.out.1 HLO.out.2 hc1 (HR.out.dc.below hb3) HQ.out (by have := H8.out; omega) hok
            have HL := Lib.hid CL
            have HB3 := Lib.hid hb3
            clear CL hok hfr hlen hb3 hat hgot
            go_wp2_with fail
            refine HL.out.mono ?_
            rintro e w4 ⟨rfl, ⟨cur', s', fv', hd4⟩, hb4⟩
            have hb5 : Below xb wr w4 := (HB3.out.mono (Nat.le_of_lt hxl)).trans hb4
            rw [← HFR.out] at hd4
            have z5 := hd4.cell 2005
            rw [hd4.c5] at z5
            have zf := hd4.blk.frozen 2005
            have HS := Lib.hid (HR.out.frame HGOT.out hd4 hb5)
            simp only [aFv] at z5
            simp only [aLv]
            clear hb4 hb5 y5 x5 hd4
            go_wp2_with fail
            go_roundg (gk - 1)
            case measure => exact HS.out.2
            case rel => exact ⟨_, _, _, _, _, _, HS.out.1⟩
end Go.Proofs.YtdpmjpjbcpdgnaaDoor
