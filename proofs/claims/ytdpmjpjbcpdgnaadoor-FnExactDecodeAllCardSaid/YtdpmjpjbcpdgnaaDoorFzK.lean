/- impl.DecodeAll, impl.FeedDecoder. Condition: the bytes and the errors lie in memory. -/
import Derived.Test.YtdpmjpjbcpdgnaaDoorProg
import Derived.Test.YtdpmjpjbcpdgnaaDoorFzJ
namespace Go.Proofs.YtdpmjpjbcpdgnaaDoor
open Go.RowKit

/-- What DecodeAll answers. -/
def daB (l : List UInt8) : Bool := !(fz.tk l).2.2 && (fz.tk l).2.1.isEmpty
def daF (l : List UInt8) : List fz.F := if daB l then (fz.tk l).1 else []
def DaR (l : List UInt8) (w : World) (e : Ending) (w' : World) : Prop := ∃ v, e = .returned (.tuple #[v, .bool (daB l)]) ∧ OwnG w' w.heap.size v (daF l) ∧ Below w.heap.size w w'

set_option maxRecDepth 100000 in
set_option maxHeartbeats 2000000 in
/-- impl.DecodeAll. -/
theorem implDA_any (A : Option Addr) (cap : Nat) (l : List UInt8) (w : World) (eB eP : Addr) (he : Er w eB eP) (ha : AtU w w.heap.size A l) (hc : l.length ≤ cap) (hm : cap ≤ maxLen) (hz : l.length ≤ 10000000) :
    Calls Tryd.prog 16 #[.slice A l.length cap] w fun e w' => DaR l w e w' := by
  have hlt := he.lt
  have HE := Lib.hid he
  have HA := Lib.hid ha
  have HC := Lib.hid hc
  have HM := Lib.hid hm
  have HZ := Lib.hid hz
  clear he ha hc hm hz
  go_enter Tryd.func16, Tryd.ntmps16
  go_wp2_with fail
  refine (newDec_any w).mono ?_
  rintro e w2 ⟨rfl, hw2⟩
  have hdk := dk_new w eB eP
  have hb2 := (Below.refl w.heap.size w).alloc (Nat.le_refl _) (.cells (Tryd.zeroCells71.setIfInBounds 2005 aLv) 71)
  rw [← hw2] at hdk hb2
  have CF := feed_any w.heap.size [] l [] A cap w2 eB eP false hdk (HA.out.below hb2 (Nat.le_refl _)) HC.out HM.out (by simp; have := HZ.out; omega) (HE.out.below hb2) hlt rfl
  have HF := Lib.hid CF
  have HB2 := Lib.hid hb2
  clear CF hdk hb2 hw2
  go_wp2_with fail
  refine HF.out.mono ?_
  rintro e w3 ⟨rfl, hfe⟩
  unfold FdE at hfe
  simp only [List.nil_append] at hfe
  obtain ⟨hdk3, hb3⟩ := hfe
  have hbw3 := HB2.out.trans hb3
  have HB := Lib.hid (broken_any w3 hdk3 (HE.out.below hbw3))
  have HDK := Lib.hid hdk3
  have HB3 := Lib.hid hbw3
  clear hdk3 hb3 hbw3
  go_wp2_with fail
  refine HB.out.mono ?_
  rintro e w4 ⟨rfl, hb4⟩
  have hdk4 := HDK.out.below hb4
  have hbw4 := HB3.out.trans (hb4.mono HB3.out.size)
  obtain ⟨v, A3, cap3, c6, rfl, hl3, hm3, hown⟩ := hdk4.frames
  have HDK4 := Lib.hid hdk4
  have HB4 := Lib.hid hbw4
  have HOWN := Lib.hid hown
  have HNIL : Hid (OwnG w4 w.heap.size (.slice none 0 0) []) := Lib.hid (World.ownsRow_nil _ _ _ _)
  clear hb4 hdk4 hbw4 hown
  cases hbr : (fz.tk l).2.2 with
  | true =>
    have HV : Hid (daB l = false) := Lib.hid (by unfold daB; rw [hbr]; rfl)
    clear hbr
    go_wp2_with fail
    go_ret2
    unfold DaR daF
    rw [HV.out]
    exact ⟨_, rfl, HNIL.out, HB4.out⟩
  | false =>
    obtain ⟨cur, qq, s, st, fv, er, hdc, h1, h2⟩ := HDK4.out
    obtain ⟨hqq, _, _, _⟩ := h2 hbr
    have c4 : w4.cell? ⟨w.heap.size, 2004, none⟩ = some (.int .i64 (qq.length : Int)) := by rw [hdc.cell]; exact hdc.rg.cn
    cases hr : (fz.tk l).2.1 with
    | nil =>
      have HV : Hid (daB l = true) := Lib.hid (by unfold daB; rw [hbr, hr]; rfl)
      have e0 : (qq.length : Int) = 0 := by rw [hqq, hr]; rfl
      rw [e0] at c4
      have HO2 : Hid (OwnG w4 w.heap.size (.slice A3 (fz.tk l).1.length cap3) (fz.tk l).1) := Lib.hid (own_mono HOWN.out (Nat.le_succ _))
      clear hbr hr hdc h1 h2 hqq e0
      go_wp2_with fail
      go_ret2
      unfold DaR daF
      rw [HV.out]
      exact ⟨_, rfl, HO2.out, HB4.out⟩
    | cons a t =>
      have HV : Hid (daB l = false) := Lib.hid (by unfold daB; rw [hbr, hr]; rfl)
      have e0 : (qq.length : Int) = (t.length : Int) + 1 := by rw [hqq, hr]; rfl
      rw [e0] at c4
      have t0 : (t.length : Int) + 1 > 0 := by omega
      clear hbr hr hdc h1 h2 hqq e0
      go_wp2_with fail
      go_ret2
      unfold DaR daF
      rw [HV.out]
      exact ⟨_, rfl, HNIL.out, HB4.out⟩

theorem results_cell2b {P : Program} {fn : Func} {p u : Tmp} {ty : TypeId} (h : fn.results = #[.cell p ty, .tmp u]) (tmps : Array Value) (w : World) (g : Nat) (t : TypeId) (cs : Array Value) (d : TypeDesc)
    (hp : tmps.getD p undef = .pointer (some ⟨g, 0, none⟩)) (hg : Blk w g t cs)
    (hu : P.underlying ty = some d) (hd : (match d with | .struct _ | .array _ _ => true | _ => false) = true) (hi : (P.info? ty).map (·.size) = some cs.size) :
    (results fn tmps).run P w = .ok (.tuple #[.agg cs, tmps.getD u undef]) w := by
  have hp' : tmps[p]?.getD undef = .pointer (some ⟨g, 0, none⟩) := by simpa using hp
  have hg' : w.heap[g]? = some (.cells cs t (0, 0)) := hg
  simp [results, h, hp', asAddr, run_loadVar_row w g t ty cs (0, 0) d hg' hu hd hi]
theorem setc2 {w : World} {g : Nat} {t : TypeId} {x0 x1 : Value} (h : Blk w g t #[x0, x1]) (a b : Value) : Blk ((w.setCell ⟨g, 0, none⟩ a).setCell ⟨g, 1, none⟩ b) g t #[a, b] := (h.set_ 0 a).set_ 1 b

/-- What FeedDecoder answers: what is left, whether it is broken, the frames. -/
def fdR (l : List UInt8) (br : Bool) (m : List UInt8) : List UInt8 × Bool × List fz.F :=
  if dvB l br then (if br then ([], true, []) else ((fz.tk (l ++ m)).2.1, (fz.tk (l ++ m)).2.2, (fz.tk (l ++ m)).1)) else (l, br, [])
def FdO (l : List UInt8) (br : Bool) (m : List UInt8) (w : World) (e : Ending) (w' : World) : Prop :=
  ∃ v fv, e = .returned (.tuple #[.agg #[v, .bool (fdR l br m).2.1], fv]) ∧ OwnU w' w.heap.size v (fdR l br m).1 ∧ OwnG w' w.heap.size fv (fdR l br m).2.2 ∧ (∀ x ∈ ownV v, x ∉ ownV fv) ∧ Below w.heap.size w w'

theorem fd_fin {w w3 wl : World} {xb H : Nat} {v fv : Value} {Q : List UInt8} {FS : List fz.F} {BR : Bool} (h3 : Below w.heap.size w w3) (hl : Below w3.heap.size w3 wl) (hH : H < w3.heap.size) (hwH : w.heap.size ≤ H)
    (ho : OwnU wl w3.heap.size v Q) (hg : OwnG w3 (xb + 1) fv FS) (hx : H < xb + 1) (a b : Value) :
    ∃ v' fv', Ending.returned (.tuple #[.agg #[v, .bool BR], fv]) = .returned (.tuple #[.agg #[v', .bool BR], fv']) ∧ OwnU ((wl.setCell ⟨H, 0, none⟩ a).setCell ⟨H, 1, none⟩ b) w.heap.size v' Q ∧ OwnG ((wl.setCell ⟨H, 0, none⟩ a).setCell ⟨H, 1, none⟩ b) w.heap.size fv' FS ∧ (∀ x ∈ ownV v', x ∉ ownV fv') ∧ Below w.heap.size w ((wl.setCell ⟨H, 0, none⟩ a).setCell ⟨H, 1, none⟩ b) := by
  have hw : Wrote [H] wl ((wl.setCell ⟨H, 0, none⟩ a).setCell ⟨H, 1, none⟩ b) := ((Wrote.refl [H] wl).set_ (p := ⟨H, 0, none⟩) (.inl (by simp)) _).set_ (p := ⟨H, 1, none⟩) (.inl (by simp)) _
  refine ⟨v, fv, rfl, own_mono (own_keep ho hw fun x hx' => ?_) h3.size, own_mono (own_keep (own_below hg hl) hw fun x hx' => ?_) (by omega), fun x h1 h2 => ?_, ((h3.trans (hl.mono h3.size)).setCell hwH _).setCell hwH _⟩
  · have := (own_lt ho x hx').1; simp; omega
  · have := (own_lt hg x hx').1; simp; omega
  · have h1' := (own_lt ho x h1).1
    have h2' := (own_lt hg x h2).2
    omega
set_option maxRecDepth 100000 in
set_option maxHeartbeats 4000000 in
/-- impl.FeedDecoder. -/
theorem implFD_any (A : Option Addr) (cap : Nat) (l : List UInt8) (br : Bool) (B : Option Addr) (cap2 : Nat) (m : List UInt8) (w : World) (eB eP : Addr) (he : Er w eB eP) (ha : AtU w w.heap.size A l) (hc : l.length ≤ cap) (hm : cap ≤ maxLen) (hz : l.length ≤ 10000000) (hAn : A = none → l.length = 0 ∧ cap = 0)
    (hb : AtU w w.heap.size B m) (hc2 : m.length ≤ cap2) (hm2 : cap2 ≤ maxLen) (hz2 : m.length ≤ 10000000) :
    Calls Tryd.prog 27 #[.agg #[.slice A l.length cap, .bool br], .slice B m.length cap2] w fun e w' => FdO l br m w e w' := by
  have hlt := he.lt
  have hq0 := Blk.new w 38 #[.slice A l.length cap, .bool br]
  have hq0' := hq0.alloc (.cells #[.slice none 0 0, .bool false] 38)
  have hq1 := Blk.new (w.alloc (.cells #[.slice A l.length cap, .bool br] 38)) 38 #[.slice none 0 0, .bool false]
  have hb1 := ((Below.refl w.heap.size w).alloc (Nat.le_refl _) (.cells #[.slice A l.length cap, .bool br] 38)).alloc (by simp) (.cells #[.slice none 0 0, .bool false] 38)
  have hsz : (w.alloc (.cells #[.slice A l.length cap, .bool br] 38)).heap.size = w.heap.size + 1 := by simp
  rw [hsz] at hq1
  have HE := Lib.hid he
  have HA := Lib.hid ha
  have HC := Lib.hid hc
  have HM := Lib.hid hm
  have HZ := Lib.hid hz
  have HAN := Lib.hid hAn
  have HB := Lib.hid hb
  have HC2 := Lib.hid hc2
  have HM2 := Lib.hid hm2
  have HZ2 := Lib.hid hz2
  clear he ha hc hm hz hAn hb hc2 hm2 hz2 hq0 hsz
  go_enter Tryd.func27, Tryd.ntmps27
  go_wp2_with fail
  generalize ((w.alloc (.cells #[.slice A l.length cap, .bool br] 38)).alloc (.cells #[.slice none 0 0, .bool false] 38)) = w1 at *
  have HQ0 := Lib.hid hq0'
  have HQ1 := Lib.hid hq1
  have HB1 := Lib.hid hb1
  have hs1 : w.heap.size + 1 < w1.heap.size := hq1.lt
  have CD := dof_any A cap l br w1 eB eP (HE.out.below hb1) ((HA.out.below hb1 (Nat.le_refl _)).more hb1.size) HC.out HM.out HZ.out
  have HD := Lib.hid CD
  clear hq0' hq1 hb1 CD
  refine HD.out.mono ?_
  rintro e w2 ⟨xb, rfl, hxb, hdk, hb2⟩
  have hq2 := HQ0.out.below hb2 (by omega)
  have hr2 := HQ1.out.below hb2 hs1
  have hbw2 := HB1.out.trans (hb2.mono HB1.out.size)
  have x0 : w2.cell? ⟨w.heap.size, 0, none⟩ = some (.slice A l.length cap) := hq2.cell 0
  have x1 : w2.cell? ⟨w.heap.size, 1, none⟩ = some (.bool br) := hq2.cell 1
  cases hdv : dvB l br with
  | false =>
    have HV : Hid (fdR l br m = (l, br, [])) := Lib.hid (by unfold fdR; rw [hdv]; rfl)
    have hs2 : w.heap.size + 1 < w2.heap.size := hr2.lt
    have CC := fun w3 (hb : Below w2.heap.size w2 w3) => clone_any A cap l w3 ((HA.out.below (hbw2.trans (hb.mono hbw2.size)) (Nat.le_refl _)).more (Nat.le_trans hbw2.size hb.size)) HAN.out (by have := HZ.out; omega)
    have r0 : w2.cell? ⟨w.heap.size + 1, 0, none⟩ = some (.slice none 0 0) := hr2.cell 0
    have r1 : w2.cell? ⟨w.heap.size + 1, 1, none⟩ = some (.bool false) := hr2.cell 1
    have rf0 := hr2.frozen 0
    have rf1 := hr2.frozen 1
    have HCC := Lib.hid CC
    have HR2 := Lib.hid hr2
    have HQ2 := Lib.hid hq2
    have HB2 := Lib.hid hbw2
    clear CC hdv hdk hq2 hr2 hbw2 hb2
    go_wp2_with fail
    go_region_law
      (go_simp
       go_at_call 58
       refine (HCC.out _ ((Below.refl w2.heap.size w2).drew)).mono ?_
       rintro e w3 ⟨⟨v, rfl, how⟩, hb3⟩
       obtain ⟨Av, cv, rfl, -, -, -⟩ := how.read
       have hb3' : Below w2.heap.size w2 w3 := ((Below.refl w2.heap.size w2).drew).trans hb3
       have hr3 := HR2.out.below hb3' hs2
       have hq3 := HQ2.out.below hb3' (by omega)
       have y0 : w3.cell? ⟨w.heap.size + 1, 0, none⟩ = some (.slice none 0 0) := hr3.cell 0
       have y1 : w3.cell? ⟨w.heap.size + 1, 1, none⟩ = some (.bool false) := hr3.cell 1
       have yf0 := hr3.frozen 0
       have yf1 := hr3.frozen 1
       have z1 : w3.cell? ⟨w.heap.size, 1, none⟩ = some (.bool br) := hq3.cell 1
       have HR3 := Lib.hid hr3
       have HO3 := Lib.hid how
       have HB3 := Lib.hid (HB2.out.trans (hb3'.mono HB2.out.size))
       clear hb3 hb3' hr3 hq3 how)
    all_goals
      go_wp2_with fail
      refine bodyPost_ret (v := .tuple #[.agg #[.slice Av l.length cv, .bool br], .slice none 0 0]) ?_ rfl ?_
      · exact results_cell2b Tryd.results27 _ _ (w.heap.size + 1) _ _ _ rfl (setc2 HR3.out _ _) Tryd.underlying38 rfl (by kernel_rfl)
      · have hOv : ∀ x ∈ ownV (.slice Av l.length cv), w.heap.size + 1 ≠ x := fun x hx e => by
          have h1 := (own_lt HO3.out x hx).1
          have h2 : w2.drew.heap.size = w2.heap.size := rfl
          omega
        refine ⟨.slice Av l.length cv, .slice none 0 0, by rw [HV.out], ?_, ?_, fun x hx hx2 => by simp [ownV, Value.ownBlock] at hx2, ?_⟩
        · rw [HV.out]
          exact own_mono (own_keep HO3.out (((Wrote.refl [w.heap.size + 1] w3).set_ (p := ⟨w.heap.size + 1, 0, none⟩) (.inl (by simp)) _).set_ (p := ⟨w.heap.size + 1, 1, none⟩) (.inl (by simp)) _) fun x hx => by have := hOv x hx; simp; omega) HB2.out.size
        · rw [HV.out]
          exact World.ownsRow_nil _ _ _ _
        · exact ((HB3.out.setCell (by simp) _).setCell (by simp) _)
  | true =>
    have hdk2 := hdk hdv
    have hE2 := HE.out.below hbw2
    have hltx : 0 < xb ∧ 1 < xb ∧ eB.block < xb ∧ eP.block < xb := ⟨by omega, by omega, by omega, by omega⟩
    have hbm : AtU w2 xb B m := (HB.out.below hbw2 (Nat.le_refl _)).more (by omega)
    have hxlt := hdk2.lt
    have CF : Calls Tryd.prog 49 #[.pointer (some ⟨xb, 0, none⟩), .slice B m.length cap2] w2 fun e w' => e = .returned (.tuple #[]) ∧ Dk w' xb (fdR l br m).1 (fdR l br m).2.2 (fdR l br m).2.1 eB eP ∧ Below xb w2 w' := by
      unfold fdR
      rw [if_pos hdv]
      cases br with
      | true =>
        have hl : l = [] := by unfold dvB at hdv; simpa using hdv
        subst hl
        refine (feed_broken xb m [] B cap2 w2 eB eP hdk2 hE2).mono fun e w' ⟨h1, h2⟩ => ⟨h1, hdk2.below h2, h2.mono (Nat.le_of_lt hxlt)⟩
      | false =>
        refine (feed_any xb l m [] B cap2 w2 eB eP false hdk2 hbm HC2.out HM2.out (by have := HZ.out; have := HZ2.out; simp; omega) hE2 hltx rfl).mono fun e w' ⟨h1, h2⟩ => ⟨h1, ?_⟩
        unfold FdE at h2
        simpa using h2
    have HF := Lib.hid CF
    have HR2 := Lib.hid hr2
    have HBW2 := Lib.hid hbw2
    have HXB := Lib.hid (show w1.heap.size ≤ xb from hxb)
    have HX2 := Lib.hid hxlt
    clear CF hdk2 hE2 hltx hbm hdv hdk hq2 hr2 hbw2 hb2 x0 x1 hxlt
    obtain ⟨⟨Q, BR, FS⟩, hfr⟩ : ∃ t, t = fdR l br m := ⟨_, rfl⟩
    rw [← hfr] at HF
    simp only at HF
    have HFR := Lib.hid hfr
    clear hfr
    go_wp2_with fail
    refine HF.out.mono ?_
    rintro e w3 ⟨rfl, hdk3, hb3⟩
    have hr3 : Blk w3 (w.heap.size + 1) 38 #[.slice none 0 0, .bool false] := HR2.out.keep (hb3.block _ (by omega))
    have hbw3 := HBW2.out.trans (hb3.mono (by omega))
    obtain ⟨fv, A3, cap3, c6, hfv, hl3, hm3, hown⟩ := hdk3.frames
    have CR := fun w5 (hb : Below w3.heap.size w3 w5) => rest_any xb Q FS BR w5 eB eP (hdk3.below hb) ((HE.out.below hbw3).below hb)
    have CB := fun w5 (hb : Below w3.heap.size w3 w5) => broken_any w5 (hdk3.below hb) ((HE.out.below hbw3).below hb)
    have hx3 := hdk3.lt
    have hs3 := hr3.lt
    have HCR := Lib.hid CR
    have HCB := Lib.hid CB
    have HR3 := Lib.hid hr3
    have HB3 := Lib.hid hbw3
    have HOWN := Lib.hid hown
    have HBK3 : Hid (∀ wd, Below w3.heap.size w3 wd → wd.cell? ⟨xb, 2006, none⟩ = some fv ∧ wd.cell? ⟨w.heap.size + 1, 0, none⟩ = some (.slice none 0 0) ∧ wd.cell? ⟨w.heap.size + 1, 1, none⟩ = some (.bool false) ∧ wd.frozen? ⟨w.heap.size + 1, 0, none⟩ = false ∧ wd.frozen? ⟨w.heap.size + 1, 1, none⟩ = false) := Lib.hid fun wd hd => ⟨(hd.cell (p := ⟨xb, 2006, none⟩) hx3).trans c6, (HR3.out.below hd hs3).cell 0, (HR3.out.below hd hs3).cell 1, (HR3.out.below hd hs3).frozen 0, (HR3.out.below hd hs3).frozen 1⟩
    obtain ⟨a6, -, -, -, -⟩ := HBK3.out _ ((Below.refl w3.heap.size w3).drew)
    have HFV := Lib.hid hfv
    clear CR CB hdk3 hb3 hr3 hbw3 hown hfv
    go_wp2_with fail
    go_region_law (first
      | (go_simp
         go_at_call 59
         refine (HCR.out _ (by first | exact HBB.out | exact (Below.refl _ _).drew)).mono ?_
         rintro e w5 ⟨⟨v, rfl, how⟩, hb5⟩
         obtain ⟨Av, cv, rfl, -, -, -⟩ := how.read
         have HBR5 : Hid (Below w3.heap.size w3 w5) := Lib.hid (by first | exact HBB.out.trans (hb5.mono HBB.out.size) | exact ((Below.refl w3.heap.size w3).drew).trans hb5)
         obtain ⟨b6, b0, b1, bf0, bf1⟩ := HBK3.out _ HBR5.out
         have HOV : Hid (OwnU w5 w3.heap.size (.slice Av Q.length cv) Q) := Lib.hid (own_mono how (by first | exact HBB.out.size | exact Nat.le_refl _))
         clear how hb5)
      | (go_simp
         go_at_call 50
         refine (HCB.out _ (by first | exact HBR5.out | exact (Below.refl _ _).drew)).mono ?_
         rintro e w6 ⟨rfl, hb6⟩
         have HBB : Hid (Below w3.heap.size w3 w6) := Lib.hid (by first | exact HBR5.out.trans (hb6.mono HBR5.out.size) | exact ((Below.refl w3.heap.size w3).drew).trans hb6)
         obtain ⟨d6, d0, d1, df0, df1⟩ := HBK3.out _ HBB.out
         first
           | (have HOVb := Lib.hid (own_below (show OwnU w5 w3.heap.size (.slice Av Q.length cv) Q from HOV.out) hb6))
           | skip
         clear hb6))
    all_goals
      go_wp2_with fail
      refine bodyPost_ret (v := .tuple #[.agg #[.slice Av Q.length cv, .bool BR], fv]) ?_ rfl ?_
      · first
          | (exact results_cell2b Tryd.results27 _ _ (w.heap.size + 1) _ _ _ rfl (setc2 (w := w6) (HR3.out.below HBB.out hs3) _ _) Tryd.underlying38 rfl (by kernel_rfl))
          | (exact results_cell2b Tryd.results27 _ _ (w.heap.size + 1) _ _ _ rfl (setc2 (w := w5) (HR3.out.below HBR5.out hs3) _ _) Tryd.underlying38 rfl (by kernel_rfl))
      · unfold FdO
        rw [← HFR.out]
        first
          | (exact fd_fin HB3.out HBB.out hs3 (by omega) HOVb.out HOWN.out (by omega) _ _)
          | (exact fd_fin HB3.out HBR5.out hs3 (by omega) HOV.out HOWN.out (by omega) _ _)
end Go.Proofs.YtdpmjpjbcpdgnaaDoor
