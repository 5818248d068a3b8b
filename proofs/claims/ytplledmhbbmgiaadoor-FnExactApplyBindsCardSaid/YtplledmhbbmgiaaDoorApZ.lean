/- spec.ApplyBinds. Condition: term and bindings lie in memory. -/
import Derived.Test.YtplledmhbbmgiaaDoorProg
import Derived.Test.YtplledmhbbmgiaaDoorApT
import Derived.Test.YtplledmhbbmgiaaDoorSpecC
import Derived.Test.YtplledmhbbmgiaaDoorTb
namespace Go.Proofs.YtplledmhbbmgiaaDoor
open Go.RowKit

/-- What both ApplyBinds answer. -/
def apB (ns : List Int) (g : Fr) (k n : Int) (s : ByteArray) (f : Fr) : Bool := validT k n s f && (allB g && vtB (apT ns g k n s f))
def apR (ns : List Int) (g : Fr) (k n : Int) (s : ByteArray) (f : Fr) : Nd := if apB ns g k n s f = true then apT ns g k n s f else nd0
theorem apB_bad {ns : List Int} {g : Fr} {k n : Int} {s : ByteArray} {f : Fr} (h : validT k n s f = false ∨ allB g = false) : apB ns g k n s f = false ∧ apR ns g k n s f = nd0 := by
  have e : apB ns g k n s f = false := by
    unfold apB
    rcases h with h | h
    · rw [h]; rfl
    · rw [h]; simp
  exact ⟨e, by unfold apR; rw [e]; rfl⟩
theorem apB_good {ns : List Int} {g : Fr} {k n : Int} {s : ByteArray} {f : Fr} (h : validT k n s f = true) (ha : allB g = true) : apB ns g k n s f = vtB (apT ns g k n s f) ∧ apR ns g k n s f = vtF (apT ns g k n s f) := by
  have e : apB ns g k n s f = vtB (apT ns g k n s f) := by
    unfold apB
    rw [h, ha]; rfl
  exact ⟨e, by unfold apR vtF; rw [e]⟩
theorem allB_cons (k n : Int) (s : ByteArray) (kids rest : Fr) : allB (.cons k n s kids rest) = (validT k n s kids && allB rest) := rfl
theorem apF_nodes {ns : List Int} {g : Fr} (ha : allB g = true) (f : Fr) : ∀ d, shapeF f d = true → nodes (apF ns g f) ≤ 120 * nodes f := by
  induction f with
  | nil => intro d _; exact Nat.le_refl _
  | cons k n s kids rest ihk ihr =>
    intro d h
    rw [shapeF_cons, Bool.and_eq_true] at h
    have h2 := ihr d h.2
    rw [apF_cons]
    by_cases hk : k = 1
    · subst hk
      have h3 := (validT_fits (apO_good (ns := ns) ha h.1)).2.2
      have e : apT ns g 1 n s kids = apO ns g () n := by unfold apT rpT; rw [if_pos rfl]
      rw [e]
      simp only [nodes]
      omega
    · rw [apT_other hk]
      have h3 := ihk (d - 1) (shapeT_kids h.1)
      simp only [nodes]
      omega
theorem apT_nodes {ns : List Int} {g : Fr} (ha : allB g = true) {k n d : Int} {s : ByteArray} {f : Fr} (h : shapeT k n s f d = true) : nodes (apT ns g k n s f).f ≤ 120 * (1 + nodes f) := by
  by_cases hk : k = 1
  · subst hk
    have h3 := (validT_fits (apO_good (ns := ns) ha h)).2.2
    have e : apT ns g 1 n s f = apO ns g () n := by unfold apT rpT; rw [if_pos rfl]
    rw [e]
    omega
  · rw [apT_other hk]
    have h3 := apF_nodes (ns := ns) ha f (d - 1) (shapeT_kids h)
    show nodes (apF ns g f) ≤ _
    omega

/-- The boxes of the argument and of the result. -/
def ApQ (w : World) (k n : Int) (s : ByteArray) (len : Nat) (A : Option Addr) (cap : Nat) (wr : World) : Prop := RC w (w.heap.size + 1) wr ∧ Blk wr w.heap.size 29 #[.int .i64 k, .int .i64 n, .string s, .slice A len cap]
theorem ApQ.below {w wr w' : World} {k n : Int} {s : ByteArray} {len : Nat} {A : Option Addr} {cap : Nat} (h : ApQ w k n s len A cap wr) (hb : Below wr.heap.size wr w') : ApQ w k n s len A cap w' := ⟨h.1.below hb, h.2.below hb h.2.lt⟩

set_option maxRecDepth 100000 in
set_option maxHeartbeats 8000000 in
/-- spec.ApplyBinds. -/
theorem specAp_any (k n : Int) (s : ByteArray) (f : Fr) (A : Option Addr) (cap lo hi : Nat) (ns : List Int) (g : Fr) (B : Option Addr) (capB lo2 hi2 : Nat) (w : World) (hk : KidsAt w lo hi f A cap) (hh : hi ≤ w.heap.size) (hf : Fits k n s) (hnd : nodes f ≤ 1048576) (hK : BdS w lo2 hi2 ns g B capB) (hh2 : hi2 ≤ w.heap.size) (hng : nodes g ≤ 1048576) :
    Calls Tryd.prog 14 #[.agg #[.int .i64 k, .int .i64 n, .string s, .slice A f.len cap], .slice B g.len capB] w fun e w' => TbRes w (apR ns g k n s f) (apB ns g k n s f) e w' := by
  have C1 := fun w1 (hb : Below w.heap.size w w1) => specValid_any k n s f A cap lo hi w1 (hk.below hb hh) (Nat.le_trans hh hb.size) hf hnd
  have C2 := fun w1 (hb : Below w.heap.size w w1) (hs : shapeT k n s f 30 = true) (ha : allB g = true) => apS_any s f k n 30 A cap lo hi ns g B capB lo2 hi2 w1 (hk.below hb hh) (Nat.le_trans hh hb.size) hs hnd (hK.below hb hh2) (Nat.le_trans hh2 hb.size) ha
  have C3 := fun w1 A1 c1 lo hi (hv : validT k n s f = true) (ha : allB g = true) (hk1 : KidsAt w1 lo hi (apT ns g k n s f).f A1 c1) hh => specValid_any (apT ns g k n s f).k (apT ns g k n s f).n (apT ns g k n s f).s (apT ns g k n s f).f A1 c1 lo hi w1 hk1 hh (apT_fits ha (validT_fits hv).1) (by have h1 := apT_nodes (ns := ns) ha (validT_fits hv).1; have h2 := (validT_fits hv).2.2; omega)
  have q0 : ApQ w k n s f.len A cap ((w.alloc (.cells #[.int .i64 k, .int .i64 n, .string s, .slice A f.len cap] 29)).alloc (.cells #[.int .i64 0, .int .i64 0, .string ⟨#[]⟩, .slice none 0 0] 29)) := by
    refine ⟨⟨?_, by omega, two_alloc w _ _⟩, (Blk.new w _ _).alloc _⟩
    have h := Blk.new (w.alloc (.cells #[.int .i64 k, .int .i64 n, .string s, .slice A f.len cap] 29)) 29 #[.int .i64 0, .int .i64 0, .string ⟨#[]⟩, .slice none 0 0]
    simpa using h
  have HB1 := Lib.hid (fun h => apB_bad (ns := ns) (g := g) (k := k) (n := n) (s := s) (f := f) h)
  have HB2 := Lib.hid (fun h ha => apB_good (ns := ns) (g := g) (k := k) (n := n) (s := s) (f := f) h ha)
  have HMB : Hid (vtB (apT ns g k n s f) = validT (apT ns g k n s f).k (apT ns g k n s f).n (apT ns g k n s f).s (apT ns g k n s f).f) := Lib.hid rfl
  have HMF : Hid (vtF (apT ns g k n s f) = if validT (apT ns g k n s f).k (apT ns g k n s f).n (apT ns g k n s f).s (apT ns g k n s f).f = true then apT ns g k n s f else nd0) := Lib.hid rfl
  have H1 := Lib.hid C1
  have H2 := Lib.hid C2
  have H3 := Lib.hid C3
  have HQ := Lib.hid q0
  have HK := Lib.hid hK
  have HHI := Lib.hid hh2
  have HNG := Lib.hid hng
  have hl := hK.2.1
  have hmx := hK.2.2.1
  unfold maxLen at hmx
  clear C1 C2 C3 hk hf hnd q0 hK hh2 hng
  generalize hn : g.len = len at *
  have HN := Lib.hid hn
  clear hn
  go_enter Tryd.func14, Tryd.ntmps14
  go_wp2_with fail
  generalize ((w.alloc (.cells #[.int .i64 k, .int .i64 n, .string s, .slice A f.len cap] 29)).alloc (.cells #[.int .i64 0, .int .i64 0, .string ⟨#[]⟩, .slice none 0 0] 29)) = w1 at *
  refine (H1.out _ HQ.out.1.2.2).mono ?_
  rintro e w2 ⟨rfl, hb⟩
  have q2 := HQ.out.below hb
  have HP := Lib.hid q2
  have HP2 := Lib.hid q2
  clear hb q2 H1 HQ
  cases hok : validT k n s f
  · obtain ⟨d0, d1, d2, d3⟩ := cells4i HP.out.1.1
    obtain ⟨f0, f1, f2, f3⟩ := frozen4 HP.out.1.1
    have HE := Lib.hid (HB1.out (.inl hok))
    clear hok
    go_wp2_with fail
    rw [HE.out.1, HE.out.2]
    refine bodyPost_ret (v := .tuple #[.agg #[.int .i64 0, .int .i64 0, .string ⟨#[]⟩, .slice none 0 0], .bool false]) ?_ rfl (HP.out.1.no _ _ _ _)
    exact results_cell_row2 Tryd.results14 _ _ (w.heap.size + 1) _ _ _ _ rfl (set4 HP.out.1.1 _ _ _ _) Tryd.underlying29 rfl (by kernel_rfl)
  · have HOK := Lib.hid hok
    clear hok HP
    go_wp2_with fail
    go_loopw [6] (fun i wr => ∃ (j : Nat), j ≤ len ∧ i = .int .i64 j ∧ allB (g.drop j) = allB g ∧ ApQ w k n s f.len A cap wr) (fun i _ => len - (intOf i).toNat)
    case atStart => exact ⟨0, Nat.zero_le _, rfl, rfl, HP2.out⟩
    case round =>
      obtain ⟨j, hj, rfl, hv, hp⟩ := hrel
      by_cases hlt : j < len
      · obtain ⟨kk, nn, s', kids, hd⟩ := Fr.drop_cons j g (by rw [HN.out]; exact hlt)
        obtain ⟨b, o, rfl, hlb, hbb, hrow⟩ := HK.out.2.2.2 (by rw [HN.out]; omega)
        obtain ⟨hi0, hfit, A', cap', c0, c1, c2, c3, c4, hkid⟩ := BdAt.elem j ns g b o hrow hd
        rw [hd, allB_cons] at hv
        have hlo : (⟨b, o, none⟩ : Addr).block < w.heap.size := Nat.lt_of_lt_of_le hbb HHI.out
        have hb := hp.1.2.2
        have k1 := (hb.cell (p := ⟨b, o + j * 5 + 1, none⟩) hlo).trans c1
        have k2 := (hb.cell (p := ⟨b, o + j * 5 + 2, none⟩) hlo).trans c2
        have k3 := (hb.cell (p := ⟨b, o + j * 5 + 3, none⟩) hlo).trans c3
        have k4 := (hb.cell (p := ⟨b, o + j * 5 + 4, none⟩) hlo).trans c4
        have hne := nodes_elem j g hd
        have C1 := specValid_any kk nn s' kids A' cap' lo2 hi2 wr (hkid.below hb HHI.out) (Nat.le_trans HHI.out hb.size) hfit (by have := HNG.out; omega)
        have H1 := Lib.hid C1
        have HP0 := Lib.hid hp
        clear C1 hp c0 c1 c2 c3 c4 hkid hrow hd hb hlo hne hfit
        cases ht : validT kk nn s' kids
        · have HE := Lib.hid (HB1.out (.inr (by rw [← hv, ht]; rfl)))
          rw [ht] at H1
          go_wp2_with fail
          refine H1.out.mono ?_
          rintro e w3 ⟨rfl, hb⟩
          have HP := Lib.hid (HP0.out.below hb)
          obtain ⟨d0, d1, d2, d3⟩ := cells4i HP.out.1.1
          obtain ⟨f0, f1, f2, f3⟩ := frozen4 HP.out.1.1
          clear hb k1 k2 k3 k4 HP0 ht hv
          go_wp2_with fail
          rw [HE.out.1, HE.out.2]
          refine bodyPost_ret (v := .tuple #[.agg #[.int .i64 0, .int .i64 0, .string ⟨#[]⟩, .slice none 0 0], .bool false]) ?_ rfl (HP.out.1.no _ _ _ _)
          exact results_cell_row2 Tryd.results14 _ _ (w.heap.size + 1) _ _ _ _ rfl (set4 HP.out.1.1 _ _ _ _) Tryd.underlying29 rfl (by kernel_rfl)
        · have HV : Hid (allB (g.drop (j + 1)) = allB g) := Lib.hid (by rw [← hv, ht]; rfl)
          rw [ht] at H1
          go_wp2_with fail
          refine H1.out.mono ?_
          rintro e w3 ⟨rfl, hb⟩
          have HP := Lib.hid (HP0.out.below hb)
          clear hb k1 k2 k3 k4 HP0 ht hv
          go_wp2_with fail
          go_roundw
          case rel => exact ⟨j + 1, by omega, by go_num, HV.out, HP.out⟩
          case measure => simp [intOf]; omega
      · obtain rfl : j = len := by omega
        have ha : allB g = true := by
          have h1 := Fr.drop_len g
          rw [HN.out] at h1
          rw [← hv, h1]; rfl
        have HE := Lib.hid (HB2.out HOK.out ha)
        have C2 := H2.out wr hp.1.2.2 (validT_fits HOK.out).1 ha
        have C3 := fun w1 A1 c1 lo hi => H3.out w1 A1 c1 lo hi HOK.out ha
        have HQ2 := Lib.hid hp
        obtain ⟨a0, a1, a2, a3⟩ := cells4i hp.2
        generalize apT ns g k n s f = m at *
        obtain ⟨mk, mn, ms, mf⟩ := m
        simp only at C2 C3 HMB HMF
        generalize validT mk mn ms mf = ok at *
        have H4 := Lib.hid C2
        have H5 := Lib.hid C3
        clear C2 C3 hp hv ha H2 H3 HB1 HB2 HOK
        go_wp2_with fail
        refine H4.out.mono ?_
        rintro e w3 ⟨A3, c3, rfl, hm⟩
        have hb3 := made_below hm
        have q3 := HQ2.out.below hb3
        have C6 := H5.out (w3.alloc (.cells #[.int .i64 mk, .int .i64 mn, .string ms, .slice A3 mf.len c3] 29)) A3 c3 0 w3.heap.size (by
          obtain ⟨L, ho, _, hL, _⟩ := hm
          exact (ho.kids (lo := 0) fun x hx => ⟨Nat.zero_le _, (hL x hx).2⟩).below ((Below.refl _ _).alloc (Nat.le_refl _) _) (Nat.le_refl _)) (by simp)
        have HM3 := Lib.hid hm
        have HQ3 := Lib.hid q3
        have H6 := Lib.hid C6
        have HSZ : Hid (wr.heap.size ≤ w3.heap.size) := Lib.hid hb3.size
        clear hm hb3 q3 C6 H4 H5 a0 a1 a2 a3
        go_wp2_with fail
        refine H6.out.mono ?_
        rintro e w4 ⟨rfl, hb4⟩
        have hb34 : Below w3.heap.size w3 w4 := ((Below.refl _ _).alloc (Nat.le_refl _) _).trans (hb4.mono (by simp))
        have q4 := HQ3.out.below hb34
        have o4 := (Blk.new w3 29 #[.int .i64 mk, .int .i64 mn, .string ms, .slice A3 mf.len c3]).below hb4 (by simp)
        have hm4 : Made wr mf A3 c3 w4 := by
          obtain ⟨L, h1, h2, h3, h4⟩ := HM3.out
          exact ⟨L, h1.below hb34 fun x hx => (h3 x hx).2, h2, fun x hx => ⟨(h3 x hx).1, Nat.lt_of_lt_of_le (h3 x hx).2 hb34.size⟩, h4.trans (hb34.mono HSZ.out)⟩
        obtain ⟨a0, a1, a2, a3⟩ := cells4i o4
        obtain ⟨d0, d1, d2, d3⟩ := cells4i q4.1.1
        obtain ⟨f0, f1, f2, f3⟩ := frozen4 q4.1.1
        have HP := Lib.hid q4
        have HM4 := Lib.hid hm4
        clear hb4 hb34 q4 o4 hm4 H6 HM3 HQ3
        cases ok
        · go_wp2_with fail
          rw [HE.out.1, HE.out.2, HMB.out, HMF.out]
          refine bodyPost_ret (v := .tuple #[.agg #[.int .i64 0, .int .i64 0, .string ⟨#[]⟩, .slice none 0 0], .bool false]) ?_ rfl (HP.out.1.no _ _ _ _)
          exact results_cell_row2 Tryd.results14 _ _ (w.heap.size + 1) _ _ _ _ rfl (set4 HP.out.1.1 _ _ _ _) Tryd.underlying29 rfl (by kernel_rfl)
        · have hy := HQ2.out.1.yes (k := mk) (n := mn) (s := ms) HM4.out (.int .i64 mk) (.int .i64 mn) (.string ms) (.slice A3 mf.len c3) true
          have HY := Lib.hid hy
          clear hy
          go_wp2_with fail
          rw [HE.out.1, HE.out.2, HMB.out, HMF.out]
          refine bodyPost_ret (v := .tuple #[.agg #[.int .i64 mk, .int .i64 mn, .string ms, .slice A3 mf.len c3], .bool true]) ?_ rfl HY.out
          exact results_cell_row2 Tryd.results14 _ _ (w.heap.size + 1) _ _ _ _ rfl (set4 HP.out.1.1 _ _ _ _) Tryd.underlying29 rfl (by kernel_rfl)
end Go.Proofs.YtplledmhbbmgiaaDoor
