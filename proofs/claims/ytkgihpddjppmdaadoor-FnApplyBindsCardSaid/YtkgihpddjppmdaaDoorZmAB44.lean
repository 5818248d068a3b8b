/- spec.ApplyBinds. Condition: term and bindings lie in memory. -/
import Derived.Test.YtkgihpddjppmdaaDoorProg
import Derived.Test.YtkgihpddjppmdaaDoorZmAB43
import Derived.Test.YtkgihpddjppmdaaDoorSpecC
import Derived.Test.YtkgihpddjppmdaaDoorTb
import Derived.Test.YtkgihpddjppmdaaDoorEq
import Derived.Test.YtkgihpddjppmdaaDoorAs
import Derived.Test.YtkgihpddjppmdaaDoorTermOf
import Derived.Test.YtkgihpddjppmdaaDoorImplV
import Derived.Test.YtkgihpddjppmdaaDoorTo
import Derived.Deep.RegionHeld3
import Derived.Test.YtkgihpddjppmdaaDoorPair
import Derived.Test.YtkgihpddjppmdaaDoorSpecL
import Derived.Deep.AppendLies
import Derived.Test.YtkgihpddjppmdaaDoorZmAB41
namespace Go.Proofs.YtkgihpddjppmdaaDoor
open Go.RowKit

/-- What both ApplyBinds answer. -/
def apB (ns : List Int) (g : Fr) (k n : Int) (s : ByteArray) (f : Fr) : Bool := validT k n s f && (allB g && vtB (apT ns g k n s f))
def apR (ns : List Int) (g : Fr) (k n : Int) (s : ByteArray) (f : Fr) : Nd := if apB ns g k n s f = true then apT ns g k n s f else nd0
theorem apB_bad {ns : List Int} {g : Fr} {k n : Int} {s : ByteArray} {f : Fr} (h : validT k n s f = false ∨ allB g = false) : apB ns g k n s f = false ∧ apR ns g k n s f = nd0 := by
  have e : apB ns g k n s f = false := by
    unfold apB
    rcases h with h | h
    · rw [h]; rfl
    · rw [h]; simp
  exact ⟨e, by unfold apR; rw [e]; rfl⟩
theorem apB_good {ns : List Int} {g : Fr} {k n : Int} {s : ByteArray} {f : Fr} (h : validT k n s f = true) (ha : allB g = true) : apB ns g k n s f = vtB (apT ns g k n s f) ∧ apR ns g k n s f = vtF (apT ns g k n s f) := by
  have e : apB ns g k n s f = vtB (apT ns g k n s f) := by
    unfold apB
    rw [h, ha]; rfl
  exact ⟨e, by unfold apR vtF; rw [e]⟩
theorem allB_cons (k n : Int) (s : ByteArray) (kids rest : Fr) : allB (.cons k n s kids rest) = (validT k n s kids && allB rest) := rfl
theorem apF_nodes {ns : List Int} {g : Fr} (ha : allB g = true) (f : Fr) : ∀ d, shapeF f d = true → nodes (apF ns g f) ≤ 120 * nodes f := by
  induction f with
  | nil => intro d _; exact Nat.le_refl _
  | cons k n s kids rest ihk ihr =>
    intro d h
    rw [shapeF_cons, Bool.and_eq_true] at h
    have h2 := ihr d h.2
    rw [apF_cons]
    by_cases hk : k = 1
    · subst hk
      have h3 := (validT_fits (apO_good (ns := ns) ha h.1)).2.2
      have e : apT ns g 1 n s kids = apO ns g () n := by unfold apT rpT; rw [if_pos rfl]
      rw [e]
      simp only [nodes]
      omega
    · rw [apT_other hk]
      have h3 := ihk (d - 1) (shapeT_kids h.1)
      simp only [nodes]
      omega
theorem apT_nodes {ns : List Int} {g : Fr} (ha : allB g = true) {k n d : Int} {s : ByteArray} {f : Fr} (h : shapeT k n s f d = true) : nodes (apT ns g k n s f).f ≤ 120 * (1 + nodes f) := by
  by_cases hk : k = 1
  · subst hk
    have h3 := (validT_fits (apO_good (ns := ns) ha h)).2.2
    have e : apT ns g 1 n s f = apO ns g () n := by unfold apT rpT; rw [if_pos rfl]
    rw [e]
    omega
  · rw [apT_other hk]
    have h3 := apF_nodes (ns := ns) ha f (d - 1) (shapeT_kids h)
    show nodes (apF ns g f) ≤ _
    omega

/-- The boxes of the argument and of the result. -/
def ApQ (w : World) (k n : Int) (s : ByteArray) (len : Nat) (A : Option Addr) (cap : Nat) (wr : World) : Prop := RC w (w.heap.size + 1) wr ∧ Blk wr w.heap.size 25 #[.int .i64 k, .int .i64 n, .string s, .slice A len cap]
theorem ApQ.below {w wr w' : World} {k n : Int} {s : ByteArray} {len : Nat} {A : Option Addr} {cap : Nat} (h : ApQ w k n s len A cap wr) (hb : Below wr.heap.size wr w') : ApQ w k n s len A cap w' := ⟨h.1.below hb, h.2.below hb h.2.lt⟩

set_option maxRecDepth 100000 in
set_option maxHeartbeats 8000000 in
/-- spec.ApplyBinds. -/
theorem specAp_any (k n : Int) (s : ByteArray) (f : Fr) (A : Option Addr) (cap lo hi : Nat) (ns : List Int) (g : Fr) (B : Option Addr) (capB lo2 hi2 : Nat) (w : World) (hk : KidsAt w lo hi f A cap) (hh : hi ≤ w.heap.size) (hf : Fits k n s) (hnd : nodes f ≤ 1048576) (hK : BdS w lo2 hi2 ns g B capB) (hh2 : hi2 ≤ w.heap.size) (hng : nodes g ≤ 1048576) :
    Calls Tryd.prog 6 #[.agg #[.int .i64 k, .int .i64 n, .string s, .slice A f.len cap], .slice B g.len capB] w fun e w' => TbRes w (apR ns g k n s f) (apB ns g k n s f) e w' := by
  have C1 := fun w1 (hb : Below w.heap.size w w1) => specValid_any k n s f A cap lo hi w1 (hk.below hb hh) (Nat.le_trans hh hb.size) hf hnd
  have C2 := fun w1 (hb : Below w.heap.size w w1) (hs : shapeT k n s f 30 = true) (ha : allB g = true) => apS_any s f k n 30 A cap lo hi ns g B capB lo2 hi2 w1 (hk.below hb hh) (Nat.le_trans hh hb.size) hs hnd (hK.below hb hh2) (Nat.le_trans hh2 hb.size) ha
  have C3 := fun w1 A1 c1 lo hi (hv : validT k n s f = true) (ha : allB g = true) (hk1 : KidsAt w1 lo hi (apT ns g k n s f).f A1 c1) hh => specValid_any (apT ns g k n s f).k (apT ns g k n s f).n (apT ns g k n s f).s (apT ns g k n s f).f A1 c1 lo hi w1 hk1 hh (apT_fits ha (validT_fits hv).1) (by have h1 := apT_nodes (ns := ns) ha (validT_fits hv).1; have h2 := (validT_fits hv).2.2; omega)
  have q0 : ApQ w k n s f.len A cap ((w.alloc (.cells #[.int .i64 k, .int .i64 n, .string s, .slice A f.len cap] 25)).alloc (.cells #[.int .i64 0, .int .i64 0, .string ⟨#[]⟩, .slice none 0 0] 25)) := by
    refine ⟨⟨?_, by omega, two_alloc w _ _⟩, (Blk.new w _ _).alloc _⟩
    have h := Blk.new (w.alloc (.cells #[.int .i64 k, .int .i64 n, .string s, .slice A f.len cap] 25)) 25 #[.int .i64 0, .int .i64 0, .string ⟨#[]⟩, .slice none 0 0]
    simpa using h
  have HB1 := Lib.hid (fun h => apB_bad (ns := ns) (g := g) (k := k) (n := n) (s := s) (f := f) h)
  have HB2 := Lib.hid (fun h ha => apB_good (ns := ns) (g := g) (k := k) (n := n) (s := s) (f := f) h ha)
  have HMB : Hid (vtB (apT ns g k n s f) = validT (apT ns g k n s f).k (apT ns g k n s f).n (apT ns g k n s f).s (apT ns g k n s f).f) := Lib.hid rfl
  have HMF : Hid (vtF (apT ns g k n s f) = if validT (apT ns g k n s f).k (apT ns g k n s f).n (apT ns g k n s f).s (apT ns g k n s f).f = true then apT ns g k n s f else nd0) := Lib.hid rfl
  have H1 := Lib.hid C1
  have H2 := Lib.hid C2
  have H3 := Lib.hid C3
  have HQ := Lib.hid q0
  have HK := Lib.hid hK
  have HHI := Lib.hid hh2
  have HNG := Lib.hid hng
  have hl := hK.2.1
  have hmx := hK.2.2.1
  unfold maxLen at hmx
  clear C1 C2 C3 hk hf hnd q0 hK hh2 hng
  generalize hn : g.len = len at *
  have HN := Lib.hid hn
  clear hn
  go_enter Tryd.func6, Tryd.ntmps6
  go_wp2_with fail
  generalize ((w.alloc (.cells #[.int .i64 k, .int .i64 n, .string s, .slice A f.len cap] 25)).alloc (.cells #[.int .i64 0, .int .i64 0, .string ⟨#[]⟩, .slice none 0 0] 25)) = w1 at *
  refine (H1.out _ HQ.out.1.2.2).mono ?_
  rintro e w2 ⟨rfl, hb⟩
  have q2 := HQ.out.below hb
  have HP := Lib.hid q2
  have HP2 := Lib.hid q2
  clear hb q2 H1 HQ
  cases hok : validT k n s f
  · obtain ⟨d0, d1, d2, d3⟩ := cells4i HP.out.1.1
    obtain ⟨f0, f1, f2, f3⟩ := frozen4 HP.out.1.1
    have HE := Lib.hid (HB1.out (.inl hok))
    clear hok
    go_wp2_with fail
    rw [HE.out.1, HE.out.2]
    refine bodyPost_ret (v := .tuple #[.agg #[.int .i64 0, .int .i64 0, .string ⟨#[]⟩, .slice none 0 0], .bool false]) ?_ rfl (HP.out.1.no _ _ _ _)
    exact results_cell_row2 Tryd.results6 _ _ (w.heap.size + 1) _ _ _ _ rfl (set4 HP.out.1.1 _ _ _ _) Tryd.underlying25 rfl (by kernel_rfl)
  · have HOK := Lib.hid hok
    clear hok HP
    go_wp2_with fail
    go_loopw [6] (fun i wr => ∃ (j : Nat), j ≤ len ∧ i = .int .i64 j ∧ allB (g.drop j) = allB g ∧ ApQ w k n s f.len A cap wr) (fun i _ => len - (intOf i).toNat)
    case atStart => exact ⟨0, Nat.zero_le _, rfl, rfl, HP2.out⟩
    case round =>
      obtain ⟨j, hj, rfl, hv, hp⟩ := hrel
      by_cases hlt : j < len
      · obtain ⟨kk, nn, s', kids, hd⟩ := Fr.drop_cons j g (by rw [HN.out]; exact hlt)
        obtain ⟨b, o, rfl, hlb, hbb, hrow⟩ := HK.out.2.2.2 (by rw [HN.out]; omega)
        obtain ⟨hi0, hfit, A', cap', c0, c1, c2, c3, c4, hkid⟩ := BdAt.elem j ns g b o hrow hd
        rw [hd, allB_cons] at hv
        have hlo : (⟨b, o, none⟩ : Addr).block < w.heap.size := Nat.lt_of_lt_of_le hbb HHI.out
        have hb := hp.1.2.2
        have k1 := (hb.cell (p := ⟨b, o + j * 5 + 1, none⟩) hlo).trans c1
        have k2 := (hb.cell (p := ⟨b, o + j * 5 + 2, none⟩) hlo).trans c2
        have k3 := (hb.cell (p := ⟨b, o + j * 5 + 3, none⟩) hlo).trans c3
        have k4 := (hb.cell (p := ⟨b, o + j * 5 + 4, none⟩) hlo).trans c4
        have hne := nodes_elem j g hd
        have C1 := specValid_any kk nn s' kids A' cap' lo2 hi2 wr (hkid.below hb HHI.out) (Nat.le_trans HHI.out hb.size) hfit (by have := HNG.out; omega)
        have H1 := Lib.hid C1
        have HP0 := Lib.hid hp
        clear C1 hp c0 c1 c2 c3 c4 hkid hrow hd hb hlo hne hfit
        cases ht : validT kk nn s' kids
        · have HE := Lib.hid (HB1.out (.inr (by rw [← hv, ht]; rfl)))
          rw [ht] at H1
          go_wp2_with fail
          refine H1.out.mono ?_
          rintro e w3 ⟨rfl, hb⟩
          have HP := Lib.hid (HP0.out.below hb)
          obtain ⟨d0, d1, d2, d3⟩ := cells4i HP.out.1.1
          obtain ⟨f0, f1, f2, f3⟩ := frozen4 HP.out.1.1
          clear hb k1 k2 k3 k4 HP0 ht hv
          go_wp2_with fail
          rw [HE.out.1, HE.out.2]
          refine bodyPost_ret (v := .tuple #[.agg #[.int .i64 0, .int .i64 0, .string ⟨#[]⟩, .slice none 0 0], .bool false]) ?_ rfl (HP.out.1.no _ _ _ _)
          exact results_cell_row2 Tryd.results6 _ _ (w.heap.size + 1) _ _ _ _ rfl (set4 HP.out.1.1 _ _ _ _) Tryd.underlying25 rfl (by kernel_rfl)
        · have HV : Hid (allB (g.drop (j + 1)) = allB g) := Lib.hid (by rw [← hv, ht]; rfl)
          rw [ht] at H1
          go_wp2_with fail
          refine H1.out.mono ?_
          rintro e w3 ⟨rfl, hb⟩
          have HP := Lib.hid (HP0.out.below hb)
          clear hb k1 k2 k3 k4 HP0 ht hv
          go_wp2_with fail
          go_roundw
          case rel => exact ⟨j + 1, by omega, by go_num, HV.out, HP.out⟩
          case measure => simp [intOf]; omega
      · obtain rfl : j = len := by omega
        have ha : allB g = true := by
          have h1 := Fr.drop_len g
          rw [HN.out] at h1
          rw [← hv, h1]; rfl
        have HE := Lib.hid (HB2.out HOK.out ha)
        have C2 := H2.out wr hp.1.2.2 (validT_fits HOK.out).1 ha
        have C3 := fun w1 A1 c1 lo hi => H3.out w1 A1 c1 lo hi HOK.out ha
        have HQ2 := Lib.hid hp
        obtain ⟨a0, a1, a2, a3⟩ := cells4i hp.2
        generalize apT ns g k n s f = m at *
        obtain ⟨mk, mn, ms, mf⟩ := m
        simp only at C2 C3 HMB HMF
        generalize validT mk mn ms mf = ok at *
        have H4 := Lib.hid C2
        have H5 := Lib.hid C3
        clear C2 C3 hp hv ha H2 H3 HB1 HB2 HOK
        go_wp2_with fail
        refine H4.out.mono ?_
        rintro e w3 ⟨A3, c3, rfl, hm⟩
        have hb3 := made_below hm
        have q3 := HQ2.out.below hb3
        have C6 := H5.out (w3.alloc (.cells #[.int .i64 mk, .int .i64 mn, .string ms, .slice A3 mf.len c3] 25)) A3 c3 0 w3.heap.size (by
          obtain ⟨L, ho, _, hL, _⟩ := hm
          exact (ho.kids (lo := 0) fun x hx => ⟨Nat.zero_le _, (hL x hx).2⟩).below ((Below.refl _ _).alloc (Nat.le_refl _) _) (Nat.le_refl _)) (by simp)
        have HM3 := Lib.hid hm
        have HQ3 := Lib.hid q3
        have H6 := Lib.hid C6
        have HSZ : Hid (wr.heap.size ≤ w3.heap.size) := Lib.hid hb3.size
        clear hm hb3 q3 C6 H4 H5 a0 a1 a2 a3
        go_wp2_with fail
        refine H6.out.mono ?_
        rintro e w4 ⟨rfl, hb4⟩
        have hb34 : Below w3.heap.size w3 w4 := ((Below.refl _ _).alloc (Nat.le_refl _) _).trans (hb4.mono (by simp))
        have q4 := HQ3.out.below hb34
        have o4 := (Blk.new w3 25 #[.int .i64 mk, .int .i64 mn, .string ms, .slice A3 mf.len c3]).below hb4 (by simp)
        have hm4 : Made wr mf A3 c3 w4 := by
          obtain ⟨L, h1, h2, h3, h4⟩ := HM3.out
          exact ⟨L, h1.below hb34 fun x hx => (h3 x hx).2, h2, fun x hx => ⟨(h3 x hx).1, Nat.lt_of_lt_of_le (h3 x hx).2 hb34.size⟩, h4.trans (hb34.mono HSZ.out)⟩
        obtain ⟨a0, a1, a2, a3⟩ := cells4i o4
        obtain ⟨d0, d1, d2, d3⟩ := cells4i q4.1.1
        obtain ⟨f0, f1, f2, f3⟩ := frozen4 q4.1.1
        have HP := Lib.hid q4
        have HM4 := Lib.hid hm4
        clear hb4 hb34 q4 o4 hm4 H6 HM3 HQ3
        cases ok
        · go_wp2_with fail
          rw [HE.out.1, HE.out.2, HMB.out, HMF.out]
          refine bodyPost_ret (v := .tuple #[.agg #[.int .i64 0, .int .i64 0, .string ⟨#[]⟩, .slice none 0 0], .bool false]) ?_ rfl (HP.out.1.no _ _ _ _)
          exact results_cell_row2 Tryd.results6 _ _ (w.heap.size + 1) _ _ _ _ rfl (set4 HP.out.1.1 _ _ _ _) Tryd.underlying25 rfl (by kernel_rfl)
        · have hy := HQ2.out.1.yes (k := mk) (n := mn) (s := ms) HM4.out (.int .i64 mk) (.int .i64 mn) (.string ms) (.slice A3 mf.len c3) true
          have HY := Lib.hid hy
          clear hy
          go_wp2_with fail
          rw [HE.out.1, HE.out.2, HMB.out, HMF.out]
          refine bodyPost_ret (v := .tuple #[.agg #[.int .i64 mk, .int .i64 mn, .string ms, .slice A3 mf.len c3], .bool true]) ?_ rfl HY.out
          exact results_cell_row2 Tryd.results6 _ _ (w.heap.size + 1) _ _ _ _ rfl (set4 HP.out.1.1 _ _ _ _) Tryd.underlying25 rfl (by kernel_rfl)
end Go.Proofs.YtkgihpddjppmdaaDoor

/- Matching a general term with a special one: plain mathematics, and the model's table in memory. No condition. -/
namespace Go.Proofs.YtkgihpddjppmdaaDoor
open Go.RowKit

/-- What is known about variables, the newest first. -/
abbrev St := List (Int × Nd)
def lkS (st : St) (n : Int) : Option Nd := (st.find? fun p => p.1 == n).map (·.2)
theorem lkS_same (st : St) (n : Int) (m : Nd) : lkS ((n, m) :: st) n = some m := by simp [lkS, List.find?]
theorem lkS_other (st : St) (n n' : Int) (m : Nd) (h : n' ≠ n) : lkS ((n, m) :: st) n' = lkS st n' := by
  unfold lkS
  rw [List.find?_cons, show ((n, m) : Int × Nd).1 = n from rfl, show (n == n') = false by rw [beq_eq_false_iff_ne]; exact fun e => h e.symm]
def mtV (st : St) (n : Int) (m : Nd) : Option St :=
  match lkS st n with
  | some o => if eqT o.k o.n o.s o.f m.k m.n m.s m.f = true then some st else none
  | none => some ((n, m) :: st)
def hdB (k n : Int) (s : ByteArray) (l : Nat) (k' n' : Int) (s' : ByteArray) (l' : Nat) : Bool := k == k' && (n == n' && (s.data.toList == s'.data.toList && l == l'))
def mtF : St → Fr → Fr → Option St
  | st, .cons k n s kids rest, .cons k' n' s' kids' rest' =>
    match (if k = 1 then mtV st n ⟨k', n', s', kids'⟩ else if hdB k n s kids.len k' n' s' kids'.len = true then mtF st kids kids' else none) with
    | some st' => mtF st' rest rest'
    | none => none
  | st, .nil, _ => some st
  | st, .cons _ _ _ _ _, .nil => some st
def mtT (st : St) (k n : Int) (s : ByteArray) (f : Fr) (k' n' : Int) (s' : ByteArray) (f' : Fr) : Option St :=
  if k = 1 then mtV st n ⟨k', n', s', f'⟩ else if hdB k n s f.len k' n' s' f'.len = true then mtF st f f' else none
theorem mtF_cons (st : St) (k n : Int) (s : ByteArray) (kids rest : Fr) (k' n' : Int) (s' : ByteArray) (kids' rest' : Fr) :
    mtF st (.cons k n s kids rest) (.cons k' n' s' kids' rest') = match mtT st k n s kids k' n' s' kids' with | some st' => mtF st' rest rest' | none => none := rfl
theorem mtF_nil (st : St) (g : Fr) : mtF st .nil g = some st := by cases g <;> rfl
theorem shapeT_mono {k n : Int} {s : ByteArray} {f : Fr} {d d' : Int} (hd : d ≤ d') (h : shapeT k n s f d = true) : shapeT k n s f d' = true := by
  have h1 := shapeF_mono (.cons k n s f .nil) d d' hd (by rw [shapeF_cons, h]; rfl)
  rw [shapeF_cons, Bool.and_eq_true] at h1
  exact h1.1

/-- The model's table: 26 terms in block g; those that are known read as st says. -/
def KnS (w : World) (lo hi g : Nat) (st : St) : Prop := ∃ cs, Blk w g 25 cs ∧ cs.size = 104 ∧ ∀ i : Nat, i < 26 →
  (lkS st (i : Int) = none → cs[i * 4]? = some (.int .i64 0)) ∧
  ∀ m, lkS st (i : Int) = some m → m.k ≠ 0 ∧ (-9223372036854775808 ≤ m.k ∧ m.k ≤ 9223372036854775807) ∧ ∃ (A : Option Addr) (c : Nat), cs[i * 4]? = some (.int .i64 m.k) ∧ cs[i * 4 + 1]? = some (.int .i64 m.n) ∧ cs[i * 4 + 2]? = some (.string m.s) ∧ cs[i * 4 + 3]? = some (.slice A m.f.len c) ∧ KidsAt w lo hi m.f A c
theorem KnS.wrote {w w' : World} {lo hi g : Nat} {st : St} {L : List Nat} (h : KnS w lo hi g st) (hb : Wrote L w w') (hg : g ∉ L) (hh : hi ≤ w.heap.size) (hL : ∀ x ∈ L, hi ≤ x) : KnS w' lo hi g st := by
  obtain ⟨cs, h1, h2, h3⟩ := h
  refine ⟨cs, hb.blk h1 hg, h2, fun i hi' => ⟨(h3 i hi').1, fun m hm => ?_⟩⟩
  obtain ⟨a, b, A, c, c0, c1, c2, c3, hk⟩ := (h3 i hi').2 m hm
  exact ⟨a, b, A, c, c0, c1, c2, c3, hk.keep fun p _ hp => hb.cell (by omega) fun e => by have := hL _ e; omega⟩
theorem KnS.below {w w' : World} {lo hi g : Nat} {st : St} (h : KnS w lo hi g st) (hb : Below w.heap.size w w') (hh : hi ≤ w.heap.size) : KnS w' lo hi g st :=
  h.wrote (.of_below hb []) (by simp) hh (by simp)
theorem KnS.lt {w : World} {lo hi g : Nat} {st : St} (h : KnS w lo hi g st) : g < w.heap.size := by
  obtain ⟨cs, h1, _⟩ := h
  exact h1.lt
/-- A term is put at the variable i. -/
theorem KnS.put {w : World} {lo hi g i : Nat} {st : St} {k n : Int} {s : ByteArray} {f : Fr} {A : Option Addr} {c : Nat} (h : KnS w lo hi g st) (hi' : i < 26) (hg : hi ≤ g) (hk0 : k ≠ 0) (hkr : -9223372036854775808 ≤ k ∧ k ≤ 9223372036854775807) (hk : KidsAt w lo hi f A c) :
    KnS ((((w.setCell ⟨g, i * 4, none⟩ (.int .i64 k)).setCell ⟨g, i * 4 + 1, none⟩ (.int .i64 n)).setCell ⟨g, i * 4 + 2, none⟩ (.string s)).setCell ⟨g, i * 4 + 3, none⟩ (.slice A f.len c)) lo hi g (((i : Int), ⟨k, n, s, f⟩) :: st) := by
  obtain ⟨cs, h1, h2, h3⟩ := h
  have q := (((h1.set_ (i * 4) (.int .i64 k)).set_ (i * 4 + 1) (.int .i64 n)).set_ (i * 4 + 2) (.string s)).set_ (i * 4 + 3) (.slice A f.len c)
  have far : ∀ p : Addr, p.block < hi → ((((w.setCell ⟨g, i * 4, none⟩ (.int .i64 k)).setCell ⟨g, i * 4 + 1, none⟩ (.int .i64 n)).setCell ⟨g, i * 4 + 2, none⟩ (.string s)).setCell ⟨g, i * 4 + 3, none⟩ (.slice A f.len c)).cell? p = w.cell? p := fun p hp => World.cell?_of_block (by
    rw [heap_setCell_other _ _ _ _ (show p.block ≠ g by omega), heap_setCell_other _ _ _ _ (show p.block ≠ g by omega), heap_setCell_other _ _ _ _ (show p.block ≠ g by omega), heap_setCell_other _ _ _ _ (show p.block ≠ g by omega)])
  refine ⟨_, q, by simpa using h2, fun j hj => ?_⟩
  by_cases e : j = i
  · subst e
    rw [lkS_same]
    refine ⟨fun h => (by cases h), fun m hm => ?_⟩
    injection hm with hm
    subst hm
    refine ⟨hk0, hkr, A, c, ?_, ?_, ?_, ?_, hk.keep fun p _ hp => far p hp⟩
    · simp only [Array.getElem?_setIfInBounds, Array.size_setIfInBounds]
      rw [if_neg (by omega), if_neg (by omega), if_neg (by omega), if_pos trivial, if_pos (by omega)]
    · simp only [Array.getElem?_setIfInBounds, Array.size_setIfInBounds]
      rw [if_neg (by omega), if_neg (by omega), if_pos trivial, if_pos (by omega)]
    · simp only [Array.getElem?_setIfInBounds, Array.size_setIfInBounds]
      rw [if_neg (by omega), if_pos trivial, if_pos (by omega)]
    · simp only [Array.getElem?_setIfInBounds, Array.size_setIfInBounds]
      rw [if_pos trivial, if_pos (by omega)]
  · rw [lkS_other _ _ _ _ (by omega)]
    have hc : ∀ x, x < 4 → ((((cs.setIfInBounds (i * 4) (.int .i64 k)).setIfInBounds (i * 4 + 1) (.int .i64 n)).setIfInBounds (i * 4 + 2) (.string s)).setIfInBounds (i * 4 + 3) (.slice A f.len c))[j * 4 + x]? = cs[j * 4 + x]? := fun x hx => by
      simp only [Array.getElem?_setIfInBounds, Array.size_setIfInBounds]
      rw [if_neg (by omega), if_neg (by omega), if_neg (by omega), if_neg (by omega)]
    have h0 := hc 0 (by omega)
    rw [Nat.add_zero] at h0
    refine ⟨fun h => h0.trans ((h3 j hj).1 h), fun m hm => ?_⟩
    obtain ⟨a, b, A', c', c0, c1, c2, c3, hk'⟩ := (h3 j hj).2 m hm
    exact ⟨a, b, A', c', h0.trans c0, (hc 1 (by omega)).trans c1, (hc 2 (by omega)).trans c2, (hc 3 (by omega)).trans c3, hk'.keep fun p _ hp => far p hp⟩
end Go.Proofs.YtkgihpddjppmdaaDoor

/- spec.TermSame. Condition: the terms lie in memory. -/
namespace Go.Proofs.YtkgihpddjppmdaaDoor
open Go.RowKit

end Go.Proofs.YtkgihpddjppmdaaDoor

/- What every law's walk shares. No condition. -/
namespace Go.Proofs.YtkgihpddjppmdaaDoor
open Go.RowKit

theorem nodes_le_wt (f : Fr) : nodes f ≤ f.len + wt f := by
  induction f with
  | nil => exact Nat.le_refl _
  | cons k n s kids rest h1 h2 => simp only [nodes, Fr.len, wt]; omega
theorem kids_of_made {w w' : World} {f : Fr} {A : Option Addr} {cap : Nat} (h : Made w f A cap w') : KidsAt w' w.heap.size w'.heap.size f A cap ∧ Below w.heap.size w w' := by
  obtain ⟨L, ho, _, hL, hb⟩ := h
  exact ⟨ho.kids hL, hb⟩

end Go.Proofs.YtkgihpddjppmdaaDoor

/- spec.l3Match. Condition: the terms and the table lie in memory; the terms are well-formed. -/
namespace Go.Proofs.YtkgihpddjppmdaaDoor
open Go.RowKit

/-- What l3Match leaves. -/
def MsRes (w : World) (lo hi g : Nat) (r : Option St) (e : Ending) (w' : World) : Prop :=
  Wrote [g] w w' ∧ ((∃ st', r = some st' ∧ e = .returned (.bool true) ∧ KnS w' lo hi g st') ∨ (r = none ∧ e = .returned (.bool false)))
theorem shapeT_fits {k n : Int} {s : ByteArray} {f : Fr} {d : Int} (h : shapeT k n s f d = true) : Fits k n s ∧ (-999 ≤ n ∧ n ≤ 999) := by
  have hk := shapeT_kind h
  by_cases h3 : k = 3
  · subst h3
    obtain ⟨rfl, hnm, _, _⟩ := shapeT_struct h
    exact ⟨⟨by omega, by omega, by have := nameB_size hnm; unfold maxLen; omega⟩, by omega⟩
  · obtain ⟨rfl, _, hn⟩ := shapeT_leaf h h3
    exact ⟨⟨by omega, by omega, by unfold maxLen; simp [ByteArray.size]⟩, hn⟩
theorem MsRes.no {w w' : World} {lo hi g : Nat} {r : Option St} (hw : Wrote [g] w w') (hr : r = none) : MsRes w lo hi g r (.returned (.bool false)) w' := ⟨hw, .inr ⟨hr, rfl⟩⟩
theorem two_boxes (w : World) (a b : Array Value) : Below w.heap.size w ((w.alloc (.cells a 25)).alloc (.cells b 25)) ∧ Blk ((w.alloc (.cells a 25)).alloc (.cells b 25)) w.heap.size 25 a ∧ Blk ((w.alloc (.cells a 25)).alloc (.cells b 25)) (w.heap.size + 1) 25 b := by
  refine ⟨two_alloc w _ _, (Blk.new w _ _).alloc _, ?_⟩
  have h := Blk.new (w.alloc (.cells a 25)) 25 b
  simpa using h

end Go.Proofs.YtkgihpddjppmdaaDoor

/- impl.splitList: the elements with which a node begins as a list, and what follows. Condition: the node lies in memory. -/
namespace Go.Proofs.YtkgihpddjppmdaaDoor
open Go.RowKit

/-- The values xs are the nodes of the row f. -/
def NDesc (w : World) (lo hi : Nat) : Fr → List Value → Prop
  | .nil, xs => xs = []
  | .cons k n s kids rest, xs => ∃ x ys, xs = x :: ys ∧ NdV w lo hi k n s kids x ∧ NDesc w lo hi rest ys
section
variable {w w' : World} {lo hi : Nat}
theorem NDesc.len (f : Fr) : ∀ xs, NDesc w lo hi f xs → xs.length = f.len := by
  induction f with
  | nil => rintro xs rfl; rfl
  | cons k n s kids rest _ ih =>
    rintro xs ⟨x, ys, rfl, _, h⟩
    simp only [List.length_cons, Fr.len, ih ys h]
theorem NDesc.snoc (f : Fr) {k n : Int} {s : ByteArray} {kids : Fr} {x : Value} (hx : NdV w lo hi k n s kids x) : ∀ xs, NDesc w lo hi f xs → NDesc w lo hi (f.app (.cons k n s kids .nil)) (xs ++ [x]) := by
  induction f with
  | nil => rintro xs rfl; exact ⟨x, [], rfl, hx, rfl⟩
  | cons k' n' s' kids' rest _ ih =>
    rintro xs ⟨y, ys, rfl, hy, h⟩
    exact ⟨y, _, rfl, hy, ih ys h⟩
theorem NDesc.row {lo' hi' g : Nat} (hk : ∀ p : Addr, lo ≤ p.block → p.block < hi → w'.cell? p = w.cell? p) (hL : lo' ≤ lo) (hH : hi ≤ hi') (f : Fr) : ∀ xs o, NDesc w lo hi f xs → (∀ j u, xs[j]? = some u → w'.cell? ⟨g, o + j, none⟩ = some u) → NdRow w' lo' hi' f g o := by
  induction f with
  | nil => intro xs o _ _; trivial
  | cons k n s kids rest _ ih =>
    rintro xs o ⟨x, ys, rfl, hx, h⟩ hc
    refine ⟨⟨x, hc 0 x rfl, ?_⟩, ih ys (o + 1) h fun j u hu => ?_⟩
    · rcases hx.keep hk hL hH with h | h | ⟨h1, A, cap, h2, h3⟩
      · exact .inl h
      · exact .inr (.inl h)
      · exact .inr (.inr ⟨h1, A, cap, h2, h3.1, h3.2.1, h3.2.2⟩)
    · have := hc (j + 1) u (by simpa using hu)
      rwa [show o + (j + 1) = o + 1 + j by omega] at this
end

/-- What splitList answers. -/
def SplitRes (w : World) (F T : Fr) (e : Ending) (w' : World) : Prop :=
  Below w.heap.size w w' ∧ ∃ A cap v', e = .returned (.tuple #[.slice A F.len cap, v']) ∧ NdS w' 0 w'.heap.size F A cap ∧ ∃ k n s f, T = .cons k n s f .nil ∧ NdV w' 0 w'.heap.size k n s f v'
/-- The loop's relation. -/
def SpP (w : World) (lo hi : Nat) (F T : Fr) (k n : Int) (s : ByteArray) (f : Fr) (x : Value) (acc : Fr) (v : Value) (wr : World) : Prop :=
  NdV w lo hi k n s f x ∧ (∃ xs, wr.ownsRow w.heap.size 44 1 v acc.len xs ∧ NDesc w lo hi acc xs) ∧ acc.app (fronts k s f) = F ∧ tails k n s f = T ∧ Below w.heap.size w wr
/-- What splitList answers, by the blocks: the row is new, the nodes are the old ones. -/
def SplitR2 (w : World) (lo hi : Nat) (F T : Fr) (e : Ending) (w' : World) : Prop :=
  Below w.heap.size w w' ∧ ∃ v v', e = .returned (.tuple #[v, v']) ∧ (∃ xs, w'.ownsRow w.heap.size 44 1 v F.len xs ∧ NDesc w lo hi F xs) ∧ ∃ k n s f, T = .cons k n s f .nil ∧ NdV w lo hi k n s f v'
theorem SpP.fin {w wr : World} {lo hi : Nat} {F T : Fr} {k n : Int} {s : ByteArray} {f : Fr} {x : Value} {acc : Fr} {v : Value} (h : SpP w lo hi F T k n s f x acc v wr) (hp : pairB k s f.len = false) (o : Obj) :
    SplitR2 w lo hi F T (.returned (.tuple #[v, x])) (wr.alloc o) := by
  obtain ⟨hx, ⟨xs, ho, hD⟩, hF, hT, hb⟩ := h
  rw [(pair_no n hp).1, app_nil] at hF
  rw [(pair_no n hp).2] at hT
  subst hF hT
  exact ⟨hb.alloc hb.size o, v, x, rfl, ⟨xs, ho.alloc o, hD⟩, k, n, s, f, rfl, hx⟩
theorem SplitR2.res {w w' : World} {lo hi : Nat} {F T : Fr} {e : Ending} (h : SplitR2 w lo hi F T e w') (hh : hi ≤ w.heap.size) : SplitRes w F T e w' := by
  obtain ⟨hb2, v, x, rfl, ⟨xs, ho2, hD⟩, k, n, s, f, rfl, hx⟩ := h
  have hk : ∀ p : Addr, lo ≤ p.block → p.block < hi → w'.cell? p = w.cell? p := fun p _ hp => hb2.cell (by omega)
  refine ⟨hb2, ?_⟩
  rcases ho2.2 with ⟨rfl, h0⟩ | ⟨g, cap, cur, rfl, hbg, hg, hnc, hcm, hcs, htake⟩
  · have hnil : F = .nil := by
      cases F with
      | nil => rfl
      | cons _ _ _ _ _ => simp [Fr.len] at h0
    subst hnil
    exact ⟨none, 0, x, rfl, ⟨Nat.le_refl _, Nat.zero_le _, fun h => absurd h (Nat.lt_irrefl 0)⟩, k, n, s, f, rfl, hx.keep hk (Nat.zero_le _) (Nat.le_trans hh hb2.size)⟩
  · refine ⟨_, cap, x, rfl, ⟨hnc, hcm, fun _ => ⟨g, rfl, Nat.zero_le _, Blk.lt hg, ?_⟩⟩, k, n, s, f, rfl, hx.keep hk (Nat.zero_le _) (Nat.le_trans hh hb2.size)⟩
    refine NDesc.row hk (Nat.zero_le _) (Nat.le_trans hh hb2.size) F xs 0 hD fun j u hu => ?_
    have h3 := (World.ownsRow.cells ho2 (g := g) rfl) j u hu
    have e : (⟨g, 0, none⟩ : Addr).add j = ⟨g, 0 + j, none⟩ := by unfold Addr.add; split <;> simp_all
    rwa [e] at h3

end Go.Proofs.YtkgihpddjppmdaaDoor

/- impl.ListOf. Condition: the term lies in memory, the table of signs in its variable. -/
namespace Go.Proofs.YtkgihpddjppmdaaDoor
open Go.RowKit

theorem shape_fronts (k n : Int) (s : ByteArray) (f : Fr) (d : Int) (h : shapeT k n s f d = true) : shapeF (fronts k s f) d = true := by
  have all : ∀ N : Nat, ∀ f : Fr, f.size ≤ N → ∀ k n s d, shapeT k n s f d = true → shapeF (fronts k s f) d = true := by
    intro N
    induction N with
    | zero =>
      intro f hf k n s d _
      cases f with
      | nil => rfl
      | cons _ _ _ _ _ => simp [Fr.size] at hf
    | succ N ih =>
      intro f hf k n s d h
      cases hp : pairB k s f.len
      · rw [(pair_no 0 hp).1]; rfl
      · obtain ⟨k1, n1, s1, kd1, k2, n2, s2, kd2, rfl, hfr, _⟩ := pair_yes 0 hp
        rw [hfr, shapeF_cons]
        simp only [Fr.size] at hf
        have h1 := shapeT_kids h
        rw [shapeF_cons, shapeF_cons, Bool.and_eq_true, Bool.and_eq_true] at h1
        have h2 := ih kd2 (by omega) k2 n2 s2 (d - 1) h1.2.1
        rw [Bool.and_eq_true]
        refine ⟨?_, shapeF_mono _ (d - 1) d (by omega) h2⟩
        have h3 : shapeF (.cons k1 n1 s1 kd1 .nil) (d - 1) = true := by rw [shapeF_cons, h1.1]; rfl
        have h4 := shapeF_mono _ (d - 1) d (by omega) h3
        rw [shapeF_cons, Bool.and_eq_true] at h4
        exact h4.1
  exact all f.size f (Nat.le_refl _) k n s d h
theorem validT_shape {k n : Int} {s : ByteArray} {f : Fr} (h : validT k n s f = true) : shapeT k n s f 30 = true := by
  unfold validT at h
  rw [Bool.and_eq_true] at h
  exact h.1


end Go.Proofs.YtkgihpddjppmdaaDoor

/- spec.InstanceOf. Condition: the terms lie in memory. -/
namespace Go.Proofs.YtkgihpddjppmdaaDoor
open Go.RowKit

/-- What both InstanceOf answer. -/
def inB (k n : Int) (s : ByteArray) (f : Fr) (k' n' : Int) (s' : ByteArray) (g : Fr) : Bool := validT k n s f && (validT k' n' s' g && (mtT [] k' n' s' g k n s f).isSome)
/-- Both boxes lie there. -/
def VB (w : World) (a b : Array Value) (wk : World) : Prop := Below w.heap.size w wk ∧ Blk wk w.heap.size 25 a ∧ Blk wk (w.heap.size + 1) 25 b
theorem VB.next {w wk wl : World} {a b : Array Value} (h : VB w a b wk) (hb : Below wk.heap.size wk wl) : VB w a b wl := ⟨h.1.trans (hb.mono h.1.size), h.2.1.below hb h.2.1.lt, h.2.2.below hb h.2.2.lt⟩
theorem VB.drew {w wk : World} {a b : Array Value} (h : VB w a b wk) : VB w a b wk.drew := h.next (Below.refl _ _).drew
theorem VB.cells {w wk : World} {x0 x1 x2 x3 y0 y1 y2 y3 : Value} (h : VB w #[x0, x1, x2, x3] #[y0, y1, y2, y3] wk) : wk.cell? ⟨w.heap.size, 0, none⟩ = some x0 ∧ wk.cell? ⟨w.heap.size, 1, none⟩ = some x1 ∧ wk.cell? ⟨w.heap.size, 2, none⟩ = some x2 ∧ wk.cell? ⟨w.heap.size, 3, none⟩ = some x3 ∧
    wk.cell? ⟨w.heap.size + 1, 0, none⟩ = some y0 ∧ wk.cell? ⟨w.heap.size + 1, 1, none⟩ = some y1 ∧ wk.cell? ⟨w.heap.size + 1, 2, none⟩ = some y2 ∧ wk.cell? ⟨w.heap.size + 1, 3, none⟩ = some y3 := by
  obtain ⟨a0, a1, a2, a3⟩ := cells4i h.2.1
  obtain ⟨b0, b1, b2, b3⟩ := cells4i h.2.2
  exact ⟨a0, a1, a2, a3, b0, b1, b2, b3⟩

/-- The empty table. -/
def kn0 : Array Value := madeCells #[.int .i64 0, .int .i64 0, .string ⟨#[]⟩, .slice none 0 0] 104
theorem run_kn0 (w : World) : (Instr.makeSlice 23 (.int .i64 26) (.int .i64 26)).run Tryd.prog w = .ok (.slice (some ⟨w.heap.size, 0, none⟩) 26 26) (w.alloc (.cells kn0 25)) := by
  obtain ⟨i0, hi0, hz0, hz1, hz2⟩ := info_parts infoT
  have hr := run_make (P := Tryd.prog) w 23 25 i0 _ Tryd.underlying23 hi0 hz0 .i64 .i64 26 26 (by omega) (by omega) (by rw [hz2]; omega) (by omega)
  rw [hz1] at hr
  exact hr
theorem kn0_lies {w1 : World} {g : Nat} (hq : Blk w1 g 25 kn0) (lo hi : Nat) : KnS w1 lo hi g [] := by
  refine ⟨kn0, hq, by simp [kn0, madeCells], fun i hi' => ⟨fun _ => ?_, fun m hm => by cases hm⟩⟩
  have e : (i * 4) % 4 = 0 := by omega
  have e2 : i * 4 < 104 := by omega
  simp [kn0, madeCells, e, e2]

theorem MsRes.one {w w' : World} {lo hi g : Nat} {r : Option St} {e : Ending} (h : MsRes w lo hi g r e w') : e = .returned (.bool r.isSome) ∧ Wrote [g] w w' := by
  refine ⟨?_, h.1⟩
  rcases h.2 with ⟨st', rfl, rfl, _⟩ | ⟨rfl, rfl⟩
  · rfl
  · rfl

end Go.Proofs.YtkgihpddjppmdaaDoor

/- Replacements: plain facts for the law. No condition. -/
namespace Go.Proofs.YtkgihpddjppmdaaDoor
open Go.RowKit

theorem abT_var (ns : List Int) (g : Fr) (n : Int) (s : ByteArray) (f : Fr) : apT ns g 1 n s f = apO ns g () n := by unfold apT rpT; rw [if_pos rfl]
theorem apT_else (ns : List Int) (g : Fr) {k : Int} (n : Int) (s : ByteArray) (f : Fr) (h : k ≠ 1) : apT ns g k n s f = ⟨k, n, s, apF ns g f⟩ := by unfold apT rpT; rw [if_neg h]; rfl
/-- Replacements that replace nothing. -/
theorem ap_id (ns : List Int) (g : Fr) (hno : ∀ n, fdB ns g n = none) : ∀ (f : Fr) (d : Int), shapeF f d = true → apF ns g f = f
  | .nil, _, _ => rfl
  | .cons k n s kids rest, d, h => by
    rw [shapeF_cons, Bool.and_eq_true] at h
    rw [apF_cons, ap_id ns g hno rest d h.2]
    by_cases hk : k = 1
    · subst hk
      obtain ⟨rfl, rfl, _⟩ := shapeT_var h.1
      rw [abT_var]
      unfold apO
      rw [hno]
      rfl
    · rw [apT_else ns g n s kids hk, ap_id ns g hno kids (d - 1) (shapeT_kids h.1)]
theorem apT_id (ns : List Int) (g : Fr) (hno : ∀ n, fdB ns g n = none) {k n : Int} {s : ByteArray} {f : Fr} {d : Int} (h : shapeT k n s f d = true) : apT ns g k n s f = ⟨k, n, s, f⟩ := by
  have h1 := ap_id ns g hno (.cons k n s f .nil) d (by rw [shapeF_cons, h]; rfl)
  rw [apF_cons] at h1
  injection h1 with h2 h3 h4 h5 _
  generalize apT ns g k n s f = m at *
  obtain ⟨a, b, c, e⟩ := m
  subst h2 h3 h4 h5
  rfl
theorem ab_varsF : ∀ (f : Fr) (acc : List Int), ∃ t, varsF acc f = acc ++ t
  | .nil, acc => ⟨[], by rw [List.append_nil]; rfl⟩
  | .cons k n s kids rest, acc => by
    show ∃ t, varsF (if k = 1 then addV acc n else varsF acc kids) rest = acc ++ t
    have h1 : ∃ t, (if k = 1 then addV acc n else varsF acc kids) = acc ++ t := by
      by_cases hk : k = 1
      · rw [if_pos hk]
        unfold addV
        split
        · exact ⟨[], by simp⟩
        · exact ⟨[n], rfl⟩
      · rw [if_neg hk]; exact ab_varsF kids acc
    obtain ⟨t, ht⟩ := h1
    obtain ⟨u, hu⟩ := ab_varsF rest (acc ++ t)
    exact ⟨t ++ u, by rw [ht, hu, List.append_assoc]⟩
/-- Terms without variables. -/
theorem ap_nv (ns : List Int) (g : Fr) : ∀ f : Fr, varsF [] f = [] → apF ns g f = f
  | .nil, _ => rfl
  | .cons k n s kids rest, h => by
    have h1 : varsF (if k = 1 then addV [] n else varsF [] kids) rest = [] := h
    obtain ⟨t, ht⟩ := ab_varsF rest (if k = 1 then addV [] n else varsF [] kids)
    rw [h1] at ht
    have h2 : (if k = 1 then addV [] n else varsF [] kids) = [] := (List.append_eq_nil_iff.1 ht.symm).1
    by_cases hk : k = 1
    · rw [if_pos hk] at h2
      simp [addV] at h2
    · rw [if_neg hk] at h2
      rw [if_neg hk, h2] at h1
      rw [apF_cons, apT_else ns g n s kids hk, ap_nv ns g kids h2, ap_nv ns g rest h1]
theorem apT_nv (ns : List Int) (g : Fr) {k n : Int} {s : ByteArray} {f : Fr} (h : varsT [] k n f = []) : apT ns g k n s f = ⟨k, n, s, f⟩ := by
  unfold varsT at h
  by_cases hk : k = 1
  · rw [if_pos hk] at h
    simp [addV] at h
  · rw [if_neg hk] at h
    rw [apT_else ns g n s f hk, ap_nv ns g f h]
/-- A term after a replacement is an instance of it. -/
def OkSt (ns : List Int) (g : Fr) (st : St) : Prop := ∀ n m, lkS st n = some m → m = apO ns g () n
theorem mtV_ap (ns : List Int) (g : Fr) (st : St) (n : Int) (h : OkSt ns g st) : ∃ st', mtV st n (apO ns g () n) = some st' ∧ OkSt ns g st' := by
  unfold mtV
  cases hl : lkS st n with
  | none =>
    refine ⟨_, rfl, fun n' m hm => ?_⟩
    by_cases e : n' = n
    · subst e
      rw [lkS_same] at hm
      injection hm with hm
      exact hm.symm
    · rw [lkS_other _ _ _ _ e] at hm
      exact h n' m hm
  | some o =>
    have e := h n o hl
    subst e
    show ∃ st', (if eqT _ _ _ _ _ _ _ _ = true then some st else none) = some st' ∧ _
    rw [eqT_refl, if_pos rfl]
    exact ⟨st, rfl, h⟩
theorem mtF_ap (ns : List Int) (g : Fr) : ∀ (f : Fr) (st : St), OkSt ns g st → ∃ st', mtF st f (apF ns g f) = some st' ∧ OkSt ns g st'
  | .nil, st, h => ⟨st, mtF_nil _ _, h⟩
  | .cons k n s kids rest, st, h => by
    rw [apF_cons, mtF_cons]
    have h1 : ∃ st', mtT st k n s kids (apT ns g k n s kids).k (apT ns g k n s kids).n (apT ns g k n s kids).s (apT ns g k n s kids).f = some st' ∧ OkSt ns g st' := by
      unfold mtT
      by_cases hk : k = 1
      · subst hk
        rw [if_pos rfl, abT_var]
        exact mtV_ap ns g st n h
      · rw [if_neg hk, apT_else ns g n s kids hk]
        rw [if_pos (by simp [hdB, apF_len])]
        exact mtF_ap ns g kids st h
    obtain ⟨st', e, h2⟩ := h1
    rw [e]
    exact mtF_ap ns g rest st' h2
theorem ins_ap {ns : List Int} {g : Fr} {k n : Int} {s : ByteArray} {f : Fr} (h : apB ns g k n s f = true) : inB (apR ns g k n s f).k (apR ns g k n s f).n (apR ns g k n s f).s (apR ns g k n s f).f k n s f = true := by
  have e : apR ns g k n s f = apT ns g k n s f := by unfold apR; rw [if_pos h]
  rw [e]
  unfold apB vtB at h
  simp only [Bool.and_eq_true] at h
  unfold inB
  rw [h.2.2, h.1]
  have h1 : ∃ st', mtT [] k n s f (apT ns g k n s f).k (apT ns g k n s f).n (apT ns g k n s f).s (apT ns g k n s f).f = some st' := by
    unfold mtT
    by_cases hk : k = 1
    · subst hk
      rw [if_pos rfl, abT_var]
      obtain ⟨st', h1, _⟩ := mtV_ap ns g [] n (fun n m h => by simp [lkS] at h)
      exact ⟨st', h1⟩
    · rw [if_neg hk, apT_else ns g n s f hk, if_pos (by simp [hdB, apF_len])]
      obtain ⟨st', h1, _⟩ := mtF_ap ns g f [] (fun n m h => by simp [lkS] at h)
      exact ⟨st', h1⟩
  obtain ⟨st', h1⟩ := h1
  rw [h1]
  rfl
theorem apR_none {k n : Int} {s : ByteArray} {f : Fr} (h : validT k n s f = true) : apB [] .nil k n s f = true ∧ apR [] .nil k n s f = ⟨k, n, s, f⟩ := by
  have hs : shapeT k n s f 30 = true := by unfold validT at h; rw [Bool.and_eq_true] at h; exact h.1
  have e := apT_id [] .nil (fun n => rfl) hs
  have hb : apB [] .nil k n s f = true := by
    unfold apB vtB
    rw [e, h]
    simp [allB]
  exact ⟨hb, by unfold apR; rw [if_pos hb, e]⟩
theorem apR_nv {ns : List Int} {g : Fr} {k n : Int} {s : ByteArray} {f : Fr} (h : apB ns g k n s f = true) (hv : varsB k n s f = []) : apR ns g k n s f = ⟨k, n, s, f⟩ := by
  have h1 := h
  unfold apB at h1
  simp only [Bool.and_eq_true] at h1
  unfold varsB at hv
  rw [if_pos h1.1] at hv
  unfold apR
  rw [if_pos h, apT_nv ns g hv]
end Go.Proofs.YtkgihpddjppmdaaDoor
