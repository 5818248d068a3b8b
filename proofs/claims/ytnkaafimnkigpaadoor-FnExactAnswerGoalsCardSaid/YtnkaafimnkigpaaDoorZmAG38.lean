/- spec.ApplyBinds. Condition: term and bindings lie in memory. -/
import Derived.Test.YtnkaafimnkigpaaDoorProg
import Derived.Test.YtnkaafimnkigpaaDoorApT
import Derived.Test.YtnkaafimnkigpaaDoorSpecC
import Derived.Test.YtnkaafimnkigpaaDoorTb
import Derived.Test.YtnkaafimnkigpaaDoorOpA
import Derived.Test.YtnkaafimnkigpaaDoorNvWalks
namespace Go.Proofs.YtnkaafimnkigpaaDoor
open Go.RowKit

/-- What both ApplyBinds answer. -/
def apB (ns : List Int) (g : Fr) (k n : Int) (s : ByteArray) (f : Fr) : Bool := validT k n s f && (allB g && vtB (apT ns g k n s f))
def apR (ns : List Int) (g : Fr) (k n : Int) (s : ByteArray) (f : Fr) : Nd := if apB ns g k n s f = true then apT ns g k n s f else nd0
theorem apB_bad {ns : List Int} {g : Fr} {k n : Int} {s : ByteArray} {f : Fr} (h : validT k n s f = false ∨ allB g = false) : apB ns g k n s f = false ∧ apR ns g k n s f = nd0 := by
  have e : apB ns g k n s f = false := by
    unfold apB
    rcases h with h | h
    · rw [h]; rfl
    · rw [h]; simp
  exact ⟨e, by unfold apR; rw [e]; rfl⟩
theorem apB_good {ns : List Int} {g : Fr} {k n : Int} {s : ByteArray} {f : Fr} (h : validT k n s f = true) (ha : allB g = true) : apB ns g k n s f = vtB (apT ns g k n s f) ∧ apR ns g k n s f = vtF (apT ns g k n s f) := by
  have e : apB ns g k n s f = vtB (apT ns g k n s f) := by
    unfold apB
    rw [h, ha]; rfl
  exact ⟨e, by unfold apR vtF; rw [e]⟩
theorem allB_cons (k n : Int) (s : ByteArray) (kids rest : Fr) : allB (.cons k n s kids rest) = (validT k n s kids && allB rest) := rfl
theorem apF_nodes {ns : List Int} {g : Fr} (ha : allB g = true) (f : Fr) : ∀ d, shapeF f d = true → nodes (apF ns g f) ≤ 120 * nodes f := by
  induction f with
  | nil => intro d _; exact Nat.le_refl _
  | cons k n s kids rest ihk ihr =>
    intro d h
    rw [shapeF_cons, Bool.and_eq_true] at h
    have h2 := ihr d h.2
    rw [apF_cons]
    by_cases hk : k = 1
    · subst hk
      have h3 := (validT_fits (apO_good (ns := ns) ha h.1)).2.2
      have e : apT ns g 1 n s kids = apO ns g () n := by unfold apT rpT; rw [if_pos rfl]
      rw [e]
      simp only [nodes]
      omega
    · rw [apT_other hk]
      have h3 := ihk (d - 1) (shapeT_kids h.1)
      simp only [nodes]
      omega
theorem apT_nodes {ns : List Int} {g : Fr} (ha : allB g = true) {k n d : Int} {s : ByteArray} {f : Fr} (h : shapeT k n s f d = true) : nodes (apT ns g k n s f).f ≤ 120 * (1 + nodes f) := by
  by_cases hk : k = 1
  · subst hk
    have h3 := (validT_fits (apO_good (ns := ns) ha h)).2.2
    have e : apT ns g 1 n s f = apO ns g () n := by unfold apT rpT; rw [if_pos rfl]
    rw [e]
    omega
  · rw [apT_other hk]
    have h3 := apF_nodes (ns := ns) ha f (d - 1) (shapeT_kids h)
    show nodes (apF ns g f) ≤ _
    omega

/-- The boxes of the argument and of the result. -/
def ApQ (w : World) (k n : Int) (s : ByteArray) (len : Nat) (A : Option Addr) (cap : Nat) (wr : World) : Prop := RC w (w.heap.size + 1) wr ∧ Blk wr w.heap.size 31 #[.int .i64 k, .int .i64 n, .string s, .slice A len cap]
theorem ApQ.below {w wr w' : World} {k n : Int} {s : ByteArray} {len : Nat} {A : Option Addr} {cap : Nat} (h : ApQ w k n s len A cap wr) (hb : Below wr.heap.size wr w') : ApQ w k n s len A cap w' := ⟨h.1.below hb, h.2.below hb h.2.lt⟩

set_option maxRecDepth 100000 in
set_option maxHeartbeats 8000000 in
/-- spec.ApplyBinds. -/
theorem specAp_any (k n : Int) (s : ByteArray) (f : Fr) (A : Option Addr) (cap lo hi : Nat) (ns : List Int) (g : Fr) (B : Option Addr) (capB lo2 hi2 : Nat) (w : World) (hk : KidsAt w lo hi f A cap) (hh : hi ≤ w.heap.size) (hf : Fits k n s) (hnd : nodes f ≤ 1048576) (hK : BdS w lo2 hi2 ns g B capB) (hh2 : hi2 ≤ w.heap.size) (hng : nodes g ≤ 1048576) :
    Calls Tryd.prog 43 #[.agg #[.int .i64 k, .int .i64 n, .string s, .slice A f.len cap], .slice B g.len capB] w fun e w' => TbRes w (apR ns g k n s f) (apB ns g k n s f) e w' := by
  have C1 := fun w1 (hb : Below w.heap.size w w1) => specValid_any k n s f A cap lo hi w1 (hk.below hb hh) (Nat.le_trans hh hb.size) hf hnd
  have C2 := fun w1 (hb : Below w.heap.size w w1) (hs : shapeT k n s f 30 = true) (ha : allB g = true) => apS_any s f k n 30 A cap lo hi ns g B capB lo2 hi2 w1 (hk.below hb hh) (Nat.le_trans hh hb.size) hs hnd (hK.below hb hh2) (Nat.le_trans hh2 hb.size) ha
  have C3 := fun w1 A1 c1 lo hi (hv : validT k n s f = true) (ha : allB g = true) (hk1 : KidsAt w1 lo hi (apT ns g k n s f).f A1 c1) hh => specValid_any (apT ns g k n s f).k (apT ns g k n s f).n (apT ns g k n s f).s (apT ns g k n s f).f A1 c1 lo hi w1 hk1 hh (apT_fits ha (validT_fits hv).1) (by have h1 := apT_nodes (ns := ns) ha (validT_fits hv).1; have h2 := (validT_fits hv).2.2; omega)
  have q0 : ApQ w k n s f.len A cap ((w.alloc (.cells #[.int .i64 k, .int .i64 n, .string s, .slice A f.len cap] 31)).alloc (.cells #[.int .i64 0, .int .i64 0, .string ⟨#[]⟩, .slice none 0 0] 31)) := by
    refine ⟨⟨?_, by omega, two_alloc w _ _⟩, (Blk.new w _ _).alloc _⟩
    have h := Blk.new (w.alloc (.cells #[.int .i64 k, .int .i64 n, .string s, .slice A f.len cap] 31)) 31 #[.int .i64 0, .int .i64 0, .string ⟨#[]⟩, .slice none 0 0]
    simpa using h
  have HB1 := Lib.hid (fun h => apB_bad (ns := ns) (g := g) (k := k) (n := n) (s := s) (f := f) h)
  have HB2 := Lib.hid (fun h ha => apB_good (ns := ns) (g := g) (k := k) (n := n) (s := s) (f := f) h ha)
  have HMB : Hid (vtB (apT ns g k n s f) = validT (apT ns g k n s f).k (apT ns g k n s f).n (apT ns g k n s f).s (apT ns g k n s f).f) := Lib.hid rfl
  have HMF : Hid (vtF (apT ns g k n s f) = if validT (apT ns g k n s f).k (apT ns g k n s f).n (apT ns g k n s f).s (apT ns g k n s f).f = true then apT ns g k n s f else nd0) := Lib.hid rfl
  have H1 := Lib.hid C1
  have H2 := Lib.hid C2
  have H3 := Lib.hid C3
  have HQ := Lib.hid q0
  have HK := Lib.hid hK
  have HHI := Lib.hid hh2
  have HNG := Lib.hid hng
  have hl := hK.2.1
  have hmx := hK.2.2.1
  unfold maxLen at hmx
  clear C1 C2 C3 hk hf hnd q0 hK hh2 hng
  generalize hn : g.len = len at *
  have HN := Lib.hid hn
  clear hn
  go_enter Tryd.func43, Tryd.ntmps43
  go_wp2_with fail
  generalize ((w.alloc (.cells #[.int .i64 k, .int .i64 n, .string s, .slice A f.len cap] 31)).alloc (.cells #[.int .i64 0, .int .i64 0, .string ⟨#[]⟩, .slice none 0 0] 31)) = w1 at *
  refine (H1.out _ HQ.out.1.2.2).mono ?_
  rintro e w2 ⟨rfl, hb⟩
  have q2 := HQ.out.below hb
  have HP := Lib.hid q2
  have HP2 := Lib.hid q2
  clear hb q2 H1 HQ
  cases hok : validT k n s f
  · obtain ⟨d0, d1, d2, d3⟩ := cells4i HP.out.1.1
    obtain ⟨f0, f1, f2, f3⟩ := frozen4 HP.out.1.1
    have HE := Lib.hid (HB1.out (.inl hok))
    clear hok
    go_wp2_with fail
    rw [HE.out.1, HE.out.2]
    refine bodyPost_ret (v := .tuple #[.agg #[.int .i64 0, .int .i64 0, .string ⟨#[]⟩, .slice none 0 0], .bool false]) ?_ rfl (HP.out.1.no _ _ _ _)
    exact results_cell_row2 Tryd.results43 _ _ (w.heap.size + 1) _ _ _ _ rfl (set4 HP.out.1.1 _ _ _ _) Tryd.underlying31 rfl (by kernel_rfl)
  · have HOK := Lib.hid hok
    clear hok HP
    go_wp2_with fail
    go_loopw [6] (fun i wr => ∃ (j : Nat), j ≤ len ∧ i = .int .i64 j ∧ allB (g.drop j) = allB g ∧ ApQ w k n s f.len A cap wr) (fun i _ => len - (intOf i).toNat)
    case atStart => exact ⟨0, Nat.zero_le _, rfl, rfl, HP2.out⟩
    case round =>
      obtain ⟨j, hj, rfl, hv, hp⟩ := hrel
      by_cases hlt : j < len
      · obtain ⟨kk, nn, s', kids, hd⟩ := Fr.drop_cons j g (by rw [HN.out]; exact hlt)
        obtain ⟨b, o, rfl, hlb, hbb, hrow⟩ := HK.out.2.2.2 (by rw [HN.out]; omega)
        obtain ⟨hi0, hfit, A', cap', c0, c1, c2, c3, c4, hkid⟩ := BdAt.elem j ns g b o hrow hd
        rw [hd, allB_cons] at hv
        have hlo : (⟨b, o, none⟩ : Addr).block < w.heap.size := Nat.lt_of_lt_of_le hbb HHI.out
        have hb := hp.1.2.2
        have k1 := (hb.cell (p := ⟨b, o + j * 5 + 1, none⟩) hlo).trans c1
        have k2 := (hb.cell (p := ⟨b, o + j * 5 + 2, none⟩) hlo).trans c2
        have k3 := (hb.cell (p := ⟨b, o + j * 5 + 3, none⟩) hlo).trans c3
        have k4 := (hb.cell (p := ⟨b, o + j * 5 + 4, none⟩) hlo).trans c4
        have hne := nodes_elem j g hd
        have C1 := specValid_any kk nn s' kids A' cap' lo2 hi2 wr (hkid.below hb HHI.out) (Nat.le_trans HHI.out hb.size) hfit (by have := HNG.out; omega)
        have H1 := Lib.hid C1
        have HP0 := Lib.hid hp
        clear C1 hp c0 c1 c2 c3 c4 hkid hrow hd hb hlo hne hfit
        cases ht : validT kk nn s' kids
        · have HE := Lib.hid (HB1.out (.inr (by rw [← hv, ht]; rfl)))
          rw [ht] at H1
          go_wp2_with fail
          refine H1.out.mono ?_
          rintro e w3 ⟨rfl, hb⟩
          have HP := Lib.hid (HP0.out.below hb)
          obtain ⟨d0, d1, d2, d3⟩ := cells4i HP.out.1.1
          obtain ⟨f0, f1, f2, f3⟩ := frozen4 HP.out.1.1
          clear hb k1 k2 k3 k4 HP0 ht hv
          go_wp2_with fail
          rw [HE.out.1, HE.out.2]
          refine bodyPost_ret (v := .tuple #[.agg #[.int .i64 0, .int .i64 0, .string ⟨#[]⟩, .slice none 0 0], .bool false]) ?_ rfl (HP.out.1.no _ _ _ _)
          exact results_cell_row2 Tryd.results43 _ _ (w.heap.size + 1) _ _ _ _ rfl (set4 HP.out.1.1 _ _ _ _) Tryd.underlying31 rfl (by kernel_rfl)
        · have HV : Hid (allB (g.drop (j + 1)) = allB g) := Lib.hid (by rw [← hv, ht]; rfl)
          rw [ht] at H1
          go_wp2_with fail
          refine H1.out.mono ?_
          rintro e w3 ⟨rfl, hb⟩
          have HP := Lib.hid (HP0.out.below hb)
          clear hb k1 k2 k3 k4 HP0 ht hv
          go_wp2_with fail
          go_roundw
          case rel => exact ⟨j + 1, by omega, by go_num, HV.out, HP.out⟩
          case measure => simp [intOf]; omega
      · obtain rfl : j = len := by omega
        have ha : allB g = true := by
          have h1 := Fr.drop_len g
          rw [HN.out] at h1
          rw [← hv, h1]; rfl
        have HE := Lib.hid (HB2.out HOK.out ha)
        have C2 := H2.out wr hp.1.2.2 (validT_fits HOK.out).1 ha
        have C3 := fun w1 A1 c1 lo hi => H3.out w1 A1 c1 lo hi HOK.out ha
        have HQ2 := Lib.hid hp
        obtain ⟨a0, a1, a2, a3⟩ := cells4i hp.2
        generalize apT ns g k n s f = m at *
        obtain ⟨mk, mn, ms, mf⟩ := m
        simp only at C2 C3 HMB HMF
        generalize validT mk mn ms mf = ok at *
        have H4 := Lib.hid C2
        have H5 := Lib.hid C3
        clear C2 C3 hp hv ha H2 H3 HB1 HB2 HOK
        go_wp2_with fail
        refine H4.out.mono ?_
        rintro e w3 ⟨A3, c3, rfl, hm⟩
        have hb3 := made_below hm
        have q3 := HQ2.out.below hb3
        have C6 := H5.out (w3.alloc (.cells #[.int .i64 mk, .int .i64 mn, .string ms, .slice A3 mf.len c3] 31)) A3 c3 0 w3.heap.size (by
          obtain ⟨L, ho, _, hL, _⟩ := hm
          exact (ho.kids (lo := 0) fun x hx => ⟨Nat.zero_le _, (hL x hx).2⟩).below ((Below.refl _ _).alloc (Nat.le_refl _) _) (Nat.le_refl _)) (by simp)
        have HM3 := Lib.hid hm
        have HQ3 := Lib.hid q3
        have H6 := Lib.hid C6
        have HSZ : Hid (wr.heap.size ≤ w3.heap.size) := Lib.hid hb3.size
        clear hm hb3 q3 C6 H4 H5 a0 a1 a2 a3
        go_wp2_with fail
        refine H6.out.mono ?_
        rintro e w4 ⟨rfl, hb4⟩
        have hb34 : Below w3.heap.size w3 w4 := ((Below.refl _ _).alloc (Nat.le_refl _) _).trans (hb4.mono (by simp))
        have q4 := HQ3.out.below hb34
        have o4 := (Blk.new w3 31 #[.int .i64 mk, .int .i64 mn, .string ms, .slice A3 mf.len c3]).below hb4 (by simp)
        have hm4 : Made wr mf A3 c3 w4 := by
          obtain ⟨L, h1, h2, h3, h4⟩ := HM3.out
          exact ⟨L, h1.below hb34 fun x hx => (h3 x hx).2, h2, fun x hx => ⟨(h3 x hx).1, Nat.lt_of_lt_of_le (h3 x hx).2 hb34.size⟩, h4.trans (hb34.mono HSZ.out)⟩
        obtain ⟨a0, a1, a2, a3⟩ := cells4i o4
        obtain ⟨d0, d1, d2, d3⟩ := cells4i q4.1.1
        obtain ⟨f0, f1, f2, f3⟩ := frozen4 q4.1.1
        have HP := Lib.hid q4
        have HM4 := Lib.hid hm4
        clear hb4 hb34 q4 o4 hm4 H6 HM3 HQ3
        cases ok
        · go_wp2_with fail
          rw [HE.out.1, HE.out.2, HMB.out, HMF.out]
          refine bodyPost_ret (v := .tuple #[.agg #[.int .i64 0, .int .i64 0, .string ⟨#[]⟩, .slice none 0 0], .bool false]) ?_ rfl (HP.out.1.no _ _ _ _)
          exact results_cell_row2 Tryd.results43 _ _ (w.heap.size + 1) _ _ _ _ rfl (set4 HP.out.1.1 _ _ _ _) Tryd.underlying31 rfl (by kernel_rfl)
        · have hy := HQ2.out.1.yes (k := mk) (n := mn) (s := ms) HM4.out (.int .i64 mk) (.int .i64 mn) (.string ms) (.slice A3 mf.len c3) true
          have HY := Lib.hid hy
          clear hy
          go_wp2_with fail
          rw [HE.out.1, HE.out.2, HMB.out, HMF.out]
          refine bodyPost_ret (v := .tuple #[.agg #[.int .i64 mk, .int .i64 mn, .string ms, .slice A3 mf.len c3], .bool true]) ?_ rfl HY.out
          exact results_cell_row2 Tryd.results43 _ _ (w.heap.size + 1) _ _ _ _ rfl (set4 HP.out.1.1 _ _ _ _) Tryd.underlying31 rfl (by kernel_rfl)
end Go.Proofs.YtnkaafimnkigpaaDoor

/- IsBuiltin: the model's and the program's; impl.isOperator. Condition: the table of operators lies in its variable. -/
namespace Go.Proofs.YtnkaafimnkigpaaDoor
open Go.RowKit

/-- The goals that are built in: name, number of arguments. -/
def biTab : List (List UInt8 × Int) := [([61], 2), ([92, 61], 2), ([61, 61], 2), ([60], 2), ([62], 2), ([61, 60], 2), ([62, 61], 2), ([61, 58, 61], 2), ([105, 115], 2), ([116, 114, 117, 101], 0), ([102, 97, 105, 108], 0), ([118, 97, 114], 1), ([110, 111, 110, 118, 97, 114], 1), ([97, 116, 111, 109], 1), ([105, 110, 116], 1), ([97, 114, 103], 3)]
def biB (l : List UInt8) (a : Int) : Bool := match biTab.find? (fun r => r.1 == l) with
  | some r => a == r.2
  | none => false
theorem biB_at (r : List UInt8 × Int) (hr : r ∈ biTab) (a : Int) : biB r.1 a = (a == r.2) := by
  simp only [biTab, List.mem_cons, List.not_mem_nil, or_false] at hr
  rcases hr with rfl | rfl | rfl | rfl | rfl | rfl | rfl | rfl | rfl | rfl | rfl | rfl | rfl | rfl | rfl | rfl <;> rfl
theorem biB_no (l : List UInt8) (h : ∀ r ∈ biTab, r.1 ≠ l) (a : Int) : biB l a = false := by
  unfold biB
  rw [List.find?_eq_none.2 (fun r hr => by simpa using h r hr)]

set_option maxRecDepth 100000 in
set_option maxHeartbeats 1000000 in
/-- spec.IsBuiltin. -/
theorem specBi_any (s : ByteArray) (a : Int) (w : World) :
    Calls Tryd.prog 104 #[.string s, .int .i64 a] w fun e w' => e = .returned (.bool (biB s.data.toList a)) ∧ w = w' := by
  have hl := ByteArray.toList_eq s
  by_cases h : ∃ r ∈ biTab, r.1 = s.data.toList
  · obtain ⟨r, hr, hs⟩ := h
    have HV : Hid (biB s.data.toList a = (a == r.2)) := Lib.hid (by rw [← hs]; exact biB_at r hr a)
    rw [← hs] at hl
    clear hs
    simp only [biTab, List.mem_cons, List.not_mem_nil, or_false] at hr
    rcases hr with rfl | rfl | rfl | rfl | rfl | rfl | rfl | rfl | rfl | rfl | rfl | rfl | rfl | rfl | rfl | rfl
    all_goals
      have HL := Lib.hid hl
      clear hl
      have t0 : (s.toList == [61]) = _ := congrArg (fun l => l == ([61] : List UInt8)) HL.out
      have t1 : (s.toList == [92, 61]) = _ := congrArg (fun l => l == ([92, 61] : List UInt8)) HL.out
      have t2 : (s.toList == [61, 61]) = _ := congrArg (fun l => l == ([61, 61] : List UInt8)) HL.out
      have t3 : (s.toList == [60]) = _ := congrArg (fun l => l == ([60] : List UInt8)) HL.out
      have t4 : (s.toList == [62]) = _ := congrArg (fun l => l == ([62] : List UInt8)) HL.out
      have t5 : (s.toList == [61, 60]) = _ := congrArg (fun l => l == ([61, 60] : List UInt8)) HL.out
      have t6 : (s.toList == [62, 61]) = _ := congrArg (fun l => l == ([62, 61] : List UInt8)) HL.out
      have t7 : (s.toList == [61, 58, 61]) = _ := congrArg (fun l => l == ([61, 58, 61] : List UInt8)) HL.out
      have t8 : (s.toList == [105, 115]) = _ := congrArg (fun l => l == ([105, 115] : List UInt8)) HL.out
      have t9 : (s.toList == [116, 114, 117, 101]) = _ := congrArg (fun l => l == ([116, 114, 117, 101] : List UInt8)) HL.out
      have t10 : (s.toList == [102, 97, 105, 108]) = _ := congrArg (fun l => l == ([102, 97, 105, 108] : List UInt8)) HL.out
      have t11 : (s.toList == [118, 97, 114]) = _ := congrArg (fun l => l == ([118, 97, 114] : List UInt8)) HL.out
      have t12 : (s.toList == [110, 111, 110, 118, 97, 114]) = _ := congrArg (fun l => l == ([110, 111, 110, 118, 97, 114] : List UInt8)) HL.out
      have t13 : (s.toList == [97, 116, 111, 109]) = _ := congrArg (fun l => l == ([97, 116, 111, 109] : List UInt8)) HL.out
      have t14 : (s.toList == [105, 110, 116]) = _ := congrArg (fun l => l == ([105, 110, 116] : List UInt8)) HL.out
      have t15 : (s.toList == [97, 114, 103]) = _ := congrArg (fun l => l == ([97, 114, 103] : List UInt8)) HL.out
      go_enter Tryd.func104, Tryd.ntmps104
      go_wp2_with fail
      go_ret
      rw [HV.out]; exact ⟨rfl, rfl⟩
  · have HV : Hid (biB s.data.toList a = false) := Lib.hid (biB_no _ (fun r hr e => h ⟨r, hr, e⟩) a)
    have t0 : (s.toList == [61]) = false := by rw [hl, beq_eq_false_iff_ne]; exact fun e => h ⟨([61], 2), by simp [biTab], e.symm⟩
    have t1 : (s.toList == [92, 61]) = false := by rw [hl, beq_eq_false_iff_ne]; exact fun e => h ⟨([92, 61], 2), by simp [biTab], e.symm⟩
    have t2 : (s.toList == [61, 61]) = false := by rw [hl, beq_eq_false_iff_ne]; exact fun e => h ⟨([61, 61], 2), by simp [biTab], e.symm⟩
    have t3 : (s.toList == [60]) = false := by rw [hl, beq_eq_false_iff_ne]; exact fun e => h ⟨([60], 2), by simp [biTab], e.symm⟩
    have t4 : (s.toList == [62]) = false := by rw [hl, beq_eq_false_iff_ne]; exact fun e => h ⟨([62], 2), by simp [biTab], e.symm⟩
    have t5 : (s.toList == [61, 60]) = false := by rw [hl, beq_eq_false_iff_ne]; exact fun e => h ⟨([61, 60], 2), by simp [biTab], e.symm⟩
    have t6 : (s.toList == [62, 61]) = false := by rw [hl, beq_eq_false_iff_ne]; exact fun e => h ⟨([62, 61], 2), by simp [biTab], e.symm⟩
    have t7 : (s.toList == [61, 58, 61]) = false := by rw [hl, beq_eq_false_iff_ne]; exact fun e => h ⟨([61, 58, 61], 2), by simp [biTab], e.symm⟩
    have t8 : (s.toList == [105, 115]) = false := by rw [hl, beq_eq_false_iff_ne]; exact fun e => h ⟨([105, 115], 2), by simp [biTab], e.symm⟩
    have t9 : (s.toList == [116, 114, 117, 101]) = false := by rw [hl, beq_eq_false_iff_ne]; exact fun e => h ⟨([116, 114, 117, 101], 0), by simp [biTab], e.symm⟩
    have t10 : (s.toList == [102, 97, 105, 108]) = false := by rw [hl, beq_eq_false_iff_ne]; exact fun e => h ⟨([102, 97, 105, 108], 0), by simp [biTab], e.symm⟩
    have t11 : (s.toList == [118, 97, 114]) = false := by rw [hl, beq_eq_false_iff_ne]; exact fun e => h ⟨([118, 97, 114], 1), by simp [biTab], e.symm⟩
    have t12 : (s.toList == [110, 111, 110, 118, 97, 114]) = false := by rw [hl, beq_eq_false_iff_ne]; exact fun e => h ⟨([110, 111, 110, 118, 97, 114], 1), by simp [biTab], e.symm⟩
    have t13 : (s.toList == [97, 116, 111, 109]) = false := by rw [hl, beq_eq_false_iff_ne]; exact fun e => h ⟨([97, 116, 111, 109], 1), by simp [biTab], e.symm⟩
    have t14 : (s.toList == [105, 110, 116]) = false := by rw [hl, beq_eq_false_iff_ne]; exact fun e => h ⟨([105, 110, 116], 1), by simp [biTab], e.symm⟩
    have t15 : (s.toList == [97, 114, 103]) = false := by rw [hl, beq_eq_false_iff_ne]; exact fun e => h ⟨([97, 114, 103], 3), by simp [biTab], e.symm⟩
    clear hl h
    go_enter Tryd.func104, Tryd.ntmps104
    go_wp2_with fail
    go_ret
    rw [HV.out]; exact ⟨rfl, rfl⟩

set_option maxRecDepth 100000 in
set_option maxHeartbeats 1000000 in
/-- impl.IsBuiltin. -/
theorem implBi_any (s : ByteArray) (a : Int) (w : World) :
    Calls Tryd.prog 121 #[.string s, .int .i64 a] w fun e w' => e = .returned (.bool (biB s.data.toList a)) ∧ w = w' := by
  have hl := ByteArray.toList_eq s
  by_cases h : ∃ r ∈ biTab, r.1 = s.data.toList
  · obtain ⟨r, hr, hs⟩ := h
    have HV : Hid (biB s.data.toList a = (a == r.2)) := Lib.hid (by rw [← hs]; exact biB_at r hr a)
    rw [← hs] at hl
    clear hs
    simp only [biTab, List.mem_cons, List.not_mem_nil, or_false] at hr
    rcases hr with rfl | rfl | rfl | rfl | rfl | rfl | rfl | rfl | rfl | rfl | rfl | rfl | rfl | rfl | rfl | rfl
    all_goals
      have HL := Lib.hid hl
      clear hl
      have t0 : (s.toList == [61]) = _ := congrArg (fun l => l == ([61] : List UInt8)) HL.out
      have t1 : (s.toList == [92, 61]) = _ := congrArg (fun l => l == ([92, 61] : List UInt8)) HL.out
      have t2 : (s.toList == [61, 61]) = _ := congrArg (fun l => l == ([61, 61] : List UInt8)) HL.out
      have t3 : (s.toList == [60]) = _ := congrArg (fun l => l == ([60] : List UInt8)) HL.out
      have t4 : (s.toList == [62]) = _ := congrArg (fun l => l == ([62] : List UInt8)) HL.out
      have t5 : (s.toList == [61, 60]) = _ := congrArg (fun l => l == ([61, 60] : List UInt8)) HL.out
      have t6 : (s.toList == [62, 61]) = _ := congrArg (fun l => l == ([62, 61] : List UInt8)) HL.out
      have t7 : (s.toList == [61, 58, 61]) = _ := congrArg (fun l => l == ([61, 58, 61] : List UInt8)) HL.out
      have t8 : (s.toList == [105, 115]) = _ := congrArg (fun l => l == ([105, 115] : List UInt8)) HL.out
      have t9 : (s.toList == [116, 114, 117, 101]) = _ := congrArg (fun l => l == ([116, 114, 117, 101] : List UInt8)) HL.out
      have t10 : (s.toList == [102, 97, 105, 108]) = _ := congrArg (fun l => l == ([102, 97, 105, 108] : List UInt8)) HL.out
      have t11 : (s.toList == [118, 97, 114]) = _ := congrArg (fun l => l == ([118, 97, 114] : List UInt8)) HL.out
      have t12 : (s.toList == [110, 111, 110, 118, 97, 114]) = _ := congrArg (fun l => l == ([110, 111, 110, 118, 97, 114] : List UInt8)) HL.out
      have t13 : (s.toList == [97, 116, 111, 109]) = _ := congrArg (fun l => l == ([97, 116, 111, 109] : List UInt8)) HL.out
      have t14 : (s.toList == [105, 110, 116]) = _ := congrArg (fun l => l == ([105, 110, 116] : List UInt8)) HL.out
      have t15 : (s.toList == [97, 114, 103]) = _ := congrArg (fun l => l == ([97, 114, 103] : List UInt8)) HL.out
      go_enter Tryd.func121, Tryd.ntmps121
      go_wp2_with fail
      go_ret
      rw [HV.out]; exact ⟨rfl, rfl⟩
  · have HV : Hid (biB s.data.toList a = false) := Lib.hid (biB_no _ (fun r hr e => h ⟨r, hr, e⟩) a)
    have t0 : (s.toList == [61]) = false := by rw [hl, beq_eq_false_iff_ne]; exact fun e => h ⟨([61], 2), by simp [biTab], e.symm⟩
    have t1 : (s.toList == [92, 61]) = false := by rw [hl, beq_eq_false_iff_ne]; exact fun e => h ⟨([92, 61], 2), by simp [biTab], e.symm⟩
    have t2 : (s.toList == [61, 61]) = false := by rw [hl, beq_eq_false_iff_ne]; exact fun e => h ⟨([61, 61], 2), by simp [biTab], e.symm⟩
    have t3 : (s.toList == [60]) = false := by rw [hl, beq_eq_false_iff_ne]; exact fun e => h ⟨([60], 2), by simp [biTab], e.symm⟩
    have t4 : (s.toList == [62]) = false := by rw [hl, beq_eq_false_iff_ne]; exact fun e => h ⟨([62], 2), by simp [biTab], e.symm⟩
    have t5 : (s.toList == [61, 60]) = false := by rw [hl, beq_eq_false_iff_ne]; exact fun e => h ⟨([61, 60], 2), by simp [biTab], e.symm⟩
    have t6 : (s.toList == [62, 61]) = false := by rw [hl, beq_eq_false_iff_ne]; exact fun e => h ⟨([62, 61], 2), by simp [biTab], e.symm⟩
    have t7 : (s.toList == [61, 58, 61]) = false := by rw [hl, beq_eq_false_iff_ne]; exact fun e => h ⟨([61, 58, 61], 2), by simp [biTab], e.symm⟩
    have t8 : (s.toList == [105, 115]) = false := by rw [hl, beq_eq_false_iff_ne]; exact fun e => h ⟨([105, 115], 2), by simp [biTab], e.symm⟩
    have t9 : (s.toList == [116, 114, 117, 101]) = false := by rw [hl, beq_eq_false_iff_ne]; exact fun e => h ⟨([116, 114, 117, 101], 0), by simp [biTab], e.symm⟩
    have t10 : (s.toList == [102, 97, 105, 108]) = false := by rw [hl, beq_eq_false_iff_ne]; exact fun e => h ⟨([102, 97, 105, 108], 0), by simp [biTab], e.symm⟩
    have t11 : (s.toList == [118, 97, 114]) = false := by rw [hl, beq_eq_false_iff_ne]; exact fun e => h ⟨([118, 97, 114], 1), by simp [biTab], e.symm⟩
    have t12 : (s.toList == [110, 111, 110, 118, 97, 114]) = false := by rw [hl, beq_eq_false_iff_ne]; exact fun e => h ⟨([110, 111, 110, 118, 97, 114], 1), by simp [biTab], e.symm⟩
    have t13 : (s.toList == [97, 116, 111, 109]) = false := by rw [hl, beq_eq_false_iff_ne]; exact fun e => h ⟨([97, 116, 111, 109], 1), by simp [biTab], e.symm⟩
    have t14 : (s.toList == [105, 110, 116]) = false := by rw [hl, beq_eq_false_iff_ne]; exact fun e => h ⟨([105, 110, 116], 1), by simp [biTab], e.symm⟩
    have t15 : (s.toList == [97, 114, 103]) = false := by rw [hl, beq_eq_false_iff_ne]; exact fun e => h ⟨([97, 114, 103], 3), by simp [biTab], e.symm⟩
    clear hl h
    go_enter Tryd.func121, Tryd.ntmps121
    go_wp2_with fail
    go_ret
    rw [HV.out]; exact ⟨rfl, rfl⟩

/-- An operator's name. -/
def opB (l : List UInt8) : Bool := op.tab.any fun r => r.1 == l
theorem opB_level (l : List UInt8) : opB l = !(op.level l == 0) := by
  unfold opB
  by_cases h : ∃ r ∈ op.tab, r.1 = l
  · obtain ⟨r, hr, rfl⟩ := h
    have h1 : op.level r.1 ≠ 0 := by
      rw [op.level_at r hr]
      have all : ∀ r ∈ op.tab, r.2.2 ≠ 0 := by decide
      exact all r hr
    rw [List.any_eq_true.2 ⟨r, hr, by simp⟩]
    simp [h1]
  · have hn : ∀ r ∈ op.tab, r.1 ≠ l := fun r hr e => h ⟨r, hr, e⟩
    rw [op.level_no l hn]
    rw [show (op.tab.any fun r => r.1 == l) = false by rw [← Bool.not_eq_true, List.any_eq_true]; rintro ⟨r, hr, e⟩; exact hn r hr (by simpa using e)]
    rfl
theorem opB_no (l : List UInt8) (h : ∀ j, j < 14 → (op.nm j).data.toList ≠ l) : opB l = false := by
  unfold opB
  rw [← Bool.not_eq_true, List.any_eq_true]
  rintro ⟨r, hr, e⟩
  obtain ⟨j, hj, rfl⟩ := List.mem_iff_getElem.1 hr
  refine h j hj ?_
  have e' : op.tab[j].1 = l := by simpa using e
  rw [← e']
  simp [op.nm, List.getD, hj]
theorem opB_yes (l : List UInt8) (j : Nat) (hj : j < 14) (h : (op.nm j).data.toList = l) : opB l = true := by
  unfold opB
  have hj' : j < op.tab.length := hj
  refine List.any_eq_true.2 ⟨op.tab[j], List.getElem_mem _, ?_⟩
  rw [← h]
  simp [op.nm, List.getD, hj']

set_option maxRecDepth 100000 in
/-- impl.isOperator. -/
theorem isOp_any (s : ByteArray) (w : World) (ht : op.OpTab w) :
    Calls Tryd.prog 123 #[.string s] w fun e w' => e = .returned (.bool (opB s.data.toList)) ∧ Below w.heap.size w w' := by
  obtain ⟨tt, fr, htab⟩ := ht
  have HT := Lib.hid htab
  have hl := ByteArray.toList_eq s
  have HL := Lib.hid hl
  clear htab hl
  go_enter Tryd.func123, Tryd.ntmps123
  go_wp2_with (refine wpList_load_row rfl 205 _ rfl 0 rfl tt _ fr _ HT.out Tryd.underlying205 rfl (by kernel_rfl) ?_)
  go_loopw [6] (fun i wr => ∃ k : Nat, k ≤ 14 ∧ i = .int .i64 k ∧ (∀ j, j < k → (op.nm j).data.toList ≠ s.data.toList) ∧ Below w.heap.size w wr) (fun i _ => 14 - (intOf i).toNat)
  case atStart => exact ⟨0, Nat.zero_le _, rfl, fun j h => absurd h (Nat.not_lt_zero j), Below.refl _ _⟩
  case round =>
    obtain ⟨k, hk, rfl, hno, hbw⟩ := hrel
    have HN := Lib.hid hno
    have HB := Lib.hid hbw
    clear hno hbw
    by_cases h14 : k < 14
    · have hx := fun w => op.index_op k h14 w
      have hy := opB_yes s.data.toList k h14
      have HY := Lib.hid hy
      have hnx : (op.nm k).data.toList ≠ s.data.toList → ∀ j, j < k + 1 → (op.nm j).data.toList ≠ s.data.toList := fun h j hj => by
        rcases Nat.lt_succ_iff_lt_or_eq.1 hj with h1 | h1
        · exact HN.out j h1
        · subst h1; exact h
      have HNX := Lib.hid hnx
      have hla := ByteArray.toList_eq (op.nm k)
      have HLA := Lib.hid hla
      have him : (k : Int) < 14 := by omega
      clear hy hnx hla
      generalize op.nm k = a at *
      generalize op.tx k = b at *
      generalize op.lv k = l at *
      by_cases heq : a.data.toList = s.data.toList
      · have t1 : (a.toList == s.toList) = true := by rw [HLA.out, HL.out, heq, beq_self_eq_true]
        have HV : Hid (opB s.data.toList = true) := Lib.hid (HY.out heq)
        clear heq
        go_wp2_with fail
        go_ret
        rw [HV.out]
        exact ⟨rfl, by first | exact HB.out | exact HB.out.alloc HB.out.size _⟩
      · have t1 : (a.toList == s.toList) = false := by rw [HLA.out, HL.out, beq_eq_false_iff_ne]; exact heq
        have HNX2 := Lib.hid (HNX.out heq)
        clear heq
        go_wp2_with fail
        go_roundw
        case rel => exact ⟨k + 1, by omega, by go_num, HNX2.out, by first | exact HB.out | exact HB.out.alloc HB.out.size _⟩
        case measure => simp [intOf]; omega
    · obtain rfl : k = 14 := by omega
      have HV : Hid (opB s.data.toList = false) := Lib.hid (opB_no _ HN.out)
      go_wp2_with fail
      go_ret
      rw [HV.out]
      exact ⟨rfl, HB.out⟩
end Go.Proofs.YtnkaafimnkigpaaDoor
