/- Queries: the model's QueryValid, l6Vars, QueryVars. Condition: the terms lie in memory. -/
import Derived.Test.YtnkaafimnkigpaaDoorProg
import Derived.Test.YtnkaafimnkigpaaDoorZmAG40
import Derived.Test.YtnkaafimnkigpaaDoorVars
import Derived.Test.YtnkaafimnkigpaaDoorAs
import Derived.Test.YtnkaafimnkigpaaDoorTermOf
import Derived.Test.YtnkaafimnkigpaaDoorImplV
import Derived.Test.YtnkaafimnkigpaaDoorRep
import Derived.Maps.Own
import Derived.Maps.OwnOps
import Derived.Maps.OwnSet
namespace Go.Proofs.YtnkaafimnkigpaaDoor
open Go.RowKit

set_option maxRecDepth 100000 in
set_option maxHeartbeats 2000000 in
/-- spec.QueryValid. -/
theorem specQV_any (f : Fr) (A : Option Addr) (cap lo hi : Nat) (w : World) (hk : KidsAt w lo hi f A cap) (hh : hi ≤ w.heap.size) (hnd : nodes f ≤ 1048576) :
    Calls Tryd.prog 42 #[.slice A f.len cap] w fun e w' => e = .returned (.bool (goalsV f)) ∧ Below w.heap.size w w' := by
  have hl : f.len ≤ 1048576 := by have := len_le_nodes f; omega
  have HE : Hid (goalsV f = (decide (f.len ≤ 6) && allG f)) := Lib.hid rfl
  have HKB := Lib.hid hk
  have HHI := Lib.hid hh
  have HND := Lib.hid hnd
  clear hk hh hnd
  generalize hn : f.len = len at *
  have HN := Lib.hid hn
  clear hn
  go_enter Tryd.func42, Tryd.ntmps42
  go_wp2_with fail
  go_loopw [3] (fun i wr => ∃ (j : Nat), j ≤ len ∧ j ≤ 7 ∧ i = .int .i64 j ∧ allG (f.drop j) = allG f ∧ Below w.heap.size w wr) (fun i _ => 8 - (intOf i).toNat)
  case atStart => exact ⟨0, Nat.zero_le _, by omega, rfl, rfl, Below.refl _ _⟩
  case round =>
    obtain ⟨j, hj, hj7, rfl, hall, hbw⟩ := hrel
    have HBW := Lib.hid hbw
    have HA := Lib.hid hall
    clear hall
    by_cases hlt : j < len
    · by_cases h6 : j ≤ 6
      · obtain ⟨kk, nn, s', kids', hd⟩ := Fr.drop_cons j f (by rw [HN.out]; exact hlt)
        obtain ⟨b, o, rfl, hlb, hbb, hrow⟩ := HKB.out.2.2 (by rw [HN.out]; omega)
        obtain ⟨hfit, A', cp, c0, c1, c2, c3, hkid⟩ := hrow.elem hd
        have hlo : (⟨b, o, none⟩ : Addr).block < w.heap.size := Nat.lt_of_lt_of_le hbb HHI.out
        have k0 := (hbw.cell (p := ⟨b, o + j * 4, none⟩) hlo).trans c0
        have k1 := (hbw.cell (p := ⟨b, o + j * 4 + 1, none⟩) hlo).trans c1
        have k2 := (hbw.cell (p := ⟨b, o + j * 4 + 2, none⟩) hlo).trans c2
        have k3 := (hbw.cell (p := ⟨b, o + j * 4 + 3, none⟩) hlo).trans c3
        have C3 := specGoal_any kk nn s' kids' A' cp lo hi wr (hkid.below hbw HHI.out) (Nat.le_trans HHI.out hbw.size) hfit (Nat.le_trans (nodes_drop_elem j f hd) HND.out)
        have hA2 := HA.out
        rw [hd] at hA2
        have hA3 : (goalV kk nn s' kids' && allG (f.drop (j + 1))) = allG f := hA2
        generalize goalV kk nn s' kids' = v at *
        have HA3 := Lib.hid hA3
        have H3 := Lib.hid C3
        clear C3 c0 c1 c2 c3 hkid hrow hfit hd hlo hA2 hA3 hbw
        cases v
        · have HV : Hid (goalsV f = false) := Lib.hid (by rw [HE.out, ← HA3.out]; simp)
          go_wp2_with fail
          refine H3.out.mono ?_
          rintro e w3 ⟨rfl, hb3⟩
          have HB3 := Lib.hid (HBW.out.trans (hb3.mono HBW.out.size))
          clear hb3
          go_wp2_with fail
          go_ret
          rw [HV.out]; exact ⟨rfl, HB3.out⟩
        · have HA4 : Hid (allG (f.drop (j + 1)) = allG f) := Lib.hid (by rw [← HA3.out]; simp)
          go_wp2_with fail
          refine H3.out.mono ?_
          rintro e w3 ⟨rfl, hb3⟩
          have HB3 := Lib.hid (HBW.out.trans (hb3.mono HBW.out.size))
          clear hb3
          go_wp2_with fail
          go_roundw
          case rel => exact ⟨j + 1, by omega, by omega, by go_num, HA4.out, HB3.out⟩
          case measure => simp [intOf]; omega
      · have hlen6 : 6 < len := by omega
        have HV : Hid (goalsV f = false) := Lib.hid (by rw [HE.out, decide_eq_false (by omega)]; simp)
        have d6 : decide ((len : Int) ≤ 6) = false := decide_eq_false (by omega)
        have e6 : decide ((j : Int) ≤ 6) = false := decide_eq_false (by omega)
        clear hbw
        go_wp2_with fail
        go_ret
        rw [HV.out]; exact ⟨rfl, HBW.out⟩
    · obtain rfl : j = len := by omega
      clear hbw
      have HAL : Hid (allG f = true) := Lib.hid (by
        have h1 := Fr.drop_len f
        rw [HN.out] at h1
        rw [← HA.out, h1]; rfl)
      by_cases h6 : j ≤ 6
      · have HV : Hid (goalsV f = true) := Lib.hid (by rw [HE.out, HAL.out, decide_eq_true h6]; rfl)
        have d6 : decide ((j : Int) ≤ 6) = true := decide_eq_true (by omega)
        go_wp2_with fail
        go_ret
        rw [HV.out]; exact ⟨rfl, HBW.out⟩
      · have HV : Hid (goalsV f = false) := Lib.hid (by rw [HE.out, decide_eq_false h6]; rfl)
        have d6 : decide ((j : Int) ≤ 6) = false := decide_eq_false (by omega)
        go_wp2_with fail
        go_ret
        rw [HV.out]; exact ⟨rfl, HBW.out⟩

/-- The variables of a query's goals. -/
def qvF (f : Fr) : List Int := if goalsV f = true then varsF [] f else []
theorem varsF_drop {f rest : Fr} {j : Nat} {k n : Int} {s : ByteArray} {kids : Fr} (hd : f.drop j = .cons k n s kids rest) (acc : List Int) : varsF acc (f.drop j) = varsF (varsT acc k n kids) rest := by
  rw [hd]
  rfl

set_option maxRecDepth 100000 in
set_option maxHeartbeats 2000000 in
/-- spec.l6Vars. -/
theorem l6Vars_any (f : Fr) (A : Option Addr) (cap lo hi : Nat) (w : World) (hk : KidsAt w lo hi f A cap) (hh : hi ≤ w.heap.size) (hnd : nodes f ≤ 1048576) :
    Calls Tryd.prog 65 #[.slice A f.len cap] w fun e w' => ∃ v, e = .returned v ∧ OwnI w' w.heap.size v (varsF [] f) ∧ Below w.heap.size w w' := by
  have hl : f.len ≤ 1048576 := by have := len_le_nodes f; omega
  have HKB := Lib.hid hk
  have HHI := Lib.hid hh
  have HND := Lib.hid hnd
  have hst : OwnI (w.alloc (.cells #[] 3)) w.heap.size (.slice (some ⟨w.heap.size, 0, none⟩) 0 0) [] ∧ Below w.heap.size w (w.alloc (.cells #[] 3)) := ⟨OwnI.empty w (Nat.le_refl _), (Below.refl _ _).alloc (Nat.le_refl _) _⟩
  have HST := Lib.hid hst
  clear hk hh hnd hst
  generalize hn : f.len = len at *
  have HN := Lib.hid hn
  clear hn
  go_enter Tryd.func65, Tryd.ntmps65
  go_wp2_with fail
  go_loopw [3, 4] (fun o i wr => ∃ (j : Nat) (acc : List Int), j ≤ len ∧ i = .int .i64 j ∧ OwnI wr w.heap.size o acc ∧ acc.length + nodes (f.drop j) ≤ nodes f ∧ varsF acc (f.drop j) = varsF [] f ∧ Below w.heap.size w wr) (fun _ i _ => len - (intOf i).toNat)
  case atStart => exact ⟨0, [], Nat.zero_le _, rfl, HST.out.1, by simp [Fr.drop], rfl, HST.out.2⟩
  case round =>
    obtain ⟨j, acc, hj, rfl, ho, hna, hva, hbw⟩ := hrel
    have HBW := Lib.hid hbw
    have HO := Lib.hid ho
    have HNA := Lib.hid hna
    have HVA := Lib.hid hva
    obtain ⟨A0, cap0, hform, hc0, hm0, _⟩ := ho.read
    subst hform
    clear hna hva ho
    by_cases hlt : j < len
    · obtain ⟨kk, nn, s', kids', hd⟩ := Fr.drop_cons j f (by rw [HN.out]; exact hlt)
      obtain ⟨b, o, rfl, hlb, hbb, hrow⟩ := HKB.out.2.2 (by rw [HN.out]; omega)
      obtain ⟨hfit, A', cp, c0, c1, c2, c3, hkid⟩ := hrow.elem hd
      have hlo : (⟨b, o, none⟩ : Addr).block < w.heap.size := Nat.lt_of_lt_of_le hbb HHI.out
      have k0 := (hbw.cell (p := ⟨b, o + j * 4, none⟩) hlo).trans c0
      have k1 := (hbw.cell (p := ⟨b, o + j * 4 + 1, none⟩) hlo).trans c1
      have k2 := (hbw.cell (p := ⟨b, o + j * 4 + 2, none⟩) hlo).trans c2
      have k3 := (hbw.cell (p := ⟨b, o + j * 4 + 3, none⟩) hlo).trans c3
      have hnd2 : acc.length + nodes kids' ≤ 2097152 ∧ (varsT acc kk nn kids').length + nodes (f.drop (j + 1)) ≤ nodes f := by
        have h1 := HNA.out
        have h2 := HND.out
        rw [hd] at h1
        have h4 := varsT_len acc kk nn kids'
        simp only [nodes] at h1
        omega
      have C3 := va_all kids'.size s' kids' (Nat.le_refl _) kk nn A' cp lo hi w.heap.size acc (.slice A0 acc.length cap0) wr (hkid.below hbw HHI.out) HHI.out hbw.size HO.out hnd2.1
      have HV2 : Hid (varsF (varsT acc kk nn kids') (f.drop (j + 1)) = varsF [] f) := Lib.hid (by rw [← varsF_drop hd]; exact HVA.out)
      have hlo2 := HO.out.lt
      have HLO := Lib.hid hlo2
      have HN2 := Lib.hid hnd2.2
      have H3 := Lib.hid C3
      clear C3 c0 c1 c2 c3 hkid hrow hfit hd hlo hnd2 hbw hlo2
      go_wp2_with fail
      refine H3.out.mono ?_
      rintro e w3 ⟨v', rfl, ho3, hw3, hn3⟩
      have hb3 : Below w.heap.size w w3 := HBW.out.trans (hw3.below HBW.out.size fun x hx => (HLO.out x hx).1)
      have HB3 := Lib.hid hb3
      have HO3 := Lib.hid ho3
      obtain ⟨A3, cap3, hform, _⟩ := ho3.read
      subst hform
      clear hb3 ho3 hw3 hn3
      go_wp2_with fail
      go_roundw
      case rel => exact ⟨j + 1, _, by omega, by go_num, HO3.out, HN2.out, HV2.out, HB3.out⟩
      case measure => simp [intOf]; omega
    · obtain rfl : j = len := by omega
      have HAL : Hid (acc = varsF [] f) := Lib.hid (by
        have h1 := Fr.drop_len f
        rw [HN.out] at h1
        rw [← HVA.out, h1]; rfl)
      clear hbw
      go_wp2_with fail
      go_ret
      refine ⟨_, rfl, ?_, HBW.out⟩
      rw [← HAL.out]
      exact HO.out

set_option maxRecDepth 100000 in
set_option maxHeartbeats 2000000 in
/-- spec.QueryVars. -/
theorem specQVars_any (f : Fr) (A : Option Addr) (cap lo hi : Nat) (w : World) (hk : KidsAt w lo hi f A cap) (hh : hi ≤ w.heap.size) (hnd : nodes f ≤ 1048576) :
    Calls Tryd.prog 41 #[.slice A f.len cap] w fun e w' => ∃ v, e = .returned v ∧ OwnI w' w.heap.size v (qvF f) ∧ Below w.heap.size w w' := by
  have C1 := specQV_any f A cap lo hi w hk hh hnd
  have C2 := fun w1 (hb : Below w.heap.size w w1) => l6Vars_any f A cap lo hi w1 (hk.below hb hh) (Nat.le_trans hh hb.size) hnd
  have HE : Hid (qvF f = if goalsV f = true then varsF [] f else []) := Lib.hid rfl
  generalize goalsV f = v at *
  have H1 := Lib.hid C1
  have H2 := Lib.hid C2
  clear C1 C2 hk hh hnd
  generalize f.len = len at *
  cases v
  · have HV : Hid (qvF f = []) := Lib.hid (by rw [HE.out]; rfl)
    go_enter Tryd.func41, Tryd.ntmps41
    go_wp2_with fail
    refine H1.out.mono ?_
    rintro e w2 ⟨rfl, hb2⟩
    have HF : Hid (OwnI (w2.alloc (.cells #[] 3)) w.heap.size (.slice (some ⟨w2.heap.size, 0, none⟩) 0 0) [] ∧ Below w.heap.size w (w2.alloc (.cells #[] 3))) := Lib.hid ⟨OwnI.empty w2 hb2.size, hb2.alloc hb2.size _⟩
    clear hb2
    go_wp2_with fail
    go_ret
    rw [HV.out]
    exact ⟨_, rfl, HF.out⟩
  · have HV : Hid (qvF f = varsF [] f) := Lib.hid (by rw [HE.out]; rfl)
    go_enter Tryd.func41, Tryd.ntmps41
    go_wp2_with fail
    refine H1.out.mono ?_
    rintro e w2 ⟨rfl, hb2⟩
    have HB2 := Lib.hid hb2
    clear hb2
    go_wp2_with fail
    refine (H2.out w2 HB2.out).mono ?_
    rintro e w3 ⟨v, rfl, ho, hb3⟩
    have HF : Hid (OwnI w3 w.heap.size v (varsF [] f) ∧ Below w.heap.size w w3) := Lib.hid ⟨ho.mono HB2.out.size, HB2.out.trans (hb3.mono HB2.out.size)⟩
    obtain ⟨A3, cap3, hform, _⟩ := ho.read
    subst hform
    clear ho hb3
    go_wp2_with fail
    go_ret
    rw [HV.out]
    exact ⟨_, rfl, HF.out⟩
end Go.Proofs.YtnkaafimnkigpaaDoor

/- impl's numbering: newNumbering, place; what it is for replaceVars. Condition: the nodes lie in memory and are well-formed. -/
namespace Go.Proofs.YtnkaafimnkigpaaDoor
open Go.RowKit Go.Maps

/-- The map leads each number that was met to its place. -/
def NumD (D : DataW Unit) (acc : List Int) : Prop :=
  IsMap D ∧ (∀ n, has D (.int .i64 n) = acc.contains n) ∧ (∀ n, acc.contains n = true → D.atKey (.int .i64 n) (.lit (.int .i64 0)) = .lit (.int .i64 (acc.idxOf n)))
theorem NumD.nil : NumD (.map []) [] := ⟨isMap_empty, fun _ => rfl, fun n h => by simp at h⟩
theorem NumD.step {D : DataW Unit} {acc : List Int} (h : NumD D acc) (n : Int) (hn : acc.contains n = false) : NumD (D.put (.int .i64 n) (.lit (.int .i64 acc.length))) (acc ++ [n]) := by
  have hm : n ∉ acc := fun e => by
    have := List.contains_iff_mem.2 e
    rw [hn] at this
    cases this
  refine ⟨h.1.put _ _, fun m => ?_, fun m hc => ?_⟩
  · by_cases e : m = n
    · subst e
      rw [has_put_same h.1 (show WideAt.IsKeyLit (.int .i64 m) from trivial)]
      simp
    · rw [has_put_other (fun h => e (by injection h)), h.2.1]
      rw [Bool.eq_iff_iff, List.contains_iff_mem, List.contains_iff_mem]
      simp [e]
  · by_cases e : m = n
    · subst e
      rw [atKey_put_same h.1 (show WideAt.IsKeyLit (.int .i64 m) from trivial), List.idxOf_append, if_neg hm]
      simp
    · rw [atKey_put_other (fun h => e (by injection h))]
      have hc' : m ∈ acc := by
        have := List.contains_iff_mem.1 hc
        simpa [e] using this
      rw [h.2.2 m (List.contains_iff_mem.2 hc'), List.idxOf_append, if_pos hc']

/-- The numbering in block mb: its map in bm, its row of numbers vo, which reads as acc. -/
def Num (w : World) (base mb bm : Nat) (vo : Value) (acc : List Int) : Prop :=
  Blk w mb 135 #[.map (some bm), vo] ∧ (∃ D, w.ownsMap Tryd.prog 93 (plainElem Tryd.prog 93) bm acc.length D ∧ NumD D acc) ∧ OwnI w base vo acc ∧ mb < base ∧ bm < base ∧ bm ≠ mb
def NumRes (w : World) (base mb bm : Nat) (vo : Value) (xs : List Int) (w' : World) : Prop :=
  ∃ vo', Num w' base mb bm vo' xs ∧ Wrote (mb :: bm :: ownV vo) w w' ∧ (∀ x ∈ ownV vo', x ∈ ownV vo ∨ w.heap.size ≤ x)

theorem Num.below {w w' : World} {base mb bm : Nat} {vo : Value} {acc : List Int} (h : Num w base mb bm vo acc) (hb : Below w.heap.size w w') : Num w' base mb bm vo acc := by
  obtain ⟨b0, ⟨D, hD, hN⟩, ho, h1, h2, h3⟩ := h
  exact ⟨b0.below hb b0.lt, ⟨D, hD.kept (row := none) ⟨hb.os, hb.tape, hb.output, hb.size, fun k hk _ => hb.block k hk⟩ (by simp), hN⟩, ho.below hb, h1, h2, h3⟩

/-- A number that was not met is put into the map and behind the row. -/
theorem Num.step {w w1 w6 : World} {base mb bm g cap4 : Nat} {vo : Value} {acc : List Int} {n : Int} {D : DataW Unit} (hb0 : Blk w mb 135 #[.map (some bm), vo]) (ho : OwnI w base vo acc) (h1 : mb < base) (h2 : bm < base) (h3 : bm ≠ mb) (hN : NumD D acc) (hn : acc.contains n = false)
    (hown1 : w1.ownsMap Tryd.prog 93 (plainElem Tryd.prog 93) bm (acc.length + 1) (D.put (.int .i64 n) (.lit (.int .i64 acc.length)))) (hg1 : w.grownBy w1 (some bm))
    (hg : (w1.alloc (.cells #[.int .i64 n] 3)).grownBy w6 vo.ownBlock)
    (hown6 : w6.ownsRow base 3 1 (.slice (some ⟨g, 0, none⟩) (acc.length + 1) cap4) (acc.length + 1) (acc.map (Value.int .i64) ++ [.int .i64 n])) (hat : vo.ownBlock = some g ∨ g = w1.heap.size + 1) :
    NumRes w base mb bm vo (acc ++ [n]) (w6.setCell ⟨mb, 1, none⟩ (.slice (some ⟨g, 0, none⟩) (acc.length + 1) cap4)) := by
  have hlt := ho.lt
  have hw1 : Wrote [bm] w w1 := ⟨hg1.os, hg1.tape, hg1.output, hg1.size, fun x hx hn => hg1.block x hx fun e => hn (by simpa using e)⟩
  have ho1 : OwnI w1 base vo acc := ho.keep hw1 fun x hx e => by have := (hlt x hx).1; simp at e; omega
  have hs := OwnI.snoc (H := w1.heap.size + 1) (v := vo) (Wrote.of_below ((Below.refl w1.heap.size w1).alloc (Nat.le_refl _) (.cells #[.int .i64 n] 3)) _) hg hown6 hat (by omega)
  have hb1 : Blk w1 mb 135 #[.map (some bm), vo] := hw1.blk hb0 fun e => by simp at e; omega
  have hmo : mb ∉ ownV vo := fun e => by have := (hlt _ e).1; omega
  have hb6 := hs.2.1.blk hb1 hmo
  have hon : ∀ x ∈ ownV (.slice (some ⟨g, 0, none⟩) (acc.length + 1) cap4), base ≤ x := fun x hx => (hs.1.lt x hx).1
  have hneb : some bm ≠ vo.ownBlock := fun e => by
    have := (hlt bm (by unfold ownV; rw [← e]; simp)).1
    omega
  refine ⟨_, ⟨?_, ⟨_, by rw [show (acc ++ [n]).length = acc.length + 1 by simp]; exact ((hown1.alloc _).kept hg hneb).setCell h3 _, hN.step n hn⟩, hs.1.keep (L := [mb]) ((Wrote.refl _ _).set_ (.inl (by simp)) _) (fun x hx e => ?_), h1, h2, h3⟩, ?_, fun x hx => ?_⟩
  · have h := hb6.set_ 1 (.slice (some ⟨g, 0, none⟩) (acc.length + 1) cap4)
    simpa using h
  · have := hon x hx
    simp at e; omega
  · exact ((hw1.more (L' := mb :: bm :: ownV vo) (by simp)).trans (hs.2.1.more (by simp +contextual))).set_ (.inl (by simp)) _
  · rcases hs.2.2 x hx with h | h
    · exact .inl h
    · exact .inr (Nat.le_trans hg1.size h)

theorem lawV : Keyed Tryd.prog 93 := int_keyed Tryd.underlying93
theorem zeroV (w : World) : (zeroValue 93).run Tryd.prog w = .ok (.int .i64 0) w := by kernel_rfl

set_option maxRecDepth 100000 in
set_option maxHeartbeats 1000000 in
/-- numbering.place. -/
theorem place_any (n : Int) (acc : List Int) (vo : Value) (base mb bm : Nat) (w : World) (hN : Num w base mb bm vo acc) (hbs : base ≤ w.heap.size) (hacc : acc.length ≤ 2097152) (hn : -999 ≤ n ∧ n ≤ 999) :
    Calls Tryd.prog 70 #[.pointer (some ⟨mb, 0, none⟩), .int .i64 n] w fun e w' => e = .returned (.iface 93 (.int .i64 ((addV acc n).idxOf n : Int))) ∧ NumRes w base mb bm vo (addV acc n) w' := by
  have hN0 := hN
  obtain ⟨b0, ⟨D, hD, hND⟩, ho, h1, h2, h3⟩ := hN
  have c0 := b0.cell 0
  have c1 := b0.cell 1
  have f1 := b0.frozen 1
  simp only [List.getElem?_toArray, List.getElem?_cons_zero, List.getElem?_cons_succ] at c0 c1
  have hkey : keyOf Tryd.prog 93 (.int .i64 n) = some (.int .i64 n) := keyOf_int_mk Tryd.underlying93 (WalkArith.wf_i64 (by omega))
  have hh := hND.2.1 n
  have HD := Lib.hid hD
  have HN0 := Lib.hid hN0
  cases hc : acc.contains n
  · have hV : addV acc n = acc ++ [n] := by unfold addV; rw [hc]; rfl
    have hix : ((acc ++ [n]).idxOf n : Int) = (acc.length : Int) := by
      have hm : n ∉ acc := fun e => by
        have := List.contains_iff_mem.2 e
        rw [hc] at this
        cases this
      rw [List.idxOf_append, if_neg hm]
      simp
    rw [hV, hix]
    obtain ⟨A0, cap0, hform, hc0, hm0, hr0⟩ := ho.read
    subst hform
    have STEP := fun w1 w6 g cap4 h4 h5 h6 h7 h8 => Num.step (w1 := w1) (w6 := w6) (g := g) (cap4 := cap4) b0 ho h1 h2 h3 hND hc h4 h5 h6 h7 h8
    have HSTEP := Lib.hid STEP
    have hlt := ho.lt
    have hmlt := b0.lt
    have FAR : ∀ w1, w.grownBy w1 (some bm) → w1.cell? ⟨mb, 0, none⟩ = some (.map (some bm)) ∧ w1.cell? ⟨mb, 1, none⟩ = some (.slice A0 acc.length cap0) ∧ w1.frozen? ⟨mb, 1, none⟩ = false ∧ OwnI w1 base (.slice A0 acc.length cap0) acc ∧ w.heap.size ≤ w1.heap.size := fun w1 hg => by
      have hw1 : Wrote [bm] w w1 := ⟨hg.os, hg.tape, hg.output, hg.size, fun x hx hn => hg.block x hx fun e => hn (by simpa using e)⟩
      have b1 := hw1.blk b0 fun e => by simp at e; omega
      exact ⟨b1.cell 0, b1.cell 1, b1.frozen 1, ho.keep hw1 fun x hx e => by have := (hlt x hx).1; simp at e; omega, hg.size⟩
    have HFAR := Lib.hid FAR
    have FAR2 : ∀ w1 w6, w.grownBy w1 (some bm) → (w1.alloc (.cells #[.int .i64 n] 3)).grownBy w6 (Value.slice A0 acc.length cap0).ownBlock → (∃ u, w6.cell? ⟨mb, 1, none⟩ = some u) ∧ w6.frozen? ⟨mb, 1, none⟩ = false := fun w1 w6 hg hg6 => by
      have hw1 : Wrote [bm] w w1 := ⟨hg.os, hg.tape, hg.output, hg.size, fun x hx hn => hg.block x hx fun e => hn (by simpa using e)⟩
      have b1 := hw1.blk b0 fun e => by simp at e; omega
      have b6 := (b1.alloc (.cells #[.int .i64 n] 3)).keep (hg6.block mb (by have := b1.lt; simp; omega) fun e => by have := (hlt mb (by unfold ownV; rw [← e]; simp)).1; omega)
      exact ⟨⟨_, b6.cell 1⟩, b6.frozen 1⟩
    have HFAR2 := Lib.hid FAR2
    rw [hc] at hh
    have HH := Lib.hid hh
    unfold maxLen at hm0
    have hwl : (Lit.int .i64 (acc.length : Int)).wf = true := WalkArith.wf_i64 (by omega)
    have HWL := Lib.hid hwl
    clear hN0 b0 hD hND ho hh hc hV hr0 STEP FAR FAR2 hwl hlt HN0
    obtain ⟨i0, hi0, hz0, hz1, hz2⟩ := info_parts infoI
    go_enter Tryd.func70, Tryd.ntmps70
    go_wp2_with (first
      | (at_lookup; refine wpList_lookup_own_ok_int _ rfl _ _ 133 rfl 93 93 .i64 lawV Tryd.underlying133 Tryd.underlying93 (zeroV _) bm acc.length D rfl HD.out _ _ rfl hkey ?_; intro c hat hwc; rw [HH.out])
      | (at_mapUpdate; refine wpList_mapUpdate_own _ rfl _ _ _ 133 rfl 93 93 lawV Tryd.underlying133 _ bm acc.length D rfl HD.out (by unfold maxLen; omega) _ _ _ rfl rfl hkey (.lit (.int .i64 acc.length)) [] (plainElem_int Tryd.underlying93 HWL.out) ?_; intro w1 hown1 hgrow1; obtain ⟨x0, x1, xf, hor, hsz⟩ := HFAR.out w1 hgrow1; have hnew := Blk.new w1 3 #[.int .i64 n]; have HOR := Lib.hid hor; have HNEW := Lib.hid hnew; have HOWN1 := Lib.hid hown1; have HG1 := Lib.hid hgrow1; clear hown1 hgrow1 hor hnew c0 c1 f1)
      | (at_builtin; go_must (refine wpList_append_lies _ rfl _ _ _ rfl base 3 i0 _ 1 8 Tryd.underlying80 hi0 hz0 hz1 hz2 rfl (by omega) (.slice A0 acc.length cap0) acc.length (acc.map (Value.int .i64)) rfl (HOR.out.alloc _) ⟨w1.heap.size, 0, none⟩ 1 1 [.int .i64 n] rfl rfl (World.news_of_block (cs := #[.int .i64 n]) (t := 3) (fr := (0, 0)) HNEW.out) (by simp [Value.oneCell']) (by omega) (by unfold maxLen; omega) (by omega) (by simp; omega) (w1.heap.size + 1) (by simp) ?_); intro g cap4 w6 hown6 hgrow hat6 hlt6; obtain ⟨⟨u, y1⟩, yf⟩ := HFAR2.out w1 w6 HG1.out hgrow; have HS := Lib.hid (HSTEP.out w1 w6 g cap4 HOWN1.out HG1.out hgrow hown6 hat6); clear hown6 hgrow hat6 x0 x1 xf))
    go_ret
    exact ⟨rfl, HS.out⟩
  · have hV : addV acc n = acc := by unfold addV; rw [hc]; rfl
    rw [hV]
    rw [hc] at hh
    have HH := Lib.hid hh
    have HAT := Lib.hid (hND.2.2 n hc)
    clear hN0 b0 hD hND ho hh hc hV
    go_enter Tryd.func70, Tryd.ntmps70
    go_wp2_with (at_lookup; refine wpList_lookup_own_ok_int _ rfl _ _ 133 rfl 93 93 .i64 lawV Tryd.underlying133 Tryd.underlying93 (zeroV _) bm acc.length D rfl HD.out _ _ rfl hkey ?_; intro c hat hwc; rw [HH.out])
    go_wp2_with fail
    go_ret
    have e := hat.symm.trans HAT.out
    simp only [DataW.lit.injEq, Lit.int.injEq, true_and] at e
    rw [e]
    exact ⟨rfl, vo, HN0.out, .refl _ _, fun x h => .inl h⟩

theorem Num.wrote {w w' : World} {base mb bm : Nat} {vo : Value} {acc : List Int} {L : List Nat} (h : Num w base mb bm vo acc) (hb : Wrote L w w') (hL : ∀ x ∈ L, x ≠ mb ∧ x ≠ bm ∧ x ∉ ownV vo) : Num w' base mb bm vo acc := by
  obtain ⟨b0, ⟨D, hD, hN⟩, ho, h1, h2, h3⟩ := h
  have hlt := hD.lt
  obtain ⟨es, clock, he, r⟩ := hD
  exact ⟨hb.blk b0 fun e => (hL _ e).1 rfl, ⟨D, ⟨es, clock, (hb.block bm hlt fun e => (hL _ e).2.1 rfl).trans he, r⟩, hN⟩, ho.keep hb fun x hx e => (hL _ e).2.2 hx, h1, h2, h3⟩
theorem place_ef : ∀ args w, (callFunc 70 args).run Tryd.prog w = .ok (.enter 70 args) w := fun _ _ => by kernel_rfl
/-- The state of a numbering, and what it hands back. -/
def NumI (base mb bm : Nat) (w : World) (acc : List Int) (Q : List Nat) : Prop := ∃ vo, Num w base mb bm vo acc ∧ Q = mb :: bm :: ownV vo
def numOut (acc : List Int) (n : Int) : Nd := ⟨1, ((addV acc n).idxOf n : Int), ⟨#[]⟩, .nil⟩
theorem place_rep (base mb bm : Nat) : RepC 70 #[.pointer (some ⟨mb, 0, none⟩)] #[] (NumI base mb bm) (fun _ => False) base List.length addV numOut where
  keep := fun {w w' a Q L} h hw hL => by
    obtain ⟨vo, hN, rfl⟩ := h
    refine ⟨vo, hN.wrote hw fun x hx => ?_, rfl⟩
    have h := (hL x hx).1
    simp only [List.mem_cons, not_or] at h
    exact h
  lt := fun {w a Q} h x hx => by
    obtain ⟨vo, hN, rfl⟩ := h
    obtain ⟨b0, ⟨D, hD, _⟩, ho, _⟩ := hN
    simp only [List.mem_cons] at hx
    rcases hx with rfl | rfl | hx
    · exact b0.lt
    · exact hD.lt
    · exact (ho.lt x hx).2
  old := fun x hx => hx.elim
  len := addV_len
  call := fun a Q n w h hB hs hn => by
    obtain ⟨vo, hN, rfl⟩ := h
    refine (place_any n a vo base mb bm w hN hB hs (by omega)).mono ?_
    rintro e w' ⟨rfl, vo', h1, h2, h3⟩
    refine ⟨mb :: bm :: ownV vo', _, rfl, ⟨vo', h1, rfl⟩, h2, fun x hx => ?_, .inl ⟨rfl, rfl⟩⟩
    simp only [List.mem_cons] at hx ⊢
    rcases hx with h | h | h
    · exact .inl (.inl h)
    · exact .inl (.inr (.inl h))
    · rcases h3 x h with h | h
      · exact .inl (.inr (.inr h))
      · exact .inr h
theorem st_num (f : Fr) : ∀ a : List Int, stF addV a f = varsF a f := by
  induction f with
  | nil => intro a; rfl
  | cons k n s kids rest ihk ihr =>
    intro a
    simp only [stF, varsF]
    rw [ihr, ihk]
theorem stT_num (a : List Int) (k n : Int) (f : Fr) : stT addV a k n f = varsT a k n f := by
  unfold stT varsT
  rw [st_num]

set_option maxHeartbeats 1000000 in
/-- impl.newNumbering. -/
theorem newNum_any (w : World) : Calls Tryd.prog 69 #[] w fun e w' => e = .returned (.pointer (some ⟨w.heap.size + 1, 0, none⟩)) ∧ Num w' (w.heap.size + 2) (w.heap.size + 1) w.heap.size (.slice none 0 0) [] ∧ Below w.heap.size w w' ∧ w'.heap.size = w.heap.size + 2 := by
  have hmm := @run_makeMap Tryd.prog
  have hb4 : Below w.heap.size w ((w.alloc (.map #[] 0)).alloc (.cells #[.map (some w.heap.size), .slice none 0 0] 135)) := ((Below.refl _ _).alloc (Nat.le_refl _) _).alloc (by simp) _
  have hq : Blk ((w.alloc (.map #[] 0)).alloc (.cells #[.map (some w.heap.size), .slice none 0 0] 135)) (w.heap.size + 1) 135 #[.map (some w.heap.size), .slice none 0 0] := by
    have h := Blk.new (w.alloc (.map #[] 0)) 135 #[.map (some w.heap.size), .slice none 0 0]
    rwa [show (w.alloc (.map #[] 0)).heap.size = w.heap.size + 1 by simp] at h
  have hN : Num ((w.alloc (.map #[] 0)).alloc (.cells #[.map (some w.heap.size), .slice none 0 0] 135)) (w.heap.size + 2) (w.heap.size + 1) w.heap.size (.slice none 0 0) [] :=
    ⟨hq, ⟨_, (World.ownsMap_made w _ _ _).alloc _, NumD.nil⟩, OwnI.nil _ _, by omega, by omega, by omega⟩
  have HN := Lib.hid hN
  have HB := Lib.hid hb4
  clear hb4 hq hN
  go_enter Tryd.func69, Tryd.ntmps69
  go_wp2_with fail
  go_ret
  exact ⟨rfl, HN.out, HB.out, by simp⟩
end Go.Proofs.YtnkaafimnkigpaaDoor
