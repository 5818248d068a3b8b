/- spec.l1Vars, spec.TermVars: the variables of a term. Condition: the term lies in memory. -/
import Derived.Test.YtohkpgpcipjpkaaGreatDoorProg
import Derived.Test.YtohkpgpcipjpkaaGreatDoorInts
import Derived.Test.YtohkpgpcipjpkaaGreatDoorSpecC
namespace Go.Proofs.YtohkpgpcipjpkaaGreatDoor
open Go.RowKit

theorem infoI : (Tryz.prog.info? 3).map (fun i => (i.zero, i.size, i.bytes)) = some (some (.int .i64 0), 1, 8) := by kernel_rfl
/-- A variable is put behind those that were met. -/
def addV (acc : List Int) (n : Int) : List Int := if acc.contains n then acc else acc ++ [n]
def varsF : List Int → Fr → List Int
  | acc, .nil => acc
  | acc, .cons k n _ kids rest => varsF (if k = 1 then addV acc n else varsF acc kids) rest
def varsT (acc : List Int) (k n : Int) (f : Fr) : List Int := if k = 1 then addV acc n else varsF acc f
theorem addV_len (acc : List Int) (n : Int) : (addV acc n).length ≤ acc.length + 1 := by
  unfold addV
  split <;> simp
theorem varsF_len (f : Fr) : ∀ acc, (varsF acc f).length ≤ acc.length + nodes f := by
  induction f with
  | nil => intro acc; exact Nat.le_refl _
  | cons k n s kids rest ihk ihr =>
    intro acc
    have h1 := ihr (if k = 1 then addV acc n else varsF acc kids)
    have h2 : (if k = 1 then addV acc n else varsF acc kids).length ≤ acc.length + nodes kids + 1 := by
      split
      · have := addV_len acc n; omega
      · have := ihk acc; omega
    simp only [varsF, nodes]
    omega
theorem varsT_len (acc : List Int) (k n : Int) (f : Fr) : (varsT acc k n f).length ≤ acc.length + nodes f + 1 := by
  unfold varsT
  split
  · have := addV_len acc n; omega
  · have := varsF_len f acc; omega

def VaRes (w : World) (base : Nat) (v : Value) (xs : List Int) (e : Ending) (w' : World) : Prop :=
  ∃ v', e = .returned v' ∧ OwnI w' base v' xs ∧ Wrote (ownV v) w w' ∧ (∀ x ∈ ownV v', x ∈ ownV v ∨ w.heap.size ≤ x)
def VaT (s : ByteArray) (f : Fr) : Prop := ∀ (k n : Int) (A : Option Addr) (cap lo hi base : Nat) (acc : List Int) (v : Value) (w : World), KidsAt w lo hi f A cap → hi ≤ base → base ≤ w.heap.size → OwnI w base v acc → acc.length + nodes f ≤ 2097152 →
  Calls Tryz.prog 39 #[v, .agg #[.int .i64 k, .int .i64 n, .string s, .slice A f.len cap]] w fun e w' => VaRes w base v (varsT acc k n f) e w'

/-- One number more at the end of a row. -/
theorem OwnI.snoc {w w1 w6 : World} {base g cap4 H : Nat} {v : Value} {acc : List Int} {n : Int} (h01 : Wrote (ownV v) w w1) (hg : w1.grownBy w6 v.ownBlock)
    (ho : w6.ownsRow base 3 1 (.slice (some ⟨g, 0, none⟩) (acc.length + 1) cap4) (acc.length + 1) (acc.map (Value.int .i64) ++ [.int .i64 n])) (hat : v.ownBlock = some g ∨ g = H) (hH : w.heap.size ≤ H) :
    OwnI w6 base (.slice (some ⟨g, 0, none⟩) (acc.length + 1) cap4) (acc ++ [n]) ∧ Wrote (ownV v) w w6 ∧ (∀ x ∈ ownV (.slice (some ⟨g, 0, none⟩) (acc.length + 1) cap4), x ∈ ownV v ∨ w.heap.size ≤ x) := by
  refine ⟨?_, h01.trans (.of_grown hg fun _ h => h), fun x hx => ?_⟩
  · unfold OwnI
    rw [List.map_append, List.length_append]
    exact ho
  · have e : g = x := by simpa [ownV, Value.ownBlock, eq_comm] using hx
    subst e
    rcases hat with h | h
    · exact .inl (by unfold ownV; rw [h]; simp)
    · exact .inr (by omega)

set_option maxRecDepth 100000 in
set_option maxHeartbeats 2000000 in
theorem vaT_of (s : ByteArray) (f : Fr) (h : ∀ i k n s kids rest, f.drop i = .cons k n s kids rest → VaT s kids) : VaT s f := by
  intro k n A cap lo hi base acc v w hk hh hbs ho hnd
  have HK := Lib.hid hk
  have HH := Lib.hid h
  have hl := hk.1
  have hm := hk.2.1
  unfold maxLen at hm
  have hlt := ho.lt
  have b0 := Blk.new w 44 #[.int .i64 k, .int .i64 n, .string s, .slice A f.len cap]
  have hb0 : Below w.heap.size w (w.alloc (.cells #[.int .i64 k, .int .i64 n, .string s, .slice A f.len cap] 44)) := (Below.refl _ _).alloc (Nat.le_refl _) _
  have hsz0 : w.heap.size < (w.alloc (.cells #[.int .i64 k, .int .i64 n, .string s, .slice A f.len cap] 44)).heap.size := by simp
  have ho2 := ho.below hb0
  have HLT := Lib.hid hlt
  have HND := Lib.hid hnd
  clear hk h hlt
  by_cases h1 : k = 1
  · subst h1
    have hV : varsT acc 1 n f = addV acc n := by unfold varsT; rw [if_pos rfl]
    rw [hV]
    obtain ⟨A0, cap0, hform, hc0, hm0, hr0⟩ := ho2.read
    have HR := Lib.hid hr0
    subst hform
    have hacc : acc.length ≤ 2097152 := by omega
    unfold maxLen at hm0
    clear hV hr0 HK HH hl hm hnd
    obtain ⟨i0, hi0, hz0, hz1, hz2⟩ := info_parts infoI
    go_enter Tryz.func39, Tryz.ntmps39
    go_wp2_with fail
    generalize w.alloc (.cells #[.int .i64 1, .int .i64 n, .string s, .slice A f.len cap] 44) = w2 at *
    have HB0 := Lib.hid hb0
    have HBK := Lib.hid b0
    have HO2 := Lib.hid ho2
    have HO := Lib.hid ho
    clear hb0 b0 ho2 ho
    go_loopw [5] (fun i wr => ∃ (j : Nat), j ≤ acc.length ∧ i = .int .i64 j ∧ (∀ i, i < j → acc.getD i 0 ≠ n) ∧ Below w2.heap.size w2 wr) (fun i _ => acc.length - (intOf i).toNat)
    case atStart => exact ⟨0, Nat.zero_le _, rfl, fun i h => absurd h (Nat.not_lt_zero i), Below.refl _ _⟩
    case round =>
      obtain ⟨j, hj, rfl, hno, hb⟩ := hrel
      have a1 := (HBK.out.below hb hsz0).cell 1
      simp only [List.getElem?_toArray, List.getElem?_cons_zero, List.getElem?_cons_succ] at a1
      by_cases hlt : j < acc.length
      · obtain ⟨g, rfl, hown, hg⟩ := HR.out (by omega)
        have hg2 : g < w2.heap.size := (HO2.out.lt g (by rw [hown]; simp)).2
        have e1 := (hb.cell (p := ⟨g, j, none⟩) hg2).trans (hg j hlt).1
        have hx : acc.getD j 0 = acc[j] := by simp [List.getD, List.getElem?_eq_getElem hlt]
        by_cases hxn : acc.getD j 0 = n
        · have HV : Hid (addV acc n = acc) := Lib.hid (by
            unfold addV
            rw [if_pos]
            rw [List.contains_iff_mem, ← hxn, hx]
            exact List.getElem_mem hlt)
          have tx : (n == n) = true := by simp
          rw [hxn] at e1
          have HB := Lib.hid hb
          have HOW := Lib.hid hown
          clear hg hb hxn hx hno hown
          go_wp2_with fail
          go_quiet (fail)
          go_wp2_with fail
          go_ret
          rw [HV.out]
          have hbd := fun m => HB.out.trans (c := wr.drewN m) ⟨rfl, rfl, rfl, Nat.le_refl _, fun _ _ => rfl⟩
          have hbd2 := fun m => HB0.out.trans ((hbd m).mono HB0.out.size)
          exact ⟨_, rfl, HO2.out.below (hbd _), .of_below (hbd2 _) _, fun x h => .inl h⟩
        · have tx : (acc.getD j 0 == n) = false := by rw [beq_eq_false_iff_ne]; exact hxn
          have HNO : Hid (∀ i, i < j + 1 → acc.getD i 0 ≠ n) := Lib.hid fun i hi => by
            rcases Nat.lt_succ_iff_lt_or_eq.1 hi with h | h
            · exact hno i h
            · subst h; exact hxn
          generalize acc.getD j 0 = x at *
          have HB := Lib.hid hb
          clear hg hb hxn hx hno hown
          go_wp2_with fail
          go_quiet (fail)
          go_wp2_with fail
          go_roundw
          case rel => exact ⟨j + 1, by omega, by go_num, HNO.out, HB.out.trans ⟨rfl, rfl, rfl, Nat.le_refl _, fun _ _ => rfl⟩⟩
          case measure => simp [intOf]; omega
      · obtain rfl : j = acc.length := by omega
        have HV : Hid (addV acc n = acc ++ [n]) := Lib.hid (by
          unfold addV
          rw [if_neg]
          rw [List.contains_iff_mem]
          intro hmem
          obtain ⟨i, hi, hin⟩ := List.mem_iff_getElem.1 hmem
          exact hno i hi (by simp [List.getD, List.getElem?_eq_getElem hi, hin]))
        have hwr : w.heap.size ≤ wr.heap.size := Nat.le_trans (Nat.le_of_lt hsz0) hb.size
        have hbw : Below w.heap.size w wr := HB0.out.trans (hb.mono HB0.out.size)
        have hor : OwnI wr base (.slice A0 acc.length cap0) acc := HO2.out.below hb
        have STEP := fun w6 g cap4 hg ho hat => OwnI.snoc (base := base) (v := .slice A0 acc.length cap0) (acc := acc) (n := n) (w6 := w6) (g := g) (cap4 := cap4) (H := wr.heap.size + 1) (.of_below (hbw.alloc hwr (.cells #[.int .i64 n] 3)) _) hg ho hat (by omega)
        have HSTEP := Lib.hid STEP
        have HOR := Lib.hid hor
        have hnew := Blk.new wr 3 #[.int .i64 n]
        have HNEW := Lib.hid hnew
        clear hno hbw hor STEP hnew hb
        go_wp2_with (at_builtin; go_must (refine wpList_append_lies _ rfl _ _ _ rfl base 3 i0 _ 1 8 Tryz.underlying39 hi0 hz0 hz1 hz2 rfl (by omega) (.slice A0 acc.length cap0) acc.length (acc.map (Value.int .i64)) rfl (HOR.out.alloc _) ⟨wr.heap.size, 0, none⟩ 1 1 [.int .i64 n] rfl rfl (World.news_of_block (cs := #[.int .i64 n]) (t := 3) (fr := (0, 0)) HNEW.out) (by simp [Value.oneCell']) (by omega) (by unfold maxLen; omega) (by omega) (by simp; omega) (wr.heap.size + 1) (by simp) ?_); intro g cap4 w6 hown6 hgrow hat hlt6; have HS := Lib.hid (HSTEP.out w6 g cap4 hgrow hown6 hat); clear hown6 hgrow hat)
        go_ret
        rw [HV.out]
        exact ⟨_, rfl, HS.out⟩
  · have hV : varsT acc k n f = varsF acc f := by unfold varsT; rw [if_neg h1]
    rw [hV]
    have t1 : (k == 1) = false := by rw [beq_eq_false_iff_ne]; exact h1
    generalize hv : varsF acc f = V
    have HV := Lib.hid hv
    generalize hn : f.len = len at *
    have HN := Lib.hid hn
    clear hV h1 hv hn hnd
    go_enter Tryz.func39, Tryz.ntmps39
    go_wp2_with fail
    generalize w.alloc (.cells #[.int .i64 k, .int .i64 n, .string s, .slice A len cap] 44) = w2 at *
    have HB0 := Lib.hid hb0
    have HBK := Lib.hid b0
    have HO2 := Lib.hid ho2
    clear hb0 b0 ho2 ho
    go_loopw [6, 0] (fun i o wr => ∃ (j : Nat) (a : List Int) (v' : Value), j ≤ len ∧ i = .int .i64 j ∧ v' = o ∧ OwnI wr base v' a ∧ varsF a (f.drop j) = V ∧ a.length + nodes (f.drop j) ≤ acc.length + nodes f ∧ Wrote (ownV v) w2 wr ∧ (∀ x ∈ ownV v', x ∈ ownV v ∨ w2.heap.size ≤ x)) (fun i _ _ => len - (intOf i).toNat)
    case atStart => exact ⟨0, acc, v, Nat.zero_le _, rfl, rfl, HO2.out, HV.out, Nat.le_refl _, .refl _ _, fun x h => .inl h⟩
    case round =>
      obtain ⟨j, a, v', hj, rfl, rfl, hoa, hva, hla, hw, hnew⟩ := hrel
      have a3 := (hw.blk HBK.out fun e => by have := (HLT.out _ e).2; omega).cell 3
      simp only [List.getElem?_toArray, List.getElem?_cons_zero, List.getElem?_cons_succ] at a3
      by_cases hlt : j < len
      · obtain ⟨kk, nn, s', kids, hd⟩ := Fr.drop_cons j f (by rw [HN.out]; exact hlt)
        obtain ⟨b, o, rfl, hlb, hbb, hrow⟩ := HK.out.2.2 (by rw [HN.out]; omega)
        obtain ⟨hfit, A', cap', c0, c1, c2, c3, hkid⟩ := hrow.elem hd
        have hw0 : Wrote (ownV v) w wr := (Wrote.of_below HB0.out _).trans hw
        have hfar : ∀ j, wr.cell? ⟨b, j, none⟩ = w.cell? ⟨b, j, none⟩ := fun j => hw0.cell (p := ⟨b, j, none⟩) (by show b < _; omega) fun e => by have := (HLT.out b e).1; omega
        have k0 := (hfar _).trans c0
        have k1 := (hfar _).trans c1
        have k2 := (hfar _).trans c2
        have k3 := (hfar _).trans c3
        have hkw := hkid.wrote hw0 (by omega) fun x e => .inr (by have := (HLT.out x e).1; omega)
        have hne := nodes_elem j f hd
        have e1 : nodes (f.drop j) = 1 + nodes kids + nodes (f.drop (j + 1)) := by rw [hd]; rfl
        have hvl := varsT_len a kk nn kids
        have hva' : varsF (varsT a kk nn kids) (f.drop (j + 1)) = V := by rw [hd] at hva; exact hva
        have C2 := HH.out _ _ _ _ _ _ hd kk nn A' cap' lo hi base a v' wr hkw hh (Nat.le_trans hbs hw0.size) hoa (by have := HND.out; omega)
        have HNX : Hid (∀ v2 w3, OwnI w3 base v2 (varsT a kk nn kids) → Wrote (ownV v') wr w3 → (∀ x ∈ ownV v2, x ∈ ownV v' ∨ wr.heap.size ≤ x) →
            OwnI w3 base v2 (varsT a kk nn kids) ∧ varsF (varsT a kk nn kids) (f.drop (j + 1)) = V ∧ (varsT a kk nn kids).length + nodes (f.drop (j + 1)) ≤ acc.length + nodes f ∧ Wrote (ownV v) w2 w3 ∧ (∀ x ∈ ownV v2, x ∈ ownV v ∨ w2.heap.size ≤ x)) := Lib.hid fun v2 w3 h2 hw3 hn2 => by
          refine ⟨h2, hva', by omega, hw.more_new hw3 hnew, fun x hx => ?_⟩
          rcases hn2 x hx with h | h
          · exact hnew x h
          · exact .inr (Nat.le_trans hw.size h)
        have H2 := Lib.hid C2
        clear C2 hkw hfar hw0 hvl hva hva' hla hw hnew hoa c0 c1 c2 c3 hkid hrow hfit hd hne e1
        go_wp2_with fail
        refine H2.out.mono ?_
        rintro e w3 ⟨v2, rfl, h2, hw3, hn2⟩
        have HX := Lib.hid (HNX.out v2 w3 h2 hw3 hn2)
        clear h2 hw3 hn2
        go_wp2_with fail
        go_roundw
        case rel => exact ⟨j + 1, _, v2, by omega, by go_num, rfl, HX.out⟩
        case measure => simp [intOf]; omega
      · obtain rfl : j = len := by omega
        have HE : Hid (V = a) := Lib.hid (by
          have h1 := Fr.drop_len f
          rw [HN.out] at h1
          rw [← hva, h1]; rfl)
        have HF : Hid (OwnI wr base v' a ∧ Wrote (ownV v) w wr ∧ (∀ x ∈ ownV v', x ∈ ownV v ∨ w.heap.size ≤ x)) := Lib.hid ⟨hoa, (Wrote.of_below HB0.out _).trans hw, fun x hx => by
          rcases hnew x hx with h | h
          · exact .inl h
          · exact .inr (by omega)⟩
        clear hoa hva hla hw hnew
        go_wp2_with fail
        go_ret
        rw [HE.out]
        exact ⟨_, rfl, HF.out⟩
theorem va_all (N : Nat) : ∀ (s : ByteArray) (f : Fr), f.size ≤ N → VaT s f := by
  induction N with
  | zero =>
    intro s f hf
    refine vaT_of s f fun i k n s kids rest hd => ?_
    have h1 := Fr.size_drop i f
    rw [hd] at h1
    simp only [Fr.size] at h1
    omega
  | succ N ih =>
    intro s f hf
    refine vaT_of s f fun i k n s kids rest hd => ih s kids ?_
    have h1 := Fr.size_drop i f
    rw [hd] at h1
    simp only [Fr.size] at h1
    omega

/-- What both TermVars answer. -/
def varsB (k n : Int) (s : ByteArray) (f : Fr) : List Int := if validT k n s f = true then varsT [] k n f else []

end Go.Proofs.YtohkpgpcipjpkaaGreatDoor
