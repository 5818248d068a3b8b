/- spec.l1Rename: a term with its variables renamed by their places in a list. Condition: the term and the list lie in memory. -/
import Derived.Test.YtplledmhbbmgiaaDoorProg
import Derived.Test.YtplledmhbbmgiaaDoorCopy
import Derived.Test.YtplledmhbbmgiaaDoorVars
import Derived.Deep.RegionLaw
namespace Go.Proofs.YtplledmhbbmgiaaDoor
open Go.RowKit

/-- The new number of a variable; the row with all variables renamed. -/
def renN (V : List Int) (k n : Int) : Int := if k = 1 ∧ n ∈ V then (V.idxOf n : Int) else n
def renF (V : List Int) : Fr → Fr
  | .nil => .nil
  | .cons k n s kids rest => .cons k (renN V k n) s (renF V kids) (renF V rest)
theorem renF_len (V : List Int) (f : Fr) : (renF V f).len = f.len := by
  induction f with
  | nil => rfl
  | cons _ _ _ _ _ _ ih => simp only [renF, Fr.len, ih]
theorem renF_nodes (V : List Int) (f : Fr) : nodes (renF V f) = nodes f := by
  induction f with
  | nil => rfl
  | cons _ _ _ _ _ ihk ih => simp only [renF, nodes, ih, ihk]
theorem renF_drop (V : List Int) (f : Fr) : ∀ j, (renF V f).drop j = renF V (f.drop j) := by
  induction f with
  | nil => intro j; cases j <;> rfl
  | cons _ _ _ _ _ _ ih =>
    intro j
    cases j with
    | zero => rfl
    | succ j => exact ih j
theorem renF_take (V : List Int) (f : Fr) : ∀ j, (renF V f).take j = renF V (f.take j) := by
  induction f with
  | nil => intro j; cases j <;> rfl
  | cons _ _ _ _ _ _ ih =>
    intro j
    cases j with
    | zero => rfl
    | succ j => simp only [renF, Fr.take, ih]
/-- What the first loop has put, behind j rounds. -/
def midN (V : List Int) (k n : Int) (j : Nat) : Int := if k = 1 ∧ n ∈ V.take j then (V.idxOf n : Int) else n
theorem midN_all (V : List Int) (k n : Int) : midN V k n V.length = renN V k n := by unfold midN renN; rw [List.take_length]
theorem midN_other (V : List Int) (k n : Int) (j : Nat) (h : k ≠ 1) : midN V k n j = renN V k n := by unfold midN renN; rw [if_neg (fun e => h e.1), if_neg (fun e => h e.1)]
theorem midN_zero (V : List Int) (k n : Int) : midN V k n 0 = n := by unfold midN; rw [List.take_zero, if_neg (by simp)]
theorem midN_hit (V : List Int) (hV : V.Nodup) (n : Int) (j : Nat) (hj : j < V.length) (h : V.getD j 0 = n) : midN V 1 n (j + 1) = (j : Int) := by
  have e : V[j] = n := by rw [← h]; simp [List.getD, List.getElem?_eq_getElem hj]
  unfold midN
  rw [if_pos]
  · rw [← e, hV.idxOf_getElem j hj]
  · refine ⟨rfl, ?_⟩
    rw [List.take_add_one, List.getElem?_eq_getElem hj, List.mem_append]
    exact .inr (List.mem_singleton.2 e.symm)
theorem midN_miss (V : List Int) (n : Int) (j : Nat) (hj : j < V.length) (h : V.getD j 0 ≠ n) : midN V 1 n (j + 1) = midN V 1 n j := by
  have e : V[j] ≠ n := by
    intro e
    apply h
    rw [← e]; simp [List.getD, List.getElem?_eq_getElem hj]
  unfold midN
  have e2 : (n ∈ V.take (j + 1)) ↔ n ∈ V.take j := by
    rw [List.take_add_one, List.getElem?_eq_getElem hj, List.mem_append]
    exact ⟨fun h => h.elim id fun h => absurd (List.mem_singleton.1 h).symm e, .inl⟩
  simp only [e2]

def RnT (s : ByteArray) (f : Fr) : Prop := ∀ (k n : Int) (A : Option Addr) (cap lo hi base : Nat) (V : List Int) (vv : Value) (w : World), KidsAt w lo hi f A cap → hi ≤ w.heap.size → Fits k n s → nodes f ≤ 1048576 → OwnI w base vv V → V.Nodup → V.length ≤ 2097152 →
  Calls Tryd.prog 60 #[.agg #[.int .i64 k, .int .i64 n, .string s, .slice A f.len cap], vv] w fun e w' => MadeT w k (renN V k n) s (renF V f) e w'
theorem renN_fits {k n : Int} {s : ByteArray} (V : List Int) (h : Fits k n s) (hV : V.length ≤ 2097152) : Fits k (renN V k n) s := by
  obtain ⟨h1, h2, h3⟩ := h
  refine ⟨h1, ?_, h3⟩
  unfold renN
  split
  · rename_i hh
    have := List.idxOf_lt_length_iff.2 hh.2
    omega
  · exact h2
/-- The loop's relation: j arguments are copied; the box of the argument, the result's and the copy's blocks lie at H, H + 1, H + 2. -/
def RnP (w : World) (k n m : Int) (s : ByteArray) (len : Nat) (f : Fr) (A : Option Addr) (cap H j : Nat) (v : Value) (wr : World) : Prop :=
  Blk wr H 29 #[.int .i64 k, .int .i64 n, .string s, .slice A len cap] ∧ Blk wr (H + 1) 29 #[.int .i64 0, .int .i64 0, .string ⟨#[]⟩, .slice none 0 0] ∧
  Blk wr (H + 1 + 1) 29 #[.int .i64 k, .int .i64 m, .string s, v] ∧ RowP (H + 1 + 1 + 1) v (f.take j) wr ∧ Below w.heap.size w wr ∧ H + 1 + 1 + 1 ≤ wr.heap.size ∧ w.heap.size ≤ H

theorem RnP.step {w wr w1 w2 w4 : World} {k n m : Int} {s : ByteArray} {len : Nat} {f : Fr} {A : Option Addr} {cap H j : Nat} {v : Value} {xs : List Value} {L : List Nat} {kk nn : Int} {s' : ByteArray} {kids rest : Fr} {A' : Option Addr} {cap' g cap4 : Nat}
    (h : RnP w k n m s len f A cap H j v wr) (hd : f.drop j = .cons kk nn s' kids rest) (hj : j < f.len) (hD : Desc wr (f.take j) xs L) (hN : L.Nodup) (hL : ∀ x ∈ L, H + 1 + 1 + 1 ≤ x ∧ x < wr.heap.size) (hv : ∀ g, v.ownBlock = some g → g ∉ L)
    (hvl : ∀ g, v.ownBlock = some g → H + 1 + 1 + 1 ≤ g ∧ g < wr.heap.size) (hf : Fits kk nn s') (hm : Made wr kids A' cap' w1) (hb2 : Below w1.heap.size w1 w2) (hg : w2.grownBy w4 v.ownBlock)
    (ho : w4.ownsRow (H + 1 + 1 + 1) 29 4 (.slice (some ⟨g, 0, none⟩) (j + 1) cap4) (j + 1) (xs ++ [.int .i64 kk, .int .i64 nn, .string s', .slice A' kids.len cap'])) (hat : v.ownBlock = some g ∨ g = w2.heap.size) :
    RnP w k n m s len f A cap H (j + 1) (.slice (some ⟨g, 0, none⟩) (j + 1) cap4) (w4.setCell ⟨H + 1 + 1, 3, none⟩ (.slice (some ⟨g, 0, none⟩) (j + 1) cap4)) := by
  obtain ⟨b0, b1, b2, hr, hb, hs, hH⟩ := h
  have hlen : (f.take j).len = j := Fr.len_take j f (by omega)
  have hm' := hm
  obtain ⟨_, _, _, _, hb1⟩ := hm'
  have far : ∀ x, x < H + 1 + 1 + 1 → w4.heap[x]? = wr.heap[x]? := fun x hx => by
    have h1 := hb1.size
    have h2 := hb2.size
    rw [hg.block x (by omega) fun e => by have := (hvl x e.symm).1; omega, hb2.block x (by omega), hb1.block x (by omega)]
  have hbw : Below w.heap.size w w4 := by
    have h1 := hb1.trans (hb2.mono hb1.size)
    have h2 := hb.trans (h1.mono hb.size)
    refine h2.grown hg h2.size fun g hg => ?_
    have := (hvl g hg).1; omega
  have hst := RowP.step (base := H + 1 + 1 + 1) hD hN hL hv (fun g hg => (hvl g hg).2) hs hf hm hb2 hg (by rw [hlen]; exact ho) hat
  rw [hlen, ← Fr.take_succ j f hd] at hst
  refine ⟨(b0.keep (far H (by omega))).far (by simp; omega) _, (b1.keep (far (H + 1) (by omega))).far (by simp) _, (b2.keep (far (H + 1 + 1) (by omega))).set_ 3 _, hst.set_ (by simp) _, hbw.setCell (by simp; omega) _, ?_, hH⟩
  have h1 := hb1.size
  have h2 := hb2.size
  have h3 := hg.size
  simp only [World.setCell, Array.size_modify]
  omega


theorem RnP.below {w wr w1 : World} {k n m : Int} {s : ByteArray} {len : Nat} {f : Fr} {A : Option Addr} {cap H j : Nat} {v : Value} (h : RnP w k n m s len f A cap H j v wr) (hb : Below wr.heap.size wr w1) : RnP w k n m s len f A cap H j v w1 := by
  obtain ⟨b0, b1, b2, hr, hbw, hs, hH⟩ := h
  exact ⟨b0.below hb b0.lt, b1.below hb b1.lt, b2.below hb b2.lt, hr.below hb, hbw.trans (hb.mono hbw.size), Nat.le_trans hs hb.size, hH⟩
theorem RnP.put {w wr : World} {k n m : Int} {s : ByteArray} {len : Nat} {f : Fr} {A : Option Addr} {cap H j : Nat} {v : Value} (h : RnP w k n m s len f A cap H j v wr) (x : Int) : RnP w k n x s len f A cap H j v (wr.setCell ⟨H + 1 + 1, 1, none⟩ (.int .i64 x)) := by
  obtain ⟨b0, b1, b2, hr, hbw, hs, hH⟩ := h
  exact ⟨b0.far (by simp; omega) _, b1.far (by simp) _, b2.set_ 1 _, hr.set_ (by simp) _, hbw.setCell (by simp; omega) _, by simpa [World.setCell] using hs, hH⟩

set_option maxRecDepth 100000 in
set_option maxHeartbeats 8000000 in
theorem rnT_of (s : ByteArray) (f : Fr) (h : ∀ i k n s kids rest, f.drop i = .cons k n s kids rest → RnT s kids) : RnT s f := by
  intro k n A cap lo hi base V vv w hk hh hf hnd hvv hVn hVl
  have hfit0 := renN_fits V hf hVl
  have HK := Lib.hid hk
  have HH := Lib.hid h
  have HHI := Lib.hid hh
  have HND := Lib.hid hnd
  have hl := hk.1
  have hm := hk.2.1
  have hl2 : f.len ≤ 1048576 := by have := len_le_nodes f; omega
  have hst : RnP w k n (midN V k n 0) s f.len (renF V f) A cap w.heap.size 0 (.slice none 0 0) (((w.alloc (.cells #[.int .i64 k, .int .i64 n, .string s, .slice A f.len cap] 29)).alloc (.cells #[.int .i64 0, .int .i64 0, .string ⟨#[]⟩, .slice none 0 0] 29)).alloc (.cells #[.int .i64 k, .int .i64 n, .string s, .slice none 0 0] 29)) := by
    rw [midN_zero]
    refine ⟨((Blk.new w _ _).alloc _).alloc _, ?_, ?_, RowP.nil _ _, (two_alloc w _ _).alloc (by simp; omega) _, by simp, Nat.le_refl _⟩
    · have h := (Blk.new (w.alloc (.cells #[.int .i64 k, .int .i64 n, .string s, .slice A f.len cap] 29)) 29 #[.int .i64 0, .int .i64 0, .string ⟨#[]⟩, .slice none 0 0]).alloc (.cells #[.int .i64 k, .int .i64 n, .string s, .slice none 0 0] 29)
      simpa using h
    · have h := Blk.new ((w.alloc (.cells #[.int .i64 k, .int .i64 n, .string s, .slice A f.len cap] 29)).alloc (.cells #[.int .i64 0, .int .i64 0, .string ⟨#[]⟩, .slice none 0 0] 29)) 29 #[.int .i64 k, .int .i64 n, .string s, .slice none 0 0]
      simpa using h
  unfold maxLen at hm
  have HVV := Lib.hid hvv
  have HVN := Lib.hid hVn
  obtain ⟨A0, cap0, hform, hc0, hm0, hr0⟩ := hvv.read
  have hvlt := hvv.lt
  have HVLT := Lib.hid hvlt
  have HR0 := Lib.hid hr0
  subst hform
  unfold maxLen at hm0
  clear hk h hh hnd hvv hVn hr0 hvlt hfit0
  obtain ⟨i0, hi0, hz0, hz1, hz2⟩ := info_parts infoT
  generalize hn : f.len = len at *
  have HN := Lib.hid hn
  have HST := Lib.hid hst
  clear hn hst
  go_enter Tryd.func60, Tryd.ntmps60
  go_wp2_with fail
  go_loopw [6] (fun i wr => ∃ (j : Nat) (m : Int), j ≤ V.length ∧ i = .int .i64 j ∧ m = midN V k n j ∧ RnP w k n m s len (renF V f) A cap w.heap.size 0 (.slice none 0 0) wr) (fun i _ => V.length - (intOf i).toNat)
  case atStart => exact ⟨0, _, Nat.zero_le _, rfl, rfl, HST.out⟩
  case round =>
    obtain ⟨j, m, hj, rfl, hmid, hp⟩ := hrel
    have HP := Lib.hid hp
    have hbx := hp.2.2.2.2.1
    have a0 := hp.1.cell 0
    have a1 := hp.1.cell 1
    have o1 := hp.2.2.1.cell 1
    have of1 := hp.2.2.1.frozen 1
    simp only [List.getElem?_toArray, List.getElem?_cons_zero, List.getElem?_cons_succ] at a0 a1 o1
    by_cases hgo : j < V.length ∧ k = 1
    · obtain ⟨hlt, rfl⟩ := hgo
      obtain ⟨g, rfl, hown, hg⟩ := HR0.out (by omega)
      have e1 := (hbx.cell (p := ⟨g, j, none⟩) (HVLT.out g (by rw [hown]; simp)).2).trans (hg j hlt).1
      by_cases hxn : V.getD j 0 = n
      · have tx : (n == n) = true := by simp
        rw [hxn] at e1
        have HM : Hid ((j : Int) = midN V 1 n (j + 1)) := Lib.hid (midN_hit V HVN.out n j hlt hxn).symm
        clear hg hown hp hxn hmid
        go_wp2_with fail
        go_quiet (fail)
        go_wp2_with fail
        go_roundw
        case rel => exact ⟨j + 1, _, by omega, by go_num, HM.out, (HP.out.below (w1 := wr.drewN _) ⟨rfl, rfl, rfl, Nat.le_refl _, fun _ _ => rfl⟩).put (j : Int)⟩
        case measure => simp [intOf]; omega
      · have tx : (V.getD j 0 == n) = false := by rw [beq_eq_false_iff_ne]; exact hxn
        have HM : Hid (m = midN V 1 n (j + 1)) := Lib.hid (by rw [midN_miss V n j hlt hxn]; exact hmid)
        generalize V.getD j 0 = x at *
        clear hg hown hp hxn hmid
        go_wp2_with fail
        go_quiet (fail)
        go_wp2_with fail
        go_roundw
        case rel => exact ⟨j + 1, m, by omega, by go_num, HM.out, HP.out.below ⟨rfl, rfl, rfl, Nat.le_refl _, fun _ _ => rfl⟩⟩
        case measure => simp [intOf]; omega
    · have hmr : m = renN V k n := by
        by_cases hk1 : k = 1
        · have : j = V.length := by
            by_cases h : j < V.length
            · exact absurd ⟨h, hk1⟩ hgo
            · omega
          rw [hmid, this, midN_all]
        · rw [hmid, midN_other V k n j hk1]
      have hways : V.length ≤ j ∨ (j < V.length ∧ k ≠ 1) := by
        by_cases h : j < V.length
        · exact .inr ⟨h, fun e => hgo ⟨h, e⟩⟩
        · exact .inl (by omega)
      have HMR := Lib.hid hmr
      clear hgo hmid hmr hp
      have HP0 := HP
      clear HP
      have HW := Lib.hid hways
      clear hways
      rcases HW.out with hway | ⟨hway, hk1⟩
      case' inr => have t1 : (k == 1) = false := by rw [beq_eq_false_iff_ne]; exact hk1
      all_goals
        go_wp2_with fail
        go_loopw [7] (fun i wr => ∃ (j : Nat) (v : Value), j ≤ len ∧ i = .int .i64 j ∧ RnP w k n m s len (renF V f) A cap w.heap.size j v wr) (fun i _ => len - (intOf i).toNat)
        case atStart => exact ⟨0, .slice none 0 0, Nat.zero_le _, rfl, HP0.out⟩
        case round =>
          obtain ⟨j, v, hj, rfl, hp⟩ := hrel
          have HP := Lib.hid hp
          obtain ⟨b0, b1, b2, hr, hb, hs, hH⟩ := hp
          have a3 := b0.cell 3
          simp only [List.getElem?_toArray, List.getElem?_cons_zero, List.getElem?_cons_succ] at a3
          by_cases hlt : j < len
          · obtain ⟨kk, nn, s', kids, hd⟩ := Fr.drop_cons j f (by rw [HN.out]; exact hlt)
            obtain ⟨b, o, rfl, hlb, hbb, hrow⟩ := HK.out.2.2 (by rw [HN.out]; omega)
            obtain ⟨hfit, A', cap', c0, c1, c2, c3, hkid⟩ := hrow.elem hd
            have hlo : (⟨b, o, none⟩ : Addr).block < w.heap.size := Nat.lt_of_lt_of_le hbb HHI.out
            have k0 := (hb.cell (p := ⟨b, o + j * 4, none⟩) hlo).trans c0
            have k1 := (hb.cell (p := ⟨b, o + j * 4 + 1, none⟩) hlo).trans c1
            have k2 := (hb.cell (p := ⟨b, o + j * 4 + 2, none⟩) hlo).trans c2
            have k3 := (hb.cell (p := ⟨b, o + j * 4 + 3, none⟩) hlo).trans c3
            obtain ⟨xs, L, hown, hD, hN, hL, hv⟩ := hr
            rw [Fr.len_take j (renF V f) (by rw [renF_len, HN.out]; omega)] at hown
            have hvl := hown.lt
            have x3 := b2.cell 3
            have xf := b2.frozen 3
            simp only [List.getElem?_toArray, List.getElem?_cons_zero, List.getElem?_cons_succ] at x3
            have hsz : w.heap.size + 1 + 1 < wr.heap.size := by omega
            have C2 : ∀ w1, Below wr.heap.size wr w1 → Calls Tryd.prog 60 #[.agg #[.int .i64 kk, .int .i64 nn, .string s', .slice A' kids.len cap'], .slice A0 V.length cap0] w1 fun e w' => MadeT w1 kk (renN V kk nn) s' (renF V kids) e w' := fun w1 hb1 => by
              have hb2 := hb.trans (hb1.mono hb.size)
              refine HH.out _ _ _ _ _ _ hd kk nn A' cap' lo hi base V _ w1 (hkid.below hb2 HHI.out) (Nat.le_trans HHI.out hb2.size) hfit ?_ (HVV.out.below hb2) HVN.out hVl
              have := nodes_elem j f hd
              have := HND.out
              omega
            have STEP := fun (A2 : Option Addr) (cap2 : Nat) (w1 w2 w4 : World) (g cap4 : Nat) hm hb2 hg ho hat => HP.out.step (w1 := w1) (w2 := w2) (w4 := w4) (A' := A2) (cap' := cap2) (g := g) (cap4 := cap4) (show (renF V f).drop j = .cons kk (renN V kk nn) s' (renF V kids) (renF V (f.drop (j + 1))) by rw [renF_drop, hd]; rfl) (by rw [renF_len, HN.out]; exact hlt) hD hN hL hv hvl (renN_fits V hfit hVl) hm hb2 hg ho hat
            rw [renF_len] at STEP
            unfold MadeT at C2
            rw [renF_len] at C2
            generalize renN V kk nn = nr at *
            have H2 := Lib.hid C2
            have HSTEP := Lib.hid STEP
            have HOWN := Lib.hid hown
            have hne : some (w.heap.size + 1 + 1) ≠ v.ownBlock := fun e => by have := (hvl _ e.symm).1; omega
            have keep : ∀ w2, Below wr.heap.size wr w2 → w2.ownsRow (w.heap.size + 1 + 1 + 1) 29 4 v j xs := fun w2 hb2 =>
              hown.kept (row := none) ⟨hb2.os, hb2.tape, hb2.output, hb2.size, fun k hk _ => hb2.block k hk⟩ (by
                cases h : v.ownBlock with
                | none => exact .inl rfl
                | some g => exact .inr (by simp))
            have HNE := Lib.hid hne
            have HKEEP := Lib.hid keep
            have HB2 := Lib.hid b2
            have hHs : w.heap.size ≤ wr.heap.size := by omega
            have ij0 : (0 : Int) ≤ (j : Int) := Int.natCast_nonneg _
            have ij1 : (j : Int) < (len : Int) := by omega
            clear C2 STEP hown hD hN hL hv hvl hb hH b0 b1 b2 hrow hkid hd c0 c1 c2 c3 hfit hlo hne keep
            go_wp2_with fail
            go_region_law (first
              | (refine step_append_lies _ (by rfl) _ _ _ (by rfl) (w.heap.size + 1 + 1 + 1) 29 i0 _ 4 56 Tryd.underlying27 hi0 hz0 hz1 hz2 rfl (by omega) v j xs (by rfl) (HO2.out.alloc _)
                   ⟨w2.heap.size, 0, none⟩ 1 1 [.int .i64 kk, .int .i64 nr, .string s', .slice A2 kids.len cap2] (by rfl) (by rfl) (World.news_of_block (cs := #[.int .i64 kk, .int .i64 nr, .string s', .slice A2 kids.len cap2]) (fr := (0, 0)) (heap_alloc_new w2 _)) (by simp [Value.oneCell'])
                   (by omega) (by unfold maxLen; omega) (by omega) (by simp; omega) (w2.heap.size + 1) (by simp) ?_
                 intro g cap4 w4 hown4 hgrow hat hlt4
                 have q4 := (HQ2.out.alloc (.cells #[.int .i64 kk, .int .i64 nr, .string s', .slice A2 kids.len cap2] 29)).keep (hgrow.block _ (by simp; omega) HNE.out)
                 have z3 := q4.cell 3
                 have zf := q4.frozen 3
                 simp only [List.getElem?_toArray, List.getElem?_cons_zero, List.getElem?_cons_succ] at z3
                 clear q4
                 have HOWN4 := Lib.hid hown4
                 have HGROW := Lib.hid hgrow
                 have HAT := Lib.hid hat
                 clear hown4 hgrow hat)
              | (go_simp
                 go_at_call 60
                 refine (H2.out _ (Below.refl _ _).drew).mono ?_
                 rintro e w2 ⟨A2, cap2, rfl, hm2⟩
                 have hd2 : Below wr.heap.size wr w2 := (Below.refl wr.heap.size wr).drew.trans (by obtain ⟨L, _, _, _, h⟩ := hm2; exact h)
                 have y3 := (hd2.cell (p := ⟨w.heap.size + 1 + 1, 3, none⟩) hsz).trans x3
                 have hs2 : wr.heap.size ≤ w2.heap.size := hd2.size
                 have HO2 := Lib.hid (HKEEP.out w2 hd2)
                 have HQ2 := Lib.hid (HB2.out.below hd2 hsz)
                 have y4 := (HQ2.out.alloc (.cells #[.int .i64 kk, .int .i64 nr, .string s', .slice A2 kids.len cap2] 29)).cell 3
                 simp only [List.getElem?_toArray, List.getElem?_cons_zero, List.getElem?_cons_succ] at y4
                 have HM := Lib.hid hm2
                 clear hm2 hd2))
            all_goals
              go_wp2_with fail
              go_roundw
              case rel => exact ⟨j + 1, _, by omega, by go_num, HSTEP.out A2 cap2 w2 _ w4 g cap4 (drew_made HM.out) ((Below.refl _ _).alloc (Nat.le_refl _) _) HGROW.out HOWN4.out (by rw [show (w2.alloc (.cells #[.int .i64 kk, .int .i64 nr, .string s', .slice A2 kids.len cap2] 29)).heap.size = w2.heap.size + 1 by simp]; exact HAT.out)⟩
              case measure => simp [intOf]; omega
          · obtain rfl : j = len := by omega
            have x0 := b2.cell 0
            have x1 := b2.cell 1
            have x2 := b2.cell 2
            have x3 := b2.cell 3
            have d0 := b1.cell 0
            have d1 := b1.cell 1
            have d2 := b1.cell 2
            have d3 := b1.cell 3
            have g0 := b1.frozen 0
            have g1 := b1.frozen 1
            have g2 := b1.frozen 2
            have g3 := b1.frozen 3
            simp only [List.getElem?_toArray, List.getElem?_cons_zero, List.getElem?_cons_succ] at x0 x1 x2 x3 d0 d1 d2 d3
            rw [← HN.out, ← renF_len V f, Fr.take_len] at hr
            obtain ⟨A2, cap2, rfl⟩ := hr.form
            have HB1 := Lib.hid b1
            have HR := Lib.hid hr
            have HB := Lib.hid hb
            clear b0 b1 b2 hr hb HP
            go_wp2_with fail
            have e1 := (((HB1.out.set_ 0 (.int .i64 k)).set_ 1 (.int .i64 m)).set_ 2 (.string s)).set_ 3 (.slice A2 (renF V f).len cap2)
            have hr2 := (((HR.out.set_ (p := ⟨w.heap.size + 1, 0, none⟩) (by simp) (.int .i64 k)).set_ (p := ⟨w.heap.size + 1, 1, none⟩) (by simp) (.int .i64 m)).set_ (p := ⟨w.heap.size + 1, 2, none⟩) (by simp) (.string s)).set_ (p := ⟨w.heap.size + 1, 3, none⟩) (by simp) (.slice A2 (renF V f).len cap2)
            rw [← HMR.out]
            refine bodyPost_ret (v := .agg #[.int .i64 k, .int .i64 m, .string s, .slice A2 (renF V f).len cap2]) ?_ rfl ⟨A2, cap2, rfl, hr2.done ?_ (by omega)⟩
            · exact results_cell_row Tryd.results60 _ _ (w.heap.size + 1) _ _ _ _ rfl e1 Tryd.underlying29 rfl (by kernel_rfl)
            · exact (((HB.out.setCell (p := ⟨w.heap.size + 1, 0, none⟩) (by simp) _).setCell (p := ⟨w.heap.size + 1, 1, none⟩) (by simp) _).setCell (p := ⟨w.heap.size + 1, 2, none⟩) (by simp) _).setCell (p := ⟨w.heap.size + 1, 3, none⟩) (by simp) _
theorem rn_all (N : Nat) : ∀ (s : ByteArray) (f : Fr), f.size ≤ N → RnT s f := by
  induction N with
  | zero =>
    intro s f hf
    refine rnT_of s f fun i k n s kids rest hd => ?_
    have h1 := Fr.size_drop i f
    rw [hd] at h1
    simp only [Fr.size] at h1
    omega
  | succ N ih =>
    intro s f hf
    refine rnT_of s f fun i k n s kids rest hd => ih s kids ?_
    have h1 := Fr.size_drop i f
    rw [hd] at h1
    simp only [Fr.size] at h1
    omega
/-- spec.l1Rename. -/
theorem rnT_any (s : ByteArray) (f : Fr) : RnT s f := rn_all f.size s f (Nat.le_refl _)
end Go.Proofs.YtplledmhbbmgiaaDoor
