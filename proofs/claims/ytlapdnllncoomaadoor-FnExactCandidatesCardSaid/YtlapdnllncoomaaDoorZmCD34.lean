/- Clauses and programs: what is valid, and the model's ClauseValid, ProgramValid. Condition: the clauses lie in memory. -/
import Derived.Test.YtlapdnllncoomaaDoorProg
import Derived.Test.YtlapdnllncoomaaDoorGoI
import Derived.Test.YtlapdnllncoomaaDoorAll
import Derived.Test.YtlapdnllncoomaaDoorClZ
import Derived.Test.YtlapdnllncoomaaDoorCl
import Derived.Maps.OwnRows
import Derived.Maps.GroupsBeside
import Derived.Maps.Views
import Derived.DeepKeys4
import Derived.ChangeKeys
import Derived.Test.YtlapdnllncoomaaDoorMk
import Derived.Laws.OwnMore
import Derived.Deep.AppendLies
import Derived.Deep.QuietTactic
import Derived.BigQuiet
namespace Go.Proofs.YtlapdnllncoomaaDoor
open Go.RowKit

theorem nodes_wt_le (f : Fr) : nodes f ≤ f.len + wt f := by
  induction f with
  | nil => exact Nat.le_refl _
  | cons k n s kids rest h1 h2 => simp only [nodes, Fr.len, wt]; omega
def allG : Fr → Bool
  | .nil => true
  | .cons k n s kids rest => goalV k n s kids && allG rest
def goalsV (f : Fr) : Bool := decide (f.len ≤ 6) && allG f
def clauseV (c : Cl) : Bool := plainV c.k c.n c.s c.kids && goalsV c.body
def allC : List Cl → Bool
  | [] => true
  | c :: cs => clauseV c && allC cs
def progV (cs : List Cl) : Bool := decide (cs.length ≤ 20) && allC cs

theorem wtC_nodes (c : Cl) : nodes c.kids + nodes c.body ≤ wtC c := by
  have h1 := nodes_wt_le c.kids
  have h2 := nodes_wt_le c.body
  unfold wtC
  omega

set_option maxRecDepth 100000 in
set_option maxHeartbeats 2000000 in
/-- spec.ClauseValid. -/
theorem specCV_any (c : Cl) (A B : Option Addr) (cap capB lo hi : Nat) (w : World) (hk : KidsAt w lo hi c.kids A cap) (hkb : KidsAt w lo hi c.body B capB) (hh : hi ≤ w.heap.size) (hf : Fits c.k c.n c.s) (hnd : nodes c.kids ≤ 1048576) (hndb : nodes c.body ≤ 1048576) :
    Calls Tryd.prog 60 #[.agg #[.int .i64 c.k, .int .i64 c.n, .string c.s, .slice A c.kids.len cap, .slice B c.body.len capB]] w fun e w' => e = .returned (.bool (clauseV c)) ∧ Below w.heap.size w w' := by
  obtain ⟨k, n, s, kids, f⟩ := c
  simp only at *
  have hl : f.len ≤ 1048576 := by have := len_le_nodes f; omega
  have hb0 : Below w.heap.size w (w.alloc (.cells #[.int .i64 k, .int .i64 n, .string s, .slice A kids.len cap, .slice B f.len capB] 68)) := (Below.refl _ _).alloc (Nat.le_refl _) _
  have hq0 := Blk.new w 68 #[.int .i64 k, .int .i64 n, .string s, .slice A kids.len cap, .slice B f.len capB]
  have C1 := fun w1 (hb : Below w.heap.size w w1) => specValid_any k n s kids A cap lo hi w1 (hk.below hb hh) (Nat.le_trans hh hb.size) hf hnd
  have C2 := fun w1 => plain_any k n s A kids.len cap w1 hf.2.2
  have HE : Hid (clauseV ⟨k, n, s, kids, f⟩ = ((validT k n s kids && plainK k s kids.len) && (decide (f.len ≤ 6) && allG f))) := Lib.hid rfl
  generalize validT k n s kids = v1 at *
  generalize plainK k s kids.len = v2 at *
  have HKB := Lib.hid hkb
  have HHI := Lib.hid hh
  have HND := Lib.hid hndb
  have H1 := Lib.hid C1
  have H2 := Lib.hid C2
  have HB0 := Lib.hid hb0
  have HQ0 := Lib.hid hq0
  clear C1 C2 hk hkb hh hf hnd hndb hb0 hq0
  generalize kids.len = kl at *
  generalize hn : f.len = len at *
  have HN := Lib.hid hn
  clear hn
  go_enter Tryd.func60, Tryd.ntmps60
  go_wp2_with fail
  go_loopw [3] (fun i wr => ∃ (j : Nat), j ≤ len ∧ j ≤ 7 ∧ i = .int .i64 j ∧ allG (f.drop j) = allG f ∧ Below (w.alloc (.cells #[.int .i64 k, .int .i64 n, .string s, .slice A kl cap, .slice B len capB] 68)).heap.size (w.alloc (.cells #[.int .i64 k, .int .i64 n, .string s, .slice A kl cap, .slice B len capB] 68)) wr) (fun i _ => 8 - (intOf i).toNat)
  case atStart => exact ⟨0, Nat.zero_le _, by omega, rfl, rfl, Below.refl _ _⟩
  case round =>
    obtain ⟨j, hj, hj7, rfl, hall, hb⟩ := hrel
    have hq := HQ0.out.below hb HQ0.out.lt
    have a0 := hq.cell 0
    have a1 := hq.cell 1
    have a2 := hq.cell 2
    have a3 := hq.cell 3
    have a4 := hq.cell 4
    simp only [List.getElem?_toArray, List.getElem?_cons_zero, List.getElem?_cons_succ] at a0 a1 a2 a3 a4
    have hbw := HB0.out.trans (hb.mono HB0.out.size)
    have HB := Lib.hid hb
    have HBW := Lib.hid hbw
    have HA := Lib.hid hall
    have HQ := Lib.hid hq
    clear hb hall hq
    by_cases hlt : j < len
    · by_cases h6 : j ≤ 6
      · obtain ⟨kk, nn, s', kids', hd⟩ := Fr.drop_cons j f (by rw [HN.out]; exact hlt)
        obtain ⟨b, o, rfl, hlb, hbb, hrow⟩ := HKB.out.2.2 (by rw [HN.out]; omega)
        obtain ⟨hfit, A', cp, c0, c1, c2, c3, hkid⟩ := hrow.elem hd
        have hlo : (⟨b, o, none⟩ : Addr).block < w.heap.size := Nat.lt_of_lt_of_le hbb HHI.out
        have k0 := (hbw.cell (p := ⟨b, o + j * 4, none⟩) hlo).trans c0
        have k1 := (hbw.cell (p := ⟨b, o + j * 4 + 1, none⟩) hlo).trans c1
        have k2 := (hbw.cell (p := ⟨b, o + j * 4 + 2, none⟩) hlo).trans c2
        have k3 := (hbw.cell (p := ⟨b, o + j * 4 + 3, none⟩) hlo).trans c3
        have C3 := specGoal_any kk nn s' kids' A' cp lo hi wr (hkid.below hbw HHI.out) (Nat.le_trans HHI.out hbw.size) hfit (Nat.le_trans (nodes_drop_elem j f hd) HND.out)
        have hA2 := HA.out
        rw [hd] at hA2
        have hA3 : (goalV kk nn s' kids' && allG (f.drop (j + 1))) = allG f := hA2
        generalize goalV kk nn s' kids' = v at *
        have HA3 := Lib.hid hA3
        have H3 := Lib.hid C3
        clear C3 c0 c1 c2 c3 hkid hrow hfit hd hlo hA2 hA3 hbw
        cases v
        · have HV : Hid (clauseV ⟨k, n, s, kids, f⟩ = false) := Lib.hid (by rw [HE.out, ← HA3.out]; simp)
          go_wp2_with fail
          refine H3.out.mono ?_
          rintro e w3 ⟨rfl, hb3⟩
          have HB3 := Lib.hid (HBW.out.trans (hb3.mono HBW.out.size))
          clear hb3
          go_wp2_with fail
          go_ret
          rw [HV.out]; exact ⟨rfl, HB3.out⟩
        · have HA4 : Hid (allG (f.drop (j + 1)) = allG f) := Lib.hid (by rw [← HA3.out]; simp)
          go_wp2_with fail
          refine H3.out.mono ?_
          rintro e w3 ⟨rfl, hb3⟩
          have HB3 := Lib.hid (HB.out.trans (hb3.mono HB.out.size))
          clear hb3
          go_wp2_with fail
          go_roundw
          case rel => exact ⟨j + 1, by omega, by omega, by go_num, HA4.out, HB3.out⟩
          case measure => simp [intOf]; omega
      · have hlen6 : 6 < len := by omega
        have HV : Hid (clauseV ⟨k, n, s, kids, f⟩ = false) := Lib.hid (by rw [HE.out, decide_eq_false (by omega)]; simp)
        have d6 : decide ((len : Int) ≤ 6) = false := decide_eq_false (by omega)
        have e6 : decide ((j : Int) ≤ 6) = false := decide_eq_false (by omega)
        clear hbw
        go_wp2_with fail
        go_ret
        rw [HV.out]; exact ⟨rfl, HBW.out⟩
    · obtain rfl : j = len := by omega
      clear hbw
      by_cases h6 : j ≤ 6
      · have HAL : Hid (allG f = true) := Lib.hid (by
          have h1 := Fr.drop_len f
          rw [HN.out] at h1
          rw [← HA.out, h1]; rfl)
        have d6 : decide ((j : Int) ≤ 6) = true := decide_eq_true (by omega)
        cases v1
        · have HV : Hid (clauseV ⟨k, n, s, kids, f⟩ = false) := Lib.hid (by rw [HE.out]; rfl)
          go_wp2_with fail
          refine (H1.out _ HBW.out).mono ?_
          rintro e w3 ⟨rfl, hb3⟩
          have HB3 := Lib.hid (HBW.out.trans (hb3.mono HBW.out.size))
          clear hb3
          go_wp2_with fail
          go_ret
          rw [HV.out]; exact ⟨rfl, HB3.out⟩
        · have HV : Hid (clauseV ⟨k, n, s, kids, f⟩ = v2) := Lib.hid (by rw [HE.out, HAL.out, decide_eq_true h6]; simp)
          go_wp2_with fail
          refine (H1.out _ HBW.out).mono ?_
          rintro e w3 ⟨rfl, hb3⟩
          have hq3 := HQ.out.below hb3 HQ.out.lt
          have HB3 := Lib.hid (HBW.out.trans (hb3.mono HBW.out.size))
          clear hb3 a0 a1 a2 a3 a4
          have a0 := hq3.cell 0
          have a1 := hq3.cell 1
          have a2 := hq3.cell 2
          have a3 := hq3.cell 3
          simp only [List.getElem?_toArray, List.getElem?_cons_zero, List.getElem?_cons_succ] at a0 a1 a2 a3
          clear hq3
          go_wp2_with fail
          refine (H2.out _).mono ?_
          rintro e w4 ⟨rfl, hb4⟩
          have HB4 := Lib.hid (HB3.out.trans (hb4.mono HB3.out.size))
          clear hb4
          go_wp2_with fail
          go_ret
          rw [HV.out]; exact ⟨rfl, HB4.out⟩
      · have HV : Hid (clauseV ⟨k, n, s, kids, f⟩ = false) := Lib.hid (by rw [HE.out, decide_eq_false h6]; simp)
        have d6 : decide ((j : Int) ≤ 6) = false := decide_eq_false (by omega)
        go_wp2_with fail
        go_ret
        rw [HV.out]; exact ⟨rfl, HBW.out⟩

set_option maxRecDepth 100000 in
set_option maxHeartbeats 2000000 in
/-- spec.ProgramValid. -/
theorem specPV_any (cs : List Cl) (A : Option Addr) (cap lo hi : Nat) (w : World) (hk : ClS w lo hi cs A cap) (hh : hi ≤ w.heap.size) (hnd : cs.length + wtCs cs ≤ 1048576) :
    Calls Tryd.prog 39 #[.slice A cs.length cap] w fun e w' => e = .returned (.bool (progV cs)) ∧ Below w.heap.size w w' := by
  have hl : cs.length ≤ 1048576 := by omega
  have HE : Hid (progV cs = (decide (cs.length ≤ 20) && allC cs)) := Lib.hid rfl
  have HK := Lib.hid hk
  have HHI := Lib.hid hh
  have HND := Lib.hid hnd
  clear hk hh hnd
  generalize hn : cs.length = len at *
  have HN := Lib.hid hn
  clear hn
  go_enter Tryd.func39, Tryd.ntmps39
  go_wp2_with fail
  go_loopw [3] (fun i wr => ∃ (j : Nat), j ≤ len ∧ j ≤ 21 ∧ i = .int .i64 j ∧ allC (cs.drop j) = allC cs ∧ Below w.heap.size w wr) (fun i _ => 22 - (intOf i).toNat)
  case atStart => exact ⟨0, Nat.zero_le _, by omega, rfl, rfl, Below.refl _ _⟩
  case round =>
    obtain ⟨j, hj, hj7, rfl, hall, hbw⟩ := hrel
    have HBW := Lib.hid hbw
    have HA := Lib.hid hall
    clear hall
    by_cases hlt : j < len
    · by_cases h6 : j ≤ 20
      · obtain ⟨c, hd⟩ := drop_cl cs j (by rw [HN.out]; exact hlt)
        obtain ⟨b, o, rfl, hlb, hbb, hrow⟩ := HK.out.2.2 (by rw [HN.out]; omega)
        obtain ⟨hfit, A', cap', B', capB', c0, c1, c2, c3, c4, hkid, hbd⟩ := ClAt.elem j cs b o hrow hd
        have hlo : (⟨b, o, none⟩ : Addr).block < w.heap.size := Nat.lt_of_lt_of_le hbb HHI.out
        have k0 := (hbw.cell (p := ⟨b, o + j * 5, none⟩) hlo).trans c0
        have k1 := (hbw.cell (p := ⟨b, o + j * 5 + 1, none⟩) hlo).trans c1
        have k2 := (hbw.cell (p := ⟨b, o + j * 5 + 2, none⟩) hlo).trans c2
        have k3 := (hbw.cell (p := ⟨b, o + j * 5 + 3, none⟩) hlo).trans c3
        have k4 := (hbw.cell (p := ⟨b, o + j * 5 + 4, none⟩) hlo).trans c4
        have hwe := wtC_le cs j hd
        have hw1 := wtC_nodes c
        have C3 := specCV_any c A' B' cap' capB' lo hi wr (hkid.below hbw HHI.out) (hbd.below hbw HHI.out) (Nat.le_trans HHI.out hbw.size) hfit (by have := HND.out; omega) (by have := HND.out; omega)
        have hA2 := HA.out
        rw [hd] at hA2
        have hA3 : (clauseV c && allC (cs.drop (j + 1))) = allC cs := hA2
        generalize clauseV c = v at *
        have HA3 := Lib.hid hA3
        have H3 := Lib.hid C3
        clear C3 c0 c1 c2 c3 c4 hkid hbd hrow hfit hd hlo hA2 hA3 hbw hwe hw1
        obtain ⟨ck, cn, csx, ckids, cbody⟩ := c
        simp only at *
        cases v
        · have HV : Hid (progV cs = false) := Lib.hid (by rw [HE.out, ← HA3.out]; simp)
          go_wp2_with fail
          refine H3.out.mono ?_
          rintro e w3 ⟨rfl, hb3⟩
          have HB3 := Lib.hid (HBW.out.trans (hb3.mono HBW.out.size))
          clear hb3
          go_wp2_with fail
          go_ret
          rw [HV.out]; exact ⟨rfl, HB3.out⟩
        · have HA4 : Hid (allC (cs.drop (j + 1)) = allC cs) := Lib.hid (by rw [← HA3.out]; simp)
          go_wp2_with fail
          refine H3.out.mono ?_
          rintro e w3 ⟨rfl, hb3⟩
          have HB3 := Lib.hid (HBW.out.trans (hb3.mono HBW.out.size))
          clear hb3
          go_wp2_with fail
          go_roundw
          case rel => exact ⟨j + 1, by omega, by omega, by go_num, HA4.out, HB3.out⟩
          case measure => simp [intOf]; omega
      · have HV : Hid (progV cs = false) := Lib.hid (by rw [HE.out, decide_eq_false (by omega)]; simp)
        have d6 : decide ((len : Int) ≤ 20) = false := decide_eq_false (by omega)
        have e6 : decide ((j : Int) ≤ 20) = false := decide_eq_false (by omega)
        clear hbw
        go_wp2_with fail
        go_ret
        rw [HV.out]; exact ⟨rfl, HBW.out⟩
    · obtain rfl : j = len := by omega
      clear hbw
      have HAL : Hid (allC cs = true) := Lib.hid (by
        rw [← HA.out, List.drop_eq_nil_of_le (by rw [HN.out]; exact Nat.le_refl _)]; rfl)
      by_cases h6 : j ≤ 20
      · have HV : Hid (progV cs = true) := Lib.hid (by rw [HE.out, HAL.out, decide_eq_true h6]; rfl)
        have d6 : decide ((j : Int) ≤ 20) = true := decide_eq_true (by omega)
        go_wp2_with fail
        go_ret
        rw [HV.out]; exact ⟨rfl, HBW.out⟩
      · have HV : Hid (progV cs = false) := Lib.hid (by rw [HE.out, decide_eq_false h6]; rfl)
        have d6 : decide ((j : Int) ≤ 20) = false := decide_eq_false (by omega)
        go_wp2_with fail
        go_ret
        rw [HV.out]; exact ⟨rfl, HBW.out⟩
end Go.Proofs.YtlapdnllncoomaaDoor

/- The keys of the clauses' index: a name and a number of arguments; which clauses stand at a key. No condition. -/
namespace Go.Proofs.YtlapdnllncoomaaDoor
open Go.RowKit Go.WideMaps Go.Maps Go.ChangeShapes
open Classical

theorem laidOutK : laidOutB Tryd.prog = true := by kernel_rfl
theorem rowK : (88 : TypeId) < Tryd.prog.types.size := of_decide_eq_true (by kernel_rfl)
theorem typeK : Tryd.prog.keyType 88 = true := by kernel_rfl
theorem cellsK : Tryd.prog.cellsOf 88 = 2 := by kernel_rfl
set_option maxRecDepth 100000 in
theorem lawK : Keyed Tryd.prog 88 := Keyed.of_law (deep_law_laid laidOutK (m := 3) (by omega) rowK (by kernel_rfl) (by kernel_rfl))
/-- A key that is a struct of a string and a number, in whatever program. -/
theorem key_struct {P : Program} {k ks ki : TypeId} {f0 f1 : Field} (hu : P.underlying k = some (.struct #[f0, f1])) (ht : P.keyType k = true) (hc : P.cellsOf k = 2) (h0 : f0.type = ks) (h1 : f1.type = ki) (o0 : f0.offset = 0) (o1 : f1.offset = 1) (n0 : f0.name ≠ "_") (n1 : f1.name ≠ "_")
    (us : P.underlying ks = some .string) (ui : P.underlying ki = some (.int .i64)) (cs : P.cellsOf ks = 1) (ci : P.cellsOf ki = 1) (d : Nat) (hd : P.types.size = d + 1) (s : ByteArray) (a : Int) (hs : s.size ≤ maxLen) (hw : (Lit.int .i64 a).wf = true) :
    keyOf P k (.agg #[.string s, .int .i64 a]) = some (.string (keyBytes [.string s.data.toList, .int .i64 a])) := by
  unfold keyOf
  simp [hu, ht, Value.formed, hc, hd, Program.keyLits, h0, h1, o0, o1, n0, n1, us, ui, cs, ci, Value.cells, hs, hw]
/-- The key of a name and a number of arguments. -/
def pk (s : ByteArray) (a : Nat) : Lit := .string (keyBytes [.string s.data.toList, .int .i64 (a : Int)])
set_option maxRecDepth 100000 in
theorem sizeK : Tryd.prog.types.size = (Tryd.prog.types.size - 1) + 1 := by
  exact (Nat.sub_add_cancel (Nat.succ_le_of_lt (Nat.lt_of_le_of_lt (Nat.zero_le _) rowK))).symm
set_option maxRecDepth 100000 in
theorem pk_key (s : ByteArray) (a : Nat) (hs : s.size ≤ maxLen) (ha : a ≤ maxLen) : keyOf Tryd.prog 88 (.agg #[.string s, .int .i64 (a : Int)]) = some (pk s a) :=
  key_struct Tryd.underlying88 typeK cellsK rfl rfl rfl rfl (by decide) (by decide) Tryd.underlying9 Tryd.underlying3 (by kernel_rfl) (by kernel_rfl) _ sizeK s a hs (by unfold maxLen at ha; exact WalkArith.wf_i64 (by omega))
theorem pk_inj {s s' : ByteArray} {a a' : Nat} (hs : s.size ≤ maxLen) (ha : a ≤ maxLen) (hs' : s'.size ≤ maxLen) (ha' : a' ≤ maxLen) (h : pk s a = pk s' a') : s = s' ∧ a = a' := by
  have h1 := lawK.inj (pk_key s a hs ha) ((pk_key s' a' hs' ha').trans (by rw [h]))
  simp at h1
  exact ⟨h1.1, by omega⟩

/-- The clauses at a key, counted from i on. -/
noncomputable def idxF : List Cl → Int → Lit → List Int
  | [], _, _ => []
  | c :: cs, i, l => if pk c.s c.kids.len = l then i :: idxF cs (i + 1) l else idxF cs (i + 1) l
theorem idxF_snoc (l : Lit) (c : Cl) : ∀ (cs : List Cl) (i : Int), idxF (cs ++ [c]) i l = idxF cs i l ++ (if pk c.s c.kids.len = l then [i + cs.length] else [])
  | [], i => by
    simp only [List.nil_append, idxF]
    split <;> simp
  | c' :: cs, i => by
    have ih := idxF_snoc l c cs (i + 1)
    have e : i + 1 + (cs.length : Int) = i + ((c' :: cs).length : Nat) := by simp only [List.length_cons]; omega
    rw [e] at ih
    simp only [List.cons_append, idxF, ih]
    split <;> rfl
theorem idxF_len (l : Lit) : ∀ (cs : List Cl) (i : Int), (idxF cs i l).length ≤ cs.length
  | [], _ => Nat.le_refl _
  | c :: cs, i => by
    have := idxF_len l cs (i + 1)
    unfold idxF
    split
    · simp only [List.length_cons]; omega
    · simp only [List.length_cons]; omega
/-- The index D gives the numbers zs at the key l. -/
def HoldsD (D : DataW Unit) (l : Lit) (zs : List Int) : Prop := (zs = [] ∧ D.atKey l .nil = .nil) ∨ (zs ≠ [] ∧ D.atKey l .nil = .slice (lits .i64 zs) [])
theorem lits_inj : ∀ (a b : List Int), (lits .i64 a : List (DataW Unit)) = lits .i64 b → a = b := by
  intro a b h
  have h' := congrArg (List.map fun d : DataW Unit => match d with | .lit (.int _ n) => n | _ => 0) h
  have e : ∀ x : List Int, (lits .i64 x : List (DataW Unit)).map (fun d : DataW Unit => match d with | .lit (.int _ n) => n | _ => 0) = x := by
    intro x
    unfold lits
    rw [List.map_map]
    exact (List.map_congr_left (fun _ _ => rfl)).trans (List.map_id x)
  rw [e, e] at h'
  exact h'
/-- What the look-up hands over is what the index holds. -/
theorem HoldsD.eq {w : World} {base : Nat} {e : TypeId} {v : Value} {zs zs' : List Int} {D : DataW Unit} {l : Lit} (h : HoldsD D l zs) (hat : D.atKey l .nil = rowDatum .i64 v zs') (ho : w.ownsInts base e .i64 v zs') : zs' = zs := by
  rcases ho.datum (H := Unit) with ⟨h1, h2⟩ | h1
  · rw [h1] at hat
    rcases h with ⟨rfl, _⟩ | ⟨_, h3⟩
    · exact h2
    · rw [hat] at h3; cases h3
  · rw [h1] at hat
    rcases h with ⟨_, h3⟩ | ⟨_, h3⟩
    · rw [hat] at h3; cases h3
    · rw [hat] at h3
      injection h3 with h4 _
      exact lits_inj _ _ h4
theorem HoldsD.step {w : World} {base : Nat} {e : TypeId} {v' : Value} {D : DataW Unit} {cs : List Cl} {c : Cl} (hD : ∀ l, HoldsD D l (idxF cs 0 l)) (hM : IsMap D) (ho : w.ownsInts base e .i64 v' (idxF cs 0 (pk c.s c.kids.len) ++ [(cs.length : Int)])) :
    ∀ l, HoldsD (D.put (pk c.s c.kids.len) (rowDatum .i64 v' (idxF cs 0 (pk c.s c.kids.len) ++ [(cs.length : Int)]))) l (idxF (cs ++ [c]) 0 l) := by
  intro l
  rw [idxF_snoc]
  rw [ho.datum_pos (H := Unit) (by simp)]
  by_cases h : pk c.s c.kids.len = l
  · subst h
    rw [if_pos rfl, Int.zero_add]
    refine .inr ⟨by simp, ?_⟩
    exact atKey_put_same hM (by trivial) _ _
  · rw [if_neg h, List.append_nil]
    rcases hD l with ⟨h1, h2⟩ | ⟨h1, h2⟩
    · exact .inl ⟨h1, by rw [atKey_put_other (fun e => h e.symm), h2]⟩
    · exact .inr ⟨h1, by rw [atKey_put_other (fun e => h e.symm), h2]⟩
end Go.Proofs.YtlapdnllncoomaaDoor

/- Rows of integers that a call owns; laws.eqIntS, markIntS, heldIntS. Condition: the rows lie in memory. -/
namespace Go.Proofs.YtlapdnllncoomaaDoor
open Go.RowKit

/-- The slice v reads as the integers xs; its block is the call's own, from base on. -/
def OwnI (w : World) (base : Nat) (v : Value) (xs : List Int) : Prop := w.ownsRow base 3 1 v xs.length (xs.map (Value.int .i64))
def ownV (v : Value) : List Nat := v.ownBlock.toList
section
variable {w w' : World} {base : Nat} {v : Value} {xs : List Int}
theorem Wrote.more_new {w w1 w2 : World} {L L' : List Nat} (h : Wrote L w w1) (k : Wrote L' w1 w2) (hL : ∀ x ∈ L', x ∈ L ∨ w.heap.size ≤ x) : Wrote L w w2 :=
  ⟨k.os.trans h.os, k.tape.trans h.tape, k.output.trans h.output, Nat.le_trans h.size k.size, fun x hx hn => (k.block x (Nat.lt_of_lt_of_le hx h.size) fun e => by
    rcases hL x e with h | h
    · exact hn h
    · omega).trans (h.block x hx hn)⟩
theorem Wrote.of_grown {L : List Nat} (h : w.grownBy w' v.ownBlock) (hL : ∀ x ∈ ownV v, x ∈ L) : Wrote L w w' :=
  ⟨h.os, h.tape, h.output, h.size, fun x hx hn => h.block x hx fun e => hn (hL x (by unfold ownV; rw [← e]; simp))⟩
theorem OwnI.lt (h : OwnI w base v xs) : ∀ x ∈ ownV v, base ≤ x ∧ x < w.heap.size := fun x hx => World.ownsRow.lt h x (by unfold ownV at hx; simpa using hx)
theorem OwnI.keep {L : List Nat} (h : OwnI w base v xs) (hb : Wrote L w w') (hL : ∀ x ∈ ownV v, x ∉ L) : OwnI w' base v xs := by
  have hlt := h.lt
  obtain ⟨h1, h2⟩ := h
  refine ⟨h1, ?_⟩
  rcases h2 with h2 | ⟨g, cap, cur, rfl, hg, hh, hr⟩
  · exact .inl h2
  · exact .inr ⟨g, cap, cur, rfl, hg, (hb.block g (hlt g (by simp [ownV, Value.ownBlock])).2 (hL g (by simp [ownV, Value.ownBlock]))).trans hh, hr⟩
theorem OwnI.below (h : OwnI w base v xs) (hb : Below w.heap.size w w') : OwnI w' base v xs := h.keep (.of_below hb []) fun _ _ => by simp
theorem OwnI.mono {base' : Nat} (h : OwnI w base v xs) (hb : base' ≤ base) : OwnI w base' v xs := by
  refine ⟨h.1, ?_⟩
  rcases h.2 with h2 | ⟨g, cap, cur, e, hg, hr⟩
  · exact .inl h2
  · exact .inr ⟨g, cap, cur, e, Nat.le_trans hb hg, hr⟩
theorem OwnI.nil (w : World) (base : Nat) : OwnI w base (.slice none 0 0) [] := World.ownsRow_nil w _ _ _
theorem OwnI.empty (w : World) {base : Nat} (hb : base ≤ w.heap.size) : OwnI (w.alloc (.cells #[] 3)) base (.slice (some ⟨w.heap.size, 0, none⟩) 0 0) [] :=
  ⟨rfl, .inr ⟨w.heap.size, 0, #[], rfl, hb, heap_alloc_new w _, Nat.le_refl _, Nat.zero_le _, rfl, rfl⟩⟩
/-- What reading wants. -/
theorem OwnI.read (h : OwnI w base v xs) : ∃ A cap, v = .slice A xs.length cap ∧ xs.length ≤ cap ∧ cap ≤ maxLen ∧ (0 < xs.length → ∃ g, A = some ⟨g, 0, none⟩ ∧ ownV v = [g] ∧
    ∀ j, j < xs.length → w.cell? ⟨g, j, none⟩ = some (.int .i64 (xs.getD j 0)) ∧ w.frozen? ⟨g, j, none⟩ = false) := by
  have h0 := h
  rcases h.2 with ⟨rfl, hn⟩ | ⟨g, cap, cur, rfl, hg, hh, hr1, hr2, _⟩
  · rw [hn]
    exact ⟨none, 0, rfl, Nat.le_refl _, Nat.zero_le _, fun h => absurd h (by omega)⟩
  · refine ⟨_, cap, rfl, hr1, hr2, fun _ => ⟨g, rfl, rfl, fun j hj => ⟨?_, World.ownsRow.frozenAt h0 j⟩⟩⟩
    rw [World.ownsRow.cellAt h0 j (by omega), List.getElem?_map, List.getElem?_eq_getElem hj]
    simp [List.getD, List.getElem?_eq_getElem hj]
theorem OwnI.stored {g n cap : Nat} (h : OwnI w base (.slice (some ⟨g, 0, none⟩) n cap) xs) (j : Nat) (x : Int) (hn : n = xs.length) : OwnI (w.setCell ⟨g, j, none⟩ (.int .i64 x)) base (.slice (some ⟨g, 0, none⟩) n cap) (xs.set j x) := by
  subst hn
  unfold OwnI at *
  have := World.ownsRow.stored h j (.int .i64 x)
  rw [List.length_set, List.map_set]
  exact this.1
end

/-- The marks k, k+1 .. -/
def mkI (k n : Nat) : List Int := (List.range n).map fun i => ((k + i : Nat) : Int)
theorem mkI_len (k n : Nat) : (mkI k n).length = n := by simp [mkI]
theorem mkI_at (k n j : Nat) (h : j < n) : (mkI k n).getD j 0 = ((k + j : Nat) : Int) := by simp [mkI, List.getD, h]
theorem mkI_step (k j : Nat) (xs : List Int) (h : j < xs.length) : (mkI k j ++ xs.drop j).set j ((k + j : Nat) : Int) = mkI k (j + 1) ++ xs.drop (j + 1) := by
  have e : mkI k (j + 1) = mkI k j ++ [((k + j : Nat) : Int)] := by unfold mkI; rw [List.range_succ]; simp
  rw [e, List.set_append_right _ _ (by rw [mkI_len]; exact Nat.le_refl _), mkI_len, Nat.sub_self, List.drop_eq_getElem_cons h, List.append_assoc]
  rfl

set_option maxHeartbeats 1000000 in
/-- laws.eqIntS on rows that read alike. -/
theorem eqI_any (xs : List Int) (v1 v2 : Value) (b1 b2 : Nat) (w : World) (h1 : OwnI w b1 v1 xs) (h2 : OwnI w b2 v2 xs) :
    Calls Tryd.prog 17 #[v1, v2] w fun e w' => e = .returned (.bool true) ∧ Below w.heap.size w w' := by
  have l1 := h1.lt
  have l2 := h2.lt
  obtain ⟨A, cap, rfl, hc1, hm1, hr1⟩ := h1.read
  obtain ⟨B, cap', rfl, hc2, hm2, hr2⟩ := h2.read
  clear h1 h2
  generalize hn : xs.length = len at *
  unfold maxLen at hm1 hm2
  have H1 := Lib.hid hr1
  have H2 := Lib.hid hr2
  have L1 := Lib.hid l1
  have L2 := Lib.hid l2
  have t0 : ((len : Int) != (len : Int)) = false := by simp
  clear hr1 hr2 l1 l2 hn
  go_enter Tryd.func17, Tryd.ntmps17
  go_wp2_with fail
  go_loopw [5] (fun i wr => ∃ (k : Nat), k ≤ len ∧ i = .int .i64 k ∧ Below w.heap.size w wr) (fun i _ => len - (intOf i).toNat)
  case atStart => exact ⟨0, Nat.zero_le _, rfl, Below.refl _ _⟩
  case round =>
    obtain ⟨k, hk, rfl, hb⟩ := hrel
    by_cases hlt : k < len
    · obtain ⟨g, rfl, ho, hg⟩ := H1.out (by omega)
      obtain ⟨g', rfl, ho', hg'⟩ := H2.out (by omega)
      have e1 := (hb.cell (p := ⟨g, k, none⟩) (L1.out g (by rw [ho]; simp)).2).trans (hg k hlt).1
      have e2 := (hb.cell (p := ⟨g', k, none⟩) (L2.out g' (by rw [ho']; simp)).2).trans (hg' k hlt).1
      generalize xs.getD k 0 = x at *
      have tx : (x != x) = false := by simp
      have HB := Lib.hid hb
      clear hg hg' ho ho' hb
      go_wp2_with fail
      go_quiet (fail)
      go_wp2_with fail
      go_roundw
      case rel => exact ⟨k + 1, by omega, by go_num, HB.out.trans ⟨rfl, rfl, rfl, Nat.le_refl _, fun _ _ => rfl⟩⟩
      case measure => simp [intOf]; omega
    · obtain rfl : k = len := by omega
      have HB := Lib.hid hb
      clear hb
      go_wp2_with fail
      go_ret
      exact ⟨rfl, HB.out⟩

set_option maxHeartbeats 1000000 in
/-- laws.markIntS. -/
theorem markI_any (xs : List Int) (v : Value) (base k0 : Nat) (w : World) (h : OwnI w base v xs) (hk0 : k0 + xs.length ≤ 1099511627776) :
    Calls Tryd.prog 21 #[v, .int .i64 (k0 : Int)] w fun e w' => e = .returned (.int .i64 ((k0 + xs.length : Nat) : Int)) ∧ OwnI w' base v (mkI k0 xs.length) ∧ Wrote (ownV v) w w' := by
  obtain ⟨A, cap, rfl, hc1, hm1, hr1⟩ := h.read
  unfold maxLen at hm1
  have hpos : 0 < xs.length → ∃ g, A = some ⟨g, 0, none⟩ ∧ ownV (.slice A xs.length cap) = [g] := fun hp => by
    obtain ⟨g, h1, h2, _⟩ := hr1 hp
    exact ⟨g, h1, h2⟩
  clear hr1
  have HP := Lib.hid hpos
  have HO := Lib.hid h
  clear hpos h
  generalize hn : xs.length = len at *
  have HN := Lib.hid hn
  clear hn
  go_enter Tryd.func21, Tryd.ntmps21
  go_wp2_with fail
  go_loopw [5, 1] (fun i k wr => ∃ (j : Nat), j ≤ len ∧ i = .int .i64 j ∧ k = .int .i64 ((k0 + j : Nat) : Int) ∧ OwnI wr base (.slice A len cap) (mkI k0 j ++ xs.drop j) ∧ Wrote (ownV (.slice A len cap)) w wr) (fun i _ _ => len - (intOf i).toNat)
  case atStart => exact ⟨0, Nat.zero_le _, rfl, rfl, HO.out, .refl _ _⟩
  case round =>
    obtain ⟨j, hj, rfl, rfl, ho, hw⟩ := hrel
    have hlen : (mkI k0 j ++ xs.drop j).length = len := by rw [List.length_append, mkI_len, List.length_drop, HN.out]; omega
    by_cases hlt : j < len
    · obtain ⟨g, rfl, hown⟩ := HP.out (by omega)
      obtain ⟨A', cap', he, _, _, hr⟩ := ho.read
      obtain ⟨g', e1, _, hcell⟩ := hr (by omega)
      injection he with he1 he2 he3
      rw [← he1] at e1
      injection e1 with e1
      injection e1 with e1
      subst he3
      have c0 := (hcell j (by omega)).1
      have f0 := (hcell j (by omega)).2
      rw [← e1] at c0 f0
      have hst := ho.stored j ((k0 + j : Nat) : Int) hlen.symm
      rw [mkI_step k0 j xs (by rw [HN.out]; exact hlt)] at hst
      have hws := hw.set_ (p := ⟨g, j, none⟩) (.inl (by rw [hown]; simp)) (.int .i64 ((k0 + j : Nat) : Int))
      have HST := Lib.hid hst
      have HWS := Lib.hid hws
      have ek : ((k0 + j : Nat) : Int) + 1 = ((k0 + (j + 1) : Nat) : Int) := by omega
      clear ho hw hown hr hcell he1 he2 hst hws hlen e1
      go_wp2_with fail
      go_roundw
      case rel => exact ⟨j + 1, by omega, by go_num, by go_num, HST.out, HWS.out⟩
      case measure => simp [intOf]; omega
    · obtain rfl : j = len := by omega
      have e : mkI k0 j ++ xs.drop j = mkI k0 j := by rw [List.drop_eq_nil_of_le (by rw [HN.out]; exact Nat.le_refl _), List.append_nil]
      rw [e] at ho
      have H1 := Lib.hid ho
      have H2 := Lib.hid hw
      clear ho hw e hlen
      go_wp2_with fail
      go_ret
      exact ⟨rfl, H1.out, H2.out⟩

set_option maxHeartbeats 1000000 in
/-- laws.heldIntS on a row that holds its marks. -/
theorem heldI_any (k0 len : Nat) (v : Value) (base : Nat) (w : World) (h : OwnI w base v (mkI k0 len)) (hk0 : k0 + len ≤ 1099511627776) :
    Calls Tryd.prog 22 #[v, .int .i64 (k0 : Int)] w fun e w' => e = .returned (.int .i64 ((k0 + len : Nat) : Int)) ∧ Below w.heap.size w w' := by
  have l1 := h.lt
  obtain ⟨A, cap, rfl, hc1, hm1, hr1⟩ := h.read
  rw [mkI_len] at *
  unfold maxLen at hm1
  have H1 := Lib.hid hr1
  have L1 := Lib.hid l1
  clear hr1 l1 h
  go_enter Tryd.func22, Tryd.ntmps22
  go_wp2_with fail
  go_loopw [5, 1] (fun i k wr => ∃ (j : Nat), j ≤ len ∧ i = .int .i64 j ∧ k = .int .i64 ((k0 + j : Nat) : Int) ∧ Below w.heap.size w wr) (fun i _ _ => len - (intOf i).toNat)
  case atStart => exact ⟨0, Nat.zero_le _, rfl, rfl, Below.refl _ _⟩
  case round =>
    obtain ⟨j, hj, rfl, rfl, hb⟩ := hrel
    by_cases hlt : j < len
    · obtain ⟨g, rfl, ho, hg⟩ := H1.out (by omega)
      have e1 := (hb.cell (p := ⟨g, j, none⟩) (L1.out g (by rw [ho]; simp)).2).trans (hg j hlt).1
      rw [mkI_at k0 len j hlt] at e1
      have tx : (((k0 + j : Nat) : Int) != ((k0 + j : Nat) : Int)) = false := by simp
      have HB := Lib.hid hb
      clear hg ho hb
      go_wp2_with fail
      go_roundw
      case rel => exact ⟨j + 1, by omega, by go_num, by go_num, HB.out⟩
      case measure => simp [intOf]; omega
    · obtain rfl : j = len := by omega
      have HB := Lib.hid hb
      clear hb
      go_wp2_with fail
      go_ret
      exact ⟨rfl, HB.out⟩
end Go.Proofs.YtlapdnllncoomaaDoor
