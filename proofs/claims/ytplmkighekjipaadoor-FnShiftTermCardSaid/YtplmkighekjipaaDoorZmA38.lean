/- spec.ShiftTerm, impl.ShiftTerm. Condition: the term lies in memory, the table of signs in its variable. -/
import Derived.Test.YtplmkighekjipaaDoorProg
import Derived.Test.YtplmkighekjipaaDoorZmA34
import Derived.Test.YtplmkighekjipaaDoorZmA36
import Derived.Test.YtplmkighekjipaaDoorZmA37
import Derived.Test.YtplmkighekjipaaDoorZmA21
import Derived.Test.YtplmkighekjipaaDoorZmA23
import Derived.Test.YtplmkighekjipaaDoorZmA33
import Derived.Test.YtplmkighekjipaaDoorZmA27
namespace Go.Proofs.YtplmkighekjipaaDoor
open Go.RowKit

/-- The shifted term, and what both ShiftTerm answer. -/
def shM (V k n : Int) (s : ByteArray) (f : Fr) : Nd := ⟨k, shN V k n, s, shF V f⟩
def shB (V k n : Int) (s : ByteArray) (f : Fr) : Bool := validT k n s f && (decide (-25 ≤ V) && (decide (V ≤ 25) && vtB (shM V k n s f)))
def shR (V k n : Int) (s : ByteArray) (f : Fr) : Nd := if shB V k n s f = true then shM V k n s f else nd0

theorem shift_ef : ∀ args w, (callFunc 57 args).run Tryd.prog w = .ok (.enter 57 args) w := fun _ _ => by kernel_rfl
def shOut (V : Int) (_ : Unit) (n : Int) : Nd := ⟨1, n + V, ⟨#[]⟩, .nil⟩

set_option maxHeartbeats 1000000 in
/-- The function that ShiftTerm hands on: it adds what lies in block b. -/
theorem shift_rep (V : Int) (b : Nat) (hV : -25 ≤ V ∧ V ≤ 25) : RepC (α := Unit) 57 #[] #[.pointer (some ⟨b, 0, none⟩)] (fun w _ Q => Q = [] ∧ w.cell? ⟨b, 0, none⟩ = some (.int .i64 V) ∧ b < w.heap.size) (fun x => x = b) (b + 1) (fun _ => 0) (fun a _ => a) (shOut V) where
  keep := fun {w w' a Q L} h hw hL => ⟨h.1, (hw.cell h.2.2 fun e => (hL _ e).2 rfl).trans h.2.1, Nat.lt_of_lt_of_le h.2.2 hw.size⟩
  lt := fun {w a Q} h x hx => by rw [h.1] at hx; cases hx
  old := fun x hx => by omega
  len := fun _ _ => Nat.zero_le _
  call := fun a Q n w h hB _ hn => by
    obtain ⟨rfl, hc, hb⟩ := h
    have HR : Hid (∃ (Q' : List Nat) (v : Value), (Ending.returned (.iface 56 (.int .i64 (n + V))) = .returned v) ∧ (Q' = [] ∧ w.cell? ⟨b, 0, none⟩ = some (.int .i64 V) ∧ b < w.heap.size) ∧ Wrote [] w w ∧ (∀ x ∈ Q', x ∈ ([] : List Nat) ∨ w.heap.size ≤ x) ∧ NdVIn w (Fresh3 (fun x => x = b) w.heap.size w.heap.size Q') (shOut V a n).k (shOut V a n).n (shOut V a n).s (shOut V a n).f v) :=
      Lib.hid ⟨[], _, rfl, ⟨rfl, hc, hb⟩, .refl _ _, (fun x hx => nomatch hx), .inl ⟨rfl, rfl⟩⟩
    go_enter Tryd.func57, Tryd.ntmps57
    go_wp2_with fail
    go_ret
    exact HR.out

theorem rp_shift (V : Int) (f : Fr) : ∀ d, shapeF f d = true → rpF (fun (a : Unit) _ => a) (shOut V) () f = shF V f := by
  induction f with
  | nil => intro d _; rfl
  | cons k n s kids rest ihk ihr =>
    intro d h
    rw [shapeF_cons, Bool.and_eq_true] at h
    rw [rpF_cons]
    have h2 := ihr d h.2
    unfold rpT shF shN
    by_cases hk : k = 1
    · subst hk
      obtain ⟨rfl, rfl, _⟩ := shapeT_leaf h.1 (by omega)
      rw [if_pos rfl, if_pos rfl, h2]
      rfl
    · rw [if_neg hk, if_neg hk, h2, ihk (d - 1) (shapeT_kids h.1)]
theorem rpT_shift (V : Int) {k n : Int} {s : ByteArray} {f : Fr} {d : Int} (h : shapeT k n s f d = true) : rpT (fun (a : Unit) _ => a) (shOut V) () k n s f = shM V k n s f := by
  unfold rpT shM shN
  by_cases hk : k = 1
  · subst hk
    obtain ⟨rfl, rfl, _⟩ := shapeT_leaf h (by omega)
    rw [if_pos rfl, if_pos rfl]; rfl
  · rw [if_neg hk, if_neg hk, rp_shift V f (d - 1) (shapeT_kids h)]
/-- What is shifted has the fields of nodes. -/
theorem wf_shift (V : Int) (hV : -25 ≤ V ∧ V ≤ 25) {k n : Int} {s : ByteArray} {f : Fr} {d : Int} (h : shapeT k n s f d = true) : wfT k (shN V k n) s f.len = true := by
  have hk := shapeT_kind h
  by_cases h3 : k = 3
  · subst h3
    obtain ⟨rfl, hn, _⟩ := shapeT_struct h
    unfold wfT shN
    rw [hn]; simp
  · obtain ⟨rfl, rfl, hn⟩ := shapeT_leaf h h3
    unfold wfT shN
    rcases (show k = 1 ∨ k = 2 by omega) with rfl | rfl
    · rw [if_pos rfl, decide_eq_true (show (-9223372036854775808 : Int) ≤ n + V by omega), decide_eq_true (show n + V ≤ 9223372036854775807 by omega)]
      rfl
    · rw [if_neg (by omega), decide_eq_true (show (-999 : Int) ≤ n by omega), decide_eq_true (show n ≤ 999 by omega)]
      rfl
theorem wfF_shift (V : Int) (hV : -25 ≤ V ∧ V ≤ 25) (f : Fr) : ∀ d, shapeF f d = true → wfF (shF V f) = true := by
  induction f with
  | nil => intro d _; rfl
  | cons k n s kids rest ihk ihr =>
    intro d h
    rw [shapeF_cons, Bool.and_eq_true] at h
    show (wfT k (shN V k n) s (shF V kids).len && wfF (shF V kids) && wfF (shF V rest)) = true
    rw [shF_len, wf_shift V hV h.1, ihk (d - 1) (shapeT_kids h.1), ihr d h.2]
    rfl
theorem validT_shape30 {k n : Int} {s : ByteArray} {f : Fr} (h : validT k n s f = true) : shapeT k n s f 30 = true := by
  unfold validT at h
  rw [Bool.and_eq_true] at h
  exact h.1
theorem shB_bad {V k n : Int} {s : ByteArray} {f : Fr} (h : validT k n s f = false ∨ V < -25 ∨ 25 < V) : shB V k n s f = false ∧ shR V k n s f = nd0 := by
  have e : shB V k n s f = false := by
    unfold shB
    rcases h with h | h | h
    · rw [h]; rfl
    · rw [decide_eq_false (show ¬ -25 ≤ V by omega)]; simp
    · rw [decide_eq_false (show ¬ V ≤ 25 by omega)]; simp
  exact ⟨e, by unfold shR; rw [e]; rfl⟩
theorem shB_good {V k n : Int} {s : ByteArray} {f : Fr} (h : validT k n s f = true) (hV : -25 ≤ V ∧ V ≤ 25) : shB V k n s f = vtB (shM V k n s f) ∧ shR V k n s f = vtF (shM V k n s f) := by
  have e : shB V k n s f = vtB (shM V k n s f) := by
    unfold shB
    rw [h, decide_eq_true hV.1, decide_eq_true hV.2]; simp
  exact ⟨e, by unfold shR vtF; rw [e]⟩

set_option maxRecDepth 100000 in
set_option maxHeartbeats 1000000 in
/-- impl.shifted. -/
theorem shifted_any (V k n : Int) (s : ByteArray) (f : Fr) (d : Int) (v : Value) (lo hi : Nat) (w : World) (hsh : shapeT k n s f d = true) (hV : -25 ≤ V ∧ V ≤ 25) (hv : NdV w lo hi k n s f v) (hh : hi ≤ w.heap.size) (hnd : nodes f ≤ 1048576) :
    Calls Tryd.prog 30 #[v, .int .i64 V] w fun e w' => ∃ v3, e = .returned v3 ∧ Below w.heap.size w w' ∧ NdV w' w.heap.size w'.heap.size k (shN V k n) s (shF V f) v3 := by
  have hb0 : Below w.heap.size w (w.alloc (.cells #[.int .i64 V] 56)) := (Below.refl _ _).alloc (Nat.le_refl _) _
  have hq0 := Blk.new w 56 #[.int .i64 V]
  have v0 := hq0.cell 0
  simp only [List.getElem?_toArray, List.getElem?_cons_zero] at v0
  have hs0 := hq0.lt
  have C2 := rpT_any shift_ef (shift_rep V w.heap.size hV) s f k n d v lo hi () [] _ hsh (hv.keep (fun p _ hp => hb0.cell (by omega)) (Nat.le_refl _) (Nat.le_refl _)) (Nat.le_trans hh hb0.size) (fun x hx => nomatch hx) ⟨rfl, v0, hs0⟩ (by omega) (by show 0 + nodes f ≤ 2097152; omega)
  rw [rpT_shift V hsh] at C2
  obtain ⟨T1, x1, rfl⟩ := hv.iface
  have H2 := Lib.hid C2
  have HB0 := Lib.hid hb0
  clear C2 hsh hv hb0 hq0 v0 hs0 hnd
  have hmf : ∀ (fn : Fn) (first cap : Array Value) (w : World), (Instr.makeFunc fn first cap).run Tryd.prog w = .ok (.func fn first cap) w := fun _ _ _ _ => rfl
  go_enter Tryd.func30, Tryd.ntmps30
  go_wp2_with fail
  refine H2.out.mono ?_
  rintro e w3 ⟨Q3, v3, rfl, _, hw3, _, hv3⟩
  have hb3 : Below w.heap.size w w3 := HB0.out.trans (hw3.below HB0.out.size fun x hx => nomatch hx)
  have hv3' : NdV w3 w.heap.size w3.heap.size k (shN V k n) s (shF V f) v3 := hv3.range (lo := w.heap.size) (hi := w3.heap.size) fun x hx => ⟨by
    have h0 := HB0.out.size
    rcases hx.1 with h | h
    · subst h; exact Nat.le_refl _
    · omega, hx.2.1⟩
  obtain ⟨T3, x3, rfl⟩ := hv3.iface
  have HF := Lib.hid (And.intro hb3 hv3')
  clear hb3 hv3' hw3 hv3 H2
  go_wp2_with fail
  go_ret
  exact ⟨_, rfl, HF.out⟩

set_option maxRecDepth 100000 in
set_option maxHeartbeats 4000000 in
/-- impl.ShiftTerm. -/
theorem implShift_any (k n : Int) (s : ByteArray) (f : Fr) (A : Option Addr) (cap : Nat) (V : Int) (lo hi : Nat) (w : World) (hk : KidsAt w lo hi f A cap) (hh : hi ≤ w.heap.size) (hf : Fits k n s) (hnd : nodes f ≤ 1048576) (ht : nv.Tab w) :
    Calls Tryd.prog 10 #[.agg #[.int .i64 k, .int .i64 n, .string s, .slice A f.len cap], .int .i64 V] w fun e w' => TbRes w (shR V k n s f) (shB V k n s f) e w' := by
  have hlt := tab_lt ht
  have C1 := fun w1 (hb : Below w.heap.size w w1) => nodeOf_any k n s f A cap lo hi w1 (hk.below hb hh) (Nat.le_trans hh hb.size) hf hnd (tab_below ht hb hlt)
  have q0 : RC w (w.heap.size + 1) ((w.alloc (.cells #[.int .i64 k, .int .i64 n, .string s, .slice A f.len cap] 28)).alloc (.cells #[.int .i64 0, .int .i64 0, .string ⟨#[]⟩, .slice none 0 0] 28)) := by
    refine ⟨?_, by omega, two_alloc w _ _⟩
    have h := Blk.new (w.alloc (.cells #[.int .i64 k, .int .i64 n, .string s, .slice A f.len cap] 28)) 28 #[.int .i64 0, .int .i64 0, .string ⟨#[]⟩, .slice none 0 0]
    simpa using h
  have H1 := Lib.hid C1
  have HQ := Lib.hid q0
  have HND := Lib.hid hnd
  clear C1 hk hf hnd ht q0
  go_enter Tryd.func10, Tryd.ntmps10
  go_wp2_with fail
  generalize (w.alloc (.cells #[.int .i64 k, .int .i64 n, .string s, .slice A f.len cap] 28)).alloc (.cells #[.int .i64 0, .int .i64 0, .string ⟨#[]⟩, .slice none 0 0] 28) = w1 at *
  refine (H1.out _ HQ.out.2.2).mono ?_
  rintro e w2 ⟨hb, hr⟩
  have q2 : RC w (w.heap.size + 1) w2 := HQ.out.below hb
  obtain ⟨d0, d1, d2, d3⟩ := cells4i q2.1
  obtain ⟨f0, f1, f2, f3⟩ := frozen4 q2.1
  have HQ2 := Lib.hid q2
  clear hb q2 H1 HQ
  rcases hr with ⟨hok, v, rfl, hv⟩ | ⟨hok, rfl⟩
  rotate_left
  · have HE := Lib.hid (shB_bad (V := V) (.inl hok))
    clear hok
    go_wp2_with fail
    rw [HE.out.1, HE.out.2]
    refine bodyPost_ret (v := .tuple #[.agg #[.int .i64 0, .int .i64 0, .string ⟨#[]⟩, .slice none 0 0], .bool false]) ?_ rfl (HQ2.out.no _ _ _ _)
    exact results_cell_row2 Tryd.results10 _ _ (w.heap.size + 1) _ _ _ _ rfl (set4 HQ2.out.1 _ _ _ _) Tryd.underlying28 rfl (by kernel_rfl)
  · rcases (show V < -25 ∨ (-25 ≤ V ∧ 25 < V) ∨ (-25 ≤ V ∧ V ≤ 25) by omega) with r | ⟨r0, r⟩ | r
    · have HE := Lib.hid (shB_bad (V := V) (k := k) (n := n) (s := s) (f := f) (.inr (.inl r)))
      obtain ⟨T1, x1, rfl⟩ := hv.iface
      clear hok hv
      go_wp2_with fail
      rw [HE.out.1, HE.out.2]
      refine bodyPost_ret (v := .tuple #[.agg #[.int .i64 0, .int .i64 0, .string ⟨#[]⟩, .slice none 0 0], .bool false]) ?_ rfl (HQ2.out.no _ _ _ _)
      exact results_cell_row2 Tryd.results10 _ _ (w.heap.size + 1) _ _ _ _ rfl (set4 HQ2.out.1 _ _ _ _) Tryd.underlying28 rfl (by kernel_rfl)
    · have HE := Lib.hid (shB_bad (V := V) (k := k) (n := n) (s := s) (f := f) (.inr (.inr r)))
      obtain ⟨T1, x1, rfl⟩ := hv.iface
      clear hok hv
      go_wp2_with fail
      rw [HE.out.1, HE.out.2]
      refine bodyPost_ret (v := .tuple #[.agg #[.int .i64 0, .int .i64 0, .string ⟨#[]⟩, .slice none 0 0], .bool false]) ?_ rfl (HQ2.out.no _ _ _ _)
      exact results_cell_row2 Tryd.results10 _ _ (w.heap.size + 1) _ _ _ _ rfl (set4 HQ2.out.1 _ _ _ _) Tryd.underlying28 rfl (by kernel_rfl)
    · have hsh := validT_shape30 hok
      have HE := Lib.hid (shB_good hok r)
      have C2 := shifted_any V k n s f 30 v _ _ w2 hsh r hv (Nat.le_refl _) HND.out
      have C3 := fun v' lo hi w3 (hv : NdV w3 lo hi k (shN V k n) s (shF V f) v') (hh : hi ≤ w3.heap.size) => vt_any (shM V k n s f) v' lo hi w3 (by show wfT k (shN V k n) s (shF V f).len = true; rw [shF_len]; exact wf_shift V r hsh) (wfF_shift V r f 29 (shapeT_kids hsh)) hv hh (by show nodes (shF V f) ≤ 1048576; rw [shF_nodes]; exact HND.out)
      obtain ⟨T1, x1, rfl⟩ := hv.iface
      have H2 := Lib.hid C2
      have H3 := Lib.hid C3
      clear C2 C3 hsh hok hv
      obtain ⟨r1, r2⟩ := r
      go_wp2_with fail
      refine H2.out.mono ?_
      rintro e w3 ⟨v3, rfl, hb3, hv3⟩
      have hv3' : NdV w3 0 w3.heap.size k (shN V k n) s (shF V f) v3 := hv3.keep (fun _ _ _ => rfl) (Nat.zero_le _) (Nat.le_refl _)
      have C4 := H3.out v3 _ _ w3 hv3' (Nat.le_refl _)
      have q3 := HQ2.out.below hb3
      obtain ⟨T3, x3, rfl⟩ := hv3.iface
      have H4 := Lib.hid C4
      have HQ3 := Lib.hid q3
      clear hb3 hv3 hv3' C4 q3 H2 H3 HQ2 d0 d1 d2 d3 f0 f1 f2 f3
      go_wp2_with fail
      refine H4.out.mono ?_
      rintro e w4 ⟨A4, c4, rfl, hm⟩
      have q4 := HQ3.out.below (made_below hm)
      obtain ⟨d0, d1, d2, d3⟩ := cells4i q4.1
      obtain ⟨f0, f1, f2, f3⟩ := frozen4 q4.1
      generalize vtF (shM V k n s f) = m at *
      generalize vtB (shM V k n s f) = ok at *
      obtain ⟨mk, mn, ms, mf⟩ := m
      have HY := Lib.hid (HQ3.out.yes (k := mk) (n := mn) (s := ms) hm (.int .i64 mk) (.int .i64 mn) (.string ms) (.slice A4 mf.len c4) ok)
      have HQ4 := Lib.hid q4
      clear q4 hm HQ3 H4
      go_wp2_with fail
      rw [HE.out.1, HE.out.2]
      refine bodyPost_ret (v := .tuple #[.agg #[.int .i64 mk, .int .i64 mn, .string ms, .slice A4 mf.len c4], .bool ok]) ?_ rfl HY.out
      exact results_cell_row2 Tryd.results10 _ _ (w.heap.size + 1) _ _ _ _ rfl (set4 HQ4.out.1 _ _ _ _) Tryd.underlying28 rfl (by kernel_rfl)
end Go.Proofs.YtplmkighekjipaaDoor

/- spec.l1Renumber, spec.RenumberTerms. Condition: the row lies in memory. -/
namespace Go.Proofs.YtplmkighekjipaaDoor
open Go.RowKit

theorem addV_nodup {acc : List Int} (h : acc.Nodup) (n : Int) : (addV acc n).Nodup := by
  unfold addV
  split
  · exact h
  · rename_i hn
    have hm : n ∉ acc := fun e => hn (List.contains_iff_mem.2 e)
    refine List.nodup_append.2 ⟨h, by simp, fun a ha b hb e => ?_⟩
    have hb' : b = n := by simpa using hb
    subst e hb'
    exact hm ha
theorem varsF_nodup (f : Fr) : ∀ acc : List Int, acc.Nodup → (varsF acc f).Nodup := by
  induction f with
  | nil => intro acc h; exact h
  | cons k n s kids rest ihk ihr =>
    intro acc h
    simp only [varsF]
    refine ihr _ ?_
    split
    · exact addV_nodup h n
    · exact ihk acc h
theorem made_below' {w w2 : World} {f : Fr} {A : Option Addr} {cap : Nat} (h : Made w f A cap w2) : Below w.heap.size w w2 := by
  obtain ⟨L, _, _, _, h4⟩ := h
  exact h4
/-- The variables of the terms of a row. -/
def allVars (f : Fr) : List Int := varsF [] f

end Go.Proofs.YtplmkighekjipaaDoor
