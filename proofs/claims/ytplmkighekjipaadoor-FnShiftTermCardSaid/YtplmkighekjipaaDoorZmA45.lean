/- impl.VariantTerms. Condition: the terms lie in memory, the table of signs in its variable. -/
import Derived.Test.YtplmkighekjipaaDoorProg
import Derived.Test.YtplmkighekjipaaDoorZmA44
import Derived.Test.YtplmkighekjipaaDoorZmA38
namespace Go.Proofs.YtplmkighekjipaaDoor
open Go.RowKit

theorem validT_shapeJ {k n : Int} {s : ByteArray} {f : Fr} (h : validT k n s f = true) : shapeT k n s f 30 = true := by
  unfold validT at h
  rw [Bool.and_eq_true] at h
  exact h.1
set_option maxRecDepth 100000 in
set_option maxHeartbeats 4000000 in
/-- impl.VariantTerms. -/
theorem implVar_any (k n : Int) (s : ByteArray) (f : Fr) (k' n' : Int) (s' : ByteArray) (g : Fr) (A B : Option Addr) (cap cap' lo hi lo' hi' : Nat) (w : World)
    (hk : KidsAt w lo hi f A cap) (hk' : KidsAt w lo' hi' g B cap') (hh : hi ≤ w.heap.size) (hh' : hi' ≤ w.heap.size) (hf : Fits k n s) (hf' : Fits k' n' s') (hnd : nodes f ≤ 1048576) (hnd' : nodes g ≤ 1048576) (ht : nv.Tab w) :
    Calls Tryd.prog 16 #[.agg #[.int .i64 k, .int .i64 n, .string s, .slice A f.len cap], .agg #[.int .i64 k', .int .i64 n', .string s', .slice B g.len cap']] w fun e w' => e = .returned (.bool (vrB k n s f k' n' s' g)) ∧ Below w.heap.size w w' := by
  have hlt := tab_lt ht
  have C1 := fun w1 (hb : Below w.heap.size w w1) => both_any k n s f k' n' s' g A B cap cap' lo hi lo' hi' w1 (hk.below hb hh) (hk'.below hb hh') (Nat.le_trans hh hb.size) (Nat.le_trans hh' hb.size) hf hf' hnd hnd' (tab_below ht hb hlt)
  have HV : Hid (vrB k n s f k' n' s' g = (validT k n s f && (validT k' n' s' g && vrC k n s f k' n' s' g))) := Lib.hid rfl
  have HC : Hid (vrC k n s f k' n' s' g = eqT k (renN (canV k n f) k n) s (renF (canV k n f) f) k' (renN (canV k' n' g) k' n') s' (renF (canV k' n' g) g)) := Lib.hid rfl
  have HT := Lib.hid (two_alloc w (.cells #[.int .i64 k, .int .i64 n, .string s, .slice A f.len cap] 28) (.cells #[.int .i64 k', .int .i64 n', .string s', .slice B g.len cap'] 28))
  generalize vrB k n s f k' n' s' g = r at *
  have HND := Lib.hid hnd
  have HND' := Lib.hid hnd'
  have H1 := Lib.hid C1
  clear C1 hk hk' hh hh' hf hf' hnd hnd' ht
  have hmf : ∀ (fn : Fn) (first cap : Array Value) (w : World), (Instr.makeFunc fn first cap).run Tryd.prog w = .ok (.func fn first cap) w := fun _ _ _ _ => rfl
  go_enter Tryd.func16, Tryd.ntmps16
  go_wp2_with fail
  refine (H1.out _ HT.out).mono ?_
  rintro e w3 ⟨hb, hr⟩
  have hbw : Below w.heap.size w w3 := HT.out.trans (hb.mono HT.out.size)
  rcases hr with ⟨⟨hok, hok'⟩, v, v', rfl, hv, hv'⟩ | ⟨hok, rfl⟩
  · have hsh := validT_shapeJ hok
    have hsh' := validT_shapeJ hok'
    have HE : Hid (r = vrC k n s f k' n' s' g) := Lib.hid (by rw [HV.out, hok, hok']; rfl)
    have HB3 := Lib.hid hbw
    have hs3 := hbw.size
    have HNV := Lib.hid hv
    have HNV' := Lib.hid hv'
    have HSH := Lib.hid hsh
    have HSH' := Lib.hid hsh'
    obtain ⟨T1, x1, rfl⟩ := hv.iface
    obtain ⟨T2, x2, rfl⟩ := hv'.iface
    clear hb hbw hok hok' hv hv' hsh hsh'
    go_wp2_with fail
    refine (newNum_any w3).mono ?_
    rintro e w4 ⟨rfl, hN, hb4, hs4⟩
    have C2 := nsT_any k n 30 s f (.iface T1 x1) 0 w3.heap.size _ _ _ _ _ w4 HSH.out (HNV.out.keep (fun p _ hp => hb4.cell hp) (Nat.zero_le _) (Nat.le_refl _)) (by omega) (Nat.le_refl _) hN (by omega) (by have := HND.out; simp; omega)
    have H2 := Lib.hid C2
    have HB4 := Lib.hid hb4
    clear hN hb4 C2
    go_wp2_with fail
    refine H2.out.mono ?_
    rintro e w5 ⟨vo, u, rfl, hN5, hw5, _, hn⟩
    have hn1 := hn _ (List.prefix_refl _)
    have hb5 : Below w3.heap.size w3 w5 := HB4.out.trans (hw5.below (by omega) fun x hx => by
      simp [ownV, Value.ownBlock] at hx
      omega)
    have hs5 := hb5.size
    have hs45 := hw5.size
    obtain ⟨T3, x3, rfl⟩ := hn1.iface
    have HN1 := Lib.hid (NdVIn.range (lo := 0) (hi := w5.heap.size) (fun x hx => ⟨Nat.zero_le _, hx.2.1⟩) hn1)
    have HB5 := Lib.hid hb5
    clear hN5 hw5 hn hn1 hb5 H2
    go_wp2_with fail
    refine (newNum_any w5).mono ?_
    rintro e w6 ⟨rfl, hN, hb6, hs6⟩
    have C2 := nsT_any k' n' 30 s' g (.iface T2 x2) 0 w3.heap.size _ _ _ _ _ w6 HSH'.out ((HNV'.out.keep (fun p _ hp => HB5.out.cell hp) (Nat.zero_le _) (Nat.le_refl _)).keep (fun p _ hp => hb6.cell (by omega)) (Nat.zero_le _) (Nat.le_refl _)) (by omega) hs5 hN (by omega) (by have := HND'.out; simp; omega)
    have H2 := Lib.hid C2
    have HB6 := Lib.hid hb6
    clear hN hb6 C2
    go_wp2_with fail
    refine H2.out.mono ?_
    rintro e w7 ⟨vo', u', rfl, hN7, hw7, _, hn⟩
    have hn2 := hn _ (List.prefix_refl _)
    have hb7 : Below w5.heap.size w5 w7 := HB6.out.trans (hw7.below (by omega) fun x hx => by
      simp [ownV, Value.ownBlock] at hx
      omega)
    obtain ⟨T4, x4, rfl⟩ := hn2.iface
    have hn2' := NdVIn.range (lo := 0) (hi := w7.heap.size) (fun x hx => ⟨Nat.zero_le _, hx.2.1⟩) hn2
    have hn1' := HN1.out.keep (w' := w7) (lo' := 0) (hi' := w5.heap.size) (fun p _ hp => hb7.cell hp) (Nat.zero_le _) (Nat.le_refl _)
    have C5 := sameNode_any k (renN (canV k n f) k n) s (renF (canV k n f) f) k' (renN (canV k' n' g) k' n') s' (renF (canV k' n' g) g) 30 _ _ 0 _ 0 _ w7 (shapeT_ren (canV_small HSH.out) HSH.out) (shapeT_ren (canV_small HSH'.out) HSH'.out) hn1' hn2' hb7.size (Nat.le_refl _)
    rw [← HC.out] at C5
    have H5 := Lib.hid C5
    have HB7 := Lib.hid ((HB3.out.trans (HB5.out.mono hs3)).trans (hb7.mono (by omega)))
    clear hN7 hw7 hn hn2 hb7 hn2' hn1' C5 H2
    go_wp2_with fail
    refine H5.out.mono ?_
    rintro e w8 ⟨rfl, hb⟩
    have HB8 := Lib.hid (HB7.out.trans (hb.mono HB7.out.size))
    clear hb
    go_wp2_with fail
    go_ret
    rw [HE.out]; exact ⟨rfl, HB8.out⟩
  · have HE : Hid (r = false) := Lib.hid (by
      rw [HV.out]
      cases h1 : validT k n s f
      · rfl
      · cases h2 : validT k' n' s' g
        · rfl
        · exact absurd ⟨h1, h2⟩ hok)
    have HB := Lib.hid hbw
    clear hb hbw hok
    go_wp2_with fail
    go_ret
    rw [HE.out]; exact ⟨rfl, HB.out⟩
end Go.Proofs.YtplmkighekjipaaDoor

/- Shifting: plain facts for the law. No condition. -/
namespace Go.Proofs.YtplmkighekjipaaDoor
open Go.RowKit

theorem sh_back (V : Int) (f : Fr) : shF (-V) (shF V f) = f := by
  induction f with
  | nil => rfl
  | cons k n s kids rest ihk ihr =>
    simp only [shF, ihk, ihr]
    congr 1
    unfold shN
    split <;> omega
theorem shN_back (V k n : Int) : shN (-V) k (shN V k n) = n := by
  unfold shN
  split <;> omega
theorem add_inj (V : Int) : ∀ a b : Int, a + V = b + V → a = b := fun a b h => by omega
theorem map_contains (V n : Int) (a : List Int) : (a.map (· + V)).contains (n + V) = a.contains n := by
  induction a with
  | nil => rfl
  | cons x xs ih =>
    simp only [List.map_cons, List.contains_cons, ih]
    congr 1
    rw [Bool.eq_iff_iff, beq_iff_eq, beq_iff_eq]
    omega
theorem map_idx (V n : Int) (a : List Int) : (a.map (· + V)).idxOf (n + V) = a.idxOf n := by
  induction a with
  | nil => rfl
  | cons x xs ih =>
    simp only [List.map_cons, List.idxOf_cons, ih]
    have e : (x + V == n + V) = (x == n) := by rw [Bool.eq_iff_iff, beq_iff_eq, beq_iff_eq]; omega
    rw [e]
theorem vars_sh (V : Int) (f : Fr) : ∀ a : List Int, varsF (a.map (· + V)) (shF V f) = (varsF a f).map (· + V) := by
  induction f with
  | nil => intro a; rfl
  | cons k n s kids rest ihk ihr =>
    intro a
    have key : (if k = 1 then addV (a.map (· + V)) (shN V k n) else varsF (a.map (· + V)) (shF V kids)) = (if k = 1 then addV a n else varsF a kids).map (· + V) := by
      by_cases hk : k = 1
      · subst hk
        simp only [if_true]
        unfold addV shN
        rw [if_pos rfl, map_contains]
        split
        · rfl
        · simp
      · simp only [if_neg hk]
        exact ihk a
    show varsF (if k = 1 then addV (a.map (· + V)) (shN V k n) else varsF (a.map (· + V)) (shF V kids)) (shF V rest) = _
    rw [key]
    exact ihr _
theorem renN_sh (V : Int) (W : List Int) (k n : Int) (h : k = 1 → n ∈ W) : renN (W.map (· + V)) k (shN V k n) = renN W k n := by
  by_cases hk : k = 1
  · subst hk
    have h1 := h rfl
    have h2 : n + V ∈ W.map (· + V) := List.mem_map.2 ⟨n, h1, rfl⟩
    unfold renN shN
    rw [if_pos rfl, if_pos ⟨rfl, h2⟩, if_pos ⟨rfl, h1⟩, map_idx]
  · unfold renN shN
    rw [if_neg hk, if_neg (fun e => hk e.1), if_neg (fun e => hk e.1)]
theorem mem_addV (a : List Int) (n : Int) : n ∈ addV a n := by
  unfold addV
  split
  · next hc => simpa using hc
  · simp
theorem varsF_sub (f : Fr) : ∀ a : List Int, ∀ x ∈ a, x ∈ varsF a f := by
  induction f with
  | nil => intro a x hx; exact hx
  | cons k n s kids rest ihk ihr =>
    intro a x hx
    refine ihr _ x ?_
    split
    · unfold addV
      split
      · exact hx
      · exact List.mem_append_left _ hx
    · exact ihk a x hx
theorem ren_sh (V : Int) (W : List Int) (f : Fr) : ∀ (a : List Int) (d : Int), shapeF f d = true → (∀ x ∈ varsF a f, x ∈ W) → renF (W.map (· + V)) (shF V f) = renF W f := by
  induction f with
  | nil => intro a d _ _; rfl
  | cons k n s kids rest ihk ihr =>
    intro a d hs h
    rw [shapeF_cons, Bool.and_eq_true] at hs
    have h' : ∀ x ∈ varsF (if k = 1 then addV a n else varsF a kids) rest, x ∈ W := h
    have hr := ihr _ d hs.2 h'
    have hx : ∀ x ∈ (if k = 1 then addV a n else varsF a kids), x ∈ W := fun x hx => h' x (varsF_sub rest _ x hx)
    have hn : renN (W.map (· + V)) k (shN V k n) = renN W k n := renN_sh V W k n fun hk => hx n (by rw [if_pos hk]; exact mem_addV a n)
    simp only [shF, renF]
    rw [hn, hr]
    by_cases hk : k = 1
    · obtain ⟨_, rfl, _⟩ := shapeT_leaf hs.1 (by omega)
      rfl
    · rw [ihk a (d - 1) (shapeT_kids hs.1) fun x hx' => hx x (by rw [if_neg hk]; exact hx')]
theorem can_sh (V k n : Int) (f : Fr) : canV k (shN V k n) (shF V f) = (canV k n f).map (· + V) := by
  unfold canV varsT
  split
  · next hk => subst hk; unfold addV shN; simp
  · exact vars_sh V f []
/-- A shifted term is a variant. -/
theorem vr_sh {V k n : Int} {s : ByteArray} {f : Fr} (h : validT k n s f = true) (h' : validT k (shN V k n) s (shF V f) = true) : vrB k (shN V k n) s (shF V f) k n s f = true := by
  have hs := validT_shape30 h
  have e1 : renN ((canV k n f).map (· + V)) k (shN V k n) = renN (canV k n f) k n := renN_sh V _ k n fun hk => by subst hk; unfold canV varsT; rw [if_pos rfl]; exact mem_addV [] n
  have e2 : renF ((canV k n f).map (· + V)) (shF V f) = renF (canV k n f) f := by
    by_cases hk : k = 1
    · obtain ⟨_, rfl, _⟩ := shapeT_leaf hs (by omega)
      rfl
    · refine ren_sh V _ f [] (30 - 1) (shapeT_kids hs) fun x hx => ?_
      unfold canV varsT
      rw [if_neg hk]
      exact hx
  unfold vrB vrC
  rw [can_sh, e1, e2, eqT_refl, h, h']
  rfl
/-- What ShiftTerm answers where it answers true. -/
theorem shB_yes {V k n : Int} {s : ByteArray} {f : Fr} (h : shB V k n s f = true) : validT k n s f = true ∧ -25 ≤ V ∧ V ≤ 25 ∧ validT k (shN V k n) s (shF V f) = true ∧ shR V k n s f = ⟨k, shN V k n, s, shF V f⟩ := by
  unfold shR
  rw [if_pos h]
  unfold shB at h
  simp only [Bool.and_eq_true, decide_eq_true_eq] at h
  exact ⟨h.1, h.2.1, h.2.2.1, h.2.2.2, rfl⟩
/-- Shifting back. -/
theorem sh_again {V k n : Int} {s : ByteArray} {f : Fr} (h : shB V k n s f = true) : shB (-V) k (shN V k n) s (shF V f) = true ∧ shR (-V) k (shN V k n) s (shF V f) = ⟨k, n, s, f⟩ := by
  obtain ⟨h1, h2, h3, h4, _⟩ := shB_yes h
  have e : shM (-V) k (shN V k n) s (shF V f) = ⟨k, n, s, f⟩ := by unfold shM; rw [shN_back, sh_back]
  have hb : shB (-V) k (shN V k n) s (shF V f) = true := by
    unfold shB
    rw [h4, e]
    simp only [Bool.true_and, Bool.and_eq_true, decide_eq_true_eq]
    exact ⟨by omega, by omega, h1⟩
  refine ⟨hb, ?_⟩
  unfold shR
  rw [if_pos hb, e]
end Go.Proofs.YtplmkighekjipaaDoor
