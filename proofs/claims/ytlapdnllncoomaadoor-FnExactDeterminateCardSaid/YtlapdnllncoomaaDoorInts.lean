/- Rows of integers that a call owns; laws.eqIntS, markIntS, heldIntS. Condition: the rows lie in memory. -/
import Derived.Test.YtlapdnllncoomaaDoorProg
import Derived.Test.YtlapdnllncoomaaDoorMk
import Derived.Laws.OwnMore
import Derived.Deep.AppendLies
import Derived.Deep.QuietTactic
import Derived.BigQuiet
namespace Go.Proofs.YtlapdnllncoomaaDoor
open Go.RowKit

/-- The slice v reads as the integers xs; its block is the call's own, from base on. -/
def OwnI (w : World) (base : Nat) (v : Value) (xs : List Int) : Prop := w.ownsRow base 3 1 v xs.length (xs.map (Value.int .i64))
def ownV (v : Value) : List Nat := v.ownBlock.toList
section
variable {w w' : World} {base : Nat} {v : Value} {xs : List Int}
theorem Wrote.more_new {w w1 w2 : World} {L L' : List Nat} (h : Wrote L w w1) (k : Wrote L' w1 w2) (hL : ∀ x ∈ L', x ∈ L ∨ w.heap.size ≤ x) : Wrote L w w2 :=
  ⟨k.os.trans h.os, k.tape.trans h.tape, k.output.trans h.output, Nat.le_trans h.size k.size, fun x hx hn => (k.block x (Nat.lt_of_lt_of_le hx h.size) fun e => by
    rcases hL x e with h | h
    · exact hn h
    · omega).trans (h.block x hx hn)⟩
theorem Wrote.of_grown {L : List Nat} (h : w.grownBy w' v.ownBlock) (hL : ∀ x ∈ ownV v, x ∈ L) : Wrote L w w' :=
  ⟨h.os, h.tape, h.output, h.size, fun x hx hn => h.block x hx fun e => hn (hL x (by unfold ownV; rw [← e]; simp))⟩
theorem OwnI.lt (h : OwnI w base v xs) : ∀ x ∈ ownV v, base ≤ x ∧ x < w.heap.size := fun x hx => World.ownsRow.lt h x (by unfold ownV at hx; simpa using hx)
theorem OwnI.keep {L : List Nat} (h : OwnI w base v xs) (hb : Wrote L w w') (hL : ∀ x ∈ ownV v, x ∉ L) : OwnI w' base v xs := by
  have hlt := h.lt
  obtain ⟨h1, h2⟩ := h
  refine ⟨h1, ?_⟩
  rcases h2 with h2 | ⟨g, cap, cur, rfl, hg, hh, hr⟩
  · exact .inl h2
  · exact .inr ⟨g, cap, cur, rfl, hg, (hb.block g (hlt g (by simp [ownV, Value.ownBlock])).2 (hL g (by simp [ownV, Value.ownBlock]))).trans hh, hr⟩
theorem OwnI.below (h : OwnI w base v xs) (hb : Below w.heap.size w w') : OwnI w' base v xs := h.keep (.of_below hb []) fun _ _ => by simp
theorem OwnI.mono {base' : Nat} (h : OwnI w base v xs) (hb : base' ≤ base) : OwnI w base' v xs := by
  refine ⟨h.1, ?_⟩
  rcases h.2 with h2 | ⟨g, cap, cur, e, hg, hr⟩
  · exact .inl h2
  · exact .inr ⟨g, cap, cur, e, Nat.le_trans hb hg, hr⟩
theorem OwnI.nil (w : World) (base : Nat) : OwnI w base (.slice none 0 0) [] := World.ownsRow_nil w _ _ _
theorem OwnI.empty (w : World) {base : Nat} (hb : base ≤ w.heap.size) : OwnI (w.alloc (.cells #[] 3)) base (.slice (some ⟨w.heap.size, 0, none⟩) 0 0) [] :=
  ⟨rfl, .inr ⟨w.heap.size, 0, #[], rfl, hb, heap_alloc_new w _, Nat.le_refl _, Nat.zero_le _, rfl, rfl⟩⟩
/-- What reading wants. -/
theorem OwnI.read (h : OwnI w base v xs) : ∃ A cap, v = .slice A xs.length cap ∧ xs.length ≤ cap ∧ cap ≤ maxLen ∧ (0 < xs.length → ∃ g, A = some ⟨g, 0, none⟩ ∧ ownV v = [g] ∧
    ∀ j, j < xs.length → w.cell? ⟨g, j, none⟩ = some (.int .i64 (xs.getD j 0)) ∧ w.frozen? ⟨g, j, none⟩ = false) := by
  have h0 := h
  rcases h.2 with ⟨rfl, hn⟩ | ⟨g, cap, cur, rfl, hg, hh, hr1, hr2, _⟩
  · rw [hn]
    exact ⟨none, 0, rfl, Nat.le_refl _, Nat.zero_le _, fun h => absurd h (by omega)⟩
  · refine ⟨_, cap, rfl, hr1, hr2, fun _ => ⟨g, rfl, rfl, fun j hj => ⟨?_, World.ownsRow.frozenAt h0 j⟩⟩⟩
    rw [World.ownsRow.cellAt h0 j (by omega), List.getElem?_map, List.getElem?_eq_getElem hj]
    simp [List.getD, List.getElem?_eq_getElem hj]
theorem OwnI.stored {g n cap : Nat} (h : OwnI w base (.slice (some ⟨g, 0, none⟩) n cap) xs) (j : Nat) (x : Int) (hn : n = xs.length) : OwnI (w.setCell ⟨g, j, none⟩ (.int .i64 x)) base (.slice (some ⟨g, 0, none⟩) n cap) (xs.set j x) := by
  subst hn
  unfold OwnI at *
  have := World.ownsRow.stored h j (.int .i64 x)
  rw [List.length_set, List.map_set]
  exact this.1
end

/-- The marks k, k+1 .. -/
def mkI (k n : Nat) : List Int := (List.range n).map fun i => ((k + i : Nat) : Int)
theorem mkI_len (k n : Nat) : (mkI k n).length = n := by simp [mkI]
theorem mkI_at (k n j : Nat) (h : j < n) : (mkI k n).getD j 0 = ((k + j : Nat) : Int) := by simp [mkI, List.getD, h]
theorem mkI_step (k j : Nat) (xs : List Int) (h : j < xs.length) : (mkI k j ++ xs.drop j).set j ((k + j : Nat) : Int) = mkI k (j + 1) ++ xs.drop (j + 1) := by
  have e : mkI k (j + 1) = mkI k j ++ [((k + j : Nat) : Int)] := by unfold mkI; rw [List.range_succ]; simp
  rw [e, List.set_append_right _ _ (by rw [mkI_len]; exact Nat.le_refl _), mkI_len, Nat.sub_self, List.drop_eq_getElem_cons h, List.append_assoc]
  rfl

set_option maxHeartbeats 1000000 in
/-- laws.eqIntS on rows that read alike. -/
theorem eqI_any (xs : List Int) (v1 v2 : Value) (b1 b2 : Nat) (w : World) (h1 : OwnI w b1 v1 xs) (h2 : OwnI w b2 v2 xs) :
    Calls Tryd.prog 17 #[v1, v2] w fun e w' => e = .returned (.bool true) ∧ Below w.heap.size w w' := by
  have l1 := h1.lt
  have l2 := h2.lt
  obtain ⟨A, cap, rfl, hc1, hm1, hr1⟩ := h1.read
  obtain ⟨B, cap', rfl, hc2, hm2, hr2⟩ := h2.read
  clear h1 h2
  generalize hn : xs.length = len at *
  unfold maxLen at hm1 hm2
  have H1 := Lib.hid hr1
  have H2 := Lib.hid hr2
  have L1 := Lib.hid l1
  have L2 := Lib.hid l2
  have t0 : ((len : Int) != (len : Int)) = false := by simp
  clear hr1 hr2 l1 l2 hn
  go_enter Tryd.func17, Tryd.ntmps17
  go_wp2_with fail
  go_loopw [5] (fun i wr => ∃ (k : Nat), k ≤ len ∧ i = .int .i64 k ∧ Below w.heap.size w wr) (fun i _ => len - (intOf i).toNat)
  case atStart => exact ⟨0, Nat.zero_le _, rfl, Below.refl _ _⟩
  case round =>
    obtain ⟨k, hk, rfl, hb⟩ := hrel
    by_cases hlt : k < len
    · obtain ⟨g, rfl, ho, hg⟩ := H1.out (by omega)
      obtain ⟨g', rfl, ho', hg'⟩ := H2.out (by omega)
      have e1 := (hb.cell (p := ⟨g, k, none⟩) (L1.out g (by rw [ho]; simp)).2).trans (hg k hlt).1
      have e2 := (hb.cell (p := ⟨g', k, none⟩) (L2.out g' (by rw [ho']; simp)).2).trans (hg' k hlt).1
      generalize xs.getD k 0 = x at *
      have tx : (x != x) = false := by simp
      have HB := Lib.hid hb
      clear hg hg' ho ho' hb
      go_wp2_with fail
      go_quiet (fail)
      go_wp2_with fail
      go_roundw
      case rel => exact ⟨k + 1, by omega, by go_num, HB.out.trans ⟨rfl, rfl, rfl, Nat.le_refl _, fun _ _ => rfl⟩⟩
      case measure => simp [intOf]; omega
    · obtain rfl : k = len := by omega
      have HB := Lib.hid hb
      clear hb
      go_wp2_with fail
      go_ret
      exact ⟨rfl, HB.out⟩

set_option maxHeartbeats 1000000 in
/-- laws.markIntS. -/
theorem markI_any (xs : List Int) (v : Value) (base k0 : Nat) (w : World) (h : OwnI w base v xs) (hk0 : k0 + xs.length ≤ 1099511627776) :
    Calls Tryd.prog 21 #[v, .int .i64 (k0 : Int)] w fun e w' => e = .returned (.int .i64 ((k0 + xs.length : Nat) : Int)) ∧ OwnI w' base v (mkI k0 xs.length) ∧ Wrote (ownV v) w w' := by
  obtain ⟨A, cap, rfl, hc1, hm1, hr1⟩ := h.read
  unfold maxLen at hm1
  have hpos : 0 < xs.length → ∃ g, A = some ⟨g, 0, none⟩ ∧ ownV (.slice A xs.length cap) = [g] := fun hp => by
    obtain ⟨g, h1, h2, _⟩ := hr1 hp
    exact ⟨g, h1, h2⟩
  clear hr1
  have HP := Lib.hid hpos
  have HO := Lib.hid h
  clear hpos h
  generalize hn : xs.length = len at *
  have HN := Lib.hid hn
  clear hn
  go_enter Tryd.func21, Tryd.ntmps21
  go_wp2_with fail
  go_loopw [5, 1] (fun i k wr => ∃ (j : Nat), j ≤ len ∧ i = .int .i64 j ∧ k = .int .i64 ((k0 + j : Nat) : Int) ∧ OwnI wr base (.slice A len cap) (mkI k0 j ++ xs.drop j) ∧ Wrote (ownV (.slice A len cap)) w wr) (fun i _ _ => len - (intOf i).toNat)
  case atStart => exact ⟨0, Nat.zero_le _, rfl, rfl, HO.out, .refl _ _⟩
  case round =>
    obtain ⟨j, hj, rfl, rfl, ho, hw⟩ := hrel
    have hlen : (mkI k0 j ++ xs.drop j).length = len := by rw [List.length_append, mkI_len, List.length_drop, HN.out]; omega
    by_cases hlt : j < len
    · obtain ⟨g, rfl, hown⟩ := HP.out (by omega)
      obtain ⟨A', cap', he, _, _, hr⟩ := ho.read
      obtain ⟨g', e1, _, hcell⟩ := hr (by omega)
      injection he with he1 he2 he3
      rw [← he1] at e1
      injection e1 with e1
      injection e1 with e1
      subst he3
      have c0 := (hcell j (by omega)).1
      have f0 := (hcell j (by omega)).2
      rw [← e1] at c0 f0
      have hst := ho.stored j ((k0 + j : Nat) : Int) hlen.symm
      rw [mkI_step k0 j xs (by rw [HN.out]; exact hlt)] at hst
      have hws := hw.set_ (p := ⟨g, j, none⟩) (.inl (by rw [hown]; simp)) (.int .i64 ((k0 + j : Nat) : Int))
      have HST := Lib.hid hst
      have HWS := Lib.hid hws
      have ek : ((k0 + j : Nat) : Int) + 1 = ((k0 + (j + 1) : Nat) : Int) := by omega
      clear ho hw hown hr hcell he1 he2 hst hws hlen e1
      go_wp2_with fail
      go_roundw
      case rel => exact ⟨j + 1, by omega, by go_num, by go_num, HST.out, HWS.out⟩
      case measure => simp [intOf]; omega
    · obtain rfl : j = len := by omega
      have e : mkI k0 j ++ xs.drop j = mkI k0 j := by rw [List.drop_eq_nil_of_le (by rw [HN.out]; exact Nat.le_refl _), List.append_nil]
      rw [e] at ho
      have H1 := Lib.hid ho
      have H2 := Lib.hid hw
      clear ho hw e hlen
      go_wp2_with fail
      go_ret
      exact ⟨rfl, H1.out, H2.out⟩

set_option maxHeartbeats 1000000 in
/-- laws.heldIntS on a row that holds its marks. -/
theorem heldI_any (k0 len : Nat) (v : Value) (base : Nat) (w : World) (h : OwnI w base v (mkI k0 len)) (hk0 : k0 + len ≤ 1099511627776) :
    Calls Tryd.prog 22 #[v, .int .i64 (k0 : Int)] w fun e w' => e = .returned (.int .i64 ((k0 + len : Nat) : Int)) ∧ Below w.heap.size w w' := by
  have l1 := h.lt
  obtain ⟨A, cap, rfl, hc1, hm1, hr1⟩ := h.read
  rw [mkI_len] at *
  unfold maxLen at hm1
  have H1 := Lib.hid hr1
  have L1 := Lib.hid l1
  clear hr1 l1 h
  go_enter Tryd.func22, Tryd.ntmps22
  go_wp2_with fail
  go_loopw [5, 1] (fun i k wr => ∃ (j : Nat), j ≤ len ∧ i = .int .i64 j ∧ k = .int .i64 ((k0 + j : Nat) : Int) ∧ Below w.heap.size w wr) (fun i _ _ => len - (intOf i).toNat)
  case atStart => exact ⟨0, Nat.zero_le _, rfl, rfl, Below.refl _ _⟩
  case round =>
    obtain ⟨j, hj, rfl, rfl, hb⟩ := hrel
    by_cases hlt : j < len
    · obtain ⟨g, rfl, ho, hg⟩ := H1.out (by omega)
      have e1 := (hb.cell (p := ⟨g, j, none⟩) (L1.out g (by rw [ho]; simp)).2).trans (hg j hlt).1
      rw [mkI_at k0 len j hlt] at e1
      have tx : (((k0 + j : Nat) : Int) != ((k0 + j : Nat) : Int)) = false := by simp
      have HB := Lib.hid hb
      clear hg ho hb
      go_wp2_with fail
      go_roundw
      case rel => exact ⟨j + 1, by omega, by go_num, by go_num, HB.out⟩
      case measure => simp [intOf]; omega
    · obtain rfl : j = len := by omega
      have HB := Lib.hid hb
      clear hb
      go_wp2_with fail
      go_ret
      exact ⟨rfl, HB.out⟩
end Go.Proofs.YtlapdnllncoomaaDoor
