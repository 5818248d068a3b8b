/- slices.Insert of one byte within a row of bytes that the call owns. Condition: the byte lies in a block of its own. -/
import Derived.Test.YtmgfndgmebignaaDoorProg
import Derived.Test.YtmgfndgmebignaaDoorZmWR40
import Derived.Shelf.Spec.SlicesInsert
import Derived.Lib.AppendZerosOnto
import Derived.Laws.NewBlocks
namespace Go.Proofs.YtmgfndgmebignaaDoor.wr
open Go.RowKit Go.Lib

theorem blk_setCells (g : Nat) (t : TypeId) : ∀ (vs : List Value) (o : Nat) (w : World) (cur : Array Value), Blk w g t cur → o + vs.length ≤ cur.size → ∃ cur' : Array Value, Blk (w.setCells g o vs) g t cur' ∧ cur'.toList = cur.toList.take o ++ (vs ++ cur.toList.drop (o + vs.length))
  | [], o, w, cur, h, _ => ⟨cur, h, by simp⟩
  | v :: r, o, w, cur, h, hl => by
    simp only [List.length_cons] at hl
    obtain ⟨cur', h1, h2⟩ := blk_setCells g t r (o + 1) (w.setCell ⟨g, o, none⟩ v) (cur.setIfInBounds o v) (h.set_ o v) (by simp; omega)
    refine ⟨cur', h1, ?_⟩
    rw [h2, Array.toList_setIfInBounds, List.take_succ_eq_append_getElem (by simp; omega), List.drop_set_of_lt (by omega)]
    simp [List.take_set_of_le, Nat.add_assoc, Nat.add_comm 1 r.length]
theorem grown_setCells (g : Nat) : ∀ (vs : List Value) (o : Nat) (w : World), w.grownBy (w.setCells g o vs) (some g)
  | [], o, w => ⟨rfl, rfl, rfl, Nat.le_refl _, fun _ _ _ => rfl⟩
  | v :: r, o, w => by
    have h := grown_setCells g r (o + 1) (w.setCell ⟨g, o, none⟩ v)
    have hs : (w.setCell ⟨g, o, none⟩ v).heap.size = w.heap.size := by simp [World.setCell]
    exact ⟨h.os, h.tape, h.output, by have := h.size; rw [hs] at this; exact this, fun k hk hn => (h.block k (by rw [hs]; exact hk) hn).trans (heap_setCell_other _ _ _ _ fun e => hn (by rw [e]))⟩
theorem grown_trans {a b c : World} {g : Option Nat} (h : a.grownBy b g) (k : b.grownBy c g) : a.grownBy c g :=
  ⟨k.os.trans h.os, k.tape.trans h.tape, k.output.trans h.output, Nat.le_trans h.size k.size, fun x hx hn => (k.block x (Nat.lt_of_lt_of_le hx h.size) hn).trans (h.block x hx hn)⟩
theorem ins_list {cur : List Value} {xs : List Value} {n i : Nat} {v : Value} (h : cur.take n = xs) (hl : xs.length = n) (hi : i < n) (L1 L2 : List Value)
    (h1 : L1 = cur.take (i + 1) ++ (xs.drop i ++ cur.drop (i + 1 + (xs.drop i).length))) (h2 : L2 = L1.take i ++ ([v] ++ L1.drop (i + 1))) : L2.take (n + 1) = xs.take i ++ v :: xs.drop i := by
  have hcl : n ≤ cur.length := by
    have := congrArg List.length h
    rw [List.length_take, hl] at this
    omega
  have a1 : L1.take i = xs.take i := by
    rw [h1, List.take_append_of_le_length (by rw [List.length_take]; omega), List.take_take, ← h, List.take_take]
    congr 1
    omega
  have a2 : L1.drop (i + 1) = xs.drop i ++ cur.drop (i + 1 + (xs.drop i).length) := by
    rw [h1, List.drop_append_of_le_length (by rw [List.length_take]; omega), List.drop_eq_nil_of_le (by rw [List.length_take]; omega), List.nil_append]
  rw [h2, a1, a2]
  have e : (xs.take i ++ ([v] ++ (xs.drop i ++ cur.drop (i + 1 + (xs.drop i).length)))) = (xs.take i ++ v :: xs.drop i) ++ cur.drop (i + 1 + (xs.drop i).length) := by simp
  rw [e, List.take_append_of_le_length (by simp only [List.length_append, List.length_take, List.length_cons, List.length_drop]; omega), List.take_of_length_le (by simp only [List.length_append, List.length_take, List.length_cons, List.length_drop]; omega)]

/-- What slices.Insert leaves: the row with one byte more. -/
def InsR (w : World) (base : Nat) (tv : Value) (n : Nat) (xs : List Value) (e : Ending) (w' : World) : Prop :=
  ∃ g cap, e = .returned (.slice (some ⟨g, 0, none⟩) (n + 1) cap) ∧ w'.ownsRow base 5 1 (.slice (some ⟨g, 0, none⟩) (n + 1) cap) (n + 1) xs ∧ w.grownBy w' tv.ownBlock

set_option maxHeartbeats 4000000 in
set_option maxRecDepth 100000 in
/-- slices.Insert where there is room. -/
theorem ins_room (base g n c i vb : Nat) (v : Value) (xs : List Value) (w : World) (hv1 : v.oneCell' = true) (hx1 : ∀ v ∈ xs, v.oneCell' = true) (hi : i < n) (hroom : n + 1 ≤ c) (hvb : vb ≠ g)
    (ho : w.ownsRow base 5 1 (.slice (some ⟨g, 0, none⟩) n c) n xs) (hq : Blk w vb 5 #[v]) :
    Calls Tryd.prog 51 #[.slice (some ⟨g, 0, none⟩) n c, .int .i64 i, .slice (some ⟨vb, 0, none⟩) 1 1] w fun e w' => InsR w base (.slice (some ⟨g, 0, none⟩) n c) n (xs.take i ++ v :: xs.drop i) e w' := by
  have hxl : xs.length = n := by have := ho.1; omega
  obtain ⟨cur, hg, hbg, hcm, hcs, htake⟩ : ∃ cur, Blk w g 5 cur ∧ base ≤ g ∧ c ≤ maxLen ∧ cur.size = c ∧ cur.toList.take n = xs := by
    rcases ho.2 with ⟨h, _⟩ | ⟨g', c', cur, h, hb, hg, h1, h2, h3, h4⟩
    · cases h
    · simp only [Value.slice.injEq, Option.some.injEq, Addr.mk.injEq, and_true] at h
      obtain ⟨rfl, _, rfl⟩ := h
      exact ⟨cur, hg, hb, h2, by omega, by rw [Nat.mul_one] at h4; exact h4⟩
  have hc63 : c ≤ 9223372036854775807 := hcm
  have hcs' : ∀ j u, xs[j]? = some u → w.cell? ⟨g, 0 + j, none⟩ = some u := fun j u hj => by
    rw [Nat.zero_add, hg.cell j, ← Array.getElem?_toList]
    rw [← htake, List.getElem?_take] at hj
    split at hj
    · exact hj
    · cases hj
  have hsp : ∀ j, j < n + 1 → (w.cell? ⟨g, 0 + j, none⟩).isSome = true := fun j hj => by
    rw [Nat.zero_add, hg.cell j, Array.getElem?_eq_getElem (by omega)]; rfl
  have hfz : ∀ j, w.frozen? ⟨g, 0 + j, none⟩ = false := fun j => hg.frozen _
  have hfin : Blk w g 5 cur → InsR w base (.slice (some ⟨g, 0, none⟩) n c) n (xs.take i ++ v :: xs.drop i) (.returned (.slice (some ⟨g, 0, none⟩) (n + 1) c)) ((w.drew.setCells g (i + 1) (xs.drop i)).setCells g i [v]) := fun hg => by
    obtain ⟨c1, b1, l1⟩ := blk_setCells g 5 (xs.drop i) (i + 1) w.drew cur hg (by rw [List.length_drop]; omega)
    have s1 : c1.size = c := by
      have := congrArg List.length l1
      simp only [Array.length_toList, List.length_append, List.length_take, List.length_drop] at this
      omega
    obtain ⟨c2, b2, l2⟩ := blk_setCells g 5 [v] i _ c1 b1 (by simp; omega)
    have s2 : c2.size = c := by
      have := congrArg List.length l2
      simp only [Array.length_toList, List.length_append, List.length_take, List.length_drop, List.length_cons, List.length_nil] at this
      omega
    refine ⟨g, c, rfl, ⟨by simp only [List.length_append, List.length_take, List.length_cons, List.length_drop]; omega, .inr ⟨g, c, c2, rfl, hbg, b2, hroom, hcm, by omega, ?_⟩⟩, ?_⟩
    · rw [Nat.mul_one]
      exact ins_list htake hxl hi c1.toList c2.toList l1 (by simpa using l2)
    · have h1 : w.grownBy w.drew (some g) := ⟨rfl, rfl, rfl, Nat.le_refl _, fun _ _ _ => rfl⟩
      exact grown_trans (grown_trans h1 (grown_setCells g _ _ _)) (grown_setCells g _ _ _)
  have HFIN := Lib.hid (hfin hg)
  have hz2 : ¬ ((i : Int) = (n : Int)) := by omega
  have hsz : (Tryd.prog.info? 5).map (·.size) = some 1 := by
    obtain ⟨i0, hi0, h0, h1, h2⟩ := info_parts infoU8
    rw [hi0]; simp [h1]
  have hsa : w.shape? vb = some (5, 1) := by
    unfold World.shape?
    rw [hq]
    rfl
  have hsb : w.shape? g = some (5, cur.size) := by
    unfold World.shape?
    rw [hg]
  have hov : ∀ lb cb, (callFunc 61 #[.slice (some ⟨vb, 0, none⟩) 1 1, .slice (some ⟨g, 0 + (i + 1), none⟩) lb cb]).run Tryd.prog w = .ok (.value (.bool false)) w := fun lb cb => by
    rw [run_callFunc_extern Tryd.func61 (by kernel_rfl) (by kernel_rfl) (by kernel_rfl) (e := Extern.SlicesOverlaps.overlaps #[43, 43] #[4]) (by kernel_rfl),
      Lib.run_overlaps_apart w 43 4 5 Tryd.underlying43 1 (fun w => by kernel_rfl) ⟨vb, 0, none⟩ ⟨g, 0 + (i + 1), none⟩ 1 1 lb cb hvb 5 5 1 cur.size hsa hsb (by omega) (hq.frozen 0) (hq.frozen 1)]
    rfl
  have hdl : (xs.drop i).length = n - i := by rw [List.length_drop, hxl]
  have hw1 : IntKind.i64.wrap ((i : Int) + 1) = (i : Int) + 1 := by rw [IntKind.wrap_i64]; omega
  have hb1 : (0 : Int) ≤ (i : Int) + 1 := by omega
  have hin : i ≤ n := by omega
  have htn : ((i : Int) + 1).toNat = i + 1 := by omega
  have hb2 : ¬ (c = i + 1) := by omega
  have hb3 : (i : Int) ≤ (n : Int) + 1 := by omega
  have hb4 : ¬ (c = i) := by omega
  have hcp1 : ∀ ty dc sc, (Builtin.copy_ #[43, 43] ty #[.slice (some ⟨g, i + 1, none⟩) (n - i) dc, .slice (some ⟨g, i, none⟩) (n + 1 - i) sc]).run Tryd.prog w.drew = .ok (goInt (xs.drop i).length) (w.drew.setCells g (i + 1) (xs.drop i)) := fun ty dc sc =>
    run_copy_cells w.drew _ _ ty 5 g (i + 1) (n - i) dc ⟨g, i, none⟩ (n + 1 - i) sc (xs.drop i) Tryd.underlying43 hsz (by rw [hdl]; simp only [Nat.min_def]; split <;> omega)
      (fun j u hj => by rw [Addr.add_lit]; have := hcs' (i + j) u (by rwa [List.getElem?_drop] at hj); rwa [Nat.zero_add] at this)
      (fun j hj => by have := hsp (i + 1 + j) (by omega); rwa [Nat.zero_add] at this) (fun j hj => by have := hfz (i + 1 + j); rwa [Nat.zero_add] at this) (fun u hu => hx1 u (List.mem_of_mem_drop hu))
  obtain ⟨W1, hW1⟩ : ∃ W1, W1 = w.drew.setCells g (i + 1) (xs.drop i) := ⟨_, rfl⟩
  have hsp1 : ∀ k, k < n + 1 → (W1.cell? ⟨g, k, none⟩).isSome = true := fun k hk => by
    rw [hW1]
    exact isSome_setCells g _ _ _ (fun j hj => by have := hsp (i + 1 + j) (by omega); rwa [Nat.zero_add] at this) _ (by have := hsp k hk; rwa [Nat.zero_add] at this)
  have hcp2 : ∀ (W : World), (∀ x, W.cell? x = W1.cell? x) → (∀ x, W.frozen? x = W1.frozen? x) → ∀ ty dc, (Builtin.copy_ #[43, 43] ty #[.slice (some ⟨g, i, none⟩) (n + 1 - i) dc, .slice (some ⟨vb, 0, none⟩) 1 1]).run Tryd.prog W = .ok (goInt 1) (W.setCells g i [v]) := fun W hWc hWf ty dc =>
    run_copy_cells W _ _ ty 5 g i (n + 1 - i) dc ⟨vb, 0, none⟩ 1 1 [v] Tryd.underlying43 hsz (by simp only [List.length_cons, List.length_nil, Nat.min_def]; split <;> omega)
      (fun j u hj => by
        rw [Addr.add_lit, hWc, hW1, World.cell?_setCells_out g _ _ _ _ (fun h _ => absurd h hvb)]
        cases j with
        | zero => exact (hq.cell 0).trans (by simpa using hj)
        | succ j => simp at hj)
      (fun j hj => by simp only [List.length_cons, List.length_nil] at hj; rw [hWc]; exact hsp1 _ (by omega)) (fun j hj => by rw [hWf, hW1, World.frozen?_setCells]; have := hfz (i + j); rwa [Nat.zero_add] at this) (fun u hu => by simp at hu; subst hu; exact hv1)
  rw [← hW1] at hcp1
  have HW := Lib.hid hW1
  clear hW1 hfin hsp1 hsz hsa hsb hcs' hsp hfz hdl ho hq hg htake hcs hxl
  simp only [Nat.zero_add] at hov
  go_enter Tryd.func51, Tryd.ntmps51
  go_wp2_with (simp only [hov])
  go_region_law (refine step_copy_runI rfl _ _ 43 43 rfl _ _ (by simp [Act.eval, Act.put]) (by simp [Act.eval, Act.put]) (hcp1 _ _ _) ?_)
  go_wp2_with (at_builtin; refine wpList_copy_runI _ rfl _ _ 43 43 rfl _ _ rfl rfl (hcp2 _ (fun _ => rfl) (fun _ => rfl) _ _) ?_)
  go_ret
  rw [HW.out]
  exact HFIN.out
end Go.Proofs.YtmgfndgmebignaaDoor.wr

/- slices.Insert of one byte within a row of bytes that the call owns: where there is no room, and at every row. Condition: the byte lies in a block of its own. -/
namespace Go.Proofs.YtmgfndgmebignaaDoor.wr
open Go.RowKit Go.Lib

set_option maxHeartbeats 4000000 in
set_option maxRecDepth 100000 in
/-- slices.Insert where there is no room. -/
theorem ins_grow (base g n c i vb : Nat) (v : Value) (xs : List Value) (w : World) (hv1 : v.oneCell' = true) (hx1 : ∀ v ∈ xs, v.oneCell' = true) (hi : i < n) (hnc : n ≤ c) (hroom : c < n + 1) (hbig : n ≤ 1073741824) (hbase : base ≤ w.heap.size)
    (ho : w.ownsRow base 5 1 (.slice (some ⟨g, 0, none⟩) n c) n xs) (hq : Blk w vb 5 #[v]) :
    Calls Tryd.prog 51 #[.slice (some ⟨g, 0, none⟩) n c, .int .i64 i, .slice (some ⟨vb, 0, none⟩) 1 1] w fun e w' => InsR w base (.slice (some ⟨g, 0, none⟩) n c) n (xs.take i ++ v :: xs.drop i) e w' := by
  have hxl : xs.length = n := by have := ho.1; omega
  obtain ⟨cur, hg, hbg, hcm, hcs, htake⟩ : ∃ cur, Blk w g 5 cur ∧ base ≤ g ∧ c ≤ maxLen ∧ cur.size = c ∧ cur.toList.take n = xs := by
    rcases ho.2 with ⟨h, _⟩ | ⟨g', c', cur, h, hb, hg, h1, h2, h3, h4⟩
    · cases h
    · simp only [Value.slice.injEq, Option.some.injEq, Addr.mk.injEq, and_true] at h
      obtain ⟨rfl, _, rfl⟩ := h
      exact ⟨cur, hg, hb, h2, by omega, by rw [Nat.mul_one] at h4; exact h4⟩
  have hc63 : c ≤ 9223372036854775807 := hcm
  have hcs' : ∀ j u, xs[j]? = some u → w.cell? ⟨g, j, none⟩ = some u := fun j u hj => by
    rw [hg.cell j, ← Array.getElem?_toList]
    rw [← htake, List.getElem?_take] at hj
    split at hj
    · exact hj
    · cases hj
  obtain ⟨i0, hi0, hz0, hzs, hzb⟩ := info_parts infoU8
  have hz2 : ¬ ((i : Int) = (n : Int)) := by omega
  have hz3 : (c : Int) < (n : Int) + 1 := by omega
  have hsz : (Tryd.prog.info? 5).map (·.size) = some 1 := by rw [hi0]; simp [hzs]
  have hbw : g < w.heap.size := hg.lt
  have hvw : vb < w.heap.size := hq.lt
  have hkk : (n : Int) + 1 - (i : Int) = ((n + 1 - i : Nat) : Int) := by omega
  have hik : i + (n + 1 - i) = n + 1 := by omega
  have hold : (Builtin.firstCells i0.size i (.slice (some ⟨g, 0, none⟩) i c)).run Tryd.prog w.drew = .ok (xs.take i).toArray w.drew := by
    rw [hzs]
    exact run_firstCells_some w.drew 1 i ⟨g, 0, none⟩ i c (xs.take i) (by rw [List.length_take]; omega) (fun j u hj => by
      rw [Addr.add_lit, Nat.zero_add]
      rw [List.getElem?_take] at hj
      split at hj
      · exact hcs' j u hj
      · cases hj)
  have hrz : ∀ ty, (Builtin.append_ #[43, 3] ty #[.slice (some ⟨g, 0, none⟩) i c, .int .i64 ((n : Int) + 1 - (i : Int))]).run Tryd.prog w =
      .ok (.slice (some ⟨w.heap.size, 0, none⟩) (n + 1) (grownCap w (n + 1) c 5)) (w.drew.alloc (.cells ((xs.take i).toArray ++ Builtin.zeroCells (Value.int .u8 0).cells (n + 1 - i) ++ Builtin.zeroCells (Value.int .u8 0).cells (grownCap w (n + 1) c 5 - (n + 1))) 5)) := fun ty => by
    have h := Lib.run_append_grow_zeros w 43 3 ty 5 i0 _ .i64 .i64 Tryd.underlying43 Tryd.underlying3 hi0 hz0 (some ⟨g, 0, none⟩) i c (xs.take i) hold (n + 1 - i) (by omega) (by omega) (by omega) (by omega) (by rw [hzb]; omega) (by rw [hzb, hik]; exact growslice_fits hroom (by omega))
    rw [hik] at h
    rw [hkk]
    exact h
  have hGn : n + 1 ≤ grownCap w (n + 1) c 5 := grownCap_ge w _ _ _
  have hGm : grownCap w (n + 1) c 5 ≤ maxLen := grownCap_le_maxLen w (n + 1) c 5 (by unfold maxLen; omega)
  generalize grownCap w (n + 1) c 5 = G at *
  have hRS : ((xs.take i).toArray ++ Builtin.zeroCells (Value.int .u8 0).cells (n + 1 - i) ++ Builtin.zeroCells (Value.int .u8 0).cells (G - (n + 1))).size = G := by
    simp [Builtin.zeroCells, Value.cells]
    omega
  have hRT : ((xs.take i).toArray ++ Builtin.zeroCells (Value.int .u8 0).cells (n + 1 - i) ++ Builtin.zeroCells (Value.int .u8 0).cells (G - (n + 1))).toList.take i = xs.take i := by
    simp only [Array.toList_append, List.append_assoc]
    rw [List.take_append_of_le_length (by simp; omega), List.take_of_length_le (by simp; omega)]
  generalize hROW : (xs.take i).toArray ++ Builtin.zeroCells (Value.int .u8 0).cells (n + 1 - i) ++ Builtin.zeroCells (Value.int .u8 0).cells (G - (n + 1)) = ROW at *
  have hfin : InsR w base (.slice (some ⟨g, 0, none⟩) n c) n (xs.take i ++ v :: xs.drop i) (.returned (.slice (some ⟨w.heap.size, 0, none⟩) (n + 1) G)) ((((w.alloc (.cells ROW 5)).drew.setCells w.heap.size i [v]).drew).setCells w.heap.size (i + 1) (xs.drop i)) := by
    obtain ⟨c1, b1, l1⟩ := blk_setCells w.heap.size 5 [v] i (w.alloc (.cells ROW 5)).drew ROW (Blk.new w _ _) (by simp; omega)
    have s1 : c1.size = G := by
      have := congrArg List.length l1
      simp only [Array.length_toList, List.length_append, List.length_take, List.length_drop, List.length_cons, List.length_nil] at this
      omega
    obtain ⟨c2, b2, l2⟩ := blk_setCells w.heap.size 5 (xs.drop i) (i + 1) ((w.alloc (.cells ROW 5)).drew.setCells w.heap.size i [v]).drew c1 b1 (by rw [List.length_drop]; omega)
    have s2 : c2.size = G := by
      have := congrArg List.length l2
      simp only [Array.length_toList, List.length_append, List.length_take, List.length_drop] at this
      omega
    refine ⟨w.heap.size, G, rfl, ⟨by simp only [List.length_append, List.length_take, List.length_cons, List.length_drop]; omega, .inr ⟨w.heap.size, G, c2, rfl, hbase, b2, hGn, hGm, by omega, ?_⟩⟩, ?_⟩
    · rw [Nat.mul_one, l2, l1]
      have e1 : (ROW.toList.take i ++ ([v] ++ ROW.toList.drop (i + [v].length))).take (i + 1) = xs.take i ++ [v] := by
        rw [hRT, ← List.append_assoc, List.take_append_of_le_length (by simp; omega), List.take_of_length_le (by simp; omega)]
      rw [e1, ← List.append_assoc, List.take_append_of_le_length (by simp; omega), List.take_of_length_le (by simp; omega)]
      simp
    · have hb : ∀ (x : World) (vs : List Value) (o : Nat), w.heap.size ≤ x.heap.size → (∀ k, k < w.heap.size → x.heap[k]? = w.heap[k]?) → x.os = w.os → x.tape = w.tape → x.output = w.output → w.grownBy (x.setCells w.heap.size o vs) (some g) := fun x vs o h1 h2 h3 h4 h5 => by
        have h := grown_setCells w.heap.size vs o x
        exact ⟨h.os.trans h3, h.tape.trans h4, h.output.trans h5, Nat.le_trans h1 h.size, fun k hk hn => (h.block k (Nat.lt_of_lt_of_le hk h1) (by simp; omega)).trans (h2 k hk)⟩
      have h1 := grown_setCells w.heap.size [v] i (w.alloc (.cells ROW 5)).drew
      have hb0 : Below w.heap.size w (w.alloc (.cells ROW 5)) := (Below.refl _ _).alloc (Nat.le_refl _) _
      exact hb _ _ _ (Nat.le_trans hb0.size h1.size) (fun k hk => (h1.block k (Nat.lt_of_lt_of_le hk hb0.size) (by simp; omega)).trans (hb0.block k hk)) (h1.os.trans hb0.os) (h1.tape.trans hb0.tape) (h1.output.trans hb0.output)
  have HFIN := Lib.hid hfin
  obtain ⟨W1, hW1⟩ : ∃ W1, W1 = w.drew.alloc (.cells ROW 5) := ⟨_, rfl⟩
  rw [← hW1] at hrz
  have hN : ∀ j, j < n + 1 → (W1.cell? ⟨w.heap.size, j, none⟩).isSome = true := fun j hj => by
    rw [hW1, World.cell?_alloc_at (w := w.drew) ROW _ w.heap.size j rfl, Array.getElem?_eq_getElem (by omega)]; rfl
  have hNf : ∀ j, W1.frozen? ⟨w.heap.size, j, none⟩ = false := fun j => by rw [hW1]; exact World.frozen?_alloc_at (w := w.drew) ROW _ w.heap.size j rfl
  have hOb : ∀ j u, w.cell? ⟨g, j, none⟩ = some u → W1.cell? ⟨g, j, none⟩ = some u := fun j u h => by rw [hW1, World.cell?_alloc_past (w := w.drew) _ g j hbw]; exact h
  have hOv : ∀ j u, w.cell? ⟨vb, j, none⟩ = some u → W1.cell? ⟨vb, j, none⟩ = some u := fun j u h => by rw [hW1, World.cell?_alloc_past (w := w.drew) _ vb j hvw]; exact h
  have hdl : (xs.drop i).length = n - i := by rw [List.length_drop, hxl]
  have hcpA : ∀ (W : World), (∀ x, W.cell? x = W1.cell? x) → (∀ x, W.frozen? x = W1.frozen? x) → ∀ ty dc, (Builtin.copy_ #[43, 43] ty #[.slice (some ⟨w.heap.size, i, none⟩) (n + 1 - i) dc, .slice (some ⟨vb, 0, none⟩) 1 1]).run Tryd.prog W = .ok (goInt 1) (W.setCells w.heap.size i [v]) := fun W hWc hWf ty dc =>
    run_copy_cells W _ _ ty 5 w.heap.size i (n + 1 - i) dc ⟨vb, 0, none⟩ 1 1 [v] Tryd.underlying43 hsz (by simp only [List.length_cons, List.length_nil, Nat.min_def]; split <;> omega)
      (fun j u hj => by
        rw [Addr.add_lit, hWc]
        cases j with
        | zero => exact hOv _ u ((hq.cell 0).trans (by simpa using hj))
        | succ j => simp at hj)
      (fun j hj => by simp only [List.length_cons, List.length_nil] at hj; rw [hWc]; exact hN _ (by omega)) (fun j hj => by rw [hWf]; exact hNf _) (fun u hu => by simp at hu; subst hu; exact hv1)
  have hbN : g ≠ w.heap.size := by omega
  have hcpB : ∀ (W : World), (∀ x, W.cell? x = (W1.setCells w.heap.size i [v]).cell? x) → (∀ x, W.frozen? x = (W1.setCells w.heap.size i [v]).frozen? x) → ∀ ty dc sc, (Builtin.copy_ #[43, 43] ty #[.slice (some ⟨w.heap.size, i + 1, none⟩) (n - i) dc, .slice (some ⟨g, i, none⟩) (n - i) sc]).run Tryd.prog W = .ok (goInt (xs.drop i).length) (W.setCells w.heap.size (i + 1) (xs.drop i)) := fun W hWc hWf ty dc sc =>
    run_copy_cells W _ _ ty 5 w.heap.size (i + 1) (n - i) dc ⟨g, i, none⟩ (n - i) sc (xs.drop i) Tryd.underlying43 hsz (by rw [hdl]; simp only [Nat.min_def]; split <;> omega)
      (fun j u hj => by
        rw [Addr.add_lit, hWc, World.cell?_setCells_out _ _ _ _ _ (fun h _ => absurd h hbN)]
        exact hOb _ u (hcs' (i + j) u (by rwa [List.getElem?_drop] at hj)))
      (fun j hj => by rw [hWc]; exact isSome_setCells _ _ _ _ (fun t ht => hN _ (by simp at ht; omega)) _ (hN _ (by omega)))
      (fun j hj => by rw [hWf, World.frozen?_setCells]; exact hNf _) (fun u hu => hx1 u (List.mem_of_mem_drop hu))
  subst hW1
  have hE1 : ∀ x, ((w.alloc (.cells ROW 5)).drew).cell? x = (w.drew.alloc (.cells ROW 5)).cell? x := fun x => rfl
  have hE2 : ∀ x, ((w.alloc (.cells ROW 5)).drew).frozen? x = (w.drew.alloc (.cells ROW 5)).frozen? x := fun x => rfl
  have hF1 : ∀ x, (((w.alloc (.cells ROW 5)).drew.setCells w.heap.size i [v]).drew).cell? x = ((w.drew.alloc (.cells ROW 5)).setCells w.heap.size i [v]).cell? x := fun x => rfl
  have hF2 : ∀ x, (((w.alloc (.cells ROW 5)).drew.setCells w.heap.size i [v]).drew).frozen? x = ((w.drew.alloc (.cells ROW 5)).setCells w.heap.size i [v]).frozen? x := fun x => rfl
  have hw1 : IntKind.i64.wrap ((i : Int) + 1) = (i : Int) + 1 := by rw [IntKind.wrap_i64]; omega
  have hb1 : (0 : Int) ≤ (i : Int) + 1 := by omega
  have hin : i ≤ n := by omega
  have htn : ((i : Int) + 1).toNat = i + 1 := by omega
  have hb3 : (i : Int) ≤ (n : Int) := by omega
  have hG63 : G ≤ 9223372036854775807 := hGm
  have hGi : ¬ (G = i) := by omega
  have hGim : ¬ (G = i + 1) := by omega
  have hci : ¬ (c = i) := by omega
  clear hkk hik hold hROW hRS hRT hfin hN hNf hOb hOv hdl hsz hcs' ho hq hg htake hcs hxl hGm
  go_enter Tryd.func51, Tryd.ntmps51
  go_wp2_with (first
    | (at_builtin; refine Lib.wpList_append_run _ rfl _ _ _ _ rfl _ _ rfl rfl _ _ (hrz _) ?_)
    | (at_builtin; refine wpList_copy_runI _ rfl _ _ 43 43 rfl _ _ rfl rfl (hcpA _ hE1 hE2 _ _) ?_)
    | (at_builtin; refine wpList_copy_runI _ rfl _ _ 43 43 rfl _ _ rfl rfl (hcpB _ (fun _ => rfl) (fun _ => rfl) _ _ _) ?_))
  go_region_law (refine step_copy_runI rfl _ _ 43 43 rfl (.slice (some ⟨w.heap.size, i + 1, none⟩) (n - i) (G - (i + 1))) (.slice (some ⟨g, i, none⟩) (n - i) (c - i)) (by simp [Act.eval, Act.put]) (by simp [Act.eval, Act.put]) (hcpB _ hF1 hF2 3 (G - (i + 1)) (c - i)) ?_)
  go_wp2_with fail
  go_ret
  exact HFIN.out

/-- slices.Insert of a byte ahead of byte i. -/
theorem ins_any (base n i vb : Nat) (tv v : Value) (xs : List Value) (w : World) (hv1 : v.oneCell' = true) (hx1 : ∀ v ∈ xs, v.oneCell' = true) (hi : i < n) (hbig : n ≤ 1073741824) (hbase : base ≤ w.heap.size) (hvb : some vb ≠ tv.ownBlock)
    (ho : w.ownsRow base 5 1 tv n xs) (hq : Blk w vb 5 #[v]) :
    Calls Tryd.prog 51 #[tv, .int .i64 i, .slice (some ⟨vb, 0, none⟩) 1 1] w fun e w' => InsR w base tv n (xs.take i ++ v :: xs.drop i) e w' := by
  have ho' := ho
  rcases ho.2 with ⟨_, h0⟩ | ⟨g, c, cur, rfl, hb, hg, h1, h2, h3, h4⟩
  · omega
  · by_cases hr : n + 1 ≤ c
    · exact ins_room base g n c i vb v xs w hv1 hx1 hi hr (fun e => hvb (by rw [e]; rfl)) ho' hq
    · exact ins_grow base g n c i vb v xs w hv1 hx1 hi h1 (by omega) hbig hbase ho' hq
end Go.Proofs.YtmgfndgmebignaaDoor.wr
