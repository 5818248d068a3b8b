/- slices.Insert of one byte within a row of bytes that the call owns. Condition: the byte lies in a block of its own. -/
import Derived.Test.YtihmgodiiohdnaaGreatDoorProg
import Derived.Test.YtihmgodiiohdnaaGreatDoorZmPP50
import Derived.Shelf.Spec.SlicesInsert
import Derived.Lib.AppendZerosOnto
import Derived.Laws.NewBlocks
import Derived.Test.YtihmgodiiohdnaaGreatDoorZmPP46
import Derived.Test.YtihmgodiiohdnaaGreatDoorZmPP47
namespace Go.Proofs.YtihmgodiiohdnaaGreatDoor.wr
open Go.RowKit Go.Lib

theorem blk_setCells (g : Nat) (t : TypeId) : ∀ (vs : List Value) (o : Nat) (w : World) (cur : Array Value), Blk w g t cur → o + vs.length ≤ cur.size → ∃ cur' : Array Value, Blk (w.setCells g o vs) g t cur' ∧ cur'.toList = cur.toList.take o ++ (vs ++ cur.toList.drop (o + vs.length))
  | [], o, w, cur, h, _ => ⟨cur, h, by simp⟩
  | v :: r, o, w, cur, h, hl => by
    simp only [List.length_cons] at hl
    obtain ⟨cur', h1, h2⟩ := blk_setCells g t r (o + 1) (w.setCell ⟨g, o, none⟩ v) (cur.setIfInBounds o v) (h.set_ o v) (by simp; omega)
    refine ⟨cur', h1, ?_⟩
    rw [h2, Array.toList_setIfInBounds, List.take_succ_eq_append_getElem (by simp; omega), List.drop_set_of_lt (by omega)]
    simp [List.take_set_of_le, Nat.add_assoc, Nat.add_comm 1 r.length]
theorem grown_setCells (g : Nat) : ∀ (vs : List Value) (o : Nat) (w : World), w.grownBy (w.setCells g o vs) (some g)
  | [], o, w => ⟨rfl, rfl, rfl, Nat.le_refl _, fun _ _ _ => rfl⟩
  | v :: r, o, w => by
    have h := grown_setCells g r (o + 1) (w.setCell ⟨g, o, none⟩ v)
    have hs : (w.setCell ⟨g, o, none⟩ v).heap.size = w.heap.size := by simp [World.setCell]
    exact ⟨h.os, h.tape, h.output, by have := h.size; rw [hs] at this; exact this, fun k hk hn => (h.block k (by rw [hs]; exact hk) hn).trans (heap_setCell_other _ _ _ _ fun e => hn (by rw [e]))⟩
theorem grown_trans {a b c : World} {g : Option Nat} (h : a.grownBy b g) (k : b.grownBy c g) : a.grownBy c g :=
  ⟨k.os.trans h.os, k.tape.trans h.tape, k.output.trans h.output, Nat.le_trans h.size k.size, fun x hx hn => (k.block x (Nat.lt_of_lt_of_le hx h.size) hn).trans (h.block x hx hn)⟩
theorem ins_list {cur : List Value} {xs : List Value} {n i : Nat} {v : Value} (h : cur.take n = xs) (hl : xs.length = n) (hi : i < n) (L1 L2 : List Value)
    (h1 : L1 = cur.take (i + 1) ++ (xs.drop i ++ cur.drop (i + 1 + (xs.drop i).length))) (h2 : L2 = L1.take i ++ ([v] ++ L1.drop (i + 1))) : L2.take (n + 1) = xs.take i ++ v :: xs.drop i := by
  have hcl : n ≤ cur.length := by
    have := congrArg List.length h
    rw [List.length_take, hl] at this
    omega
  have a1 : L1.take i = xs.take i := by
    rw [h1, List.take_append_of_le_length (by rw [List.length_take]; omega), List.take_take, ← h, List.take_take]
    congr 1
    omega
  have a2 : L1.drop (i + 1) = xs.drop i ++ cur.drop (i + 1 + (xs.drop i).length) := by
    rw [h1, List.drop_append_of_le_length (by rw [List.length_take]; omega), List.drop_eq_nil_of_le (by rw [List.length_take]; omega), List.nil_append]
  rw [h2, a1, a2]
  have e : (xs.take i ++ ([v] ++ (xs.drop i ++ cur.drop (i + 1 + (xs.drop i).length)))) = (xs.take i ++ v :: xs.drop i) ++ cur.drop (i + 1 + (xs.drop i).length) := by simp
  rw [e, List.take_append_of_le_length (by simp only [List.length_append, List.length_take, List.length_cons, List.length_drop]; omega), List.take_of_length_le (by simp only [List.length_append, List.length_take, List.length_cons, List.length_drop]; omega)]

/-- What slices.Insert leaves: the row with one byte more. -/
def InsR (w : World) (base : Nat) (tv : Value) (n : Nat) (xs : List Value) (e : Ending) (w' : World) : Prop :=
  ∃ g cap, e = .returned (.slice (some ⟨g, 0, none⟩) (n + 1) cap) ∧ w'.ownsRow base 5 1 (.slice (some ⟨g, 0, none⟩) (n + 1) cap) (n + 1) xs ∧ w.grownBy w' tv.ownBlock

set_option maxHeartbeats 4000000 in
set_option maxRecDepth 100000 in
/-- slices.Insert where there is room. -/
theorem ins_room (base g n c i vb : Nat) (v : Value) (xs : List Value) (w : World) (hv1 : v.oneCell' = true) (hx1 : ∀ v ∈ xs, v.oneCell' = true) (hi : i < n) (hroom : n + 1 ≤ c) (hvb : vb ≠ g)
    (ho : w.ownsRow base 5 1 (.slice (some ⟨g, 0, none⟩) n c) n xs) (hq : Blk w vb 5 #[v]) :
    Calls Tryz.prog 74 #[.slice (some ⟨g, 0, none⟩) n c, .int .i64 i, .slice (some ⟨vb, 0, none⟩) 1 1] w fun e w' => InsR w base (.slice (some ⟨g, 0, none⟩) n c) n (xs.take i ++ v :: xs.drop i) e w' := by
  have hxl : xs.length = n := by have := ho.1; omega
  obtain ⟨cur, hg, hbg, hcm, hcs, htake⟩ : ∃ cur, Blk w g 5 cur ∧ base ≤ g ∧ c ≤ maxLen ∧ cur.size = c ∧ cur.toList.take n = xs := by
    rcases ho.2 with ⟨h, _⟩ | ⟨g', c', cur, h, hb, hg, h1, h2, h3, h4⟩
    · cases h
    · simp only [Value.slice.injEq, Option.some.injEq, Addr.mk.injEq, and_true] at h
      obtain ⟨rfl, _, rfl⟩ := h
      exact ⟨cur, hg, hb, h2, by omega, by rw [Nat.mul_one] at h4; exact h4⟩
  have hc63 : c ≤ 9223372036854775807 := hcm
  have hcs' : ∀ j u, xs[j]? = some u → w.cell? ⟨g, 0 + j, none⟩ = some u := fun j u hj => by
    rw [Nat.zero_add, hg.cell j, ← Array.getElem?_toList]
    rw [← htake, List.getElem?_take] at hj
    split at hj
    · exact hj
    · cases hj
  have hsp : ∀ j, j < n + 1 → (w.cell? ⟨g, 0 + j, none⟩).isSome = true := fun j hj => by
    rw [Nat.zero_add, hg.cell j, Array.getElem?_eq_getElem (by omega)]; rfl
  have hfz : ∀ j, w.frozen? ⟨g, 0 + j, none⟩ = false := fun j => hg.frozen _
  have hfin : Blk w g 5 cur → InsR w base (.slice (some ⟨g, 0, none⟩) n c) n (xs.take i ++ v :: xs.drop i) (.returned (.slice (some ⟨g, 0, none⟩) (n + 1) c)) ((w.drew.setCells g (i + 1) (xs.drop i)).setCells g i [v]) := fun hg => by
    obtain ⟨c1, b1, l1⟩ := blk_setCells g 5 (xs.drop i) (i + 1) w.drew cur hg (by rw [List.length_drop]; omega)
    have s1 : c1.size = c := by
      have := congrArg List.length l1
      simp only [Array.length_toList, List.length_append, List.length_take, List.length_drop] at this
      omega
    obtain ⟨c2, b2, l2⟩ := blk_setCells g 5 [v] i _ c1 b1 (by simp; omega)
    have s2 : c2.size = c := by
      have := congrArg List.length l2
      simp only [Array.length_toList, List.length_append, List.length_take, List.length_drop, List.length_cons, List.length_nil] at this
      omega
    refine ⟨g, c, rfl, ⟨by simp only [List.length_append, List.length_take, List.length_cons, List.length_drop]; omega, .inr ⟨g, c, c2, rfl, hbg, b2, hroom, hcm, by omega, ?_⟩⟩, ?_⟩
    · rw [Nat.mul_one]
      exact ins_list htake hxl hi c1.toList c2.toList l1 (by simpa using l2)
    · have h1 : w.grownBy w.drew (some g) := ⟨rfl, rfl, rfl, Nat.le_refl _, fun _ _ _ => rfl⟩
      exact grown_trans (grown_trans h1 (grown_setCells g _ _ _)) (grown_setCells g _ _ _)
  have HFIN := Lib.hid (hfin hg)
  have hz2 : ¬ ((i : Int) = (n : Int)) := by omega
  have hsz : (Tryz.prog.info? 5).map (·.size) = some 1 := by
    obtain ⟨i0, hi0, h0, h1, h2⟩ := info_parts infoU8
    rw [hi0]; simp [h1]
  have hsa : w.shape? vb = some (5, 1) := by
    unfold World.shape?
    rw [hq]
    rfl
  have hsb : w.shape? g = some (5, cur.size) := by
    unfold World.shape?
    rw [hg]
  have hov : ∀ lb cb, (callFunc 85 #[.slice (some ⟨vb, 0, none⟩) 1 1, .slice (some ⟨g, 0 + (i + 1), none⟩) lb cb]).run Tryz.prog w = .ok (.value (.bool false)) w := fun lb cb => by
    rw [run_callFunc_extern Tryz.func85 (by kernel_rfl) (by kernel_rfl) (by kernel_rfl) (e := Extern.SlicesOverlaps.overlaps #[22, 22] #[4]) (by kernel_rfl),
      Lib.run_overlaps_apart w 22 4 5 Tryz.underlying22 1 (fun w => by kernel_rfl) ⟨vb, 0, none⟩ ⟨g, 0 + (i + 1), none⟩ 1 1 lb cb hvb 5 5 1 cur.size hsa hsb (by omega) (hq.frozen 0) (hq.frozen 1)]
    rfl
  have hdl : (xs.drop i).length = n - i := by rw [List.length_drop, hxl]
  have hw1 : IntKind.i64.wrap ((i : Int) + 1) = (i : Int) + 1 := by rw [IntKind.wrap_i64]; omega
  have hb1 : (0 : Int) ≤ (i : Int) + 1 := by omega
  have hin : i ≤ n := by omega
  have htn : ((i : Int) + 1).toNat = i + 1 := by omega
  have hb2 : ¬ (c = i + 1) := by omega
  have hb3 : (i : Int) ≤ (n : Int) + 1 := by omega
  have hb4 : ¬ (c = i) := by omega
  have hcp1 : ∀ ty dc sc, (Builtin.copy_ #[22, 22] ty #[.slice (some ⟨g, i + 1, none⟩) (n - i) dc, .slice (some ⟨g, i, none⟩) (n + 1 - i) sc]).run Tryz.prog w.drew = .ok (goInt (xs.drop i).length) (w.drew.setCells g (i + 1) (xs.drop i)) := fun ty dc sc =>
    run_copy_cells w.drew _ _ ty 5 g (i + 1) (n - i) dc ⟨g, i, none⟩ (n + 1 - i) sc (xs.drop i) Tryz.underlying22 hsz (by rw [hdl]; simp only [Nat.min_def]; split <;> omega)
      (fun j u hj => by rw [Addr.add_lit]; have := hcs' (i + j) u (by rwa [List.getElem?_drop] at hj); rwa [Nat.zero_add] at this)
      (fun j hj => by have := hsp (i + 1 + j) (by omega); rwa [Nat.zero_add] at this) (fun j hj => by have := hfz (i + 1 + j); rwa [Nat.zero_add] at this) (fun u hu => hx1 u (List.mem_of_mem_drop hu))
  obtain ⟨W1, hW1⟩ : ∃ W1, W1 = w.drew.setCells g (i + 1) (xs.drop i) := ⟨_, rfl⟩
  have hsp1 : ∀ k, k < n + 1 → (W1.cell? ⟨g, k, none⟩).isSome = true := fun k hk => by
    rw [hW1]
    exact isSome_setCells g _ _ _ (fun j hj => by have := hsp (i + 1 + j) (by omega); rwa [Nat.zero_add] at this) _ (by have := hsp k hk; rwa [Nat.zero_add] at this)
  have hcp2 : ∀ (W : World), (∀ x, W.cell? x = W1.cell? x) → (∀ x, W.frozen? x = W1.frozen? x) → ∀ ty dc, (Builtin.copy_ #[22, 22] ty #[.slice (some ⟨g, i, none⟩) (n + 1 - i) dc, .slice (some ⟨vb, 0, none⟩) 1 1]).run Tryz.prog W = .ok (goInt 1) (W.setCells g i [v]) := fun W hWc hWf ty dc =>
    run_copy_cells W _ _ ty 5 g i (n + 1 - i) dc ⟨vb, 0, none⟩ 1 1 [v] Tryz.underlying22 hsz (by simp only [List.length_cons, List.length_nil, Nat.min_def]; split <;> omega)
      (fun j u hj => by
        rw [Addr.add_lit, hWc, hW1, World.cell?_setCells_out g _ _ _ _ (fun h _ => absurd h hvb)]
        cases j with
        | zero => exact (hq.cell 0).trans (by simpa using hj)
        | succ j => simp at hj)
      (fun j hj => by simp only [List.length_cons, List.length_nil] at hj; rw [hWc]; exact hsp1 _ (by omega)) (fun j hj => by rw [hWf, hW1, World.frozen?_setCells]; have := hfz (i + j); rwa [Nat.zero_add] at this) (fun u hu => by simp at hu; subst hu; exact hv1)
  rw [← hW1] at hcp1
  have HW := Lib.hid hW1
  clear hW1 hfin hsp1 hsz hsa hsb hcs' hsp hfz hdl ho hq hg htake hcs hxl
  simp only [Nat.zero_add] at hov
  go_enter Tryz.func74, Tryz.ntmps74
  go_wp2_with (simp only [hov])
  go_region_law (refine step_copy_runI rfl _ _ 22 22 rfl _ _ (by simp [Act.eval, Act.put]) (by simp [Act.eval, Act.put]) (hcp1 _ _ _) ?_)
  go_wp2_with (at_builtin; refine wpList_copy_runI _ rfl _ _ 22 22 rfl _ _ rfl rfl (hcp2 _ (fun _ => rfl) (fun _ => rfl) _ _) ?_)
  go_ret
  rw [HW.out]
  exact HFIN.out
end Go.Proofs.YtihmgodiiohdnaaGreatDoor.wr

/- slices.Insert of one byte within a row of bytes that the call owns: where there is no room, and at every row. Condition: the byte lies in a block of its own. -/
namespace Go.Proofs.YtihmgodiiohdnaaGreatDoor.wr
open Go.RowKit Go.Lib

set_option maxHeartbeats 4000000 in
set_option maxRecDepth 100000 in
/-- slices.Insert where there is no room. -/
theorem ins_grow (base g n c i vb : Nat) (v : Value) (xs : List Value) (w : World) (hv1 : v.oneCell' = true) (hx1 : ∀ v ∈ xs, v.oneCell' = true) (hi : i < n) (hnc : n ≤ c) (hroom : c < n + 1) (hbig : n ≤ 1073741824) (hbase : base ≤ w.heap.size)
    (ho : w.ownsRow base 5 1 (.slice (some ⟨g, 0, none⟩) n c) n xs) (hq : Blk w vb 5 #[v]) :
    Calls Tryz.prog 74 #[.slice (some ⟨g, 0, none⟩) n c, .int .i64 i, .slice (some ⟨vb, 0, none⟩) 1 1] w fun e w' => InsR w base (.slice (some ⟨g, 0, none⟩) n c) n (xs.take i ++ v :: xs.drop i) e w' := by
  have hxl : xs.length = n := by have := ho.1; omega
  obtain ⟨cur, hg, hbg, hcm, hcs, htake⟩ : ∃ cur, Blk w g 5 cur ∧ base ≤ g ∧ c ≤ maxLen ∧ cur.size = c ∧ cur.toList.take n = xs := by
    rcases ho.2 with ⟨h, _⟩ | ⟨g', c', cur, h, hb, hg, h1, h2, h3, h4⟩
    · cases h
    · simp only [Value.slice.injEq, Option.some.injEq, Addr.mk.injEq, and_true] at h
      obtain ⟨rfl, _, rfl⟩ := h
      exact ⟨cur, hg, hb, h2, by omega, by rw [Nat.mul_one] at h4; exact h4⟩
  have hc63 : c ≤ 9223372036854775807 := hcm
  have hcs' : ∀ j u, xs[j]? = some u → w.cell? ⟨g, j, none⟩ = some u := fun j u hj => by
    rw [hg.cell j, ← Array.getElem?_toList]
    rw [← htake, List.getElem?_take] at hj
    split at hj
    · exact hj
    · cases hj
  obtain ⟨i0, hi0, hz0, hzs, hzb⟩ := info_parts infoU8
  have hz2 : ¬ ((i : Int) = (n : Int)) := by omega
  have hz3 : (c : Int) < (n : Int) + 1 := by omega
  have hsz : (Tryz.prog.info? 5).map (·.size) = some 1 := by rw [hi0]; simp [hzs]
  have hbw : g < w.heap.size := hg.lt
  have hvw : vb < w.heap.size := hq.lt
  have hkk : (n : Int) + 1 - (i : Int) = ((n + 1 - i : Nat) : Int) := by omega
  have hik : i + (n + 1 - i) = n + 1 := by omega
  have hold : (Builtin.firstCells i0.size i (.slice (some ⟨g, 0, none⟩) i c)).run Tryz.prog w.drew = .ok (xs.take i).toArray w.drew := by
    rw [hzs]
    exact run_firstCells_some w.drew 1 i ⟨g, 0, none⟩ i c (xs.take i) (by rw [List.length_take]; omega) (fun j u hj => by
      rw [Addr.add_lit, Nat.zero_add]
      rw [List.getElem?_take] at hj
      split at hj
      · exact hcs' j u hj
      · cases hj)
  have hrz : ∀ ty, (Builtin.append_ #[22, 3] ty #[.slice (some ⟨g, 0, none⟩) i c, .int .i64 ((n : Int) + 1 - (i : Int))]).run Tryz.prog w =
      .ok (.slice (some ⟨w.heap.size, 0, none⟩) (n + 1) (grownCap w (n + 1) c 5)) (w.drew.alloc (.cells ((xs.take i).toArray ++ Builtin.zeroCells (Value.int .u8 0).cells (n + 1 - i) ++ Builtin.zeroCells (Value.int .u8 0).cells (grownCap w (n + 1) c 5 - (n + 1))) 5)) := fun ty => by
    have h := Lib.run_append_grow_zeros w 22 3 ty 5 i0 _ .i64 .i64 Tryz.underlying22 Tryz.underlying3 hi0 hz0 (some ⟨g, 0, none⟩) i c (xs.take i) hold (n + 1 - i) (by omega) (by omega) (by omega) (by omega) (by rw [hzb]; omega) (by rw [hzb, hik]; exact growslice_fits hroom (by omega))
    rw [hik] at h
    rw [hkk]
    exact h
  have hGn : n + 1 ≤ grownCap w (n + 1) c 5 := grownCap_ge w _ _ _
  have hGm : grownCap w (n + 1) c 5 ≤ maxLen := grownCap_le_maxLen w (n + 1) c 5 (by unfold maxLen; omega)
  generalize grownCap w (n + 1) c 5 = G at *
  have hRS : ((xs.take i).toArray ++ Builtin.zeroCells (Value.int .u8 0).cells (n + 1 - i) ++ Builtin.zeroCells (Value.int .u8 0).cells (G - (n + 1))).size = G := by
    simp [Builtin.zeroCells, Value.cells]
    omega
  have hRT : ((xs.take i).toArray ++ Builtin.zeroCells (Value.int .u8 0).cells (n + 1 - i) ++ Builtin.zeroCells (Value.int .u8 0).cells (G - (n + 1))).toList.take i = xs.take i := by
    simp only [Array.toList_append, List.append_assoc]
    rw [List.take_append_of_le_length (by simp; omega), List.take_of_length_le (by simp; omega)]
  generalize hROW : (xs.take i).toArray ++ Builtin.zeroCells (Value.int .u8 0).cells (n + 1 - i) ++ Builtin.zeroCells (Value.int .u8 0).cells (G - (n + 1)) = ROW at *
  have hfin : InsR w base (.slice (some ⟨g, 0, none⟩) n c) n (xs.take i ++ v :: xs.drop i) (.returned (.slice (some ⟨w.heap.size, 0, none⟩) (n + 1) G)) ((((w.alloc (.cells ROW 5)).drew.setCells w.heap.size i [v]).drew).setCells w.heap.size (i + 1) (xs.drop i)) := by
    obtain ⟨c1, b1, l1⟩ := blk_setCells w.heap.size 5 [v] i (w.alloc (.cells ROW 5)).drew ROW (Blk.new w _ _) (by simp; omega)
    have s1 : c1.size = G := by
      have := congrArg List.length l1
      simp only [Array.length_toList, List.length_append, List.length_take, List.length_drop, List.length_cons, List.length_nil] at this
      omega
    obtain ⟨c2, b2, l2⟩ := blk_setCells w.heap.size 5 (xs.drop i) (i + 1) ((w.alloc (.cells ROW 5)).drew.setCells w.heap.size i [v]).drew c1 b1 (by rw [List.length_drop]; omega)
    have s2 : c2.size = G := by
      have := congrArg List.length l2
      simp only [Array.length_toList, List.length_append, List.length_take, List.length_drop] at this
      omega
    refine ⟨w.heap.size, G, rfl, ⟨by simp only [List.length_append, List.length_take, List.length_cons, List.length_drop]; omega, .inr ⟨w.heap.size, G, c2, rfl, hbase, b2, hGn, hGm, by omega, ?_⟩⟩, ?_⟩
    · rw [Nat.mul_one, l2, l1]
      have e1 : (ROW.toList.take i ++ ([v] ++ ROW.toList.drop (i + [v].length))).take (i + 1) = xs.take i ++ [v] := by
        rw [hRT, ← List.append_assoc, List.take_append_of_le_length (by simp; omega), List.take_of_length_le (by simp; omega)]
      rw [e1, ← List.append_assoc, List.take_append_of_le_length (by simp; omega), List.take_of_length_le (by simp; omega)]
      simp
    · have hb : ∀ (x : World) (vs : List Value) (o : Nat), w.heap.size ≤ x.heap.size → (∀ k, k < w.heap.size → x.heap[k]? = w.heap[k]?) → x.os = w.os → x.tape = w.tape → x.output = w.output → w.grownBy (x.setCells w.heap.size o vs) (some g) := fun x vs o h1 h2 h3 h4 h5 => by
        have h := grown_setCells w.heap.size vs o x
        exact ⟨h.os.trans h3, h.tape.trans h4, h.output.trans h5, Nat.le_trans h1 h.size, fun k hk hn => (h.block k (Nat.lt_of_lt_of_le hk h1) (by simp; omega)).trans (h2 k hk)⟩
      have h1 := grown_setCells w.heap.size [v] i (w.alloc (.cells ROW 5)).drew
      have hb0 : Below w.heap.size w (w.alloc (.cells ROW 5)) := (Below.refl _ _).alloc (Nat.le_refl _) _
      exact hb _ _ _ (Nat.le_trans hb0.size h1.size) (fun k hk => (h1.block k (Nat.lt_of_lt_of_le hk hb0.size) (by simp; omega)).trans (hb0.block k hk)) (h1.os.trans hb0.os) (h1.tape.trans hb0.tape) (h1.output.trans hb0.output)
  have HFIN := Lib.hid hfin
  obtain ⟨W1, hW1⟩ : ∃ W1, W1 = w.drew.alloc (.cells ROW 5) := ⟨_, rfl⟩
  rw [← hW1] at hrz
  have hN : ∀ j, j < n + 1 → (W1.cell? ⟨w.heap.size, j, none⟩).isSome = true := fun j hj => by
    rw [hW1, World.cell?_alloc_at (w := w.drew) ROW _ w.heap.size j rfl, Array.getElem?_eq_getElem (by omega)]; rfl
  have hNf : ∀ j, W1.frozen? ⟨w.heap.size, j, none⟩ = false := fun j => by rw [hW1]; exact World.frozen?_alloc_at (w := w.drew) ROW _ w.heap.size j rfl
  have hOb : ∀ j u, w.cell? ⟨g, j, none⟩ = some u → W1.cell? ⟨g, j, none⟩ = some u := fun j u h => by rw [hW1, World.cell?_alloc_past (w := w.drew) _ g j hbw]; exact h
  have hOv : ∀ j u, w.cell? ⟨vb, j, none⟩ = some u → W1.cell? ⟨vb, j, none⟩ = some u := fun j u h => by rw [hW1, World.cell?_alloc_past (w := w.drew) _ vb j hvw]; exact h
  have hdl : (xs.drop i).length = n - i := by rw [List.length_drop, hxl]
  have hcpA : ∀ (W : World), (∀ x, W.cell? x = W1.cell? x) → (∀ x, W.frozen? x = W1.frozen? x) → ∀ ty dc, (Builtin.copy_ #[22, 22] ty #[.slice (some ⟨w.heap.size, i, none⟩) (n + 1 - i) dc, .slice (some ⟨vb, 0, none⟩) 1 1]).run Tryz.prog W = .ok (goInt 1) (W.setCells w.heap.size i [v]) := fun W hWc hWf ty dc =>
    run_copy_cells W _ _ ty 5 w.heap.size i (n + 1 - i) dc ⟨vb, 0, none⟩ 1 1 [v] Tryz.underlying22 hsz (by simp only [List.length_cons, List.length_nil, Nat.min_def]; split <;> omega)
      (fun j u hj => by
        rw [Addr.add_lit, hWc]
        cases j with
        | zero => exact hOv _ u ((hq.cell 0).trans (by simpa using hj))
        | succ j => simp at hj)
      (fun j hj => by simp only [List.length_cons, List.length_nil] at hj; rw [hWc]; exact hN _ (by omega)) (fun j hj => by rw [hWf]; exact hNf _) (fun u hu => by simp at hu; subst hu; exact hv1)
  have hbN : g ≠ w.heap.size := by omega
  have hcpB : ∀ (W : World), (∀ x, W.cell? x = (W1.setCells w.heap.size i [v]).cell? x) → (∀ x, W.frozen? x = (W1.setCells w.heap.size i [v]).frozen? x) → ∀ ty dc sc, (Builtin.copy_ #[22, 22] ty #[.slice (some ⟨w.heap.size, i + 1, none⟩) (n - i) dc, .slice (some ⟨g, i, none⟩) (n - i) sc]).run Tryz.prog W = .ok (goInt (xs.drop i).length) (W.setCells w.heap.size (i + 1) (xs.drop i)) := fun W hWc hWf ty dc sc =>
    run_copy_cells W _ _ ty 5 w.heap.size (i + 1) (n - i) dc ⟨g, i, none⟩ (n - i) sc (xs.drop i) Tryz.underlying22 hsz (by rw [hdl]; simp only [Nat.min_def]; split <;> omega)
      (fun j u hj => by
        rw [Addr.add_lit, hWc, World.cell?_setCells_out _ _ _ _ _ (fun h _ => absurd h hbN)]
        exact hOb _ u (hcs' (i + j) u (by rwa [List.getElem?_drop] at hj)))
      (fun j hj => by rw [hWc]; exact isSome_setCells _ _ _ _ (fun t ht => hN _ (by simp at ht; omega)) _ (hN _ (by omega)))
      (fun j hj => by rw [hWf, World.frozen?_setCells]; exact hNf _) (fun u hu => hx1 u (List.mem_of_mem_drop hu))
  subst hW1
  have hE1 : ∀ x, ((w.alloc (.cells ROW 5)).drew).cell? x = (w.drew.alloc (.cells ROW 5)).cell? x := fun x => rfl
  have hE2 : ∀ x, ((w.alloc (.cells ROW 5)).drew).frozen? x = (w.drew.alloc (.cells ROW 5)).frozen? x := fun x => rfl
  have hF1 : ∀ x, (((w.alloc (.cells ROW 5)).drew.setCells w.heap.size i [v]).drew).cell? x = ((w.drew.alloc (.cells ROW 5)).setCells w.heap.size i [v]).cell? x := fun x => rfl
  have hF2 : ∀ x, (((w.alloc (.cells ROW 5)).drew.setCells w.heap.size i [v]).drew).frozen? x = ((w.drew.alloc (.cells ROW 5)).setCells w.heap.size i [v]).frozen? x := fun x => rfl
  have hw1 : IntKind.i64.wrap ((i : Int) + 1) = (i : Int) + 1 := by rw [IntKind.wrap_i64]; omega
  have hb1 : (0 : Int) ≤ (i : Int) + 1 := by omega
  have hin : i ≤ n := by omega
  have htn : ((i : Int) + 1).toNat = i + 1 := by omega
  have hb3 : (i : Int) ≤ (n : Int) := by omega
  have hG63 : G ≤ 9223372036854775807 := hGm
  have hGi : ¬ (G = i) := by omega
  have hGim : ¬ (G = i + 1) := by omega
  have hci : ¬ (c = i) := by omega
  clear hkk hik hold hROW hRS hRT hfin hN hNf hOb hOv hdl hsz hcs' ho hq hg htake hcs hxl hGm
  go_enter Tryz.func74, Tryz.ntmps74
  go_wp2_with (first
    | (at_builtin; refine Lib.wpList_append_run _ rfl _ _ _ _ rfl _ _ rfl rfl _ _ (hrz _) ?_)
    | (at_builtin; refine wpList_copy_runI _ rfl _ _ 22 22 rfl _ _ rfl rfl (hcpA _ hE1 hE2 _ _) ?_)
    | (at_builtin; refine wpList_copy_runI _ rfl _ _ 22 22 rfl _ _ rfl rfl (hcpB _ (fun _ => rfl) (fun _ => rfl) _ _ _) ?_))
  go_region_law (refine step_copy_runI rfl _ _ 22 22 rfl (.slice (some ⟨w.heap.size, i + 1, none⟩) (n - i) (G - (i + 1))) (.slice (some ⟨g, i, none⟩) (n - i) (c - i)) (by simp [Act.eval, Act.put]) (by simp [Act.eval, Act.put]) (hcpB _ hF1 hF2 3 (G - (i + 1)) (c - i)) ?_)
  go_wp2_with fail
  go_ret
  exact HFIN.out

/-- slices.Insert of a byte ahead of byte i. -/
theorem ins_any (base n i vb : Nat) (tv v : Value) (xs : List Value) (w : World) (hv1 : v.oneCell' = true) (hx1 : ∀ v ∈ xs, v.oneCell' = true) (hi : i < n) (hbig : n ≤ 1073741824) (hbase : base ≤ w.heap.size) (hvb : some vb ≠ tv.ownBlock)
    (ho : w.ownsRow base 5 1 tv n xs) (hq : Blk w vb 5 #[v]) :
    Calls Tryz.prog 74 #[tv, .int .i64 i, .slice (some ⟨vb, 0, none⟩) 1 1] w fun e w' => InsR w base tv n (xs.take i ++ v :: xs.drop i) e w' := by
  have ho' := ho
  rcases ho.2 with ⟨_, h0⟩ | ⟨g, c, cur, rfl, hb, hg, h1, h2, h3, h4⟩
  · omega
  · by_cases hr : n + 1 ≤ c
    · exact ins_room base g n c i vb v xs w hv1 hx1 hi hr (fun e => hvb (by rw [e]; rfl)) ho' hq
    · exact ins_grow base g n c i vb v xs w hv1 hx1 hi h1 (by omega) hbig hbase ho' hq
end Go.Proofs.YtihmgodiiohdnaaGreatDoor.wr

/- impl.termWriter.writeParts of an opWriter. Condition: the nodes lie in memory below the writer and are well-formed; the table of powers of ten in its variable. -/
namespace Go.Proofs.YtihmgodiiohdnaaGreatDoor.wr
open Go.RowKit

set_option maxRecDepth 100000 in
set_option maxHeartbeats 4000000 in
/-- termWriter.writeParts. -/
theorem parts_of (F : Fr) (h : ∀ j k n s kids rest, F.drop j = .cons k n s kids rest → OwC s kids) (d : Int) (A : Option Addr) (cap lo hi ob mb : Nat) (bs : List UInt8) (w : World) (hs : shapeF F d = true) (hp : PR w lo hi mb F A cap) (hh : hi ≤ mb) (hw : TW ob mb bs w) (hl : bs.length + (remB 0 F).length ≤ 1073741824) (ht : Pow10 ob mb w) (hnd : nodes F ≤ 1048576) :
    Calls Tryz.prog 71 #[.pointer (some ⟨mb, 0, none⟩), .slice A F.len cap] w fun e w' => e = .returned (.tuple #[]) ∧ TW ob mb (bs ++ remB 0 F) w' ∧ TF mb w w' := by
  have hlen : F.len ≤ 1048576 := by have := len_le_nodes F; omega
  obtain ⟨i0, hi0, hz0, hz1, hz2⟩ := info_parts infoU8
  have HP := Lib.hid hp
  have HH := Lib.hid h
  have HS := Lib.hid hs
  have HHI := Lib.hid hh
  have HW := Lib.hid hw
  have HL := Lib.hid hl
  have HT := Lib.hid ht
  have HND := Lib.hid hnd
  clear h hs hp hh hw hl ht hnd
  generalize hn : F.len = len at *
  have HN := Lib.hid hn
  clear hn
  go_enter Tryz.func71, Tryz.ntmps71
  go_wp2_with fail
  go_loopw [8] (fun i wr => ∃ (j : Nat) (b2 : List UInt8), j ≤ len ∧ i = .int .i64 j ∧ TW ob mb b2 wr ∧ TF mb w wr ∧ b2 ++ remB j (F.drop j) = bs ++ remB 0 F) (fun i _ => len - (intOf i).toNat)
  case atStart => exact ⟨0, bs, Nat.zero_le _, rfl, HW.out, TF.refl _ _, rfl⟩
  case round =>
    obtain ⟨j, b2, hj, rfl, hw, htf, hb⟩ := hrel
    by_cases hlt : j < len
    · obtain ⟨kk, nn, ss, kids, hd⟩ := Fr.drop_cons j F (by rw [HN.out]; exact hlt)
      have hp := HP.out.keep HHI.out htf
      obtain ⟨g, rfl, hkp, hall⟩ := hp.2.2 (by rw [HN.out]; omega)
      obtain ⟨gv, hc, hv⟩ := hall j _ _ _ _ _ hd
      have hsh := shape_drop F j d hd HS.out
      have C := HH.out j _ _ _ _ _ hd
      rw [hd] at hb
      obtain ⟨tv, hq, ho⟩ := hw
      obtain ⟨A0, c0, rfl, hc1, hc2⟩ := row_form ho
      have y0 := hq.cell 0
      have y1 := hq.cell 1
      have yf := hq.frozen 0
      simp only [List.getElem?_toArray, List.getElem?_cons_zero, List.getElem?_cons_succ] at y0 y1
      unfold fW at y1
      have hmw := hq.lt
      have hndk : nodes kids ≤ 1048576 := Nat.le_trans (nodes_drop_elem j F hd) HND.out
      have HBB := Lib.hid hb
      have HTF := Lib.hid htf
      have HV := Lib.hid hv
      have HSH := Lib.hid hsh
      have HC := Lib.hid C
      have HO := Lib.hid ho
      have HQ := Lib.hid hq
      have HNK := Lib.hid hndk
      obtain ⟨T0, x0, rfl⟩ := hv.iface
      have hbl := congrArg List.length hb
      clear hb htf hv hsh C ho hq hall hkp hp hndk hd
      have hBL := HL.out
      by_cases hj0 : j = 0
      · subst hj0
        have hstep : b2 ++ (txT kk nn ss kids ++ remB 1 (F.drop 1)) = bs ++ remB 0 F := by have := HBB.out; rwa [remB_zero] at this
        have HST := Lib.hid hstep
        have hll : b2.length + (txT kk nn ss kids).length ≤ 1073741824 := by have := congrArg List.length hstep; simp only [List.length_append] at this; omega
        have C2 := HC.out kk nn d (.iface T0 x0) lo hi ob mb b2 wr HSH.out HV.out HHI.out ⟨_, HQ.out, HO.out⟩ hll (HT.out.on HTF.out.1) HNK.out
        have H2 := Lib.hid C2
        clear C2 hstep hbl hll
        go_wp2_with fail
        refine H2.out.mono ?_
        rintro e w3 ⟨rfl, hw3, htf3⟩
        have HW3 := Lib.hid hw3
        have HTF3 := Lib.hid (HTF.out.trans htf3)
        have HE3 : Hid ((b2 ++ txT kk nn ss kids) ++ remB (0 + 1) (F.drop (0 + 1)) = bs ++ remB 0 F) := Lib.hid (by rw [List.append_assoc]; exact HST.out)
        clear hw3 htf3
        go_wp2_with fail
        go_roundw
        case rel => exact ⟨0 + 1, _, by omega, by go_num, HW3.out, HTF3.out, HE3.out⟩
        case measure => simp [intOf]; omega
      · have hstep : b2 ++ 44 :: (txT kk nn ss kids ++ remB (j + 1) (F.drop (j + 1))) = bs ++ remB 0 F := by have := HBB.out; rwa [remB_step j hj0] at this
        have HST := Lib.hid hstep
        have hll : b2.length + 1 + (txT kk nn ss kids).length ≤ 1073741824 := by have := congrArg List.length hstep; simp only [List.length_append, List.length_cons] at this; omega
        have hjp : (0 : Int) < j := by omega
        clear hstep hbl
        go_wp2_with (at_builtin; go_must (refine wpList_append_lies _ rfl _ _ _ rfl (mb + 1) 5 i0 _ 1 1 Tryz.underlying22 hi0 hz0 hz1 hz2 rfl (by omega) _ (b2).length (Lib.byteCells (b2)) rfl (HO.out.alloc _) ⟨wr.heap.size, 0, none⟩ 1 1 [.int .u8 44] rfl rfl (World.news_of_block (cs := #[.int .u8 44]) (t := 5) (fr := (0, 0)) (Blk.new wr 5 #[.int .u8 44])) (by simp [Value.oneCell']) (by omega) (by unfold maxLen; omega) (by omega) (by simp; omega) (wr.heap.size + 1) (by simp) ?_); intro g9 cap9 w9 hown9 hgrow9 _ _; have hst9 := TW.step1 (c := 44) HQ.out HO.out rfl hgrow9 hown9; have y9 := hst9.2.2.cell 0; have yf9 := hst9.2.2.frozen 0; simp only [List.getElem?_toArray, List.getElem?_cons_zero] at y9; have HS9 := Lib.hid (And.intro hst9.1 hst9.2.1); clear hown9 hgrow9 hst9; refine Hid.out ?_)
        refine Lib.hid ?_
        have HTF9 := HTF.out.trans HS9.out.2
        obtain ⟨tv9, hq9, ho9⟩ := HS9.out.1
        have C2 := HC.out kk nn d (.iface T0 x0) lo hi ob mb (b2 ++ [44]) _ HSH.out (HV.out.keep (fun p _ hp => HS9.out.2.1.cell (by have := HHI.out; omega)) (Nat.le_refl _) (Nat.le_refl _)) HHI.out HS9.out.1 (by simp only [List.length_append, List.length_cons, List.length_nil]; omega) (HT.out.on HTF9.1) HNK.out
        have z1 := hq9.cell 1
        simp only [List.getElem?_toArray, List.getElem?_cons_zero, List.getElem?_cons_succ] at z1
        unfold fW at z1
        have H2 := Lib.hid C2
        have HTF10 := Lib.hid HTF9
        clear C2 HTF9 hq9 ho9
        go_wp2_with fail
        refine H2.out.mono ?_
        rintro e w3 ⟨rfl, hw3, htf3⟩
        have HW3 := Lib.hid hw3
        have HTF3 := Lib.hid (HTF10.out.trans htf3)
        have HE3 : Hid ((b2 ++ [44] ++ txT kk nn ss kids) ++ remB (j + 1) (F.drop (j + 1)) = bs ++ remB 0 F) := Lib.hid (by rw [← HST.out]; simp)
        clear hw3 htf3
        go_wp2_with fail
        go_roundw
        case rel => exact ⟨j + 1, _, by omega, by go_num, HW3.out, HTF3.out, HE3.out⟩
        case measure => simp [intOf]; omega
    · obtain rfl : j = len := by omega
      have hfin : b2 = bs ++ remB 0 F := by
        have h1 := Fr.drop_len F
        rw [HN.out] at h1
        rw [← hb, h1, remB_nil, List.append_nil]
      have HFN : Hid (TW ob mb (bs ++ remB 0 F) wr ∧ TF mb w wr) := Lib.hid (by rw [← hfin]; exact ⟨hw, htf⟩)
      clear hw htf hb hfin
      go_wp2_with fail
      go_end0
      exact ⟨rfl, HFN.out⟩
end Go.Proofs.YtihmgodiiohdnaaGreatDoor.wr

/- impl.termWriter.writeList of an opWriter. Condition: the nodes lie in memory below the writer and are well-formed; the table of powers of ten in its variable. -/
namespace Go.Proofs.YtihmgodiiohdnaaGreatDoor.wr
open Go.RowKit

set_option maxRecDepth 100000 in
set_option maxHeartbeats 4000000 in
/-- termWriter.writeList. -/
theorem wlist_of (k n d : Int) (s : ByteArray) (f : Fr) (hp : pairB k s f.len = true) (hs : shapeT k n s f d = true) (h : ∀ s' f', f'.size < f.size → OwC s' f') (A : Option Addr) (cap lo hi ob mb : Nat) (bs : List UInt8) (w : World) (hr : PR w lo hi mb (fronts k s f) A cap)
    (k' n' : Int) (s' : ByteArray) (f' : Fr) (htl : tails k n s f = .cons k' n' s' f' .nil) (v : Value) (hv : NdV w lo hi k' n' s' f' v) (hh : hi ≤ mb) (hw : TW ob mb bs w) (hl : bs.length + (txT k n s f).length ≤ 1073741824) (ht : Pow10 ob mb w) (hnf : nodes (fronts k s f) ≤ 1048576) (hnt : nodes f' ≤ 1048576) :
    Calls Tryz.prog 70 #[.pointer (some ⟨mb, 0, none⟩), .slice A (fronts k s f).len cap, v] w fun e w' => e = .returned (.tuple #[]) ∧ TW ob mb (bs ++ txT k n s f) w' ∧ TF mb w w' := by
  obtain ⟨i0, hi0, hz0, hz1, hz2⟩ := info_parts infoU8
  obtain ⟨a1, a2, a3⟩ := fr_facts f.size k n s f d (Nat.le_refl _) hs
  obtain ⟨b1, _, b3⟩ := a3 k' n' s' f' htl
  have hb3 := b3 hp
  have hT := txT_rem hp htl
  rw [hT] at hl ⊢
  simp only [List.length_cons, List.length_append, List.length_nil] at hl
  have hm0 : mb < w.heap.size := by obtain ⟨_, hq, _⟩ := hw; exact hq.lt
  have C1 := fun wx (htf : TF mb w wx) (hw : TW ob mb (bs ++ [91]) wx) => parts_of (fronts k s f) (fun j k n s kids rest hd => h s kids (a2 j k n s kids rest hd)) d A cap lo hi ob mb (bs ++ [91]) wx a1 (hr.keep hh htf) hh hw (by simp only [List.length_append, List.length_cons, List.length_nil]; omega) (ht.on htf.1) hnf
  have C2 := fun wx (htf : TF mb w wx) => emptyList_any k' n' s' f' v lo hi wx (hv.keep (fun p _ hp => htf.1.cell (by omega)) (Nat.le_refl _) (Nat.le_refl _))
  have C3 := fun wx b2 (htf : TF mb w wx) (hw : TW ob mb b2 wx) (hl : b2.length + (txT k' n' s' f').length ≤ 1073741824) => h s' f' hb3 k' n' d v lo hi ob mb b2 wx b1 (hv.keep (fun p _ hp => htf.1.cell (by omega)) (Nat.le_refl _) (Nat.le_refl _)) hh hw hl (ht.on htf.1) hnt
  have HE : Hid (endB k' n' s' f' = if nilB k' s' f'.len = true then [] else 124 :: txT k' n' s' f') := Lib.hid rfl
  obtain ⟨T0, x0, rfl⟩ := hv.iface
  have H1 := Lib.hid C1
  have H3 := Lib.hid C3
  generalize remB 0 (fronts k s f) = RB at *
  generalize (fronts k s f).len = fl at *
  clear C1 C3 hp hs h hr hh ht hnf hnt a1 a2 a3 b1 b3 hb3 hT htl hv
  obtain ⟨tv0, hq0, ho0⟩ := hw
  obtain ⟨A0, c0, rfl, _, _⟩ := row_form ho0
  have p00 := hq0.cell 0
  have p10 := hq0.cell 1
  have pf0 := hq0.frozen 0
  simp only [List.getElem?_toArray, List.getElem?_cons_zero, List.getElem?_cons_succ] at p00 p10
  unfold fW at p10
  have hm0 := hq0.lt
  have HO0 := Lib.hid ho0
  have HQ0 := Lib.hid hq0
  clear hq0 ho0
  go_enter Tryz.func70, Tryz.ntmps70
  go_wp2_with (at_builtin; go_must (refine wpList_append_lies _ rfl _ _ _ rfl (mb + 1) 5 i0 _ 1 1 Tryz.underlying22 hi0 hz0 hz1 hz2 rfl (by omega) _ (bs).length (Lib.byteCells (bs)) rfl (HO0.out.alloc _) ⟨w.heap.size, 0, none⟩ 1 1 [.int .u8 91] rfl rfl (World.news_of_block (cs := #[.int .u8 91]) (t := 5) (fr := (0, 0)) (Blk.new w 5 #[.int .u8 91])) (by simp [Value.oneCell']) (by omega) (by unfold maxLen; omega) (by omega) (by simp; omega) (w.heap.size + 1) (by simp) ?_); intro g1 cap1 w1 hown1 hgrow1 _ _; have hst1 := TW.step1 (c := 91) HQ0.out HO0.out rfl hgrow1 hown1; have y1 := hst1.2.2.cell 0; have yf1 := hst1.2.2.frozen 0; simp only [List.getElem?_toArray, List.getElem?_cons_zero] at y1; have HS1 := Lib.hid (And.intro hst1.1 hst1.2.1); clear hown1 hgrow1 hst1; refine Hid.out ?_)
  refine Lib.hid ?_
  have HTF1 := Lib.hid HS1.out.2
  have hA1 := HS1.out.1
  have C4 := H1.out _ HTF1.out hA1
  have H4 := Lib.hid C4
  clear C4 hA1
  go_wp2_with fail
  refine H4.out.mono ?_
  rintro e w2 ⟨rfl, hw2, htf2⟩
  have HW2 := Lib.hid hw2
  have HTF2 := Lib.hid (HTF1.out.trans htf2)
  have C5 := C2 w2 HTF2.out
  have H5 := Lib.hid C5
  clear hw2 htf2 C5 C2
  go_wp2_with fail
  refine H5.out.mono ?_
  rintro e w3 ⟨rfl, hb3⟩
  have hmb2 : mb ≤ w2.heap.size := Nat.le_trans (Nat.le_of_lt hm0) HTF2.out.1.size
  have HW3 := Lib.hid (HW2.out.below hb3)
  have HTF3 := Lib.hid (HTF2.out.trans (TF.below hb3 hmb2))
  clear hb3
  cases hnil : nilB k' s' f'.len
  · have HEE : Hid (endB k' n' s' f' = 124 :: txT k' n' s' f') := Lib.hid (by rw [HE.out, hnil]; rfl)
    rw [HEE.out] at hl
    simp only [List.length_cons] at hl
    have hz3 : (bs ++ [91] ++ RB).length + (txT k' n' s' f').length + 1 ≤ 1073741824 := by simp only [List.length_append, List.length_cons, List.length_nil]; omega
    have hw3 := HW3.out
    generalize hB3 : bs ++ [91] ++ RB = B3 at *
    have HB3 := Lib.hid hB3
    clear hB3
    clear hnil
    obtain ⟨tv3, hq3, ho3⟩ := hw3
    obtain ⟨A3, c3, rfl, _, _⟩ := row_form ho3
    have p03 := hq3.cell 0
    have p13 := hq3.cell 1
    have pf3 := hq3.frozen 0
    simp only [List.getElem?_toArray, List.getElem?_cons_zero, List.getElem?_cons_succ] at p03 p13
    unfold fW at p13
    have hm3 := hq3.lt
    have HO3 := Lib.hid ho3
    have HQ3 := Lib.hid hq3
    clear hq3 ho3
    go_wp2_with (at_builtin; go_must (refine wpList_append_lies _ rfl _ _ _ rfl (mb + 1) 5 i0 _ 1 1 Tryz.underlying22 hi0 hz0 hz1 hz2 rfl (by omega) _ (B3).length (Lib.byteCells (B3)) rfl (HO3.out.alloc _) ⟨w3.heap.size, 0, none⟩ 1 1 [.int .u8 124] rfl rfl (World.news_of_block (cs := #[.int .u8 124]) (t := 5) (fr := (0, 0)) (Blk.new w3 5 #[.int .u8 124])) (by simp [Value.oneCell']) (by omega) (by unfold maxLen; omega) (by omega) (by simp; omega) (w3.heap.size + 1) (by simp) ?_); intro g4 cap4 w4 hown4 hgrow4 _ _; have hst4 := TW.step1 (c := 124) HQ3.out HO3.out rfl hgrow4 hown4; have y4 := hst4.2.2.cell 0; have yf4 := hst4.2.2.frozen 0; simp only [List.getElem?_toArray, List.getElem?_cons_zero] at y4; have HS4 := Lib.hid (And.intro hst4.1 hst4.2.1); clear hown4 hgrow4 hst4; refine Hid.out ?_)
    refine Lib.hid ?_
    have HTF4 := Lib.hid (HTF3.out.trans HS4.out.2)
    obtain ⟨tv5, hq5, _⟩ := HS4.out.1
    have p15 := hq5.cell 1
    simp only [List.getElem?_toArray, List.getElem?_cons_zero, List.getElem?_cons_succ] at p15
    unfold fW at p15
    have C6 := H3.out _ _ HTF4.out HS4.out.1 (by simp only [List.length_append, List.length_cons, List.length_nil]; omega)
    have H6 := Lib.hid C6
    clear C6 hq5
    go_wp2_with fail
    refine H6.out.mono ?_
    rintro e w6 ⟨rfl, hw6, htf6⟩
    have HTF6 := Lib.hid (HTF4.out.trans htf6)
    have hz6 : (B3 ++ [124] ++ txT k' n' s' f').length ≤ 1073741824 := by simp only [List.length_append, List.length_cons, List.length_nil]; omega
    clear htf6
    generalize hB6 : B3 ++ [124] ++ txT k' n' s' f' = B6 at *
    have HB6 := Lib.hid hB6
    clear hB6
    obtain ⟨tv6, hq6, ho6⟩ := hw6
    obtain ⟨A6, c6, rfl, _, _⟩ := row_form ho6
    have p06 := hq6.cell 0
    have p16 := hq6.cell 1
    have pf6 := hq6.frozen 0
    simp only [List.getElem?_toArray, List.getElem?_cons_zero, List.getElem?_cons_succ] at p06 p16
    unfold fW at p16
    have hm6 := hq6.lt
    have HO6 := Lib.hid ho6
    have HQ6 := Lib.hid hq6
    clear hq6 ho6
    go_wp2_with (at_builtin; go_must (refine wpList_append_lies _ rfl _ _ _ rfl (mb + 1) 5 i0 _ 1 1 Tryz.underlying22 hi0 hz0 hz1 hz2 rfl (by omega) _ (B6).length (Lib.byteCells (B6)) rfl (HO6.out.alloc _) ⟨w6.heap.size, 0, none⟩ 1 1 [.int .u8 93] rfl rfl (World.news_of_block (cs := #[.int .u8 93]) (t := 5) (fr := (0, 0)) (Blk.new w6 5 #[.int .u8 93])) (by simp [Value.oneCell']) (by omega) (by unfold maxLen; omega) (by omega) (by simp; omega) (w6.heap.size + 1) (by simp) ?_); intro g7 cap7 w7 hown7 hgrow7 _ _; have hst7 := TW.step1 (c := 93) HQ6.out HO6.out rfl hgrow7 hown7; have y7 := hst7.2.2.cell 0; have yf7 := hst7.2.2.frozen 0; simp only [List.getElem?_toArray, List.getElem?_cons_zero] at y7; have HS7 := Lib.hid (And.intro hst7.1 hst7.2.1); clear hown7 hgrow7 hst7; refine Hid.out ?_)
    refine Lib.hid ?_
    have HFN : Hid (TW ob mb (bs ++ 91 :: (RB ++ (endB k' n' s' f' ++ [93]))) _ ∧ TF mb w _) := Lib.hid ⟨by
      have e : B6 ++ [93] = bs ++ 91 :: (RB ++ (endB k' n' s' f' ++ [93])) := by rw [← HB6.out, ← HB3.out, HEE.out]; simp
      rw [← e]; exact HS7.out.1, HTF6.out.trans HS7.out.2⟩
    go_wp2_with fail
    go_end0
    exact ⟨rfl, HFN.out⟩
  · have HEE : Hid (endB k' n' s' f' = []) := Lib.hid (by rw [HE.out, hnil]; rfl)
    have hz3 : (bs ++ [91] ++ RB).length ≤ 1073741824 := by simp only [List.length_append, List.length_cons, List.length_nil]; omega
    have hw3 := HW3.out
    generalize hB3 : bs ++ [91] ++ RB = B3 at *
    have HB3 := Lib.hid hB3
    clear hB3
    clear hnil
    obtain ⟨tv8, hq8, ho8⟩ := hw3
    obtain ⟨A8, c8, rfl, _, _⟩ := row_form ho8
    have p08 := hq8.cell 0
    have p18 := hq8.cell 1
    have pf8 := hq8.frozen 0
    simp only [List.getElem?_toArray, List.getElem?_cons_zero, List.getElem?_cons_succ] at p08 p18
    unfold fW at p18
    have hm8 := hq8.lt
    have HO8 := Lib.hid ho8
    have HQ8 := Lib.hid hq8
    clear hq8 ho8
    go_wp2_with (at_builtin; go_must (refine wpList_append_lies _ rfl _ _ _ rfl (mb + 1) 5 i0 _ 1 1 Tryz.underlying22 hi0 hz0 hz1 hz2 rfl (by omega) _ (B3).length (Lib.byteCells (B3)) rfl (HO8.out.alloc _) ⟨w3.heap.size, 0, none⟩ 1 1 [.int .u8 93] rfl rfl (World.news_of_block (cs := #[.int .u8 93]) (t := 5) (fr := (0, 0)) (Blk.new w3 5 #[.int .u8 93])) (by simp [Value.oneCell']) (by omega) (by unfold maxLen; omega) (by omega) (by simp; omega) (w3.heap.size + 1) (by simp) ?_); intro g9 cap9 w9 hown9 hgrow9 _ _; have hst9 := TW.step1 (c := 93) HQ8.out HO8.out rfl hgrow9 hown9; have y9 := hst9.2.2.cell 0; have yf9 := hst9.2.2.frozen 0; simp only [List.getElem?_toArray, List.getElem?_cons_zero] at y9; have HS9 := Lib.hid (And.intro hst9.1 hst9.2.1); clear hown9 hgrow9 hst9; refine Hid.out ?_)
    refine Lib.hid ?_
    have HFN : Hid (TW ob mb (bs ++ 91 :: (RB ++ (endB k' n' s' f' ++ [93]))) _ ∧ TF mb w _) := Lib.hid ⟨by
      have e : B3 ++ [93] = bs ++ 91 :: (RB ++ (endB k' n' s' f' ++ [93])) := by rw [← HB3.out, HEE.out]; simp
      rw [← e]; exact HS9.out.1, HTF3.out.trans HS9.out.2⟩
    go_wp2_with fail
    go_end0
    exact ⟨rfl, HFN.out⟩
end Go.Proofs.YtihmgodiiohdnaaGreatDoor.wr

/- impl.termWriter.writeTerm of an opWriter, at every node that is no operator with two operands. Condition: the nodes lie in memory below the writer and are well-formed; the table of powers of ten in its variable. -/
namespace Go.Proofs.YtihmgodiiohdnaaGreatDoor.wr
open Go.RowKit

set_option maxRecDepth 100000 in
set_option maxHeartbeats 8000000 in
/-- termWriter.writeTerm. -/
theorem wterm_of (s : ByteArray) (f : Fr) (h : ∀ s' f', f'.size < f.size → OwC s' f') : WtC s f := by
  intro k n d v lo hi ob mb bs w hinf hs hv hh hw hl ht hnd
  obtain ⟨i0, hi0, hz0, hz1, hz2⟩ := info_parts infoU8
  have HINF := Lib.hid hinf
  clear hinf
  have hm0 : mb < w.heap.size := by obtain ⟨_, hq, _⟩ := hw; exact hq.lt
  have hkind := shapeT_kind3 hs
  rcases hv with ⟨rfl, rfl⟩ | ⟨rfl, rfl⟩ | ⟨rfl, A, cap, rfl, hnds⟩
  · have hn : 0 ≤ n ∧ n ≤ 25 := by omega
    have hT : Hid (txT 1 n s f = [UInt8.ofNat (65 + n.toNat)]) := Lib.hid (txT_var n s f)
    have hc : ((UInt8.ofNat (65 + n.toNat)).toNat : Int) = 65 + n := by rw [UInt8.toNat_ofNat']; omega
    have HC := Lib.hid hc
    have hl2 : bs.length ≤ 1073741824 := by omega
    generalize UInt8.ofNat (65 + n.toNat) = ch at *
    clear h hs hl ht hnd hkind hc
    obtain ⟨hn0, hn1⟩ := hn
    obtain ⟨tv1, hq1, ho1⟩ := hw
    obtain ⟨A1, c1, rfl, _, _⟩ := row_form ho1
    have p01 := hq1.cell 0
    have p11 := hq1.cell 1
    have pf1 := hq1.frozen 0
    simp only [List.getElem?_toArray, List.getElem?_cons_zero, List.getElem?_cons_succ] at p01 p11
    unfold fW at p11
    have hm1 := hq1.lt
    have HO1 := Lib.hid ho1
    have HQ1 := Lib.hid hq1
    clear hq1 ho1
    go_enter Tryz.func53, Tryz.ntmps53
    go_wp2_with (at_builtin; go_must (refine wpList_append_lies _ rfl _ _ _ rfl (mb + 1) 5 i0 _ 1 1 Tryz.underlying22 hi0 hz0 hz1 hz2 rfl (by omega) _ (bs).length (Lib.byteCells (bs)) rfl (HO1.out.alloc _) ⟨w.heap.size, 0, none⟩ 1 1 [.int .u8 (65 + n)] rfl rfl (World.news_of_block (cs := #[.int .u8 (65 + n)]) (t := 5) (fr := (0, 0)) (Blk.new w 5 #[.int .u8 (65 + n)])) (by simp [Value.oneCell']) (by omega) (by unfold maxLen; omega) (by omega) (by simp; omega) (w.heap.size + 1) (by simp) ?_); intro g1 cap1 w1 hown1 hgrow1 _ _; have hst1 := TW.step1 (c := ch) HQ1.out HO1.out HC.out hgrow1 hown1; have y1 := hst1.2.2.cell 0; have yf1 := hst1.2.2.frozen 0; simp only [List.getElem?_toArray, List.getElem?_cons_zero] at y1; have HS1 := Lib.hid (And.intro hst1.1 hst1.2.1); clear hown1 hgrow1 hst1; refine Hid.out ?_)
    refine Lib.hid ?_
    have HFN : Hid (TW ob mb (bs ++ txT 1 n s f) _ ∧ TF mb w _) := Lib.hid ⟨by rw [hT.out]; exact HS1.out.1, HS1.out.2⟩
    go_wp2_with fail
    go_end0
    exact ⟨rfl, HFN.out⟩
  · have hn : -999 ≤ n ∧ n ≤ 999 := by omega
    have hT : Hid (txT 2 n s f = Lib.itoa n) := Lib.hid (txT_int n s f)
    have hl2 : bs.length ≤ 1073741824 := by omega
    have HT := Lib.hid ht
    clear h hs hl hnd hkind ht
    obtain ⟨tv2, hq2, ho2⟩ := hw
    obtain ⟨A2, c2, rfl, _, _⟩ := row_form ho2
    have p02 := hq2.cell 0
    have p12 := hq2.cell 1
    have pf2 := hq2.frozen 0
    simp only [List.getElem?_toArray, List.getElem?_cons_zero, List.getElem?_cons_succ] at p02 p12
    unfold fW at p12
    have hm2 := hq2.lt
    have HO2 := Lib.hid ho2
    have HQ2 := Lib.hid hq2
    clear hq2 ho2
    have C1 := appInt_any (mb + 1) bs.length n (by omega) (by omega) (.slice A2 bs.length c2) (Lib.byteCells bs) w HO2.out (by omega) (by omega) fun w' hb => HT.out.1 w' (hb.mono (Nat.le_succ _))
    have H1 := Lib.hid C1
    clear C1 hn
    go_enter Tryz.func53, Tryz.ntmps53
    go_wp2_with fail
    refine H1.out.mono ?_
    rintro e w3 ⟨v3, rfl, ho3, hb3, hk3⟩
    have htf := TF.appInt hb3 hk3
    have hq3 : Blk w3 mb 63 #[.slice A2 bs.length c2, fW mb, .map (some ob)] := HQ2.out.keep (hb3.block mb (by omega))
    have hfin : TW ob mb (bs ++ txT 2 n s f) (w3.setCell ⟨mb, 0, none⟩ v3) ∧ TF mb w (w3.setCell ⟨mb, 0, none⟩ v3) := by
      refine ⟨⟨v3, ?_, ?_⟩, htf.set_ 0 _⟩
      · have h := hq3.set_ 0 v3
        simpa using h
      · rw [hT.out, byteCells_app, List.length_append]
        refine ho3.kept (row := some mb) ⟨rfl, rfl, rfl, by simp [World.setCell], fun k _ hk => ?_⟩ (.inr fun e => ?_)
        · exact heap_setCell_other _ _ _ _ fun e => hk (by rw [e])
        · have := (ho3.lt mb e).1
          omega
    obtain ⟨A3, c3, rfl, _, _⟩ := row_form ho3
    have x0 := hq3.cell 0
    have xf := hq3.frozen 0
    simp only [List.getElem?_toArray, List.getElem?_cons_zero] at x0
    have HFN := Lib.hid hfin
    clear htf hfin ho3 hb3 hk3 hq3
    generalize (Lib.itoa n).length = il at *
    go_wp2_with fail
    go_end0
    exact ⟨rfl, HFN.out⟩
  · have hs3 := shapeT_struct hs
    have hs6 := nameB_size hs3.2.1
    have hspos : 0 < s.size := by
      have h1 : s.data.toList.length = s.size := rfl
      have h2 := List.length_pos_iff.2 (name_pos3 hs3.2.1)
      omega
    have hv3 : NdV w lo hi 3 n s f (.iface 84 (.agg #[.string s, .slice A f.len cap])) := .inr (.inr ⟨rfl, A, cap, rfl, hnds⟩)
    have hb0 : Below w.heap.size w (w.alloc (.cells #[.string s, .slice A f.len cap] 84)) := (Below.refl _ _).alloc (Nat.le_refl _) _
    have hq0 := Blk.new w 84 #[.string s, .slice A f.len cap]
    have C1 := split2_any 3 n s f (.iface 84 (.agg #[.string s, .slice A f.len cap])) lo hi (w.alloc (.cells #[.string s, .slice A f.len cap] 84)) (hv3.keep (fun p _ hp => hb0.cell (by omega)) (Nat.le_refl _) (Nat.le_refl _)) (Nat.le_trans (by omega) hb0.size) hnd
    have H1 := Lib.hid C1
    have HB0 := Lib.hid hb0
    have HQ0 := Lib.hid hq0
    have HW := Lib.hid hw
    have HH := Lib.hid h
    have HSH := Lib.hid hs
    have HT := Lib.hid ht
    have HND := Lib.hid hnds
    have HLL := Lib.hid hl
    have HN := Lib.hid hnd
    have hfl := Nat.le_trans hnds.1 hnds.2.1
    clear C1 hb0 hq0 h hs ht hnds hl hv3 hkind hnd hw
    go_enter Tryz.func53, Tryz.ntmps53
    go_wp2_with fail
    refine H1.out.mono ?_
    rintro e w2 ⟨hb2, v2, tl, rfl, ⟨xs, hown, hD⟩, k', n', s', f', htl, hv'⟩
    have hbw := HB0.out.trans (hb2.mono HB0.out.size)
    have hq2 := HQ0.out.below hb2 HQ0.out.lt
    have hw2 := HW.out.below hbw
    have htf2 := TF.below hbw (Nat.le_of_lt hm0)
    have hs2 := hbw.size
    obtain ⟨T9, x9, rfl⟩ := hv'.iface
    have z0 := hq2.cell 0
    have z1 := hq2.cell 1
    simp only [List.getElem?_toArray, List.getElem?_cons_zero, List.getElem?_cons_succ] at z0 z1
    have HQ2 := Lib.hid hq2
    have HTF2 := Lib.hid htf2
    have HW2 := Lib.hid hw2
    cases hp : pairB 3 s f.len
    · have hfr := (pair_no n hp).1
      have HTX : Hid (txT 3 n s f = s.data.toList ++ argsB (txs f)) := Lib.hid (txT_str hp HINF.out)
      have HAM := Lib.hid (argsB_more f)
      rw [hfr] at hown
      obtain ⟨A9, c9, rfl, _, _⟩ := row_form hown
      have ez : (Fr.nil.len : Int) = 0 := rfl
      have hl6 : bs.length + s.size ≤ 1073741824 := by
        have h := HLL.out
        rw [HTX.out, List.length_append] at h
        have h1 : s.data.toList.length = s.size := rfl
        omega
      have hsb : w.heap.size ≠ mb := by omega
      clear hown hD hb2 hv' htl hq2 htf2 hbw hp hfr hs3
      obtain ⟨tv3, hq3, ho3⟩ := hw2
      obtain ⟨A3, c3, rfl, _, _⟩ := row_form ho3
      have p03 := hq3.cell 0
      have p13 := hq3.cell 1
      have pf3 := hq3.frozen 0
      simp only [List.getElem?_toArray, List.getElem?_cons_zero, List.getElem?_cons_succ] at p03 p13
      unfold fW at p13
      have hm3 := hq3.lt
      have HO3 := Lib.hid ho3
      have HQ3 := Lib.hid hq3
      clear hq3 ho3
      go_wp2_with fail
      go_region_law
        (first
          | (refine step_append_str (w2.drew) (by rfl) _ _ _ _ (by rfl) (mb + 1) 5 i0 Tryz.underlying22 Tryz.underlying9 hi0 hz0 hz1 hz2 _ bs.length (Lib.byteCells bs) (by rfl) HO3.out.drew s (by rfl) hspos (by unfold maxLen; omega) (by omega) (by show mb + 1 ≤ w2.heap.size; omega) ?_
             intro g6 cap6 w6 hown6 hgrow6
             have hst6 := TW.step (add := s.data.toList) HQ3.out HO3.out (Below.refl w2.heap.size w2).drew hgrow6 hown6
             have hmd6 := TW.mid HQ3.out HO3.out (Below.refl w2.heap.size w2).drew hgrow6
             have hq6 := hmd6.blk HQ2.out hsb (by decide)
             have y6 := hst6.2.2.cell 0
             have yf6 := hst6.2.2.frozen 0
             have u6 := hq6.cell 0
             simp only [List.getElem?_toArray, List.getElem?_cons_zero] at y6 u6
             have v6 := (hst6.2.1.blk HQ2.out hsb (by decide)).cell 0
             simp only [List.getElem?_toArray, List.getElem?_cons_zero] at v6
             have HS6 := Lib.hid (And.intro hst6.1 hst6.2.1)
             clear hown6 hgrow6 hst6 hmd6 hq6))
      all_goals
        have HX6 : Hid (TW ob mb (bs ++ s.data.toList) (w6.setCell ⟨mb, 0, none⟩ (.slice (some ⟨g6, 0, none⟩) (bs.length + s.size) cap6)) ∧ TF mb w2 (w6.setCell ⟨mb, 0, none⟩ (.slice (some ⟨g6, 0, none⟩) (bs.length + s.size) cap6))) := HS6
        clear HS6 y6 u6 v6 yf6 z0 z1 p03 p13 pf3
        generalize w6.setCell ⟨mb, 0, none⟩ (.slice (some ⟨g6, 0, none⟩) (bs.length + s.size) cap6) = W6 at *
        have hq6 := HX6.out.2.blk HQ2.out hsb (by decide)
        have zz1 := hq6.cell 1
        simp only [List.getElem?_toArray, List.getElem?_cons_zero, List.getElem?_cons_succ] at zz1
        have HQ6 := Lib.hid hq6
        have HTF6 := Lib.hid (HTF2.out.trans HX6.out.2)
        have hm6 : mb < W6.heap.size := Nat.lt_of_lt_of_le hm0 HTF6.out.1.size
        clear hq6
        by_cases h0 : f.len = 0
        · have HV : Hid (txT 3 n s f = s.data.toList) := Lib.hid (by rw [HTX.out, HAM.out, if_pos h0, List.append_nil])
          have HFN : Hid (TW ob mb (bs ++ txT 3 n s f) W6 ∧ TF mb w W6) := Lib.hid (by rw [HV.out]; exact ⟨HX6.out.1, HTF6.out⟩)
          rw [h0] at zz1
          have t0 : ¬ (0 : Int) < ((0 : Nat) : Int) := by decide
          clear h0
          go_wp2_with fail
          go_end0
          exact ⟨rfl, HFN.out⟩
        · have hB : bs ++ txT 3 n s f = bs ++ s.data.toList ++ [40] ++ remB 0 f ++ [41] := by rw [HTX.out, HAM.out, if_neg h0, moreB_rem f h0]; simp
          have HBE := Lib.hid hB
          have hlB : bs.length + s.size + 2 + (remB 0 f).length ≤ 1073741824 := by
            have h1 := congrArg List.length hB
            have h2 := HLL.out
            have h3 : s.data.toList.length = s.size := rfl
            simp only [List.length_append, List.length_cons, List.length_nil] at h1 h2
            omega
          have t0 : (0 : Int) < (f.len : Int) := by omega
          have hw6 := HX6.out.1
          generalize hB1 : bs ++ s.data.toList = B1 at *
          have hlb1 : B1.length ≤ bs.length + s.size := by rw [← hB1, List.length_append]; exact Nat.le_refl _
          have HB1 := Lib.hid hB1
          clear hB1 hB h0
          obtain ⟨tv7, hq7, ho7⟩ := hw6
          obtain ⟨A7, c7, rfl, _, _⟩ := row_form ho7
          have p07 := hq7.cell 0
          have p17 := hq7.cell 1
          have pf7 := hq7.frozen 0
          simp only [List.getElem?_toArray, List.getElem?_cons_zero, List.getElem?_cons_succ] at p07 p17
          unfold fW at p17
          have hm7 := hq7.lt
          have HO7 := Lib.hid ho7
          have HQ7 := Lib.hid hq7
          clear hq7 ho7
          go_wp2_with (at_builtin; go_must (refine wpList_append_lies _ rfl _ _ _ rfl (mb + 1) 5 i0 _ 1 1 Tryz.underlying22 hi0 hz0 hz1 hz2 rfl (by omega) _ (B1).length (Lib.byteCells (B1)) rfl (HO7.out.alloc _) ⟨W6.heap.size, 0, none⟩ 1 1 [.int .u8 40] rfl rfl (World.news_of_block (cs := #[.int .u8 40]) (t := 5) (fr := (0, 0)) (Blk.new W6 5 #[.int .u8 40])) (by simp [Value.oneCell']) (by omega) (by unfold maxLen; omega) (by omega) (by simp; omega) (W6.heap.size + 1) (by simp) ?_); intro g7 cap7 w7 hown7 hgrow7 _ _; have hst7 := TW.step1 (c := 40) HQ7.out HO7.out rfl hgrow7 hown7; have y7 := hst7.2.2.cell 0; have yf7 := hst7.2.2.frozen 0; simp only [List.getElem?_toArray, List.getElem?_cons_zero] at y7; have HS7 := Lib.hid (And.intro hst7.1 hst7.2.1); clear hown7 hgrow7 hst7; refine Hid.out ?_)
          refine Lib.hid ?_
          have hq7 := HS7.out.2.blk HQ6.out hsb (by decide)
          have zz7 := hq7.cell 1
          simp only [List.getElem?_toArray, List.getElem?_cons_zero, List.getElem?_cons_succ] at zz7
          have HTF7 := Lib.hid (HTF6.out.trans HS7.out.2)
          have C8 := parts_of f (fun j k n s kids rest hd => HH.out s kids (by have h1 := Fr.size_drop j f; rw [hd] at h1; simp only [Fr.size] at h1; omega)) (d - 1) A cap lo hi ob mb (B1 ++ [40]) _ (shapeT_kids HSH.out) (PR.old (HND.out.keep (fun p _ hp => HTF7.out.1.cell (by omega)) (Nat.le_refl _) (Nat.le_refl _)) hh) hh HS7.out.1 (by simp only [List.length_append, List.length_cons, List.length_nil]; omega) (HT.out.on HTF7.out.1) HN.out
          have H8 := Lib.hid C8
          clear C8 hq7 zz1
          go_wp2_with fail
          refine H8.out.mono ?_
          rintro e w8 ⟨rfl, hw8, htf8⟩
          have HTF8 := Lib.hid (HTF7.out.trans htf8)
          have hz8 : (B1 ++ [40] ++ remB 0 f).length ≤ 1073741824 := by simp only [List.length_append, List.length_cons, List.length_nil]; omega
          clear htf8
          generalize hB8 : B1 ++ [40] ++ remB 0 f = B8 at *
          have HB8 := Lib.hid hB8
          clear hB8
          obtain ⟨tv9, hq9, ho9⟩ := hw8
          obtain ⟨A9, c9, rfl, _, _⟩ := row_form ho9
          have p09 := hq9.cell 0
          have p19 := hq9.cell 1
          have pf9 := hq9.frozen 0
          simp only [List.getElem?_toArray, List.getElem?_cons_zero, List.getElem?_cons_succ] at p09 p19
          unfold fW at p19
          have hm9 := hq9.lt
          have HO9 := Lib.hid ho9
          have HQ9 := Lib.hid hq9
          clear hq9 ho9
          go_wp2_with (at_builtin; go_must (refine wpList_append_lies _ rfl _ _ _ rfl (mb + 1) 5 i0 _ 1 1 Tryz.underlying22 hi0 hz0 hz1 hz2 rfl (by omega) _ (B8).length (Lib.byteCells (B8)) rfl (HO9.out.alloc _) ⟨w8.heap.size, 0, none⟩ 1 1 [.int .u8 41] rfl rfl (World.news_of_block (cs := #[.int .u8 41]) (t := 5) (fr := (0, 0)) (Blk.new w8 5 #[.int .u8 41])) (by simp [Value.oneCell']) (by omega) (by unfold maxLen; omega) (by omega) (by simp; omega) (w8.heap.size + 1) (by simp) ?_); intro g9 cap9 w9 hown9 hgrow9 _ _; have hst9 := TW.step1 (c := 41) HQ9.out HO9.out rfl hgrow9 hown9; have y9 := hst9.2.2.cell 0; have yf9 := hst9.2.2.frozen 0; simp only [List.getElem?_toArray, List.getElem?_cons_zero] at y9; have HS9 := Lib.hid (And.intro hst9.1 hst9.2.1); clear hown9 hgrow9 hst9; refine Hid.out ?_)
          refine Lib.hid ?_
          have HFN : Hid (TW ob mb (bs ++ txT 3 n s f) _ ∧ TF mb w _) := Lib.hid ⟨by
            have e : B8 ++ [41] = bs ++ txT 3 n s f := by rw [HBE.out, ← HB8.out]
            rw [← e]; exact HS9.out.1, HTF8.out.trans HS9.out.2⟩
          go_wp2_with fail
          go_end0
          exact ⟨rfl, HFN.out⟩
    · obtain ⟨A9, c9, rfl, hPR⟩ := PR.new hown hD hb2 hh (by have := HB0.out.size; omega)
      have hpos : (fronts 3 s f).len ≠ 0 := by
        obtain ⟨k1, n1, s1, kd1, r, hf, _⟩ := txT_list hp htl
        rw [hf]; simp [Fr.len]
      obtain ⟨nf1, nf2⟩ := fr_nodes f.size 3 n s f (Nat.le_refl _)
      have C3 := wlist_of 3 n d s f hp HSH.out HH.out A9 c9 lo hi ob mb bs w2 hPR k' n' s' f' htl (.iface T9 x9) (hv'.keep (fun p _ hp => hb2.cell (by have := HB0.out.size; omega)) (Nat.le_refl _) (Nat.le_refl _)) hh hw2 HLL.out (HT.out.on htf2.1) (Nat.le_trans nf1 HN.out) (Nat.le_trans (nf2 k' n' s' f' htl) HN.out)
      have t0 : (0 : Int) < ((fronts 3 s f).len : Int) := by omega
      have H3 := Lib.hid C3
      clear C3 hown hD hb2 hv' htl hq2 htf2 hbw hp hs3 hw2 hPR hpos nf1 nf2
      generalize (fronts 3 s f).len = fl at *
      go_wp2_with fail
      refine H3.out.mono ?_
      rintro e w3 ⟨rfl, hw3, htf3⟩
      have HFN : Hid (TW ob mb (bs ++ txT 3 n s f) w3 ∧ TF mb w w3) := Lib.hid ⟨hw3, HTF2.out.trans htf3⟩
      clear hw3 htf3
      go_wp2_with fail
      first
        | (go_end0; exact ⟨rfl, HFN.out⟩)
        | ((try simp only [Exit.inBlock, Exit.then]); refine bodyPost_ret (results_none rfl _ _ _) rfl ?_; exact ⟨rfl, HFN.out⟩)
end Go.Proofs.YtihmgodiiohdnaaGreatDoor.wr

/- impl.canFollowOperator, operator.rightLevel, opWriter.named, opWriter.operandLevel. Condition: the node lies in memory, the map of operators in the writer's block. -/
namespace Go.Proofs.YtihmgodiiohdnaaGreatDoor.wr
open Go.RowKit Go.Maps

set_option maxHeartbeats 1000000 in
/-- impl.isLetter. -/
theorem letterI_any (c : UInt8) (w : World) : Calls Tryz.prog 83 #[.int .u8 (c.toNat : Int)] w fun e w' => e = .returned (.bool (smC c)) ∧ w' = w := by
  have HV : Hid (smC c = (decide (97 ≤ c.toNat) && decide (c.toNat ≤ 122))) := Lib.hid rfl
  by_cases h1 : 97 ≤ c.toNat
  · by_cases h2 : c.toNat ≤ 122
    · have HW : Hid (smC c = true) := Lib.hid (by rw [HV.out, decide_eq_true h1, decide_eq_true h2]; rfl)
      have b1 : decide ((97 : Int) ≤ (c.toNat : Int)) = true := by simp; omega
      have b2 : decide ((c.toNat : Int) ≤ 122) = true := by simp; omega
      clear HV h1 h2
      go_enter Tryz.func83, Tryz.ntmps83
      go_wp2_with fail
      go_ret
      rw [HW.out]; exact ⟨rfl, rfl⟩
    · have HW : Hid (smC c = false) := Lib.hid (by rw [HV.out, decide_eq_true h1, decide_eq_false h2]; rfl)
      have b1 : decide ((97 : Int) ≤ (c.toNat : Int)) = true := by simp; omega
      have b2 : decide ((c.toNat : Int) ≤ 122) = false := by simp; omega
      clear HV h1 h2
      go_enter Tryz.func83, Tryz.ntmps83
      go_wp2_with fail
      go_ret
      rw [HW.out]; exact ⟨rfl, rfl⟩
  · have HW : Hid (smC c = false) := Lib.hid (by rw [HV.out, decide_eq_false h1]; rfl)
    have b1 : decide ((97 : Int) ≤ (c.toNat : Int)) = false := by simp; omega
    clear HV h1
    go_enter Tryz.func83, Tryz.ntmps83
    go_wp2_with fail
    go_ret
    rw [HW.out]; exact ⟨rfl, rfl⟩
set_option maxHeartbeats 1000000 in
/-- impl.isDigit. -/
theorem digitI_any (c : UInt8) (w : World) : Calls Tryz.prog 84 #[.int .u8 (c.toNat : Int)] w fun e w' => e = .returned (.bool (dgC c)) ∧ w' = w := by
  have HV : Hid (dgC c = (decide (48 ≤ c.toNat) && decide (c.toNat ≤ 57))) := Lib.hid rfl
  by_cases h1 : 48 ≤ c.toNat
  · by_cases h2 : c.toNat ≤ 57
    · have HW : Hid (dgC c = true) := Lib.hid (by rw [HV.out, decide_eq_true h1, decide_eq_true h2]; rfl)
      have b1 : decide ((48 : Int) ≤ (c.toNat : Int)) = true := by simp; omega
      have b2 : decide ((c.toNat : Int) ≤ 57) = true := by simp; omega
      clear HV h1 h2
      go_enter Tryz.func84, Tryz.ntmps84
      go_wp2_with fail
      go_ret
      rw [HW.out]; exact ⟨rfl, rfl⟩
    · have HW : Hid (dgC c = false) := Lib.hid (by rw [HV.out, decide_eq_true h1, decide_eq_false h2]; rfl)
      have b1 : decide ((48 : Int) ≤ (c.toNat : Int)) = true := by simp; omega
      have b2 : decide ((c.toNat : Int) ≤ 57) = false := by simp; omega
      clear HV h1 h2
      go_enter Tryz.func84, Tryz.ntmps84
      go_wp2_with fail
      go_ret
      rw [HW.out]; exact ⟨rfl, rfl⟩
  · have HW : Hid (dgC c = false) := Lib.hid (by rw [HV.out, decide_eq_false h1]; rfl)
    have b1 : decide ((48 : Int) ≤ (c.toNat : Int)) = false := by simp; omega
    clear HV h1
    go_enter Tryz.func84, Tryz.ntmps84
    go_wp2_with fail
    go_ret
    rw [HW.out]; exact ⟨rfl, rfl⟩
set_option maxHeartbeats 2000000 in
/-- impl.canFollowOperator. -/
theorem follow_any (c : UInt8) (w : World) : Calls Tryz.prog 73 #[.int .u8 (c.toNat : Int)] w fun e w' => e = .returned (.bool (plC c)) ∧ w' = w := by
  have C1 := letterI_any c w
  have C2 := digitI_any c w
  have HV := Lib.hid (plC_of c)
  cases b1 : smC c
  · rw [b1] at C1
    by_cases h1 : 65 ≤ c.toNat
    · by_cases h2 : c.toNat ≤ 90
      · have HW : Hid (plC c = true) := Lib.hid (by rw [HV.out, decide_eq_true h1, decide_eq_true h2]; simp)
        have d1 : decide ((65 : Int) ≤ (c.toNat : Int)) = true := by simp; omega
        have d2 : decide ((c.toNat : Int) ≤ 90) = true := by simp; omega
        have H1 := Lib.hid C1
        clear C1 C2 b1 HV h1 h2
        go_enter Tryz.func73, Tryz.ntmps73
        go_wp2_with (first
          | (go_at_call 83; refine H1.out.mono ?_; rintro e w' ⟨rfl, rfl⟩)
          | fail)
        go_ret
        rw [HW.out]; exact ⟨rfl, rfl⟩
      · have d1 : decide ((65 : Int) ≤ (c.toNat : Int)) = true := by simp; omega
        have d2 : decide ((c.toNat : Int) ≤ 90) = false := by simp; omega
        have HV2 : Hid (plC c = (dgC c || (((c.toNat : Int) == 91) || ((c.toNat : Int) == 40)))) := Lib.hid (by rw [HV.out, b1, decide_eq_true h1, decide_eq_false h2]; simp)
        have H1 := Lib.hid C1
        have H2 := Lib.hid C2
        clear C1 C2 b1 HV h1 h2
        cases b2 : dgC c <;> rw [b2] at H2 HV2
        · cases b3 : ((c.toNat : Int) == 91) <;> rw [b3] at HV2
          · have HW : Hid (plC c = ((c.toNat : Int) == 40)) := Lib.hid (by rw [HV2.out]; simp)
            clear HV2 b2
            cases b4 : ((c.toNat : Int) == 40) <;> rw [b4] at HW
            · go_enter Tryz.func73, Tryz.ntmps73
              go_wp2_with (first
                | (go_at_call 83; refine H1.out.mono ?_; rintro e w' ⟨rfl, rfl⟩)
                | (go_at_call 84; refine H2.out.mono ?_; rintro e w' ⟨rfl, rfl⟩)
                | fail)
              go_ret
              rw [HW.out]; exact ⟨rfl, rfl⟩
            · go_enter Tryz.func73, Tryz.ntmps73
              go_wp2_with (first
                | (go_at_call 83; refine H1.out.mono ?_; rintro e w' ⟨rfl, rfl⟩)
                | (go_at_call 84; refine H2.out.mono ?_; rintro e w' ⟨rfl, rfl⟩)
                | fail)
              go_ret
              rw [HW.out]; exact ⟨rfl, rfl⟩
          · have HW : Hid (plC c = true) := Lib.hid (by rw [HV2.out]; simp)
            clear HV2 b2
            go_enter Tryz.func73, Tryz.ntmps73
            go_wp2_with (first
              | (go_at_call 83; refine H1.out.mono ?_; rintro e w' ⟨rfl, rfl⟩)
              | (go_at_call 84; refine H2.out.mono ?_; rintro e w' ⟨rfl, rfl⟩)
              | fail)
            go_ret
            rw [HW.out]; exact ⟨rfl, rfl⟩
        · have HW : Hid (plC c = true) := Lib.hid (by rw [HV2.out]; simp)
          clear HV2 b2
          go_enter Tryz.func73, Tryz.ntmps73
          go_wp2_with (first
            | (go_at_call 83; refine H1.out.mono ?_; rintro e w' ⟨rfl, rfl⟩)
            | (go_at_call 84; refine H2.out.mono ?_; rintro e w' ⟨rfl, rfl⟩)
            | fail)
          go_ret
          rw [HW.out]; exact ⟨rfl, rfl⟩
    · have d1 : decide ((65 : Int) ≤ (c.toNat : Int)) = false := by simp; omega
      have HV2 : Hid (plC c = (dgC c || (((c.toNat : Int) == 91) || ((c.toNat : Int) == 40)))) := Lib.hid (by rw [HV.out, b1, decide_eq_false h1]; simp)
      have H1 := Lib.hid C1
      have H2 := Lib.hid C2
      clear C1 C2 b1 HV h1
      cases b2 : dgC c <;> rw [b2] at H2 HV2
      · cases b3 : ((c.toNat : Int) == 91) <;> rw [b3] at HV2
        · have HW : Hid (plC c = ((c.toNat : Int) == 40)) := Lib.hid (by rw [HV2.out]; simp)
          clear HV2 b2
          cases b4 : ((c.toNat : Int) == 40) <;> rw [b4] at HW
          · go_enter Tryz.func73, Tryz.ntmps73
            go_wp2_with (first
              | (go_at_call 83; refine H1.out.mono ?_; rintro e w' ⟨rfl, rfl⟩)
              | (go_at_call 84; refine H2.out.mono ?_; rintro e w' ⟨rfl, rfl⟩)
              | fail)
            go_ret
            rw [HW.out]; exact ⟨rfl, rfl⟩
          · go_enter Tryz.func73, Tryz.ntmps73
            go_wp2_with (first
              | (go_at_call 83; refine H1.out.mono ?_; rintro e w' ⟨rfl, rfl⟩)
              | (go_at_call 84; refine H2.out.mono ?_; rintro e w' ⟨rfl, rfl⟩)
              | fail)
            go_ret
            rw [HW.out]; exact ⟨rfl, rfl⟩
        · have HW : Hid (plC c = true) := Lib.hid (by rw [HV2.out]; simp)
          clear HV2 b2
          go_enter Tryz.func73, Tryz.ntmps73
          go_wp2_with (first
            | (go_at_call 83; refine H1.out.mono ?_; rintro e w' ⟨rfl, rfl⟩)
            | (go_at_call 84; refine H2.out.mono ?_; rintro e w' ⟨rfl, rfl⟩)
            | fail)
          go_ret
          rw [HW.out]; exact ⟨rfl, rfl⟩
      · have HW : Hid (plC c = true) := Lib.hid (by rw [HV2.out]; simp)
        clear HV2 b2
        go_enter Tryz.func73, Tryz.ntmps73
        go_wp2_with (first
          | (go_at_call 83; refine H1.out.mono ?_; rintro e w' ⟨rfl, rfl⟩)
          | (go_at_call 84; refine H2.out.mono ?_; rintro e w' ⟨rfl, rfl⟩)
          | fail)
        go_ret
        rw [HW.out]; exact ⟨rfl, rfl⟩
  · rw [b1] at C1
    have HW : Hid (plC c = true) := Lib.hid (by rw [HV.out, b1]; rfl)
    have H1 := Lib.hid C1
    clear C1 C2 b1 HV
    go_enter Tryz.func73, Tryz.ntmps73
    go_wp2_with (first
      | (go_at_call 83; refine H1.out.mono ?_; rintro e w' ⟨rfl, rfl⟩)
      | fail)
    go_ret
    rw [HW.out]; exact ⟨rfl, rfl⟩
/-- operator.rightLevel. -/
theorem rightLv_any (a b : ByteArray) (l : Int) (hl : 0 ≤ l ∧ l ≤ 3) (w : World) :
    Calls Tryz.prog 56 #[.agg #[.string a, .string b, .int .i64 l]] w fun e w' => e = .returned (.int .i64 (l - 1)) ∧ Below w.heap.size w w' := by
  have hb0 : ∀ o, Below w.heap.size w (w.alloc o) := fun o => (Below.refl _ _).alloc (Nat.le_refl _) _
  have HB := Lib.hid hb0
  clear hb0
  obtain ⟨h0, h1⟩ := hl
  go_enter Tryz.func56, Tryz.ntmps56
  go_wp2_with fail
  go_ret
  exact ⟨rfl, HB.out _⟩
theorem lmin_lfl (l : Int) (h : l ≤ 3) : op.lmin l = lfl l := by
  unfold op.lmin lfl
  split <;> split <;> omega
end Go.Proofs.YtihmgodiiohdnaaGreatDoor.wr

/- What opWriter.named leaves. No condition. -/
namespace Go.Proofs.YtihmgodiiohdnaaGreatDoor.wr
open Go.RowKit Go.Maps

theorem results_cells2s {P : Program} {fn : Func} {p q u : Tmp} {ty ty' : TypeId} (h : fn.results = #[.cell p ty, .cell q ty', .tmp u]) (tmps : Array Value) (w : World) (g g' : Nat) (t t' : TypeId) (cs cs' : Array Value) (d d' : TypeDesc)
    (hp : tmps.getD p undef = .pointer (some ⟨g, 0, none⟩)) (hq : tmps.getD q undef = .pointer (some ⟨g', 0, none⟩)) (hg : Blk w g t cs) (hg' : Blk w g' t' cs')
    (hu : P.underlying ty = some d) (hd : (match d with | .struct _ | .array _ _ => true | _ => false) = true) (hi : (P.info? ty).map (·.size) = some cs.size)
    (hu' : P.underlying ty' = some d') (hd' : (match d' with | .struct _ | .array _ _ => true | _ => false) = true) (hi' : (P.info? ty').map (·.size) = some cs'.size) :
    (results fn tmps).run P w = .ok (.tuple #[.agg cs, .agg cs', tmps.getD u undef]) w := by
  have hp' : tmps[p]?.getD undef = .pointer (some ⟨g, 0, none⟩) := by simpa using hp
  have hq' : tmps[q]?.getD undef = .pointer (some ⟨g', 0, none⟩) := by simpa using hq
  simp [results, h, hp', hq', asAddr, run_loadVar_row w g t ty cs (0, 0) d hg hu hd hi, run_loadVar_row w g' t' ty' cs' (0, 0) d' hg' hu' hd' hi']

/-- What opWriter.named leaves. -/
def NmR (w : World) (k : Int) (s : ByteArray) (A : Option Addr) (len cap : Nat) (e : Ending) (w' : World) : Prop :=
  Below w.heap.size w w' ∧ ((k = 3 ∧ 0 < op.level s.data.toList ∧ ∃ a, e = .returned (.tuple #[.agg #[.string s, .slice A len cap], .agg #[.string a, .string ⟨(spB s.data.toList).toArray⟩, .int .i64 (op.level s.data.toList)], .bool true])) ∨
    ((k = 3 → op.level s.data.toList = 0) ∧ ∃ x1 x2 x3 x4 y1 y2 y3, e = .returned (.tuple #[.agg #[.string x1, .slice x2 x3 x4], .agg #[.string y1, .string y2, .int .i64 y3], .bool false])))

/-- The two results' blocks are written. -/
def nmW (w2 : World) (g : Nat) (a b c d e : Value) : World := ((((w2.setCell ⟨g, 0, none⟩ a).setCell ⟨g, 1, none⟩ b).setCell ⟨g + 1, 0, none⟩ c).setCell ⟨g + 1, 1, none⟩ d).setCell ⟨g + 1, 2, none⟩ e
theorem nm_store {w w2 : World} {a b c d e : Value} {t t' : TypeId} (hb : Below w.heap.size w w2) (h1 : Blk w2 w.heap.size t #[a, b]) (h2 : Blk w2 (w.heap.size + 1) t' #[c, d, e]) (a' b' c' d' e' : Value) :
    Blk (nmW w2 w.heap.size a' b' c' d' e') w.heap.size t #[a', b'] ∧ Blk (nmW w2 w.heap.size a' b' c' d' e') (w.heap.size + 1) t' #[c', d', e'] ∧ Below w.heap.size w (nmW w2 w.heap.size a' b' c' d' e') := by
  unfold nmW
  exact ⟨((((h1.set_ 0 a').set_ 1 b').far (by simp) _).far (by simp) _).far (by simp) _, ((((h2.far (by simp) _).far (by simp) _).set_ 0 c').set_ 1 d').set_ 2 e', ((((hb.setCell (by simp) _).setCell (by simp) _).setCell (by simp) _).setCell (by simp) _).setCell (by simp) _⟩

end Go.Proofs.YtihmgodiiohdnaaGreatDoor.wr

/- opWriter.named of a structure whose name is an operator. Condition: the map of operators in the writer's block. -/
namespace Go.Proofs.YtihmgodiiohdnaaGreatDoor.wr
open Go.RowKit Go.Maps

set_option maxRecDepth 100000 in
set_option maxHeartbeats 4000000 in
/-- opWriter.named of a structure whose name is an operator. -/
theorem named_yes (s : ByteArray) (hs : s.size ≤ maxLen) (A : Option Addr) (len cap ob mb : Nat) (tv fv : Value) (w : World) (hq : Blk w mb 63 #[tv, fv, .map (some ob)]) (hm : op.OpM w ob) (hpos : 0 < op.level s.data.toList) :
    Calls Tryz.prog 52 #[.pointer (some ⟨mb, 0, none⟩), .iface 84 (.agg #[.string s, .slice A len cap])] w fun e w' => NmR w 3 s A len cap e w' := by
  have hml := hq.lt
  have c2 := hq.cell 2
  simp only [List.getElem?_toArray, List.getElem?_cons_zero, List.getElem?_cons_succ] at c2
  have hkey := op.key_ok s hs
  have HM := Lib.hid hm
  have HQ := Lib.hid hq
  have hal : (op.opD2 14).atKey (.string s.data.toList) op.opZ = .agg [.lit (.string s.data.toList), .lit (.string (spB s.data.toList)), .lit (.int .i64 (op.level s.data.toList))] ∧ has (op.opD2 14) (.string s.data.toList) = true := by
    rcases op.at2_all s.data.toList with ⟨_, h⟩ | ⟨h, _⟩
    · exact h
    · omega
  have HAL := Lib.hid hal
  have HPOS := Lib.hid hpos
  clear hm hq hal hs hpos
  go_enter Tryz.func52, Tryz.ntmps52
  go_wp2_with fail
  have hb3 : Below w.heap.size w (((w.alloc (.cells #[.string ⟨#[]⟩, .slice none 0 0] 84)).alloc (.cells #[.string ⟨#[]⟩, .string ⟨#[]⟩, .int .i64 0] 112)).alloc (.cells #[.string s, .slice A len cap] 84)) :=
    (((Below.refl _ _).alloc (Nat.le_refl _) _).alloc (by simp) _).alloc (by simp; omega) _
  have q1 : Blk (((w.alloc (.cells #[.string ⟨#[]⟩, .slice none 0 0] 84)).alloc (.cells #[.string ⟨#[]⟩, .string ⟨#[]⟩, .int .i64 0] 112)).alloc (.cells #[.string s, .slice A len cap] 84)) w.heap.size 84 #[.string ⟨#[]⟩, .slice none 0 0] :=
    ((Blk.new w _ _).alloc _).alloc _
  have q2 : Blk (((w.alloc (.cells #[.string ⟨#[]⟩, .slice none 0 0] 84)).alloc (.cells #[.string ⟨#[]⟩, .string ⟨#[]⟩, .int .i64 0] 112)).alloc (.cells #[.string s, .slice A len cap] 84)) (w.heap.size + 1) 112 #[.string ⟨#[]⟩, .string ⟨#[]⟩, .int .i64 0] := by
    have h := (Blk.new (w.alloc (.cells #[.string ⟨#[]⟩, .slice none 0 0] 84)) 112 #[.string ⟨#[]⟩, .string ⟨#[]⟩, .int .i64 0]).alloc (.cells #[.string s, .slice A len cap] 84)
    simpa using h
  have q3 : Blk (((w.alloc (.cells #[.string ⟨#[]⟩, .slice none 0 0] 84)).alloc (.cells #[.string ⟨#[]⟩, .string ⟨#[]⟩, .int .i64 0] 112)).alloc (.cells #[.string s, .slice A len cap] 84)) (w.heap.size + 1 + 1) 84 #[.string s, .slice A len cap] := by
    have h := Blk.new ((w.alloc (.cells #[.string ⟨#[]⟩, .slice none 0 0] 84)).alloc (.cells #[.string ⟨#[]⟩, .string ⟨#[]⟩, .int .i64 0] 112)) 84 #[.string s, .slice A len cap]
    simpa using h
  have hm3 : op.OpM (((w.alloc (.cells #[.string ⟨#[]⟩, .slice none 0 0] 84)).alloc (.cells #[.string ⟨#[]⟩, .string ⟨#[]⟩, .int .i64 0] 112)).alloc (.cells #[.string s, .slice A len cap] 84)) ob := ((HM.out.alloc _).alloc _).alloc _
  generalize (((w.alloc (.cells #[.string ⟨#[]⟩, .slice none 0 0] 84)).alloc (.cells #[.string ⟨#[]⟩, .string ⟨#[]⟩, .int .i64 0] 112)).alloc (.cells #[.string s, .slice A len cap] 84)) = W at *
  have m2 := (hb3.cell (p := ⟨mb, 2, none⟩) hml).trans c2
  have x0 := q3.cell 0
  have x1 := q3.cell 1
  simp only [List.getElem?_toArray, List.getElem?_cons_zero, List.getElem?_cons_succ] at x0 x1
  obtain ⟨v, ps, hlk, hv⟩ := World.ownsMap.look_ok (e := 112) hm3.drew op.law Tryz.underlying61 (op.zero_op _) (zd := op.opZ) (zp := []) rfl hkey
  obtain ⟨v2, ps2, hlk2, hv2⟩ := World.ownsMap.look_ok (e := 112) (hm3.alloc (.cells #[.string ⟨#[]⟩, .string ⟨#[]⟩, .int .i64 0] 112)).drew op.law Tryz.underlying61 (op.zero_op _) (zd := op.opZ) (zp := []) rfl hkey
  have hmW : mb < W.heap.size := Nat.lt_of_lt_of_le hml hb3.size
  have hq3l := q3.lt
  have HB3 := Lib.hid hb3
  have HQ1 := Lib.hid q1
  have HQ2 := Lib.hid q2
  have HQ3 := Lib.hid q3
  have n2 : ∀ o, (W.alloc o).cell? ⟨mb, 2, none⟩ = some (.map (some ob)) := fun o => (((Below.refl W.heap.size W).alloc (Nat.le_refl _) o).cell (p := ⟨mb, 2, none⟩) hmW).trans m2
  have z0 : ∀ o, (W.alloc o).cell? ⟨w.heap.size + 1 + 1, 0, none⟩ = some (.string s) := fun o => (((Below.refl W.heap.size W).alloc (Nat.le_refl _) o).cell (p := ⟨w.heap.size + 1 + 1, 0, none⟩) hq3l).trans x0
  have z1 : ∀ o, (W.alloc o).cell? ⟨w.heap.size + 1 + 1, 1, none⟩ = some (.slice A len cap) := fun o => (((Below.refl W.heap.size W).alloc (Nat.le_refl _) o).cell (p := ⟨w.heap.size + 1 + 1, 1, none⟩) hq3l).trans x1
  have HN2 := Lib.hid n2
  have HZ0 := Lib.hid z0
  have HZ1 := Lib.hid z1
  clear hb3 q1 q2 q3 hm3 hkey c2 n2 z0 z1
  obtain ⟨hat, hhas⟩ := HAL.out
  rw [hat] at hv hv2
  obtain rfl := op.opR2_inv hv
  obtain rfl := op.opR2_inv hv2
  rw [hhas] at hlk hlk2
  clear hv hv2 hat hhas HAL
  have HEQ : Hid ((Ending.returned (.tuple #[.agg #[.string s, .slice A len cap], .agg #[.string ⟨s.data.toList.toArray⟩, .string ⟨(spB s.data.toList).toArray⟩, .int .i64 (op.level s.data.toList)], .bool true])) = Ending.returned (.tuple #[.agg #[.string s, .slice A len cap], .agg #[.string ⟨s.data.toList.toArray⟩, .string ⟨(spB s.data.toList).toArray⟩, .int .i64 (op.level s.data.toList)], .bool true])) := Lib.hid rfl
  generalize hlv : op.level s.data.toList = lv at *
  generalize (⟨s.data.toList.toArray⟩ : ByteArray) = a at *
  generalize hb : (⟨(spB s.data.toList).toArray⟩ : ByteArray) = b at *
  have HLV := Lib.hid hlv
  have HBB := Lib.hid hb
  clear hlv hb HEQ
  go_region_held3 (fun w' => w'.cell? ⟨mb, 2, none⟩ = some (.map (some ob)) ∧ w'.cell? ⟨w.heap.size + 1 + 1, 0, none⟩ = some (.string s) ∧ w'.cell? ⟨w.heap.size + 1 + 1, 1, none⟩ = some (.slice A len cap))
    (first | exact ⟨m2, x0, x1⟩ | exact ⟨HN2.out _, HZ0.out _, HZ1.out _⟩) (fail)
  all_goals
    have q1 : Blk (W.alloc (.cells #[.string a, .string b, .int .i64 lv] 112)).drew w.heap.size 84 #[.string ⟨#[]⟩, .slice none 0 0] := HQ1.out.alloc _
    have q2 : Blk (W.alloc (.cells #[.string a, .string b, .int .i64 lv] 112)).drew (w.heap.size + 1) 112 #[.string ⟨#[]⟩, .string ⟨#[]⟩, .int .i64 0] := HQ2.out.alloc _
    have q3 : Blk (W.alloc (.cells #[.string a, .string b, .int .i64 lv] 112)).drew (w.heap.size + 1 + 1) 84 #[.string s, .slice A len cap] := HQ3.out.alloc _
    have q4 : Blk (W.alloc (.cells #[.string a, .string b, .int .i64 lv] 112)).drew W.heap.size 112 #[.string a, .string b, .int .i64 lv] := Blk.new W _ _
    have hb4 : Below w.heap.size w (W.alloc (.cells #[.string a, .string b, .int .i64 lv] 112)).drew := (HB3.out.alloc HB3.out.size _).drew
    generalize (W.alloc (.cells #[.string a, .string b, .int .i64 lv] 112)).drew = W4 at *
    have r0 := q1.cell 0
    have r1 := q1.cell 1
    have r2 := q2.cell 0
    have r3 := q2.cell 1
    have r4 := q2.cell 2
    have r5 := q3.cell 0
    have r6 := q3.cell 1
    have r7 := q4.cell 0
    have r8 := q4.cell 1
    have r9 := q4.cell 2
    have g0 := q1.frozen 0
    have g1 := q1.frozen 1
    have g2 := q2.frozen 0
    have g3 := q2.frozen 1
    have g4 := q2.frozen 2
    simp only [List.getElem?_toArray, List.getElem?_cons_zero, List.getElem?_cons_succ] at r0 r1 r2 r3 r4 r5 r6 r7 r8 r9
    have hs4 : W.heap.size < W4.heap.size := q4.lt
    have hw4 : w.heap.size + 1 < W4.heap.size := q2.lt
    have hw5 : w.heap.size + 1 < W.heap.size := by omega
    have hw6 : w.heap.size + 1 + 1 < W.heap.size := by omega
    obtain ⟨p1, p2, p3⟩ := nm_store hb4 q1 q2 (.string s) (.slice A len cap) (.string a) (.string b) (.int .i64 lv)
    have HP1 := Lib.hid p1
    have HP2 := Lib.hid p2
    have HP3 := Lib.hid p3
    clear q1 q2 q3 q4 hb4 p1 p2 p3 HQ1 HQ2 HQ3 HB3 m2 x0 x1
    go_wp2_with fail
    go_region
    all_goals
      go_wp2_with fail
      refine bodyPost_ret (v := .tuple #[.agg #[.string s, .slice A len cap], .agg #[.string a, .string b, .int .i64 lv], .bool true]) ?_ rfl ⟨?_, .inl ⟨rfl, by rw [HLV.out]; exact HPOS.out, a, by rw [HLV.out, HBB.out]⟩⟩
      · exact results_cells2s Tryz.results52 _ _ w.heap.size (w.heap.size + 1) _ _ _ _ _ _ rfl rfl HP1.out HP2.out Tryz.underlying84 rfl (by kernel_rfl) Tryz.underlying112 rfl (by kernel_rfl)
      · exact HP3.out.drew
end Go.Proofs.YtihmgodiiohdnaaGreatDoor.wr

/- opWriter.named of a structure whose name is no operator. Condition: the map of operators in the writer's block. -/
namespace Go.Proofs.YtihmgodiiohdnaaGreatDoor.wr
open Go.RowKit Go.Maps

set_option maxRecDepth 100000 in
set_option maxHeartbeats 4000000 in
/-- opWriter.named of a structure whose name is no operator. -/
theorem named_no (s : ByteArray) (hs : s.size ≤ maxLen) (A : Option Addr) (len cap ob mb : Nat) (tv fv : Value) (w : World) (hq : Blk w mb 63 #[tv, fv, .map (some ob)]) (hm : op.OpM w ob) (hz : op.level s.data.toList = 0) :
    Calls Tryz.prog 52 #[.pointer (some ⟨mb, 0, none⟩), .iface 84 (.agg #[.string s, .slice A len cap])] w fun e w' => NmR w 3 s A len cap e w' := by
  have hml := hq.lt
  have c2 := hq.cell 2
  simp only [List.getElem?_toArray, List.getElem?_cons_zero, List.getElem?_cons_succ] at c2
  have hkey := op.key_ok s hs
  have HM := Lib.hid hm
  have HQ := Lib.hid hq
  have hal : (op.opD2 14).atKey (.string s.data.toList) op.opZ = .agg [.lit (.string []), .lit (.string []), .lit (.int .i64 0)] ∧ has (op.opD2 14) (.string s.data.toList) = false := by
    rcases op.at2_all s.data.toList with ⟨h, _⟩ | ⟨_, h⟩
    · omega
    · exact h
  have HAL := Lib.hid hal
  have HZ := Lib.hid hz
  clear hm hq hal hs hz
  go_enter Tryz.func52, Tryz.ntmps52
  go_wp2_with fail
  have hb3 : Below w.heap.size w (((w.alloc (.cells #[.string ⟨#[]⟩, .slice none 0 0] 84)).alloc (.cells #[.string ⟨#[]⟩, .string ⟨#[]⟩, .int .i64 0] 112)).alloc (.cells #[.string s, .slice A len cap] 84)) :=
    (((Below.refl _ _).alloc (Nat.le_refl _) _).alloc (by simp) _).alloc (by simp; omega) _
  have q1 : Blk (((w.alloc (.cells #[.string ⟨#[]⟩, .slice none 0 0] 84)).alloc (.cells #[.string ⟨#[]⟩, .string ⟨#[]⟩, .int .i64 0] 112)).alloc (.cells #[.string s, .slice A len cap] 84)) w.heap.size 84 #[.string ⟨#[]⟩, .slice none 0 0] :=
    ((Blk.new w _ _).alloc _).alloc _
  have q2 : Blk (((w.alloc (.cells #[.string ⟨#[]⟩, .slice none 0 0] 84)).alloc (.cells #[.string ⟨#[]⟩, .string ⟨#[]⟩, .int .i64 0] 112)).alloc (.cells #[.string s, .slice A len cap] 84)) (w.heap.size + 1) 112 #[.string ⟨#[]⟩, .string ⟨#[]⟩, .int .i64 0] := by
    have h := (Blk.new (w.alloc (.cells #[.string ⟨#[]⟩, .slice none 0 0] 84)) 112 #[.string ⟨#[]⟩, .string ⟨#[]⟩, .int .i64 0]).alloc (.cells #[.string s, .slice A len cap] 84)
    simpa using h
  have q3 : Blk (((w.alloc (.cells #[.string ⟨#[]⟩, .slice none 0 0] 84)).alloc (.cells #[.string ⟨#[]⟩, .string ⟨#[]⟩, .int .i64 0] 112)).alloc (.cells #[.string s, .slice A len cap] 84)) (w.heap.size + 1 + 1) 84 #[.string s, .slice A len cap] := by
    have h := Blk.new ((w.alloc (.cells #[.string ⟨#[]⟩, .slice none 0 0] 84)).alloc (.cells #[.string ⟨#[]⟩, .string ⟨#[]⟩, .int .i64 0] 112)) 84 #[.string s, .slice A len cap]
    simpa using h
  have hm3 : op.OpM (((w.alloc (.cells #[.string ⟨#[]⟩, .slice none 0 0] 84)).alloc (.cells #[.string ⟨#[]⟩, .string ⟨#[]⟩, .int .i64 0] 112)).alloc (.cells #[.string s, .slice A len cap] 84)) ob := ((HM.out.alloc _).alloc _).alloc _
  generalize (((w.alloc (.cells #[.string ⟨#[]⟩, .slice none 0 0] 84)).alloc (.cells #[.string ⟨#[]⟩, .string ⟨#[]⟩, .int .i64 0] 112)).alloc (.cells #[.string s, .slice A len cap] 84)) = W at *
  have m2 := (hb3.cell (p := ⟨mb, 2, none⟩) hml).trans c2
  have x0 := q3.cell 0
  have x1 := q3.cell 1
  simp only [List.getElem?_toArray, List.getElem?_cons_zero, List.getElem?_cons_succ] at x0 x1
  obtain ⟨v, ps, hlk, hv⟩ := World.ownsMap.look_ok (e := 112) hm3.drew op.law Tryz.underlying61 (op.zero_op _) (zd := op.opZ) (zp := []) rfl hkey
  obtain ⟨v2, ps2, hlk2, hv2⟩ := World.ownsMap.look_ok (e := 112) (hm3.alloc (.cells #[.string ⟨#[]⟩, .string ⟨#[]⟩, .int .i64 0] 112)).drew op.law Tryz.underlying61 (op.zero_op _) (zd := op.opZ) (zp := []) rfl hkey
  have hmW : mb < W.heap.size := Nat.lt_of_lt_of_le hml hb3.size
  have hq3l := q3.lt
  have HB3 := Lib.hid hb3
  have HQ1 := Lib.hid q1
  have HQ2 := Lib.hid q2
  have HQ3 := Lib.hid q3
  have n2 : ∀ o, (W.alloc o).cell? ⟨mb, 2, none⟩ = some (.map (some ob)) := fun o => (((Below.refl W.heap.size W).alloc (Nat.le_refl _) o).cell (p := ⟨mb, 2, none⟩) hmW).trans m2
  have z0 : ∀ o, (W.alloc o).cell? ⟨w.heap.size + 1 + 1, 0, none⟩ = some (.string s) := fun o => (((Below.refl W.heap.size W).alloc (Nat.le_refl _) o).cell (p := ⟨w.heap.size + 1 + 1, 0, none⟩) hq3l).trans x0
  have z1 : ∀ o, (W.alloc o).cell? ⟨w.heap.size + 1 + 1, 1, none⟩ = some (.slice A len cap) := fun o => (((Below.refl W.heap.size W).alloc (Nat.le_refl _) o).cell (p := ⟨w.heap.size + 1 + 1, 1, none⟩) hq3l).trans x1
  have HN2 := Lib.hid n2
  have HZ0 := Lib.hid z0
  have HZ1 := Lib.hid z1
  clear hb3 q1 q2 q3 hm3 hkey c2 n2 z0 z1
  obtain ⟨hat, hhas⟩ := HAL.out
  rw [hat] at hv hv2
  obtain ⟨a, ha⟩ : ∃ a : ByteArray, a = ⟨([] : List UInt8).toArray⟩ := ⟨_, rfl⟩
  obtain ⟨b, hb⟩ : ∃ b : ByteArray, b = ⟨([] : List UInt8).toArray⟩ := ⟨_, rfl⟩
  obtain ⟨lv, hl⟩ : ∃ l : Int, l = 0 := ⟨_, rfl⟩
  have h1 : v = .agg #[.string a, .string b, .int .i64 lv] := by rw [ha, hb, hl]; exact op.opR2_inv hv
  have h2 : v2 = .agg #[.string a, .string b, .int .i64 lv] := by rw [ha, hb, hl]; exact op.opR2_inv hv2
  subst h1 h2
  rw [hhas] at hlk hlk2
  clear hv hv2 hat hhas HAL ha hb hl
  go_region_held3 (fun w' => w'.cell? ⟨mb, 2, none⟩ = some (.map (some ob)) ∧ w'.cell? ⟨w.heap.size + 1 + 1, 0, none⟩ = some (.string s) ∧ w'.cell? ⟨w.heap.size + 1 + 1, 1, none⟩ = some (.slice A len cap))
    (first | exact ⟨m2, x0, x1⟩ | exact ⟨HN2.out _, HZ0.out _, HZ1.out _⟩) (fail)
  all_goals
    have q1 : Blk (W.alloc (.cells #[.string a, .string b, .int .i64 lv] 112)).drew w.heap.size 84 #[.string ⟨#[]⟩, .slice none 0 0] := HQ1.out.alloc _
    have q2 : Blk (W.alloc (.cells #[.string a, .string b, .int .i64 lv] 112)).drew (w.heap.size + 1) 112 #[.string ⟨#[]⟩, .string ⟨#[]⟩, .int .i64 0] := HQ2.out.alloc _
    have q3 : Blk (W.alloc (.cells #[.string a, .string b, .int .i64 lv] 112)).drew (w.heap.size + 1 + 1) 84 #[.string s, .slice A len cap] := HQ3.out.alloc _
    have q4 : Blk (W.alloc (.cells #[.string a, .string b, .int .i64 lv] 112)).drew W.heap.size 112 #[.string a, .string b, .int .i64 lv] := Blk.new W _ _
    have hb4 : Below w.heap.size w (W.alloc (.cells #[.string a, .string b, .int .i64 lv] 112)).drew := (HB3.out.alloc HB3.out.size _).drew
    generalize (W.alloc (.cells #[.string a, .string b, .int .i64 lv] 112)).drew = W4 at *
    have r0 := q1.cell 0
    have r1 := q1.cell 1
    have r2 := q2.cell 0
    have r3 := q2.cell 1
    have r4 := q2.cell 2
    have r5 := q3.cell 0
    have r6 := q3.cell 1
    have r7 := q4.cell 0
    have r8 := q4.cell 1
    have r9 := q4.cell 2
    have g0 := q1.frozen 0
    have g1 := q1.frozen 1
    have g2 := q2.frozen 0
    have g3 := q2.frozen 1
    have g4 := q2.frozen 2
    simp only [List.getElem?_toArray, List.getElem?_cons_zero, List.getElem?_cons_succ] at r0 r1 r2 r3 r4 r5 r6 r7 r8 r9
    have hs4 : W.heap.size < W4.heap.size := q4.lt
    have hw4 : w.heap.size + 1 < W4.heap.size := q2.lt
    have hw5 : w.heap.size + 1 < W.heap.size := by omega
    have hw6 : w.heap.size + 1 + 1 < W.heap.size := by omega
    obtain ⟨p1, p2, p3⟩ := nm_store hb4 q1 q2 (.string s) (.slice A len cap) (.string a) (.string b) (.int .i64 lv)
    have HP1 := Lib.hid p1
    have HP2 := Lib.hid p2
    have HP3 := Lib.hid p3
    clear q1 q2 q3 q4 hb4 p1 p2 p3 HQ1 HQ2 HQ3 HB3 m2 x0 x1
    go_wp2_with fail
    go_region
    all_goals
      go_wp2_with fail
      refine bodyPost_ret (v := .tuple #[.agg #[.string s, .slice A len cap], .agg #[.string a, .string b, .int .i64 lv], .bool false]) ?_ rfl ⟨?_, .inr ⟨fun _ => HZ.out, _, _, _, _, _, _, _, rfl⟩⟩
      · exact results_cells2s Tryz.results52 _ _ w.heap.size (w.heap.size + 1) _ _ _ _ _ _ rfl rfl HP1.out HP2.out Tryz.underlying84 rfl (by kernel_rfl) Tryz.underlying112 rfl (by kernel_rfl)
      · exact HP3.out.drew
end Go.Proofs.YtihmgodiiohdnaaGreatDoor.wr

/- opWriter.named of variables and numbers. No condition. -/
namespace Go.Proofs.YtihmgodiiohdnaaGreatDoor.wr
open Go.RowKit Go.Maps

set_option maxRecDepth 100000 in
set_option maxHeartbeats 2000000 in
/-- opWriter.named of a variable. -/
theorem named_var (x : Int) (s : ByteArray) (A : Option Addr) (len cap mb : Nat) (w : World) :
    Calls Tryz.prog 52 #[.pointer (some ⟨mb, 0, none⟩), .iface 133 (.int .i64 x)] w fun e w' => NmR w 1 s A len cap e w' := by
  have hb3 : Below w.heap.size w (((w.alloc (.cells #[.string ⟨#[]⟩, .slice none 0 0] 84)).alloc (.cells #[.string ⟨#[]⟩, .string ⟨#[]⟩, .int .i64 0] 112)).alloc (.cells #[.string ⟨#[]⟩, .slice none 0 0] 84)) :=
    (((Below.refl _ _).alloc (Nat.le_refl _) _).alloc (by simp) _).alloc (by simp; omega) _
  have q1 : Blk (((w.alloc (.cells #[.string ⟨#[]⟩, .slice none 0 0] 84)).alloc (.cells #[.string ⟨#[]⟩, .string ⟨#[]⟩, .int .i64 0] 112)).alloc (.cells #[.string ⟨#[]⟩, .slice none 0 0] 84)) w.heap.size 84 #[.string ⟨#[]⟩, .slice none 0 0] :=
    ((Blk.new w _ _).alloc _).alloc _
  have q2 : Blk (((w.alloc (.cells #[.string ⟨#[]⟩, .slice none 0 0] 84)).alloc (.cells #[.string ⟨#[]⟩, .string ⟨#[]⟩, .int .i64 0] 112)).alloc (.cells #[.string ⟨#[]⟩, .slice none 0 0] 84)) (w.heap.size + 1) 112 #[.string ⟨#[]⟩, .string ⟨#[]⟩, .int .i64 0] := by
    have h := (Blk.new (w.alloc (.cells #[.string ⟨#[]⟩, .slice none 0 0] 84)) 112 #[.string ⟨#[]⟩, .string ⟨#[]⟩, .int .i64 0]).alloc (.cells #[.string ⟨#[]⟩, .slice none 0 0] 84)
    simpa using h
  have HB3 := Lib.hid hb3
  have HQ1 := Lib.hid q1
  have HQ2 := Lib.hid q2
  clear hb3 q1 q2
  go_enter Tryz.func52, Tryz.ntmps52
  go_wp2_with fail
  refine bodyPost_ret (v := .tuple #[.agg #[.string ⟨#[]⟩, .slice none 0 0], .agg #[.string ⟨#[]⟩, .string ⟨#[]⟩, .int .i64 0], .bool false]) ?_ rfl ⟨HB3.out, .inr ⟨fun h => absurd h (by decide), _, _, _, _, _, _, _, rfl⟩⟩
  exact results_cells2s Tryz.results52 _ _ w.heap.size (w.heap.size + 1) _ _ _ _ _ _ rfl rfl HQ1.out HQ2.out Tryz.underlying84 rfl (by kernel_rfl) Tryz.underlying112 rfl (by kernel_rfl)
set_option maxRecDepth 100000 in
set_option maxHeartbeats 2000000 in
/-- opWriter.named of a number. -/
theorem named_num (x : Int) (s : ByteArray) (A : Option Addr) (len cap mb : Nat) (w : World) :
    Calls Tryz.prog 52 #[.pointer (some ⟨mb, 0, none⟩), .iface 134 (.int .i64 x)] w fun e w' => NmR w 2 s A len cap e w' := by
  have hb3 : Below w.heap.size w (((w.alloc (.cells #[.string ⟨#[]⟩, .slice none 0 0] 84)).alloc (.cells #[.string ⟨#[]⟩, .string ⟨#[]⟩, .int .i64 0] 112)).alloc (.cells #[.string ⟨#[]⟩, .slice none 0 0] 84)) :=
    (((Below.refl _ _).alloc (Nat.le_refl _) _).alloc (by simp) _).alloc (by simp; omega) _
  have q1 : Blk (((w.alloc (.cells #[.string ⟨#[]⟩, .slice none 0 0] 84)).alloc (.cells #[.string ⟨#[]⟩, .string ⟨#[]⟩, .int .i64 0] 112)).alloc (.cells #[.string ⟨#[]⟩, .slice none 0 0] 84)) w.heap.size 84 #[.string ⟨#[]⟩, .slice none 0 0] :=
    ((Blk.new w _ _).alloc _).alloc _
  have q2 : Blk (((w.alloc (.cells #[.string ⟨#[]⟩, .slice none 0 0] 84)).alloc (.cells #[.string ⟨#[]⟩, .string ⟨#[]⟩, .int .i64 0] 112)).alloc (.cells #[.string ⟨#[]⟩, .slice none 0 0] 84)) (w.heap.size + 1) 112 #[.string ⟨#[]⟩, .string ⟨#[]⟩, .int .i64 0] := by
    have h := (Blk.new (w.alloc (.cells #[.string ⟨#[]⟩, .slice none 0 0] 84)) 112 #[.string ⟨#[]⟩, .string ⟨#[]⟩, .int .i64 0]).alloc (.cells #[.string ⟨#[]⟩, .slice none 0 0] 84)
    simpa using h
  have HB3 := Lib.hid hb3
  have HQ1 := Lib.hid q1
  have HQ2 := Lib.hid q2
  clear hb3 q1 q2
  go_enter Tryz.func52, Tryz.ntmps52
  go_wp2_with fail
  refine bodyPost_ret (v := .tuple #[.agg #[.string ⟨#[]⟩, .slice none 0 0], .agg #[.string ⟨#[]⟩, .string ⟨#[]⟩, .int .i64 0], .bool false]) ?_ rfl ⟨HB3.out, .inr ⟨fun h => absurd h (by decide), _, _, _, _, _, _, _, rfl⟩⟩
  exact results_cells2s Tryz.results52 _ _ w.heap.size (w.heap.size + 1) _ _ _ _ _ _ rfl rfl HQ1.out HQ2.out Tryz.underlying84 rfl (by kernel_rfl) Tryz.underlying112 rfl (by kernel_rfl)
end Go.Proofs.YtihmgodiiohdnaaGreatDoor.wr

/- opWriter.named at every node; opWriter.operandLevel. Condition: the node lies in memory, the map of operators in the writer's block. -/
namespace Go.Proofs.YtihmgodiiohdnaaGreatDoor.wr
open Go.RowKit Go.Maps

/-- opWriter.named of a node, in a world in which the writer stands. -/
theorem named_any (k n : Int) (s : ByteArray) (f : Fr) (v : Value) (lo hi ob mb : Nat) (tv fv : Value) (w : World) (hv : NdV w lo hi k n s f v) (hs : s.size ≤ maxLen) (hq : Blk w mb 63 #[tv, fv, .map (some ob)]) (hm : op.OpM w ob) :
    ∃ A cap, (k = 3 → NdS w lo hi f A cap ∧ v = .iface 84 (.agg #[.string s, .slice A f.len cap])) ∧ Calls Tryz.prog 52 #[.pointer (some ⟨mb, 0, none⟩), v] w fun e w' => NmR w k s A f.len cap e w' := by
  rcases hv with ⟨rfl, rfl⟩ | ⟨rfl, rfl⟩ | ⟨rfl, A, cap, rfl, hn⟩
  · exact ⟨none, 0, (fun h => absurd h (by decide)), named_var n s none f.len 0 mb w⟩
  · exact ⟨none, 0, (fun h => absurd h (by decide)), named_num n s none f.len 0 mb w⟩
  · refine ⟨A, cap, fun _ => ⟨hn, rfl⟩, ?_⟩
    rcases op.at2_all s.data.toList with ⟨h, _⟩ | ⟨h, _⟩
    · exact named_yes s hs A f.len cap ob mb tv fv w hq hm h
    · exact named_no s hs A f.len cap ob mb tv fv w hq hm h

set_option maxRecDepth 100000 in
set_option maxHeartbeats 2000000 in
/-- opWriter.operandLevel. -/
theorem oplev_any (k n : Int) (s : ByteArray) (f : Fr) (v : Value) (lo hi ob mb : Nat) (tv fv : Value) (w : World) (hv : NdV w lo hi k n s f v) (hs : s.size ≤ maxLen) (hfl : f.len ≤ maxLen) (hq : Blk w mb 63 #[tv, fv, .map (some ob)]) (hm : op.OpM w ob) :
    Calls Tryz.prog 72 #[.pointer (some ⟨mb, 0, none⟩), v] w fun e w' => e = .returned (.int .i64 (olv k s f.len)) ∧ Below w.heap.size w w' := by
  obtain ⟨A, cap, -, C1⟩ := named_any k n s f v lo hi ob mb tv fv w hv hs hq hm
  obtain ⟨T0, x0, rfl⟩ := hv.iface
  have HV : Hid (olv k s f.len = if infB k s f.len = true then op.level s.data.toList else if soleB k s f.len = true then 4 else 0) := Lib.hid rfl
  have HI : Hid (infB k s f.len = (k == 3 && (f.len == 2 && decide (0 < op.level s.data.toList)))) := Lib.hid rfl
  have HS : Hid (soleB k s f.len = (k == 3 && (f.len == 0 && decide (0 < op.level s.data.toList)))) := Lib.hid rfl
  have H1 := Lib.hid C1
  unfold maxLen at hfl
  clear C1 hv hs hq hm
  generalize f.len = len at *
  go_enter Tryz.func72, Tryz.ntmps72
  go_wp2_with fail
  refine H1.out.mono ?_
  rintro e w2 ⟨hb, hr⟩
  have HB := Lib.hid hb
  have HB2 : Hid (∀ o1 o2, Below w.heap.size w ((w2.alloc o1).alloc o2)) := Lib.hid fun o1 o2 => (HB.out.alloc HB.out.size _).alloc (by have := HB.out.size; simp; omega) _
  rcases hr with ⟨rfl, hpos, a, rfl⟩ | ⟨hz, x1, x2, x3, x4, y1, y2, y3, rfl⟩
  · have hd := decide_eq_true hpos
    rw [hd] at HI HS
    clear hd hpos hb
    generalize op.level s.data.toList = lv at *
    by_cases h2 : len = 2
    · subst h2
      have HW : Hid (olv 3 s 2 = lv) := Lib.hid (by rw [HV.out, HI.out]; rfl)
      clear HV HI HS
      go_wp2_with fail
      go_ret
      rw [HW.out]; exact ⟨rfl, HB2.out _ _⟩
    · have t2 : ((len : Int) == 2) = false := by rw [beq_eq_false_iff_ne]; omega
      have hi0 : infB 3 s len = false := by rw [HI.out]; simp [h2]
      by_cases h0 : len = 0
      · subst h0
        have HW : Hid (olv 3 s 0 = 4) := Lib.hid (by rw [HV.out, hi0, HS.out]; rfl)
        clear HV HI HS hi0 h2
        go_wp2_with fail
        go_ret
        rw [HW.out]; exact ⟨rfl, HB2.out _ _⟩
      · have t0 : ((len : Int) == 0) = false := by rw [beq_eq_false_iff_ne]; omega
        have hs0 : soleB 3 s len = false := by rw [HS.out]; simp [h0]
        have HW : Hid (olv 3 s len = 0) := Lib.hid (by rw [HV.out, hi0, hs0]; rfl)
        clear HV HI HS hi0 hs0 h2 h0
        go_wp2_with fail
        go_ret
        rw [HW.out]; exact ⟨rfl, HB2.out _ _⟩
  · have hk : (k == 3) = false ∨ decide (0 < op.level s.data.toList) = false := by
      by_cases h3 : k = 3
      · right; rw [hz h3]; rfl
      · left; rw [beq_eq_false_iff_ne]; exact h3
    have HW : Hid (olv k s len = 0) := Lib.hid (by
      rw [HV.out, HI.out, HS.out]
      rcases hk with h | h <;> rw [h] <;> simp)
    clear HV HI HS hk hz hb
    go_wp2_with fail
    go_ret
    rw [HW.out]; exact ⟨rfl, HB2.out _ _⟩
end Go.Proofs.YtihmgodiiohdnaaGreatDoor.wr

/- opWriter.writeOperand, given the contract of writeWritten. Condition: the node lies in memory below the writer and is well-formed; the tables in their places. -/
namespace Go.Proofs.YtihmgodiiohdnaaGreatDoor.wr
open Go.RowKit

theorem TF.rows {mb : Nat} {w w1 w6 : World} {tv : Value} {n : Nat} {xs : List Value} (hm : mb < w.heap.size) (ho : w.ownsRow (mb + 1) 5 1 tv n xs) (h1 : Below w.heap.size w w1) (hg : w1.grownBy w6 tv.ownBlock) : TF mb w w6 := by
  refine ⟨(h1.mono (Nat.le_of_lt hm)).grown hg (Nat.le_trans (Nat.le_of_lt hm) h1.size) fun k hk => by have := (ho.lt k hk).1; omega, ?_⟩
  refine (TF.below h1 (Nat.le_of_lt hm)).2.grown hg fun k hk => ?_
  obtain ⟨c, fz, hc⟩ := row_kind ho k hk
  exact ⟨c, fz, (h1.block k (ho.lt k hk).2).trans hc⟩
/-- Two calls that make the row grow, and the store of the new row. -/
theorem TW.two {ob mb n4 : Nat} {bs bs' : List UInt8} {xs4 : List Value} {w w1 w4 w5 w6 : World} {tv v4 v6 : Value} (hq : Blk w mb 63 #[tv, fW mb, .map (some ob)]) (ho : w.ownsRow (mb + 1) 5 1 tv bs.length (Lib.byteCells bs)) (h1 : Below w.heap.size w w1) (hg : w1.grownBy w4 tv.ownBlock)
    (ho4 : w4.ownsRow (mb + 1) 5 1 v4 n4 xs4) (h5 : Below w4.heap.size w4 w5) (hg6 : w5.grownBy w6 v4.ownBlock) (ho6 : w6.ownsRow (mb + 1) 5 1 v6 bs'.length (Lib.byteCells bs')) :
    TW ob mb bs' (w6.setCell ⟨mb, 0, none⟩ v6) ∧ TF mb w (w6.setCell ⟨mb, 0, none⟩ v6) ∧ Blk w6 mb 63 #[tv, fW mb, .map (some ob)] := by
  have hm := hq.lt
  have hs4 : w.heap.size ≤ w4.heap.size := Nat.le_trans h1.size hg.size
  have t1 := TF.rows hm ho h1 hg
  have t2 := TF.rows (Nat.lt_of_lt_of_le hm hs4) ho4 h5 hg6
  have hne : some mb ≠ tv.ownBlock := fun e => by have := (ho.lt mb e.symm).1; omega
  have hne4 : some mb ≠ v4.ownBlock := fun e => by have := (ho4.lt mb e.symm).1; omega
  have hq6 : Blk w6 mb 63 #[tv, fW mb, .map (some ob)] := by
    refine hq.keep ?_
    rw [hg6.block mb (Nat.lt_of_lt_of_le (Nat.lt_of_lt_of_le hm hs4) h5.size) hne4, h5.block mb (Nat.lt_of_lt_of_le hm hs4), hg.block mb (Nat.lt_of_lt_of_le hm h1.size) hne, h1.block mb hm]
  refine ⟨⟨v6, ?_, ?_⟩, (t1.trans t2).set_ 0 _, hq6⟩
  · have h := hq6.set_ 0 v6
    simpa using h
  · refine ho6.kept (row := some mb) ⟨rfl, rfl, rfl, by simp [World.setCell], fun k _ hk => ?_⟩ (.inr fun e => ?_)
    · exact heap_setCell_other _ _ _ _ fun e => hk (by rw [e])
    · have := (ho6.lt mb e).1
      omega
theorem row_some {w : World} {base : Nat} {e : TypeId} {A : Option Addr} {n c : Nat} {xs : List Value} (h : w.ownsRow base e 1 (.slice A n c) n xs) (hn : 0 < n) : ∃ g, A = some ⟨g, 0, none⟩ := by
  rcases h.2 with ⟨_, h0⟩ | ⟨g', cap, cur, hv, _⟩
  · omega
  · simp only [Value.slice.injEq] at hv
    exact ⟨g', hv.1⟩
/-- An operand's text. -/
def opT (right : Bool) (k n : Int) (s : ByteArray) (f : Fr) (l : Int) : List UInt8 := if right = true then rigT k n s f l else lefT k n s f l
theorem byteCells_at (a b : List UInt8) (c : UInt8) : (Lib.byteCells (a ++ c :: b))[a.length]? = some (.int .u8 (c.toNat : Int)) := by
  unfold Lib.byteCells
  simp
theorem one_bytes (a : List UInt8) : ∀ v ∈ Lib.byteCells a, v.oneCell' = true := by
  unfold Lib.byteCells
  intro v hv
  simp only [List.mem_map] at hv
  obtain ⟨c, _, rfl⟩ := hv
  rfl
theorem ins_bytes (bs T : List UInt8) : (Lib.byteCells (bs ++ T)).take bs.length ++ Value.int .u8 40 :: (Lib.byteCells (bs ++ T)).drop bs.length = Lib.byteCells (bs ++ 40 :: T) := by
  unfold Lib.byteCells
  rw [List.map_append, List.take_left' (by simp), List.drop_left' (by simp)]
  simp

set_option maxRecDepth 100000 in
set_option maxHeartbeats 4000000 in
/-- opWriter.writeOperand where no brackets are needed. -/
theorem opnd_plain (s : ByteArray) (f : Fr) (h : OwC s f) (k n d l : Int) (right : Bool) (v : Value) (lo hi ob mb : Nat) (bs : List UInt8) (w : World) (hs : shapeT k n s f d = true) (hsz : s.size ≤ maxLen) (hv : NdV w lo hi k n s f v) (hh : hi ≤ mb) (hw : TW ob mb bs w) (hl : bs.length + (txT k n s f).length ≤ 1073741824) (ht : Pow10 ob mb w) (hnd : nodes f ≤ 1048576)
    (h1 : ¬ l < olv k s f.len) (h2 : right = true → plB (txT k n s f) = true) :
    Calls Tryz.prog 54 #[.pointer (some ⟨mb, 0, none⟩), v, .int .i64 l, .bool right] w fun e w' => e = .returned (.tuple #[]) ∧ TW ob mb (bs ++ txT k n s f) w' ∧ TF mb w w' := by
  have hm0 : mb < w.heap.size := by obtain ⟨_, hq, _⟩ := hw; exact hq.lt
  have C1 := h k n d v lo hi ob mb bs w hs hv hh hw hl ht hnd
  have hfl : f.len ≤ maxLen := by have := len_le_nodes f; unfold maxLen; omega
  have C2 := fun (w2 : World) (htf : TF mb w w2) (tv : Value) (hq : Blk w2 mb 63 #[tv, fW mb, .map (some ob)]) => oplev_any k n s f v lo hi ob mb tv (fW mb) w2 (hv.keep (fun p _ hp => htf.1.cell (by omega)) (Nat.le_refl _) (Nat.le_refl _)) hsz hfl hq (OpM_keep ht.2.2 htf.1 ht.2.1)
  have hpos := txT_ne hs
  obtain ⟨c, T', hT⟩ : ∃ c T', txT k n s f = c :: T' := by
    cases hx : txT k n s f with
    | nil => rw [hx] at hpos; simp at hpos
    | cons c T' => exact ⟨c, T', rfl⟩
  have C3 := fun (w3 : World) => follow_any c w3
  have hplc : right = true → plC c = true := fun hr => by have := h2 hr; rw [hT] at this; exact this
  obtain ⟨T0, x0, rfl⟩ := hv.iface
  have H1 := Lib.hid C1
  have H2 := Lib.hid C2
  have H3 := Lib.hid C3
  have HW0 := Lib.hid hw
  have HT := Lib.hid hT
  have d1 : decide (l < olv k s f.len) = false := decide_eq_false h1
  clear C1 C2 C3 h hs hsz hv hh ht hnd h1 h2 hT hfl hpos
  generalize txT k n s f = T at *
  generalize olv k s f.len = ol at *
  obtain ⟨tv0, hq0, ho0⟩ := hw
  obtain ⟨A0, c0, rfl, _, _⟩ := row_form ho0
  have p00 := hq0.cell 0
  simp only [List.getElem?_toArray, List.getElem?_cons_zero] at p00
  have hbl : bs.length ≤ 1073741824 := by omega
  clear hq0 ho0
  go_enter Tryz.func54, Tryz.ntmps54
  go_wp2_with fail
  refine H1.out.mono ?_
  rintro e w2 ⟨rfl, hw2, htf2⟩
  obtain ⟨tv2, hq2, ho2⟩ := hw2
  have C4 := H2.out w2 htf2 tv2 hq2
  have H4 := Lib.hid C4
  have HTF2 := Lib.hid htf2
  have HW2 : Hid (TW ob mb (bs ++ T) w2) := Lib.hid ⟨tv2, hq2, ho2⟩
  have hm2 := hq2.lt
  clear C4 htf2 hq2 ho2 p00
  go_wp2_with fail
  refine H4.out.mono ?_
  rintro e w3 ⟨rfl, hb3⟩
  have HW3 := Lib.hid (HW2.out.below hb3)
  have HTF3 := Lib.hid (HTF2.out.trans (TF.below hb3 (Nat.le_of_lt hm2)))
  clear hb3
  cases right
  · clear hplc
    go_wp2_with fail
    go_end0
    exact ⟨rfl, HW3.out, HTF3.out⟩
  · have hpc := hplc rfl
    obtain ⟨tv3, hq3, ho3⟩ := HW3.out
    obtain ⟨A3, c3, rfl, hc3, hc4⟩ := row_form ho3
    obtain ⟨g, rfl⟩ := row_some ho3 (by rw [HT.out]; simp only [List.length_append, List.length_cons]; omega)
    have p03 := hq3.cell 0
    simp only [List.getElem?_toArray, List.getElem?_cons_zero] at p03
    have hy := ho3.cells (g := g) rfl bs.length (.int .u8 (c.toNat : Int)) (by rw [HT.out]; exact byteCells_at bs T' c)
    have e : (⟨g, 0, none⟩ : Addr).add bs.length = ⟨g, bs.length, none⟩ := by unfold Addr.add; split <;> simp_all
    rw [e] at hy
    have hlt : bs.length < (bs ++ T).length := by rw [HT.out]; simp only [List.length_append, List.length_cons]; omega
    have C5 := H3.out w3
    rw [hpc] at C5
    have H5 := Lib.hid C5
    have hNl : (bs ++ T).length ≤ 1073741824 := by rw [List.length_append]; exact hl
    unfold maxLen at hc4
    generalize (bs ++ T).length = N at *
    clear hplc hpc C5 hq3 ho3 e
    go_wp2_with (first
      | (go_at_call 73; refine H5.out.mono ?_; rintro e w3 ⟨rfl, rfl⟩)
      | fail)
    go_end0
    exact ⟨rfl, HW3.out, HTF3.out⟩
end Go.Proofs.YtihmgodiiohdnaaGreatDoor.wr
