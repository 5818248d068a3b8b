/- impl.termOf, termsOf: terms are made of nodes. Condition: the nodes lie in memory and are well-formed. -/
import Derived.Test.YtkgihpddjppmdaaDoorProg
import Derived.Test.YtkgihpddjppmdaaDoorTo
import Derived.Test.YtkgihpddjppmdaaDoorAs
import Derived.Test.YtkgihpddjppmdaaDoorMk
import Derived.Deep.RegionHeld3
namespace Go.Proofs.YtkgihpddjppmdaaDoor
open Go.RowKit

theorem noName_eq {s : ByteArray} (h : noName s = true) : s = ⟨#[]⟩ := by
  unfold noName at h
  have h1 : s.data.toList = [] := by simpa using h
  have h2 : s.data = #[] := by simpa using h1
  cases s
  simp_all
/-- A well-formed variable or number has no name and no kids. -/
theorem shapeT_leaf {k n : Int} {s : ByteArray} {f : Fr} {d : Int} (h : shapeT k n s f d = true) (hk : k ≠ 3) : s = ⟨#[]⟩ ∧ f = .nil ∧ (-999 ≤ n ∧ n ≤ 999) := by
  have h0 := shapeT_len h hk
  unfold shapeT ownB at h
  simp only [Bool.and_eq_true, Bool.or_eq_true, decide_eq_true_eq, beq_iff_eq] at h
  have hf : f = .nil := by
    cases f with
    | nil => rfl
    | cons _ _ _ _ _ => simp [Fr.len] at h0
  obtain ⟨_, h, _⟩ := h
  rcases h with (⟨_, ⟨⟨h1, h2⟩, h3⟩, _⟩ | ⟨_, ⟨⟨h1, h2⟩, h3⟩, _⟩) | ⟨h, _⟩
  · exact ⟨noName_eq h3, hf, by omega, by omega⟩
  · exact ⟨noName_eq h3, hf, by omega, by omega⟩
  · exact absurd h hk
theorem shapeT_struct {n : Int} {s : ByteArray} {f : Fr} {d : Int} (h : shapeT 3 n s f d = true) : n = 0 ∧ nv.nameB s.data.toList = true ∧ f.len ≤ 4 ∧ shapeF f (d - 1) = true := by
  have hk := shapeT_kids h
  unfold shapeT ownB at h
  simp only [Bool.and_eq_true, Bool.or_eq_true, decide_eq_true_eq, beq_iff_eq] at h
  obtain ⟨_, h, _⟩ := h
  rcases h with (⟨h, _⟩ | ⟨h, _⟩) | ⟨_, ⟨h1, h2⟩, h3⟩
  · omega
  · omega
  · exact ⟨h1, h2, h3, hk⟩

def TmT (s : ByteArray) (f : Fr) : Prop := ∀ (k n d : Int) (v : Value) (lo hi : Nat) (w : World), shapeT k n s f d = true → NdV w lo hi k n s f v → hi ≤ w.heap.size → nodes f ≤ 1048576 →
  Calls Tryd.prog 33 #[v] w fun e w' => MadeT w k n s f e w'
def TmS (f : Fr) : Prop := ∀ (d : Int) (A : Option Addr) (cap lo hi : Nat) (w : World), shapeF f d = true → NdS w lo hi f A cap → hi ≤ w.heap.size → nodes f ≤ 1048576 →
  Calls Tryd.prog 41 #[.slice A f.len cap] w fun e w' => MadeS w f e w'

theorem shapeT_kind {k n : Int} {s : ByteArray} {f : Fr} {d : Int} (h : shapeT k n s f d = true) : 1 ≤ k ∧ k ≤ 3 := by
  unfold shapeT ownB at h
  simp only [Bool.and_eq_true, Bool.or_eq_true, decide_eq_true_eq, beq_iff_eq] at h
  omega
theorem nameB_size {s : ByteArray} (h : nv.nameB s.data.toList = true) : s.size ≤ 6 := by
  have hs : s.size = s.data.toList.length := (Array.length_toList (xs := s.data)).symm
  rw [hs]
  unfold nv.nameB nv.wordB at h
  generalize s.data.toList = l at h
  rcases Bool.or_eq_true_iff.1 h with h | h
  · simp only [Bool.and_eq_true, decide_eq_true_eq] at h
    omega
  · rw [List.contains_iff_mem] at h
    have hall : ∀ x ∈ nv.signs, x.length ≤ 6 := by decide
    exact hall l h

set_option maxRecDepth 100000 in
set_option maxHeartbeats 2000000 in
theorem tmT_of (s : ByteArray) (f : Fr) (h : TmS f) : TmT s f := by
  intro k n d v lo hi w hs hv hh hnd
  rcases hv with ⟨rfl, rfl⟩ | ⟨rfl, rfl⟩ | ⟨rfl, A, cap, rfl, hk⟩
  · obtain ⟨rfl, rfl, hn⟩ := shapeT_leaf hs (by omega)
    clear h hs hnd
    go_enter Tryd.func33, Tryd.ntmps33
    go_wp2_with fail
    refine bodyPost_ret (v := .agg #[.int .i64 1, .int .i64 n, .string ⟨#[]⟩, .slice none 0 0]) ?_ rfl ⟨none, 0, rfl, made_nil ?_⟩
    · exact results_cell_row Tryd.results33 _ _ w.heap.size _ _ _ _ rfl (Blk.new w 25 #[.int .i64 1, .int .i64 n, .string ⟨#[]⟩, .slice none 0 0]) Tryd.underlying25 rfl (by kernel_rfl)
    · exact (Below.refl _ _).alloc (Nat.le_refl _) _
  · obtain ⟨rfl, rfl, hn⟩ := shapeT_leaf hs (by omega)
    clear h hs hnd
    go_enter Tryd.func33, Tryd.ntmps33
    go_wp2_with fail
    refine bodyPost_ret (v := .agg #[.int .i64 2, .int .i64 n, .string ⟨#[]⟩, .slice none 0 0]) ?_ rfl ⟨none, 0, rfl, made_nil ?_⟩
    · exact results_cell_row Tryd.results33 _ _ w.heap.size _ _ _ _ rfl (Blk.new w 25 #[.int .i64 2, .int .i64 n, .string ⟨#[]⟩, .slice none 0 0]) Tryd.underlying25 rfl (by kernel_rfl)
    · exact (Below.refl _ _).alloc (Nat.le_refl _) _
  · obtain ⟨rfl, hname, hlen, hsf⟩ := shapeT_struct hs
    have C1 := fun w1 (hb : Below w.heap.size w w1) => h (d - 1) A cap lo hi w1 hsf (hk.keep (fun p _ hp => hb.cell (by omega)) (Nat.le_refl _) (Nat.le_refl _)) (Nat.le_trans hh hb.size) hnd
    have hl := hk.1
    have hm := hk.2.1
    unfold maxLen at hm
    have H1 := Lib.hid C1
    clear C1 h hs hnd hk hsf hname
    go_enter Tryd.func33, Tryd.ntmps33
    go_wp2_with fail
    have hb0 : Below w.heap.size w ((w.alloc (.cells #[.int .i64 0, .int .i64 0, .string ⟨#[]⟩, .slice none 0 0] 25)).alloc (.cells #[.string s, .slice A f.len cap] 84)) := two_alloc w _ _
    have b1 : Blk ((w.alloc (.cells #[.int .i64 0, .int .i64 0, .string ⟨#[]⟩, .slice none 0 0] 25)).alloc (.cells #[.string s, .slice A f.len cap] 84)) w.heap.size 25 #[.int .i64 0, .int .i64 0, .string ⟨#[]⟩, .slice none 0 0] := (Blk.new w _ _).alloc _
    have b2 : Blk ((w.alloc (.cells #[.int .i64 0, .int .i64 0, .string ⟨#[]⟩, .slice none 0 0] 25)).alloc (.cells #[.string s, .slice A f.len cap] 84)) (w.heap.size + 1) 84 #[.string s, .slice A f.len cap] := by
      have h := Blk.new (w.alloc (.cells #[.int .i64 0, .int .i64 0, .string ⟨#[]⟩, .slice none 0 0] 25)) 84 #[.string s, .slice A f.len cap]
      simpa using h
    have hsz : ((w.alloc (.cells #[.int .i64 0, .int .i64 0, .string ⟨#[]⟩, .slice none 0 0] 25)).alloc (.cells #[.string s, .slice A f.len cap] 84)).heap.size = w.heap.size + 1 + 1 := by simp
    generalize ((w.alloc (.cells #[.int .i64 0, .int .i64 0, .string ⟨#[]⟩, .slice none 0 0] 25)).alloc (.cells #[.string s, .slice A f.len cap] 84)) = w3 at *
    have c0 := b2.cell 0
    have c1 := b2.cell 1
    simp only [List.getElem?_toArray, List.getElem?_cons_zero, List.getElem?_cons_succ] at c0 c1
    have hb1 : w.heap.size < w3.heap.size := by omega
    have hb2' : w.heap.size + 1 < w3.heap.size := by omega
    have HB0 := Lib.hid hb0
    have HB1 := Lib.hid b1
    have HB2 := Lib.hid b2
    have HSZ := Lib.hid hsz
    clear hb0 b1 b2 hsz
    go_region_held3 (fun w' => w'.cell? ⟨w.heap.size + 1, 0, none⟩ = some (.string s) ∧ w'.cell? ⟨w.heap.size + 1, 1, none⟩ = some (.slice A f.len cap))
      (first | exact ⟨c0, c1⟩ | exact ⟨y0, y1⟩ | exact ⟨(far4 (by simp) _ _ _ _).trans y0, (far4 (by simp) _ _ _ _).trans y1⟩)
      (first
        | (go_at_call 41
           refine (H1.out _ HB0.out.drew).mono ?_
           rintro e w2 ⟨A2, cap2, rfl, hm2⟩
           have hd2 : Below w3.heap.size w3 w2 := (Below.refl w3.heap.size w3).drew.trans (by obtain ⟨L, _, _, _, h⟩ := hm2; exact h)
           have y0 := (hd2.cell (p := ⟨w.heap.size + 1, 0, none⟩) hb2').trans c0
           have y1 := (hd2.cell (p := ⟨w.heap.size + 1, 1, none⟩) hb2').trans c1
           have q1 := HB1.out.below hd2 hb1
           have d0 := q1.cell 0
           have d1 := q1.cell 1
           have d2 := q1.cell 2
           have d3 := q1.cell 3
           have g0 := q1.frozen 0
           have g1 := q1.frozen 1
           have g2 := q1.frozen 2
           have g3 := q1.frozen 3
           simp only [List.getElem?_toArray, List.getElem?_cons_zero, List.getElem?_cons_succ] at d0 d1 d2 d3
           have HQ1 := Lib.hid q1
           have HM := Lib.hid hm2
           clear hm2 hd2 q1))
    go_wp2_with fail
    have e1 := (((HQ1.out.set_ 0 (.int .i64 3)).set_ 1 (.int .i64 0)).set_ 2 (.string s)).set_ 3 (.slice A2 f.len cap2)
    refine bodyPost_ret (v := .agg #[.int .i64 3, .int .i64 0, .string s, .slice A2 f.len cap2]) ?_ rfl ⟨A2, cap2, rfl, (drew_made HM.out).lift HB0.out ?_ fun x hx => ?_⟩
    · exact results_cell_row Tryd.results33 _ _ w.heap.size _ _ _ _ rfl e1 Tryd.underlying25 rfl (by kernel_rfl)
    · exact ((((Below.refl w.heap.size w2).setCell (p := ⟨w.heap.size, 0, none⟩) (Nat.le_refl _) _).setCell (p := ⟨w.heap.size, 1, none⟩) (Nat.le_refl _) _).setCell (p := ⟨w.heap.size, 2, none⟩) (Nat.le_refl _) _).setCell (p := ⟨w.heap.size, 3, none⟩) (Nat.le_refl _) _
    · have := HSZ.out
      rw [heap_setCell_other _ _ _ _ (by show x ≠ w.heap.size; omega), heap_setCell_other _ _ _ _ (by show x ≠ w.heap.size; omega), heap_setCell_other _ _ _ _ (by show x ≠ w.heap.size; omega), heap_setCell_other _ _ _ _ (by show x ≠ w.heap.size; omega)]

set_option maxHeartbeats 1000000 in
theorem tmS_of (f : Fr) (h : ∀ i k n s kids rest, f.drop i = .cons k n s kids rest → TmT s kids) : TmS f := by
  intro d A cap lo hi w hsf hk hh hnd
  by_cases hz : f.len = 0
  · have hnil : f = .nil := by
      cases f with
      | nil => rfl
      | cons _ _ _ _ _ => simp [Fr.len] at hz
    subst hnil
    have t0 : ((Fr.nil.len : Int) == 0) = true := rfl
    clear h hk hh hsf hnd
    go_enter Tryd.func41, Tryd.ntmps41
    go_wp2_with fail
    go_ret
    exact ⟨none, 0, rfl, made_nil (Below.refl _ _)⟩
  · have HK := Lib.hid hk
    have HH := Lib.hid h
    have HHI := Lib.hid hh
    have hl : f.len ≤ 1048576 := by have := len_le_nodes f; omega
    have hst := fun w1 base xs => Part.start (w := w) (w1 := w1) (f := f) (base := base) (xs := xs)
    have hfin := fun wr => Part.done (w := w) (wr := wr) (f := f) (g := w.heap.size)
    have HST := Lib.hid hst
    have HFIN := Lib.hid hfin
    have HSF := Lib.hid hsf
    have HND := Lib.hid hnd
    clear hk h hh hst hfin hsf hnd
    generalize hn : f.len = len at *
    have HN := Lib.hid hn
    clear hn
    have t0 : ((len : Int) == 0) = false := by rw [beq_eq_false_iff_ne]; omega
    obtain ⟨i0, hi0, hz0, hz1, hz2⟩ := info_parts infoT
    go_enter Tryd.func41, Tryd.ntmps41
    go_wp2_with (at_make; go_must (refine wpList_make_full _ rfl _ _ 23 rfl w.heap.size 25 i0 _ 4 Tryd.underlying23 hi0 hz0 hz1 .i64 .i64 _ _ len rfl rfl rfl rfl (by rw [hz2]; omega) (by unfold maxLen; omega) (Nat.le_refl _) ?_); intro w1 hown hgrow)
    have hp0 := HST.out _ _ _ hown hgrow
    have HP0 := Lib.hid hp0
    clear hp0 hown hgrow HST hi0 hz0 hz1 hz2
    go_loopw [14] (fun i wr => ∃ (k : Nat), k ≤ len ∧ i = .int .i64 k ∧ shapeF (f.drop k) d = true ∧ Part w f w.heap.size k wr) (fun i _ => len - (intOf i).toNat)
    case atStart => exact ⟨0, Nat.zero_le _, rfl, HSF.out, HP0.out⟩
    case round =>
      obtain ⟨k, hk, rfl, hsh, hpart⟩ := hrel
      have HPT := Lib.hid hpart
      clear hpart
      by_cases hlt : k < len
      · have hltf : k < f.len := by rw [HN.out]; exact hlt
        obtain ⟨kk, nn, s, kids, hd⟩ := Fr.drop_cons k f hltf
        obtain ⟨b, rfl, hlb, hbb, hrow⟩ := HK.out.2.2 (by rw [HN.out]; omega)
        obtain ⟨vv, hcell, hnv⟩ := hrow.elem hd
        rw [Nat.zero_add] at hcell
        have hsh' := hsh
        rw [hd, shapeF_cons, Bool.and_eq_true] at hsh
        have hfit : Fits kk nn s := by
          by_cases h3 : kk = 3
          · subst h3
            obtain ⟨rfl, hnm, _, _⟩ := shapeT_struct hsh.1
            exact ⟨by omega, by omega, by have := nameB_size hnm; unfold maxLen; omega⟩
          · obtain ⟨rfl, _, hn⟩ := shapeT_leaf hsh.1 h3
            have := shapeT_kind hsh.1
            exact ⟨by omega, by omega, by unfold maxLen; simp [ByteArray.size]⟩
        have hb := HPT.out.below
        have hlo : (⟨b, k, none⟩ : Addr).block < w.heap.size := Nat.lt_of_lt_of_le hbb HHI.out
        have k0 := (hb.cell (p := ⟨b, k, none⟩) hlo).trans hcell
        have hnk : nodes kids ≤ 1048576 := by
          have := HND.out
          have h2 := nodes_split k f
          rw [hd] at h2
          simp only [nodes] at h2
          omega
        have C1 := HH.out _ _ _ _ _ _ hd kk nn d vv lo hi wr hsh.1 (hnv.keep (fun p _ hp => hb.cell (by have := HHI.out; omega)) (Nat.le_refl _) (Nat.le_refl _)) (Nat.le_trans HHI.out hb.size) hnk
        have cellsOf := fun w2 (hb : Below wr.heap.size wr w2) j hj => HPT.out.cells hltf hb j hj
        have stepOf := fun A cap w2 (hm : Made wr kids A cap w2) => HPT.out.step hd hltf hfit hm
        obtain ⟨T, x, rfl⟩ := hnv.iface
        have H1 := Lib.hid C1
        have HC := Lib.hid cellsOf
        have HS := Lib.hid stepOf
        have HS2 := Lib.hid hsh.2
        clear C1 hb hcell hnv hrow hfit hd hlo cellsOf stepOf hltf hsh hsh' hnk
        go_wp2_with fail
        refine H1.out.mono ?_
        rintro e w2 ⟨A2, cap2, rfl, hm⟩
        have hb2 : Below wr.heap.size wr w2 := by obtain ⟨L, _, _, _, h⟩ := hm; exact h
        obtain ⟨⟨v0, d0⟩, f0⟩ := HC.out w2 hb2 0 (by omega)
        obtain ⟨⟨v1, d1⟩, f1⟩ := HC.out w2 hb2 1 (by omega)
        obtain ⟨⟨v2, d2⟩, f2⟩ := HC.out w2 hb2 2 (by omega)
        obtain ⟨⟨v3, d3⟩, f3⟩ := HC.out w2 hb2 3 (by omega)
        rw [Nat.add_zero] at d0 f0
        have hstep := HS.out A2 cap2 w2 hm
        have HST := Lib.hid hstep
        clear hm hb2 hstep k0
        go_wp2_with fail
        go_roundw
        case rel => exact ⟨k + 1, by omega, by go_num, HS2.out, HST.out⟩
        case measure => simp [intOf]; omega
      · obtain rfl : k = len := by omega
        have hfin := HFIN.out wr HPT.out (by unfold maxLen; omega)
        have HF := Lib.hid hfin
        clear hfin hsh
        go_wp2_with fail
        go_ret
        refine ⟨some ⟨w.heap.size, 0, none⟩, k, ?_, HF.out⟩
        rw [HN.out]; rfl

theorem tm_all (N : Nat) : ∀ (s : ByteArray) (f : Fr), f.size ≤ N → TmT s f := by
  induction N with
  | zero =>
    intro s f hf
    refine tmT_of s f (tmS_of f fun i k n s kids rest hd => ?_)
    have h1 := Fr.size_drop i f
    rw [hd] at h1
    simp only [Fr.size] at h1
    omega
  | succ N ih =>
    intro s f hf
    refine tmT_of s f (tmS_of f fun i k n s kids rest hd => ih s kids ?_)
    have h1 := Fr.size_drop i f
    rw [hd] at h1
    simp only [Fr.size] at h1
    omega
/-- impl.termOf. -/
theorem tmT_any (s : ByteArray) (f : Fr) : TmT s f := tm_all f.size s f (Nat.le_refl _)
/-- impl.termsOf. -/
theorem tmS_any (f : Fr) : TmS f := tmS_of f fun _ _ _ s kids _ _ => tmT_any s kids
end Go.Proofs.YtkgihpddjppmdaaDoor
