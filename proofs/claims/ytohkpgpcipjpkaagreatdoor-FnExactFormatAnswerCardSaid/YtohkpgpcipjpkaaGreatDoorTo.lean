/- laws.toTerm, laws.toTermS: a term of the model's type made of the law's own. Condition: no more than the law's budget. -/
import Derived.Test.YtohkpgpcipjpkaaGreatDoorProg
import Derived.Test.YtohkpgpcipjpkaaGreatDoorOwn
import Derived.Test.YtohkpgpcipjpkaaGreatDoorSz
import Derived.WalkKit
import Derived.WalkSpells
import Derived.Outline
import Derived.OwnWalk
namespace Go.Proofs.YtohkpgpcipjpkaaGreatDoor
open Go.RowKit

theorem infoT : (Tryz.prog.info? 44).map (fun i => (i.zero, i.size, i.bytes)) = some (some (.agg #[.int .i64 0, .int .i64 0, .string ByteArray.empty, .slice none 0 0]), 4, 56) := by kernel_rfl

def MadeS (w : World) (f : Fr) (e : Ending) (w' : World) : Prop := ∃ A cap, e = .returned (.slice A f.len cap) ∧ Made w f A cap w'
def MadeT (w : World) (k n : Int) (s : ByteArray) (f : Fr) (e : Ending) (w' : World) : Prop := ∃ A cap, e = .returned (.agg #[.int .i64 k, .int .i64 n, .string s, .slice A f.len cap]) ∧ Made w f A cap w'
def ToS (f : Fr) : Prop := ∀ (A : Option Addr) (cap lo hi : Nat) (w : World), KidsAt w lo hi f A cap → hi ≤ w.heap.size → f.len + wt f ≤ 1048576 →
  Calls Tryz.prog 7 #[.slice A f.len cap] w fun e w' => MadeS w f e w'
def ToT (k n : Int) (s : ByteArray) (f : Fr) : Prop := ∀ (A : Option Addr) (cap lo hi : Nat) (w : World), KidsAt w lo hi f A cap → hi ≤ w.heap.size → f.len + wt f ≤ 1048576 →
  Calls Tryz.prog 17 #[.agg #[.int .i64 k, .int .i64 n, .string s, .slice A f.len cap]] w fun e w' => MadeT w k n s f e w'

theorem wt_elem (i : Nat) : ∀ (f : Fr) {k n : Int} {s : ByteArray} {kids rest : Fr}, f.drop i = .cons k n s kids rest → s.size + kids.len + wt kids ≤ wt f := by
  induction i with
  | zero =>
    intro f k n s kids rest h
    cases f with
    | nil => cases h
    | cons k' n' s' kids' rest' =>
      injection h with h1 h2 h3 h4 h5
      subst h3 h4
      simp only [wt]; omega
  | succ i ih =>
    intro f k n s kids rest h
    cases f with
    | nil => cases h
    | cons k' n' s' kids' rest' =>
      have := ih rest' h
      simp only [wt]; omega

/-- The loop's relation: k terms are made, in block g. -/
def Part (w : World) (f : Fr) (g k : Nat) (wr : World) : Prop :=
  ∃ cur L, Blk wr g 44 cur ∧ cur.size = f.len * 4 ∧ OwnAt wr (f.take k) g 0 L ∧ L.Nodup ∧ (∀ x ∈ L, g < x ∧ x < wr.heap.size) ∧ w.heap.size ≤ g ∧ Below w.heap.size w wr
theorem Part.lt {w wr : World} {f : Fr} {g k : Nat} (h : Part w f g k wr) : g < wr.heap.size := by
  obtain ⟨cur, L, hb, _⟩ := h; exact hb.lt
theorem Part.below {w wr : World} {f : Fr} {g k : Nat} (h : Part w f g k wr) : Below w.heap.size w wr := by
  obtain ⟨cur, L, _, _, _, _, _, _, hb⟩ := h; exact hb
/-- What the store into element k asks. -/
theorem Part.cells {w wr w2 : World} {f : Fr} {g k : Nat} (h : Part w f g k wr) (hk : k < f.len) (hb : Below wr.heap.size wr w2) (j : Nat) (hj : j < 4) :
    (∃ v, w2.cell? ⟨g, k * 4 + j, none⟩ = some v) ∧ w2.frozen? ⟨g, k * 4 + j, none⟩ = false := by
  obtain ⟨cur, L, hblk, hs, _⟩ := h
  have hb2 := hblk.below hb hblk.lt
  refine ⟨?_, hb2.frozen _⟩
  rw [hb2.cell]
  exact ⟨_, Array.getElem?_eq_getElem (by omega)⟩
/-- One term more. -/
theorem Part.step {w wr w2 : World} {f : Fr} {g i : Nat} {k n : Int} {s : ByteArray} {kids rest : Fr} {A : Option Addr} {cap : Nat} (h : Part w f g i wr) (hd : f.drop i = .cons k n s kids rest) (hi : i < f.len) (hf : Fits k n s) (hm : Made wr kids A cap w2) :
    Part w f g (i + 1) ((((w2.setCell ⟨g, i * 4, none⟩ (.int .i64 k)).setCell ⟨g, i * 4 + 1, none⟩ (.int .i64 n)).setCell ⟨g, i * 4 + 2, none⟩ (.string s)).setCell ⟨g, i * 4 + 3, none⟩ (.slice A kids.len cap)) := by
  obtain ⟨cur, L, hblk, hs, ho, hn, hL, hg, hb⟩ := h
  obtain ⟨L', ho', hn', hL', hb'⟩ := hm
  have hblk2 := hblk.below hb' hblk.lt
  have hlt := hblk.lt
  have b1 := (((hblk2.set_ (i * 4) (.int .i64 k)).set_ (i * 4 + 1) (.int .i64 n)).set_ (i * 4 + 2) (.string s)).set_ (i * 4 + 3) (.slice A kids.len cap)
  have far : ∀ x, x ≠ g → ((((w2.setCell ⟨g, i * 4, none⟩ (.int .i64 k)).setCell ⟨g, i * 4 + 1, none⟩ (.int .i64 n)).setCell ⟨g, i * 4 + 2, none⟩ (.string s)).setCell ⟨g, i * 4 + 3, none⟩ (.slice A kids.len cap)).heap[x]? = w2.heap[x]? := fun x hx => by
    rw [heap_setCell_other _ _ _ _ (show x ≠ g from hx), heap_setCell_other _ _ _ _ (show x ≠ g from hx), heap_setCell_other _ _ _ _ (show x ≠ g from hx), heap_setCell_other _ _ _ _ (show x ≠ g from hx)]
  have hsz : ((((w2.setCell ⟨g, i * 4, none⟩ (.int .i64 k)).setCell ⟨g, i * 4 + 1, none⟩ (.int .i64 n)).setCell ⟨g, i * 4 + 2, none⟩ (.string s)).setCell ⟨g, i * 4 + 3, none⟩ (.slice A kids.len cap)).heap.size = w2.heap.size := by simp [World.setCell]
  generalize hw3 : (((w2.setCell ⟨g, i * 4, none⟩ (.int .i64 k)).setCell ⟨g, i * 4 + 1, none⟩ (.int .i64 n)).setCell ⟨g, i * 4 + 2, none⟩ (.string s)).setCell ⟨g, i * 4 + 3, none⟩ (.slice A kids.len cap) = w3 at *
  have hb3 : Below w.heap.size w w3 := by
    subst hw3
    exact ((((hb.trans (hb'.mono hb.size)).setCell hg _).setCell hg _).setCell hg _).setCell hg _
  have hlen : (f.take i).len = i := Fr.len_take i f (by omega)
  refine ⟨_, L ++ L', b1, by simpa using hs, ?_, ?_, ?_, hg, hb3⟩
  · rw [Fr.take_succ i f hd]
    have own2 : OwnS w3 kids A cap L' := ho'.keep fun x hx => far x (by have := (hL' x hx).1; omega)
    refine OwnAt.snoc (f.take i) hf own2 g 0 L ?_ ?_ ?_ ?_ ?_
    · refine OwnAt.keep (f.take i) g 0 L ho (fun j hj => ?_) fun x hx => ?_
      · rw [hlen] at hj
        rw [b1.cell, hblk.cell]
        simp only [Array.getElem?_setIfInBounds]
        rw [if_neg (by omega), if_neg (by omega), if_neg (by omega), if_neg (by omega)]
      · rw [far x (by have := (hL x hx).1; omega)]
        exact hb'.block x (hL x hx).2
    all_goals
      rw [hlen, b1.cell]
      simp [Array.getElem?_setIfInBounds]
      omega
  · refine List.nodup_append.2 ⟨hn, hn', fun a ha b hb => ?_⟩
    have := (hL a ha).2
    have := (hL' b hb).1
    omega
  · intro x hx
    rw [hsz]
    rcases List.mem_append.1 hx with hx | hx
    · have := (hL x hx); have := hb'.size; omega
    · have := hL' x hx; omega
theorem Part.start {w w1 : World} {f : Fr} {base : Nat} {xs : List Value} (hown : w1.ownsRow base 44 4 (.slice (some ⟨w.heap.size, 0, none⟩) f.len f.len) f.len xs) (hg : w.grownBy w1 none) : Part w f w.heap.size 0 w1 := by
  rcases hown.2 with ⟨h', _⟩ | ⟨g', cap', cur, h', _, hb, _, _, hs, _⟩
  · simp at h'
  · simp only [Value.slice.injEq, Option.some.injEq, Addr.mk.injEq, and_true, true_and] at h'
    obtain ⟨rfl, rfl⟩ := h'
    exact ⟨cur, [], hb, hs, rfl, List.nodup_nil, fun x hx => by simp at hx, Nat.le_refl _, (Below.refl _ _).grown hg (Nat.le_refl _) (fun k hk => by cases hk)⟩
theorem Part.done {w wr : World} {f : Fr} {g : Nat} (h : Part w f g f.len wr) (hl : f.len ≤ maxLen) : ∃ L, OwnS wr f (some ⟨g, 0, none⟩) f.len L ∧ L.Nodup ∧ (∀ x ∈ L, w.heap.size ≤ x ∧ x < wr.heap.size) ∧ Below w.heap.size w wr := by
  obtain ⟨cur, L, hblk, hs, ho, hn, hL, hg, hb⟩ := h
  rw [Fr.take_len] at ho
  refine ⟨g :: L, ⟨Nat.le_refl _, hl, .inr ⟨g, L, cur, rfl, rfl, hblk, hs, ho⟩⟩, List.nodup_cons.2 ⟨fun hx => ?_, hn⟩, fun x hx => ?_, hb⟩
  · have := (hL g hx).1; omega
  · rcases List.mem_cons.1 hx with rfl | hx
    · exact ⟨hg, hblk.lt⟩
    · have := hL x hx; omega

set_option maxHeartbeats 1000000 in
theorem toS_of (f : Fr) (h : ∀ i k n s kids rest, f.drop i = .cons k n s kids rest → ToT k n s kids) : ToS f := by
  intro A cap lo hi w hk hh hwt
  have HK := Lib.hid hk
  have HH := Lib.hid h
  have HHI := Lib.hid hh
  have HWT := Lib.hid hwt
  have hl : f.len ≤ 1048576 := by omega
  have hst := fun w1 base xs => Part.start (w := w) (w1 := w1) (f := f) (base := base) (xs := xs)
  have hfin := fun wr => Part.done (w := w) (wr := wr) (f := f) (g := w.heap.size)
  have HST := Lib.hid hst
  have HFIN := Lib.hid hfin
  clear hk h hh hwt hst hfin
  generalize hn : f.len = len at *
  have HN := Lib.hid hn
  clear hn
  obtain ⟨i0, hi0, hz0, hz1, hz2⟩ := info_parts infoT
  go_enter Tryz.func7, Tryz.ntmps7
  go_wp2_with (at_make; go_must (refine wpList_make_full _ rfl _ _ 28 rfl w.heap.size 44 i0 _ 4 Tryz.underlying28 hi0 hz0 hz1 .i64 .i64 _ _ len rfl rfl rfl rfl (by rw [hz2]; omega) (by unfold maxLen; omega) (Nat.le_refl _) ?_); intro w1 hown hgrow)
  have hp0 := HST.out _ _ _ hown hgrow
  have HP0 := Lib.hid hp0
  clear hp0 hown hgrow HST hi0 hz0 hz1 hz2
  go_loopw [4] (fun i wr => ∃ (k : Nat), k ≤ len ∧ i = .int .i64 k ∧ Part w f w.heap.size k wr) (fun i _ => len - (intOf i).toNat)
  case atStart => exact ⟨0, Nat.zero_le _, rfl, HP0.out⟩
  case round =>
    obtain ⟨k, hk, rfl, hpart⟩ := hrel
    have HPT := Lib.hid hpart
    clear hpart
    by_cases hlt : k < len
    · have hltf : k < f.len := by rw [HN.out]; exact hlt
      obtain ⟨kk, nn, s, kids, hd⟩ := Fr.drop_cons k f hltf
      obtain ⟨b, o, rfl, hlb, hbb, hrow⟩ := HK.out.2.2 (by rw [HN.out]; omega)
      obtain ⟨hfit, A', cap', c0, c1, c2, c3, hkid⟩ := hrow.elem hd
      have hb := HPT.out.below
      have hlo : (⟨b, o, none⟩ : Addr).block < w.heap.size := Nat.lt_of_lt_of_le hbb HHI.out
      have k0 := (hb.cell (p := ⟨b, o + k * 4, none⟩) hlo).trans c0
      have k1 := (hb.cell (p := ⟨b, o + k * 4 + 1, none⟩) hlo).trans c1
      have k2 := (hb.cell (p := ⟨b, o + k * 4 + 2, none⟩) hlo).trans c2
      have k3 := (hb.cell (p := ⟨b, o + k * 4 + 3, none⟩) hlo).trans c3
      have hwe := wt_elem k f hd
      have C1 := HH.out _ _ _ _ _ _ hd A' cap' lo hi wr (hkid.below hb HHI.out) (Nat.le_trans HHI.out hb.size) (by have := HWT.out; omega)
      have cellsOf := fun w2 (hb : Below wr.heap.size wr w2) j hj => HPT.out.cells hltf hb j hj
      have stepOf := fun A cap w2 (hm : Made wr kids A cap w2) => HPT.out.step hd hltf hfit hm
      have H1 := Lib.hid C1
      have HC := Lib.hid cellsOf
      have HS := Lib.hid stepOf
      clear C1 hb c0 c1 c2 c3 hkid hrow hfit hd hlo hwe cellsOf stepOf hltf
      go_wp2_with fail
      refine H1.out.mono ?_
      rintro e w2 ⟨A2, cap2, rfl, hm⟩
      have hb2 : Below wr.heap.size wr w2 := by obtain ⟨L, _, _, _, h⟩ := hm; exact h
      obtain ⟨⟨v0, d0⟩, f0⟩ := HC.out w2 hb2 0 (by omega)
      obtain ⟨⟨v1, d1⟩, f1⟩ := HC.out w2 hb2 1 (by omega)
      obtain ⟨⟨v2, d2⟩, f2⟩ := HC.out w2 hb2 2 (by omega)
      obtain ⟨⟨v3, d3⟩, f3⟩ := HC.out w2 hb2 3 (by omega)
      rw [Nat.add_zero] at d0 f0
      have hstep := HS.out A2 cap2 w2 hm
      have HST := Lib.hid hstep
      clear hm hb2 hstep k0 k1 k2 k3
      go_wp2_with fail
      go_roundw
      case rel => exact ⟨k + 1, by omega, by go_num, HST.out⟩
      case measure => simp [intOf]; omega
    · obtain rfl : k = len := by omega
      have hfin := HFIN.out wr HPT.out (by unfold maxLen; omega)
      have HF := Lib.hid hfin
      clear hfin
      go_wp2_with fail
      go_ret
      refine ⟨some ⟨w.heap.size, 0, none⟩, k, ?_, HF.out⟩
      rw [HN.out]; rfl

/-- Stores into blocks between the old heap and the made row leave the made row. -/
theorem Made.lift {w w3 w2 w4 : World} {f : Fr} {A : Option Addr} {cap : Nat} (hm : Made w3 f A cap w2) (hb : Below w.heap.size w w3) (hb4 : Below w.heap.size w2 w4) (hk : ∀ x, w3.heap.size ≤ x → w4.heap[x]? = w2.heap[x]?) : Made w f A cap w4 := by
  obtain ⟨L, ho, hn, hL, hb2⟩ := hm
  exact ⟨L, ho.keep fun x hx => hk x (hL x hx).1, hn, fun x hx => ⟨Nat.le_trans hb.size (hL x hx).1, Nat.lt_of_lt_of_le (hL x hx).2 hb4.size⟩, (hb.trans (hb2.mono hb.size)).trans hb4⟩

set_option maxHeartbeats 1000000 in
theorem toT_of (k n : Int) (s : ByteArray) (f : Fr) (h : ToS f) : ToT k n s f := by
  intro A cap lo hi w hk hh hwt
  have C1 : ∀ w1, Below w.heap.size w w1 → Calls Tryz.prog 7 #[.slice A f.len cap] w1 fun e w' => MadeS w1 f e w' :=
    fun w1 hb => h A cap lo hi w1 (hk.below hb hh) (Nat.le_trans hh hb.size) hwt
  have H1 := Lib.hid C1
  clear C1 hk h hh hwt
  go_enter Tryz.func17, Tryz.ntmps17
  go_wp2_with fail
  refine (H1.out _ ?below).mono ?_
  case below => exact (((Below.refl _ _).alloc (Nat.le_refl _) _).alloc (by simp) _).alloc (by simp; omega) _
  rintro e w2 ⟨A2, cap2, rfl, hm⟩
  have hb0 : Below w.heap.size w (((w.alloc (.cells #[.int .i64 k, .int .i64 n, .string s, .slice A f.len cap] 38)).alloc (.cells #[.int .i64 0, .int .i64 0, .string ⟨#[]⟩, .slice none 0 0] 44)).alloc (.cells #[.int .i64 k, .int .i64 n, .string s, .slice none 0 0] 44)) :=
    (((Below.refl _ _).alloc (Nat.le_refl _) _).alloc (by simp) _).alloc (by simp; omega) _
  have b1 : Blk (((w.alloc (.cells #[.int .i64 k, .int .i64 n, .string s, .slice A f.len cap] 38)).alloc (.cells #[.int .i64 0, .int .i64 0, .string ⟨#[]⟩, .slice none 0 0] 44)).alloc (.cells #[.int .i64 k, .int .i64 n, .string s, .slice none 0 0] 44)) (w.heap.size + 1) 44 #[.int .i64 0, .int .i64 0, .string ⟨#[]⟩, .slice none 0 0] := by
    have h := (Blk.new (w.alloc (.cells #[.int .i64 k, .int .i64 n, .string s, .slice A f.len cap] 38)) 44 #[.int .i64 0, .int .i64 0, .string ⟨#[]⟩, .slice none 0 0]).alloc (.cells #[.int .i64 k, .int .i64 n, .string s, .slice none 0 0] 44)
    simpa using h
  have b2 : Blk (((w.alloc (.cells #[.int .i64 k, .int .i64 n, .string s, .slice A f.len cap] 38)).alloc (.cells #[.int .i64 0, .int .i64 0, .string ⟨#[]⟩, .slice none 0 0] 44)).alloc (.cells #[.int .i64 k, .int .i64 n, .string s, .slice none 0 0] 44)) (w.heap.size + 1 + 1) 44 #[.int .i64 k, .int .i64 n, .string s, .slice none 0 0] := by
    have h := Blk.new ((w.alloc (.cells #[.int .i64 k, .int .i64 n, .string s, .slice A f.len cap] 38)).alloc (.cells #[.int .i64 0, .int .i64 0, .string ⟨#[]⟩, .slice none 0 0] 44)) 44 #[.int .i64 k, .int .i64 n, .string s, .slice none 0 0]
    simpa using h
  have hsz : (((w.alloc (.cells #[.int .i64 k, .int .i64 n, .string s, .slice A f.len cap] 38)).alloc (.cells #[.int .i64 0, .int .i64 0, .string ⟨#[]⟩, .slice none 0 0] 44)).alloc (.cells #[.int .i64 k, .int .i64 n, .string s, .slice none 0 0] 44)).heap.size = w.heap.size + 1 + 1 + 1 := by simp
  generalize ((w.alloc (.cells #[.int .i64 k, .int .i64 n, .string s, .slice A f.len cap] 38)).alloc (.cells #[.int .i64 0, .int .i64 0, .string ⟨#[]⟩, .slice none 0 0] 44)).alloc (.cells #[.int .i64 k, .int .i64 n, .string s, .slice none 0 0] 44) = w3 at *
  have hb2 : Below w3.heap.size w3 w2 := by obtain ⟨L, _, _, _, h⟩ := hm; exact h
  have q1 := b1.below hb2 (by omega)
  have q2 := b2.below hb2 (by omega)
  have c0 := q2.cell 0
  have c1 := q2.cell 1
  have c2 := q2.cell 2
  have c3 := q2.cell 3
  have f3 := q2.frozen 3
  have d0 := q1.cell 0
  have d1 := q1.cell 1
  have d2 := q1.cell 2
  have d3 := q1.cell 3
  have g0 := q1.frozen 0
  have g1 := q1.frozen 1
  have g2 := q1.frozen 2
  have g3 := q1.frozen 3
  have hl2 := hb2.size
  rw [hsz] at hl2
  have HQ1 := Lib.hid q1
  have HM := Lib.hid hm
  have HB0 := Lib.hid hb0
  have HSZ := Lib.hid hsz
  clear hm hb0 hb2 b1 b2 q1 q2 hsz
  simp only [List.getElem?_toArray, List.getElem?_cons_zero, List.getElem?_cons_succ] at c0 c1 c2 c3 d0 d1 d2 d3
  go_wp2_with fail
  have e1 := ((((HQ1.out.far (p := ⟨w.heap.size + 1 + 1, 3, none⟩) (by simp) (.slice A2 f.len cap2)).set_ 0 (.int .i64 k)).set_ 1 (.int .i64 n)).set_ 2 (.string s)).set_ 3 (.slice A2 f.len cap2)
  refine bodyPost_ret (v := .agg #[.int .i64 k, .int .i64 n, .string s, .slice A2 f.len cap2]) ?_ rfl ⟨A2, cap2, rfl, HM.out.lift HB0.out ?_ fun x hx => ?_⟩
  · exact results_cell_row Tryz.results17 _ _ (w.heap.size + 1) _ _ _ _ rfl e1 Tryz.underlying44 rfl (by kernel_rfl)
  · exact (((((Below.refl _ _).setCell (by simp; omega) _).setCell (by simp) _).setCell (by simp) _).setCell (by simp) _).setCell (by simp) _
  · have := HSZ.out
    rw [heap_setCell_other _ _ _ _ (by show x ≠ w.heap.size + 1; omega), heap_setCell_other _ _ _ _ (by show x ≠ w.heap.size + 1; omega), heap_setCell_other _ _ _ _ (by show x ≠ w.heap.size + 1; omega), heap_setCell_other _ _ _ _ (by show x ≠ w.heap.size + 1; omega), heap_setCell_other _ _ _ _ (by show x ≠ w.heap.size + 1 + 1; omega)]

theorem to_all (N : Nat) : ∀ f : Fr, f.size ≤ N → ToS f := by
  induction N with
  | zero =>
    intro f hf
    refine toS_of f fun i k n s kids rest hd => ?_
    have h1 := Fr.size_drop i f
    rw [hd] at h1
    simp only [Fr.size] at h1
    omega
  | succ N ih =>
    intro f hf
    refine toS_of f fun i k n s kids rest hd => toT_of k n s kids (ih kids ?_)
    have h1 := Fr.size_drop i f
    rw [hd] at h1
    simp only [Fr.size] at h1
    omega
/-- laws.toTermS. -/
theorem toS_any (f : Fr) : ToS f := to_all f.size f (Nat.le_refl _)
/-- laws.toTerm. -/
theorem toT_any (k n : Int) (s : ByteArray) (f : Fr) : ToT k n s f := toT_of k n s f (toS_any f)
end Go.Proofs.YtohkpgpcipjpkaaGreatDoor
