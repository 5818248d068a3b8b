/- spec.DrawListOf. Condition: the bytes lie in memory. -/
import Derived.Test.YtplmkighekjipaaDoorProg
import Derived.Test.YtplmkighekjipaaDoorZmA26
import Derived.Test.YtplmkighekjipaaDoorZmA30
import Derived.Test.YtplmkighekjipaaDoorMk
import Derived.Laws.OwnMore
import Derived.Deep.AppendLies
import Derived.Deep.QuietTactic
import Derived.BigQuiet
namespace Go.Proofs.YtplmkighekjipaaDoor
open Go.RowKit

/-- A term that was drawn. -/
def Dr1 (M : Nat) (w : World) (e : Ending) (w' : World) : Prop :=
  ∃ (k n : Int) (s : ByteArray) (f : Fr) (A : Option Addr) (cap : Nat), e = .returned (.agg #[.int .i64 k, .int .i64 n, .string s, .slice A f.len cap]) ∧ Fits k n s ∧ nodes f ≤ M ∧
    (∃ L, OwnS w' f A cap L ∧ L.Nodup ∧ ∀ x ∈ L, w.heap.size ≤ x) ∧ Below w.heap.size w w'
/-- A call that opens a source and draws one term: its result's block is still empty. -/
def DsI (w : World) (rb N : Nat) (wr : World) : Prop := Rd wr rb N ∧ Below w.heap.size w wr ∧ Blk wr w.heap.size 28 #[.int .i64 0, .int .i64 0, .string ⟨#[]⟩, .slice none 0 0] ∧ w.heap.size < rb
theorem DsI.step {w wr w2 : World} {rb N N2 : Nat} (h : DsI w rb N wr) (hr : Rd w2 rb N2) (hw : Wrote [rb] wr w2) : DsI w rb N2 w2 :=
  ⟨hr, h.2.1.trans (hw.below h.2.1.size fun x hx => by simp at hx; have := h.2.2.2; omega), hw.blk h.2.2.1 (by have := h.2.2.2; simp; omega), h.2.2.2⟩
theorem DsI.below {w wr w2 : World} {rb N : Nat} (h : DsI w rb N wr) (hb : Below wr.heap.size wr w2) : DsI w rb N w2 := h.step (h.1.below hb) (.of_below hb _)
theorem DsI.fin {w w8 w9 : World} {rb N M : Nat} {k n : Int} {s : ByteArray} {f : Fr} {A : Option Addr} {cap : Nat} (h : DsI w rb N w8) (hf : Fits k n s) (hn : nodes f ≤ M)
    (ho : ∃ L, OwnS w8 f A cap L ∧ L.Nodup ∧ ∀ x ∈ L, w.heap.size < x) (hw : Wrote [w.heap.size] w8 w9) :
    Dr1 M w (.returned (.agg #[.int .i64 k, .int .i64 n, .string s, .slice A f.len cap])) w9 := by
  obtain ⟨L, h1, h3, h4⟩ := ho
  refine ⟨k, n, s, f, A, cap, rfl, hf, hn, ⟨L, h1.wrote hw fun x hx e => ?_, h3, fun x hx => by have := h4 x hx; omega⟩, h.2.1.trans (hw.below h.2.1.size fun x hx => by simp at hx; omega)⟩
  have := h4 x hx; simp at e; omega
theorem names3 (s : ByteArray) (h : s ∈ ([⟨#[91, 93]⟩, ⟨#[91, 93]⟩, ⟨#[97]⟩] : List ByteArray)) : s.size ≤ maxLen := by
  have : ∀ s ∈ ([⟨#[91, 93]⟩, ⟨#[91, 93]⟩, ⟨#[97]⟩] : List ByteArray), s.size ≤ 100 := by decide
  have := this s h
  unfold maxLen; omega

/-- The bytes, later. -/
theorem Bts.up {w w' : World} {A : Option Addr} {len : Nat} (h : Bts w w.heap.size A len) (hb : Below w.heap.size w w') : Bts w' w'.heap.size A len := fun hp => by
  obtain ⟨b, o, e, h1, h2⟩ := h hp
  exact ⟨b, o, e, Nat.lt_of_lt_of_le h1 hb.size, fun i hi => by
    obtain ⟨n, h3, h4⟩ := h2 i hi
    exact ⟨n, (hb.cell (p := ⟨b, o + i, none⟩) h1).trans h3, h4⟩⟩
end Go.Proofs.YtplmkighekjipaaDoor

/- spec.DrawShiftTerm. Condition: the bytes lie in memory. -/
namespace Go.Proofs.YtplmkighekjipaaDoor
open Go.RowKit

theorem results_ct {P : Program} {fn : Func} {t q : Tmp} {ty : TypeId} (h : fn.results = #[.cell q ty, .tmp t]) (tmps : Array Value) (w : World) (g' : Nat) (t' : TypeId) (v : Value) (cs' : Array Value) (d : TypeDesc)
    (hq : tmps.getD q undef = .pointer (some ⟨g', 0, none⟩)) (ht : tmps.getD t undef = v) (hg' : Blk w g' t' cs')
    (hu : P.underlying ty = some d) (hd : (match d with | .struct _ | .array _ _ => true | _ => false) = true) (hi' : (P.info? ty).map (·.size) = some cs'.size) :
    (results fn tmps).run P w = .ok (.tuple #[.agg cs', v]) w := by
  have ht' : tmps[t]?.getD undef = v := by simpa using ht
  have hq' : tmps[q]?.getD undef = .pointer (some ⟨g', 0, none⟩) := by simpa using hq
  simp [results, h, ht', hq', asAddr, run_loadVar_row w g' t' ty cs' (0, 0) d hg' hu hd hi']
theorem blk_drew {w : World} {g : Nat} {t : TypeId} {cs : Array Value} (h : Blk w g t cs) : Blk w.drew g t cs := h.keep rfl
/-- A term and a number that were drawn. -/
def DrV (w : World) (e : Ending) (w' : World) : Prop :=
  ∃ (k n : Int) (s : ByteArray) (f : Fr) (A : Option Addr) (cap : Nat) (z : Int), e = .returned (.tuple #[.agg #[.int .i64 k, .int .i64 n, .string s, .slice A f.len cap], .int .i64 z]) ∧ Fits k n s ∧ nodes f ≤ 1000 ∧ -26 ≤ z ∧ z ≤ 26 ∧ (∃ L, OwnS w' f A cap L ∧ L.Nodup ∧ ∀ x ∈ L, w.heap.size ≤ x) ∧ Below w.heap.size w w'
theorem DrV.fin {w w8 w9 : World} {rb N : Nat} {k n : Int} {s : ByteArray} {f : Fr} {A : Option Addr} {cap : Nat} {z : Int} (h : DsI w rb N w8) (hf : Fits k n s) (hn : nodes f ≤ 1000)
    (ho : ∃ L, OwnS w8 f A cap L ∧ L.Nodup ∧ ∀ x ∈ L, w.heap.size < x) (hz : z ∈ ([1, 3, 0, -1, 22, 26, -26] : List Int)) (hw : Wrote [w.heap.size] w8 w9) :
    DrV w (.returned (.tuple #[.agg #[.int .i64 k, .int .i64 n, .string s, .slice A f.len cap], .int .i64 z])) w9 := by
  obtain ⟨L, h1, h2, h3⟩ := ho
  refine ⟨k, n, s, f, A, cap, z, rfl, hf, hn, by simp at hz; omega, by simp at hz; omega, ⟨L, h1.wrote hw fun x hx e => ?_, h2, fun x hx => by have := h3 x hx; omega⟩, h.2.1.trans (hw.below h.2.1.size fun x hx => by simp at hx; omega)⟩
  have := h3 x hx; simp at e; omega
set_option maxRecDepth 100000 in
set_option maxHeartbeats 4000000 in
/-- spec.DrawShiftTerm. -/
theorem drawST_any (A : Option Addr) (len cap : Nat) (w : World) (hb : Bts w w.heap.size A len) (hc : len ≤ cap) (hm : cap ≤ maxLen) :
    Calls Tryd.prog 14 #[.slice A len cap] w fun e w' => DrV w e w' := by
  have hb1 : Below w.heap.size w (w.alloc (.cells #[.int .i64 0, .int .i64 0, .string ⟨#[]⟩, .slice none 0 0] 28)) := (Below.refl _ _).alloc (Nat.le_refl _) _
  have hq1 := Blk.new w 28 #[.int .i64 0, .int .i64 0, .string ⟨#[]⟩, .slice none 0 0]
  have hs1 : (w.alloc (.cells #[.int .i64 0, .int .i64 0, .string ⟨#[]⟩, .slice none 0 0] 28)).heap.size = w.heap.size + 1 := by simp
  have C1 := open18_any A len cap (w.alloc (.cells #[.int .i64 0, .int .i64 0, .string ⟨#[]⟩, .slice none 0 0] 28)) (hb.up hb1) hc hm
  have H1 := Lib.hid C1
  have HB1 := Lib.hid hb1
  have HQ1 := Lib.hid hq1
  have HS1 := Lib.hid hs1
  clear C1 hb hc hm hb1 hq1 hs1
  go_enter Tryd.func14, Tryd.ntmps14
  go_wp2_with fail
  refine H1.out.mono ?_
  rintro e w3 ⟨rfl, hr, hb⟩
  have hI : DsI w (w.heap.size + 1) 0 w3 := ⟨by rw [← HS1.out]; exact hr, HB1.out.trans (hb.mono HB1.out.size), HQ1.out.below hb HQ1.out.lt, by omega⟩
  rw [HS1.out]
  have HI := Lib.hid hI
  clear hr hb hI H1 HB1 HQ1 HS1
  generalize hrb : w.heap.size + 1 = rb at *
  have hwr : w.heap.size < rb := by omega
  clear hrb
  go_wp2_with fail
  refine (some_any rb 0 w3 HI.out.1 (by omega)).mono ?_
  rintro e w4 ⟨k, n, s, f, A1, cp1, rfl, hf, hm, hn, hr⟩
  have HI4 := Lib.hid (HI.out.step hr hm.wrote)
  have CM := mut_any rb _ 256 k n s f A1 cp1 0 w4.heap.size w4 HI4.out.1 (by omega) (hm.kids.more (Nat.zero_le _) (Nat.le_refl _)) (Nat.le_refl _) hf hn (by omega)
  have hl4 := HI4.out.2.2.1.lt
  have HCM := Lib.hid CM
  clear hf hm hn hr HI CM
  go_wp2_with fail
  refine HCM.out.mono ?_
  rintro e w10 ⟨k3, n3, s3, f3, A4, cp4, rfl, hf3, hm3, hn3, hr3⟩
  have HQ10 := Lib.hid (HI4.out.step hr3 hm3.wrote)
  have HF3 := Lib.hid hf3
  have HN3 := Lib.hid hn3
  have HO10 : Hid (∃ L, OwnS w10 f3 A4 cp4 L ∧ L.Nodup ∧ ∀ x ∈ L, rb < x) := Lib.hid (by
    obtain ⟨L, h1, h2, h3, _⟩ := hm3
    have hl := HI4.out.1.lt
    exact ⟨L, h1, h2, fun x hx => by have := (h3 x hx).1; omega⟩)
  have hrH := HQ10.out.1.lt
  clear hf3 hm3 hn3 hr3 HI4 HCM
  have hb11 : Below w10.heap.size w10 (w10.alloc (.cells #[.int .i64 k3, .int .i64 n3, .string s3, .slice A4 f3.len cp4] 28)) := (Below.refl _ _).alloc (Nat.le_refl _) _
  have HI11 := Lib.hid (HQ10.out.below hb11)
  have HT11 := Lib.hid (Blk.new w10 28 #[.int .i64 k3, .int .i64 n3, .string s3, .slice A4 f3.len cp4])
  have HO11 : Hid (∃ L, OwnS (w10.alloc (.cells #[.int .i64 k3, .int .i64 n3, .string s3, .slice A4 f3.len cp4] 28)) f3 A4 cp4 L ∧ L.Nodup ∧ ∀ x ∈ L, rb < x) := Lib.hid (by
    obtain ⟨L, h1, h2, h3⟩ := HO10.out
    exact ⟨L, h1.below hb11 h1.lt, h2, h3⟩)
  have hs11 : (w10.alloc (.cells #[.int .i64 k3, .int .i64 n3, .string s3, .slice A4 f3.len cp4] 28)).heap.size = w10.heap.size + 1 := by simp
  clear hb11 HQ10 HO10
  go_wp2_with fail
  generalize w10.alloc (.cells #[.int .i64 k3, .int .i64 n3, .string s3, .slice A4 f3.len cp4] 28) = w11 at *
  generalize w10.heap.size = H at *
  have hHl : H < w11.heap.size := by omega
  have hbs := (Below.refl w11.heap.size w11).alloc (Nat.le_refl _) (.cells #[.int .i64 1, .int .i64 3, .int .i64 0, .int .i64 (-1), .int .i64 22, .int .i64 26, .int .i64 (-26)] 3)
  have hbd : Below w11.heap.size w11 (w11.alloc (.cells #[.int .i64 1, .int .i64 3, .int .i64 0, .int .i64 (-1), .int .i64 22, .int .i64 26, .int .i64 (-26)] 3)).drew := hbs.drew
  have HI12 := Lib.hid (HI11.out.below hbd)
  have HS12 : Hid ((w11.alloc (.cells #[.int .i64 1, .int .i64 3, .int .i64 0, .int .i64 (-1), .int .i64 22, .int .i64 26, .int .i64 (-26)] 3)).heap.size = w11.heap.size + 1) := Lib.hid (by simp)
  have HS : Hid (IntsAt (w11.alloc (.cells #[.int .i64 1, .int .i64 3, .int .i64 0, .int .i64 (-1), .int .i64 22, .int .i64 26, .int .i64 (-26)] 3)).drew (rb + 1) (some ⟨H + 1, 0, none⟩) [1, 3, 0, -1, 22, 26, -26]) := Lib.hid ⟨H + 1, rfl, by have := HI11.out.1.lt; omega, by show H + 1 < (w11.alloc _).heap.size; rw [HS12.out]; omega, fun i z h => by
    have hq := (blk_drew (Blk.new w11 3 #[.int .i64 1, .int .i64 3, .int .i64 0, .int .i64 (-1), .int .i64 22, .int .i64 26, .int .i64 (-26)])).cell i
    rw [hs11] at hq
    rw [hq]
    match i, h with
    | 0, h => cases h; rfl
    | 1, h => cases h; rfl
    | 2, h => cases h; rfl
    | 3, h => cases h; rfl
    | 4, h => cases h; rfl
    | 5, h => cases h; rfl
    | 6, h => cases h; rfl⟩
  have CALL := num_any rb _ [1, 3, 0, -1, 22, 26, -26] _ 7 _ HI12.out.1 (by omega) HS.out (by decide) (by decide)
  have HC := Lib.hid CALL
  obtain ⟨x0, x1, x2, x3⟩ := cells4i HT11.out
  clear CALL hbs
  have HBD := Lib.hid hbd
  clear hbd
  go_region_law (go_simp
                 go_at_call 37
                 refine HC.out.mono ?_
                 rintro e w13 ⟨z, rfl, hz, hr, hw⟩
                 have HI13 := Lib.hid (HI12.out.step hr hw)
                 have ht13 := (HT11.out.below HBD.out hHl).keep (hw.block _ (by show H < (w11.alloc _).heap.size; rw [HS12.out]; omega) (by simp; omega))
                 obtain ⟨y0, y1, y2, y3⟩ := cells4i ht13
                 obtain ⟨d0, d1, d2, d3⟩ := cells4i HI13.out.2.2.1
                 obtain ⟨f0, f1, f2', f3'⟩ := frozen4 HI13.out.2.2.1
                 have HZ := Lib.hid hz
                 have HW := Lib.hid hw
                 clear hr hw hz ht13)
  all_goals
    go_wp2_with fail
    refine bodyPost_ret (v := .tuple #[.agg #[.int .i64 k3, .int .i64 n3, .string s3, .slice A4 f3.len cp4], .int .i64 z]) ?_ rfl ?_
    · exact results_ct Tryd.results14 _ _ w.heap.size _ _ _ _ rfl rfl (set4 HI13.out.2.2.1 _ _ _ _) Tryd.underlying28 rfl (by kernel_rfl)
    · refine DrV.fin (rb := rb) HI13.out HF3.out (by have := HN3.out; omega) ?_ HZ.out ?_
      · obtain ⟨L, h1, h2, h3⟩ := HO11.out
        exact ⟨L, (h1.below HBD.out h1.lt).wrote HW.out (fun x hx e => by simp at e; have := h3 x hx; omega), h2, fun x hx => by have := h3 x hx; omega⟩
      · iterate 4 (refine Wrote.set_ ?_ (.inl (by simp)) _)
        exact Wrote.refl _ _
end Go.Proofs.YtplmkighekjipaaDoor

/- Rows of integers that a call owns; laws.eqIntS, markIntS, heldIntS. Condition: the rows lie in memory. -/
namespace Go.Proofs.YtplmkighekjipaaDoor
open Go.RowKit

/-- The slice v reads as the integers xs; its block is the call's own, from base on. -/
def OwnI (w : World) (base : Nat) (v : Value) (xs : List Int) : Prop := w.ownsRow base 3 1 v xs.length (xs.map (Value.int .i64))
def ownV (v : Value) : List Nat := v.ownBlock.toList
section
variable {w w' : World} {base : Nat} {v : Value} {xs : List Int}
theorem Wrote.more_new {w w1 w2 : World} {L L' : List Nat} (h : Wrote L w w1) (k : Wrote L' w1 w2) (hL : ∀ x ∈ L', x ∈ L ∨ w.heap.size ≤ x) : Wrote L w w2 :=
  ⟨k.os.trans h.os, k.tape.trans h.tape, k.output.trans h.output, Nat.le_trans h.size k.size, fun x hx hn => (k.block x (Nat.lt_of_lt_of_le hx h.size) fun e => by
    rcases hL x e with h | h
    · exact hn h
    · omega).trans (h.block x hx hn)⟩
theorem Wrote.of_grown {L : List Nat} (h : w.grownBy w' v.ownBlock) (hL : ∀ x ∈ ownV v, x ∈ L) : Wrote L w w' :=
  ⟨h.os, h.tape, h.output, h.size, fun x hx hn => h.block x hx fun e => hn (hL x (by unfold ownV; rw [← e]; simp))⟩
theorem OwnI.lt (h : OwnI w base v xs) : ∀ x ∈ ownV v, base ≤ x ∧ x < w.heap.size := fun x hx => World.ownsRow.lt h x (by unfold ownV at hx; simpa using hx)
theorem OwnI.keep {L : List Nat} (h : OwnI w base v xs) (hb : Wrote L w w') (hL : ∀ x ∈ ownV v, x ∉ L) : OwnI w' base v xs := by
  have hlt := h.lt
  obtain ⟨h1, h2⟩ := h
  refine ⟨h1, ?_⟩
  rcases h2 with h2 | ⟨g, cap, cur, rfl, hg, hh, hr⟩
  · exact .inl h2
  · exact .inr ⟨g, cap, cur, rfl, hg, (hb.block g (hlt g (by simp [ownV, Value.ownBlock])).2 (hL g (by simp [ownV, Value.ownBlock]))).trans hh, hr⟩
theorem OwnI.below (h : OwnI w base v xs) (hb : Below w.heap.size w w') : OwnI w' base v xs := h.keep (.of_below hb []) fun _ _ => by simp
theorem OwnI.mono {base' : Nat} (h : OwnI w base v xs) (hb : base' ≤ base) : OwnI w base' v xs := by
  refine ⟨h.1, ?_⟩
  rcases h.2 with h2 | ⟨g, cap, cur, e, hg, hr⟩
  · exact .inl h2
  · exact .inr ⟨g, cap, cur, e, Nat.le_trans hb hg, hr⟩
theorem OwnI.nil (w : World) (base : Nat) : OwnI w base (.slice none 0 0) [] := World.ownsRow_nil w _ _ _
theorem OwnI.empty (w : World) {base : Nat} (hb : base ≤ w.heap.size) : OwnI (w.alloc (.cells #[] 3)) base (.slice (some ⟨w.heap.size, 0, none⟩) 0 0) [] :=
  ⟨rfl, .inr ⟨w.heap.size, 0, #[], rfl, hb, heap_alloc_new w _, Nat.le_refl _, Nat.zero_le _, rfl, rfl⟩⟩
/-- What reading wants. -/
theorem OwnI.read (h : OwnI w base v xs) : ∃ A cap, v = .slice A xs.length cap ∧ xs.length ≤ cap ∧ cap ≤ maxLen ∧ (0 < xs.length → ∃ g, A = some ⟨g, 0, none⟩ ∧ ownV v = [g] ∧
    ∀ j, j < xs.length → w.cell? ⟨g, j, none⟩ = some (.int .i64 (xs.getD j 0)) ∧ w.frozen? ⟨g, j, none⟩ = false) := by
  have h0 := h
  rcases h.2 with ⟨rfl, hn⟩ | ⟨g, cap, cur, rfl, hg, hh, hr1, hr2, _⟩
  · rw [hn]
    exact ⟨none, 0, rfl, Nat.le_refl _, Nat.zero_le _, fun h => absurd h (by omega)⟩
  · refine ⟨_, cap, rfl, hr1, hr2, fun _ => ⟨g, rfl, rfl, fun j hj => ⟨?_, World.ownsRow.frozenAt h0 j⟩⟩⟩
    rw [World.ownsRow.cellAt h0 j (by omega), List.getElem?_map, List.getElem?_eq_getElem hj]
    simp [List.getD, List.getElem?_eq_getElem hj]
theorem OwnI.stored {g n cap : Nat} (h : OwnI w base (.slice (some ⟨g, 0, none⟩) n cap) xs) (j : Nat) (x : Int) (hn : n = xs.length) : OwnI (w.setCell ⟨g, j, none⟩ (.int .i64 x)) base (.slice (some ⟨g, 0, none⟩) n cap) (xs.set j x) := by
  subst hn
  unfold OwnI at *
  have := World.ownsRow.stored h j (.int .i64 x)
  rw [List.length_set, List.map_set]
  exact this.1
end

/-- The marks k, k+1 .. -/
def mkI (k n : Nat) : List Int := (List.range n).map fun i => ((k + i : Nat) : Int)
theorem mkI_len (k n : Nat) : (mkI k n).length = n := by simp [mkI]
theorem mkI_at (k n j : Nat) (h : j < n) : (mkI k n).getD j 0 = ((k + j : Nat) : Int) := by simp [mkI, List.getD, h]
theorem mkI_step (k j : Nat) (xs : List Int) (h : j < xs.length) : (mkI k j ++ xs.drop j).set j ((k + j : Nat) : Int) = mkI k (j + 1) ++ xs.drop (j + 1) := by
  have e : mkI k (j + 1) = mkI k j ++ [((k + j : Nat) : Int)] := by unfold mkI; rw [List.range_succ]; simp
  rw [e, List.set_append_right _ _ (by rw [mkI_len]; exact Nat.le_refl _), mkI_len, Nat.sub_self, List.drop_eq_getElem_cons h, List.append_assoc]
  rfl

end Go.Proofs.YtplmkighekjipaaDoor
