/- spec.DrawListOf. Condition: the bytes lie in memory. -/
import Derived.Test.YtaodhmjlanhakaaDoorProg
import Derived.Test.YtaodhmjlanhakaaDoorDrM
import Derived.Test.YtaodhmjlanhakaaDoorSpecM
namespace Go.Proofs.YtaodhmjlanhakaaDoor
open Go.RowKit

/-- A term that was drawn. -/
def Dr1 (M : Nat) (w : World) (e : Ending) (w' : World) : Prop :=
  ∃ (k n : Int) (s : ByteArray) (f : Fr) (A : Option Addr) (cap : Nat), e = .returned (.agg #[.int .i64 k, .int .i64 n, .string s, .slice A f.len cap]) ∧ Fits k n s ∧ nodes f ≤ M ∧
    (∃ L, OwnS w' f A cap L ∧ L.Nodup ∧ ∀ x ∈ L, w.heap.size ≤ x) ∧ Below w.heap.size w w'
/-- A call that opens a source and draws one term: its result's block is still empty. -/
def DsI (w : World) (rb N : Nat) (wr : World) : Prop := Rd wr rb N ∧ Below w.heap.size w wr ∧ Blk wr w.heap.size 25 #[.int .i64 0, .int .i64 0, .string ⟨#[]⟩, .slice none 0 0] ∧ w.heap.size < rb
theorem DsI.step {w wr w2 : World} {rb N N2 : Nat} (h : DsI w rb N wr) (hr : Rd w2 rb N2) (hw : Wrote [rb] wr w2) : DsI w rb N2 w2 :=
  ⟨hr, h.2.1.trans (hw.below h.2.1.size fun x hx => by simp at hx; have := h.2.2.2; omega), hw.blk h.2.2.1 (by have := h.2.2.2; simp; omega), h.2.2.2⟩
theorem DsI.below {w wr w2 : World} {rb N : Nat} (h : DsI w rb N wr) (hb : Below wr.heap.size wr w2) : DsI w rb N w2 := h.step (h.1.below hb) (.of_below hb _)
theorem DsI.fin {w w8 w9 : World} {rb N M : Nat} {k n : Int} {s : ByteArray} {f : Fr} {A : Option Addr} {cap : Nat} (h : DsI w rb N w8) (hf : Fits k n s) (hn : nodes f ≤ M)
    (ho : ∃ L, OwnS w8 f A cap L ∧ L.Nodup ∧ ∀ x ∈ L, w.heap.size < x) (hw : Wrote [w.heap.size] w8 w9) :
    Dr1 M w (.returned (.agg #[.int .i64 k, .int .i64 n, .string s, .slice A f.len cap])) w9 := by
  obtain ⟨L, h1, h3, h4⟩ := ho
  refine ⟨k, n, s, f, A, cap, rfl, hf, hn, ⟨L, h1.wrote hw fun x hx e => ?_, h3, fun x hx => by have := h4 x hx; omega⟩, h.2.1.trans (hw.below h.2.1.size fun x hx => by simp at hx; omega)⟩
  have := h4 x hx; simp at e; omega
theorem names3 (s : ByteArray) (h : s ∈ ([⟨#[91, 93]⟩, ⟨#[91, 93]⟩, ⟨#[97]⟩] : List ByteArray)) : s.size ≤ maxLen := by
  have : ∀ s ∈ ([⟨#[91, 93]⟩, ⟨#[91, 93]⟩, ⟨#[97]⟩] : List ByteArray), s.size ≤ 100 := by decide
  have := this s h
  unfold maxLen; omega

set_option maxRecDepth 100000 in
set_option maxHeartbeats 4000000 in
/-- spec.DrawListOf. -/
theorem drawLO_any (A : Option Addr) (len cap : Nat) (w : World) (hb : Bts w w.heap.size A len) (hc : len ≤ cap) (hm : cap ≤ maxLen) :
    Calls Tryd.prog 7 #[.slice A len cap] w fun e w' => Dr1 1000 w e w' := by
  have hb1 : Below w.heap.size w (w.alloc (.cells #[.int .i64 0, .int .i64 0, .string ⟨#[]⟩, .slice none 0 0] 25)) := (Below.refl _ _).alloc (Nat.le_refl _) _
  have hq1 := Blk.new w 25 #[.int .i64 0, .int .i64 0, .string ⟨#[]⟩, .slice none 0 0]
  have hs1 : (w.alloc (.cells #[.int .i64 0, .int .i64 0, .string ⟨#[]⟩, .slice none 0 0] 25)).heap.size = w.heap.size + 1 := by simp
  have C1 := open18_any A len cap (w.alloc (.cells #[.int .i64 0, .int .i64 0, .string ⟨#[]⟩, .slice none 0 0] 25)) (fun hp => by
    obtain ⟨b, o, e, h1, h2⟩ := hb hp
    exact ⟨b, o, e, by omega, fun i hi => by
      obtain ⟨n, h3, h4⟩ := h2 i hi
      exact ⟨n, (hb1.cell (p := ⟨b, o + i, none⟩) h1).trans h3, h4⟩⟩) hc hm
  have H1 := Lib.hid C1
  have HB1 := Lib.hid hb1
  have HQ1 := Lib.hid hq1
  have HS1 := Lib.hid hs1
  clear C1 hb hc hm hb1 hq1 hs1
  obtain ⟨i0, hi0, hz0, hz1, hz2⟩ := info_parts infoTd
  go_enter Tryd.func7, Tryd.ntmps7
  go_wp2_with fail
  refine H1.out.mono ?_
  rintro e w3 ⟨rfl, hr, hb⟩
  have hI : DsI w (w.heap.size + 1) 0 w3 := ⟨by rw [← HS1.out]; exact hr, HB1.out.trans (hb.mono HB1.out.size), HQ1.out.below hb HQ1.out.lt, by omega⟩
  rw [HS1.out]
  have hbe := (Below.refl w3.heap.size w3).alloc (Nat.le_refl _) (.cells #[] 25)
  have HI := Lib.hid (hI.below hbe)
  have hrl : w.heap.size + 1 < w3.heap.size := hI.1.lt
  have HR0 : Hid (RowP w3.heap.size (.slice (some ⟨w3.heap.size, 0, none⟩) 0 0) .nil (w3.alloc (.cells #[] 25))) := Lib.hid (RowP.empty (Nat.le_refl _))
  have hs4 : w3.heap.size ≤ (w3.alloc (.cells #[] 25)).heap.size := by simp
  clear hr hb hI hbe H1 HB1 HQ1 HS1
  generalize hrb : w.heap.size + 1 = rb at *
  have hwr : w.heap.size < rb := by omega
  clear hrb
  go_wp2_with fail
  generalize w3.alloc (.cells #[] 25) = w4 at *
  generalize w3.heap.size = base at *
  refine (pick_any rb 0 4 w4 HI.out.1 (by omega) (by omega) (by omega)).mono ?_
  rintro e w5 ⟨c, rfl, hc0, hc1, hr, hw⟩
  have HI5 := Lib.hid (HI.out.step hr hw)
  have HR5 := Lib.hid (HR0.out.wrote (rb := rb) hrl hw)
  have hb5 : base ≤ w5.heap.size := by have := hw.size; omega
  obtain ⟨m, rfl⟩ : ∃ m : Nat, c = (m : Int) := ⟨c.toNat, by omega⟩
  have hm3 : m ≤ 3 := by omega
  clear hr hw hc0 hc1 HI HR0
  go_wp2_with fail
  go_loopw [4, 5] (fun o i wr => ∃ (m U : Nat) (v : Value) (F : Fr), v = o ∧ i = .int .i64 (m : Int) ∧ F.len + m ≤ 3 ∧ U + m * 3000 ≤ 9001 ∧ nodes F + m * 257 ≤ 771 ∧ DsI w rb U wr ∧ RowP base v F wr ∧ base ≤ wr.heap.size) (fun _ i _ => (intOf i).toNat)
  case atStart => exact ⟨m, _, _, .nil, rfl, rfl, by simp only [Fr.len]; omega, by omega, by simp only [nodes]; omega, HI5.out, HR5.out, hb5⟩
  case round =>
    obtain ⟨m, U, v, F, rfl, rfl, h1, h2, h3, hq, hx, hbs⟩ := hrel
    cases m with
    | zero =>
      obtain ⟨A1, cp1, rfl⟩ := hx.form
      obtain ⟨L1, o1, n1, l1⟩ := hx.own
      have hkF : KidsAt wr 0 wr.heap.size F A1 cp1 := o1.kids fun x hx => ⟨Nat.zero_le _, (l1 x hx).2⟩
      have hb := (Below.refl wr.heap.size wr).alloc (Nat.le_refl _) (.cells #[.string ⟨#[91, 93]⟩, .string ⟨#[91, 93]⟩, .string ⟨#[97]⟩] 9)
      have HQ6 := Lib.hid (hq.below hb)
      have HS : Hid (StrsAt (wr.alloc (.cells #[.string ⟨#[91, 93]⟩, .string ⟨#[91, 93]⟩, .string ⟨#[97]⟩] 9)) (rb + 1) (some ⟨wr.heap.size, 0, none⟩) [⟨#[91, 93]⟩, ⟨#[91, 93]⟩, ⟨#[97]⟩]) := Lib.hid ⟨wr.heap.size, rfl, hq.1.lt, by simp, fun i z h => by
        rw [(Blk.new wr _ _).cell i]
        match i, h with
        | 0, h => cases h; rfl
        | 1, h => cases h; rfl
        | 2, h => cases h; rfl⟩
      have HOF : Hid (OwnS (wr.alloc (.cells #[.string ⟨#[91, 93]⟩, .string ⟨#[91, 93]⟩, .string ⟨#[97]⟩] 9)) F A1 cp1 L1) := Lib.hid (o1.below hb o1.lt)
      have HL1 : Hid (∀ x ∈ L1, rb < x) := Lib.hid fun x hx => by have := (l1 x hx).1; omega
      have HNF : Hid (nodes F + F.len ≤ 774) := Lib.hid (by omega)
      have HU : Hid (U ≤ 9001) := Lib.hid (by omega)
      have HFL : Hid (F.len ≤ 1048576) := Lib.hid (by omega)
      clear hq hx o1 n1 l1 hkF hb h1 h2 h3 HI5 HR5
      go_wp2_with fail
      refine (of_any rb U [⟨#[91, 93]⟩, ⟨#[91, 93]⟩, ⟨#[97]⟩] _ 3 _ HQ6.out.1 (by have := HU.out; omega) HS.out (by decide) (by decide)).mono ?_
      rintro e w7 ⟨s, rfl, hs, hr, hw⟩
      have HQ7 := Lib.hid (HQ6.out.step hr hw)
      have HO7 := Lib.hid (HOF.out.wrote hw fun x hx e => by simp at e; have := HL1.out x hx; omega)
      have HSB := Lib.hid (names3 s hs)
      clear hr hw hs HQ6 HOF HS
      go_wp2_with fail
      refine (structN_any s .nil none 0 [] w7 ⟨Nat.zero_le _, Nat.zero_le _, .inl ⟨rfl, rfl⟩⟩ List.nodup_nil (by decide)).mono ?_
      rintro e w8 ⟨A2, cp2, L2, rfl, ho, hn, hL, hb, h0⟩
      obtain ⟨rfl, rfl, _⟩ := h0 rfl
      rw [show Fr.nil.len = 0 from rfl]
      have HQ8 := Lib.hid (HQ7.out.below hb)
      have HO8 := Lib.hid (HO7.out.below hb HO7.out.lt)
      have CH := specChain_any F 3 0 s .nil A1 (some ⟨w7.heap.size + 1, 0, none⟩) cp1 0 w8 (HO8.out.kids fun x hx => ⟨Nat.zero_le _, HO8.out.lt x hx⟩) ⟨by omega, by omega, HSB.out⟩ (KidsAt.nil _ _ _ _ _ (Nat.zero_le _)) HFL.out
      have HCH := Lib.hid CH
      clear ho hn hL hb h0 CH HQ7 HO7
      go_wp2_with fail
      refine HCH.out.mono ?_
      rintro e w9 ⟨k, n, s2, f, A3, cp3, hch, rfl, hf, hk, hb⟩
      have hnf : nodes f ≤ 800 := by
        have h1 := nodes_chain F (.cons 3 0 s .nil .nil)
        rw [hch] at h1
        have h2 := HNF.out
        simp only [nodes] at h1
        omega
      have HQ9 := Lib.hid (HQ8.out.below hb)
      have CM := mut_any rb _ 800 k n s2 f A3 cp3 0 w9.heap.size w9 HQ9.out.1 (by have := HU.out; omega) hk (Nat.le_refl _) hf hnf (by omega)
      have HCM := Lib.hid CM
      have hl9 := HQ9.out.2.2.1.lt
      clear hch hf hk hb hnf CM HQ8 HO8 HCH
      go_wp2_with fail
      refine HCM.out.mono ?_
      rintro e w10 ⟨k3, n3, s3, f3, A4, cp4, rfl, hf3, hm3, hn3, hr3⟩
      have HQ10 := Lib.hid (HQ9.out.step hr3 hm3.wrote)
      have HF3 := Lib.hid hf3
      have HN3 := Lib.hid hn3
      have HO10 : Hid (∃ L, OwnS w10 f3 A4 cp4 L ∧ L.Nodup ∧ ∀ x ∈ L, w.heap.size < x) := Lib.hid (by
        obtain ⟨L, h1, h2, h3, _⟩ := hm3
        exact ⟨L, h1, h2, fun x hx => by have := (h3 x hx).1; omega⟩)
      clear hf3 hm3 hn3 hr3 HQ9 HCM
      obtain ⟨d0, d1, d2, d3⟩ := cells4i HQ10.out.2.2.1
      obtain ⟨f0, f1, f2, f3'⟩ := frozen4 HQ10.out.2.2.1
      go_wp2_with fail
      refine bodyPost_ret (v := .agg #[.int .i64 k3, .int .i64 n3, .string s3, .slice A4 f3.len cp4]) ?_ rfl (HQ10.out.fin HF3.out (by have := HN3.out; omega) HO10.out ?_)
      · exact results_cell_row Tryd.results7 _ _ w.heap.size _ _ _ _ rfl (set4 HQ10.out.2.2.1 _ _ _ _) Tryd.underlying25 rfl (by kernel_rfl)
      · iterate 4 (refine Wrote.set_ ?_ (.inl (by simp)) _)
        exact Wrote.refl _ _
    | succ m =>
      obtain ⟨xs, L, hown, hDs, hN, hL, hv⟩ := hx
      have hvl := hown.lt
      have STEP := fun (w1 w2 w4 : World) (b0 b1 : Int) (b2 : ByteArray) (bf : Fr) (A2 : Option Addr) (cap2 g cap4 : Nat) hf hm hb2 hg ho hat => RowP.stepW (rb := rb) (base := base) (w := wr) (w1 := w1) (w2 := w2) (w3 := w4) (k := b0) (n := b1) (s := b2) (kids := bf) (A := A2) (cap := cap2) (cap' := cap4) (g := g) hrl hDs hN hL hv (fun g hg => (hvl g hg).2) hbs hf hm hb2 hg ho hat
      have keep : ∀ w2, Wrote [rb] wr w2 → w2.ownsRow base 25 4 v F.len xs := fun w2 hb2 => by
        refine ⟨hown.1, ?_⟩
        rcases hown.2 with h | ⟨g, cap, cur, rfl, hg, hh, hr'⟩
        · exact .inl h
        · exact .inr ⟨g, cap, cur, rfl, hg, (hb2.block g (hvl g rfl).2 (by simp; omega)).trans hh, hr'⟩
      have CALL := some_any rb U wr hq.1 (by omega)
      have HSTEP := Lib.hid STEP
      have HKEEP := Lib.hid keep
      have HC := Lib.hid CALL
      have HQ := Lib.hid hq
      have HNF := Lib.hid h3
      have HU := Lib.hid h2
      have hm0 : (0 : Int) < ((m + 1 : Nat) : Int) := by omega
      have hfl : F.len ≤ 3 := by omega
      clear STEP keep CALL hown hDs hN hL hv hvl hq h2 h3 HI5 HR5
      generalize hfl2 : F.len = fl at *
      have HFL := Lib.hid hfl2
      clear hfl2
      go_wp2_with fail
      refine HC.out.mono ?_
      rintro e w6 ⟨b0, b1, b2, bf, A2, cap2, rfl, hf2, hm2, hn2, hr2⟩
      have HO2 := Lib.hid (HKEEP.out w6 hm2.wrote)
      have HQ6 := Lib.hid (HQ.out.step hr2 hm2.wrote)
      have HM := Lib.hid hm2
      have HF2 := Lib.hid hf2
      have HN2 := Lib.hid hn2
      have hs6 := hm2.wrote.size
      clear hm2 hf2 hn2 hr2 HQ HC
      go_wp2_with (at_builtin; go_must (refine wpList_append_lies _ rfl _ _ _ rfl base 25 i0 _ 4 56 Tryd.underlying23 hi0 hz0 hz1 hz2 rfl (by omega) v fl xs rfl (HO2.out.alloc _) ⟨w6.heap.size, 0, none⟩ 1 1 [.int .i64 b0, .int .i64 b1, .string b2, .slice A2 bf.len cap2] rfl rfl (World.news_of_block (cs := #[.int .i64 b0, .int .i64 b1, .string b2, .slice A2 bf.len cap2]) (fr := (0, 0)) (heap_alloc_new w6 _)) (by simp [Value.oneCell']) (by omega) (by unfold maxLen; omega) (by omega) (by simp; omega) (w6.heap.size + 1) (by simp) ?_); intro g cap4 w9 hown9 hgrow hat hlt9; have HS := Lib.hid (HSTEP.out w6 _ w9 b0 b1 b2 bf A2 cap2 g cap4 HF2.out HM.out ((Below.refl _ _).alloc (Nat.le_refl _) _) hgrow hown9 (by simpa using hat)); have HGR := Lib.hid hgrow; have HVB : Hid (∀ g, v.ownBlock = some g → base ≤ g) := Lib.hid (fun g hg => (HO2.out.lt g hg).1); clear hown9 hgrow hat)
      have HQ9 : Hid (DsI w rb (U + 3000) w9) := Lib.hid (by
        have hq8 := HQ6.out.below ((Below.refl w6.heap.size w6).alloc (Nat.le_refl _) (.cells #[.int .i64 b0, .int .i64 b1, .string b2, .slice A2 bf.len cap2] 25))
        have hlo : ∀ x, x < base → x < (w6.alloc (.cells #[.int .i64 b0, .int .i64 b1, .string b2, .slice A2 bf.len cap2] 25)).heap.size → w9.heap[x]? = (w6.alloc (.cells #[.int .i64 b0, .int .i64 b1, .string b2, .slice A2 bf.len cap2] 25)).heap[x]? := fun x hx hl => HGR.out.block x hl fun e => by have := HVB.out x e.symm; omega
        refine ⟨hq8.1.keep fun x hx => hlo x (by omega) (by have := hq8.1.lt; omega), hq8.2.1.grown HGR.out hq8.2.1.size fun g hg => by have := HVB.out g hg; omega, hq8.2.2.1.keep (hlo _ (by omega) hq8.2.2.1.lt), hwr⟩)
      have e3 := Nat.succ_mul m 3000
      go_roundw
      case rel => exact ⟨m, U + 3000, _, F.app (.cons b0 b1 b2 bf .nil), rfl, by go_num, by rw [Fr.len_app, HFL.out]; simp only [Fr.len]; omega, by have := HU.out; omega, by rw [nodes_app]; have := HNF.out; have := HN2.out; simp only [nodes]; omega, HQ9.out, HS.out, by have := HGR.out.size; simp at this; omega⟩
      case measure => simp [intOf]

/-- The bytes, later. -/
theorem Bts.up {w w' : World} {A : Option Addr} {len : Nat} (h : Bts w w.heap.size A len) (hb : Below w.heap.size w w') : Bts w' w'.heap.size A len := fun hp => by
  obtain ⟨b, o, e, h1, h2⟩ := h hp
  exact ⟨b, o, e, Nat.lt_of_lt_of_le h1 hb.size, fun i hi => by
    obtain ⟨n, h3, h4⟩ := h2 i hi
    exact ⟨n, (hb.cell (p := ⟨b, o + i, none⟩) h1).trans h3, h4⟩⟩
set_option maxRecDepth 100000 in
set_option maxHeartbeats 4000000 in
/-- spec.DrawTermValid. -/
theorem drawTV_any (A : Option Addr) (len cap : Nat) (w : World) (hb : Bts w w.heap.size A len) (hc : len ≤ cap) (hm : cap ≤ maxLen) :
    Calls Tryd.prog 15 #[.slice A len cap] w fun e w' => Dr1 1000 w e w' := by
  have hb1 : Below w.heap.size w (w.alloc (.cells #[.int .i64 0, .int .i64 0, .string ⟨#[]⟩, .slice none 0 0] 25)) := (Below.refl _ _).alloc (Nat.le_refl _) _
  have hq1 := Blk.new w 25 #[.int .i64 0, .int .i64 0, .string ⟨#[]⟩, .slice none 0 0]
  have hs1 : (w.alloc (.cells #[.int .i64 0, .int .i64 0, .string ⟨#[]⟩, .slice none 0 0] 25)).heap.size = w.heap.size + 1 := by simp
  have C1 := open18_any A len cap (w.alloc (.cells #[.int .i64 0, .int .i64 0, .string ⟨#[]⟩, .slice none 0 0] 25)) (hb.up hb1) hc hm
  have H1 := Lib.hid C1
  have HB1 := Lib.hid hb1
  have HQ1 := Lib.hid hq1
  have HS1 := Lib.hid hs1
  clear C1 hb hc hm hb1 hq1 hs1
  go_enter Tryd.func15, Tryd.ntmps15
  go_wp2_with fail
  refine H1.out.mono ?_
  rintro e w3 ⟨rfl, hr, hb⟩
  have hI : DsI w (w.heap.size + 1) 0 w3 := ⟨by rw [← HS1.out]; exact hr, HB1.out.trans (hb.mono HB1.out.size), HQ1.out.below hb HQ1.out.lt, by omega⟩
  rw [HS1.out]
  have HI := Lib.hid hI
  clear hr hb hI H1 HB1 HQ1 HS1
  generalize hrb : w.heap.size + 1 = rb at *
  have hwr : w.heap.size < rb := by omega
  clear hrb
  go_wp2_with fail
  refine (some_any rb 0 w3 HI.out.1 (by omega)).mono ?_
  rintro e w4 ⟨k, n, s, f, A1, cp1, rfl, hf, hm, hn, hr⟩
  have HI4 := Lib.hid (HI.out.step hr hm.wrote)
  have CM := mut_any rb _ 256 k n s f A1 cp1 0 w4.heap.size w4 HI4.out.1 (by omega) (hm.kids.more (Nat.zero_le _) (Nat.le_refl _)) (Nat.le_refl _) hf hn (by omega)
  have hl4 := HI4.out.2.2.1.lt
  have HCM := Lib.hid CM
  clear hf hm hn hr HI CM
  go_wp2_with fail
  refine HCM.out.mono ?_
  rintro e w10 ⟨k3, n3, s3, f3, A4, cp4, rfl, hf3, hm3, hn3, hr3⟩
  have HQ10 := Lib.hid (HI4.out.step hr3 hm3.wrote)
  have HF3 := Lib.hid hf3
  have HN3 := Lib.hid hn3
  have HO10 : Hid (∃ L, OwnS w10 f3 A4 cp4 L ∧ L.Nodup ∧ ∀ x ∈ L, w.heap.size < x) := Lib.hid (by
    obtain ⟨L, h1, h2, h3, _⟩ := hm3
    exact ⟨L, h1, h2, fun x hx => by have := (h3 x hx).1; omega⟩)
  clear hf3 hm3 hn3 hr3 HI4 HCM
  obtain ⟨d0, d1, d2, d3⟩ := cells4i HQ10.out.2.2.1
  obtain ⟨f0, f1, f2, f3'⟩ := frozen4 HQ10.out.2.2.1
  go_wp2_with fail
  refine bodyPost_ret (v := .agg #[.int .i64 k3, .int .i64 n3, .string s3, .slice A4 f3.len cp4]) ?_ rfl (HQ10.out.fin HF3.out (by have := HN3.out; omega) HO10.out ?_)
  · exact results_cell_row Tryd.results15 _ _ w.heap.size _ _ _ _ rfl (set4 HQ10.out.2.2.1 _ _ _ _) Tryd.underlying25 rfl (by kernel_rfl)
  · iterate 4 (refine Wrote.set_ ?_ (.inl (by simp)) _)
    exact Wrote.refl _ _
end Go.Proofs.YtaodhmjlanhakaaDoor
