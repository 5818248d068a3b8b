/- spec.DrawRenumberTerms. Condition: the bytes lie in memory. -/
import Derived.Test.YtabkoofmfhbmhaaDoorProg
import Derived.Test.YtabkoofmfhbmhaaDoorDrL
namespace Go.Proofs.YtabkoofmfhbmhaaDoor
open Go.RowKit

/-- A row that was drawn. -/
def DrN (M : Nat) (w : World) (e : Ending) (w' : World) : Prop :=
  ∃ (F : Fr) (A : Option Addr) (cap : Nat), e = .returned (.slice A F.len cap) ∧ F.len ≤ 3 ∧ nodes F ≤ M ∧ (∃ L, OwnS w' F A cap L ∧ L.Nodup ∧ ∀ x ∈ L, w.heap.size ≤ x) ∧ Below w.heap.size w w'
theorem below_w {w w1 w2 : World} {rb B : Nat} (h : Below B w w1) (hw : Wrote [rb] w1 w2) (hB : B ≤ w1.heap.size) (hr : B ≤ rb) : Below B w w2 :=
  h.trans (hw.below hB fun x hx => by simp at hx; omega)

set_option maxRecDepth 100000 in
set_option maxHeartbeats 4000000 in
/-- spec.DrawRenumberTerms. -/
theorem drawRN_any (A : Option Addr) (len cap : Nat) (w : World) (hb : Bts w w.heap.size A len) (hc : len ≤ cap) (hm : cap ≤ maxLen) :
    Calls Tryd.prog 8 #[.slice A len cap] w fun e w' => DrN 1000 w e w' := by
  have C1 := open18_any A len cap w hb hc hm
  have H1 := Lib.hid C1
  clear C1 hb hc hm
  obtain ⟨i0, hi0, hz0, hz1, hz2⟩ := info_parts infoTd
  go_enter Tryd.func8, Tryd.ntmps8
  go_wp2_with fail
  refine H1.out.mono ?_
  rintro e w3 ⟨rfl, hr, hb⟩
  have hrl := hr.lt
  have hbe := (Below.refl w3.heap.size w3).alloc (Nat.le_refl _) (.cells #[] 31)
  have HB4 : Hid (Below w.heap.size w (w3.alloc (.cells #[] 31))) := Lib.hid (hb.trans (hbe.mono hb.size))
  have HI4 := Lib.hid (hr.below hbe)
  have HR0 : Hid (RowP w3.heap.size (.slice (some ⟨w3.heap.size, 0, none⟩) 0 0) .nil (w3.alloc (.cells #[] 31))) := Lib.hid (RowP.empty (Nat.le_refl _))
  have hs4 : (w3.alloc (.cells #[] 31)).heap.size = w3.heap.size + 1 := by simp
  clear hr hb hbe H1
  generalize hrb : w.heap.size = rb at *
  have HRB := Lib.hid hrb
  clear hrb
  go_wp2_with fail
  generalize w3.alloc (.cells #[] 31) = w4 at *
  generalize w3.heap.size = base at *
  try rw [← hs4]
  have hbi := (Below.refl w4.heap.size w4).alloc (Nat.le_refl _) (.cells #[.int .i64 2, .int .i64 1, .int .i64 3, .int .i64 0] 3)
  have HS : Hid (IntsAt (w4.alloc (.cells #[.int .i64 2, .int .i64 1, .int .i64 3, .int .i64 0] 3)) (rb + 1) (some ⟨w4.heap.size, 0, none⟩) [2, 1, 3, 0]) := Lib.hid ⟨w4.heap.size, rfl, by omega, by simp, fun i z h => by
    have hq := (Blk.new w4 3 #[.int .i64 2, .int .i64 1, .int .i64 3, .int .i64 0]).cell i
    rw [hq]
    match i, h with
    | 0, h => cases h; rfl
    | 1, h => cases h; rfl
    | 2, h => cases h; rfl
    | 3, h => cases h; rfl⟩
  have HI5 := Lib.hid (HI4.out.below hbi)
  have HB5 := Lib.hid (HB4.out.trans (hbi.mono (by have := HB4.out.size; have := HRB.out; omega)))
  have HR5 := Lib.hid (HR0.out.wrote (rb := rb) hrl (.of_below hbi _))
  have hs5 : (w4.alloc (.cells #[.int .i64 2, .int .i64 1, .int .i64 3, .int .i64 0] 3)).heap.size = w4.heap.size + 1 := by simp
  clear hbi HI4 HB4 HR0
  refine (num_any rb 0 [2, 1, 3, 0] _ 4 _ HI5.out (by omega) HS.out (by decide) (by decide)).mono ?_
  rintro e w6 ⟨z, rfl, hz, hr, hw⟩
  obtain ⟨m, rfl, hm3⟩ : ∃ m : Nat, z = (m : Int) ∧ m ≤ 3 := by
    simp at hz
    rcases hz with rfl | rfl | rfl | rfl
    · exact ⟨2, rfl, by omega⟩
    · exact ⟨1, rfl, by omega⟩
    · exact ⟨3, rfl, by omega⟩
    · exact ⟨0, rfl, by omega⟩
  have HB6 := Lib.hid (below_w HB5.out hw (by have := HB5.out.size; have := HRB.out; omega) (Nat.le_refl _))
  have HR6 := Lib.hid (HR5.out.wrote (rb := rb) hrl hw)
  have HI6 := Lib.hid hr
  have hb6 : base ≤ w6.heap.size := by have := hw.size; omega
  clear hr hw hz HI5 HB5 HR5 HS hs5 hs4
  go_wp2_with fail
  go_loopw [4, 5] (fun o i wr => ∃ (m U : Nat) (v : Value) (F : Fr), v = o ∧ i = .int .i64 (m : Int) ∧ F.len + m ≤ 3 ∧ U + m * 3010 ≤ 9031 ∧ nodes F + m * 297 ≤ 891 ∧ Rd wr rb U ∧ Below rb w wr ∧ RowP base v F wr ∧ base ≤ wr.heap.size) (fun _ i _ => (intOf i).toNat)
  case atStart => exact ⟨m, _, _, .nil, rfl, rfl, by simp only [Fr.len]; omega, by omega, by simp only [nodes]; omega, HI6.out, HB6.out, HR6.out, hb6⟩
  case round =>
    obtain ⟨m, U, v, F, rfl, rfl, h1, h2, h3, hq, hB, hx, hbs⟩ := hrel
    cases m with
    | zero =>
      obtain ⟨A1, cp1, rfl⟩ := hx.form
      obtain ⟨L1, o1, n1, l1⟩ := hx.own
      have HP : Hid (DrN 1000 w (.returned (.slice A1 F.len cp1)) wr) := Lib.hid ⟨F, A1, cp1, rfl, by omega, by omega, ⟨L1, o1, n1, fun x hx => by have := (l1 x hx).1; have := HRB.out; omega⟩, by rw [HRB.out]; exact hB⟩
      clear hx o1 n1 l1 h1 h2 h3 HI6 HR6 HB6 hq hB
      go_wp2_with fail
      go_ret
      exact HP.out
    | succ m =>
      have CALL := some_any rb U wr hq (by omega)
      have HC := Lib.hid CALL
      have HQ := Lib.hid hq
      have HB := Lib.hid hB
      have HX := Lib.hid hx
      have HNF := Lib.hid h3
      have HU := Lib.hid h2
      have hm0 : (0 : Int) < ((m + 1 : Nat) : Int) := by omega
      have hfl : F.len ≤ 3 := by omega
      clear CALL hq hB hx h2 h3 HI6 HR6 HB6
      generalize hfl2 : F.len = fl at *
      have HFL := Lib.hid hfl2
      clear hfl2
      go_wp2_with fail
      refine HC.out.mono ?_
      rintro e w6 ⟨b0, b1, b2, bf, A2, cap2, rfl, hf2, hm2, hn2, hr2⟩
      have hx6 := HX.out.wrote (rb := rb) hrl hm2.wrote
      have HB6 := Lib.hid (below_w HB.out hm2.wrote (by have := HB.out.size; have := HRB.out; omega) (Nat.le_refl _))
      have CM := mut_any rb _ 256 b0 b1 b2 bf A2 cap2 0 w6.heap.size w6 hr2 (by have := HU.out; omega) (hm2.kids.more (Nat.zero_le _) (Nat.le_refl _)) (Nat.le_refl _) hf2 hn2 (by omega)
      have HCM := Lib.hid CM
      have hb6' : base ≤ w6.heap.size := Nat.le_trans hbs hm2.wrote.size
      obtain ⟨xs, L, hown, hDs, hN, hL, hv⟩ := hx6
      have hvl := hown.lt
      rw [HFL.out] at hown
      have STEP := fun (w1 w2 w4 : World) (b0 b1 : Int) (b2 : ByteArray) (bf : Fr) (A2 : Option Addr) (cap2 g cap4 : Nat) hf hm hb2 hg ho hat => RowP.stepW (rb := rb) (base := base) (w := w6) (w1 := w1) (w2 := w2) (w3 := w4) (k := b0) (n := b1) (s := b2) (kids := bf) (A := A2) (cap := cap2) (cap' := cap4) (g := g) hrl hDs hN hL hv (fun g hg => (hvl g hg).2) hb6' hf hm hb2 hg ho hat
      rw [HFL.out] at STEP
      have keep : ∀ w2, Wrote [rb] w6 w2 → w2.ownsRow base 31 4 v fl xs := fun w2 hb2 => by
        refine ⟨hown.1, ?_⟩
        rcases hown.2 with h | ⟨g, cap, cur, rfl, hg, hh, hr'⟩
        · exact .inl h
        · exact .inr ⟨g, cap, cur, rfl, hg, (hb2.block g (hvl g rfl).2 (by simp; omega)).trans hh, hr'⟩
      have HSTEP := Lib.hid STEP
      have HKEEP := Lib.hid keep
      clear STEP keep hown hDs hN hL hv hvl hf2 hm2 hn2 hr2 HC HX HQ CM
      go_wp2_with fail
      refine HCM.out.mono ?_
      rintro e w7 ⟨c0, c1, c2, cf, A3, cap3, rfl, hf3, hm3, hn3, hr3⟩
      have HO2 := Lib.hid (HKEEP.out w7 hm3.wrote)
      have HB7 := Lib.hid (below_w HB6.out hm3.wrote (by have := HB6.out.size; have := HRB.out; omega) (Nat.le_refl _))
      have HQ7 := Lib.hid hr3
      have HM := Lib.hid hm3
      have HF2 := Lib.hid hf3
      have HN2 := Lib.hid hn3
      have hs7 := hm3.wrote.size
      clear hm3 hf3 hn3 hr3 HCM
      go_wp2_with (at_builtin; go_must (refine wpList_append_lies _ rfl _ _ _ rfl base 31 i0 _ 4 56 Tryd.underlying23 hi0 hz0 hz1 hz2 rfl (by omega) v fl xs rfl (HO2.out.alloc _) ⟨w7.heap.size, 0, none⟩ 1 1 [.int .i64 c0, .int .i64 c1, .string c2, .slice A3 cf.len cap3] rfl rfl (World.news_of_block (cs := #[.int .i64 c0, .int .i64 c1, .string c2, .slice A3 cf.len cap3]) (fr := (0, 0)) (heap_alloc_new w7 _)) (by simp [Value.oneCell']) (by omega) (by unfold maxLen; omega) (by omega) (by simp; omega) (w7.heap.size + 1) (by simp) ?_); intro g cap4 w9 hown9 hgrow hat hlt9; have HS := Lib.hid (HSTEP.out w7 _ w9 c0 c1 c2 cf A3 cap3 g cap4 HF2.out HM.out ((Below.refl _ _).alloc (Nat.le_refl _) _) hgrow hown9 (by simpa using hat)); have HGR := Lib.hid hgrow; have HVB : Hid (∀ g, v.ownBlock = some g → base ≤ g) := Lib.hid (fun g hg => (HO2.out.lt g hg).1); clear hown9 hgrow hat)
      have hq8 := HQ7.out.below ((Below.refl w7.heap.size w7).alloc (Nat.le_refl _) (.cells #[.int .i64 c0, .int .i64 c1, .string c2, .slice A3 cf.len cap3] 31))
      have hb8 := HB7.out.trans (((Below.refl w7.heap.size w7).alloc (Nat.le_refl _) (.cells #[.int .i64 c0, .int .i64 c1, .string c2, .slice A3 cf.len cap3] 31)).mono (by have := HB7.out.size; have := HRB.out; omega))
      have HQ9 : Hid (Rd w9 rb (U + 3000 + 10)) := Lib.hid (hq8.keep fun x hx => HGR.out.block x (by have := hq8.lt; omega) fun e => by have := HVB.out x e.symm; omega)
      have HB9 : Hid (Below rb w w9) := Lib.hid (hb8.grown HGR.out (by have := hb8.size; have := HRB.out; omega) fun g hg => by have := HVB.out g hg; omega)
      have e3 := Nat.succ_mul m 3010
      have e4 := Nat.succ_mul m 297
      clear hq8 hb8
      go_roundw
      case rel => exact ⟨m, U + 3000 + 10, _, F.app (.cons c0 c1 c2 cf .nil), rfl, by go_num, by rw [Fr.len_app, HFL.out]; simp only [Fr.len]; omega, by have := HU.out; omega, by rw [nodes_app]; have := HNF.out; have := HN2.out; simp only [nodes]; omega, HQ9.out, HB9.out, HS.out, by have := HGR.out.size; simp at this; omega⟩
      case measure => simp [intOf]
end Go.Proofs.YtabkoofmfhbmhaaDoor
