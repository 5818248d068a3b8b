/- The law FnOpLevel, walked. Condition: the code lies in memory, the tables of signs, of operators and of powers of ten in their variables. -/
import Derived.Test.YtkgapidhoeegmaaDoorProg
import Derived.Test.YtkgapidhoeegmaaDoorDrL
import Derived.Test.YtkgapidhoeegmaaDoorZmWS46
import Derived.Test.YtkgapidhoeegmaaDoorZmWS50
import Derived.Test.YtkgapidhoeegmaaDoorDrS
namespace Go.Proofs.YtkgapidhoeegmaaDoor
open Go.RowKit

set_option maxRecDepth 100000 in
set_option maxHeartbeats 2000000 in
/-- spec.DrawOpLevel. -/
theorem drawOL_any (A : Option Addr) (len cap : Nat) (w : World) (hb : Bts w w.heap.size A len) (hc : len ≤ cap) (hm : cap ≤ maxLen) :
    Calls Tryd.prog 5 #[.slice A len cap] w fun e w' => ∃ s : ByteArray, e = .returned (.string s) ∧ s ∈ ([⟨#[43]⟩, ⟨#[105, 115]⟩, ⟨#[109, 111, 100]⟩, ⟨#[42]⟩, ⟨#[61, 61]⟩, ⟨#[102, 111, 111]⟩, ⟨#[46]⟩, ⟨#[]⟩, ⟨#[61, 60]⟩] : List ByteArray) ∧ Below w.heap.size w w' := by
  have C1 := open18_any A len cap w hb hc hm
  have H1 := Lib.hid C1
  clear C1 hb hc hm
  go_enter Tryd.func5, Tryd.ntmps5
  go_wp2_with fail
  refine H1.out.mono ?_
  rintro e w3 ⟨rfl, hr, hb⟩
  have hb3 := (Below.refl w3.heap.size w3).alloc (Nat.le_refl _) (.cells #[.string ⟨#[43]⟩, .string ⟨#[105, 115]⟩, .string ⟨#[109, 111, 100]⟩, .string ⟨#[42]⟩, .string ⟨#[61, 61]⟩, .string ⟨#[102, 111, 111]⟩, .string ⟨#[46]⟩, .string ⟨#[]⟩, .string ⟨#[61, 60]⟩] 9)
  have HR := Lib.hid (hr.below hb3)
  have HB := Lib.hid (hb.trans (hb3.mono hb.size))
  have hlt := hr.lt
  have HZ : Hid (StrsAt (w3.alloc (.cells #[.string ⟨#[43]⟩, .string ⟨#[105, 115]⟩, .string ⟨#[109, 111, 100]⟩, .string ⟨#[42]⟩, .string ⟨#[61, 61]⟩, .string ⟨#[102, 111, 111]⟩, .string ⟨#[46]⟩, .string ⟨#[]⟩, .string ⟨#[61, 60]⟩] 9)) (w.heap.size + 1) (some ⟨w3.heap.size, 0, none⟩) [⟨#[43]⟩, ⟨#[105, 115]⟩, ⟨#[109, 111, 100]⟩, ⟨#[42]⟩, ⟨#[61, 61]⟩, ⟨#[102, 111, 111]⟩, ⟨#[46]⟩, ⟨#[]⟩, ⟨#[61, 60]⟩]) := Lib.hid ⟨w3.heap.size, rfl, by omega, by simp, fun i z h => by rw [(Blk.new w3 _ _).cell i]; match i, h with
    | 0, h => cases h; rfl
    | 1, h => cases h; rfl
    | 2, h => cases h; rfl
    | 3, h => cases h; rfl
    | 4, h => cases h; rfl
    | 5, h => cases h; rfl
    | 6, h => cases h; rfl
    | 7, h => cases h; rfl
    | 8, h => cases h; rfl⟩
  clear hb hb3 hr H1
  go_wp2_with fail
  refine (of_any w.heap.size 0 [⟨#[43]⟩, ⟨#[105, 115]⟩, ⟨#[109, 111, 100]⟩, ⟨#[42]⟩, ⟨#[61, 61]⟩, ⟨#[102, 111, 111]⟩, ⟨#[46]⟩, ⟨#[]⟩, ⟨#[61, 60]⟩] _ 9 _ HR.out (by omega) HZ.out (by decide) (by decide)).mono ?_
  rintro e w4 ⟨s, rfl, hs, hr, hw⟩
  have HS := Lib.hid hs
  have HB4 := Lib.hid (HB.out.trans (hw.below HB.out.size fun x hx => by simp at hx; omega))
  clear hs hr hw
  go_wp2_with fail
  go_ret
  exact ⟨_, rfl, HS.out, HB4.out⟩
/-- Two atoms a, in a row of their own; one atom. -/
def ol1 : Fr := .cons 3 0 ⟨#[97]⟩ .nil .nil
def ol2 : Fr := .cons 3 0 ⟨#[97]⟩ .nil ol1
theorem ol_fits : Fits 3 0 ⟨#[97]⟩ := ⟨by omega, by omega, by unfold maxLen; decide⟩
theorem ol_kids {W : World} {b lo hi : Nat} (h : Blk W b 28 #[.int .i64 3, .int .i64 0, .string ⟨#[97]⟩, .slice none 0 0, .int .i64 3, .int .i64 0, .string ⟨#[97]⟩, .slice none 0 0]) (h1 : lo ≤ b) (h2 : b < hi) : KidsAt W lo hi ol2 (some ⟨b, 0, none⟩) 2 :=
  ⟨Nat.le_refl _, by unfold maxLen; omega, fun _ => ⟨b, 0, rfl, h1, h2, ol_fits, ⟨none, 0, ⟨h.cell 0, h.cell 1, h.cell 2, h.cell 3⟩, Nat.le_refl _, Nat.zero_le _, fun h => absurd h (Nat.lt_irrefl 0)⟩,
    ol_fits, ⟨none, 0, ⟨h.cell 4, h.cell 5, h.cell 6, h.cell 7⟩, Nat.le_refl _, Nat.zero_le _, fun h => absurd h (Nat.lt_irrefl 0)⟩, trivial⟩⟩
theorem ol_kids2 {W : World} {H : Nat} {s : ByteArray} (h : KidsAt W 0 W.heap.size ol2 (some ⟨H + 1, 0, none⟩) 2) (hf : Fits 3 0 s) :
    KidsAt (W.alloc (.cells #[.int .i64 3, .int .i64 0, .string s, .slice (some ⟨H + 1, 0, none⟩) 2 2, .int .i64 3, .int .i64 0, .string ⟨#[97]⟩, .slice none 0 0] 28)) 0 (W.alloc (.cells #[.int .i64 3, .int .i64 0, .string s, .slice (some ⟨H + 1, 0, none⟩) 2 2, .int .i64 3, .int .i64 0, .string ⟨#[97]⟩, .slice none 0 0] 28)).heap.size (.cons 3 0 s ol2 ol1) (some ⟨W.heap.size, 0, none⟩) 2 := by
  have q := Blk.new W 28 #[.int .i64 3, .int .i64 0, .string s, .slice (some ⟨H + 1, 0, none⟩) 2 2, .int .i64 3, .int .i64 0, .string ⟨#[97]⟩, .slice none 0 0]
  have hb : Below W.heap.size W (W.alloc (.cells #[.int .i64 3, .int .i64 0, .string s, .slice (some ⟨H + 1, 0, none⟩) 2 2, .int .i64 3, .int .i64 0, .string ⟨#[97]⟩, .slice none 0 0] 28)) := (Below.refl _ _).alloc (Nat.le_refl _) _
  have hk := h.below hb (Nat.le_refl _)
  obtain ⟨b', o', e, h1, h2, h3⟩ := hk.2.2 (by decide)
  refine ⟨Nat.le_refl _, by unfold maxLen; omega, fun _ => ⟨W.heap.size, 0, rfl, Nat.zero_le _, by simp, hf, ⟨some ⟨H + 1, 0, none⟩, 2, ⟨q.cell 0, q.cell 1, q.cell 2, q.cell 3⟩, Nat.le_refl _, by unfold maxLen; omega, fun _ => ⟨b', o', e, h1, by have := hb.size; omega, ?_⟩⟩,
    ol_fits, ⟨none, 0, ⟨q.cell 4, q.cell 5, q.cell 6, q.cell 7⟩, Nat.le_refl _, Nat.zero_le _, fun h => absurd h (Nat.lt_irrefl 0)⟩, trivial⟩⟩
  exact RowAt.more (Nat.le_refl _) hb.size _ _ _ h3
set_option maxRecDepth 100000 in
set_option maxHeartbeats 8000000 in
theorem lawPOL_any (A : Option Addr) (len cap : Nat) (w : World) (hb : Bts w w.heap.size A len) (hc : len ≤ cap) (hm : cap ≤ maxLen) (ht : nv.Tab w) (ho : op.OpTab w) (hp : Lib.TabIs Tryd.prog w "internal/strconv.uint64pow10" .u64 Lib.pow10Tab) :
    Calls Tryd.prog 3 #[.slice A len cap] w fun e w' => e = .returned (.bool true) ∧ Below w.heap.size w w' := by
  by_cases h2 : len ≤ 1048576
  · have t0 : ¬ (len : Int) > 1048576 := by omega
    have hlt := tab_lt ht
    have C1 := drawOL_any A len cap w hb hc hm
    have H1 := Lib.hid C1
    have HT := Lib.hid ht
    have HLT := Lib.hid hlt
    have HO := Lib.hid ho
    have HPT := Lib.hid (Lib.tabBelow_of_tabIs hp)
    clear C1 hb hc hm ht hp hlt ho
    go_enter Tryd.func3, Tryd.ntmps3
    go_wp2_with fail
    refine H1.out.mono ?_
    rintro e w2 ⟨s, rfl, hs, hb⟩
    have hss : s.size ≤ 3 := by
      have : ∀ s ∈ ([⟨#[43]⟩, ⟨#[105, 115]⟩, ⟨#[109, 111, 100]⟩, ⟨#[42]⟩, ⟨#[61, 61]⟩, ⟨#[102, 111, 111]⟩, ⟨#[46]⟩, ⟨#[]⟩, ⟨#[61, 60]⟩] : List ByteArray), s.size ≤ 3 := by decide
      exact this s hs
    have C2 := op.impl_any s w2 (by unfold maxLen; omega) (HO.out.below hb)
    have C3 := fun w1 => op.spec_any s w1
    have HS := Lib.hid hs
    have HSS := Lib.hid hss
    have HB2 := Lib.hid hb
    generalize hlv : op.level s.data.toList = lv at C2 C3
    generalize hok : decide (lv = 1 ∨ lv = 2) = ok at C2 C3
    have HE := Lib.hid (And.intro hlv hok)
    have H2 := Lib.hid C2
    have H3 := Lib.hid C3
    clear C2 C3 hs hss hb hlv hok H1
    go_wp2_with fail
    refine H2.out.mono ?_
    rintro e w3 ⟨rfl, hb⟩
    have HB3 := Lib.hid (HB2.out.trans (hb.mono HB2.out.size))
    clear hb H2
    go_wp2_with fail
    refine (H3.out w3).mono ?_
    rintro e w4 ⟨rfl, hw⟩
    subst hw
    go_wp2_with fail
    have hbA : Below w4.heap.size w4 (((w4.alloc (.cells #[.int .i64 3, .int .i64 0, .string ⟨#[97]⟩, .slice none 0 0] 28)).alloc (.cells #[.int .i64 3, .int .i64 0, .string ⟨#[97]⟩, .slice none 0 0, .int .i64 3, .int .i64 0, .string ⟨#[97]⟩, .slice none 0 0] 28)).alloc (.cells #[.int .i64 3, .int .i64 0, .string s, .slice (some ⟨w4.heap.size + 1, 0, none⟩) 2 2] 28)) :=
      (((Below.refl _ _).alloc (Nat.le_refl _) _).alloc (by simp) _).alloc (by simp; omega) _
    have qa := ((Blk.new w4 28 #[.int .i64 3, .int .i64 0, .string ⟨#[97]⟩, .slice none 0 0]).alloc (.cells #[.int .i64 3, .int .i64 0, .string ⟨#[97]⟩, .slice none 0 0, .int .i64 3, .int .i64 0, .string ⟨#[97]⟩, .slice none 0 0] 28)).alloc (.cells #[.int .i64 3, .int .i64 0, .string s, .slice (some ⟨w4.heap.size + 1, 0, none⟩) 2 2] 28)
    have qr : Blk (((w4.alloc (.cells #[.int .i64 3, .int .i64 0, .string ⟨#[97]⟩, .slice none 0 0] 28)).alloc (.cells #[.int .i64 3, .int .i64 0, .string ⟨#[97]⟩, .slice none 0 0, .int .i64 3, .int .i64 0, .string ⟨#[97]⟩, .slice none 0 0] 28)).alloc (.cells #[.int .i64 3, .int .i64 0, .string s, .slice (some ⟨w4.heap.size + 1, 0, none⟩) 2 2] 28)) (w4.heap.size + 1) 28 #[.int .i64 3, .int .i64 0, .string ⟨#[97]⟩, .slice none 0 0, .int .i64 3, .int .i64 0, .string ⟨#[97]⟩, .slice none 0 0] := by
      have h := (Blk.new (w4.alloc (.cells #[.int .i64 3, .int .i64 0, .string ⟨#[97]⟩, .slice none 0 0] 28)) 28 #[.int .i64 3, .int .i64 0, .string ⟨#[97]⟩, .slice none 0 0, .int .i64 3, .int .i64 0, .string ⟨#[97]⟩, .slice none 0 0]).alloc (.cells #[.int .i64 3, .int .i64 0, .string s, .slice (some ⟨w4.heap.size + 1, 0, none⟩) 2 2] 28)
      simpa using h
    have qt : Blk (((w4.alloc (.cells #[.int .i64 3, .int .i64 0, .string ⟨#[97]⟩, .slice none 0 0] 28)).alloc (.cells #[.int .i64 3, .int .i64 0, .string ⟨#[97]⟩, .slice none 0 0, .int .i64 3, .int .i64 0, .string ⟨#[97]⟩, .slice none 0 0] 28)).alloc (.cells #[.int .i64 3, .int .i64 0, .string s, .slice (some ⟨w4.heap.size + 1, 0, none⟩) 2 2] 28)) (w4.heap.size + 1 + 1) 28 #[.int .i64 3, .int .i64 0, .string s, .slice (some ⟨w4.heap.size + 1, 0, none⟩) 2 2] := by
      have h := Blk.new ((w4.alloc (.cells #[.int .i64 3, .int .i64 0, .string ⟨#[97]⟩, .slice none 0 0] 28)).alloc (.cells #[.int .i64 3, .int .i64 0, .string ⟨#[97]⟩, .slice none 0 0, .int .i64 3, .int .i64 0, .string ⟨#[97]⟩, .slice none 0 0] 28)) 28 #[.int .i64 3, .int .i64 0, .string s, .slice (some ⟨w4.heap.size + 1, 0, none⟩) 2 2]
      simpa using h
    generalize (((w4.alloc (.cells #[.int .i64 3, .int .i64 0, .string ⟨#[97]⟩, .slice none 0 0] 28)).alloc (.cells #[.int .i64 3, .int .i64 0, .string ⟨#[97]⟩, .slice none 0 0, .int .i64 3, .int .i64 0, .string ⟨#[97]⟩, .slice none 0 0] 28)).alloc (.cells #[.int .i64 3, .int .i64 0, .string s, .slice (some ⟨w4.heap.size + 1, 0, none⟩) 2 2] 28)) = W1 at *
    have HB1 := Lib.hid (HB3.out.trans (hbA.mono HB3.out.size))
    have hH : 1 < w4.heap.size := Nat.lt_of_lt_of_le HLT.out HB3.out.size
    generalize w4.heap.size = H at *
    have K1 := ol_kids (lo := 0) (hi := W1.heap.size) qr (Nat.zero_le _) qr.lt
    have FS : Fits 3 0 s := ⟨by omega, by omega, by have := HSS.out; unfold maxLen; omega⟩
    have C1 := wr.implWr_any 3 0 s ol2 (some ⟨H + 1, 0, none⟩) 2 0 W1.heap.size W1 K1 (Nat.le_refl _) FS (by decide) (tab_below HT.out HB1.out HLT.out) (HO.out.below HB1.out) (HPT.out _ HB1.out)
    have HC1 := Lib.hid C1
    have HK1 := Lib.hid K1
    have HFS := Lib.hid FS
    have HQA := Lib.hid qa
    have HQT := Lib.hid qt
    clear C1 K1 FS qa qr qt hbA H3
    refine HC1.out.mono ?_
    rintro e w6 ⟨rfl, hb⟩
    have hb6 := HB1.out.trans (hb.mono HB1.out.size)
    have HB6 := Lib.hid hb6
    have HQA6 := Lib.hid (HQA.out.below hb HQA.out.lt)
    have HQT6 := Lib.hid (HQT.out.below hb HQT.out.lt)
    have HK6 := Lib.hid ((HK1.out.below hb (Nat.le_refl _)).more (lo' := 0) (hi' := w6.heap.size) (Nat.le_refl _) hb.size)
    clear hb hb6 HC1 HQA HQT HK1 HB3 HB2
    obtain ⟨a0, a1, a2, a3⟩ := cells4i HQA6.out
    obtain ⟨b0, b1, b2, b3⟩ := cells4i HQT6.out
    have hs := HS.out
    clear HS
    simp only [List.mem_cons, List.not_mem_nil, or_false] at hs
    rcases hs with rfl | rfl | rfl | rfl | rfl | rfl | rfl | rfl | rfl
    · have elv : lv = 2 := by rw [← HE.out.1]; decide +kernel
      have eok : ok = true := by rw [← HE.out.2, elv]; decide
      clear HE
      subst elv eok
      have e1 : (⟨(wr.wrB 3 0 ⟨#[43]⟩ ol2).toArray⟩ : ByteArray) = ⟨#[97, 43, 97]⟩ := congrArg (fun l : List UInt8 => (⟨l.toArray⟩ : ByteArray)) (show wr.wrB 3 0 ⟨#[43]⟩ ol2 = [97, 43, 97] by decide +kernel)
      have e2 : (⟨(wr.wrB 3 0 ⟨#[43]⟩ (.cons 3 0 ⟨#[43]⟩ ol2 ol1)).toArray⟩ : ByteArray) = ⟨#[97, 43, 97, 43, 97]⟩ := congrArg (fun l : List UInt8 => (⟨l.toArray⟩ : ByteArray)) (show wr.wrB 3 0 ⟨#[43]⟩ (.cons 3 0 ⟨#[43]⟩ ol2 ol1) = [97, 43, 97, 43, 97] by decide +kernel)
      rw [e1]
      go_wp2_with fail
      have K2 := ol_kids2 (s := ⟨#[43]⟩) (W := w6) (H := H) HK6.out HFS.out
      have hbB : Below w6.heap.size w6 _ := two_new w6 (.cells #[.int .i64 3, .int .i64 0, .string ⟨#[43]⟩, .slice (some ⟨H + 1, 0, none⟩) 2 2, .int .i64 3, .int .i64 0, .string ⟨#[97]⟩, .slice none 0 0] 28) (.cells #[.int .i64 3, .int .i64 0, .string ⟨#[43]⟩, .slice (some ⟨w6.heap.size, 0, none⟩) 2 2] 28)
      have hbC := HB6.out.trans (hbB.mono HB6.out.size)
      have C2 := wr.implWr_any 3 0 ⟨#[43]⟩ (.cons 3 0 ⟨#[43]⟩ ol2 ol1) (some ⟨w6.heap.size, 0, none⟩) 2 0 _ _ (K2.below ((Below.refl _ _).alloc (Nat.le_refl _) _) (Nat.le_refl _)) (by simp) HFS.out (by decide) (tab_below HT.out hbC HLT.out) (HO.out.below hbC) (HPT.out _ hbC)
      rw [e2] at C2
      refine C2.mono ?_
      rintro e w7 ⟨rfl, hb⟩
      have HB7 := Lib.hid (hbC.trans (hb.mono hbC.size))
      clear hb hbB hbC C2 K2
      go_wp2_with fail
      go_ret
      exact ⟨rfl, HB7.out⟩
    · have elv : lv = 3 := by rw [← HE.out.1]; decide +kernel
      have eok : ok = false := by rw [← HE.out.2, elv]; decide
      clear HE
      subst elv eok
      have e1 : (⟨(wr.wrB 3 0 ⟨#[105, 115]⟩ ol2).toArray⟩ : ByteArray) = ⟨#[97, 32, 105, 115, 32, 97]⟩ := congrArg (fun l : List UInt8 => (⟨l.toArray⟩ : ByteArray)) (show wr.wrB 3 0 ⟨#[105, 115]⟩ ol2 = [97, 32, 105, 115, 32, 97] by decide +kernel)
      have e2 : (⟨(wr.wrB 3 0 ⟨#[105, 115]⟩ (.cons 3 0 ⟨#[105, 115]⟩ ol2 ol1)).toArray⟩ : ByteArray) = ⟨#[40, 97, 32, 105, 115, 32, 97, 41, 32, 105, 115, 32, 97]⟩ := congrArg (fun l : List UInt8 => (⟨l.toArray⟩ : ByteArray)) (show wr.wrB 3 0 ⟨#[105, 115]⟩ (.cons 3 0 ⟨#[105, 115]⟩ ol2 ol1) = [40, 97, 32, 105, 115, 32, 97, 41, 32, 105, 115, 32, 97] by decide +kernel)
      rw [e1]
      go_wp2_with fail
      have K2 := ol_kids2 (s := ⟨#[105, 115]⟩) (W := w6) (H := H) HK6.out HFS.out
      have hbB : Below w6.heap.size w6 _ := two_new w6 (.cells #[.int .i64 3, .int .i64 0, .string ⟨#[105, 115]⟩, .slice (some ⟨H + 1, 0, none⟩) 2 2, .int .i64 3, .int .i64 0, .string ⟨#[97]⟩, .slice none 0 0] 28) (.cells #[.int .i64 3, .int .i64 0, .string ⟨#[105, 115]⟩, .slice (some ⟨w6.heap.size, 0, none⟩) 2 2] 28)
      have hbC := HB6.out.trans (hbB.mono HB6.out.size)
      have C2 := wr.implWr_any 3 0 ⟨#[105, 115]⟩ (.cons 3 0 ⟨#[105, 115]⟩ ol2 ol1) (some ⟨w6.heap.size, 0, none⟩) 2 0 _ _ (K2.below ((Below.refl _ _).alloc (Nat.le_refl _) _) (Nat.le_refl _)) (by simp) HFS.out (by decide) (tab_below HT.out hbC HLT.out) (HO.out.below hbC) (HPT.out _ hbC)
      rw [e2] at C2
      refine C2.mono ?_
      rintro e w7 ⟨rfl, hb⟩
      have HB7 := Lib.hid (hbC.trans (hb.mono hbC.size))
      clear hb hbB hbC C2 K2
      go_wp2_with fail
      go_ret
      exact ⟨rfl, HB7.out⟩
    · have elv : lv = 1 := by rw [← HE.out.1]; decide +kernel
      have eok : ok = true := by rw [← HE.out.2, elv]; decide
      clear HE
      subst elv eok
      have e1 : (⟨(wr.wrB 3 0 ⟨#[109, 111, 100]⟩ ol2).toArray⟩ : ByteArray) = ⟨#[97, 32, 109, 111, 100, 32, 97]⟩ := congrArg (fun l : List UInt8 => (⟨l.toArray⟩ : ByteArray)) (show wr.wrB 3 0 ⟨#[109, 111, 100]⟩ ol2 = [97, 32, 109, 111, 100, 32, 97] by decide +kernel)
      have e2 : (⟨(wr.wrB 3 0 ⟨#[109, 111, 100]⟩ (.cons 3 0 ⟨#[109, 111, 100]⟩ ol2 ol1)).toArray⟩ : ByteArray) = ⟨#[97, 32, 109, 111, 100, 32, 97, 32, 109, 111, 100, 32, 97]⟩ := congrArg (fun l : List UInt8 => (⟨l.toArray⟩ : ByteArray)) (show wr.wrB 3 0 ⟨#[109, 111, 100]⟩ (.cons 3 0 ⟨#[109, 111, 100]⟩ ol2 ol1) = [97, 32, 109, 111, 100, 32, 97, 32, 109, 111, 100, 32, 97] by decide +kernel)
      rw [e1]
      go_wp2_with fail
      have K2 := ol_kids2 (s := ⟨#[109, 111, 100]⟩) (W := w6) (H := H) HK6.out HFS.out
      have hbB : Below w6.heap.size w6 _ := two_new w6 (.cells #[.int .i64 3, .int .i64 0, .string ⟨#[109, 111, 100]⟩, .slice (some ⟨H + 1, 0, none⟩) 2 2, .int .i64 3, .int .i64 0, .string ⟨#[97]⟩, .slice none 0 0] 28) (.cells #[.int .i64 3, .int .i64 0, .string ⟨#[109, 111, 100]⟩, .slice (some ⟨w6.heap.size, 0, none⟩) 2 2] 28)
      have hbC := HB6.out.trans (hbB.mono HB6.out.size)
      have C2 := wr.implWr_any 3 0 ⟨#[109, 111, 100]⟩ (.cons 3 0 ⟨#[109, 111, 100]⟩ ol2 ol1) (some ⟨w6.heap.size, 0, none⟩) 2 0 _ _ (K2.below ((Below.refl _ _).alloc (Nat.le_refl _) _) (Nat.le_refl _)) (by simp) HFS.out (by decide) (tab_below HT.out hbC HLT.out) (HO.out.below hbC) (HPT.out _ hbC)
      rw [e2] at C2
      refine C2.mono ?_
      rintro e w7 ⟨rfl, hb⟩
      have HB7 := Lib.hid (hbC.trans (hb.mono hbC.size))
      clear hb hbB hbC C2 K2
      go_wp2_with fail
      go_ret
      exact ⟨rfl, HB7.out⟩
    · have elv : lv = 1 := by rw [← HE.out.1]; decide +kernel
      have eok : ok = true := by rw [← HE.out.2, elv]; decide
      clear HE
      subst elv eok
      have e1 : (⟨(wr.wrB 3 0 ⟨#[42]⟩ ol2).toArray⟩ : ByteArray) = ⟨#[97, 42, 97]⟩ := congrArg (fun l : List UInt8 => (⟨l.toArray⟩ : ByteArray)) (show wr.wrB 3 0 ⟨#[42]⟩ ol2 = [97, 42, 97] by decide +kernel)
      have e2 : (⟨(wr.wrB 3 0 ⟨#[42]⟩ (.cons 3 0 ⟨#[42]⟩ ol2 ol1)).toArray⟩ : ByteArray) = ⟨#[97, 42, 97, 42, 97]⟩ := congrArg (fun l : List UInt8 => (⟨l.toArray⟩ : ByteArray)) (show wr.wrB 3 0 ⟨#[42]⟩ (.cons 3 0 ⟨#[42]⟩ ol2 ol1) = [97, 42, 97, 42, 97] by decide +kernel)
      rw [e1]
      go_wp2_with fail
      have K2 := ol_kids2 (s := ⟨#[42]⟩) (W := w6) (H := H) HK6.out HFS.out
      have hbB : Below w6.heap.size w6 _ := two_new w6 (.cells #[.int .i64 3, .int .i64 0, .string ⟨#[42]⟩, .slice (some ⟨H + 1, 0, none⟩) 2 2, .int .i64 3, .int .i64 0, .string ⟨#[97]⟩, .slice none 0 0] 28) (.cells #[.int .i64 3, .int .i64 0, .string ⟨#[42]⟩, .slice (some ⟨w6.heap.size, 0, none⟩) 2 2] 28)
      have hbC := HB6.out.trans (hbB.mono HB6.out.size)
      have C2 := wr.implWr_any 3 0 ⟨#[42]⟩ (.cons 3 0 ⟨#[42]⟩ ol2 ol1) (some ⟨w6.heap.size, 0, none⟩) 2 0 _ _ (K2.below ((Below.refl _ _).alloc (Nat.le_refl _) _) (Nat.le_refl _)) (by simp) HFS.out (by decide) (tab_below HT.out hbC HLT.out) (HO.out.below hbC) (HPT.out _ hbC)
      rw [e2] at C2
      refine C2.mono ?_
      rintro e w7 ⟨rfl, hb⟩
      have HB7 := Lib.hid (hbC.trans (hb.mono hbC.size))
      clear hb hbB hbC C2 K2
      go_wp2_with fail
      go_ret
      exact ⟨rfl, HB7.out⟩
    · have elv : lv = 3 := by rw [← HE.out.1]; decide +kernel
      have eok : ok = false := by rw [← HE.out.2, elv]; decide
      clear HE
      subst elv eok
      have e1 : (⟨(wr.wrB 3 0 ⟨#[61, 61]⟩ ol2).toArray⟩ : ByteArray) = ⟨#[97, 61, 61, 97]⟩ := congrArg (fun l : List UInt8 => (⟨l.toArray⟩ : ByteArray)) (show wr.wrB 3 0 ⟨#[61, 61]⟩ ol2 = [97, 61, 61, 97] by decide +kernel)
      have e2 : (⟨(wr.wrB 3 0 ⟨#[61, 61]⟩ (.cons 3 0 ⟨#[61, 61]⟩ ol2 ol1)).toArray⟩ : ByteArray) = ⟨#[40, 97, 61, 61, 97, 41, 61, 61, 97]⟩ := congrArg (fun l : List UInt8 => (⟨l.toArray⟩ : ByteArray)) (show wr.wrB 3 0 ⟨#[61, 61]⟩ (.cons 3 0 ⟨#[61, 61]⟩ ol2 ol1) = [40, 97, 61, 61, 97, 41, 61, 61, 97] by decide +kernel)
      rw [e1]
      go_wp2_with fail
      have K2 := ol_kids2 (s := ⟨#[61, 61]⟩) (W := w6) (H := H) HK6.out HFS.out
      have hbB : Below w6.heap.size w6 _ := two_new w6 (.cells #[.int .i64 3, .int .i64 0, .string ⟨#[61, 61]⟩, .slice (some ⟨H + 1, 0, none⟩) 2 2, .int .i64 3, .int .i64 0, .string ⟨#[97]⟩, .slice none 0 0] 28) (.cells #[.int .i64 3, .int .i64 0, .string ⟨#[61, 61]⟩, .slice (some ⟨w6.heap.size, 0, none⟩) 2 2] 28)
      have hbC := HB6.out.trans (hbB.mono HB6.out.size)
      have C2 := wr.implWr_any 3 0 ⟨#[61, 61]⟩ (.cons 3 0 ⟨#[61, 61]⟩ ol2 ol1) (some ⟨w6.heap.size, 0, none⟩) 2 0 _ _ (K2.below ((Below.refl _ _).alloc (Nat.le_refl _) _) (Nat.le_refl _)) (by simp) HFS.out (by decide) (tab_below HT.out hbC HLT.out) (HO.out.below hbC) (HPT.out _ hbC)
      rw [e2] at C2
      refine C2.mono ?_
      rintro e w7 ⟨rfl, hb⟩
      have HB7 := Lib.hid (hbC.trans (hb.mono hbC.size))
      clear hb hbB hbC C2 K2
      go_wp2_with fail
      go_ret
      exact ⟨rfl, HB7.out⟩
    · have elv : lv = 0 := by rw [← HE.out.1]; decide +kernel
      have eok : ok = false := by rw [← HE.out.2, elv]; decide
      clear HE
      subst elv eok
      go_wp2_with fail
      go_ret
      exact ⟨rfl, HB6.out.trans ((two_new _ _ _).mono HB6.out.size)⟩
    · have elv : lv = 0 := by rw [← HE.out.1]; decide +kernel
      have eok : ok = false := by rw [← HE.out.2, elv]; decide
      clear HE
      subst elv eok
      go_wp2_with fail
      go_ret
      exact ⟨rfl, HB6.out.trans ((two_new _ _ _).mono HB6.out.size)⟩
    · have elv : lv = 0 := by rw [← HE.out.1]; decide +kernel
      have eok : ok = false := by rw [← HE.out.2, elv]; decide
      clear HE
      subst elv eok
      go_wp2_with fail
      go_ret
      exact ⟨rfl, HB6.out.trans ((two_new _ _ _).mono HB6.out.size)⟩
    · have elv : lv = 3 := by rw [← HE.out.1]; decide +kernel
      have eok : ok = false := by rw [← HE.out.2, elv]; decide
      clear HE
      subst elv eok
      have e1 : (⟨(wr.wrB 3 0 ⟨#[61, 60]⟩ ol2).toArray⟩ : ByteArray) = ⟨#[97, 61, 60, 97]⟩ := congrArg (fun l : List UInt8 => (⟨l.toArray⟩ : ByteArray)) (show wr.wrB 3 0 ⟨#[61, 60]⟩ ol2 = [97, 61, 60, 97] by decide +kernel)
      have e2 : (⟨(wr.wrB 3 0 ⟨#[61, 60]⟩ (.cons 3 0 ⟨#[61, 60]⟩ ol2 ol1)).toArray⟩ : ByteArray) = ⟨#[40, 97, 61, 60, 97, 41, 61, 60, 97]⟩ := congrArg (fun l : List UInt8 => (⟨l.toArray⟩ : ByteArray)) (show wr.wrB 3 0 ⟨#[61, 60]⟩ (.cons 3 0 ⟨#[61, 60]⟩ ol2 ol1) = [40, 97, 61, 60, 97, 41, 61, 60, 97] by decide +kernel)
      rw [e1]
      go_wp2_with fail
      have K2 := ol_kids2 (s := ⟨#[61, 60]⟩) (W := w6) (H := H) HK6.out HFS.out
      have hbB : Below w6.heap.size w6 _ := two_new w6 (.cells #[.int .i64 3, .int .i64 0, .string ⟨#[61, 60]⟩, .slice (some ⟨H + 1, 0, none⟩) 2 2, .int .i64 3, .int .i64 0, .string ⟨#[97]⟩, .slice none 0 0] 28) (.cells #[.int .i64 3, .int .i64 0, .string ⟨#[61, 60]⟩, .slice (some ⟨w6.heap.size, 0, none⟩) 2 2] 28)
      have hbC := HB6.out.trans (hbB.mono HB6.out.size)
      have C2 := wr.implWr_any 3 0 ⟨#[61, 60]⟩ (.cons 3 0 ⟨#[61, 60]⟩ ol2 ol1) (some ⟨w6.heap.size, 0, none⟩) 2 0 _ _ (K2.below ((Below.refl _ _).alloc (Nat.le_refl _) _) (Nat.le_refl _)) (by simp) HFS.out (by decide) (tab_below HT.out hbC HLT.out) (HO.out.below hbC) (HPT.out _ hbC)
      rw [e2] at C2
      refine C2.mono ?_
      rintro e w7 ⟨rfl, hb⟩
      have HB7 := Lib.hid (hbC.trans (hb.mono hbC.size))
      clear hb hbB hbC C2 K2
      go_wp2_with fail
      go_ret
      exact ⟨rfl, HB7.out⟩
  · have t0 : (len : Int) > 1048576 := by omega
    clear hb hc hm
    go_enter Tryd.func3, Tryd.ntmps3
    go_wp2_with fail
    go_ret
    exact ⟨rfl, Below.refl _ _⟩
end Go.Proofs.YtkgapidhoeegmaaDoor
