/- laws.markText, markTermS, markTerm: rows of terms are marked. Condition: the call owns the row. -/
import Derived.Test.YtnkaafimnkigpaaDoorProg
import Derived.Test.YtnkaafimnkigpaaDoorMk
import Derived.WalkKit
import Derived.WalkSpells
import Derived.Outline
import Derived.Lib.SlBytesConst
import Derived.Deep.RegionHeld3
import Derived.Test.YtnkaafimnkigpaaDoorZmAG46
import Derived.Test.YtnkaafimnkigpaaDoorZmAG51
import Derived.Test.YtnkaafimnkigpaaDoorAn
import Derived.Test.YtnkaafimnkigpaaDoorZmAG47
namespace Go.Proofs.YtnkaafimnkigpaaDoor
open Go.RowKit

theorem one_byte (j : Nat) (w : World) : (convert 116 9 (.slice (some ⟨w.heap.size, 0, none⟩) 1 1)).run Tryd.prog (w.alloc (.cells #[.int .u8 (48 + (j : Int) % 10)] 5)) =
    .ok (.string ⟨[UInt8.ofNat (48 + j % 10)].toArray⟩) (w.alloc (.cells #[.int .u8 (48 + (j : Int) % 10)] 5)) := by
  refine run_convert_bytes_back _ _ _ 5 ⟨w.heap.size, 0, none⟩ 1 [UInt8.ofNat (48 + j % 10)] Tryd.underlying116 Tryd.underlying5 Tryd.underlying9 fun i hi => ?_
  obtain rfl : i = 0 := by simpa using hi
  have h := (Blk.new w 5 #[.int .u8 (48 + (j : Int) % 10)]).cell 0
  have e : ((UInt8.ofNat (48 + j % 10)).toNat : Int) = 48 + (j : Int) % 10 := by
    rw [UInt8.toNat_ofNat']
    omega
  show (w.alloc _).cell? ⟨w.heap.size, 0, none⟩ = some (.int .u8 ((UInt8.ofNat (48 + j % 10)).toNat : Int))
  rw [h, e]
  rfl
theorem digs_step (fu j : Nat) (out : List UInt8) (hj : j ≤ fu) (h0 : ¬ j = 0) : ∃ fu', j / 10 ≤ fu' ∧ digs fu j out = digs fu' (j / 10) (UInt8.ofNat (48 + j % 10) :: out) := by
  cases fu with
  | zero => omega
  | succ fu => exact ⟨fu, by omega, by simp only [digs]; rw [if_neg h0]⟩
theorem digs_zero (fu : Nat) (out : List UInt8) : digs fu 0 out = out := by
  cases fu with
  | zero => rfl
  | succ fu => rfl
theorem str_cons (d : UInt8) (out : List UInt8) : (.string (⟨[d].toArray⟩ ++ ⟨out.toArray⟩) : Value) = .string ⟨(d :: out).toArray⟩ := congrArg Value.string (ByteArray.mk_append_mk [d] out)
set_option maxRecDepth 100000 in
set_option maxHeartbeats 1000000 in
theorem markText_any (k0 : Nat) (w : World) (h0 : 0 < k0) (h1 : k0 ≤ 1099511627776) :
    Calls Tryd.prog 37 #[.int .i64 (k0 : Int)] w fun e w' => e = .returned (.string (mtext k0)) ∧ Below w.heap.size w w' := by
  have t0 : ¬ (k0 : Int) ≤ 0 := by omega
  go_enter Tryd.func37, Tryd.ntmps37
  go_wp2_with fail
  go_loopw [3, 0] (fun o i wr => ∃ (j fu : Nat) (out : List UInt8), j ≤ fu ∧ out.length + j ≤ k0 ∧ i = .int .i64 j ∧ o = .string ⟨out.toArray⟩ ∧ digs fu j out = digs k0 k0 [] ∧ Below w.heap.size w wr) (fun _ i _ => (intOf i).toNat)
  case atStart => exact ⟨k0, k0, [], Nat.le_refl _, by simp, rfl, rfl, rfl, Below.refl _ _⟩
  case round =>
    obtain ⟨j, fu, out, hj, hl, rfl, rfl, hd, hb⟩ := hrel
    have HD := Lib.hid hd
    have HB := Lib.hid hb
    clear hd hb
    by_cases hz : j = 0
    · subst hz
      have HV : Hid (mtext k0 = ⟨#[109]⟩ ++ ⟨out.toArray⟩) := Lib.hid (by
        have h := HD.out
        rw [digs_zero] at h
        unfold mtext
        rw [← h]
        exact (ByteArray.mk_append_mk [109] out).symm)
      clear HD
      go_wp2_with fail
      go_ret
      rw [HV.out]
      exact ⟨rfl, HB.out⟩
    · have hjp : (0 : Int) < j := by omega
      obtain ⟨fu', hfu, hdd⟩ := digs_step fu j out hj hz
      have HE : Hid (digs fu' (j / 10) (UInt8.ofNat (48 + j % 10) :: out) = digs k0 k0 []) := Lib.hid (hdd.symm.trans HD.out)
      have kc := one_byte j
      generalize UInt8.ofNat (48 + j % 10) = d at *
      clear hdd HD
      go_wp2_with fail
      go_roundw
      case rel => exact ⟨j / 10, fu', d :: out, hfu, by simp only [List.length_cons]; omega, by go_num, str_cons d out, HE.out, HB.out.alloc HB.out.size _⟩
      case measure => simp [intOf]; omega

/-- What marking a row leaves: the marked row, in the same blocks; no other block was written. -/
def MarkedS (w : World) (f : Fr) (A : Option Addr) (cap : Nat) (L : List Nat) (k : Nat) (e : Ending) (w' : World) : Prop :=
  e = .returned (.int .i64 ((k + 3 * nodes f : Nat) : Int)) ∧ OwnS w' (markF f k) A cap L ∧ Wrote L w w'
def MarkS (f : Fr) : Prop := ∀ (A : Option Addr) (cap k : Nat) (L : List Nat) (w : World), OwnS w f A cap L → L.Nodup → k + 3 * nodes f ≤ 1099511627776 → 0 < k →
  Calls Tryd.prog 26 #[.slice A f.len cap, .int .i64 (k : Int)] w fun e w' => MarkedS w f A cap L k e w'

set_option maxRecDepth 100000 in
set_option maxHeartbeats 2000000 in
theorem markS_of (f : Fr) (h : ∀ i k n s kids rest, f.drop i = .cons k n s kids rest → MarkS kids) : MarkS f := by
  intro A cap k0 L w ho hnd hk hk0
  rcases ho with ⟨hcap, hmax, ⟨hz, rfl⟩ | ⟨b, L', cs, rfl, rfl, hblk, hcs, hown⟩⟩
  · have hnil : f = .nil := by
      cases f with
      | nil => rfl
      | cons _ _ _ _ _ => simp [Fr.len] at hz
    subst hnil
    have e0 : (Fr.nil.len : Int) = 0 := rfl
    have HM : Hid (MarkedS w .nil A cap [] k0 (.returned (.int .i64 (k0 : Int))) w) := Lib.hid ⟨rfl, ⟨Nat.zero_le _, hmax, .inl ⟨rfl, rfl⟩⟩, .refl _ _⟩
    clear h hk hnd hcap hz hmax
    go_enter Tryd.func26, Tryd.ntmps26
    go_wp2_with fail
    go_loop [5, 1] (fun i k => i = .int .i64 0 ∧ k = .int .i64 (k0 : Int)) (fun _ _ => 0)
    case atStart => exact ⟨rfl, rfl⟩
    case round =>
      obtain ⟨rfl, rfl⟩ := hrel
      go_wp2_with fail
      go_ret
      exact HM.out
  · have h0 := MkP.start (k0 := k0) hblk hcs hown
    have HFIN : Hid (∀ wr, MkP w f b cap L' k0 f.len wr → OwnS wr (markF f k0) (some ⟨b, 0, none⟩) cap (b :: L') ∧ Wrote (b :: L') w wr) := Lib.hid fun wr h => h.done hcap hmax
    have HST := Lib.hid h0
    have HND := Lib.hid hnd
    have HH := Lib.hid h
    have HK := Lib.hid hk
    have HCAP := Lib.hid hcap
    have hl : f.len ≤ 1099511627776 := by have := len_le_nodes f; omega
    clear h0 hown hnd h hblk hcs hmax
    unfold maxLen at *
    generalize hn : f.len = len at *
    have HN := Lib.hid hn
    clear hn
    go_enter Tryd.func26, Tryd.ntmps26
    go_wp2_with fail
    go_loopw [5, 1] (fun i k wr => ∃ (j kk : Nat), j ≤ len ∧ i = .int .i64 j ∧ k = .int .i64 kk ∧ kk = k0 + 3 * nodes (f.take j) ∧ MkP w f b cap L' k0 j wr) (fun i _ _ => len - (intOf i).toNat)
    case atStart => exact ⟨0, k0, Nat.zero_le _, rfl, rfl, rfl, HST.out⟩
    case round =>
      obtain ⟨j, kk, hj, rfl, rfl, hkk, hp⟩ := hrel
      by_cases hlt : j < len
      · obtain ⟨kn, nn, s, kids, hd⟩ := Fr.drop_cons j f (by rw [HN.out]; exact hlt)
        obtain ⟨A', cap', hopen⟩ := hp.open_ hd (by rw [HN.out]; exact hlt) (by rw [HN.out]; exact HCAP.out) HND.out HK.out
        rw [← hkk] at hopen
        obtain ⟨⟨v0, v1, v2, c0, c1, c2, c3⟩, hbw, hfz, K, hKn, hgo⟩ := hopen
        have hsp := nodes_split j f
        have hnt := nodes_take j f hd
        have hn1 : nodes (f.drop j) = 1 + nodes kids + nodes (f.drop (j + 1)) := by rw [hd]; rfl
        have hkb : kk + 3 + 3 * nodes kids ≤ 1099511627776 := by have := HK.out; omega
        have HKK : Hid (kk + 3 + 3 * nodes kids = k0 + 3 * nodes (f.take (j + 1))) := Lib.hid (by omega)
        have C2 : ∀ w1, OwnS w1 kids A' cap' K → Calls Tryd.prog 26 #[.slice A' kids.len cap', .int .i64 ((kk : Int) + 1 + 1 + 1)] w1 fun e w' => MarkedS w1 kids A' cap' K (kk + 3) e w' := fun w1 ho => by
          have h := HH.out _ _ _ _ _ _ hd A' cap' (kk + 3) K w1 ho hKn (by omega) (by omega)
          rwa [show ((kk + 3 : Nat) : Int) = (kk : Int) + 1 + 1 + 1 by omega] at h
        have C1 : ∀ w1, Calls Tryd.prog 37 #[.int .i64 ((kk : Int) + 1 + 1)] w1 fun e w' => e = .returned (.string (mtext (kk + 2))) ∧ Below w1.heap.size w1 w' := fun w1 => by
          have h := markText_any (kk + 2) w1 (by omega) (by omega)
          rwa [show ((kk + 2 : Nat) : Int) = (kk : Int) + 1 + 1 by omega] at h
        have hf0 := hfz (j * 4)
        have hf1 := hfz (j * 4 + 1)
        have hf2 := hfz (j * 4 + 2)
        have HGO := Lib.hid hgo
        have H1 := Lib.hid C1
        have H2 := Lib.hid C2
        clear hp hfz hgo C1 C2 hKn hkk hsp hnt hn1 hd
        go_wp2_with fail
        refine (H1.out _).mono ?_
        rintro e w1 ⟨rfl, hb1⟩
        obtain ⟨⟨⟨v3, d2⟩, d4, d3⟩, how, hgo⟩ := HGO.out w1 (hb1.mono (by simp [World.setCell]))
        have HO := Lib.hid how
        have HG2 := Lib.hid hgo
        clear hb1 how hgo HGO c0 c1 c2 c3 hf0 hf1 hf2
        go_wp2_with fail
        refine (H2.out _ HO.out).mono ?_
        rintro e w4 ⟨rfl, ho4, hw4⟩
        have hm := HG2.out w4 ho4 hw4
        have HM := Lib.hid hm
        clear hm ho4 hw4 HG2 HO
        go_wp2_with fail
        go_roundw
        case rel => exact ⟨j + 1, kk + 3 + 3 * nodes kids, by omega, by go_num, rfl, HKK.out, HM.out⟩
        case measure => simp [intOf]; omega
      · obtain rfl : j = len := by omega
        have HE : Hid (kk = k0 + 3 * nodes f) := Lib.hid (by rw [hkk, ← HN.out, Fr.take_len])
        have HF := Lib.hid (HFIN.out wr hp)
        clear hp hkk
        go_wp2_with fail
        go_ret
        unfold MarkedS
        rw [← HE.out]
        exact ⟨rfl, HF.out⟩

theorem mark_all (N : Nat) : ∀ f : Fr, f.size ≤ N → MarkS f := by
  induction N with
  | zero =>
    intro f hf
    refine markS_of f fun i k n s kids rest hd => ?_
    have h1 := Fr.size_drop i f
    rw [hd] at h1
    simp only [Fr.size] at h1
    omega
  | succ N ih =>
    intro f hf
    refine markS_of f fun i k n s kids rest hd => ih kids ?_
    have h1 := Fr.size_drop i f
    rw [hd] at h1
    simp only [Fr.size] at h1
    omega
/-- laws.markTermS. -/
theorem markS_any (f : Fr) : MarkS f := mark_all f.size f (Nat.le_refl _)

set_option maxRecDepth 100000 in
set_option maxHeartbeats 1000000 in
/-- laws.markTerm: the kids are marked, the term itself is a copy. -/
theorem markT_any (kk nn : Int) (s : ByteArray) (f : Fr) (A : Option Addr) (cap k : Nat) (L : List Nat) (w : World) (ho : OwnS w f A cap L) (hn : L.Nodup) (hk : k + 3 * nodes f ≤ 1099511627776) (h0 : 0 < k) :
    Calls Tryd.prog 12 #[.agg #[.int .i64 kk, .int .i64 nn, .string s, .slice A f.len cap], .int .i64 (k : Int)] w fun e w' => MarkedS w f A cap L k e w' := by
  have C1 := fun w1 (hb : Wrote [] w w1) => markS_any f A cap k L w1 (ho.wrote hb fun x _ => by simp) hn hk h0
  have H1 := Lib.hid C1
  clear C1 ho hn hk h0
  go_enter Tryd.func12, Tryd.ntmps12
  go_wp2_with fail
  have hw1 := (Wrote.refl [] w).alloc (.cells #[.int .i64 kk, .int .i64 nn, .string s, .slice A f.len cap] 31)
  refine (H1.out _ hw1).mono ?_
  rintro e w2 ⟨rfl, ho2, hw2⟩
  have HM : Hid (MarkedS w f A cap L k (.returned (.int .i64 ((k + 3 * nodes f : Nat) : Int))) w2) := Lib.hid ⟨rfl, ho2, (hw1.more (fun x hx => by simp at hx)).trans hw2⟩
  clear ho2 hw2 hw1
  go_wp2_with fail
  go_ret
  exact HM.out
end Go.Proofs.YtnkaafimnkigpaaDoor

/- laws.heldTermS, heldTerm: a marked row still holds its marks. Condition: the marked row lies in memory. -/
namespace Go.Proofs.YtnkaafimnkigpaaDoor
open Go.RowKit

def HeldS (f : Fr) : Prop := ∀ (A : Option Addr) (cap k lo hi : Nat) (w : World), KidsAt w lo hi (markF f k) A cap → hi ≤ w.heap.size → k + 3 * nodes f ≤ 1099511627776 → 0 < k →
  Calls Tryd.prog 28 #[.slice A f.len cap, .int .i64 (k : Int)] w fun e w' => e = .returned (.int .i64 ((k + 3 * nodes f : Nat) : Int)) ∧ Below w.heap.size w w'

set_option maxRecDepth 100000 in
set_option maxHeartbeats 2000000 in
theorem heldS_of (f : Fr) (h : ∀ i k n s kids rest, f.drop i = .cons k n s kids rest → HeldS kids) : HeldS f := by
  intro A cap k0 lo hi w hk hh hb hk0
  have HK := Lib.hid hk
  have HH := Lib.hid h
  have HHI := Lib.hid hh
  have HB := Lib.hid hb
  have hl : f.len ≤ 1099511627776 := by have := len_le_nodes f; omega
  have hml := markF_len f k0
  have HML := Lib.hid hml
  clear hk h hh hb hml
  generalize hn : f.len = len at *
  have HN := Lib.hid hn
  clear hn
  go_enter Tryd.func28, Tryd.ntmps28
  go_wp2_with fail
  go_loopw [5, 1] (fun i k wr => ∃ (j kk : Nat), j ≤ len ∧ i = .int .i64 j ∧ k = .int .i64 kk ∧ kk = k0 + 3 * nodes (f.take j) ∧ Below w.heap.size w wr) (fun i _ _ => len - (intOf i).toNat)
  case atStart => exact ⟨0, k0, Nat.zero_le _, rfl, rfl, rfl, Below.refl _ _⟩
  case round =>
    obtain ⟨j, kk, hj, rfl, rfl, hkk, hbw⟩ := hrel
    by_cases hlt : j < len
    · obtain ⟨kn, nn, s, kids, hd⟩ := Fr.drop_cons j f (by rw [HN.out]; exact hlt)
      have hdm : (markF f k0).drop j = .cons (kk : Int) ((kk : Int) + 1) (mtext (kk + 2)) (markF kids (kk + 3)) (markF (f.drop (j + 1)) (kk + 3 + 3 * nodes kids)) := by
        rw [markF_drop, hd, ← hkk]; rfl
      obtain ⟨b, o, rfl, hlb, hbb, hrow⟩ := HK.out.2.2 (by rw [HML.out]; omega)
      obtain ⟨_, A', cap', c0, c1, c2, c3, hkid⟩ := hrow.elem hdm
      rw [markF_len] at c3
      have hlo : (⟨b, o, none⟩ : Addr).block < w.heap.size := Nat.lt_of_lt_of_le hbb HHI.out
      have k0' := (hbw.cell (p := ⟨b, o + j * 4, none⟩) hlo).trans c0
      have k1' := (hbw.cell (p := ⟨b, o + j * 4 + 1, none⟩) hlo).trans c1
      have k2' := (hbw.cell (p := ⟨b, o + j * 4 + 2, none⟩) hlo).trans c2
      have k3' := (hbw.cell (p := ⟨b, o + j * 4 + 3, none⟩) hlo).trans c3
      have hsp := nodes_split j f
      have hnt := nodes_take j f hd
      have hn1 : nodes (f.drop j) = 1 + nodes kids + nodes (f.drop (j + 1)) := by rw [hd]; rfl
      have hkb : kk + 3 + 3 * nodes kids ≤ 1099511627776 := by have := HB.out; omega
      have HKK : Hid (kk + 3 + 3 * nodes kids = k0 + 3 * nodes (f.take (j + 1))) := Lib.hid (by omega)
      have C1 : ∀ w1, Calls Tryd.prog 37 #[.int .i64 ((kk : Int) + 1 + 1)] w1 fun e w' => e = .returned (.string (mtext (kk + 2))) ∧ Below w1.heap.size w1 w' := fun w1 => by
        have h := markText_any (kk + 2) w1 (by omega) (by omega)
        rwa [show ((kk + 2 : Nat) : Int) = (kk : Int) + 1 + 1 by omega] at h
      have C2 : ∀ w1, Below wr.heap.size wr w1 → Calls Tryd.prog 28 #[.slice A' kids.len cap', .int .i64 ((kk : Int) + 1 + 1 + 1)] w1 fun e w' => e = .returned (.int .i64 ((kk + 3 + 3 * nodes kids : Nat) : Int)) ∧ Below w1.heap.size w1 w' := fun w1 hb1 => by
        have hb2 := hbw.trans (hb1.mono hbw.size)
        have h := HH.out _ _ _ _ _ _ hd A' cap' (kk + 3) lo hi w1 (hkid.below hb2 HHI.out) (Nat.le_trans HHI.out hb2.size) (by omega) (by omega)
        rwa [show ((kk + 3 : Nat) : Int) = (kk : Int) + 1 + 1 + 1 by omega] at h
      have t0 : ((kk : Int) != (kk : Int)) = false := by simp
      have t1 : ((kk : Int) + 1 != (kk : Int) + 1) = false := by simp
      have t2 : ((mtext (kk + 2)).toList != (mtext (kk + 2)).toList) = false := by simp
      have t2' : (!((mtext (kk + 2)).toList == (mtext (kk + 2)).toList)) = false := by simp
      have t3 : ¬ (((kk + 3 + 3 * nodes kids : Nat) : Int) < 0) := by omega
      have hlo' : b < wr.heap.size := Nat.lt_of_lt_of_le hlo hbw.size
      have H1 := Lib.hid C1
      have H2 := Lib.hid C2
      have HBW := Lib.hid hbw
      generalize mtext (kk + 2) = mt at *
      clear C1 C2 hbw hkk hsp hnt hn1 hd hdm c0 c1 c2 c3 hkid hrow
      go_wp2_with fail
      go_region_held3 (fun w' => w'.cell? ⟨b, o + j * 4 + 2, none⟩ = some (.string mt))
        (first | exact y2 | exact k2')
        (first
          | (go_at_call 37
             refine (H1.out _).mono ?_
             rintro e w2 ⟨rfl, hb2⟩
             have hd2 : Below wr.heap.size wr w2 := (Below.refl wr.heap.size wr).drew.trans hb2
             have y2 := (hd2.cell (p := ⟨b, o + j * 4 + 2, none⟩) hlo').trans k2'
             have y3 := (hd2.cell (p := ⟨b, o + j * 4 + 3, none⟩) hlo').trans k3'
             have HB2 := Lib.hid hd2
             clear hb2 hd2))
      go_wp2_with fail
      refine (H2.out _ HB2.out).mono ?_
      rintro e w3 ⟨rfl, hb3⟩
      have HB3 : Hid (Below w.heap.size w w3) := Lib.hid ((HBW.out.trans (HB2.out.mono HBW.out.size)).trans (hb3.mono (Nat.le_trans HBW.out.size HB2.out.size)))
      clear hb3
      go_wp2_with fail
      go_roundw
      case rel => exact ⟨j + 1, kk + 3 + 3 * nodes kids, by omega, by go_num, rfl, HKK.out, HB3.out⟩
      case measure => simp [intOf]; omega
    · obtain rfl : j = len := by omega
      have HE : Hid (k0 + 3 * nodes f = kk) := Lib.hid (by rw [hkk, ← HN.out, Fr.take_len])
      have HBW := Lib.hid hbw
      clear hbw hkk
      go_wp2_with fail
      go_ret
      rw [HE.out]
      exact ⟨rfl, HBW.out⟩

theorem held_all (N : Nat) : ∀ f : Fr, f.size ≤ N → HeldS f := by
  induction N with
  | zero =>
    intro f hf
    refine heldS_of f fun i k n s kids rest hd => ?_
    have h1 := Fr.size_drop i f
    rw [hd] at h1
    simp only [Fr.size] at h1
    omega
  | succ N ih =>
    intro f hf
    refine heldS_of f fun i k n s kids rest hd => ih kids ?_
    have h1 := Fr.size_drop i f
    rw [hd] at h1
    simp only [Fr.size] at h1
    omega
/-- laws.heldTermS. -/
theorem heldS_any (f : Fr) : HeldS f := held_all f.size f (Nat.le_refl _)

set_option maxRecDepth 100000 in
set_option maxHeartbeats 1000000 in
/-- laws.heldTerm. -/
theorem heldT_any (kk nn : Int) (s : ByteArray) (f : Fr) (A : Option Addr) (cap k lo hi : Nat) (w : World) (hk : KidsAt w lo hi (markF f k) A cap) (hh : hi ≤ w.heap.size) (hb : k + 3 * nodes f ≤ 1099511627776) (h0 : 0 < k) :
    Calls Tryd.prog 17 #[.agg #[.int .i64 kk, .int .i64 nn, .string s, .slice A f.len cap], .int .i64 (k : Int)] w fun e w' => e = .returned (.int .i64 ((k + 3 * nodes f : Nat) : Int)) ∧ Below w.heap.size w w' := by
  have C1 := fun w1 (hb1 : Below w.heap.size w w1) => heldS_any f A cap k lo hi w1 (hk.below hb1 hh) (Nat.le_trans hh hb1.size) hb h0
  have H1 := Lib.hid C1
  have t0 : ¬ (((k + 3 * nodes f : Nat) : Int) < 0) := by omega
  clear C1 hk hh hb h0
  generalize ((k + 3 * nodes f : Nat) : Int) = r at *
  go_enter Tryd.func17, Tryd.ntmps17
  go_wp2_with fail
  have hb0 : Below w.heap.size w (w.alloc (.cells #[.int .i64 kk, .int .i64 nn, .string s, .slice A f.len cap] 31)) := (Below.refl _ _).alloc (Nat.le_refl _) _
  refine (H1.out _ hb0).mono ?_
  rintro e w2 ⟨rfl, hb2⟩
  have HB : Hid (Below w.heap.size w w2) := Lib.hid (hb0.trans (hb2.mono (by simp)))
  clear hb2 hb0
  go_wp2_with fail
  go_ret
  exact ⟨rfl, HB.out⟩
end Go.Proofs.YtnkaafimnkigpaaDoor

/- The law FnExactAnswerGoals, walked. Condition: the arguments lie in memory, both tables in their variables. -/
namespace Go.Proofs.YtnkaafimnkigpaaDoor
open Go.RowKit

set_option maxRecDepth 100000 in
/-- laws.markAnswer. -/
theorem markAn_any (f : Fr) (A : Option Addr) (cap k : Nat) (L : List Nat) (w : World) (ho : OwnS w f A cap L) (hn : L.Nodup) (hk : k + 3 * nodes f ≤ 1099511627776) (h0 : 0 < k) :
    Calls Tryd.prog 27 #[.agg #[.slice A f.len cap], .int .i64 k] w fun e w' => e = .returned (.int .i64 ((k + 3 * nodes f : Nat) : Int)) ∧ Wrote L w w' := by
  have hb0 : Below w.heap.size w (w.alloc (.cells #[.slice A f.len cap] 48)) := (Below.refl _ _).alloc (Nat.le_refl _) _
  have hq0 := Blk.new w 48 #[.slice A f.len cap]
  have c0 := hq0.cell 0
  simp only [List.getElem?_toArray, List.getElem?_cons_zero] at c0
  have C1 : Calls Tryd.prog 26 #[.slice A f.len cap, .int .i64 k] (w.alloc (.cells #[.slice A f.len cap] 48)) fun e w' => e = .returned (.int .i64 ((k + 3 * nodes f : Nat) : Int)) ∧ OwnS w' (markF f k) A cap L ∧ Wrote L (w.alloc (.cells #[.slice A f.len cap] 48)) w' := markS_any f A cap k L _ (ho.below hb0 ho.lt) hn hk h0
  have HW : Hid (∀ w2, Wrote L (w.alloc (.cells #[.slice A f.len cap] 48)) w2 → Wrote L w w2) := Lib.hid fun w2 h => (Wrote.of_below hb0 L).trans h
  have H1 := Lib.hid C1
  clear C1 ho hn hk h0 hb0 hq0
  generalize f.len = len at *
  generalize ((k + 3 * nodes f : Nat) : Int) = q at *
  go_enter Tryd.func27, Tryd.ntmps27
  go_wp2_with fail
  refine H1.out.mono ?_
  rintro e w2 ⟨rfl, _, hw⟩
  have HR := Lib.hid (HW.out w2 hw)
  clear hw
  go_wp2_with fail
  go_ret
  exact ⟨rfl, HR.out⟩

theorem allG_nodes (f : Fr) : allG f = true → nodes f ≤ 120 * f.len := by
  induction f with
  | nil => intro _; exact Nat.le_refl _
  | cons k n s kids rest _ ihr =>
    intro h
    have h2 : goalV k n s kids = true ∧ allG rest = true := by simpa [allG] using h
    have h3 := ihr h2.2
    have h4 := h2.1
    unfold goalV at h4
    rw [Bool.and_eq_true] at h4
    have := (validT_fits h4.1).2.2
    simp only [nodes, Fr.len]
    omega
theorem agR_nodes (f g : Fr) : nodes (agR f g) ≤ 1048576 := by
  cases h : agB f g with
  | false => rw [ag_not h]; exact Nat.zero_le _
  | true =>
    rw [ag_yes h]
    unfold agB at h
    simp only [Bool.and_eq_true] at h
    obtain ⟨h1, _, h2, _⟩ := h
    have h3 := apF_nodes (ns := varsF [] f) h2 f 30 (allG_shape f (goals_all h1))
    have h4 := allG_nodes f (goals_all h1)
    unfold goalsV at h1
    rw [Bool.and_eq_true, decide_eq_true_eq] at h1
    omega

section
variable (w : World) (cs0 cs9 : Array Value) (lw hw hx b9 hg : Nat) (f g G : Fr) (Aw Ag Ax Ay : Option Addr) (cw cg cx cy : Nat) (Lg Lx Ly : List Nat)
/-- The box of the answer argument; nothing that was there is written. -/
def G0 (wk : World) : Prop := Below w.heap.size w wk ∧ Blk wk w.heap.size 41 cs0
/-- .. and the model's answer. -/
def G1 (wk : World) : Prop := G0 w cs0 wk ∧ KidsAt wk lw hw G Aw cw ∧ hw ≤ wk.heap.size
/-- .. and the program's answer. -/
def G2 (wk : World) : Prop := G1 w cs0 lw hw G Aw cw wk ∧ OwnS wk G Ag cg Lg
/-- .. and the copy of the second argument. -/
def G3 (wk : World) : Prop := G2 w cs0 lw hw G Aw Ag cw cg Lg wk ∧ Blk wk b9 48 cs9 ∧ OwnS wk g Ay cy Ly
/-- .. and the copy of the first. -/
def G4 (wk : World) : Prop := G3 w cs0 cs9 lw hw b9 g G Aw Ag Ay cw cg cy Lg Ly wk ∧ OwnS wk f Ax cx Lx
/-- The program's answer is marked. -/
def G5 (wk : World) : Prop := G1 w cs0 lw hw G Aw cw wk ∧ KidsAt wk 0 hg (markF G 1) Ag cg ∧ hg ≤ wk.heap.size
/-- How the blocks lie to each other. -/
def GOrd : Prop := (w.heap.size < hw ∧ hw ≤ hx ∧ hx ≤ b9) ∧ (∀ x ∈ Lx, hw ≤ x ∧ x < hx) ∧ (∀ x ∈ Ly, hx ≤ x ∧ x < b9) ∧ (∀ x ∈ Lg, b9 < x) ∧ Lx.Nodup ∧ Ly.Nodup ∧ Lg.Nodup
end
section
variable {w wk wl : World} {cs0 cs9 : Array Value} {lw hw hx b9 hg : Nat} {f g G : Fr} {Aw Ag Ax Ay : Option Addr} {cw cg cx cy : Nat} {Lg Lx Ly : List Nat}
theorem G0.below (h : G0 w cs0 wk) (hb : Below wk.heap.size wk wl) : G0 w cs0 wl := ⟨h.1.trans (hb.mono h.1.size), h.2.below hb h.2.lt⟩
theorem G0.drew (h : G0 w cs0 wk) : G0 w cs0 wk.drew := h.below (Below.refl _ _).drew
theorem G0.wrote {L : List Nat} (h : G0 w cs0 wk) (hb : Wrote L wk wl) (hL : ∀ x ∈ L, w.heap.size < x) : G0 w cs0 wl :=
  ⟨h.1.trans (hb.below h.1.size fun x hx => by have := hL x hx; omega), hb.blk h.2 fun e => by have := hL _ e; omega⟩
theorem G1.below (h : G1 w cs0 lw hw G Aw cw wk) (hb : Below wk.heap.size wk wl) : G1 w cs0 lw hw G Aw cw wl := ⟨h.1.below hb, h.2.1.below hb h.2.2, Nat.le_trans h.2.2 hb.size⟩
theorem G1.wrote {L : List Nat} (h : G1 w cs0 lw hw G Aw cw wk) (h0 : w.heap.size < hw) (hb : Wrote L wk wl) (hL : ∀ x ∈ L, hw ≤ x) : G1 w cs0 lw hw G Aw cw wl :=
  ⟨h.1.wrote hb fun x hx => by have := hL x hx; omega, h.2.1.wrote hb h.2.2 fun x hx => .inr (hL x hx), Nat.le_trans h.2.2 hb.size⟩
theorem G1.drew (h : G1 w cs0 lw hw G Aw cw wk) : G1 w cs0 lw hw G Aw cw wk.drew := h.below (Below.refl _ _).drew
theorem G2.below (h : G2 w cs0 lw hw G Aw Ag cw cg Lg wk) (hb : Below wk.heap.size wk wl) : G2 w cs0 lw hw G Aw Ag cw cg Lg wl := ⟨h.1.below hb, h.2.below hb h.2.lt⟩
theorem G3.below (h : G3 w cs0 cs9 lw hw b9 g G Aw Ag Ay cw cg cy Lg Ly wk) (hb : Below wk.heap.size wk wl) : G3 w cs0 cs9 lw hw b9 g G Aw Ag Ay cw cg cy Lg Ly wl := ⟨h.1.below hb, h.2.1.below hb h.2.1.lt, h.2.2.below hb h.2.2.lt⟩
theorem G4.below (h : G4 w cs0 cs9 lw hw b9 f g G Aw Ag Ax Ay cw cg cx cy Lg Lx Ly wk) (hb : Below wk.heap.size wk wl) : G4 w cs0 cs9 lw hw b9 f g G Aw Ag Ax Ay cw cg cx cy Lg Lx Ly wl := ⟨h.1.below hb, h.2.below hb h.2.lt⟩
theorem G4.drew (h : G4 w cs0 cs9 lw hw b9 f g G Aw Ag Ax Ay cw cg cx cy Lg Lx Ly wk) : G4 w cs0 cs9 lw hw b9 f g G Aw Ag Ax Ay cw cg cx cy Lg Lx Ly wk.drew := h.below (Below.refl _ _).drew
theorem G5.below (h : G5 w cs0 lw hw hg G Aw Ag cw cg wk) (hb : Below wk.heap.size wk wl) : G5 w cs0 lw hw hg G Aw Ag cw cg wl := ⟨h.1.below hb, h.2.1.below hb h.2.2, Nat.le_trans h.2.2 hb.size⟩
theorem G5.drew (h : G5 w cs0 lw hw hg G Aw Ag cw cg wk) : G5 w cs0 lw hw hg G Aw Ag cw cg wk.drew := h.below (Below.refl _ _).drew
theorem G4.mark (h : G4 w cs0 cs9 lw hw b9 f g G Aw Ag Ax Ay cw cg cx cy Lg Lx Ly wk) (ho : GOrd w hw hx b9 Lg Lx Ly) (hb : Wrote Lx wk wl) : G3 w cs0 cs9 lw hw b9 g G Aw Ag Ay cw cg cy Lg Ly wl := by
  obtain ⟨⟨⟨h1, h2⟩, h3, h4⟩, _⟩ := h
  obtain ⟨⟨o1, o2, o3⟩, o4, o5, o6, _⟩ := ho
  exact ⟨⟨h1.wrote o1 hb fun x hx => (o4 x hx).1, h2.wrote hb fun x hx e => by have := o6 x hx; have := (o4 x e).2; omega⟩, hb.blk h3 fun e => by have := (o4 _ e).2; omega, h4.wrote hb fun x hx e => by have := (o5 x hx).1; have := (o4 x e).2; omega⟩
theorem G3.mark (h : G3 w cs0 cs9 lw hw b9 g G Aw Ag Ay cw cg cy Lg Ly wk) (ho : GOrd w hw hx b9 Lg Lx Ly) (hb : Wrote Ly wk wl) : G2 w cs0 lw hw G Aw Ag cw cg Lg wl := by
  obtain ⟨⟨h1, h2⟩, h3, h4⟩ := h
  obtain ⟨⟨o1, o2, o3⟩, o4, o5, o6, _⟩ := ho
  exact ⟨h1.wrote o1 hb fun x hx => by have := (o5 x hx).1; omega, h2.wrote hb fun x hx e => by have := o6 x hx; have := (o5 x e).2; omega⟩
theorem G2.mark (h : G2 w cs0 lw hw G Aw Ag cw cg Lg wk) (ho : GOrd w hw hx b9 Lg Lx Ly) (hb : Wrote Lg wk wl) (hm : OwnS wl (markF G 1) Ag cg Lg) : G5 w cs0 lw hw wl.heap.size G Aw Ag cw cg wl := by
  obtain ⟨h1, h2⟩ := h
  obtain ⟨⟨o1, o2, o3⟩, o4, o5, o6, _⟩ := ho
  exact ⟨h1.wrote o1 hb fun x hx => by have := o6 x hx; omega, hm.kids fun x hx => ⟨Nat.zero_le _, hm.lt x hx⟩, Nat.le_refl _⟩
theorem own_row {A : Option Addr} {c : Nat} {L : List Nat} (h : OwnS wk f A c L) : KidsAt wk 0 wk.heap.size f A c := h.kids fun x hx => ⟨Nat.zero_le _, h.lt x hx⟩
theorem box_cell {b : Nat} {t : TypeId} {v : Value} (h : Blk wk b t #[v]) : wk.cell? ⟨b, 0, none⟩ = some v := h.cell 0
end

set_option maxRecDepth 100000 in
set_option maxHeartbeats 16000000 in
theorem lawAg_any (f : Fr) (A : Option Addr) (cap : Nat) (g : Fr) (B : Option Addr) (capB : Nat) (w : World) (hk : KidsAt w 0 w.heap.size f A cap) (hk2 : KidsAt w 0 w.heap.size g B capB) (ht : nv.Tab w) (hop : op.OpTab w) :
    Calls Tryd.prog 5 #[.slice A f.len cap, .agg #[.slice B g.len capB]] w fun e w' => e = .returned (.bool true) ∧ Below w.heap.size w w' := by
  have hlt := tab_lt ht
  have hr := szS_range f 1048576 (by omega)
  have C1 := fun w1 (hb : Below w.heap.size w w1) => szS_any f A cap 0 w.heap.size 1048576 w1 (hk.below hb (Nat.le_refl _)) hb.size (by omega) (by omega)
  generalize szS f 1048576 = r at *
  have r1 := hr.1
  have r2 := hr.2.1
  have hb1 : G0 w #[.slice B g.len capB] (w.alloc (.cells #[.slice B g.len capB] 41)) := ⟨(Below.refl _ _).alloc (Nat.le_refl _) _, Blk.new w _ _⟩
  have H1 := Lib.hid C1
  have HK := Lib.hid hk
  have HK2 := Lib.hid hk2
  have HT := Lib.hid ht
  have HO := Lib.hid hop
  have HB1 := Lib.hid hb1
  clear C1 hk hk2 ht hop hb1
  by_cases hneg : r < 0
  · clear hr
    go_enter Tryd.func5, Tryd.ntmps5
    go_wp2_with fail
    refine (H1.out _ HB1.out.1).mono ?_
    rintro e w2 ⟨rfl, hb⟩
    have HB := Lib.hid (HB1.out.below hb)
    clear hb
    go_wp2_with fail
    go_ret
    exact ⟨rfl, HB.out.1⟩
  have hq := szS_range g r (by omega)
  have C2 := fun w1 (hb : Below w.heap.size w w1) => szAn_any g B capB 0 w.heap.size r w1 (HK2.out.below hb (Nat.le_refl _)) hb.size (by omega) (by omega)
  generalize szS g r = q at *
  have H2 := Lib.hid C2
  have q1 := hq.1
  have q2 := hq.2.1
  clear C2
  by_cases hneg2 : q < 0
  · clear hr hq
    go_enter Tryd.func5, Tryd.ntmps5
    go_wp2_with fail
    refine (H1.out _ HB1.out.1).mono ?_
    rintro e w2 ⟨rfl, hb⟩
    have hg2 := HB1.out.below hb
    have a0 := box_cell hg2.2
    have HB := Lib.hid hg2
    clear hb hg2
    go_wp2_with fail
    refine (H2.out _ HB.out.1).mono ?_
    rintro e w3 ⟨rfl, hb⟩
    have HB3 := Lib.hid (HB.out.below hb)
    clear hb
    go_wp2_with fail
    go_ret
    exact ⟨rfl, HB3.out.1⟩
  have hwt : f.len + wt f ≤ 1048576 := by have := hr.2.2 (by omega); omega
  have hwg : g.len + wt g ≤ 1048576 := by have := hq.2.2 (by omega); omega
  have hnd : nodes f ≤ 1048576 := by have := nodes_le_wt f; omega
  have hng : nodes g ≤ 1048576 := by have := nodes_le_wt g; omega
  have hgn := agR_nodes f g
  have CT := fun w1 (hb : Below w.heap.size w w1) => toS_any f A cap 0 w.heap.size w1 (HK.out.below hb (Nat.le_refl _)) hb.size hwt
  have CA := fun w1 (hb : Below w.heap.size w w1) => toAn_any g B capB 0 w.heap.size w1 (HK2.out.below hb (Nat.le_refl _)) hb.size hwg
  have CS := fun w1 A1 cap1 lo hi (hk : KidsAt w1 lo hi f A1 cap1) hh A2 cap2 lo2 hi2 (hk2 : KidsAt w1 lo2 hi2 g A2 cap2) hh2 => specAg_any f g A1 A2 cap1 cap2 lo hi lo2 hi2 w1 hk hh hnd hk2 hh2 hng
  have CI := fun w1 A1 cap1 lo hi (hk : KidsAt w1 lo hi f A1 cap1) hh A2 cap2 lo2 hi2 (hk2 : KidsAt w1 lo2 hi2 g A2 cap2) hh2 (hb : Below w.heap.size w w1) => implAg_any f g A1 A2 cap1 cap2 lo hi lo2 hi2 w1 hk hh hnd hk2 hh2 hng (tab_below HT.out hb hlt) (HO.out.below hb)
  have CE := fun w1 A1 cap1 lo hi A2 cap2 lo2 hi2 (hk : KidsAt w1 lo hi f A1 cap1) hh (hk2 : KidsAt w1 lo2 hi2 f A2 cap2) hh2 => eqS_any f f A1 A2 cap1 cap2 lo hi lo2 hi2 w1 hk hk2 hh hh2
  rw [eqF_refl] at CE
  have CEA := fun w1 A1 cap1 lo hi A2 cap2 lo2 hi2 (hk : KidsAt w1 lo hi g A1 cap1) hh (hk2 : KidsAt w1 lo2 hi2 g A2 cap2) hh2 => eqAn_any g g A1 A2 cap1 cap2 lo hi lo2 hi2 w1 hk hk2 hh hh2
  rw [eqF_refl] at CEA
  unfold AgRes at CS CI
  generalize agR f g = G at *
  generalize agB f g = ok at *
  have CG := fun w1 A1 cap1 lo hi A2 cap2 lo2 hi2 (hk : KidsAt w1 lo hi G A1 cap1) hh (hk2 : KidsAt w1 lo2 hi2 G A2 cap2) hh2 => eqS_any G G A1 A2 cap1 cap2 lo hi lo2 hi2 w1 hk hk2 hh hh2
  rw [eqF_refl] at CG
  have CMT : ∀ (w1 : World) (A1 : Option Addr) (cap1 : Nat) (L : List Nat), OwnS w1 f A1 cap1 L → L.Nodup → Calls Tryd.prog 26 #[.slice A1 f.len cap1, .int .i64 ((1 : Nat) : Int)] w1 fun e w' => e = .returned (.int .i64 ((1 + 3 * nodes f : Nat) : Int)) ∧ OwnS w' (markF f 1) A1 cap1 L ∧ Wrote L w1 w' :=
    fun w1 A1 cap1 L ho hn => markS_any f A1 cap1 1 L w1 ho hn (by omega) (by omega)
  have CMA := fun (w1 : World) (A1 : Option Addr) (cap1 : Nat) (L : List Nat) (ho : OwnS w1 g A1 cap1 L) (hn : L.Nodup) => markAn_any g A1 cap1 (1 + 3 * nodes f) L w1 ho hn (by omega) (by omega)
  have CMG : ∀ (w1 : World) (A1 : Option Addr) (cap1 : Nat) (L : List Nat), OwnS w1 G A1 cap1 L → L.Nodup → Calls Tryd.prog 26 #[.slice A1 G.len cap1, .int .i64 ((1 : Nat) : Int)] w1 fun e w' => e = .returned (.int .i64 ((1 + 3 * nodes G : Nat) : Int)) ∧ OwnS w' (markF G 1) A1 cap1 L ∧ Wrote L w1 w' :=
    fun w1 A1 cap1 L ho hn => markS_any G A1 cap1 1 L w1 ho hn (by omega) (by omega)
  have CHG := fun w1 A1 cap1 lo hi hk hh => heldS_any G A1 cap1 1 lo hi w1 hk hh (by omega) (by omega)
  have HT' := Lib.hid CT
  have HA' := Lib.hid CA
  have HS := Lib.hid CS
  have HI := Lib.hid CI
  have HE := Lib.hid CE
  have HEA := Lib.hid CEA
  have HG := Lib.hid CG
  have HMT := Lib.hid CMT
  have HMA := Lib.hid CMA
  have HMG := Lib.hid CMG
  have HHG := Lib.hid CHG
  have tok : (ok != ok) = false := by cases ok <;> rfl
  have tk : ¬ (((1 + 3 * nodes f + 3 * nodes g : Nat) : Int) < 0) := by omega
  have tq : ¬ (((1 + 3 * nodes G : Nat) : Int) < 0) := by omega
  have tm : (((1 + 3 * nodes G : Nat) : Int) != ((1 + 3 * nodes G : Nat) : Int)) = false := by simp
  generalize ((1 + 3 * nodes f + 3 * nodes g : Nat) : Int) = kg2 at *
  generalize ((1 + 3 * nodes f : Nat) : Int) = kf at *
  generalize ((1 + 3 * nodes G : Nat) : Int) = kg at *
  clear CT CA CS CI CE CEA CG CMT CMA CMG CHG hr hq hwt hwg hnd hng hgn
  go_enter Tryd.func5, Tryd.ntmps5
  go_wp2_with fail
  refine (H1.out _ HB1.out.1).mono ?_
  rintro e w2 ⟨rfl, hb⟩
  have hg2 := HB1.out.below hb
  have a0 := box_cell hg2.2
  have HB2 := Lib.hid hg2
  clear hb hg2 H1 HB1
  go_wp2_with fail
  refine (H2.out _ HB2.out.1).mono ?_
  rintro e w3 ⟨rfl, hb⟩
  have hg3 := HB2.out.below hb
  have hs3 := hg3.2.lt
  clear a0
  have a0 := box_cell hg3.2
  have HB3 := Lib.hid hg3
  clear hb hg3 H2 HB2
  go_wp2_with fail
  go_region_held3 (fun w' => w'.cell? ⟨w.heap.size, 0, none⟩ = some (.slice B g.len capB))
    (first | exact box_cell HB6.out.1.2 | exact box_cell HB5.out.2 | exact box_cell HB4.out.2 | exact box_cell HB3.out.2 | exact box_cell HB3.out.drew.2)
    (first
      | (go_at_call 21
         refine (HT'.out _ HB3.out.drew.1).mono ?_
         rintro e w4 ⟨A4, cap4, rfl, hm⟩
         have hm4 := kids_of_made hm
         have HB4 := Lib.hid (HB3.out.drew.below hm4.2)
         have KA4 := Lib.hid hm4.1
         clear hm hm4)
      | (go_at_call 22
         refine (HA'.out _ HB4.out.1).mono ?_
         rintro e w5 ⟨A5, cap5, rfl, hm⟩
         have hm5 := kids_of_made hm
         have HB5 := Lib.hid (HB4.out.below hm5.2)
         have KA5 := Lib.hid (KA4.out.below hm5.2 (Nat.le_refl _))
         have KC5 := Lib.hid hm5.1
         have hle5 := hm5.2.size
         clear hm hm5)
      | (go_at_call 20
         refine (HS.out _ _ _ _ _ KA5.out hle5 _ _ _ _ KC5.out (Nat.le_refl _)).mono ?_
         rintro e w6 ⟨Aw, cw, rfl, hm⟩
         have hm6 := kids_of_made hm
         have HB6 : Hid (G1 w #[.slice B g.len capB] w5.heap.size w6.heap.size G Aw cw w6) := Lib.hid ⟨HB5.out.below hm6.2, hm6.1, Nat.le_refl _⟩
         have hs6 : w.heap.size < w6.heap.size := Nat.lt_of_lt_of_le HB5.out.2.lt hm6.2.size
         clear hm hm6))
  clear a0 KA4 KA5 KC5 hle5 HB3 HB4 HB5
  go_wp2_with fail
  refine (HT'.out _ HB6.out.1.1).mono ?_
  rintro e w7 ⟨Ax, cx, rfl, hm⟩
  obtain ⟨Lx, hox, hnx, hlx, hbx⟩ := hm
  have hg7 := HB6.out.below hbx
  have hs7 := hbx.size
  have HX7 := Lib.hid (And.intro hox (And.intro hnx hlx))
  have a0 := box_cell hg7.1.2
  have HB7 := Lib.hid hg7
  clear hox hnx hlx hbx hg7 HB6
  go_wp2_with fail
  refine (HA'.out _ HB7.out.1.1).mono ?_
  rintro e w8 ⟨Ay, cy, rfl, hm⟩
  obtain ⟨Ly, hoy, hny, hly, hby⟩ := hm
  have hba : Below w8.heap.size w8 (w8.alloc (.cells #[.slice Ay g.len cy] 48)) := (Below.refl _ _).alloc (Nat.le_refl _) _
  have hb78 := hby.trans (hba.mono hby.size)
  have hg8 := HB7.out.below hb78
  have hs8 := hby.size
  have e8 : (w8.alloc (.cells #[.slice Ay g.len cy] 48)).heap.size = w8.heap.size + 1 := by simp
  have HX8 := Lib.hid (And.intro (HX7.out.1.below hb78 HX7.out.1.lt) HX7.out.2)
  have HY8 := Lib.hid (And.intro (hoy.below hba hoy.lt) (And.intro hny hly))
  have HZ8 := Lib.hid (Blk.new w8 48 #[.slice Ay g.len cy])
  have HB8 := Lib.hid hg8
  have x0 := box_cell HZ8.out
  have HE8 := Lib.hid e8
  clear hoy hny hly hby hba hb78 hg8 HB7 HX7 a0 e8
  go_wp2_with fail
  refine (HI.out _ _ _ _ _ (own_row HX8.out.1) (Nat.le_refl _) _ _ _ _ (own_row HY8.out.1) (Nat.le_refl _) HB8.out.1.1).mono ?_
  rintro e w9 ⟨Ag, cg, rfl, hm⟩
  obtain ⟨Lg, hog, hng, hlg, hbg⟩ := hm
  have hord : GOrd w w6.heap.size w7.heap.size w8.heap.size Lg Lx Ly := by
    refine ⟨⟨hs6, hs7, hs8⟩, HX8.out.2.2, HY8.out.2.2, fun x hx => ?_, HX8.out.2.1, HY8.out.2.1, hng⟩
    have h := (hlg x hx).1
    rw [HE8.out] at h
    omega
  have hst : G4 w #[.slice B g.len capB] #[.slice Ay g.len cy] w5.heap.size w6.heap.size w8.heap.size f g G Aw Ag Ax Ay cw cg cx cy Lg Lx Ly w9 :=
    ⟨⟨⟨HB8.out.below hbg, hog⟩, HZ8.out.below hbg HZ8.out.lt, HY8.out.1.below hbg HY8.out.1.lt⟩, HX8.out.1.below hbg HX8.out.1.lt⟩
  have HORD := Lib.hid hord
  have HST := Lib.hid hst
  clear hog hng hlg hbg hord hst HX8 HY8 HZ8 HB8 x0
  go_wp2_with fail
  refine (HG.out _ _ _ _ _ _ _ _ _ (own_row HST.out.1.1.2) (Nat.le_refl _) HST.out.1.1.1.2.1 HST.out.1.1.1.2.2).mono ?_
  rintro e v1 ⟨rfl, hb⟩
  have hst := HST.out.below hb
  have HST1 := Lib.hid hst
  clear hb hst HST
  go_wp2_with fail
  refine (HT'.out _ HST1.out.1.1.1.1.1).mono ?_
  rintro e v2 ⟨A3, cap3, rfl, hm⟩
  have hm2 := kids_of_made hm
  have HM2 := Lib.hid hm2.1
  have HST2 := Lib.hid (HST1.out.below hm2.2)
  clear hm hm2 HST1
  go_wp2_with fail
  refine (HE.out _ _ _ _ _ _ _ _ _ (own_row HST2.out.2) (Nat.le_refl _) HM2.out (Nat.le_refl _)).mono ?_
  rintro e v3 ⟨rfl, hb⟩
  have hst := HST2.out.below hb
  have a0 := box_cell hst.1.1.1.1.2
  have x0 := box_cell hst.1.2.1
  have HST3 := Lib.hid hst
  clear hb hst HST2 HM2
  go_wp2_with fail
  go_region_held3 (fun w' => w'.cell? ⟨w8.heap.size, 0, none⟩ = some (.slice Ay g.len cy) ∧ w'.cell? ⟨w.heap.size, 0, none⟩ = some (.slice B g.len capB))
    (first | exact ⟨z0, z1⟩ | exact ⟨y0, y1⟩ | exact ⟨x0, a0⟩)
    (first
      | (go_at_call 22
         refine (HA'.out _ HST3.out.drew.1.1.1.1.1).mono ?_
         rintro e v4 ⟨A4, cap4, rfl, hm⟩
         have hm4 := kids_of_made hm
         have h4 := HST3.out.drew.below hm4.2
         have y1 := box_cell h4.1.1.1.1.2
         have y0 := box_cell h4.1.2.1
         have HM4 := Lib.hid hm4.1
         have HST4 := Lib.hid h4
         clear hm hm4 h4)
      | (go_at_call 25
         refine (HEA.out _ _ _ _ _ _ _ _ _ (own_row HST4.out.1.2.2) (Nat.le_refl _) HM4.out (Nat.le_refl _)).mono ?_
         rintro e v5 ⟨rfl, hb⟩
         have h5 := HST4.out.below hb
         have z1 := box_cell h5.1.1.1.1.2
         have z0 := box_cell h5.1.2.1
         have HST5 := Lib.hid h5
         clear hb h5))
  clear a0 x0 y0 y1 z0 z1 HM4 HST4 HST3
  go_wp2_with fail
  refine (HMT.out _ _ _ _ HST5.out.2 HORD.out.2.2.2.2.1).mono ?_
  rintro e v6 ⟨rfl, _, hwr⟩
  have hst := HST5.out.mark HORD.out hwr
  have x0 := box_cell hst.2.1
  have HST6 := Lib.hid hst
  clear hwr hst HST5
  go_wp2_with fail
  refine (HMA.out _ _ _ _ HST6.out.2.2 HORD.out.2.2.2.2.2.1).mono ?_
  rintro e v7 ⟨rfl, hwr⟩
  have HST7 := Lib.hid (HST6.out.mark HORD.out hwr)
  clear hwr HST6 x0
  go_wp2_with fail
  refine (HG.out _ _ _ _ _ _ _ _ _ (own_row HST7.out.2) (Nat.le_refl _) HST7.out.1.2.1 HST7.out.1.2.2).mono ?_
  rintro e v8 ⟨rfl, hb⟩
  have HST8 := Lib.hid (HST7.out.below hb)
  clear hb HST7
  go_wp2_with fail
  refine (HMG.out _ _ _ _ HST8.out.2 HORD.out.2.2.2.2.2.2).mono ?_
  rintro e v9 ⟨rfl, hom, hwr⟩
  have HST9 := Lib.hid (HST8.out.mark HORD.out hwr hom)
  clear hom hwr HST8
  go_wp2_with fail
  refine (HHG.out _ _ _ _ _ HST9.out.2.1 HST9.out.2.2).mono ?_
  rintro e u1 ⟨rfl, hb⟩
  have hst := HST9.out.below hb
  have a0 := box_cell hst.1.1.2
  have HSU1 := Lib.hid hst
  clear hb hst HST9
  go_wp2_with fail
  go_region_held3 (fun w' => w'.cell? ⟨w.heap.size, 0, none⟩ = some (.slice B g.len capB))
    (first | exact box_cell HSU4.out.1.1.2 | exact box_cell HSU3.out.1.1.2 | exact box_cell HSU2.out.1.1.2 | exact box_cell HSU1.out.1.1.2 | exact box_cell HSU1.out.drew.1.1.2)
    (first
      | (go_at_call 21
         refine (HT'.out _ HSU1.out.drew.1.1.1).mono ?_
         rintro e u2 ⟨A4, cap4, rfl, hm⟩
         have hm4 := kids_of_made hm
         have HSU2 := Lib.hid (HSU1.out.drew.below hm4.2)
         have KA4 := Lib.hid hm4.1
         clear hm hm4)
      | (go_at_call 22
         refine (HA'.out _ HSU2.out.1.1.1).mono ?_
         rintro e u3 ⟨A5, cap5, rfl, hm⟩
         have hm5 := kids_of_made hm
         have HSU3 := Lib.hid (HSU2.out.below hm5.2)
         have KA5 := Lib.hid (KA4.out.below hm5.2 (Nat.le_refl _))
         have KC5 := Lib.hid hm5.1
         have hle5 := hm5.2.size
         clear hm hm5)
      | (go_at_call 23
         refine (HI.out _ _ _ _ _ KA5.out hle5 _ _ _ _ KC5.out (Nat.le_refl _) HSU3.out.1.1.1).mono ?_
         rintro e u4 ⟨Ah, ch, rfl, hm⟩
         have hm6 := kids_of_made hm
         have HSU4 := Lib.hid (HSU3.out.below hm6.2)
         have KH := Lib.hid hm6.1
         clear hm hm6))
  clear a0 KA4 KA5 KC5 hle5 HSU1 HSU2 HSU3
  go_wp2_with fail
  refine (HG.out _ _ _ _ _ _ _ _ _ KH.out (Nat.le_refl _) HSU4.out.1.2.1 HSU4.out.1.2.2).mono ?_
  rintro e u5 ⟨rfl, hb⟩
  have HSU5 := Lib.hid (HSU4.out.below hb)
  clear hb HSU4 KH
  go_wp2_with fail
  refine (HHG.out _ _ _ _ _ HSU5.out.2.1 HSU5.out.2.2).mono ?_
  rintro e u6 ⟨rfl, hb⟩
  have HSU6 := Lib.hid (HSU5.out.below hb)
  clear hb HSU5
  go_wp2_with fail
  go_ret
  exact ⟨rfl, HSU6.out.1.1.1⟩
end Go.Proofs.YtnkaafimnkigpaaDoor
