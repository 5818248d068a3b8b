/- spec.l11Take, DecodeAll, DecoderValid. Condition: the bytes lie in memory. -/
import Derived.Test.YtdpmjpjbcpdgnaaDoorProg
import Derived.Test.YtdpmjpjbcpdgnaaDoorFzS
namespace Go.Proofs.YtdpmjpjbcpdgnaaDoor
open Go.RowKit

theorem ownG_empty (w : World) : OwnG (w.alloc (.cells #[] 28)) w.heap.size (.slice (some ⟨w.heap.size, 0, none⟩) 0 0) [] :=
  ⟨rfl, .inr ⟨w.heap.size, 0, #[], rfl, Nat.le_refl _, (Blk.new w _ _), Nat.le_refl _, Nat.zero_le _, rfl, rfl⟩⟩
/-- What l11Take leaves. -/
def TkR (l : List UInt8) (w : World) (e : Ending) (w' : World) : Prop :=
  ∃ v A' cap', e = .returned (.tuple #[v, .slice A' (fz.tk l).2.1.length cap', .bool (fz.tk l).2.2]) ∧ OwnG w' w.heap.size v (fz.tk l).1 ∧ AtU w' w.heap.size A' (fz.tk l).2.1 ∧ (fz.tk l).2.1.length ≤ cap' ∧ cap' ≤ maxLen ∧ (A' = none → (fz.tk l).2.1.length = 0 ∧ cap' = 0) ∧ Below w.heap.size w w'
/-- The loop's relation. -/
def TkI (l : List UInt8) (w : World) (k : Nat) (A : Option Addr) (cap : Nat) (l1 : List UInt8) (v : Value) (fs : List fz.F) (wr : World) : Prop :=
  OwnG wr w.heap.size v fs ∧ AtU wr w.heap.size A l1 ∧ l1.length ≤ cap ∧ cap ≤ maxLen ∧ (A = none → l1.length = 0 ∧ cap = 0) ∧ Below w.heap.size w wr ∧ (fz.tk l).1 = fs ++ (fz.tk l1).1 ∧ (fz.tk l).2 = (fz.tk l1).2 ∧ l1.length ≤ k ∧ fs.length + l1.length ≤ 90000000

set_option maxRecDepth 100000 in
set_option maxHeartbeats 4000000 in
/-- spec.l11Take. -/
theorem take_any (A0 : Option Addr) (cap0 : Nat) (l : List UInt8) (w : World) (ha : AtU w w.heap.size A0 l) (hc : l.length ≤ cap0) (hm : cap0 ≤ maxLen) (hn : A0 = none → l.length = 0 ∧ cap0 = 0) (hz : l.length ≤ 90000000) :
    Calls Tryd.prog 52 #[.slice A0 l.length cap0] w fun e w' => TkR l w e w' := by
  have hb0 := (Below.refl w.heap.size w).alloc (Nat.le_refl _) (.cells #[] 28)
  have H0 : Hid (TkI l w l.length A0 cap0 l (.slice (some ⟨w.heap.size, 0, none⟩) 0 0) [] (w.alloc (.cells #[] 28))) := Lib.hid ⟨ownG_empty w, ha.below hb0 (Nat.le_refl _), hc, hm, hn, hb0, rfl, rfl, Nat.le_refl _, by simpa using hz⟩
  have hcm0 : cap0 ≤ 9223372036854775807 := hm
  clear ha hm hn hz hb0
  go_enter Tryd.func52, Tryd.ntmps52
  go_wp2_with fail
  go_loopg [0, 5] l.length (fun gk bv ov wr => ∃ A cap l1 v fs, bv = .slice A l1.length cap ∧ v = ov ∧ TkI l w gk A cap l1 v fs wr)
  case atStart => exact ⟨A0, cap0, l, _, [], rfl, rfl, H0.out⟩
  case round =>
    obtain ⟨A, cap, l1, v, fs, rfl, rfl, hr⟩ := hrel
    have HR := Lib.hid hr
    have hbw := hr.2.2.2.2.2.1
    have hle := hr.2.2.1
    have hcm : cap ≤ 9223372036854775807 := hr.2.2.2.1
    have hz8 := hr.2.2.2.2.2.2.2.2.2
    have CN := next_any A cap l1 wr (hr.2.1.more hbw.size) hle hr.2.2.2.1 (by omega)
    have hws := hbw.size
    clear hr hbw
    cases hnx : fz.nx l1 with
    | need =>
      have HT : Hid ((fz.tk l).1 = fs ∧ (fz.tk l).2.1 = l1 ∧ (fz.tk l).2.2 = false) := Lib.hid (by
        obtain ⟨_, _, _, _, _, _, h1, h2, _⟩ := HR.out
        rw [fz.tk_need hnx] at h1 h2
        rw [h1, h2]
        simp)
      rw [hnx] at CN
      simp only [nxV] at CN
      have HCN := Lib.hid CN
      clear CN hnx
      go_wp2_with fail
      refine HCN.out.mono ?_
      rintro e w2 ⟨rfl, hb2⟩
      have HB2 := Lib.hid hb2
      clear hb2
      go_wp2_with fail
      go_ret3
      have hbl : Below wr.heap.size wr (w2.alloc (.cells #[.int .i64 0, .string ⟨#[]⟩] 28)) := HB2.out.alloc HB2.out.size _
      obtain ⟨h1, h2, h3, h4, h5, h6, _⟩ := HR.out
      unfold TkR
      rw [HT.out.1, HT.out.2.1, HT.out.2.2]
      exact ⟨_, _, _, rfl, own_below h1 hbl, h2.below hbl h6.size, h3, h4, h5, h6.trans (hbl.mono h6.size)⟩
    | bad =>
      have HT : Hid ((fz.tk l).1 = fs ∧ (fz.tk l).2.1 = [] ∧ (fz.tk l).2.2 = true) := Lib.hid (by
        obtain ⟨_, _, _, _, _, _, h1, h2, _⟩ := HR.out
        rw [fz.tk_bad hnx] at h1 h2
        rw [h1, h2]
        simp)
      rw [hnx] at CN
      simp only [nxV] at CN
      have HCN := Lib.hid CN
      clear CN hnx
      go_wp2_with fail
      refine HCN.out.mono ?_
      rintro e w2 ⟨rfl, hb2⟩
      have HB2 := Lib.hid hb2
      clear hb2
      go_wp2_with fail
      go_ret3
      have hbl : Below wr.heap.size wr (w2.alloc (.cells #[.int .i64 0, .string ⟨#[]⟩] 28)) := HB2.out.alloc HB2.out.size _
      obtain ⟨h1, h2, h3, h4, h5, h6, _⟩ := HR.out
      unfold TkR
      rw [HT.out.1, HT.out.2.1, HT.out.2.2]
      exact ⟨_, none, 0, rfl, own_below h1 hbl, fun h => by simp at h, Nat.zero_le _, Nat.zero_le _, fun _ => ⟨rfl, rfl⟩, h6.trans (hbl.mono h6.size)⟩
    | got f n =>
      obtain ⟨_, hn2, hn3, _, hn5, hfok⟩ := fz.nx_got_facts hnx
      have HT : Hid ((fz.tk l).1 = (fs ++ [f]) ++ (fz.tk (l1.drop n)).1 ∧ (fz.tk l).2 = (fz.tk (l1.drop n)).2) := Lib.hid (by
        obtain ⟨_, _, _, _, _, _, h1, h2, _⟩ := HR.out
        rw [fz.tk_got hnx] at h1 h2
        rw [h1, h2]
        simp)
      rw [hnx] at CN
      simp only [nxV] at CN
      obtain ⟨b, o, rfl, hb, hcell⟩ := HR.out.2.1 (by omega)
      obtain ⟨o', ks1, ks2, ho'⟩ := sb_l2 b o l1.length cap n hn5 hle
      have t0 : ((n : Int) == 0) = false := by rw [beq_eq_false_iff_ne]; omega
      have t1 : ¬ (n : Int) < 0 := by omega
      have hAT : ∀ wd, Below w.heap.size wr wd → AtU wd w.heap.size (some ⟨b, o', none⟩) (l1.drop n) := fun wd hd hp => by
        rw [List.length_drop] at hp
        refine ⟨b, o', rfl, hb, fun i hi => ?_⟩
        rw [List.length_drop] at hi
        rw [ho' (by omega), Nat.add_assoc]
        refine ((hd.cell (p := ⟨b, o + (n + i), none⟩) hb).trans (hcell (n + i) (by omega))).trans ?_
        simp [List.getD, List.getElem?_drop]
      have HAT := Lib.hid hAT
      have HCN := Lib.hid CN
      have HN5 := Lib.hid (show 1 ≤ n ∧ n ≤ l1.length from ⟨by omega, hn5⟩)
      obtain ⟨i, hi, hsz, hby, hzz⟩ := i_fr
      obtain ⟨ft, fss⟩ := f
      clear CN hnx hcell ho' hAT hn2 hn3 hn5 hfok
      go_wp2_with fail
      refine HCN.out.mono ?_
      rintro e w2 ⟨rfl, hb2⟩
      have HB2 := Lib.hid hb2
      have hown2 := own_below (HR.out).1 hb2
      have HOW2 := Lib.hid hown2
      have hs2 := hb2.size
      clear hb2 hown2
      have HB4 : Hid (Below wr.heap.size wr ((w2.alloc (.cells #[.int .i64 ft, .string fss] 28)).alloc (.cells #[.int .i64 ft, .string fss] 28))) := Lib.hid ((HB2.out.alloc HB2.out.size _).alloc (Nat.le_trans HB2.out.size (by simp)) _)
      have HOW4 : Hid (((w2.alloc (.cells #[.int .i64 ft, .string fss] 28)).alloc (.cells #[.int .i64 ft, .string fss] 28)).ownsRow w.heap.size 28 2 v fs.length (fcs fs)) := Lib.hid (own_below HOW2.out (((Below.refl _ _).alloc (Nat.le_refl _) _).alloc (by simp) _))
      go_wp2_with (refine wpList_append_lies _ (by rfl) _ _ _ (by rfl) w.heap.size 28 i _ 2 24 (by kernel_rfl) hi hzz hsz hby rfl (by omega) v fs.length (fcs fs) (by rfl) HOW4.out ⟨w2.heap.size + 1, 0, none⟩ 1 1 [.int .i64 ft, .string fss] (by rfl) (by rfl) (World.news_of_block (cs := #[.int .i64 ft, .string fss]) (t := 28) (fr := (0, 0)) (by simpa using heap_alloc_new (w2.alloc (.cells #[.int .i64 ft, .string fss] 28)) _)) (by simp [Value.oneCell']) (by omega) (by unfold maxLen; omega) (by omega) (by simp; omega) _ rfl ?_; intro g cap4 w4 hown4 hgrow hat hlt4)
      have HFIN : Hid (TkI l w (gk - 1) (some ⟨b, o', none⟩) (cap - n) (l1.drop n) (.slice (some ⟨g, 0, none⟩) (fs.length + 1) cap4) (fs ++ [⟨ft, fss⟩]) w4 ∧ gk - 1 < gk) := Lib.hid (by
        obtain ⟨h1, h2, h3, h4, h5, h6, h7, h8, h9, h10⟩ := HR.out
        have hn5 := HN5.out
        have hbel : Below w.heap.size wr w4 := (HB4.out.mono h6.size).grown hgrow (Nat.le_trans h6.size HB4.out.size) fun k hk => (World.ownsRow.lt HOW4.out k hk).1
        have hll : (l1.drop n).length = l1.length - n := List.length_drop
        refine ⟨⟨?_, HAT.out w4 hbel, by omega, by unfold maxLen at h4 ⊢; omega, fun h => (by cases h), h6.trans hbel, HT.out.1, HT.out.2, by omega, by rw [List.length_append, hll]; simp; omega⟩, by omega⟩
        unfold OwnG
        rw [List.length_append, fcs_app]
        exact hown4)
      clear hown4 hgrow hat hlt4
      go_wp2_with fail
      go_roundg (gk - 1)
      case measure => exact HFIN.out.2
      case rel => exact ⟨_, _, _, _, _, by rw [List.length_drop], rfl, HFIN.out.1⟩
end Go.Proofs.YtdpmjpjbcpdgnaaDoor
