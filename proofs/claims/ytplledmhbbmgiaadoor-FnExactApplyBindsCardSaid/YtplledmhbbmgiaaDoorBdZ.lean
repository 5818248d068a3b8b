/- laws.szBind, szBindS, toBind, toBindS. Condition: the bindings lie in memory; no more than the law's budget. -/
import Derived.Test.YtplledmhbbmgiaaDoorProg
import Derived.Test.YtplledmhbbmgiaaDoorBd
import Derived.Test.YtplledmhbbmgiaaDoorSz
import Derived.OwnWalk
namespace Go.Proofs.YtplledmhbbmgiaaDoor
open Go.RowKit

theorem infoB : (Tryd.prog.info? 59).map (fun i => (i.zero, i.size, i.bytes)) = some (some (.agg #[.int .i64 0, .int .i64 0, .int .i64 0, .string ByteArray.empty, .slice none 0 0]), 5, 64) := by kernel_rfl

set_option maxRecDepth 100000 in
set_option maxHeartbeats 1000000 in
/-- laws.szBind. -/
theorem szB_any (n0 k n : Int) (s : ByteArray) (f : Fr) (A : Option Addr) (cap lo hi : Nat) (left : Int) (w : World) (hk : KidsAt w lo hi f A cap) (hh : hi ≤ w.heap.size) (hf : Fits k n s) (h0 : 0 ≤ left) (h1 : left ≤ 1048576) :
    Calls Tryd.prog 34 #[.agg #[.int .i64 n0, .int .i64 k, .int .i64 n, .string s, .slice A f.len cap], .int .i64 left] w fun e w' => e = .returned (.int .i64 (szT s f left)) ∧ Below w.heap.size w w' := by
  have C1 := fun w1 (hb : Below w.heap.size w w1) => szT_any s f k n A cap lo hi left w1 (hk.below hb hh) (Nat.le_trans hh hb.size) hf h0 h1
  have hr := szT_range s f left h0
  have hb0 : Below w.heap.size w (w.alloc (.cells #[.int .i64 n0, .int .i64 k, .int .i64 n, .string s, .slice A f.len cap] 57)) := (Below.refl _ _).alloc (Nat.le_refl _) _
  generalize szT s f left = r at *
  have r1 := hr.1
  have r2 := hr.2.1
  have H1 := Lib.hid C1
  have HB0 := Lib.hid hb0
  clear C1 hk hf hr hb0
  by_cases hneg : r < 0
  · have hr1 : r = -1 := by omega
    subst hr1
    go_enter Tryd.func34, Tryd.ntmps34
    go_wp2_with fail
    refine (H1.out _ HB0.out).mono ?_
    rintro e w2 ⟨rfl, hb⟩
    have HB := Lib.hid (HB0.out.trans (hb.mono HB0.out.size))
    clear hb
    go_wp2_with fail
    go_ret
    exact ⟨rfl, HB.out⟩
  · go_enter Tryd.func34, Tryd.ntmps34
    go_wp2_with fail
    refine (H1.out _ HB0.out).mono ?_
    rintro e w2 ⟨rfl, hb⟩
    have HB := Lib.hid (HB0.out.trans (hb.mono HB0.out.size))
    clear hb
    go_wp2_with fail
    go_ret
    exact ⟨rfl, HB.out⟩

set_option maxRecDepth 100000 in
set_option maxHeartbeats 2000000 in
/-- laws.szBindS. -/
theorem szBS_any (ns : List Int) (f : Fr) (A : Option Addr) (cap lo hi : Nat) (left : Int) (w : World) (hk : BdS w lo hi ns f A cap) (hh : hi ≤ w.heap.size) (h0 : 0 ≤ left) (h1 : left ≤ 1048576) :
    Calls Tryd.prog 13 #[.slice A f.len cap, .int .i64 left] w fun e w' => e = .returned (.int .i64 (szS f left)) ∧ Below w.heap.size w w' := by
  have HK := Lib.hid hk
  have HHI := Lib.hid hh
  have hl := hk.2.1
  have hm := hk.2.2.1
  unfold maxLen at hm
  clear hk hh
  by_cases hneg : left - f.len < 0
  · have HV : Hid (szS f left = -1) := Lib.hid (by unfold szS; rw [if_pos hneg])
    generalize f.len = len at *
    go_enter Tryd.func13, Tryd.ntmps13
    go_wp2_with fail
    go_ret
    rw [HV.out]
    exact ⟨rfl, Below.refl _ _⟩
  · have HV : Hid (szS f left = szF f (left - f.len)) := Lib.hid (by unfold szS; rw [if_neg hneg])
    generalize hn : f.len = len at *
    have HN := Lib.hid hn
    clear hn
    go_enter Tryd.func13, Tryd.ntmps13
    go_wp2_with fail
    go_loopw [1, 5] (fun l i wr => ∃ (k : Nat) (z : Int), k ≤ len ∧ i = .int .i64 k ∧ l = .int .i64 z ∧ 0 ≤ z ∧ z ≤ 1048576 ∧ szF (f.drop k) z = szF f (left - len) ∧ Below w.heap.size w wr) (fun _ i _ => len - (intOf i).toNat)
    case atStart => exact ⟨0, _, Nat.zero_le _, rfl, rfl, by omega, by omega, rfl, Below.refl _ _⟩
    case round =>
      obtain ⟨k, z, hk, rfl, rfl, hz0, hz1, hsz, hb⟩ := hrel
      by_cases hlt : k < len
      · obtain ⟨kk, nn, s, kids, hd⟩ := Fr.drop_cons k f (by rw [HN.out]; exact hlt)
        obtain ⟨b, o, rfl, hlb, hbb, hrow⟩ := HK.out.2.2.2 (by rw [HN.out]; omega)
        obtain ⟨hi0, hfit, A', cap', c0, c1, c2, c3, c4, hkid⟩ := BdAt.elem k ns f b o hrow hd
        rw [hd, szF_cons] at hsz
        have hlo : (⟨b, o, none⟩ : Addr).block < w.heap.size := Nat.lt_of_lt_of_le hbb HHI.out
        have k0 := (hb.cell (p := ⟨b, o + k * 5, none⟩) hlo).trans c0
        have k1 := (hb.cell (p := ⟨b, o + k * 5 + 1, none⟩) hlo).trans c1
        have k2 := (hb.cell (p := ⟨b, o + k * 5 + 2, none⟩) hlo).trans c2
        have k3 := (hb.cell (p := ⟨b, o + k * 5 + 3, none⟩) hlo).trans c3
        have k4 := (hb.cell (p := ⟨b, o + k * 5 + 4, none⟩) hlo).trans c4
        have C1 := szB_any (ns.getD k 0) kk nn s kids A' cap' lo hi z wr (hkid.below hb HHI.out) (Nat.le_trans HHI.out hb.size) hfit hz0 hz1
        have hr := szT_range s kids z hz0
        generalize szT s kids z = r at *
        generalize ns.getD k 0 = n0 at *
        have H1 := Lib.hid C1
        have HB := Lib.hid hb
        have HS := Lib.hid hsz
        have r1 := hr.1
        have r2 := hr.2.1
        clear C1 hb hsz hr c0 c1 c2 c3 c4 hkid hrow hfit hd hlo hi0
        generalize kids.len = kl at *
        by_cases hz : r < 0
        · have HE : Hid (szF f (left - len) = -1) := Lib.hid (by rw [← HS.out, if_pos hz])
          go_wp2_with fail
          refine H1.out.mono ?_
          rintro e w' ⟨rfl, hb2⟩
          have HB2 := Lib.hid hb2
          clear hb2
          go_wp2_with fail
          go_ret
          rw [HV.out, HE.out]
          exact ⟨rfl, HB.out.trans (HB2.out.mono HB.out.size)⟩
        · have HE : Hid (szF (f.drop (k + 1)) r = szF f (left - len)) := Lib.hid (by rw [← HS.out, if_neg hz])
          go_wp2_with fail
          refine H1.out.mono ?_
          rintro e w' ⟨rfl, hb2⟩
          have HB2 := Lib.hid hb2
          clear hb2
          go_wp2_with fail
          go_roundw
          case rel => exact ⟨k + 1, r, by omega, by go_num, rfl, by omega, by omega, HE.out, HB.out.trans (HB2.out.mono HB.out.size)⟩
          case measure => simp [intOf]; omega
      · obtain rfl : k = len := by omega
        have HE : Hid (szF f (left - k) = z) := Lib.hid (by
          have h1 := Fr.drop_len f
          rw [HN.out] at h1
          rw [← hsz, h1]; rfl)
        have HB := Lib.hid hb
        clear hb hsz
        go_wp2_with fail
        go_ret
        rw [HV.out, HE.out]
        exact ⟨rfl, HB.out⟩

theorem set5 {w : World} {g : Nat} {t : TypeId} {x0 x1 x2 x3 x4 : Value} (h : Blk w g t #[x0, x1, x2, x3, x4]) (a b c d e : Value) : Blk (((((w.setCell ⟨g, 0, none⟩ a).setCell ⟨g, 1, none⟩ b).setCell ⟨g, 2, none⟩ c).setCell ⟨g, 3, none⟩ d).setCell ⟨g, 4, none⟩ e) g t #[a, b, c, d, e] := ((((h.set_ 0 a).set_ 1 b).set_ 2 c).set_ 3 d).set_ 4 e
theorem cells5i {w : World} {g : Nat} {t : TypeId} {a b c d e : Value} (h : Blk w g t #[a, b, c, d, e]) :
    w.cell? ⟨g, 0, none⟩ = some a ∧ w.cell? ⟨g, 1, none⟩ = some b ∧ w.cell? ⟨g, 2, none⟩ = some c ∧ w.cell? ⟨g, 3, none⟩ = some d ∧ w.cell? ⟨g, 4, none⟩ = some e := ⟨h.cell 0, h.cell 1, h.cell 2, h.cell 3, h.cell 4⟩
theorem frozen5 {w : World} {g : Nat} {t : TypeId} {cs : Array Value} (h : Blk w g t cs) :
    w.frozen? ⟨g, 0, none⟩ = false ∧ w.frozen? ⟨g, 1, none⟩ = false ∧ w.frozen? ⟨g, 2, none⟩ = false ∧ w.frozen? ⟨g, 3, none⟩ = false ∧ w.frozen? ⟨g, 4, none⟩ = false := ⟨h.frozen 0, h.frozen 1, h.frozen 2, h.frozen 3, h.frozen 4⟩

set_option maxRecDepth 100000 in
set_option maxHeartbeats 2000000 in
/-- laws.toBind. -/
theorem toB_any (n0 k n : Int) (s : ByteArray) (f : Fr) (A : Option Addr) (cap lo hi : Nat) (w : World) (hk : KidsAt w lo hi f A cap) (hh : hi ≤ w.heap.size) (hwt : f.len + wt f ≤ 1048576) :
    Calls Tryd.prog 36 #[.agg #[.int .i64 n0, .int .i64 k, .int .i64 n, .string s, .slice A f.len cap]] w fun e w' => ∃ A2 cap2, e = .returned (.agg #[.int .i64 n0, .int .i64 k, .int .i64 n, .string s, .slice A2 f.len cap2]) ∧ Made w f A2 cap2 w' := by
  have C1 := fun w1 (hb : Below w.heap.size w w1) => toT_any k n s f A cap lo hi w1 (hk.below hb hh) (Nat.le_trans hh hb.size) hwt
  have H1 := Lib.hid C1
  clear C1 hk hh hwt
  go_enter Tryd.func36, Tryd.ntmps36
  go_wp2_with fail
  refine (H1.out _ ?below).mono ?_
  case below => exact (((Below.refl _ _).alloc (Nat.le_refl _) _).alloc (by simp) _).alloc (by simp; omega) _
  rintro e w2 ⟨A2, cap2, rfl, hm⟩
  have hb0 : Below w.heap.size w (((w.alloc (.cells #[.int .i64 n0, .int .i64 k, .int .i64 n, .string s, .slice A f.len cap] 57)).alloc (.cells #[.int .i64 0, .int .i64 0, .int .i64 0, .string ⟨#[]⟩, .slice none 0 0] 59)).alloc (.cells #[.int .i64 n0, .int .i64 0, .int .i64 0, .string ⟨#[]⟩, .slice none 0 0] 59)) :=
    (((Below.refl _ _).alloc (Nat.le_refl _) _).alloc (by simp) _).alloc (by simp; omega) _
  have b1 : Blk (((w.alloc (.cells #[.int .i64 n0, .int .i64 k, .int .i64 n, .string s, .slice A f.len cap] 57)).alloc (.cells #[.int .i64 0, .int .i64 0, .int .i64 0, .string ⟨#[]⟩, .slice none 0 0] 59)).alloc (.cells #[.int .i64 n0, .int .i64 0, .int .i64 0, .string ⟨#[]⟩, .slice none 0 0] 59)) (w.heap.size + 1) 59 #[.int .i64 0, .int .i64 0, .int .i64 0, .string ⟨#[]⟩, .slice none 0 0] := by
    have h := (Blk.new (w.alloc (.cells #[.int .i64 n0, .int .i64 k, .int .i64 n, .string s, .slice A f.len cap] 57)) 59 #[.int .i64 0, .int .i64 0, .int .i64 0, .string ⟨#[]⟩, .slice none 0 0]).alloc (.cells #[.int .i64 n0, .int .i64 0, .int .i64 0, .string ⟨#[]⟩, .slice none 0 0] 59)
    simpa using h
  have b2 : Blk (((w.alloc (.cells #[.int .i64 n0, .int .i64 k, .int .i64 n, .string s, .slice A f.len cap] 57)).alloc (.cells #[.int .i64 0, .int .i64 0, .int .i64 0, .string ⟨#[]⟩, .slice none 0 0] 59)).alloc (.cells #[.int .i64 n0, .int .i64 0, .int .i64 0, .string ⟨#[]⟩, .slice none 0 0] 59)) (w.heap.size + 1 + 1) 59 #[.int .i64 n0, .int .i64 0, .int .i64 0, .string ⟨#[]⟩, .slice none 0 0] := by
    have h := Blk.new ((w.alloc (.cells #[.int .i64 n0, .int .i64 k, .int .i64 n, .string s, .slice A f.len cap] 57)).alloc (.cells #[.int .i64 0, .int .i64 0, .int .i64 0, .string ⟨#[]⟩, .slice none 0 0] 59)) 59 #[.int .i64 n0, .int .i64 0, .int .i64 0, .string ⟨#[]⟩, .slice none 0 0]
    simpa using h
  have hsz : (((w.alloc (.cells #[.int .i64 n0, .int .i64 k, .int .i64 n, .string s, .slice A f.len cap] 57)).alloc (.cells #[.int .i64 0, .int .i64 0, .int .i64 0, .string ⟨#[]⟩, .slice none 0 0] 59)).alloc (.cells #[.int .i64 n0, .int .i64 0, .int .i64 0, .string ⟨#[]⟩, .slice none 0 0] 59)).heap.size = w.heap.size + 1 + 1 + 1 := by simp
  generalize (((w.alloc (.cells #[.int .i64 n0, .int .i64 k, .int .i64 n, .string s, .slice A f.len cap] 57)).alloc (.cells #[.int .i64 0, .int .i64 0, .int .i64 0, .string ⟨#[]⟩, .slice none 0 0] 59)).alloc (.cells #[.int .i64 n0, .int .i64 0, .int .i64 0, .string ⟨#[]⟩, .slice none 0 0] 59)) = w3 at *
  have hb2 : Below w3.heap.size w3 w2 := by obtain ⟨L, _, _, _, h⟩ := hm; exact h
  have q1 := b1.below hb2 (by omega)
  have q2 := b2.below hb2 (by omega)
  obtain ⟨c0, c1, c2, c3, c4⟩ := cells5i q2
  obtain ⟨f0, f1, f2, f3, f4⟩ := frozen5 q2
  obtain ⟨d0, d1, d2, d3, d4⟩ := cells5i q1
  obtain ⟨g0, g1, g2, g3, g4⟩ := frozen5 q1
  have hl2 := hb2.size
  rw [hsz] at hl2
  have HQ1 := Lib.hid q1
  have HM := Lib.hid hm
  have HB0 := Lib.hid hb0
  have HSZ := Lib.hid hsz
  clear hm hb0 hb2 b1 b2 q1 q2 hsz
  go_wp2_with fail
  have e0 := ((((HQ1.out.far (p := ⟨w.heap.size + 1 + 1, 1, none⟩) (by simp) (.int .i64 k)).far (p := ⟨w.heap.size + 1 + 1, 2, none⟩) (by simp) (.int .i64 n)).far (p := ⟨w.heap.size + 1 + 1, 3, none⟩) (by simp) (.string s)).far (p := ⟨w.heap.size + 1 + 1, 4, none⟩) (by simp) (.slice A2 f.len cap2))
  have e1 := set5 e0 (.int .i64 n0) (.int .i64 k) (.int .i64 n) (.string s) (.slice A2 f.len cap2)
  refine bodyPost_ret (v := .agg #[.int .i64 n0, .int .i64 k, .int .i64 n, .string s, .slice A2 f.len cap2]) ?_ rfl ⟨A2, cap2, rfl, HM.out.lift HB0.out ?_ fun x hx => ?_⟩
  · exact results_cell_row Tryd.results36 _ _ (w.heap.size + 1) _ _ _ _ rfl e1 Tryd.underlying59 rfl (by kernel_rfl)
  · exact (((((((((Below.refl _ _).setCell (by simp; omega) _).setCell (by simp; omega) _).setCell (by simp; omega) _).setCell (by simp; omega) _).setCell (by simp) _).setCell (by simp) _).setCell (by simp) _).setCell (by simp) _).setCell (by simp) _
  · have := HSZ.out
    rw [heap_setCell_other _ _ _ _ (by show x ≠ w.heap.size + 1; omega), heap_setCell_other _ _ _ _ (by show x ≠ w.heap.size + 1; omega), heap_setCell_other _ _ _ _ (by show x ≠ w.heap.size + 1; omega), heap_setCell_other _ _ _ _ (by show x ≠ w.heap.size + 1; omega), heap_setCell_other _ _ _ _ (by show x ≠ w.heap.size + 1; omega), heap_setCell_other _ _ _ _ (by show x ≠ w.heap.size + 1 + 1; omega), heap_setCell_other _ _ _ _ (by show x ≠ w.heap.size + 1 + 1; omega), heap_setCell_other _ _ _ _ (by show x ≠ w.heap.size + 1 + 1; omega), heap_setCell_other _ _ _ _ (by show x ≠ w.heap.size + 1 + 1; omega)]

/-- The loop's relation: k bindings are made, in block g. -/
def PartB (w : World) (ns : List Int) (f : Fr) (g k : Nat) (wr : World) : Prop :=
  ∃ cur L, Blk wr g 59 cur ∧ cur.size = f.len * 5 ∧ OwnB wr (ns.take k) (f.take k) g 0 L ∧ L.Nodup ∧ (∀ x ∈ L, g < x ∧ x < wr.heap.size) ∧ w.heap.size ≤ g ∧ Below w.heap.size w wr
theorem PartB.below {w wr : World} {ns : List Int} {f : Fr} {g k : Nat} (h : PartB w ns f g k wr) : Below w.heap.size w wr := by
  obtain ⟨cur, L, _, _, _, _, _, _, hb⟩ := h; exact hb
/-- What the store into element k asks. -/
theorem PartB.cells {w wr w2 : World} {ns : List Int} {f : Fr} {g k : Nat} (h : PartB w ns f g k wr) (hk : k < f.len) (hb : Below wr.heap.size wr w2) (j : Nat) (hj : j < 5) :
    (∃ v, w2.cell? ⟨g, k * 5 + j, none⟩ = some v) ∧ w2.frozen? ⟨g, k * 5 + j, none⟩ = false := by
  obtain ⟨cur, L, hblk, hs, _⟩ := h
  have hb2 := hblk.below hb hblk.lt
  refine ⟨?_, hb2.frozen _⟩
  rw [hb2.cell]
  exact ⟨_, Array.getElem?_eq_getElem (by omega)⟩
theorem take_getD : ∀ (ns : List Int) (i : Nat), i < ns.length → ns.take (i + 1) = ns.take i ++ [ns.getD i 0]
  | [], _, h => absurd h (Nat.not_lt_zero _)
  | _ :: _, 0, _ => rfl
  | x :: ns, i + 1, h => by
    have := take_getD ns i (Nat.lt_of_succ_lt_succ h)
    simpa using this
/-- One binding more. -/
theorem PartB.step {w wr w2 : World} {ns : List Int} {f : Fr} {g i : Nat} {k n : Int} {s : ByteArray} {kids rest : Fr} {A : Option Addr} {cap : Nat} (h : PartB w ns f g i wr) (hns : ns.length = f.len) (hd : f.drop i = .cons k n s kids rest) (hi : i < f.len) (h0 : InI (ns.getD i 0)) (hf : Fits k n s) (hm : Made wr kids A cap w2) :
    PartB w ns f g (i + 1) (((((w2.setCell ⟨g, i * 5, none⟩ (.int .i64 (ns.getD i 0))).setCell ⟨g, i * 5 + 1, none⟩ (.int .i64 k)).setCell ⟨g, i * 5 + 2, none⟩ (.int .i64 n)).setCell ⟨g, i * 5 + 3, none⟩ (.string s)).setCell ⟨g, i * 5 + 4, none⟩ (.slice A kids.len cap)) := by
  obtain ⟨cur, L, hblk, hs, ho, hn, hL, hg, hb⟩ := h
  obtain ⟨L', ho', hn', hL', hb'⟩ := hm
  have hblk2 := hblk.below hb' hblk.lt
  have hlt := hblk.lt
  have b1 := ((((hblk2.set_ (i * 5) (.int .i64 (ns.getD i 0))).set_ (i * 5 + 1) (.int .i64 k)).set_ (i * 5 + 2) (.int .i64 n)).set_ (i * 5 + 3) (.string s)).set_ (i * 5 + 4) (.slice A kids.len cap)
  have far : ∀ x, x ≠ g → (((((w2.setCell ⟨g, i * 5, none⟩ (.int .i64 (ns.getD i 0))).setCell ⟨g, i * 5 + 1, none⟩ (.int .i64 k)).setCell ⟨g, i * 5 + 2, none⟩ (.int .i64 n)).setCell ⟨g, i * 5 + 3, none⟩ (.string s)).setCell ⟨g, i * 5 + 4, none⟩ (.slice A kids.len cap)).heap[x]? = w2.heap[x]? := fun x hx => by
    rw [heap_setCell_other _ _ _ _ (show x ≠ g from hx), heap_setCell_other _ _ _ _ (show x ≠ g from hx), heap_setCell_other _ _ _ _ (show x ≠ g from hx), heap_setCell_other _ _ _ _ (show x ≠ g from hx), heap_setCell_other _ _ _ _ (show x ≠ g from hx)]
  have hsz : (((((w2.setCell ⟨g, i * 5, none⟩ (.int .i64 (ns.getD i 0))).setCell ⟨g, i * 5 + 1, none⟩ (.int .i64 k)).setCell ⟨g, i * 5 + 2, none⟩ (.int .i64 n)).setCell ⟨g, i * 5 + 3, none⟩ (.string s)).setCell ⟨g, i * 5 + 4, none⟩ (.slice A kids.len cap)).heap.size = w2.heap.size := by simp [World.setCell]
  generalize hw3 : ((((w2.setCell ⟨g, i * 5, none⟩ (.int .i64 (ns.getD i 0))).setCell ⟨g, i * 5 + 1, none⟩ (.int .i64 k)).setCell ⟨g, i * 5 + 2, none⟩ (.int .i64 n)).setCell ⟨g, i * 5 + 3, none⟩ (.string s)).setCell ⟨g, i * 5 + 4, none⟩ (.slice A kids.len cap) = w3 at *
  have hb3 : Below w.heap.size w w3 := by
    subst hw3
    exact (((((hb.trans (hb'.mono hb.size)).setCell hg _).setCell hg _).setCell hg _).setCell hg _).setCell hg _
  have hlen : (f.take i).len = i := Fr.len_take i f (by omega)
  have htk := take_getD ns i (by omega)
  generalize ns.getD i 0 = n1 at *
  refine ⟨_, L ++ L', b1, by simpa using hs, ?_, ?_, ?_, hg, hb3⟩
  · rw [Fr.take_succ i f hd, htk]
    have own2 : OwnS w3 kids A cap L' := ho'.keep fun x hx => far x (by have := (hL' x hx).1; omega)
    refine OwnB.snoc h0 hf own2 (ns.take i) (f.take i) g 0 L ?_ ?_ ?_ ?_ ?_ ?_
    · refine OwnB.keep (ns.take i) (f.take i) g 0 L ho (fun j hj => ?_) fun x hx => ?_
      · rw [hlen] at hj
        rw [b1.cell, hblk.cell]
        simp only [Array.getElem?_setIfInBounds]
        rw [if_neg (by omega), if_neg (by omega), if_neg (by omega), if_neg (by omega), if_neg (by omega)]
      · rw [far x (by have := (hL x hx).1; omega)]
        exact hb'.block x (hL x hx).2
    all_goals
      rw [hlen, b1.cell]
      simp [Array.getElem?_setIfInBounds]
      omega
  · refine List.nodup_append.2 ⟨hn, hn', fun a ha b hb => ?_⟩
    have := (hL a ha).2
    have := (hL' b hb).1
    omega
  · intro x hx
    rw [hsz]
    rcases List.mem_append.1 hx with hx | hx
    · have := (hL x hx); have := hb'.size; omega
    · have := hL' x hx; omega
theorem PartB.start {w w1 : World} {ns : List Int} {f : Fr} {base : Nat} {xs : List Value} (hown : w1.ownsRow base 59 5 (.slice (some ⟨w.heap.size, 0, none⟩) f.len f.len) f.len xs) (hg : w.grownBy w1 none) : PartB w ns f w.heap.size 0 w1 := by
  rcases hown.2 with ⟨h', _⟩ | ⟨g', cap', cur, h', _, hb, _, _, hs, _⟩
  · simp at h'
  · simp only [Value.slice.injEq, Option.some.injEq, Addr.mk.injEq, and_true, true_and] at h'
    obtain ⟨rfl, rfl⟩ := h'
    exact ⟨cur, [], hb, hs, rfl, List.nodup_nil, fun x hx => by simp at hx, Nat.le_refl _, (Below.refl _ _).grown hg (Nat.le_refl _) (fun k hk => by cases hk)⟩
theorem PartB.done {w wr : World} {ns : List Int} {f : Fr} {g : Nat} (h : PartB w ns f g f.len wr) (hns : ns.length = f.len) (hl : f.len ≤ maxLen) : MadeB w ns f (some ⟨g, 0, none⟩) f.len wr := by
  obtain ⟨cur, L, hblk, hs, ho, hn, hL, hg, hb⟩ := h
  rw [Fr.take_len, ← hns, List.take_length] at ho
  refine ⟨g :: L, ⟨hns, Nat.le_refl _, hl, g, L, cur, rfl, rfl, hblk, hs, ho⟩, List.nodup_cons.2 ⟨fun hx => ?_, hn⟩, fun x hx => ?_, hb⟩
  · have := (hL g hx).1; omega
  · rcases List.mem_cons.1 hx with rfl | hx
    · exact ⟨hg, hblk.lt⟩
    · have := hL x hx; omega

set_option maxRecDepth 100000 in
set_option maxHeartbeats 2000000 in
/-- laws.toBindS. -/
theorem toBS_any (ns : List Int) (f : Fr) (A : Option Addr) (cap lo hi : Nat) (w : World) (hk : BdS w lo hi ns f A cap) (hh : hi ≤ w.heap.size) (hwt : f.len + wt f ≤ 1048576) :
    Calls Tryd.prog 15 #[.slice A f.len cap] w fun e w' => ∃ A2, e = .returned (.slice A2 f.len f.len) ∧ MadeB w ns f A2 f.len w' := by
  have HK := Lib.hid hk
  have HHI := Lib.hid hh
  have HWT := Lib.hid hwt
  have HNS := Lib.hid hk.1
  have hl : f.len ≤ 1048576 := by omega
  have hst := fun w1 base xs => PartB.start (w := w) (w1 := w1) (ns := ns) (f := f) (base := base) (xs := xs)
  have hfin := fun wr => PartB.done (w := w) (wr := wr) (ns := ns) (f := f) (g := w.heap.size)
  have HST := Lib.hid hst
  have HFIN := Lib.hid hfin
  clear hk hh hwt hst hfin
  generalize hn : f.len = len at *
  have HN := Lib.hid hn
  clear hn
  obtain ⟨i0, hi0, hz0, hz1, hz2⟩ := info_parts infoB
  go_enter Tryd.func15, Tryd.ntmps15
  go_wp2_with (at_make; go_must (refine wpList_make_full _ rfl _ _ 37 rfl w.heap.size 59 i0 _ 5 Tryd.underlying37 hi0 hz0 hz1 .i64 .i64 _ _ len rfl rfl rfl rfl (by rw [hz2]; omega) (by unfold maxLen; omega) (Nat.le_refl _) ?_); intro w1 hown hgrow)
  have hp0 := HST.out _ _ _ hown hgrow
  have HP0 := Lib.hid hp0
  clear hp0 hown hgrow HST hi0 hz0 hz1 hz2
  go_loopw [4] (fun i wr => ∃ (k : Nat), k ≤ len ∧ i = .int .i64 k ∧ PartB w ns f w.heap.size k wr) (fun i _ => len - (intOf i).toNat)
  case atStart => exact ⟨0, Nat.zero_le _, rfl, HP0.out⟩
  case round =>
    obtain ⟨k, hk, rfl, hpart⟩ := hrel
    have HPT := Lib.hid hpart
    clear hpart
    by_cases hlt : k < len
    · have hltf : k < f.len := by rw [HN.out]; exact hlt
      obtain ⟨kk, nn, s, kids, hd⟩ := Fr.drop_cons k f hltf
      obtain ⟨b, o, rfl, hlb, hbb, hrow⟩ := HK.out.2.2.2 (by rw [HN.out]; omega)
      obtain ⟨hi0, hfit, A', cap', c0, c1, c2, c3, c4, hkid⟩ := BdAt.elem k ns f b o hrow hd
      have hb := HPT.out.below
      have hlo : (⟨b, o, none⟩ : Addr).block < w.heap.size := Nat.lt_of_lt_of_le hbb HHI.out
      have k0 := (hb.cell (p := ⟨b, o + k * 5, none⟩) hlo).trans c0
      have k1 := (hb.cell (p := ⟨b, o + k * 5 + 1, none⟩) hlo).trans c1
      have k2 := (hb.cell (p := ⟨b, o + k * 5 + 2, none⟩) hlo).trans c2
      have k3 := (hb.cell (p := ⟨b, o + k * 5 + 3, none⟩) hlo).trans c3
      have k4 := (hb.cell (p := ⟨b, o + k * 5 + 4, none⟩) hlo).trans c4
      have hwe := wt_elem k f hd
      have C1 := toB_any (ns.getD k 0) kk nn s kids A' cap' lo hi wr (hkid.below hb HHI.out) (Nat.le_trans HHI.out hb.size) (by have := HWT.out; omega)
      have cellsOf := fun w2 (hb : Below wr.heap.size wr w2) j hj => HPT.out.cells hltf hb j hj
      have stepOf := fun A cap w2 (hm : Made wr kids A cap w2) => HPT.out.step (HNS.out.trans HN.out.symm) hd hltf hi0 hfit hm
      generalize ns.getD k 0 = n0 at *
      have H1 := Lib.hid C1
      have HC := Lib.hid cellsOf
      have HS := Lib.hid stepOf
      clear C1 hb c0 c1 c2 c3 c4 hkid hrow hfit hd hlo hwe cellsOf stepOf hltf hi0
      go_wp2_with fail
      refine H1.out.mono ?_
      rintro e w2 ⟨A2, cap2, rfl, hm⟩
      have hb2 : Below wr.heap.size wr w2 := by obtain ⟨L, _, _, _, h⟩ := hm; exact h
      obtain ⟨⟨v0, d0⟩, f0⟩ := HC.out w2 hb2 0 (by omega)
      obtain ⟨⟨v1, d1⟩, f1⟩ := HC.out w2 hb2 1 (by omega)
      obtain ⟨⟨v2, d2⟩, f2⟩ := HC.out w2 hb2 2 (by omega)
      obtain ⟨⟨v3, d3⟩, f3⟩ := HC.out w2 hb2 3 (by omega)
      obtain ⟨⟨v4, d4⟩, f4⟩ := HC.out w2 hb2 4 (by omega)
      rw [Nat.add_zero] at d0 f0
      have hstep := HS.out A2 cap2 w2 hm
      have HST := Lib.hid hstep
      clear hm hb2 hstep k0 k1 k2 k3 k4
      go_wp2_with fail
      go_roundw
      case rel => exact ⟨k + 1, by omega, by go_num, HST.out⟩
      case measure => simp [intOf]; omega
    · obtain rfl : k = len := by omega
      have hfin := HFIN.out wr HPT.out HNS.out (by unfold maxLen; omega)
      have HF := Lib.hid hfin
      clear hfin
      go_wp2_with fail
      go_ret
      exact ⟨_, rfl, HF.out⟩

end Go.Proofs.YtplledmhbbmgiaaDoor
