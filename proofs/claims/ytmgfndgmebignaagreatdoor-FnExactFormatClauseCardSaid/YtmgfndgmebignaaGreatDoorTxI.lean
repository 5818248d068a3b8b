/- impl.termWriter: writeTerm, writeList, writeParts. Condition: the nodes lie in memory below the writer and are well-formed; the table of powers of ten in its variable. -/
import Derived.Test.YtmgfndgmebignaaGreatDoorProg
import Derived.Test.YtmgfndgmebignaaGreatDoorTxW
import Derived.Test.YtmgfndgmebignaaGreatDoorAll
namespace Go.Proofs.YtmgfndgmebignaaGreatDoor
open Go.RowKit

theorem TW.step1 {mb g cap : Nat} {bs : List UInt8} {c : UInt8} {x : Int} {w w6 : World} {tv : Value} (hq : Blk w mb 74 #[tv, fW mb]) (ho : w.ownsRow (mb + 1) 5 1 tv bs.length (Lib.byteCells bs)) (hc : (c.toNat : Int) = x)
    (hg : (w.alloc (.cells #[.int .u8 x] 5)).grownBy w6 tv.ownBlock) (ho6 : w6.ownsRow (mb + 1) 5 1 (.slice (some ⟨g, 0, none⟩) (bs.length + 1) cap) (bs.length + 1) (Lib.byteCells bs ++ [.int .u8 x])) :
    TW mb (bs ++ [c]) (w6.setCell ⟨mb, 0, none⟩ (.slice (some ⟨g, 0, none⟩) (bs.length + 1) cap)) ∧ TF mb w (w6.setCell ⟨mb, 0, none⟩ (.slice (some ⟨g, 0, none⟩) (bs.length + 1) cap)) ∧ Blk w6 mb 74 #[tv, fW mb] :=
  TW.step (add := [c]) hq ho ((Below.refl _ _).alloc (Nat.le_refl _) _) hg (by
    have e : Lib.byteCells [c] = [.int .u8 x] := by rw [← hc]; rfl
    rw [e]; exact ho6)
/-- Blocks that a writer leaves: below it, and rows of nodes. -/
def Kp (mb : Nat) (w : World) (g : Nat) : Prop := g < mb ∨ (g ≠ mb ∧ ∃ cs fr, w.heap[g]? = some (.cells cs 105 fr))
theorem Kp.keep {mb g : Nat} {w w' : World} (h : Kp mb w g) (ht : TF mb w w') : Kp mb w' g ∧ ∀ j, w'.cell? ⟨g, j, none⟩ = w.cell? ⟨g, j, none⟩ := by
  rcases h with h | ⟨h, cs, fr, hb⟩
  · exact ⟨.inl h, fun j => ht.1.cell (p := ⟨g, j, none⟩) h⟩
  · have h2 := ht.2 g _ hb (by simpa using h) (fun c fz e => by injection e with _ e2 _; exact absurd e2 (by decide))
    exact ⟨.inr ⟨h, cs, fr, h2⟩, fun j => World.cell?_of_block (h2.trans hb.symm)⟩
/-- A row of nodes that is written. -/
def PR (w : World) (lo hi mb : Nat) (F : Fr) (A : Option Addr) (cap : Nat) : Prop :=
  F.len ≤ cap ∧ cap ≤ maxLen ∧ (0 < F.len → ∃ g, A = some ⟨g, 0, none⟩ ∧ Kp mb w g ∧ ∀ j k n s kids rest, F.drop j = .cons k n s kids rest → ∃ v, w.cell? ⟨g, j, none⟩ = some v ∧ NdV w lo hi k n s kids v)
theorem PR.keep {w w' : World} {lo hi mb : Nat} {F : Fr} {A : Option Addr} {cap : Nat} (h : PR w lo hi mb F A cap) (hh : hi ≤ mb) (ht : TF mb w w') : PR w' lo hi mb F A cap := by
  refine ⟨h.1, h.2.1, fun hp => ?_⟩
  obtain ⟨g, e, hk, hall⟩ := h.2.2 hp
  refine ⟨g, e, (hk.keep ht).1, fun j k n s kids rest hd => ?_⟩
  obtain ⟨v, hc, hv⟩ := hall j k n s kids rest hd
  exact ⟨v, ((hk.keep ht).2 j).trans hc, hv.keep (fun p _ hp => ht.1.cell (by omega)) (Nat.le_refl _) (Nat.le_refl _)⟩
theorem PR.old {w : World} {lo hi mb : Nat} {f : Fr} {A : Option Addr} {cap : Nat} (h : NdS w lo hi f A cap) (hh : hi ≤ mb) : PR w lo hi mb f A cap := by
  refine ⟨h.1, h.2.1, fun hp => ?_⟩
  obtain ⟨b, e, hl, hb, hrow⟩ := h.2.2 hp
  refine ⟨b, e, .inl (by omega), fun j k n s kids rest hd => ?_⟩
  obtain ⟨v, hc, hv⟩ := hrow.elem hd
  rw [Nat.zero_add] at hc
  exact ⟨v, hc, hv⟩
theorem ndesc_at {w : World} {lo hi : Nat} : ∀ (F : Fr) (xs : List Value), NDesc w lo hi F xs → ∀ j k n s kids rest, F.drop j = .cons k n s kids rest → ∃ v, xs[j]? = some v ∧ NdV w lo hi k n s kids v
  | .nil, xs, _, j, k, n, s, kids, rest, hd => by cases j <;> cases hd
  | .cons k' n' s' kids' rest', xs, h, 0, k, n, s, kids, rest, hd => by
    obtain ⟨x, ys, rfl, hx, _⟩ := h
    injection hd with h1 h2 h3 h4 h5
    subst h1 h2 h3 h4
    exact ⟨x, rfl, hx⟩
  | .cons k' n' s' kids' rest', xs, h, j + 1, k, n, s, kids, rest, hd => by
    obtain ⟨x, ys, rfl, _, h2⟩ := h
    obtain ⟨v, hv, hn⟩ := ndesc_at rest' ys h2 j k n s kids rest hd
    exact ⟨v, by simpa using hv, hn⟩
theorem PR.new {w w' : World} {lo hi mb : Nat} {F : Fr} {v : Value} {xs : List Value} (h : w'.ownsRow w.heap.size 105 1 v F.len xs) (hD : NDesc w lo hi F xs) (hb : Below w.heap.size w w') (hh : hi ≤ mb) (hm : mb < w.heap.size) : ∃ A cap, v = .slice A F.len cap ∧ PR w' lo hi mb F A cap := by
  rcases h.2 with ⟨rfl, h0⟩ | ⟨g, cap, cur, rfl, hbg, hg, hnc, hcm, hcs, htake⟩
  · exact ⟨none, 0, by rw [h0], by omega, Nat.zero_le _, fun hp => by omega⟩
  · refine ⟨some ⟨g, 0, none⟩, cap, rfl, hnc, hcm, fun _ => ⟨g, rfl, .inr ⟨by omega, _, _, hg⟩, fun j k n s kids rest hd => ?_⟩⟩
    obtain ⟨u, hu, hn⟩ := ndesc_at F xs hD j k n s kids rest hd
    refine ⟨u, ?_, hn.keep (fun p _ hp => hb.cell (by omega)) (Nat.le_refl _) (Nat.le_refl _)⟩
    have h3 := World.ownsRow.cells h (g := g) rfl j u hu
    have e : (⟨g, 0, none⟩ : Addr).add j = ⟨g, j, none⟩ := by unfold Addr.add; split <;> simp_all
    rwa [e] at h3
/-- What is still to be written of a row, from element j on. -/
def remB (j : Nat) (f : Fr) : List UInt8 := if j = 0 then (match txs f with | [] => [] | t :: ts => t ++ ts.flatMap (fun x => 44 :: x)) else (txs f).flatMap (fun x => 44 :: x)
theorem remB_zero (k n : Int) (s : ByteArray) (kids rest : Fr) : remB 0 (.cons k n s kids rest) = txT k n s kids ++ remB 1 rest := by
  unfold remB
  rw [if_pos rfl, if_neg (by decide), txs_cons]
theorem remB_step (j : Nat) (hj : j ≠ 0) (k n : Int) (s : ByteArray) (kids rest : Fr) : remB j (.cons k n s kids rest) = 44 :: (txT k n s kids ++ remB (j + 1) rest) := by
  unfold remB
  rw [if_neg hj, if_neg (by omega), txs_cons, List.flatMap_cons]
  rfl
theorem remB_nil (j : Nat) : remB j .nil = [] := by unfold remB; split <;> rfl
theorem moreB_rem (f : Fr) (h : f.len ≠ 0) : moreB 0 f = 40 :: remB 0 f := by
  cases f with
  | nil => exact absurd rfl h
  | cons k n s kids rest => rfl
theorem fr_facts (N : Nat) : ∀ (k n : Int) (s : ByteArray) (f : Fr) (d : Int), f.size ≤ N → shapeT k n s f d = true → shapeF (fronts k s f) d = true ∧ (∀ j k' n' s' kids rest, (fronts k s f).drop j = .cons k' n' s' kids rest → kids.size < f.size) ∧ ∀ k' n' s' f', tails k n s f = .cons k' n' s' f' .nil → shapeT k' n' s' f' d = true ∧ f'.size ≤ f.size ∧ (pairB k s f.len = true → f'.size < f.size) := by
  induction N with
  | zero =>
    intro k n s f d hf hs
    have hp : pairB k s f.len = false := by
      cases f with
      | nil => unfold pairB; simp [Fr.len]
      | cons _ _ _ _ _ => simp [Fr.size] at hf
    rw [(pair_no n hp).1, (pair_no n hp).2]
    refine ⟨rfl, fun j _ _ _ _ _ h => by (cases j <;> cases h), fun k' n' s' f' h => ?_⟩
    simp only [Fr.cons.injEq, and_true] at h
    obtain ⟨rfl, rfl, rfl, rfl⟩ := h
    exact ⟨hs, Nat.le_refl _, fun e => by rw [hp] at e; cases e⟩
  | succ N ih =>
    intro k n s f d hf hs
    cases hp : pairB k s f.len
    · rw [(pair_no n hp).1, (pair_no n hp).2]
      refine ⟨rfl, fun j _ _ _ _ _ h => by (cases j <;> cases h), fun k' n' s' f' h => ?_⟩
      simp only [Fr.cons.injEq, and_true] at h
      obtain ⟨rfl, rfl, rfl, rfl⟩ := h
      exact ⟨hs, Nat.le_refl _, fun e => by cases e⟩
    · obtain ⟨k1, n1, s1, kd1, k2, n2, s2, kd2, rfl, hfr, htl⟩ := pair_yes n hp
      have hk := shapeT_kids hs
      rw [shapeF_cons, shapeF_cons, Bool.and_eq_true, Bool.and_eq_true] at hk
      have up : ∀ {k n : Int} {s : ByteArray} {f : Fr}, shapeT k n s f (d - 1) = true → shapeT k n s f d = true := fun {k n s f} h => by
        have := shapeF_mono (.cons k n s f .nil) (d - 1) d (by omega) (by rw [shapeF_cons, h]; rfl)
        rw [shapeF_cons, Bool.and_eq_true] at this
        exact this.1
      simp only [Fr.size] at hf
      obtain ⟨a1, a2, a3⟩ := ih k2 n2 s2 kd2 d (by omega) (up hk.2.1)
      rw [hfr, htl]
      refine ⟨by rw [shapeF_cons, up hk.1, a1]; rfl, fun j k' n' s' kids rest h => ?_, fun k' n' s' f' h => ?_⟩
      · cases j with
        | zero =>
          injection h with h1 h2 h3 h4 h5
          subst h4
          simp only [Fr.size]; omega
        | succ j =>
          have := a2 j k' n' s' kids rest h
          simp only [Fr.size]; omega
      · obtain ⟨b1, b2, _⟩ := a3 k' n' s' f' h
        exact ⟨b1, by simp only [Fr.size]; omega, fun _ => by simp only [Fr.size]; omega⟩

abbrev Pow10 (mb : Nat) (w : World) : Prop := Lib.TabBelow Tryz.prog mb w "internal/strconv.uint64pow10" .u64 Lib.pow10Tab
def TwC (s : ByteArray) (f : Fr) : Prop := ∀ (k n d : Int) (v : Value) (lo hi mb : Nat) (bs : List UInt8) (w : World), shapeT k n s f d = true → NdV w lo hi k n s f v → hi ≤ mb → TW mb bs w → bs.length + (txT k n s f).length ≤ 1073741824 → Pow10 mb w → nodes f ≤ 1048576 →
  Calls Tryz.prog 90 #[.pointer (some ⟨mb, 0, none⟩), v] w fun e w' => e = .returned (.tuple #[]) ∧ TW mb (bs ++ txT k n s f) w' ∧ TF mb w w'

set_option maxRecDepth 100000 in
set_option maxHeartbeats 4000000 in
/-- termWriter.writeParts. -/
theorem parts_of (F : Fr) (h : ∀ j k n s kids rest, F.drop j = .cons k n s kids rest → TwC s kids) (d : Int) (A : Option Addr) (cap lo hi mb : Nat) (bs : List UInt8) (w : World) (hs : shapeF F d = true) (hp : PR w lo hi mb F A cap) (hh : hi ≤ mb) (hw : TW mb bs w) (hl : bs.length + (remB 0 F).length ≤ 1073741824) (ht : Pow10 mb w) (hnd : nodes F ≤ 1048576) :
    Calls Tryz.prog 118 #[.pointer (some ⟨mb, 0, none⟩), .slice A F.len cap] w fun e w' => e = .returned (.tuple #[]) ∧ TW mb (bs ++ remB 0 F) w' ∧ TF mb w w' := by
  have hlen : F.len ≤ 1048576 := by have := len_le_nodes F; omega
  obtain ⟨i0, hi0, hz0, hz1, hz2⟩ := info_parts infoU8
  have HP := Lib.hid hp
  have HH := Lib.hid h
  have HS := Lib.hid hs
  have HHI := Lib.hid hh
  have HW := Lib.hid hw
  have HL := Lib.hid hl
  have HT := Lib.hid ht
  have HND := Lib.hid hnd
  clear h hs hp hh hw hl ht hnd
  generalize hn : F.len = len at *
  have HN := Lib.hid hn
  clear hn
  go_enter Tryz.func118, Tryz.ntmps118
  go_wp2_with fail
  go_loopw [8] (fun i wr => ∃ (j : Nat) (b2 : List UInt8), j ≤ len ∧ i = .int .i64 j ∧ TW mb b2 wr ∧ TF mb w wr ∧ b2 ++ remB j (F.drop j) = bs ++ remB 0 F) (fun i _ => len - (intOf i).toNat)
  case atStart => exact ⟨0, bs, Nat.zero_le _, rfl, HW.out, TF.refl _ _, rfl⟩
  case round =>
    obtain ⟨j, b2, hj, rfl, hw, htf, hb⟩ := hrel
    by_cases hlt : j < len
    · obtain ⟨kk, nn, ss, kids, hd⟩ := Fr.drop_cons j F (by rw [HN.out]; exact hlt)
      have hp := HP.out.keep HHI.out htf
      obtain ⟨g, rfl, hkp, hall⟩ := hp.2.2 (by rw [HN.out]; omega)
      obtain ⟨gv, hc, hv⟩ := hall j _ _ _ _ _ hd
      have hsh := shape_drop F j d hd HS.out
      have C := HH.out j _ _ _ _ _ hd
      rw [hd] at hb
      obtain ⟨tv, hq, ho⟩ := hw
      obtain ⟨A0, c0, rfl, hc1, hc2⟩ := row_form ho
      have y0 := hq.cell 0
      have y1 := hq.cell 1
      have yf := hq.frozen 0
      simp only [List.getElem?_toArray, List.getElem?_cons_zero, List.getElem?_cons_succ] at y0 y1
      unfold fW at y1
      have hmw := hq.lt
      have hndk : nodes kids ≤ 1048576 := Nat.le_trans (nodes_drop_elem j F hd) HND.out
      have HBB := Lib.hid hb
      have HTF := Lib.hid htf
      have HV := Lib.hid hv
      have HSH := Lib.hid hsh
      have HC := Lib.hid C
      have HO := Lib.hid ho
      have HQ := Lib.hid hq
      have HNK := Lib.hid hndk
      obtain ⟨T0, x0, rfl⟩ := hv.iface
      have hbl := congrArg List.length hb
      clear hb htf hv hsh C ho hq hall hkp hp hndk hd
      have hBL := HL.out
      by_cases hj0 : j = 0
      · subst hj0
        have hstep : b2 ++ (txT kk nn ss kids ++ remB 1 (F.drop 1)) = bs ++ remB 0 F := by have := HBB.out; rwa [remB_zero] at this
        have HST := Lib.hid hstep
        have hll : b2.length + (txT kk nn ss kids).length ≤ 1073741824 := by have := congrArg List.length hstep; simp only [List.length_append] at this; omega
        have C2 := HC.out kk nn d (.iface T0 x0) lo hi mb b2 wr HSH.out HV.out HHI.out ⟨_, HQ.out, HO.out⟩ hll (HT.out.on HTF.out.1) HNK.out
        have H2 := Lib.hid C2
        clear C2 hstep hbl hll
        go_wp2_with fail
        refine H2.out.mono ?_
        rintro e w3 ⟨rfl, hw3, htf3⟩
        have HW3 := Lib.hid hw3
        have HTF3 := Lib.hid (HTF.out.trans htf3)
        have HE3 : Hid ((b2 ++ txT kk nn ss kids) ++ remB (0 + 1) (F.drop (0 + 1)) = bs ++ remB 0 F) := Lib.hid (by rw [List.append_assoc]; exact HST.out)
        clear hw3 htf3
        go_wp2_with fail
        go_roundw
        case rel => exact ⟨0 + 1, _, by omega, by go_num, HW3.out, HTF3.out, HE3.out⟩
        case measure => simp [intOf]; omega
      · have hstep : b2 ++ 44 :: (txT kk nn ss kids ++ remB (j + 1) (F.drop (j + 1))) = bs ++ remB 0 F := by have := HBB.out; rwa [remB_step j hj0] at this
        have HST := Lib.hid hstep
        have hll : b2.length + 1 + (txT kk nn ss kids).length ≤ 1073741824 := by have := congrArg List.length hstep; simp only [List.length_append, List.length_cons] at this; omega
        have hjp : (0 : Int) < j := by omega
        clear hstep hbl
        go_wp2_with (at_builtin; go_must (refine wpList_append_lies _ rfl _ _ _ rfl (mb + 1) 5 i0 _ 1 1 Tryz.underlying71 hi0 hz0 hz1 hz2 rfl (by omega) _ (b2).length (Lib.byteCells (b2)) rfl (HO.out.alloc _) ⟨wr.heap.size, 0, none⟩ 1 1 [.int .u8 44] rfl rfl (World.news_of_block (cs := #[.int .u8 44]) (t := 5) (fr := (0, 0)) (Blk.new wr 5 #[.int .u8 44])) (by simp [Value.oneCell']) (by omega) (by unfold maxLen; omega) (by omega) (by simp; omega) (wr.heap.size + 1) (by simp) ?_); intro g9 cap9 w9 hown9 hgrow9 _ _; have hst9 := TW.step1 (c := 44) HQ.out HO.out rfl hgrow9 hown9; have y9 := hst9.2.2.cell 0; have yf9 := hst9.2.2.frozen 0; simp only [List.getElem?_toArray, List.getElem?_cons_zero] at y9; have HS9 := Lib.hid (And.intro hst9.1 hst9.2.1); clear hown9 hgrow9 hst9; refine Hid.out ?_)
        refine Lib.hid ?_
        have HTF9 := HTF.out.trans HS9.out.2
        obtain ⟨tv9, hq9, ho9⟩ := HS9.out.1
        have C2 := HC.out kk nn d (.iface T0 x0) lo hi mb (b2 ++ [44]) _ HSH.out (HV.out.keep (fun p _ hp => HS9.out.2.1.cell (by have := HHI.out; omega)) (Nat.le_refl _) (Nat.le_refl _)) HHI.out HS9.out.1 (by simp only [List.length_append, List.length_cons, List.length_nil]; omega) (HT.out.on HTF9.1) HNK.out
        have z1 := hq9.cell 1
        simp only [List.getElem?_toArray, List.getElem?_cons_zero, List.getElem?_cons_succ] at z1
        unfold fW at z1
        have H2 := Lib.hid C2
        have HTF10 := Lib.hid HTF9
        clear C2 HTF9 hq9 ho9
        go_wp2_with fail
        refine H2.out.mono ?_
        rintro e w3 ⟨rfl, hw3, htf3⟩
        have HW3 := Lib.hid hw3
        have HTF3 := Lib.hid (HTF10.out.trans htf3)
        have HE3 : Hid ((b2 ++ [44] ++ txT kk nn ss kids) ++ remB (j + 1) (F.drop (j + 1)) = bs ++ remB 0 F) := Lib.hid (by rw [← HST.out]; simp)
        clear hw3 htf3
        go_wp2_with fail
        go_roundw
        case rel => exact ⟨j + 1, _, by omega, by go_num, HW3.out, HTF3.out, HE3.out⟩
        case measure => simp [intOf]; omega
    · obtain rfl : j = len := by omega
      have hfin : b2 = bs ++ remB 0 F := by
        have h1 := Fr.drop_len F
        rw [HN.out] at h1
        rw [← hb, h1, remB_nil, List.append_nil]
      have HFN : Hid (TW mb (bs ++ remB 0 F) wr ∧ TF mb w wr) := Lib.hid (by rw [← hfin]; exact ⟨hw, htf⟩)
      clear hw htf hb hfin
      go_wp2_with fail
      go_end0
      exact ⟨rfl, HFN.out⟩
end Go.Proofs.YtmgfndgmebignaaGreatDoor
