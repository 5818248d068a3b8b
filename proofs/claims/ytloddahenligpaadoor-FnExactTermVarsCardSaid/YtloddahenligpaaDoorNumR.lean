/- impl's renumber and TermVars. Condition: the nodes lie in memory and are well-formed. -/
import Derived.Test.YtloddahenligpaaDoorNumb
import Derived.Test.YtloddahenligpaaDoorMake
namespace Go.Proofs.YtloddahenligpaaDoor
open Go.RowKit Go.Maps

def NrT (s : ByteArray) (f : Fr) : Prop := ∀ (k n d : Int) (v : Value) (lo hi base mb bm : Nat) (vo : Value) (acc : List Int) (w : World), shapeT k n s f d = true → NdV w lo hi k n s f v → hi ≤ mb → hi ≤ bm → Num w base mb bm vo acc → base ≤ w.heap.size → acc.length + nodes f ≤ 2097152 →
  Calls Tryd.prog 48 #[.pointer (some ⟨mb, 0, none⟩), v] w fun e w' => (∃ T x, e = .returned (.iface T x)) ∧ NumRes w base mb bm vo (varsT acc k n f) w'

/-- The loop's relation: j kids are numbered; their new row is block g. -/
def NrP (w : World) (base mb bm : Nat) (vo : Value) (V : List Int) (M : Nat) (f : Fr) (hx g : Nat) (cs : Array Value) (j : Nat) (wr : World) : Prop :=
  ∃ (vj : Value) (a : List Int), Num wr base mb bm vj a ∧ varsF a (f.drop j) = V ∧ a.length + nodes (f.drop j) ≤ M ∧ Wrote (mb :: bm :: ownV vo) w wr ∧ (∀ x ∈ ownV vj, x ∈ ownV vo ∨ w.heap.size ≤ x) ∧ hx ∉ ownV vj ∧ g ∉ ownV vj ∧ Blk wr hx 119 cs ∧ (∃ cur, Blk wr g 64 cur ∧ cur.size = f.len)

theorem NrP.step {w wr w3 : World} {base mb bm : Nat} {vo : Value} {V : List Int} {M : Nat} {f : Fr} {hx g : Nat} {cs : Array Value} {j : Nat} {vj : Value} {a : List Int} {k n : Int} {s : ByteArray} {kids : Fr} {u : Value}
    (hd : f.drop j = .cons k n s kids (f.drop (j + 1))) (hj : j < f.len) (hv : varsF a (f.drop j) = V) (hl : a.length + nodes (f.drop j) ≤ M) (hw : Wrote (mb :: bm :: ownV vo) w wr) (hn : ∀ x ∈ ownV vj, x ∈ ownV vo ∨ w.heap.size ≤ x) (h1 : hx ∉ ownV vj) (h2 : g ∉ ownV vj)
    (hb1 : Blk wr hx 119 cs) {cur : Array Value} (hb2 : Blk wr g 64 cur) (hcs : cur.size = f.len) (hmx : hx ≠ mb ∧ hx ≠ bm ∧ g ≠ mb ∧ g ≠ bm) (hgw : w.heap.size ≤ g) (hgx : g ≠ hx)
    (hr : NumRes wr base mb bm vj (varsT a k n kids) w3) :
    NrP w base mb bm vo V M f hx g cs (j + 1) (w3.setCell ⟨g, j, none⟩ u) ∧ (∃ u', w3.cell? ⟨g, j, none⟩ = some u') ∧ w3.frozen? ⟨g, j, none⟩ = false := by
  obtain ⟨v3, hN3, hw3, hn3⟩ := hr
  have q1 := hw3.blk hb1 fun e => by simp only [List.mem_cons] at e; rcases e with e | e | e; exact hmx.1 e; exact hmx.2.1 e; exact h1 e
  have q2 := hw3.blk hb2 fun e => by simp only [List.mem_cons] at e; rcases e with e | e | e; exact hmx.2.2.1 e; exact hmx.2.2.2 e; exact h2 e
  have hx3 : ∀ x, x < wr.heap.size → x ∉ ownV vj → x ∉ ownV v3 := fun x hx h e => by
    rcases hn3 x e with h' | h'
    · exact h h'
    · omega
  have hvl := varsT_len a k n kids
  have e1 : nodes (f.drop j) = 1 + nodes kids + nodes (f.drop (j + 1)) := by rw [hd]; rfl
  have g3 := hx3 g hb2.lt h2
  obtain ⟨b0, ⟨D, hD, hND⟩, ho, l1, l2, l3⟩ := hN3
  refine ⟨⟨v3, _, ⟨b0.far (p := ⟨g, j, none⟩) (fun e => hmx.2.2.1 e.symm) u, ⟨D, hD.setCell (fun e => hmx.2.2.2 e.symm) u, hND⟩, ho.keep (L := [g]) ((Wrote.refl _ _).set_ (.inl (by simp)) u) (fun x hx e => g3 (by simp at e; rw [← e]; exact hx)), l1, l2, l3⟩, ?_, ?_, ?_, ?_, hx3 hx hb1.lt h1, g3, q1.far (p := ⟨g, j, none⟩) (fun e => hgx e.symm) u, ⟨_, q2.set_ j u, by simpa using hcs⟩⟩, ⟨_, (q2.cell j).trans (Array.getElem?_eq_getElem (by omega))⟩, q2.frozen j⟩
  · rw [hd] at hv; exact hv
  · omega
  · refine (hw.more_new hw3 fun x hx => ?_).set_ (.inr hgw) u
    simp only [List.mem_cons] at hx ⊢
    rcases hx with h | h | h
    · exact .inl (.inl h)
    · exact .inl (.inr (.inl h))
    · rcases hn x h with h | h
      · exact .inl (.inr (.inr h))
      · exact .inr h
  · intro x hx
    rcases hn3 x hx with h | h
    · exact hn x h
    · exact .inr (Nat.le_trans hw.size h)

set_option maxRecDepth 100000 in
set_option maxHeartbeats 2000000 in
theorem nrT_of (s : ByteArray) (f : Fr) (h : ∀ i k n s kids rest, f.drop i = .cons k n s kids rest → NrT s kids) : NrT s f := by
  intro k n d v lo hi base mb bm vo acc w hs hv hmb hbm hN hbs hacc
  rcases hv with ⟨rfl, rfl⟩ | ⟨rfl, rfl⟩ | ⟨rfl, A, cap, rfl, hk⟩
  · obtain ⟨rfl, rfl, hn⟩ := shapeT_leaf hs (by omega)
    have hV : varsT acc 1 n .nil = addV acc n := by unfold varsT; rw [if_pos rfl]
    rw [hV]
    have C1 := place_any n acc vo base mb bm w hN hbs (by omega) hn
    have H1 := Lib.hid C1
    clear h hs hN C1 hV
    go_enter Tryd.func48, Tryd.ntmps48
    go_wp2_with fail
    refine H1.out.mono ?_
    rintro e w2 ⟨⟨c, rfl⟩, h2⟩
    have H2 := Lib.hid h2
    clear h2
    go_wp2_with fail
    go_ret
    exact ⟨⟨_, _, rfl⟩, H2.out⟩
  · obtain ⟨rfl, rfl, hn⟩ := shapeT_leaf hs (by omega)
    have hV : varsT acc 2 n .nil = acc := by unfold varsT; rw [if_neg (by omega)]; rfl
    rw [hV]
    have HN := Lib.hid hN
    clear h hs hN hV
    go_enter Tryd.func48, Tryd.ntmps48
    go_wp2_with fail
    go_ret
    exact ⟨⟨_, _, rfl⟩, vo, HN.out, .refl _ _, fun x h => .inl h⟩
  · obtain ⟨rfl, hname, hlen, hsf⟩ := shapeT_struct hs
    have hV : varsT acc 3 0 f = varsF acc f := by unfold varsT; rw [if_neg (by omega)]
    rw [hV]
    have hl := hk.1
    have hm := hk.2.1
    unfold maxLen at hm
    have HK := Lib.hid hk
    have HH := Lib.hid h
    have HSF := Lib.hid hsf
    generalize hv : varsF acc f = V
    have hlo := hN.2.2.1.lt
    have hmo : mb < w.heap.size ∧ bm < w.heap.size := ⟨hN.1.lt, by have := hN.2.2.2.2.1; omega⟩
    have HST : Hid (∀ w3 xs, w3.ownsRow (w.heap.size + 1) 64 1 (.slice (some ⟨w.heap.size + 1, 0, none⟩) f.len f.len) f.len xs → (w.alloc (.cells #[.string s, .slice A f.len cap] 119)).grownBy w3 none →
        NrP w base mb bm vo V (acc.length + nodes f) f w.heap.size (w.heap.size + 1) #[.string s, .slice A f.len cap] 0 w3 ∧ w3.cell? ⟨w.heap.size, 1, none⟩ = some (.slice A f.len cap)) := Lib.hid fun w3 xs ho hg => by
      have hb3 : Below w.heap.size w w3 := by
        have h1 : Below w.heap.size w (w.alloc (.cells #[.string s, .slice A f.len cap] 119)) := (Below.refl _ _).alloc (Nat.le_refl _) _
        exact h1.grown hg h1.size fun g hg => by cases hg
      have hq : Blk w3 w.heap.size 119 #[.string s, .slice A f.len cap] := (Blk.new w _ _).keep (hg.block _ (by simp) (by simp))
      have hcur : ∃ cur, Blk w3 (w.heap.size + 1) 64 cur ∧ cur.size = f.len := by
        rcases ho.2 with ⟨h', _⟩ | ⟨g', cap', cur, h', _, hb, _, _, hs, _⟩
        · simp at h'
        · simp only [Value.slice.injEq, Option.some.injEq, Addr.mk.injEq, and_true, true_and] at h'
          obtain ⟨rfl, rfl⟩ := h'
          exact ⟨cur, hb, by simpa using hs⟩
      exact ⟨⟨vo, acc, hN.below hb3, hv, Nat.le_refl _, .of_below hb3 _, fun x h => .inl h, fun e => by have := (hlo _ e).2; omega, fun e => by have := (hlo _ e).2; omega, hq, hcur⟩, hq.cell 1⟩
    have HHI : hi ≤ mb ∧ hi ≤ bm := ⟨hmb, hbm⟩
    have hc1 : base > mb ∧ base > bm := ⟨hN.2.2.2.1, hN.2.2.2.2.1⟩
    have HLO := Lib.hid hlo
    have HACC := Lib.hid hacc
    generalize hn : f.len = len at *
    have HN := Lib.hid hn
    clear hk h hs hN hname hsf hV hn hlo hacc hv hmb hbm
    obtain ⟨i0, hi0, hz0, hz1, hz2⟩ := info_parts infoN
    go_enter Tryd.func48, Tryd.ntmps48
    go_wp2_with (at_make; go_must (refine wpList_make_full _ rfl _ _ 72 rfl (w.heap.size + 1) 64 i0 _ 1 Tryd.underlying72 hi0 hz0 hz1 .i64 .i64 _ _ len rfl rfl rfl rfl (by rw [hz2]; omega) (by unfold maxLen; omega) (by simp) ?_); intro w3 hown hgrow; rw [show (w.alloc (.cells #[.string s, .slice A len cap] 119)).heap.size = w.heap.size + 1 by simp] at hown; obtain ⟨hp, x1⟩ := HST.out w3 _ hown hgrow; have HP := Lib.hid hp; clear hp hown hgrow)
    have HWS : Hid (w.heap.size < w3.heap.size) := Lib.hid (by obtain ⟨_, _, _, _, _, _, _, _, _, hb, _⟩ := HP.out; exact hb.lt)
    clear hi0 hz0 hz1 hz2 HST
    go_loopw [28] (fun i wr => ∃ (j : Nat), j ≤ len ∧ i = .int .i64 j ∧ shapeF (f.drop j) (d - 1) = true ∧ NrP w base mb bm vo V (acc.length + nodes f) f w.heap.size (w.heap.size + 1) #[.string s, .slice A len cap] j wr) (fun i _ => len - (intOf i).toNat)
    case atStart => exact ⟨0, Nat.zero_le _, rfl, HSF.out, HP.out⟩
    case round =>
      obtain ⟨j, hj, rfl, hsh, hp⟩ := hrel
      obtain ⟨vj, a, hNj, hva, hla, hw, hnw, hh1, hh2, hq1, ⟨cur, hq2, hcs⟩⟩ := hp
      by_cases hlt : j < len
      · obtain ⟨kk, nn, s', kids, hd⟩ := Fr.drop_cons j f (by rw [HN.out]; exact hlt)
        obtain ⟨b, rfl, hlb, hbb, hrow⟩ := HK.out.2.2 (by rw [HN.out]; omega)
        obtain ⟨vv, hcell, hnv⟩ := hrow.elem hd
        rw [Nat.zero_add] at hcell
        rw [hd, shapeF_cons, Bool.and_eq_true] at hsh
        have hkeep : ∀ p : Addr, p.block < hi → wr.cell? p = w.cell? p := fun p hp => hw.cell (by have := HHI.1; have := hmo.1; omega) fun e => by
          simp only [List.mem_cons] at e
          rcases e with e | e | e
          · have := HHI.1; omega
          · have := HHI.2; omega
          · have := (HLO.out _ e).1; have := HHI.1; omega
        have k0 := (hkeep ⟨b, j, none⟩ hbb).trans hcell
        have hnv' := hnv.keep (fun p _ hp => hkeep p hp) (Nat.le_refl _) (Nat.le_refl _)
        have e1 : nodes (f.drop j) = 1 + nodes kids + nodes (f.drop (j + 1)) := by rw [hd]; rfl
        have C1 := HH.out _ _ _ _ _ _ hd kk nn (d - 1) vv lo hi base mb bm vj a wr hsh.1 hnv' HHI.1 HHI.2 hNj (Nat.le_trans hbs hw.size) (by have := HACC.out; omega)
        have STEP := fun (w3 : World) (u : Value) hr => NrP.step (base := base) (w3 := w3) (u := u) hd (by rw [HN.out]; exact hlt) hva hla hw hnw hh1 hh2 hq1 hq2 hcs (by omega) (by omega) (by omega) hr
        obtain ⟨T1, z1, rfl⟩ := hnv.iface
        have H1 := Lib.hid C1
        have HSTEP := Lib.hid STEP
        have HS2 := Lib.hid hsh.2
        clear C1 STEP hsh hNj hva hla hw hnw hh1 hh2 hq1 hq2 hcs hd hrow hcell hnv hnv' hkeep e1
        go_wp2_with fail
        refine H1.out.mono ?_
        rintro e w4 ⟨⟨T2, z2, rfl⟩, h2⟩
        obtain ⟨hst, ⟨u', y1⟩, yf⟩ := HSTEP.out w4 (.iface T2 z2) h2
        have HNX := Lib.hid hst
        clear h2 hst
        go_wp2_with fail
        go_roundw
        case rel => exact ⟨j + 1, by omega, by go_num, HS2.out, HNX.out⟩
        case measure => simp [intOf]; omega
      · obtain rfl : j = len := by omega
        have HE : Hid (V = a) := Lib.hid (by
          have h1 := Fr.drop_len f
          rw [HN.out] at h1
          rw [← hva, h1]; rfl)
        have HF : Hid (NumRes w base mb bm vo a wr) := Lib.hid ⟨vj, hNj, hw, hnw⟩
        have a0 := hq1.cell 0
        simp only [List.getElem?_toArray, List.getElem?_cons_zero] at a0
        clear hNj hva hla hw hnw hq1 hq2 hcs hsh hh1 hh2
        go_wp2_with fail
        go_ret
        rw [HE.out]
        exact ⟨⟨_, _, rfl⟩, HF.out⟩
theorem nr_all (N : Nat) : ∀ (s : ByteArray) (f : Fr), f.size ≤ N → NrT s f := by
  induction N with
  | zero =>
    intro s f hf
    refine nrT_of s f fun i k n s kids rest hd => ?_
    have h1 := Fr.size_drop i f
    rw [hd] at h1
    simp only [Fr.size] at h1
    omega
  | succ N ih =>
    intro s f hf
    refine nrT_of s f fun i k n s kids rest hd => ih s kids ?_
    have h1 := Fr.size_drop i f
    rw [hd] at h1
    simp only [Fr.size] at h1
    omega

set_option maxRecDepth 100000 in
set_option maxHeartbeats 4000000 in
/-- impl.TermVars. -/
theorem implVars_any (k n : Int) (s : ByteArray) (f : Fr) (A : Option Addr) (cap lo hi : Nat) (w : World) (hk : KidsAt w lo hi f A cap) (hh : hi ≤ w.heap.size) (hf : Fits k n s) (hnd : nodes f ≤ 1048576) (ht : nv.Tab w) :
    Calls Tryd.prog 16 #[.agg #[.int .i64 k, .int .i64 n, .string s, .slice A f.len cap]] w fun e w' => ∃ v, e = .returned v ∧ OwnI w' w.heap.size v (varsB k n s f) ∧ Below w.heap.size w w' := by
  have hlt := tab_lt ht
  have C1 := fun w1 (hb : Below w.heap.size w w1) => nodeOf_any k n s f A cap lo hi w1 (hk.below hb hh) (Nat.le_trans hh hb.size) hf hnd (tab_below ht hb hlt)
  have hb0 : Below w.heap.size w (w.alloc (.cells #[.int .i64 k, .int .i64 n, .string s, .slice A f.len cap] 30)) := (Below.refl _ _).alloc (Nat.le_refl _) _
  have HND := Lib.hid hnd
  have H1 := Lib.hid C1
  have HB0 := Lib.hid hb0
  clear C1 hk hf hnd ht hh hb0
  have hmm := @run_makeMap Tryd.prog
  go_enter Tryd.func16, Tryd.ntmps16
  go_wp2_with fail
  refine (H1.out _ HB0.out).mono ?_
  rintro e w2 ⟨hb, hr⟩
  have hb2 : Below w.heap.size w w2 := HB0.out.trans (hb.mono (by simp))
  have hs2 : (w.alloc (.cells #[.int .i64 k, .int .i64 n, .string s, .slice A f.len cap] 30)).heap.size ≤ w2.heap.size := hb.size
  rcases hr with ⟨hok, v, rfl, hv⟩ | ⟨hok, rfl⟩
  · have HV : Hid (varsB k n s f = varsT [] k n f) := Lib.hid (by unfold varsB; rw [hok]; rfl)
    have hb4 : Below w2.heap.size w2 ((w2.alloc (.map #[] 0)).alloc (.cells #[.map (some w2.heap.size), .slice none 0 0] 69)) := ((Below.refl _ _).alloc (Nat.le_refl _) _).alloc (by simp) _
    have hq : Blk ((w2.alloc (.map #[] 0)).alloc (.cells #[.map (some w2.heap.size), .slice none 0 0] 69)) (w2.heap.size + 1) 69 #[.map (some w2.heap.size), .slice none 0 0] := by
      have h := Blk.new (w2.alloc (.map #[] 0)) 69 #[.map (some w2.heap.size), .slice none 0 0]
      rwa [show (w2.alloc (.map #[] 0)).heap.size = w2.heap.size + 1 by simp] at h
    have hN : Num ((w2.alloc (.map #[] 0)).alloc (.cells #[.map (some w2.heap.size), .slice none 0 0] 69)) (w2.heap.size + 2) (w2.heap.size + 1) w2.heap.size (.slice none 0 0) [] :=
      ⟨hq, ⟨_, (World.ownsMap_made w2 _ _ _).alloc _, NumD.nil⟩, OwnI.nil _ _, by omega, by omega, by omega⟩
    have C2 := nr_all f.size s f (Nat.le_refl _) k n 30 v 0 w2.heap.size _ _ _ _ _ _ (validT_shape hok) (hv.keep (fun p _ hp => hb4.cell hp) (Nat.zero_le _) (Nat.le_refl _)) (by omega) (Nat.le_refl _) hN (by simp) (by have := HND.out; simp; omega)
    have H2 := Lib.hid C2
    have HB4 : Hid (Below w.heap.size w ((w2.alloc (.map #[] 0)).alloc (.cells #[.map (some w2.heap.size), .slice none 0 0] 69))) := Lib.hid (hb2.trans (hb4.mono hb2.size))
    have hsw := hb2.size
    obtain ⟨T, x, rfl⟩ := hv.iface
    clear hok hv hb4 hq hN C2 hb2 hb hs2
    go_wp2_with fail
    refine H2.out.mono ?_
    rintro e w5 ⟨⟨T2, x2, rfl⟩, vo, hN5, hw5, hn5⟩
    have hF : OwnI w5 w.heap.size vo (varsT [] k n f) ∧ Below w.heap.size w w5 := ⟨hN5.2.2.1.mono (by omega), HB4.out.trans (hw5.below (by simp; omega) fun x hx => by
      simp [ownV, Value.ownBlock] at hx
      omega)⟩
    have HF := Lib.hid hF
    have c1 := hN5.1.cell 1
    simp only [List.getElem?_toArray, List.getElem?_cons_zero, List.getElem?_cons_succ] at c1
    clear hN5 hw5 hn5 hF
    go_wp2_with fail
    go_ret
    rw [HV.out]
    exact ⟨_, rfl, HF.out⟩
  · have HV : Hid (varsB k n s f = []) := Lib.hid (by unfold varsB; rw [hok]; rfl)
    have HB2 := Lib.hid hb2
    clear hok hb2 hb hs2
    go_wp2_with fail
    go_ret
    rw [HV.out]
    exact ⟨_, rfl, OwnI.nil _ _, HB2.out⟩
end Go.Proofs.YtloddahenligpaaDoor
