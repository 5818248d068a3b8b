/- impl's renumber, with the node that it makes. Condition: the nodes lie in memory and are well-formed. -/
import Derived.Test.YtloddahenligpaaDoorNumb
import Derived.Test.YtloddahenligpaaDoorMake
import Derived.Test.YtloddahenligpaaDoorNdIn
namespace Go.Proofs.YtloddahenligpaaDoor
open Go.RowKit Go.Maps

/-- Blocks that are new since w and no part of the row of numbers. -/
def Fresh (n0 n1 : Nat) (vo : Value) (x : Nat) : Prop := n0 ≤ x ∧ x < n1 ∧ x ∉ ownV vo
theorem addV_pre (a : List Int) (n : Int) : a <+: addV a n := by
  unfold addV
  split
  · exact List.prefix_refl a
  · exact List.prefix_append a [n]
theorem varsF_pre (f : Fr) : ∀ a, a <+: varsF a f := by
  induction f with
  | nil => intro a; exact List.prefix_refl a
  | cons k n s kids rest ihk ihr =>
    intro a
    simp only [varsF]
    refine List.IsPrefix.trans ?_ (ihr _)
    split
    · exact addV_pre a n
    · exact ihk a
theorem varsT_pre (a : List Int) (k n : Int) (f : Fr) : a <+: varsT a k n f := by
  unfold varsT
  split
  · exact addV_pre a n
  · exact varsF_pre f a
theorem renN_pre {a W : List Int} {n : Int} (h : addV a n <+: W) : renN W 1 n = ((addV a n).idxOf n : Int) := by
  obtain ⟨t, rfl⟩ := h
  have hm : n ∈ addV a n := by
    unfold addV
    split
    · rename_i h; exact List.contains_iff_mem.1 h
    · simp
  unfold renN
  rw [if_pos ⟨rfl, List.mem_append.2 (.inl hm)⟩, List.idxOf_append, if_pos hm]
/-- What renumber leaves. -/
def NsRes (w : World) (base mb bm : Nat) (vo : Value) (xs : List Int) (k n : Int) (s : ByteArray) (f : Fr) (e : Ending) (w' : World) : Prop :=
  ∃ vo' v', e = .returned v' ∧ Num w' base mb bm vo' xs ∧ Wrote (mb :: bm :: ownV vo) w w' ∧ (∀ x ∈ ownV vo', x ∈ ownV vo ∨ w.heap.size ≤ x) ∧ (∀ W, xs <+: W → NdVIn w' (Fresh w.heap.size w'.heap.size vo') k (renN W k n) s (renF W f) v')
def NsT (s : ByteArray) (f : Fr) : Prop := ∀ (k n d : Int) (v : Value) (lo hi base mb bm : Nat) (vo : Value) (acc : List Int) (w : World), shapeT k n s f d = true → NdV w lo hi k n s f v → hi ≤ mb → hi ≤ bm → Num w base mb bm vo acc → base ≤ w.heap.size → acc.length + nodes f ≤ 2097152 →
  Calls Tryd.prog 48 #[.pointer (some ⟨mb, 0, none⟩), v] w fun e w' => NsRes w base mb bm vo (varsT acc k n f) k n s f e w'

/-- The loop's relation: j kids are numbered; their new row is block g. -/
def NsP (w : World) (base mb bm : Nat) (vo : Value) (V : List Int) (M : Nat) (f : Fr) (hx g : Nat) (cs : Array Value) (j : Nat) (wr : World) : Prop :=
  ∃ (vj : Value) (a : List Int), Num wr base mb bm vj a ∧ varsF a (f.drop j) = V ∧ a.length + nodes (f.drop j) ≤ M ∧ Wrote (mb :: bm :: ownV vo) w wr ∧ (∀ x ∈ ownV vj, x ∈ ownV vo ∨ w.heap.size ≤ x) ∧ hx ∉ ownV vj ∧ g ∉ ownV vj ∧ Blk wr hx 119 cs ∧ (∃ cur, Blk wr g 64 cur ∧ cur.size = f.len) ∧ (∀ W, a <+: W → NdRowIn wr (Fresh (g + 1) wr.heap.size vj) (renF W (f.take j)) g 0)

theorem NsP.step {w wr w3 : World} {base mb bm : Nat} {vo : Value} {V : List Int} {M : Nat} {f : Fr} {hx g : Nat} {cs : Array Value} {j : Nat} {vj : Value} {a : List Int} {k n : Int} {s : ByteArray} {kids : Fr}
    (hd : f.drop j = .cons k n s kids (f.drop (j + 1))) (hj : j < f.len) (hv : varsF a (f.drop j) = V) (hl : a.length + nodes (f.drop j) ≤ M) (hw : Wrote (mb :: bm :: ownV vo) w wr) (hn : ∀ x ∈ ownV vj, x ∈ ownV vo ∨ w.heap.size ≤ x) (h1 : hx ∉ ownV vj) (h2 : g ∉ ownV vj)
    (hb1 : Blk wr hx 119 cs) {cur : Array Value} (hb2 : Blk wr g 64 cur) (hcs : cur.size = f.len) (hmx : hx ≠ mb ∧ hx ≠ bm ∧ g ≠ mb ∧ g ≠ bm) (hgw : w.heap.size ≤ g) (hgx : g ≠ hx) (hgm : mb < g ∧ bm < g)
    (hrow : ∀ W, a <+: W → NdRowIn wr (Fresh (g + 1) wr.heap.size vj) (renF W (f.take j)) g 0) {e : Ending}
    (hr : NsRes wr base mb bm vj (varsT a k n kids) k n s kids e w3) : ∃ u T z, e = .returned u ∧ u = .iface T z ∧
    NsP w base mb bm vo V M f hx g cs (j + 1) (w3.setCell ⟨g, j, none⟩ u) ∧ (∃ u', w3.cell? ⟨g, j, none⟩ = some u') ∧ w3.frozen? ⟨g, j, none⟩ = false := by
  obtain ⟨v3, u, rfl, hN3, hw3, hn3, hnode⟩ := hr
  obtain ⟨T, z, hu⟩ := (hnode _ (List.prefix_refl _)).iface
  refine ⟨u, T, z, rfl, hu, ?_⟩
  have q1 := hw3.blk hb1 fun e => by simp only [List.mem_cons] at e; rcases e with e | e | e; exact hmx.1 e; exact hmx.2.1 e; exact h1 e
  have q2 := hw3.blk hb2 fun e => by simp only [List.mem_cons] at e; rcases e with e | e | e; exact hmx.2.2.1 e; exact hmx.2.2.2 e; exact h2 e
  have hx3 : ∀ x, x < wr.heap.size → x ∉ ownV vj → x ∉ ownV v3 := fun x hx h e => by
    rcases hn3 x e with h' | h'
    · exact h h'
    · omega
  have hvl := varsT_len a k n kids
  have e1 : nodes (f.drop j) = 1 + nodes kids + nodes (f.drop (j + 1)) := by rw [hd]; rfl
  have g3 := hx3 g hb2.lt h2
  obtain ⟨b0, ⟨D, hD, hND⟩, ho, l1, l2, l3⟩ := hN3
  refine ⟨⟨v3, _, ⟨b0.far (p := ⟨g, j, none⟩) (fun e => hmx.2.2.1 e.symm) u, ⟨D, hD.setCell (fun e => hmx.2.2.2 e.symm) u, hND⟩, ho.keep (L := [g]) ((Wrote.refl _ _).set_ (.inl (by simp)) u) (fun x hx e => g3 (by simp at e; rw [← e]; exact hx)), l1, l2, l3⟩, ?_, ?_, ?_, ?_, hx3 hx hb1.lt h1, g3, q1.far (p := ⟨g, j, none⟩) (fun e => hgx e.symm) u, ⟨_, q2.set_ j u, by simpa using hcs⟩, fun W hW => ?_⟩, ⟨_, (q2.cell j).trans (Array.getElem?_eq_getElem (by omega))⟩, q2.frozen j⟩
  · rw [hd] at hv; exact hv
  · omega
  · refine (hw.more_new hw3 fun x hx => ?_).set_ (.inr hgw) u
    simp only [List.mem_cons] at hx ⊢
    rcases hx with h | h | h
    · exact .inl (.inl h)
    · exact .inl (.inr (.inl h))
    · rcases hn x h with h | h
      · exact .inl (.inr (.inr h))
      · exact .inr h
  · intro x hx
    rcases hn3 x hx with h | h
    · exact hn x h
    · exact .inr (Nat.le_trans hw.size h)
  · have hsz : (w3.setCell ⟨g, j, none⟩ u).heap.size = w3.heap.size := by simp [World.setCell]
    have hs3 := hw3.size
    have hgl := hb2.lt
    rw [hsz, ← renF_take]
    refine NdRowIn.put (w0 := wr) (P := Fresh (g + 1) wr.heap.size vj) (Q := Fresh wr.heap.size w3.heap.size v3) (show (renF W f).drop j = .cons k (renN W k n) s (renF W kids) (renF W (f.drop (j + 1))) by rw [renF_drop, hd]; rfl) (by rw [renF_len]; omega)
      (by rw [renF_take]; exact hrow W ((varsT_pre a k n kids).trans hW)) (hnode W hW) (fun p hp => hw3.cell hp.2.1 fun e => ?_) (fun i => ?_) ((q2.cell j).trans (Array.getElem?_eq_getElem (by omega))) (fun x hx => ⟨hx.1, by have := hx.2.1; omega, hx3 x hx.2.1 hx.2.2⟩) (fun x hx => ⟨by have := hx.1; omega, hx.2⟩) ⟨fun h => by have := h.1; omega, fun h => by have := h.1; omega⟩
    · simp only [List.mem_cons] at e
      have h0 := hp.1
      rcases e with e | e | e
      · omega
      · omega
      · exact hp.2.2 e
    · rw [q2.cell, hb2.cell]

set_option maxRecDepth 100000 in
set_option maxHeartbeats 2000000 in
theorem nsT_of (s : ByteArray) (f : Fr) (h : ∀ i k n s kids rest, f.drop i = .cons k n s kids rest → NsT s kids) : NsT s f := by
  intro k n d v lo hi base mb bm vo acc w hs hv hmb hbm hN hbs hacc
  rcases hv with ⟨rfl, rfl⟩ | ⟨rfl, rfl⟩ | ⟨rfl, A, cap, rfl, hk⟩
  · obtain ⟨rfl, rfl, hn⟩ := shapeT_leaf hs (by omega)
    have hV : varsT acc 1 n .nil = addV acc n := by unfold varsT; rw [if_pos rfl]
    rw [hV]
    have C1 := place_any n acc vo base mb bm w hN hbs (by omega) hn
    have H1 := Lib.hid C1
    clear h hs hN C1 hV
    go_enter Tryd.func48, Tryd.ntmps48
    go_wp2_with fail
    refine H1.out.mono ?_
    rintro e w2 ⟨rfl, vo', h2⟩
    have H2 := Lib.hid h2
    clear h2
    go_wp2_with fail
    go_ret
    exact ⟨vo', _, rfl, H2.out.1, H2.out.2.1, H2.out.2.2, fun W hW => .inl ⟨rfl, by rw [renN_pre hW]; rfl⟩⟩
  · obtain ⟨rfl, rfl, hn⟩ := shapeT_leaf hs (by omega)
    have hV : varsT acc 2 n .nil = acc := by unfold varsT; rw [if_neg (by omega)]; rfl
    rw [hV]
    have HN := Lib.hid hN
    clear h hs hN hV
    go_enter Tryd.func48, Tryd.ntmps48
    go_wp2_with fail
    go_ret
    exact ⟨vo, _, rfl, HN.out, .refl _ _, fun x h => .inl h, fun W _ => .inr (.inl ⟨rfl, by unfold renN; rw [if_neg (fun e => by have := e.1; omega)]; rfl⟩)⟩
  · obtain ⟨rfl, hname, hlen, hsf⟩ := shapeT_struct hs
    have hV : varsT acc 3 0 f = varsF acc f := by unfold varsT; rw [if_neg (by omega)]
    rw [hV]
    have hl := hk.1
    have hm := hk.2.1
    unfold maxLen at hm
    have HK := Lib.hid hk
    have HH := Lib.hid h
    have HSF := Lib.hid hsf
    generalize hv : varsF acc f = V
    have hlo := hN.2.2.1.lt
    have hmo : mb < w.heap.size ∧ bm < w.heap.size := ⟨hN.1.lt, by have := hN.2.2.2.2.1; omega⟩
    have HST : Hid (∀ w3 xs, w3.ownsRow (w.heap.size + 1) 64 1 (.slice (some ⟨w.heap.size + 1, 0, none⟩) f.len f.len) f.len xs → (w.alloc (.cells #[.string s, .slice A f.len cap] 119)).grownBy w3 none →
        NsP w base mb bm vo V (acc.length + nodes f) f w.heap.size (w.heap.size + 1) #[.string s, .slice A f.len cap] 0 w3 ∧ w3.cell? ⟨w.heap.size, 1, none⟩ = some (.slice A f.len cap)) := Lib.hid fun w3 xs ho hg => by
      have hb3 : Below w.heap.size w w3 := by
        have h1 : Below w.heap.size w (w.alloc (.cells #[.string s, .slice A f.len cap] 119)) := (Below.refl _ _).alloc (Nat.le_refl _) _
        exact h1.grown hg h1.size fun g hg => by cases hg
      have hq : Blk w3 w.heap.size 119 #[.string s, .slice A f.len cap] := (Blk.new w _ _).keep (hg.block _ (by simp) (by simp))
      have hcur : ∃ cur, Blk w3 (w.heap.size + 1) 64 cur ∧ cur.size = f.len := by
        rcases ho.2 with ⟨h', _⟩ | ⟨g', cap', cur, h', _, hb, _, _, hs, _⟩
        · simp at h'
        · simp only [Value.slice.injEq, Option.some.injEq, Addr.mk.injEq, and_true, true_and] at h'
          obtain ⟨rfl, rfl⟩ := h'
          exact ⟨cur, hb, by simpa using hs⟩
      exact ⟨⟨vo, acc, hN.below hb3, hv, Nat.le_refl _, .of_below hb3 _, fun x h => .inl h, fun e => by have := (hlo _ e).2; omega, fun e => by have := (hlo _ e).2; omega, hq, hcur, fun W _ => by rw [show (renF W (f.take 0)) = .nil by cases f <;> rfl]; trivial⟩, hq.cell 1⟩
    have HHI : hi ≤ mb ∧ hi ≤ bm := ⟨hmb, hbm⟩
    have hc1 : base > mb ∧ base > bm := ⟨hN.2.2.2.1, hN.2.2.2.2.1⟩
    have HLO := Lib.hid hlo
    have HACC := Lib.hid hacc
    generalize hn : f.len = len at *
    have HN := Lib.hid hn
    clear hk h hs hN hname hsf hV hn hlo hacc hv hmb hbm
    obtain ⟨i0, hi0, hz0, hz1, hz2⟩ := info_parts infoN
    go_enter Tryd.func48, Tryd.ntmps48
    go_wp2_with (at_make; go_must (refine wpList_make_full _ rfl _ _ 72 rfl (w.heap.size + 1) 64 i0 _ 1 Tryd.underlying72 hi0 hz0 hz1 .i64 .i64 _ _ len rfl rfl rfl rfl (by rw [hz2]; omega) (by unfold maxLen; omega) (by simp) ?_); intro w3 hown hgrow; rw [show (w.alloc (.cells #[.string s, .slice A len cap] 119)).heap.size = w.heap.size + 1 by simp] at hown; obtain ⟨hp, x1⟩ := HST.out w3 _ hown hgrow; have HP := Lib.hid hp; clear hp hown hgrow)
    have HWS : Hid (w.heap.size < w3.heap.size) := Lib.hid (by obtain ⟨_, _, _, _, _, _, _, _, _, hb, _, _⟩ := HP.out; exact hb.lt)
    clear hi0 hz0 hz1 hz2 HST
    go_loopw [28] (fun i wr => ∃ (j : Nat), j ≤ len ∧ i = .int .i64 j ∧ shapeF (f.drop j) (d - 1) = true ∧ NsP w base mb bm vo V (acc.length + nodes f) f w.heap.size (w.heap.size + 1) #[.string s, .slice A len cap] j wr) (fun i _ => len - (intOf i).toNat)
    case atStart => exact ⟨0, Nat.zero_le _, rfl, HSF.out, HP.out⟩
    case round =>
      obtain ⟨j, hj, rfl, hsh, hp⟩ := hrel
      obtain ⟨vj, a, hNj, hva, hla, hw, hnw, hh1, hh2, hq1, ⟨cur, hq2, hcs⟩, hrw⟩ := hp
      by_cases hlt : j < len
      · obtain ⟨kk, nn, s', kids, hd⟩ := Fr.drop_cons j f (by rw [HN.out]; exact hlt)
        obtain ⟨b, rfl, hlb, hbb, hrow⟩ := HK.out.2.2 (by rw [HN.out]; omega)
        obtain ⟨vv, hcell, hnv⟩ := hrow.elem hd
        rw [Nat.zero_add] at hcell
        rw [hd, shapeF_cons, Bool.and_eq_true] at hsh
        have hkeep : ∀ p : Addr, p.block < hi → wr.cell? p = w.cell? p := fun p hp => hw.cell (by have := HHI.1; have := hmo.1; omega) fun e => by
          simp only [List.mem_cons] at e
          rcases e with e | e | e
          · have := HHI.1; omega
          · have := HHI.2; omega
          · have := (HLO.out _ e).1; have := HHI.1; omega
        have k0 := (hkeep ⟨b, j, none⟩ hbb).trans hcell
        have hnv' := hnv.keep (fun p _ hp => hkeep p hp) (Nat.le_refl _) (Nat.le_refl _)
        have e1 : nodes (f.drop j) = 1 + nodes kids + nodes (f.drop (j + 1)) := by rw [hd]; rfl
        have C1 := HH.out _ _ _ _ _ _ hd kk nn (d - 1) vv lo hi base mb bm vj a wr hsh.1 hnv' HHI.1 HHI.2 hNj (Nat.le_trans hbs hw.size) (by have := HACC.out; omega)
        have STEP := fun (w3 : World) (e : Ending) hr => NsP.step (base := base) (w3 := w3) (e := e) hd (by rw [HN.out]; exact hlt) hva hla hw hnw hh1 hh2 hq1 hq2 hcs (by omega) (by omega) (by omega) (by omega) hrw hr
        obtain ⟨T1, z1, rfl⟩ := hnv.iface
        have H1 := Lib.hid C1
        have HSTEP := Lib.hid STEP
        have HS2 := Lib.hid hsh.2
        clear C1 STEP hsh hNj hva hla hw hnw hh1 hh2 hq1 hq2 hcs hrw hd hrow hcell hnv hnv' hkeep e1
        go_wp2_with fail
        refine H1.out.mono ?_
        rintro e w4 h2
        obtain ⟨u, T2, z2, rfl, rfl, hst, ⟨u', y1⟩, yf⟩ := HSTEP.out w4 e h2
        have HNX := Lib.hid hst
        clear h2 hst
        go_wp2_with fail
        go_roundw
        case rel => exact ⟨j + 1, by omega, by go_num, HS2.out, HNX.out⟩
        case measure => simp [intOf]; omega
      · obtain rfl : j = len := by omega
        have HE : Hid (V = a) := Lib.hid (by
          have h1 := Fr.drop_len f
          rw [HN.out] at h1
          rw [← hva, h1]; rfl)
        have hlen0 : (some ⟨w.heap.size + 1, 0, none⟩ : Option Addr) = some ⟨w.heap.size + 1, 0, none⟩ := rfl
        have HF : Hid (NsRes w base mb bm vo a 3 0 s f (.returned (.iface 119 (.agg #[.string s, .slice (some ⟨w.heap.size + 1, 0, none⟩) j j]))) wr) := Lib.hid ⟨vj, _, rfl, hNj, hw, hnw, fun W hW => by
          have e0 : renN W 3 0 = 0 := by unfold renN; rw [if_neg (fun e => by have := e.1; omega)]
          refine .inr (.inr ⟨rfl, some ⟨w.heap.size + 1, 0, none⟩, j, by rw [renF_len, HN.out], by rw [renF_len, HN.out]; exact Nat.le_refl _, by unfold maxLen; omega, fun _ => ⟨w.heap.size + 1, rfl, ⟨by omega, hq2.lt, hh2⟩, ?_⟩⟩)
          have h1 := hrw W hW
          rw [← HN.out, Fr.take_len] at h1
          exact NdRowIn.keep (fun _ _ => rfl) (fun x hx => ⟨by have := hx.1; omega, hx.2⟩) (renF W f) _ 0 (fun _ _ => rfl) h1⟩
        have a0 := hq1.cell 0
        simp only [List.getElem?_toArray, List.getElem?_cons_zero] at a0
        clear hNj hva hla hw hnw hq1 hq2 hcs hsh hh1 hh2 hrw hlen0
        go_wp2_with fail
        go_ret
        rw [HE.out]
        exact HF.out
theorem ns_all (N : Nat) : ∀ (s : ByteArray) (f : Fr), f.size ≤ N → NsT s f := by
  induction N with
  | zero =>
    intro s f hf
    refine nsT_of s f fun i k n s kids rest hd => ?_
    have h1 := Fr.size_drop i f
    rw [hd] at h1
    simp only [Fr.size] at h1
    omega
  | succ N ih =>
    intro s f hf
    refine nsT_of s f fun i k n s kids rest hd => ih s kids ?_
    have h1 := Fr.size_drop i f
    rw [hd] at h1
    simp only [Fr.size] at h1
    omega
end Go.Proofs.YtloddahenligpaaDoor
