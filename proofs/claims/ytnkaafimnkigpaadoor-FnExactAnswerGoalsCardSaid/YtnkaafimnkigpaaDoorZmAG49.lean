/- impl.replaceVars, for a function that is handed to it and that is asked of some variables only, and whose state holds nodes that it made (blocks G, which it only reads): impl.resolver's. Condition: the nodes lie in memory and are well-formed; the function meets its contract. -/
import Derived.Test.YtnkaafimnkigpaaDoorProg
import Derived.Test.YtnkaafimnkigpaaDoorRep
import Derived.Test.YtnkaafimnkigpaaDoorZmAG42
namespace Go.Proofs.YtnkaafimnkigpaaDoor
open Go.RowKit

/-- Blocks of P0 or G, or new ones; none of Q. -/
def Fresh4 (P0 : Nat → Prop) (G : List Nat) (n0 n1 : Nat) (Q : List Nat) (x : Nat) : Prop := (P0 x ∨ x ∈ G ∨ n0 ≤ x) ∧ x < n1 ∧ x ∉ Q

/-- What the handed function kf with the captured values cp is asked: I is its state's place in memory (the state a, written in the blocks Q, only read in the blocks G), P0 the old blocks of what it hands back, Vp the variables that it is asked. -/
structure RepV {α : Type} (kf : Nat) (fs cp : Array Value) (I : World → α → List Nat → List Nat → Prop) (P0 : Nat → Prop) (B : Nat) (Vp : Int → Prop) (sz : α → Nat) (nx : α → Int → α) (out : α → Int → Nd) : Prop where
  keep : ∀ {w w' : World} {a : α} {Q G L : List Nat}, I w a Q G → Wrote L w w' → (∀ x ∈ L, x ∉ Q ∧ x ∉ G ∧ ¬ P0 x) → I w' a Q G
  lt : ∀ {w : World} {a : α} {Q G : List Nat}, I w a Q G → ∀ x, x ∈ Q ∨ x ∈ G → x < w.heap.size
  old : ∀ x, P0 x → x < B
  len : ∀ a n, sz (nx a n) ≤ sz a + 1
  call : ∀ (a : α) (Q G : List Nat) (n : Int) (w : World), I w a Q G → B ≤ w.heap.size → sz a ≤ 2097152 → (0 ≤ n ∧ n ≤ 25) → Vp n →
    Calls Tryd.prog kf (fs.push (.int .i64 n) ++ cp) w fun e w' => ∃ Q' G' v, e = .returned v ∧ I w' (nx a n) Q' G' ∧ Wrote Q w w' ∧ (∀ x ∈ Q', x ∈ Q ∨ w.heap.size ≤ x) ∧ (∀ x ∈ G', x ∈ G ∨ w.heap.size ≤ x) ∧ (∀ x ∈ G, x ∈ G') ∧ NdVIn w' (Fresh4 P0 G' w.heap.size w'.heap.size Q') (out a n).k (out a n).n (out a n).s (out a n).f v

section
variable {α : Type} {kf : Nat} {fs cp : Array Value} {I : World → α → List Nat → List Nat → Prop} {P0 : Nat → Prop} {B : Nat} {Vp : Int → Prop} {sz : α → Nat} {nx : α → Int → α} {out : α → Int → Nd}

theorem RepV.size (H : RepV kf fs cp I P0 B Vp sz nx out) (f : Fr) : ∀ a, sz (stF nx a f) ≤ sz a + nodes f := by
  induction f with
  | nil => intro a; exact Nat.le_refl _
  | cons k n s kids rest ihk ihr =>
    intro a
    simp only [stF, nodes]
    refine Nat.le_trans (ihr _) ?_
    split
    · have := H.len a n; omega
    · have := ihk a; omega
theorem RepV.sizeT (H : RepV kf fs cp I P0 B Vp sz nx out) (a : α) (k n : Int) (f : Fr) : sz (stT nx a k n f) ≤ sz a + 1 + nodes f := by
  unfold stT
  split
  · have := H.len a n; omega
  · have := H.size f a; omega

/-- What replaceVars leaves. -/
def RvRes (I : World → α → List Nat → List Nat → Prop) (P0 : Nat → Prop) (w : World) (Q G : List Nat) (b : α) (m : Nd) (e : Ending) (w' : World) : Prop :=
  ∃ Q' G' v', e = .returned v' ∧ I w' b Q' G' ∧ Wrote Q w w' ∧ (∀ x ∈ Q', x ∈ Q ∨ w.heap.size ≤ x) ∧ (∀ x ∈ G', x ∈ G ∨ w.heap.size ≤ x) ∧ (∀ x ∈ G, x ∈ G') ∧ NdVIn w' (Fresh4 P0 G' w.heap.size w'.heap.size Q') m.k m.n m.s m.f v'
def RvT (kf : Nat) (fs cp : Array Value) (I : World → α → List Nat → List Nat → Prop) (P0 : Nat → Prop) (B : Nat) (Vp : Int → Prop) (sz : α → Nat) (nx : α → Int → α) (out : α → Int → Nd) (s : ByteArray) (f : Fr) : Prop :=
  ∀ (k n d : Int) (v : Value) (lo hi : Nat) (a : α) (Q G : List Nat) (w : World), shapeT k n s f d = true → (∀ y, occN ⟨k, n, s, f⟩ y → Vp y) → NdV w lo hi k n s f v → hi ≤ w.heap.size → (∀ x ∈ Q, hi ≤ x) → I w a Q G → B ≤ w.heap.size → sz a + nodes f ≤ 2097152 →
  Calls Tryd.prog 46 #[v, .func (.func kf) fs cp] w fun e w' => RvRes I P0 w Q G (stT nx a k n f) (rpT nx out a k n s f) e w'

/-- The loop's relation: j kids are replaced; their new row is block g. -/
def RvP (I : World → α → List Nat → List Nat → Prop) (P0 : Nat → Prop) (sz : α → Nat) (nx : α → Int → α) (out : α → Int → Nd) (w : World) (Q G : List Nat) (a : α) (M : Nat) (f : Fr) (hx g : Nat) (cs : Array Value) (j : Nat) (wr : World) : Prop :=
  ∃ (Qj Gj : List Nat), I wr (stF nx a (f.take j)) Qj Gj ∧ sz (stF nx a (f.take j)) + nodes (f.drop j) ≤ M ∧ Wrote Q w wr ∧ (∀ x ∈ Qj, x ∈ Q ∨ w.heap.size ≤ x) ∧ (∀ x ∈ Gj, x ∈ G ∨ w.heap.size ≤ x) ∧ (∀ x ∈ G, x ∈ Gj) ∧ hx ∉ Qj ∧ g ∉ Qj ∧ g ∉ Gj ∧ Blk wr hx 98 cs ∧ (∃ cur, Blk wr g 62 cur ∧ cur.size = f.len) ∧ NdRowIn wr (Fresh4 P0 Gj (g + 1) wr.heap.size Qj) (rpF nx out a (f.take j)) g 0

theorem RvP.step (H : RepV kf fs cp I P0 B Vp sz nx out) {w wr w3 : World} {Q : List Nat} {a : α} {M : Nat} {f : Fr} {hx g : Nat} {cs : Array Value} {j : Nat} {G Qj Gj : List Nat} {k n : Int} {s : ByteArray} {kids : Fr}
    (hd : f.drop j = .cons k n s kids (f.drop (j + 1))) (hj : j < f.len) (hl : sz (stF nx a (f.take j)) + nodes (f.drop j) ≤ M) (hw : Wrote Q w wr) (hn : ∀ x ∈ Qj, x ∈ Q ∨ w.heap.size ≤ x) (hgn : ∀ x ∈ Gj, x ∈ G ∨ w.heap.size ≤ x) (hgm : ∀ x ∈ G, x ∈ Gj) (h1 : hx ∉ Qj) (h2 : g ∉ Qj) (h2g : g ∉ Gj)
    (hb1 : Blk wr hx 98 cs) {cur : Array Value} (hb2 : Blk wr g 62 cur) (hcs : cur.size = f.len) (hgw : w.heap.size ≤ g) (hgx : g ≠ hx) (hB : B ≤ g)
    (hrow : NdRowIn wr (Fresh4 P0 Gj (g + 1) wr.heap.size Qj) (rpF nx out a (f.take j)) g 0) {e : Ending}
    (hr : RvRes I P0 wr Qj Gj (stT nx (stF nx a (f.take j)) k n kids) (rpT nx out (stF nx a (f.take j)) k n s kids) e w3) : ∃ u T z, e = .returned u ∧ u = .iface T z ∧
    RvP I P0 sz nx out w Q G a M f hx g cs (j + 1) (w3.setCell ⟨g, j, none⟩ u) ∧ (∃ u', w3.cell? ⟨g, j, none⟩ = some u') ∧ w3.frozen? ⟨g, j, none⟩ = false := by
  obtain ⟨Q3, G3, u, rfl, hI3, hw3, hn3, hm3, hl3, hnode⟩ := hr
  obtain ⟨T, z, hu⟩ := hnode.iface
  refine ⟨u, T, z, rfl, hu, ?_⟩
  have q1 := hw3.blk hb1 h1
  have q2 := hw3.blk hb2 h2
  have hx3 : ∀ x, x < wr.heap.size → x ∉ Qj → x ∉ Q3 := fun x hx h e => by
    rcases hn3 x e with h' | h'
    · exact h h'
    · omega
  have hvl := H.sizeT (stF nx a (f.take j)) k n kids
  have e1 : nodes (f.drop j) = 1 + nodes kids + nodes (f.drop (j + 1)) := by rw [hd]; rfl
  have g3 := hx3 g hb2.lt h2
  have g3g : g ∉ G3 := fun e => by
    rcases hm3 g e with h' | h'
    · exact h2g h'
    · have := hb2.lt; omega
  have gP : ¬ P0 g := fun h => by have := H.old g h; omega
  have hgl := hb2.lt
  have hs3 := hw3.size
  have hsz : (w3.setCell ⟨g, j, none⟩ u).heap.size = w3.heap.size := by simp [World.setCell]
  have hW : Wrote [g] w3 (w3.setCell ⟨g, j, none⟩ u) := (Wrote.refl _ _).set_ (.inl (by simp)) u
  refine ⟨⟨Q3, G3, ?_, ?_, ?_, ?_, ?_, fun x hx => hl3 x (hgm x hx), hx3 hx hb1.lt h1, g3, g3g, q1.far (p := ⟨g, j, none⟩) (fun e => hgx e.symm) u, ⟨_, q2.set_ j u, by simpa using hcs⟩, ?_⟩, ⟨_, (q2.cell j).trans (Array.getElem?_eq_getElem (by omega))⟩, q2.frozen j⟩
  · rw [stF_take nx j f a hd]
    exact H.keep hI3 hW fun x hx => by simp at hx; subst hx; exact ⟨g3, g3g, gP⟩
  · rw [stF_take nx j f a hd]; omega
  · refine (hw.more_new hw3 fun x hx => ?_).set_ (.inr hgw) u
    exact hn x hx
  · intro x hx
    rcases hn3 x hx with h | h
    · exact hn x h
    · exact .inr (Nat.le_trans hw.size h)
  · intro x hx
    rcases hm3 x hx with h | h
    · exact hgn x h
    · exact .inr (Nat.le_trans hw.size h)
  · rw [hsz, rpF_take nx out j f a hd]
    have hlen : (rpF nx out a (f.take j)).len = j := by rw [rpF_len]; exact Fr.len_take j f (by omega)
    have far : ∀ p : Addr, p.block ≠ g → (w3.setCell ⟨g, j, none⟩ u).cell? p = w3.cell? p := fun p hp => World.cell?_of_block (heap_setCell_other w3 _ p.block u hp)
    have v1 : NdVIn (w3.setCell ⟨g, j, none⟩ u) (Fresh4 P0 G3 (g + 1) w3.heap.size Q3) (rpT nx out (stF nx a (f.take j)) k n s kids).k (rpT nx out (stF nx a (f.take j)) k n s kids).n (rpT nx out (stF nx a (f.take j)) k n s kids).s (rpT nx out (stF nx a (f.take j)) k n s kids).f u := by
      refine hnode.keep (fun p hp => far p fun e => ?_) fun x hx => ⟨?_, hx.2⟩
      · rcases hp.1 with h | h | h
        · exact gP (e ▸ h)
        · exact g3g (e ▸ h)
        · omega
      · rcases hx.1 with h | h | h
        · exact .inl h
        · exact .inr (.inl h)
        · exact .inr (.inr (by omega))
    have v2 : NdRowIn (w3.setCell ⟨g, j, none⟩ u) (Fresh4 P0 G3 (g + 1) w3.heap.size Q3) (rpF nx out a (f.take j)) g 0 := by
      refine NdRowIn.keep (fun p hp => ?_) (fun x hx => ⟨hx.1.imp id (Or.imp (hl3 x) id), by have := hx.2.1; omega, hx3 x hx.2.1 hx.2.2⟩) (rpF nx out a (f.take j)) g 0 (fun i hi => ?_) hrow
      · have hne : p.block ≠ g := fun e => by
          rcases hp.1 with h | h | h
          · exact gP (e ▸ h)
          · exact h2g (e ▸ h)
          · omega
        exact (far p hne).trans (hw3.cell hp.2.1 hp.2.2)
      · rw [hlen] at hi
        rw [World.cell?_setCell_other w3 _ _ _ (fun e => by injection e with _ e _; omega), q2.cell, hb2.cell]
    refine NdRowIn.snoc _ v1 g 0 v2 ?_
    rw [hlen, Nat.zero_add]
    exact World.cell?_setCell_same w3 _ _ ((q2.cell j).trans (Array.getElem?_eq_getElem (by omega)))

set_option maxRecDepth 100000 in
set_option maxHeartbeats 2000000 in
theorem rvT_of (ef : ∀ args w, (callFunc kf args).run Tryd.prog w = .ok (.enter kf args) w) (H : RepV kf fs cp I P0 B Vp sz nx out) (s : ByteArray) (f : Fr) (h : ∀ i k n s kids rest, f.drop i = .cons k n s kids rest → RvT kf fs cp I P0 B Vp sz nx out s kids) : RvT kf fs cp I P0 B Vp sz nx out s f := by
  intro k n d v lo hi a Q G w hs hoc hv hh hQ hI hB hsz
  rcases hv with ⟨rfl, rfl⟩ | ⟨rfl, rfl⟩ | ⟨rfl, A, cap, rfl, hk⟩
  · obtain ⟨rfl, rfl, hn⟩ := shapeT_var hs
    have C1 := H.call a Q G n w hI hB (by simp only [nodes] at hsz; omega) hn (hoc n (by unfold occN; rw [if_pos rfl]))
    have H1 := Lib.hid C1
    clear h hs hI C1
    go_enter Tryd.func46, Tryd.ntmps46
    go_wp2_with fail
    refine H1.out.mono ?_
    rintro e w2 ⟨Q2, G2, v2, rfl, g1, g2, g3, g5, g6, g4⟩
    obtain ⟨T2, z2, rfl⟩ := g4.iface
    have HR : Hid (RvRes I P0 w Q G (stT nx a 1 n .nil) (rpT nx out a 1 n ⟨#[]⟩ .nil) (.returned (.iface T2 z2)) w2) := Lib.hid ⟨Q2, G2, _, rfl, g1, g2, g3, g5, g6, g4⟩
    clear g1 g2 g3 g4 g5 g6 H1
    go_wp2_with fail
    go_ret
    exact HR.out
  · obtain ⟨rfl, rfl, hn⟩ := shapeT_leaf hs (by omega)
    have HR : Hid (RvRes I P0 w Q G (stT nx a 2 n .nil) (rpT nx out a 2 n ⟨#[]⟩ .nil) (.returned (.iface 123 (.int .i64 n))) w) := Lib.hid ⟨Q, G, _, rfl, hI, .refl _ _, fun x h => .inl h, fun x h => .inl h, fun x h => h, .inr (.inl ⟨rfl, rfl⟩)⟩
    clear h hs hI
    go_enter Tryd.func46, Tryd.ntmps46
    go_wp2_with fail
    go_ret
    exact HR.out
  · obtain ⟨rfl, hname, hlen, hsf⟩ := shapeT_struct hs
    have hl := hk.1
    have hm := hk.2.1
    unfold maxLen at hm
    have hqlt := H.lt hI
    have HQ := Lib.hid hQ
    have HST : Hid (∀ w3 xs, w3.ownsRow (w.heap.size + 1) 62 1 (.slice (some ⟨w.heap.size + 1, 0, none⟩) f.len f.len) f.len xs → (w.alloc (.cells #[.string s, .slice A f.len cap] 98)).grownBy w3 none →
        RvP I P0 sz nx out w Q G a (sz a + nodes f) f w.heap.size (w.heap.size + 1) #[.string s, .slice A f.len cap] 0 w3 ∧ w3.cell? ⟨w.heap.size, 1, none⟩ = some (.slice A f.len cap)) := Lib.hid fun w3 xs ho hg => by
      have hb3 : Below w.heap.size w w3 := by
        have h1 : Below w.heap.size w (w.alloc (.cells #[.string s, .slice A f.len cap] 98)) := (Below.refl _ _).alloc (Nat.le_refl _) _
        exact h1.grown hg h1.size fun g hg => by cases hg
      have hq : Blk w3 w.heap.size 98 #[.string s, .slice A f.len cap] := (Blk.new w _ _).keep (hg.block _ (by simp) (by simp))
      have hcur : ∃ cur, Blk w3 (w.heap.size + 1) 62 cur ∧ cur.size = f.len := by
        rcases ho.2 with ⟨h', _⟩ | ⟨g', cap', cur, h', _, hb, _, _, hs, _⟩
        · simp at h'
        · simp only [Value.slice.injEq, Option.some.injEq, Addr.mk.injEq, and_true, true_and] at h'
          obtain ⟨rfl, rfl⟩ := h'
          exact ⟨cur, hb, by simpa using hs⟩
      have e0 : f.take 0 = .nil := by cases f <;> rfl
      refine ⟨⟨Q, G, ?_, ?_, .of_below hb3 _, fun x h => .inl h, fun x h => .inl h, fun x h => h, fun e => by have := hqlt _ (.inl e); omega, fun e => by have := hqlt _ (.inl e); omega, fun e => by have := hqlt _ (.inr e); omega, hq, hcur, ?_⟩, hq.cell 1⟩
      · rw [e0]; exact H.keep hI (.of_below hb3 []) fun x hx => by simp at hx
      · rw [e0]; exact Nat.le_refl _
      · rw [e0]; trivial
    have HQL := Lib.hid hqlt
    have HK := Lib.hid hk
    have HH := Lib.hid h
    have HSF := Lib.hid hsf
    have HSZ := Lib.hid hsz
    have HRC := Lib.hid H
    have HOC := Lib.hid hoc
    have HFN : Hid (∀ (Qj Gj : List Nat) (j : Nat) wr, f.len = j → I wr (stF nx a (f.take j)) Qj Gj → Wrote Q w wr → (∀ x ∈ Qj, x ∈ Q ∨ w.heap.size ≤ x) → (∀ x ∈ Gj, x ∈ G ∨ w.heap.size ≤ x) → (∀ x ∈ G, x ∈ Gj) → w.heap.size + 1 ∉ Qj → w.heap.size + 1 < wr.heap.size → NdRowIn wr (Fresh4 P0 Gj (w.heap.size + 1 + 1) wr.heap.size Qj) (rpF nx out a (f.take j)) (w.heap.size + 1) 0 →
        RvRes I P0 w Q G (stT nx a 3 0 f) (rpT nx out a 3 0 s f) (.returned (.iface 98 (.agg #[.string s, .slice (some ⟨w.heap.size + 1, 0, none⟩) j j]))) wr) := Lib.hid fun Qj Gj j wr hj h1 h2 h3 hg3 hg4 h4 h5 h6 => by
      subst hj
      rw [Fr.take_len] at h1 h6
      have e1 : stT nx a 3 0 f = stF nx a f := by unfold stT; rw [if_neg (by omega)]
      have e2 : rpT nx out a 3 0 s f = ⟨3, 0, s, rpF nx out a f⟩ := by unfold rpT; rw [if_neg (by omega)]
      rw [e1, e2]
      refine ⟨Qj, Gj, _, rfl, h1, h2, h3, hg3, hg4, .inr (.inr ⟨rfl, some ⟨w.heap.size + 1, 0, none⟩, f.len, by rw [rpF_len], by rw [rpF_len]; exact Nat.le_refl _, by unfold maxLen; omega, fun _ => ⟨w.heap.size + 1, rfl, ⟨.inr (.inr (by omega)), h5, h4⟩, ?_⟩⟩)⟩
      exact NdRowIn.keep (fun _ _ => rfl) (fun x hx => ⟨by rcases hx.1 with h | h | h; exact .inl h; exact .inr (.inl h); exact .inr (.inr (by omega)), hx.2⟩) _ _ 0 (fun _ _ => rfl) h6
    generalize hn : f.len = len at *
    have HN := Lib.hid hn
    clear hk h hs hI hname hsf hn hqlt hsz hQ H hoc
    obtain ⟨i0, hi0, hz0, hz1, hz2⟩ := info_parts infoN
    go_enter Tryd.func46, Tryd.ntmps46
    go_wp2_with (at_make; go_must (refine wpList_make_full _ rfl _ _ 89 rfl (w.heap.size + 1) 62 i0 _ 1 Tryd.underlying89 hi0 hz0 hz1 .i64 .i64 _ _ len rfl rfl rfl rfl (by rw [hz2]; omega) (by unfold maxLen; omega) (by simp) ?_); intro w3 hown hgrow; rw [show (w.alloc (.cells #[.string s, .slice A len cap] 98)).heap.size = w.heap.size + 1 by simp] at hown; obtain ⟨hp, x1⟩ := HST.out w3 _ hown hgrow; have HP := Lib.hid hp; clear hp hown hgrow)
    have HWS : Hid (w.heap.size < w3.heap.size) := Lib.hid (by obtain ⟨_, _, _, _, _, _, _, _, _, _, _, hb, _, _⟩ := HP.out; exact hb.lt)
    clear hi0 hz0 hz1 hz2 HST
    go_loopw [27] (fun i wr => ∃ (j : Nat), j ≤ len ∧ i = .int .i64 j ∧ shapeF (f.drop j) (d - 1) = true ∧ (∀ y, occF (f.drop j) y → Vp y) ∧ RvP I P0 sz nx out w Q G a (sz a + nodes f) f w.heap.size (w.heap.size + 1) #[.string s, .slice A len cap] j wr) (fun i _ => len - (intOf i).toNat)
    case atStart => exact ⟨0, Nat.zero_le _, rfl, HSF.out, fun y hy => HOC.out y (by unfold occN; rw [if_neg (show (3 : Int) ≠ 1 by omega)]; exact hy), HP.out⟩
    case round =>
      obtain ⟨j, hj, rfl, hsh, hoj, hp⟩ := hrel
      obtain ⟨Qj, Gj, hIj, hla, hw, hnw, hgn, hgm, hh1, hh2, hhg, hq1, ⟨cur, hq2, hcs⟩, hrw⟩ := hp
      by_cases hlt : j < len
      · obtain ⟨kk, nn, s', kids, hd⟩ := Fr.drop_cons j f (by rw [HN.out]; exact hlt)
        obtain ⟨b, rfl, hlb, hbb, hrow⟩ := HK.out.2.2 (by rw [HN.out]; omega)
        obtain ⟨vv, hcell, hnv⟩ := hrow.elem hd
        rw [Nat.zero_add] at hcell
        rw [hd, shapeF_cons, Bool.and_eq_true] at hsh
        rw [hd] at hoj
        have hkeep : ∀ p : Addr, p.block < hi → wr.cell? p = w.cell? p := fun p hp => hw.cell (by omega) fun e => by have := HQ.out _ e; omega
        have k0 := (hkeep ⟨b, j, none⟩ hbb).trans hcell
        have hnv' := hnv.keep (fun p _ hp => hkeep p hp) (Nat.le_refl _) (Nat.le_refl _)
        have e1 : nodes (f.drop j) = 1 + nodes kids + nodes (f.drop (j + 1)) := by rw [hd]; rfl
        have C1 := HH.out _ _ _ _ _ _ hd kk nn (d - 1) vv lo hi (stF nx a (f.take j)) Qj Gj wr hsh.1 (fun y hy => hoj y (.inl hy)) hnv' (Nat.le_trans hh hw.size) (fun x hx => by
          rcases hnw x hx with h | h
          · exact HQ.out x h
          · omega) hIj (Nat.le_trans hB hw.size) (by have := HSZ.out; omega)
        have STEP := fun (w3 : World) (e : Ending) hr => RvP.step HRC.out (w3 := w3) (e := e) hd (by rw [HN.out]; exact hlt) hla hw hnw hgn hgm hh1 hh2 hhg hq1 hq2 hcs (by omega) (by omega) (by omega) hrw hr
        obtain ⟨T1, z1, rfl⟩ := hnv.iface
        have H1 := Lib.hid C1
        have HSTEP := Lib.hid STEP
        have HS2 := Lib.hid hsh.2
        have HO2 : Hid (∀ y, occF (f.drop (j + 1)) y → Vp y) := Lib.hid fun y hy => hoj y (.inr hy)
        clear C1 STEP hsh hoj hIj hla hw hnw hgn hgm hh1 hh2 hhg hq1 hq2 hcs hrw hd hrow hcell hnv hnv' hkeep e1
        go_wp2_with fail
        refine H1.out.mono ?_
        rintro e w4 h2
        obtain ⟨u, T2, z2, rfl, rfl, hst, ⟨u', y1⟩, yf⟩ := HSTEP.out w4 e h2
        have HNX := Lib.hid hst
        clear h2 hst
        go_wp2_with fail
        go_roundw
        case rel => exact ⟨j + 1, by omega, by go_num, HS2.out, HO2.out, HNX.out⟩
        case measure => simp [intOf]; omega
      · obtain rfl : j = len := by omega
        have HF := Lib.hid (HFN.out Qj Gj j wr rfl hIj hw hnw hgn hgm hh2 hq2.lt hrw)
        have a0 := hq1.cell 0
        simp only [List.getElem?_toArray, List.getElem?_cons_zero] at a0
        clear hIj hla hw hnw hgn hgm hhg hoj hq1 hq2 hcs hsh hh1 hh2 hrw
        go_wp2_with fail
        go_ret
        exact HF.out
theorem rv_all (ef : ∀ args w, (callFunc kf args).run Tryd.prog w = .ok (.enter kf args) w) (H : RepV kf fs cp I P0 B Vp sz nx out) (N : Nat) : ∀ (s : ByteArray) (f : Fr), f.size ≤ N → RvT kf fs cp I P0 B Vp sz nx out s f := by
  induction N with
  | zero =>
    intro s f hf
    refine rvT_of ef H s f fun i k n s kids rest hd => ?_
    have h1 := Fr.size_drop i f
    rw [hd] at h1
    simp only [Fr.size] at h1
    omega
  | succ N ih =>
    intro s f hf
    refine rvT_of ef H s f fun i k n s kids rest hd => ih s kids ?_
    have h1 := Fr.size_drop i f
    rw [hd] at h1
    simp only [Fr.size] at h1
    omega
/-- impl.replaceVars. -/
theorem rvT_any (ef : ∀ args w, (callFunc kf args).run Tryd.prog w = .ok (.enter kf args) w) (H : RepV kf fs cp I P0 B Vp sz nx out) (s : ByteArray) (f : Fr) : RvT kf fs cp I P0 B Vp sz nx out s f := rv_all ef H f.size s f (Nat.le_refl _)
end
end Go.Proofs.YtnkaafimnkigpaaDoor
