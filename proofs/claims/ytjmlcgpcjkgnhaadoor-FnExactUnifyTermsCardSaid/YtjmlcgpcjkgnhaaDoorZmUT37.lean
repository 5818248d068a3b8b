/- spec.l3Shift: a term with a number added to its variables. Condition: the term lies in memory and is well-formed. -/
import Derived.Test.YtjmlcgpcjkgnhaaDoorProg
import Derived.Test.YtjmlcgpcjkgnhaaDoorRen
import Derived.Test.YtjmlcgpcjkgnhaaDoorTermOf
import Derived.Test.YtjmlcgpcjkgnhaaDoorZmUT36
import Derived.Test.YtjmlcgpcjkgnhaaDoorRowP
import Derived.Deep.AppendLies
namespace Go.Proofs.YtjmlcgpcjkgnhaaDoor
open Go.RowKit

/-- The new number; the row with all variables shifted. -/
def shN (V k n : Int) : Int := if k = 1 then n + V else n
def shF (V : Int) : Fr → Fr
  | .nil => .nil
  | .cons k n s kids rest => .cons k (shN V k n) s (shF V kids) (shF V rest)
theorem shF_len (V : Int) (f : Fr) : (shF V f).len = f.len := by
  induction f with
  | nil => rfl
  | cons _ _ _ _ _ _ ih => simp only [shF, Fr.len, ih]
theorem shF_nodes (V : Int) (f : Fr) : nodes (shF V f) = nodes f := by
  induction f with
  | nil => rfl
  | cons _ _ _ _ _ ihk ih => simp only [shF, nodes, ih, ihk]
theorem shF_drop (V : Int) (f : Fr) : ∀ j, (shF V f).drop j = shF V (f.drop j) := by
  induction f with
  | nil => intro j; cases j <;> rfl
  | cons _ _ _ _ _ _ ih =>
    intro j
    cases j with
    | zero => rfl
    | succ j => exact ih j
theorem shapeT_small {k n : Int} {s : ByteArray} {f : Fr} {d : Int} (h : shapeT k n s f d = true) : Fits k n s ∧ (-999 ≤ n ∧ n ≤ 999) := by
  have hk := shapeT_kind h
  by_cases h3 : k = 3
  · subst h3
    obtain ⟨rfl, hnm, _, _⟩ := shapeT_struct h
    exact ⟨⟨by omega, by omega, by have := nameB_size hnm; unfold maxLen; omega⟩, by omega⟩
  · obtain ⟨rfl, _, hn⟩ := shapeT_leaf h h3
    exact ⟨⟨by omega, by omega, by unfold maxLen; simp [ByteArray.size]⟩, hn⟩
theorem shN_fits {k n V : Int} {s : ByteArray} {f : Fr} {d : Int} (h : shapeT k n s f d = true) (hV : -25 ≤ V ∧ V ≤ 25) : Fits k (shN V k n) s := by
  obtain ⟨⟨h1, h2, h3⟩, h4⟩ := shapeT_small h
  refine ⟨h1, ?_, h3⟩
  unfold shN
  split <;> omega

end Go.Proofs.YtjmlcgpcjkgnhaaDoor

/- spec.l3Full. Condition: the term and the table lie in memory; the terms are well-formed. -/
namespace Go.Proofs.YtjmlcgpcjkgnhaaDoor
open Go.RowKit

/-- What l3Full leaves: the node M and the room that is left, or a number below 0. -/
def FuRes (w : World) (M : Nd) (rm : Int) (e : Ending) (w' : World) : Prop :=
  ∃ (m : Nd) (A : Option Addr) (c : Nat) (l : Int), e = .returned (.tuple #[.agg #[.int .i64 m.k, .int .i64 m.n, .string m.s, .slice A m.f.len c], .int .i64 l]) ∧ Made w m.f A c w' ∧ Fits m.k m.n m.s ∧ -1 ≤ l ∧ l ≤ rm ∧
    (((nodes M.f : Int) + 1 ≤ rm ∧ m = M ∧ l = rm - 1 - nodes M.f) ∨ (rm < (nodes M.f : Int) + 1 ∧ l < 0))
theorem fits_zero : Fits 0 0 ⟨#[]⟩ := ⟨by omega, by omega, by decide⟩
def FuC (rm : Int) : Prop := ∀ (σ : Sub) (m : Nd) (A : Option Addr) (cap lo hi g : Nat) (w : World), Ok2 σ → ShS σ → KidsAt w lo hi m.f A cap → hi ≤ w.heap.size → hi ≤ g → KnS w lo hi g σ → Tm m →
  Calls Tryd.prog 20 #[.agg #[.int .i64 m.k, .int .i64 m.n, .string m.s, .slice A m.f.len cap], .slice (some ⟨g, 0, none⟩) 26 26, .int .i64 rm] w fun e w' => FuRes w (suN (fin σ) m) rm e w'
theorem fu_M {σ : Sub} (hσ : Ok2 σ) (m : Nd) (ht : Tm (wk σ m)) : suN (fin σ) m = ⟨(wk σ m).k, (wk σ m).n, (wk σ m).s, suF (fin σ) (wk σ m).f⟩ := by
  rw [← wk_fin σ m hσ]
  have he := wk_end σ m hσ
  generalize wk σ m = x at *
  by_cases hk : x.k = 1
  · have hl := he.resolve_left (fun h => h hk)
    obtain ⟨k, n, s, f⟩ := x
    simp only at hk hl
    subst hk
    obtain ⟨rfl, rfl, _⟩ := shapeT_var ht.1
    unfold suN
    rw [if_pos rfl]
    exact hσ.inv.free n hl
  · unfold suN
    rw [if_neg hk]
theorem suF_drop (τ : Int → Nd) (f : Fr) : ∀ j, (suF τ f).drop j = suF τ (f.drop j) := by
  induction f with
  | nil => intro j; cases j <;> rfl
  | cons k n s kids rest _ ih =>
    intro j
    cases j with
    | zero => rfl
    | succ j => rw [suF_cons]; exact ih j
theorem nodes_take_le (f : Fr) : ∀ j, nodes (f.take j) ≤ nodes f := by
  induction f with
  | nil => intro j; cases j <;> exact Nat.le_refl _
  | cons k n s kids rest _ ih =>
    intro j
    cases j with
    | zero => exact Nat.zero_le _
    | succ j =>
      have := ih j
      show nodes (Fr.cons k n s kids (rest.take j)) ≤ _
      simp only [nodes]; omega
/-- j arguments are done, with lv of the room left; or there is no room. -/
def LvP (X : Fr) (rm : Int) (j : Nat) (lv : Int) (mf : Fr) : Prop := (-1 ≤ lv ∧ lv ≤ rm) ∧ mf.len = j ∧ ((0 ≤ lv ∧ mf = X.take j ∧ lv = rm - 1 - nodes mf) ∨ (lv < 0 ∧ rm - 1 < (nodes X : Int)))
theorem LvP.step {X : Fr} {rm lv l : Int} {j : Nat} {mf rest : Fr} {M m : Nd} (h : LvP X rm j lv mf) (hlv : 0 ≤ lv) (hd : X.drop j = .cons M.k M.n M.s M.f rest) (h1 : -1 ≤ l) (h2 : l ≤ lv)
    (hr : ((nodes M.f : Int) + 1 ≤ lv ∧ m = M ∧ l = lv - 1 - nodes M.f) ∨ (lv < (nodes M.f : Int) + 1 ∧ l < 0)) : LvP X rm (j + 1) l (mf.app (.cons m.k m.n m.s m.f .nil)) := by
  obtain ⟨⟨_, h3⟩, hl, ⟨_, h4, h5⟩ | ⟨h4, _⟩⟩ := h
  · have hn := nodes_take j X hd
    have hle := nodes_take_le X (j + 1)
    rw [← h4] at hn
    refine ⟨⟨h1, by omega⟩, by rw [Fr.len_app, hl]; rfl, ?_⟩
    rcases hr with ⟨_, rfl, h6⟩ | ⟨h6, h7⟩
    · refine .inl ⟨by omega, by rw [Fr.take_succ j X hd, ← h4], ?_⟩
      rw [nodes_app]
      simp only [nodes]
      omega
    · exact .inr ⟨h7, by omega⟩
  · omega
/-- The loop's relation: the box of the walked term, the result's and the node's blocks lie at H0, H0 + 1, H. -/
def FuP (w : World) (k n : Int) (s : ByteArray) (len : Nat) (A : Option Addr) (cap H0 H : Nat) (mf : Fr) (v : Value) (wr : World) : Prop :=
  Blk wr H0 31 #[.int .i64 k, .int .i64 n, .string s, .slice A len cap] ∧ Blk wr (H0 + 1) 31 #[.int .i64 0, .int .i64 0, .string ⟨#[]⟩, .slice none 0 0] ∧
  Blk wr H 31 #[.int .i64 k, .int .i64 n, .string s, v] ∧ RowP (H + 1) v mf wr ∧ Below w.heap.size w wr ∧ H + 1 ≤ wr.heap.size ∧ w.heap.size ≤ H0 ∧ H0 + 1 < H
theorem FuP.step {w wr w1 w2 w4 : World} {k n : Int} {s : ByteArray} {len : Nat} {f : Fr} {A : Option Addr} {cap H0 H j : Nat} {v : Value} {xs : List Value} {L : List Nat} {kk nn : Int} {s' : ByteArray} {kids : Fr} {A' : Option Addr} {cap' g cap4 : Nat}
    (h : FuP w k n s len A cap H0 H f v wr) (hj : f.len = j) (hD : Desc wr f xs L) (hN : L.Nodup) (hL : ∀ x ∈ L, H + 1 ≤ x ∧ x < wr.heap.size) (hv : ∀ g, v.ownBlock = some g → g ∉ L)
    (hvl : ∀ g, v.ownBlock = some g → H + 1 ≤ g ∧ g < wr.heap.size) (hf : Fits kk nn s') (hm : Made wr kids A' cap' w1) (hb2 : Below w1.heap.size w1 w2) (hg : w2.grownBy w4 v.ownBlock)
    (ho : w4.ownsRow (H + 1) 31 4 (.slice (some ⟨g, 0, none⟩) (j + 1) cap4) (j + 1) (xs ++ [.int .i64 kk, .int .i64 nn, .string s', .slice A' kids.len cap'])) (hat : v.ownBlock = some g ∨ g = w2.heap.size) :
    FuP w k n s len A cap H0 H (f.app (.cons kk nn s' kids .nil)) (.slice (some ⟨g, 0, none⟩) (j + 1) cap4) (w4.setCell ⟨H, 3, none⟩ (.slice (some ⟨g, 0, none⟩) (j + 1) cap4)) := by
  subst hj
  obtain ⟨b0, b1, b2, hr, hb, hs, hH, hHH⟩ := h
  have hm' := hm
  obtain ⟨_, _, _, _, hb1⟩ := hm'
  have far : ∀ x, x < H + 1 → w4.heap[x]? = wr.heap[x]? := fun x hx => by
    have h1 := hb1.size
    have h2 := hb2.size
    rw [hg.block x (by omega) fun e => by have := (hvl x e.symm).1; omega, hb2.block x (by omega), hb1.block x (by omega)]
  have hbw : Below w.heap.size w w4 := by
    have h1 := hb1.trans (hb2.mono hb1.size)
    have h2 := hb.trans (h1.mono hb.size)
    refine h2.grown hg h2.size fun g hg => ?_
    have := (hvl g hg).1; omega
  have hst := RowP.step (base := H + 1) hD hN hL hv (fun g hg => (hvl g hg).2) hs hf hm hb2 hg ho hat
  refine ⟨(b0.keep (far H0 (by omega))).far (by simp; omega) _, (b1.keep (far (H0 + 1) (by omega))).far (by simp; omega) _, (b2.keep (far H (by omega))).set_ 3 _, hst.set_ (by simp) _, hbw.setCell (by simp; omega) _, ?_, hH, hHH⟩
  have h1 := hb1.size
  have h2 := hb2.size
  have h3 := hg.size
  simp only [World.setCell, Array.size_modify]
  omega

set_option maxRecDepth 100000 in
set_option maxHeartbeats 400000 in
theorem fu_zero (m : Nd) (A : Option Addr) (cap g : Nat) (w : World) (M : Nd) (rm : Int) (h0 : 0 ≤ rm) (hr : rm < 1) :
    Calls Tryd.prog 20 #[.agg #[.int .i64 m.k, .int .i64 m.n, .string m.s, .slice A m.f.len cap], .slice (some ⟨g, 0, none⟩) 26 26, .int .i64 rm] w fun e w' => FuRes w M rm e w' := by
  obtain ⟨hb0, b0, b1⟩ := two_boxes w #[.int .i64 m.k, .int .i64 m.n, .string m.s, .slice A m.f.len cap] #[.int .i64 0, .int .i64 0, .string ⟨#[]⟩, .slice none 0 0]
  obtain ⟨d0, d1, d2, d3⟩ := cells4i b1
  obtain ⟨f0, f1, f2, f3⟩ := frozen4 b1
  have HB := Lib.hid b1
  have HB0 := Lib.hid hb0
  clear b0 b1 hb0
  go_enter Tryd.func20, Tryd.ntmps20
  go_wp2_with fail
  refine bodyPost_ret (v := .tuple #[.agg #[.int .i64 0, .int .i64 0, .string ⟨#[]⟩, .slice none 0 0], .int .i64 (-1)]) ?_ rfl ⟨⟨0, 0, ⟨#[]⟩, .nil⟩, none, 0, -1, rfl, made_nil HB0.out, fits_zero, by omega, by omega, .inr ⟨by omega, by omega⟩⟩
  exact results_cell_row2 Tryd.results20 _ _ (w.heap.size + 1) _ _ _ _ rfl HB.out Tryd.underlying31 rfl (by kernel_rfl)

end Go.Proofs.YtjmlcgpcjkgnhaaDoor

/- spec.l3Full, its loop. Condition: the term and the table lie in memory; the terms are well-formed. -/
namespace Go.Proofs.YtjmlcgpcjkgnhaaDoor
open Go.RowKit

set_option maxRecDepth 100000 in
set_option maxHeartbeats 4000000 in
theorem fu_of (rm : Int) (h0 : 0 ≤ rm) (h1 : rm ≤ 1000) (h : ∀ r, 0 ≤ r → r < rm → FuC r) : FuC rm := by
  intro σ m A cap lo hi g w hσ hs hk hh hg hK ht
  by_cases hr : rm < 1
  · exact fu_zero m A cap g w _ rm h0 hr
  obtain ⟨hb0, b0, b1⟩ := two_boxes w #[.int .i64 m.k, .int .i64 m.n, .string m.s, .slice A m.f.len cap] #[.int .i64 0, .int .i64 0, .string ⟨#[]⟩, .slice none 0 0]
  have hgl := hK.lt
  have C1 := fun w1 (hb : Below w.heap.size w w1) => walkS_any σ hσ hs m A cap lo hi g w1 (hk.below hb hh) (Nat.le_trans hh hb.size) hg (hK.below hb hh) ht
  have HMM : Hid (Tm (wk σ m) → suN (fin σ) m = ⟨(wk σ m).k, (wk σ m).n, (wk σ m).s, suF (fin σ) (wk σ m).f⟩) := Lib.hid (fu_M hσ m)
  have HREC := Lib.hid (fun (r : Int) (h3 : 0 ≤ r) (h4 : r < rm) (x : Nd) (A1 : Option Addr) (c1 : Nat) (w1 : World) (hb : Below w.heap.size w w1) (hk1 : KidsAt w1 lo hi x.f A1 c1) (ht1 : Tm x) => h r h3 h4 σ x A1 c1 lo hi g w1 hσ hs hk1 (Nat.le_trans hh hb.size) hg (hK.below hb hh) ht1)
  have H1 := Lib.hid C1
  have HB0 := Lib.hid hb0
  have HQ0 := Lib.hid b0
  have HQ1 := Lib.hid b1
  have HHI := Lib.hid hh
  clear C1 hb0 b0 b1 hk hK ht hσ hs h hg hgl hh
  generalize suN (fin σ) m = M at *
  generalize wk σ m = x at *
  generalize fin σ = τ at *
  obtain ⟨k, n, s, F⟩ := x
  obtain ⟨i0, hi0, hz0, hz1, hz2⟩ := info_parts infoT
  go_enter Tryd.func20, Tryd.ntmps20
  go_wp2_with fail
  refine (H1.out _ HB0.out).mono ?_
  rintro e w3 ⟨A3, c3, rfl, hk3, hb3, ht3⟩
  have hM := HMM.out ht3
  subst hM
  have hsz := HB0.out.size
  have hb13 := HB0.out.trans (hb3.mono hsz)
  have q0 := HQ0.out.below hb3 HQ0.out.lt
  have q1 := HQ1.out.below hb3 HQ1.out.lt
  have hl0 := q0.lt
  have hl1 := q1.lt
  obtain ⟨d0, d1, d2, d3⟩ := cells4i q0
  obtain ⟨f0, f1, f2, f3⟩ := frozen4 q0
  have HKW : Hid (KidsAt w lo hi F A3 c3) := Lib.hid (hk3.keep fun p _ hp => (hb13.cell (Nat.lt_of_lt_of_le hp HHI.out)).symm)
  have hst : FuP w k n s F.len A3 c3 w.heap.size w3.heap.size .nil (.slice none 0 0) (((((w3.setCell ⟨w.heap.size, 0, none⟩ (.int .i64 k)).setCell ⟨w.heap.size, 1, none⟩ (.int .i64 n)).setCell ⟨w.heap.size, 2, none⟩ (.string s)).setCell ⟨w.heap.size, 3, none⟩ (.slice A3 F.len c3)).alloc (.cells #[.int .i64 k, .int .i64 n, .string s, .slice none 0 0] 31)) := by
    have e0 := set4 q0 (.int .i64 k) (.int .i64 n) (.string s) (.slice A3 F.len c3)
    have e1 := ((((q1.far (p := ⟨w.heap.size, 0, none⟩) (by simp) (.int .i64 k)).far (p := ⟨w.heap.size, 1, none⟩) (by simp) (.int .i64 n)).far (p := ⟨w.heap.size, 2, none⟩) (by simp) (.string s)).far (p := ⟨w.heap.size, 3, none⟩) (by simp) (.slice A3 F.len c3))
    have eb := below4 hb13 (Nat.le_refl _) (.int .i64 k) (.int .i64 n) (.string s) (.slice A3 F.len c3)
    have es : ((((w3.setCell ⟨w.heap.size, 0, none⟩ (.int .i64 k)).setCell ⟨w.heap.size, 1, none⟩ (.int .i64 n)).setCell ⟨w.heap.size, 2, none⟩ (.string s)).setCell ⟨w.heap.size, 3, none⟩ (.slice A3 F.len c3)).heap.size = w3.heap.size := by simp [World.setCell]
    generalize ((((w3.setCell ⟨w.heap.size, 0, none⟩ (.int .i64 k)).setCell ⟨w.heap.size, 1, none⟩ (.int .i64 n)).setCell ⟨w.heap.size, 2, none⟩ (.string s)).setCell ⟨w.heap.size, 3, none⟩ (.slice A3 F.len c3)) = wq at *
    have e2 := Blk.new wq 31 #[.int .i64 k, .int .i64 n, .string s, .slice none 0 0]
    rw [es] at e2
    exact ⟨e0.alloc _, e1.alloc _, e2, RowP.nil _ _, eb.alloc eb.size _, by simp [es], Nat.le_refl _, by omega⟩
  have HST := Lib.hid hst
  have HFT : Hid (Fits k n s) := Lib.hid (shapeT_small ht3.1).1
  have HTF : Hid (TmF F) := Lib.hid ht3.kids
  have HXD : Hid (∀ j, (suF τ F).drop j = suF τ (F.drop j)) := Lib.hid (suF_drop τ F)
  have HXL : Hid ((suF τ F).len = F.len) := Lib.hid (suF_len τ F)
  have hlen : F.len ≤ 1000 := by have := len_le_nodes F; have := ht3.2; simp only at this; omega
  clear hst hk3 hb3 hb13 ht3 q0 q1 HMM H1 HQ0 HQ1 HB0
  simp only
  generalize hxe : suF τ F = X at *
  have HXE := Lib.hid hxe
  clear hxe
  generalize hn : F.len = len at *
  have HN := Lib.hid hn
  clear hn
  go_wp2_with fail
  go_loopw [9, 10] (fun lf i wr => ∃ (j : Nat) (lv : Int) (mf : Fr) (v : Value), j ≤ len ∧ lf = .int .i64 lv ∧ i = .int .i64 j ∧ TmF (F.drop j) ∧ LvP X rm j lv mf ∧ FuP w k n s len A3 c3 w.heap.size w3.heap.size mf v wr) (fun _ i _ => len - (intOf i).toNat)
  case atStart => exact ⟨0, rm - 1, .nil, .slice none 0 0, Nat.zero_le _, by go_num, rfl, HTF.out, ⟨⟨by omega, by omega⟩, rfl, .inl ⟨by omega, by cases X <;> rfl, by simp [nodes]⟩⟩, HST.out⟩
  case round =>
    obtain ⟨j, lv, mf, v, hj, rfl, rfl, htf, hlv, hp⟩ := hrel
    have HP := Lib.hid hp
    have HLV := Lib.hid hlv
    obtain ⟨⟨l1, l2⟩, hmf, _⟩ := hlv
    obtain ⟨b0, b1, b2, hr, hb, hs, hH, hHH⟩ := hp
    have a3 := b0.cell 3
    simp only [List.getElem?_toArray, List.getElem?_cons_zero, List.getElem?_cons_succ] at a3
    by_cases hgo : j < len ∧ 0 ≤ lv
    · obtain ⟨hlt, hlv0⟩ := hgo
      have hlr : lv < rm := by rcases HLV.out.2.2 with ⟨_, _, h⟩ | ⟨h, _⟩ <;> omega
      obtain ⟨kk, nn, s', kids, hd⟩ := Fr.drop_cons j F (by rw [HN.out]; exact hlt)
      obtain ⟨b, o, rfl, hlb, hbb, hrow⟩ := HKW.out.2.2 (by rw [HN.out]; omega)
      obtain ⟨hfit, A', cap', e0, e1, e2, e3, hkid⟩ := hrow.elem hd
      rw [hd] at htf
      have hlo : (⟨b, o, none⟩ : Addr).block < w.heap.size := Nat.lt_of_lt_of_le hbb HHI.out
      have k0 := (hb.cell (p := ⟨b, o + j * 4, none⟩) hlo).trans e0
      have k1 := (hb.cell (p := ⟨b, o + j * 4 + 1, none⟩) hlo).trans e1
      have k2 := (hb.cell (p := ⟨b, o + j * 4 + 2, none⟩) hlo).trans e2
      have k3 := (hb.cell (p := ⟨b, o + j * 4 + 3, none⟩) hlo).trans e3
      obtain ⟨xs, L, hown, hD, hN, hL, hv⟩ := hr
      rw [hmf] at hown
      have hvl := hown.lt
      have C2 : ∀ w1, Below wr.heap.size wr w1 → Calls Tryd.prog 20 #[.agg #[.int .i64 kk, .int .i64 nn, .string s', .slice A' kids.len cap'], .slice (some ⟨g, 0, none⟩) 26 26, .int .i64 lv] w1 fun e w' => FuRes w1 (suN τ ⟨kk, nn, s', kids⟩) lv e w' := fun w1 hb1 => by
        have hb2 := hb.trans (hb1.mono hb.size)
        exact HREC.out lv hlv0 hlr ⟨kk, nn, s', kids⟩ A' cap' w1 hb2 (hkid.below hb2 HHI.out) htf.cons.1
      have hX : X.drop j = .cons (suN τ ⟨kk, nn, s', kids⟩).k (suN τ ⟨kk, nn, s', kids⟩).n (suN τ ⟨kk, nn, s', kids⟩).s (suN τ ⟨kk, nn, s', kids⟩).f (suF τ (F.drop (j + 1))) := by rw [HXD.out, hd, suF_cons]
      generalize suN τ ⟨kk, nn, s', kids⟩ = MM at *
      have HLS : Hid (∀ (l : Int) (m : Nd), -1 ≤ l → l ≤ lv → ((nodes MM.f : Int) + 1 ≤ lv ∧ m = MM ∧ l = lv - 1 - nodes MM.f) ∨ (lv < (nodes MM.f : Int) + 1 ∧ l < 0) → LvP X rm (j + 1) l (mf.app (.cons m.k m.n m.s m.f .nil))) := Lib.hid fun l m g1 g2 g3 => HLV.out.step hlv0 hX g1 g2 g3
      have STEP := fun (mk mn : Int) (ms : ByteArray) (mg : Fr) (A2 : Option Addr) (cap2 : Nat) (w1 w2 w4 : World) (g4 cap4 : Nat) hfm hm hb2 hg ho hat => HP.out.step (kk := mk) (nn := mn) (s' := ms) (kids := mg) (w1 := w1) (w2 := w2) (w4 := w4) (A' := A2) (cap' := cap2) (g := g4) (cap4 := cap4) hmf hD hN hL hv hvl hfm hm hb2 hg ho hat
      have HT2 := Lib.hid htf.cons.2
      have H2 := Lib.hid C2
      have HSTEP := Lib.hid STEP
      have hne : some w3.heap.size ≠ v.ownBlock := fun e => by have := (hvl _ e.symm).1; omega
      have HNE := Lib.hid hne
      have keep : ∀ w2, Below wr.heap.size wr w2 → w2.ownsRow (w3.heap.size + 1) 31 4 v j xs := fun w2 hb2 =>
        hown.kept (row := none) ⟨hb2.os, hb2.tape, hb2.output, hb2.size, fun k hk _ => hb2.block k hk⟩ (by
          cases h : v.ownBlock with
          | none => exact .inl rfl
          | some g => exact .inr (by simp))
      have HKEEP := Lib.hid keep
      have HB2 := Lib.hid b2
      have hHs := hs
      have hsl := b2.lt
      have ij0 : (0 : Int) ≤ (j : Int) := Int.natCast_nonneg _
      have ij1 : (j : Int) < (len : Int) := by omega
      have hlvg : lv ≥ 0 := hlv0
      clear C2 STEP hown hD hN hL hv hvl hb hs hH b0 b1 b2 hrow hkid hd e0 e1 e2 e3 hfit hlo hne keep hX htf hlr
      go_wp2_with fail
      refine (H2.out wr (Below.refl _ _)).mono ?_
      rintro e w2 ⟨⟨mk, mn, ms, mg⟩, A2, c2, l, rfl, hm2, hf2, hl1, hl2, hres⟩
      simp only at hm2 hf2 ⊢
      have hd2 := made_below hm2
      have hs2 : wr.heap.size ≤ w2.heap.size := hd2.size
      have HO6 := Lib.hid ((HKEEP.out w2 hd2).alloc (.cells #[.int .i64 mk, .int .i64 mn, .string ms, .slice A2 mg.len c2] 31))
      have HQ2 := Lib.hid (HB2.out.below hd2 hsl)
      have y3 := (HQ2.out.alloc (.cells #[.int .i64 mk, .int .i64 mn, .string ms, .slice A2 mg.len c2] 31)).cell 3
      simp only [List.getElem?_toArray, List.getElem?_cons_zero, List.getElem?_cons_succ] at y3
      obtain ⟨x0, x1, x2, x3⟩ := cells4i (Blk.new w2 31 #[.int .i64 mk, .int .i64 mn, .string ms, .slice A2 mg.len c2])
      have hn6 := heap_alloc_new (w2.alloc (.cells #[.int .i64 mk, .int .i64 mn, .string ms, .slice A2 mg.len c2] 31)) (.cells #[.int .i64 mk, .int .i64 mn, .string ms, .slice A2 mg.len c2] 31)
      rw [show (w2.alloc (.cells #[.int .i64 mk, .int .i64 mn, .string ms, .slice A2 mg.len c2] 31)).heap.size = w2.heap.size + 1 by simp] at hn6
      have HN6 := Lib.hid hn6
      have HM2 := Lib.hid hm2
      have HF2 := Lib.hid hf2
      have HLX := Lib.hid (HLS.out l ⟨mk, mn, ms, mg⟩ hl1 hl2 hres)
      clear hn6 hm2 hf2 hd2 hres k0 k1 k2 k3 a3
      go_wp2_with (at_builtin; go_must (refine wpList_append_lies _ rfl _ _ _ rfl (w3.heap.size + 1) 31 i0 _ 4 56 Tryd.underlying29 hi0 hz0 hz1 hz2 rfl (by omega) v j xs rfl (HO6.out.alloc _) ⟨w2.heap.size + 1, 0, none⟩ 1 1 [.int .i64 mk, .int .i64 mn, .string ms, .slice A2 mg.len c2] rfl rfl (World.news_of_block (cs := #[.int .i64 mk, .int .i64 mn, .string ms, .slice A2 mg.len c2]) (fr := (0, 0)) HN6.out) (by simp [Value.oneCell']) (by omega) (by unfold maxLen; omega) (by omega) (by simp; omega) (w2.heap.size + 1 + 1) (by simp) ?_); intro g4 cap4 w4 hown4 hgrow hat hlt4; have q4 := ((HQ2.out.alloc (.cells #[.int .i64 mk, .int .i64 mn, .string ms, .slice A2 mg.len c2] 31)).alloc (.cells #[.int .i64 mk, .int .i64 mn, .string ms, .slice A2 mg.len c2] 31)).keep (hgrow.block _ (by simp; omega) HNE.out); have z3 := q4.cell 3; have zf := q4.frozen 3; simp only [List.getElem?_toArray, List.getElem?_cons_zero, List.getElem?_cons_succ] at z3; have HS := Lib.hid (HSTEP.out mk mn ms mg A2 c2 w2 _ w4 g4 cap4 HF2.out HM2.out (two_alloc w2 _ _) hgrow hown4 (by simpa using hat)); clear hown4 hgrow hat q4)
      go_roundw
      case rel => exact ⟨j + 1, l, _, _, by omega, rfl, by go_num, HT2.out, HLX.out, HS.out⟩
      case measure => simp [intOf]; omega
    · have HRES : Hid ((((nodes X : Int) + 1 ≤ rm ∧ (⟨k, n, s, mf⟩ : Nd) = ⟨k, n, s, X⟩ ∧ lv = rm - 1 - nodes X) ∨ (rm < (nodes X : Int) + 1 ∧ lv < 0))) := Lib.hid (by
        rcases HLV.out.2.2 with ⟨p1, p2, p3⟩ | ⟨p1, p2⟩
        · have hjl : j = len := by omega
          have hmx : mf = X := by rw [p2, hjl, show len = X.len from HXL.out.symm]; exact Fr.take_len X
          subst hmx
          exact .inl ⟨by omega, rfl, p3⟩
        · exact .inr ⟨by omega, p1⟩)
      obtain ⟨x0, x1, x2, x3⟩ := cells4i b2
      obtain ⟨d0, d1, d2, d3⟩ := cells4i b1
      obtain ⟨g0, g1, g2, g3⟩ := frozen4 b1
      obtain ⟨A2, cap2, rfl⟩ := hr.form
      have HB1 := Lib.hid b1
      have HR := Lib.hid hr
      have HB := Lib.hid hb
      have HNUM := Lib.hid (And.intro hs (And.intro hHH (And.intro l1 l2)))
      have hway : ((j : Int) < (len : Int) ∧ ¬ (lv ≥ 0)) ∨ ¬ ((j : Int) < (len : Int)) := by omega
      have ij0 : (0 : Int) ≤ (j : Int) := Int.natCast_nonneg _
      clear b0 b1 b2 hr hb HP hgo htf HLV HST HREC hs hHH hH hlen hsz hl0 hl1 hmf hj l1 l2 h0 h1
      rcases hway with ⟨t1, t2⟩ | t1
      all_goals
        go_wp2_with fail
        obtain ⟨hs, hHH, l1, l2⟩ := HNUM.out
        have hres : (((nodes (suF τ F) : Int) + 1 ≤ rm ∧ (⟨k, n, s, mf⟩ : Nd) = ⟨k, n, s, suF τ F⟩ ∧ lv = rm - 1 - nodes (suF τ F)) ∨ (rm < (nodes (suF τ F) : Int) + 1 ∧ lv < 0)) := by rw [HXE.out]; exact HRES.out
        have e1 := set4 HB1.out (.int .i64 k) (.int .i64 n) (.string s) (.slice A2 mf.len cap2)
        have hr2 := (((HR.out.set_ (p := ⟨w.heap.size + 1, 0, none⟩) (by simp; omega) (.int .i64 k)).set_ (p := ⟨w.heap.size + 1, 1, none⟩) (by simp; omega) (.int .i64 n)).set_ (p := ⟨w.heap.size + 1, 2, none⟩) (by simp; omega) (.string s)).set_ (p := ⟨w.heap.size + 1, 3, none⟩) (by simp; omega) (.slice A2 mf.len cap2)
        refine bodyPost_ret (v := .tuple #[.agg #[.int .i64 k, .int .i64 n, .string s, .slice A2 mf.len cap2], .int .i64 lv]) ?_ rfl ⟨⟨k, n, s, mf⟩, A2, cap2, lv, rfl, RowP.done (w0 := w) hr2 ?_ (by omega), HFT.out, l1, l2, hres⟩
        · exact results_cell_row2 Tryd.results20 _ _ (w.heap.size + 1) _ _ _ _ rfl e1 Tryd.underlying31 rfl (by kernel_rfl)
        · exact (((HB.out.setCell (p := ⟨w.heap.size + 1, 0, none⟩) (by simp) _).setCell (p := ⟨w.heap.size + 1, 1, none⟩) (by simp) _).setCell (p := ⟨w.heap.size + 1, 2, none⟩) (by simp) _).setCell (p := ⟨w.heap.size + 1, 3, none⟩) (by simp) _
theorem fu_all (N : Nat) : ∀ rm : Int, 0 ≤ rm → rm ≤ N → rm ≤ 1000 → FuC rm := by
  induction N with
  | zero => exact fun rm h0 h1 h2 => fu_of rm h0 h2 fun r h3 h4 => by omega
  | succ N ih => exact fun rm h0 h1 h2 => fu_of rm h0 h2 fun r h3 h4 => ih r h3 (by omega) (by omega)
/-- spec.l3Full. -/
theorem full_any (rm : Int) (h0 : 0 ≤ rm) (h1 : rm ≤ 1000) : FuC rm := fu_all rm.toNat rm h0 (by omega) h1
end Go.Proofs.YtjmlcgpcjkgnhaaDoor
