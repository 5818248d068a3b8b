/- unifier.occurs, whole: whether a free variable occurs in what a node stands for. Condition: the node and both maps lie in memory. -/
import Derived.Test.YtkefpickpjjllaaDoorProg
import Derived.Test.YtkefpickpjjllaaDoorZmUT43
import Derived.Test.YtkefpickpjjllaaDoorTb
import Derived.Deep.AppendLies
import Derived.Test.YtkefpickpjjllaaDoorNode
import Derived.Test.YtkefpickpjjllaaDoorOwn
import Derived.Test.YtkefpickpjjllaaDoorValid
import Derived.Test.YtkefpickpjjllaaDoorZmUT41
import Derived.Test.YtkefpickpjjllaaDoorMatch
import Derived.Test.YtkefpickpjjllaaDoorMatS
import Derived.Maps.Own
import Derived.Maps.OwnOps
import Derived.Maps.OwnSet
import Derived.LaidEql
import Derived.KernelRfl
namespace Go.Proofs.YtkefpickpjjllaaDoor
open Go.RowKit Go.Maps

set_option maxRecDepth 100000 in
set_option maxHeartbeats 4000000 in
/-- A number. -/
theorem ocNum (σ : Sub) (v n : Int) : OcP σ v ⟨2, n, ⟨#[]⟩, .nil⟩ := by
  intro S val lo hi mb ub sb w hnd hrg hv hs hh hsb hne hub hus hU hK hS
  rcases hv with ⟨hk1, _⟩ | ⟨_, rfl⟩ | ⟨hk1, _⟩
  · exact absurd hk1 (by show (2 : Int) ≠ 1; omega)
  · have HSN := Lib.hid hS
    have HND := Lib.hid (And.intro hnd hrg)
    clear hnd hrg hs hU hK hS
    show Calls _ _ #[_, _, .iface 112 (.int .i64 n), _] _ _
    go_enter Tryd.func75, Tryd.ntmps75
    go_wp2_with fail
    go_ret
    exact ⟨false, S, rfl, .refl _ _, HSN.out, fun _ h => h, HND.out.1, HND.out.2, fun h => (by cases h), fun _ => ⟨closed_refl σ v S, fun y hy => by
      unfold occN at hy
      rw [if_neg (show (2 : Int) ≠ 1 by omega)] at hy
      exact hy.elim⟩⟩
  · exact absurd hk1 (by show (2 : Int) ≠ 3; omega)
/-- A node, if its variables are settled. -/
theorem ocNode (σ : Sub) (v : Int) (N : Nat) : ∀ m : Nd, m.f.size ≤ N → (∀ y, occN m y → OcP σ v (vNd y)) → OcP σ v m := by
  induction N with
  | zero =>
    intro m hN hy S val lo hi mb ub sb w hnd hrg hv hs
    obtain ⟨k, n, s, f⟩ := m
    simp only at hN hs hv
    rcases hv with ⟨rfl, rfl⟩ | ⟨rfl, rfl⟩ | ⟨rfl, A, cap, rfl, hk⟩
    · obtain ⟨rfl, rfl, _⟩ := shapeT_var hs
      exact hy n (occ_var (m := ⟨1, n, ⟨#[]⟩, .nil⟩) rfl) S _ lo hi mb ub sb w hnd hrg (.inl ⟨rfl, rfl⟩) hs
    · obtain ⟨rfl, rfl, _⟩ := shapeT_leaf hs (by omega)
      exact ocNum σ v n S _ lo hi mb ub sb w hnd hrg (.inr (.inl ⟨rfl, rfl⟩)) hs
    · refine ocStruct σ v n s f (fun i k' n' s' kids rest hd => ?_) S _ lo hi mb ub sb w hnd hrg (.inr (.inr ⟨rfl, A, cap, rfl, hk⟩)) hs
      have h1 := Fr.size_drop i f
      rw [hd] at h1
      simp only [Fr.size] at h1
      omega
  | succ N ih =>
    intro m hN hy S val lo hi mb ub sb w hnd hrg hv hs
    obtain ⟨k, n, s, f⟩ := m
    simp only at hN hs hv
    rcases hv with ⟨rfl, rfl⟩ | ⟨rfl, rfl⟩ | ⟨rfl, A, cap, rfl, hk⟩
    · obtain ⟨rfl, rfl, _⟩ := shapeT_var hs
      exact hy n (occ_var (m := ⟨1, n, ⟨#[]⟩, .nil⟩) rfl) S _ lo hi mb ub sb w hnd hrg (.inl ⟨rfl, rfl⟩) hs
    · obtain ⟨rfl, rfl, _⟩ := shapeT_leaf hs (by omega)
      exact ocNum σ v n S _ lo hi mb ub sb w hnd hrg (.inr (.inl ⟨rfl, rfl⟩)) hs
    · refine ocStruct σ v n s f (fun i k' n' s' kids rest hd => ih _ ?_ fun y hyk => hy y ?_) S _ lo hi mb ub sb w hnd hrg (.inr (.inr ⟨rfl, A, cap, rfl, hk⟩)) hs
      · have h1 := Fr.size_drop i f
        rw [hd] at h1
        simp only [Fr.size] at h1
        show kids.size ≤ N
        omega
      · exact (occ_kids (m := ⟨3, n, s, f⟩) (by show (3 : Int) ≠ 1; omega) y).2 (occ_drop hyk i f hd)
/-- occurs, of every node. -/
theorem oc_any {σ : Sub} (hσ : Ok2 σ) (v : Int) (m : Nd) : OcP σ v m :=
  ocNode σ v m.f.size m (Nat.le_refl _) fun y _ => sub_ind hσ (P := fun x => OcP σ v (vNd x)) (fun x h => ocVar σ v x fun t ht => ocNode σ v t.f.size t (Nat.le_refl _) fun z hz => h t z ht hz) y
/-- What is said without anything followed yet. -/
theorem oc_says {σ : Sub} (hσ : Ok2 σ) {v : Int} (hv : lk σ v = none) {m : Nd} {w w' : World} {sb : Nat} {e : Ending} (h : OcRes σ v m w sb [] e w') : ∃ b, e = .returned (.bool b) ∧ Wrote [sb] w w' ∧ (b = true ↔ occN (suN (fin σ) m) v) := by
  obtain ⟨b, S', rfl, h1, _, _, _, _, h6, h7⟩ := h
  refine ⟨b, rfl, h1, fun hb => (occ_iff hσ hv m).2 (h6 hb), fun ho => ?_⟩
  cases b
  · obtain ⟨c1, c2⟩ := h7 rfl
    obtain ⟨y, hy, hr⟩ := (occ_iff hσ hv m).1 ho
    exact absurd (c2 y hy) (closed_no hv c1 hr)
  · rfl
end Go.Proofs.YtkefpickpjjllaaDoor

/- unifier.bind. Condition: the node, the map of bindings and the trail lie in memory. -/
namespace Go.Proofs.YtkefpickpjjllaaDoor
open Go.RowKit Go.Maps

theorem infoVa : (Tryd.prog.info? 67).map (fun i => (i.zero, i.size, i.bytes)) = some (some (.int .i64 0), 1, 8) := by kernel_rfl
theorem seen_new (w : World) : SeenB (w.alloc (.map #[] 0)) w.heap.size [] := ⟨.map [], World.ownsMap_made w _ _ _, isMap_empty, (fun n hn => by cases hn), fun n _ => rfl⟩
/-- The unifier in block ub: its map of bindings, its trail, its map of what is done. -/
def UnU (w : World) (lo hi ub mb db base : Nat) (σ : Sub) (T : List Int) (tv : Value) : Prop :=
  Blk w ub 83 #[.map (some mb), tv, .map (some db)] ∧ w.ownsRow base 67 1 tv T.length (T.map (Value.int .i64)) ∧ MpS w lo hi mb σ
/-- Below base only the blocks L are written. -/
def Kept (base : Nat) (L : List Nat) (w w' : World) : Prop := w'.os = w.os ∧ w'.tape = w.tape ∧ w'.output = w.output ∧ w.heap.size ≤ w'.heap.size ∧ ∀ x, x < base → x ∉ L → w'.heap[x]? = w.heap[x]?
theorem Kept.trans {base : Nat} {L : List Nat} {w w1 w2 : World} (h : Kept base L w w1) (k : Kept base L w1 w2) : Kept base L w w2 :=
  ⟨k.1.trans h.1, k.2.1.trans h.2.1, k.2.2.1.trans h.2.2.1, Nat.le_trans h.2.2.2.1 k.2.2.2.1, fun x hx hn => (k.2.2.2.2 x hx hn).trans (h.2.2.2.2 x hx hn)⟩
theorem Kept.of_below {base B : Nat} {L : List Nat} {w w1 : World} (h : Below B w w1) (hB : base ≤ B) : Kept base L w w1 := ⟨h.os, h.tape, h.output, h.size, fun x hx _ => h.block x (by omega)⟩
theorem UnU.below {w w' : World} {lo hi ub mb db base : Nat} {σ : Sub} {T : List Int} {tv : Value} (h : UnU w lo hi ub mb db base σ T tv) (hb : Below w.heap.size w w') (hh : hi ≤ w.heap.size) : UnU w' lo hi ub mb db base σ T tv := by
  refine ⟨h.1.below hb h.1.lt, h.2.1.kept (row := none) ⟨hb.os, hb.tape, hb.output, hb.size, fun k hk _ => hb.block k hk⟩ ?_, h.2.2.below hb hh⟩
  cases h : tv.ownBlock with
  | none => exact .inl rfl
  | some g => exact .inr (by simp)
def BnRes (w : World) (lo hi ub mb db base : Nat) (σ : Sub) (T : List Int) (v : Int) (m : Nd) (e : Ending) (w' : World) : Prop :=
  ∃ (b : Bool) (tv : Value), e = .returned (.bool b) ∧ (b = true ↔ ¬ occN (suN (fin σ) m) v) ∧ (b = true → UnU w' lo hi ub mb db base ((v, m) :: σ) (T ++ [v]) tv) ∧ (b = false → UnU w' lo hi ub mb db base σ T tv) ∧ Kept base [ub, mb] w w'

set_option maxRecDepth 100000 in
set_option maxHeartbeats 4000000 in
/-- unifier.bind. -/
theorem bind_any {σ : Sub} (hσ : Ok2 σ) (v : Int) (hfree : lk σ v = none) (m : Nd) (val : Value) (lo hi ub mb db base : Nat) (T : List Int) (tv : Value) (w : World)
    (hv : NdV w lo hi m.k m.n m.s m.f val) (hs : shapeT m.k m.n m.s m.f 30 = true) (hh : hi ≤ ub) (hm : hi ≤ mb) (hne : ub ≠ mb) (hub : ub < base) (hmb : mb < base) (hbs : base ≤ w.heap.size) (hT : T.length ≤ 1000) (hl : σ.length ≤ 1000) (hvr : 0 ≤ v ∧ v ≤ 25) (hU : UnU w lo hi ub mb db base σ T tv) :
    Calls Tryd.prog 60 #[.pointer (some ⟨ub, 0, none⟩), .int .i64 v, val] w fun e w' => BnRes w lo hi ub mb db base σ T v m e w' := by
  have hmm := @run_makeMap Tryd.prog
  obtain ⟨i0, hi0, hz0, hz1, hz2⟩ := info_parts infoVa
  have hba : Below w.heap.size w (w.alloc (.map #[] 0)) := (Below.refl _ _).alloc (Nat.le_refl _) _
  have hU1 := hU.below hba (by omega)
  have C1 := oc_any hσ v m [] val lo hi mb ub w.heap.size (w.alloc (.map #[] 0)) List.nodup_nil (fun x hx => by cases hx) (hv.keep (fun p _ hp => hba.cell (by omega)) (Nat.le_refl _) (Nat.le_refl _)) hs (by simp; omega) (by omega) (by omega) (by simp; omega) (by omega) (hU1.1.cell 0) hU1.2.2 (seen_new w)
  have H1 := Lib.hid C1
  have HSAY := Lib.hid (fun (w' : World) (e : Ending) (h : OcRes σ v m (w.alloc (.map #[] 0)) w.heap.size [] e w') => oc_says hσ hfree h)
  have HU := Lib.hid hU
  have HV := Lib.hid hv
  have HS := Lib.hid hs
  have hkey : keyOf Tryd.prog 67 (.int .i64 v) = some (.int .i64 v) := keyOf_int_mk Tryd.underlying67 (WalkArith.wf_i64 (by omega))
  obtain ⟨T2, z2, rfl⟩ := hv.iface
  clear C1 hba hU1 hU hv hs hσ hfree
  go_enter Tryd.func60, Tryd.ntmps60
  go_wp2_with fail
  refine H1.out.mono ?_
  rintro e w2 h
  obtain ⟨b, rfl, hw, hbo⟩ := HSAY.out w2 e h
  have hb2 : Below w.heap.size w w2 := ((Below.refl _ _).alloc (Nat.le_refl _) _).trans (hw.below (by simp) fun x hx => by simp at hx; omega)
  have hU2 := HU.out.below hb2 (by omega)
  have HU2 := Lib.hid hU2
  have HBO := Lib.hid hbo
  have HB2 := Lib.hid hb2
  have hs2 := hb2.size
  clear h hw hb2 hbo H1 HSAY
  cases b
  · obtain ⟨hq, hrow, D, hD, hI, hH, hX⟩ := hU2
    have hv2 := HV.out.keep (w' := w2) (fun p _ hp => HB2.out.cell (by omega)) (Nat.le_refl _) (Nat.le_refl _)
    have PUT := fun w3 h4 hg => MpS.put (w := w2) (w1 := w3) (lo := lo) (hi := hi) (mb := mb) (n := v) hI hH hX hm (by omega) h4 hg HS.out hv2
    have hvl := hrow.lt
    have HKR : Hid (∀ w3, w2.grownBy w3 (some mb) → w3.ownsRow base 67 1 tv T.length (T.map (Value.int .i64))) := Lib.hid fun w3 hg => hrow.kept hg (by
      cases h : tv.ownBlock with
      | none => exact .inl rfl
      | some g => exact .inr fun e => by injection e with e; have := (hvl g h).1; omega)
    have HP := Lib.hid PUT
    have HD := Lib.hid hD
    have HVL := Lib.hid hvl
    have x0 := hq.cell 0
    have x1 := hq.cell 1
    simp only [List.getElem?_toArray, List.getElem?_cons_zero, List.getElem?_cons_succ] at x0 x1
    have HQ := Lib.hid hq
    generalize hvs : T.map (Value.int .i64) = vs at *
    have HVS := Lib.hid hvs
    generalize htn : T.length = tn at *
    have HTN := Lib.hid htn
    clear hq hrow hD hI hH hX hv2 PUT hvl hvs htn hmm
    go_wp2_with (first
      | (at_mapUpdate; refine wpList_mapUpdate_own _ rfl _ _ _ 66 rfl 67 53 lawN Tryd.underlying66 heldR mb σ.length D rfl HD.out (by unfold maxLen; omega) _ _ _ rfl rfl hkey (.held (.iface T2 z2)) [] rfl ?_; intro w3 hown3 hgrow3; have b3 := HQ.out.keep (hgrow3.block ub (by omega) (fun e => hne (by injection e))); have z1 := b3.cell 1; simp only [List.getElem?_toArray, List.getElem?_cons_zero, List.getElem?_cons_succ] at z1; have HB3 := Lib.hid b3; have HR3 := Lib.hid (HKR.out w3 hgrow3); have HNEW := Lib.hid (heap_alloc_new w3 (.cells #[.int .i64 v] 67)); have HO3 := Lib.hid hown3; have HG3 := Lib.hid hgrow3; have hs3 := hgrow3.size; clear hown3 hgrow3 b3)
      | (at_builtin; go_must (refine wpList_append_lies _ rfl _ _ _ rfl base 67 i0 _ 1 8 Tryd.underlying81 hi0 hz0 hz1 hz2 rfl (by omega) tv tn vs rfl (HR3.out.alloc _) ⟨w3.heap.size, 0, none⟩ 1 1 [.int .i64 v] rfl rfl (World.news_of_block (cs := #[.int .i64 v]) (t := 67) (fr := (0, 0)) HNEW.out) (by simp [Value.oneCell']) (by omega) (by unfold maxLen; omega) (by omega) (by simp; omega) (w3.heap.size + 1) (by simp) ?_); intro g9 cap9 w9 hown9 hgrow9 hat9 hlt9; have b9 := (HB3.out.alloc (.cells #[.int .i64 v] 67)).keep (hgrow9.block ub (by simp; omega) (fun e => by have := (HVL.out ub e.symm).1; omega)); have y1 := b9.cell 1; have yf := b9.frozen 1; simp only [List.getElem?_toArray, List.getElem?_cons_zero, List.getElem?_cons_succ] at y1; have HB9 := Lib.hid b9; have HO9 := Lib.hid hown9; have HG9 := Lib.hid hgrow9; clear hown9 hgrow9 b9 hat9))
    go_ret
    have hg9 := HG9.out
    have hW : Wrote (ub :: tv.ownBlock.toList) w3 (w9.setCell ⟨ub, 1, none⟩ (.slice (some ⟨g9, 0, none⟩) (tn + 1) cap9)) := by
      have h1 : Wrote (ub :: tv.ownBlock.toList) w3 w9 := ⟨hg9.os, hg9.tape, hg9.output, by have := hg9.size; simp at this; omega, fun x hx hn => (hg9.block x (by simp; omega) fun e => hn (by rw [← e]; simp)).trans (heap_alloc_old (r := x) w3 _ hx)⟩
      exact h1.set_ (.inl (by simp)) _
    refine ⟨true, .slice (some ⟨g9, 0, none⟩) (tn + 1) cap9, rfl, ⟨fun _ h => (by have := HBO.out.2 h; cases this), fun _ => rfl⟩, fun _ => ⟨HB9.out.set_ 1 _, ?_, ?_⟩, fun h => (by cases h), ?_⟩
    · rw [List.length_append, List.map_append, HVS.out, HTN.out]
      exact ownsRow_setCell_below HO9.out (by exact hub) _
    · refine (HP.out w3 HO3.out HG3.out).wrote hW ?_ (by omega) ?_
      · intro hx
        rcases List.mem_cons.1 hx with h | h
        · exact hne h.symm
        · have := (HVL.out mb (by simpa using h)).1; omega
      · intro x hx
        rcases List.mem_cons.1 hx with rfl | h
        · exact hh
        · have := (HVL.out x (by simpa using h)).1; omega
    · refine (Kept.of_below HB2.out hbs).trans ⟨hW.os.trans HG3.out.os, hW.tape.trans HG3.out.tape, hW.output.trans HG3.out.output, Nat.le_trans HG3.out.size hW.size, fun x hx hn => ?_⟩
      have n1 : x ≠ ub := fun e => hn (by simp [e])
      have n2 : x ≠ mb := fun e => hn (by simp [e])
      rw [hW.block x (by omega) fun h => by
        rcases List.mem_cons.1 h with h | h
        · exact n1 h
        · have := (HVL.out x (by simpa using h)).1; omega]
      exact HG3.out.block x (by omega) fun e => n2 (by injection e)
  · clear hU2 hmm
    go_wp2_with fail
    go_ret
    exact ⟨false, tv, rfl, ⟨fun h => (by cases h), fun h => absurd (HBO.out.1 (by first | rfl | trivial)) h⟩, fun h => (by cases h), fun _ => HU2.out, Kept.of_below HB2.out hbs⟩
end Go.Proofs.YtkefpickpjjllaaDoor

/- impl's nodes in memory, each row of nodes the whole of its block (nothing lies behind it). No condition. -/
namespace Go.Proofs.YtkefpickpjjllaaDoor.Full
open Go.RowKit

/-- The nodes of the row f lie in block b from cell o on; what they lead to lies in blocks from lo to below hi. -/
def NdRow (w : World) (lo hi : Nat) : Fr → Nat → Nat → Prop
  | .nil, _, _ => True
  | .cons k n s kids rest, b, o => (∃ v, w.cell? ⟨b, o, none⟩ = some v ∧
      ((k = 1 ∧ v = .iface 67 (.int .i64 n)) ∨ (k = 2 ∧ v = .iface 112 (.int .i64 n)) ∨
        (k = 3 ∧ ∃ (A : Option Addr) (cap : Nat), v = .iface 105 (.agg #[.string s, .slice A kids.len cap]) ∧ kids.len ≤ cap ∧ cap ≤ maxLen ∧ (0 < kids.len → ∃ b', A = some ⟨b', 0, none⟩ ∧ lo ≤ b' ∧ b' < hi ∧ ((∃ t cur, Blk w b' t cur ∧ cur.size = kids.len) ∧ NdRow w lo hi kids b' 0))))) ∧ NdRow w lo hi rest b (o + 1)
/-- The slice of nodes. -/
def NdS (w : World) (lo hi : Nat) (f : Fr) (A : Option Addr) (cap : Nat) : Prop :=
  f.len ≤ cap ∧ cap ≤ maxLen ∧ (0 < f.len → ∃ b', A = some ⟨b', 0, none⟩ ∧ lo ≤ b' ∧ b' < hi ∧ ((∃ t cur, Blk w b' t cur ∧ cur.size = f.len) ∧ NdRow w lo hi f b' 0))
/-- v is the node of the term. -/
def NdV (w : World) (lo hi : Nat) (k n : Int) (s : ByteArray) (kids : Fr) (v : Value) : Prop :=
  (k = 1 ∧ v = .iface 67 (.int .i64 n)) ∨ (k = 2 ∧ v = .iface 112 (.int .i64 n)) ∨
    (k = 3 ∧ ∃ (A : Option Addr) (cap : Nat), v = .iface 105 (.agg #[.string s, .slice A kids.len cap]) ∧ NdS w lo hi kids A cap)
section
variable {w w' : World} {lo hi lo' hi' : Nat}
theorem NdRow.keep (hk : ∀ x, lo ≤ x → x < hi → w'.heap[x]? = w.heap[x]?) (hL : lo' ≤ lo) (hH : hi ≤ hi') (f : Fr) :
    ∀ b o, (∀ j, j < f.len → w'.cell? ⟨b, o + j, none⟩ = w.cell? ⟨b, o + j, none⟩) → NdRow w lo hi f b o → NdRow w' lo' hi' f b o := by
  induction f with
  | nil => intro b o _ _; trivial
  | cons k n s kids rest ihk ihr =>
    rintro b o hc ⟨⟨v, hv, hw⟩, hr⟩
    simp only [Fr.len] at hc
    refine ⟨⟨v, (hc 0 (by omega)).trans hv, ?_⟩, ihr b (o + 1) (fun j hj => ?_) hr⟩
    · rcases hw with h | h | ⟨h1, A, cap, h2, h3, h4, h5⟩
      · exact .inl h
      · exact .inr (.inl h)
      · refine .inr (.inr ⟨h1, A, cap, h2, h3, h4, fun hp => ?_⟩)
        obtain ⟨b', e, hl, hb, hrow⟩ := h5 hp
        obtain ⟨⟨t, cur, hB, hS⟩, hrow⟩ := hrow
        exact ⟨b', e, by omega, by omega, ⟨t, cur, hB.keep (hk _ hl hb), hS⟩, ihk b' 0 (fun j _ => World.cell?_of_block (hk _ hl hb)) hrow⟩
    · have := hc (j + 1) (by omega)
      rwa [show o + (j + 1) = o + 1 + j by omega] at this
theorem NdS.keep {f : Fr} {A : Option Addr} {cap : Nat} (h : NdS w lo hi f A cap) (hk : ∀ x, lo ≤ x → x < hi → w'.heap[x]? = w.heap[x]?) (hL : lo' ≤ lo) (hH : hi ≤ hi') : NdS w' lo' hi' f A cap :=
  ⟨h.1, h.2.1, fun hp => by
    obtain ⟨b', e, hl, hb, hrow⟩ := h.2.2 hp
    obtain ⟨⟨t, cur, hB, hS⟩, hrow⟩ := hrow
    exact ⟨b', e, by omega, by omega, ⟨t, cur, hB.keep (hk _ hl hb), hS⟩, NdRow.keep hk hL hH f b' 0 (fun j _ => World.cell?_of_block (hk _ hl hb)) hrow⟩⟩
theorem NdV.keep {k n : Int} {s : ByteArray} {kids : Fr} {v : Value} (h : NdV w lo hi k n s kids v) (hk : ∀ x, lo ≤ x → x < hi → w'.heap[x]? = w.heap[x]?) (hL : lo' ≤ lo) (hH : hi ≤ hi') : NdV w' lo' hi' k n s kids v := by
  rcases h with h | h | ⟨h1, A, cap, h2, h3⟩
  · exact .inl h
  · exact .inr (.inl h)
  · exact .inr (.inr ⟨h1, A, cap, h2, h3.keep hk hL hH⟩)
theorem NdV.iface {k n : Int} {s : ByteArray} {kids : Fr} {v : Value} (h : NdV w lo hi k n s kids v) : ∃ T x, v = .iface T x := by
  rcases h with ⟨_, rfl⟩ | ⟨_, rfl⟩ | ⟨_, A, cap, rfl, _⟩
  · exact ⟨_, _, rfl⟩
  · exact ⟨_, _, rfl⟩
  · exact ⟨_, _, rfl⟩
/-- One node more behind a row. -/
theorem NdRow.snoc (f : Fr) {k n : Int} {s : ByteArray} {kids : Fr} {v : Value} (hv : NdV w lo hi k n s kids v) :
    ∀ b o, NdRow w lo hi f b o → w.cell? ⟨b, o + f.len, none⟩ = some v → NdRow w lo hi (f.app (.cons k n s kids .nil)) b o := by
  induction f with
  | nil =>
    intro b o _ hc
    refine ⟨⟨v, hc, ?_⟩, trivial⟩
    rcases hv with h | h | ⟨h1, A, cap, h2, h3⟩
    · exact .inl h
    · exact .inr (.inl h)
    · exact .inr (.inr ⟨h1, A, cap, h2, h3.1, h3.2.1, h3.2.2⟩)
  | cons k' n' s' kids' rest' _ ihr =>
    intro b o h hc
    refine ⟨h.1, ihr b (o + 1) h.2 ?_⟩
    rw [← hc]
    simp only [Fr.len]
    rw [show o + (rest'.len + 1) = o + 1 + rest'.len by omega]
theorem NdRow.at_ (f : Fr) : ∀ (i b o : Nat), NdRow w lo hi f b o → NdRow w lo hi (f.drop i) b (o + i) := by
  induction f with
  | nil => intro i b o _; cases i <;> trivial
  | cons k n s kids rest _ ihr =>
    intro i b o h
    cases i with
    | zero => exact h
    | succ i =>
      have := ihr i b (o + 1) h.2
      rw [show o + 1 + i = o + (i + 1) by omega] at this
      exact this
/-- Node i of a row. -/
theorem NdRow.elem {f : Fr} {i b o : Nat} {k n : Int} {s : ByteArray} {kids rest : Fr} (h : NdRow w lo hi f b o) (hd : f.drop i = .cons k n s kids rest) : ∃ v, w.cell? ⟨b, o + i, none⟩ = some v ∧ NdV w lo hi k n s kids v := by
  have h1 := NdRow.at_ f i b o h
  rw [hd] at h1
  obtain ⟨⟨v, hv, hw⟩, _⟩ := h1
  refine ⟨v, hv, ?_⟩
  rcases hw with h | h | ⟨h1, A, cap, h2, h3, h4, h5⟩
  · exact .inl h
  · exact .inr (.inl h)
  · exact .inr (.inr ⟨h1, A, cap, h2, h3, h4, h5⟩)
end

/-- What a call of the node maker leaves: its count in block mb, and, where it made one, the node. -/
def MkRes (w : World) (mb : Nat) (ok : Bool) (l : Int) (k n : Int) (s : ByteArray) (kids : Fr) (e : Ending) (w' : World) : Prop :=
  w.grownBy w' (some mb) ∧
    ((ok = true ∧ ∃ v, e = .returned (.tuple #[v, .bool true]) ∧ NdV w' w.heap.size w'.heap.size k n s kids v ∧ Blk w' mb 99 #[.int .i64 l]) ∨
     (ok = false ∧ e = .returned (.tuple #[.nilIface, .bool false]) ∧ ∃ l', Blk w' mb 99 #[.int .i64 l']))

/-- The loop's relation: j nodes are made, in block g. -/
def MPart (w : World) (f : Fr) (mb g j : Nat) (l : Int) (wr : World) : Prop :=
  w.grownBy wr (some mb) ∧ Blk wr mb 99 #[.int .i64 l] ∧ (∃ cur, Blk wr g 53 cur ∧ cur.size = f.len) ∧ NdRow wr (g + 1) wr.heap.size (f.take j) g 0 ∧ w.heap.size ≤ g ∧ mb < w.heap.size
/-- One node more. -/
theorem MPart.step {w wr w1 w2 : World} {f : Fr} {mb g i : Nat} {l l' : Int} {k n : Int} {s : ByteArray} {kids rest : Fr} {v : Value}
    (h : MPart w f mb g i l wr) (hd : f.drop i = .cons k n s kids rest) (hi : i < f.len) (h1 : wr.grownBy w1 (some mb)) (h2 : w1.grownBy w2 (some mb)) (hv : NdV w2 w1.heap.size w2.heap.size k n s kids v) (hm : Blk w2 mb 99 #[.int .i64 l']) :
    MPart w f mb g (i + 1) l' (w2.setCell ⟨g, i, none⟩ v) := by
  obtain ⟨hg, hmb, ⟨cur, hblk, hs⟩, hrow, hgl, hml⟩ := h
  have hgm : g ≠ mb := by omega
  have hlt := hblk.lt
  have h12 := grownBy_trans h1 h2
  have b2 := hblk.grown h12 hgm
  have far : ∀ x, x ≠ g → (w2.setCell ⟨g, i, none⟩ v).heap[x]? = w2.heap[x]? := fun x hp => heap_setCell_other w2 ⟨g, i, none⟩ x v hp
  have hsz : (w2.setCell ⟨g, i, none⟩ v).heap.size = w2.heap.size := by simp [World.setCell]
  have hlen : (f.take i).len = i := Fr.len_take i f (by omega)
  refine ⟨grownBy_set (grownBy_trans hg h12) (.inl hgl) v, hm.far (by simpa using Ne.symm hgm) v, ⟨_, b2.set_ i v, by simpa using hs⟩, ?_, hgl, hml⟩
  rw [Fr.take_succ i f hd, hsz]
  refine NdRow.snoc (f.take i) (hv.keep (fun p hp _ => far p (by have := h1.size; omega)) (by have := h1.size; omega) (Nat.le_refl _)) g 0 ?_ ?_
  · refine NdRow.keep (fun p hp hp' => ?_) (Nat.le_refl _) h12.size (f.take i) g 0 (fun j hj => ?_) hrow
    · rw [far p (by omega)]
      exact h12.block p hp' (by simp; omega)
    · rw [hlen] at hj
      rw [(b2.set_ i v).cell, hblk.cell]
      simp only [Array.getElem?_setIfInBounds]
      rw [if_neg (by omega)]
  · rw [hlen, (b2.set_ i v).cell]
    simp [Array.getElem?_setIfInBounds]
    omega
theorem MPart.start {w w1 w2 : World} {f : Fr} {mb base : Nat} {xs : List Value} {l : Int} (h1 : w.grownBy w1 (some mb)) (hmb : Blk w1 mb 99 #[.int .i64 l]) (hml : mb < w.heap.size)
    (hown : w2.ownsRow base 53 1 (.slice (some ⟨w1.heap.size, 0, none⟩) f.len f.len) f.len xs) (hg : w1.grownBy w2 none) : MPart w f mb w1.heap.size 0 l w2 := by
  rcases hown.2 with ⟨h', _⟩ | ⟨g', cap', cur, h', _, hb, _, _, hs, _⟩
  · simp at h'
  · simp only [Value.slice.injEq, Option.some.injEq, Addr.mk.injEq, and_true, true_and] at h'
    obtain ⟨rfl, rfl⟩ := h'
    have hg' : w1.grownBy w2 (some mb) := ⟨hg.os, hg.tape, hg.output, hg.size, fun k hk _ => hg.block k hk (by simp)⟩
    exact ⟨grownBy_trans h1 hg', hmb.keep (hg.block mb hmb.lt (by simp)), ⟨cur, hb, by simpa using hs⟩, trivial, h1.size, hml⟩
end Go.Proofs.YtkefpickpjjllaaDoor.Full

/- A map of nodes as impl holds it; impl.alike. Condition: the nodes lie in memory and are well-formed. -/
namespace Go.Proofs.YtkefpickpjjllaaDoor.Full
open Go.RowKit Go.Maps

/-- The map in block mb holds the nodes of what st knows. -/
def MpS (w : World) (lo hi mb : Nat) (st : St) : Prop := ∃ D : DataW Value, w.ownsMap Tryd.prog 67 heldR mb st.length D ∧ IsMap D ∧ (∀ n, has D (.int .i64 n) = (lkS st n).isSome) ∧
  ∀ n m, lkS st n = some m → shapeT m.k m.n m.s m.f 30 = true ∧ ∃ v, D.atKey (.int .i64 n) (.held .nilIface) = .held v ∧ NdV w lo hi m.k m.n m.s m.f v
theorem MpS.wrote {w w' : World} {lo hi mb : Nat} {st : St} {L : List Nat} (h : MpS w lo hi mb st) (hb : Wrote L w w') (hg : mb ∉ L) (hh : hi ≤ w.heap.size) (hL : ∀ x ∈ L, hi ≤ x) : MpS w' lo hi mb st := by
  obtain ⟨D, hD, h1, h2, h3⟩ := h
  have hlt := hD.lt
  obtain ⟨es, clock, he, r⟩ := hD
  refine ⟨D, ⟨es, clock, (hb.block mb hlt hg).trans he, r⟩, h1, h2, fun n m hm => ?_⟩
  obtain ⟨a, v, b, c⟩ := h3 n m hm
  exact ⟨a, v, b, c.keep (fun p _ hp => hb.block p (by omega) fun e => by have := hL _ e; omega) (Nat.le_refl _) (Nat.le_refl _)⟩
theorem MpS.below {w w' : World} {lo hi mb : Nat} {st : St} (h : MpS w lo hi mb st) (hb : Below w.heap.size w w') (hh : hi ≤ w.heap.size) : MpS w' lo hi mb st := h.wrote (.of_below hb []) (by simp) hh (by simp)
theorem MpS.lt {w : World} {lo hi mb : Nat} {st : St} (h : MpS w lo hi mb st) : mb < w.heap.size := by
  obtain ⟨D, hD, _⟩ := h
  exact hD.lt
/-- One more. -/
theorem MpS.put {w w1 : World} {lo hi mb : Nat} {st : St} {D : DataW Value} {n : Int} {m : Nd} {v : Value} (h1 : IsMap D) (h2 : ∀ n, has D (.int .i64 n) = (lkS st n).isSome)
    (h3 : ∀ n m, lkS st n = some m → shapeT m.k m.n m.s m.f 30 = true ∧ ∃ v, D.atKey (.int .i64 n) (.held .nilIface) = .held v ∧ NdV w lo hi m.k m.n m.s m.f v) (hm : hi ≤ mb) (hh : hi ≤ w.heap.size)
    (hD : w1.ownsMap Tryd.prog 67 heldR mb (st.length + 1) (D.put (.int .i64 n) (.held v))) (hg : w.grownBy w1 (some mb)) (hs : shapeT m.k m.n m.s m.f 30 = true) (hv : NdV w lo hi m.k m.n m.s m.f v) : MpS w1 lo hi mb ((n, m) :: st) := by
  have far : ∀ x, lo ≤ x → x < hi → w1.heap[x]? = w.heap[x]? := fun x _ hp => hg.block x (by omega) (by simp; omega)
  refine ⟨_, hD, h1.put _ _, fun x => ?_, fun x o ho => ?_⟩
  · by_cases e : x = n
    · subst e
      rw [has_put_same h1 (show WideAt.IsKeyLit (.int .i64 x) from trivial), lkS_same]; rfl
    · rw [has_put_other (fun h => e (by injection h)), lkS_other _ _ _ _ e, h2]
  · by_cases e : x = n
    · subst e
      rw [lkS_same] at ho
      injection ho with ho
      subst ho
      exact ⟨hs, v, atKey_put_same h1 (show WideAt.IsKeyLit (.int .i64 x) from trivial) _ _, hv.keep far (Nat.le_refl _) (Nat.le_refl _)⟩
    · rw [lkS_other _ _ _ _ e] at ho
      obtain ⟨a, u, b, c⟩ := h3 x o ho
      exact ⟨a, u, (atKey_put_other (fun h => e (by injection h)) _ _).trans b, c.keep far (Nat.le_refl _) (Nat.le_refl _)⟩

end Go.Proofs.YtkefpickpjjllaaDoor.Full

/- What is said of full rows of nodes holds of rows of nodes. No condition. -/
namespace Go.Proofs.YtkefpickpjjllaaDoor.Full
open Go.RowKit Go.Maps

theorem NdRow.plain {w : World} {lo hi : Nat} (f : Fr) : ∀ b o, NdRow w lo hi f b o → Go.Proofs.YtkefpickpjjllaaDoor.NdRow w lo hi f b o := by
  induction f with
  | nil => intro b o _; trivial
  | cons k n s kids rest ihk ihr =>
    rintro b o ⟨⟨v, hv, hw⟩, hr⟩
    refine ⟨⟨v, hv, ?_⟩, ihr b (o + 1) hr⟩
    rcases hw with h | h | ⟨h1, A, cap, h2, h3, h4, h5⟩
    · exact .inl h
    · exact .inr (.inl h)
    · refine .inr (.inr ⟨h1, A, cap, h2, h3, h4, fun hp => ?_⟩)
      obtain ⟨b', e, hl, hb, hrow⟩ := h5 hp
      exact ⟨b', e, hl, hb, ihk b' 0 hrow.2⟩
theorem NdS.plain {w : World} {lo hi : Nat} {f : Fr} {A : Option Addr} {cap : Nat} (h : NdS w lo hi f A cap) : Go.Proofs.YtkefpickpjjllaaDoor.NdS w lo hi f A cap :=
  ⟨h.1, h.2.1, fun hp => by
    obtain ⟨b', e, hl, hb, hrow⟩ := h.2.2 hp
    exact ⟨b', e, hl, hb, hrow.2.plain⟩⟩
theorem NdV.plain {w : World} {lo hi : Nat} {k n : Int} {s : ByteArray} {kids : Fr} {v : Value} (h : NdV w lo hi k n s kids v) : Go.Proofs.YtkefpickpjjllaaDoor.NdV w lo hi k n s kids v := by
  rcases h with h | h | ⟨h1, A, cap, h2, h3⟩
  · exact .inl h
  · exact .inr (.inl h)
  · exact .inr (.inr ⟨h1, A, cap, h2, h3.plain⟩)
theorem MpS.plain {w : World} {lo hi mb : Nat} {st : St} (h : MpS w lo hi mb st) : Go.Proofs.YtkefpickpjjllaaDoor.MpS w lo hi mb st := by
  obtain ⟨D, hD, h1, h2, h3⟩ := h
  exact ⟨D, hD, h1, h2, fun n m hm => by
    obtain ⟨a, v, b, c⟩ := h3 n m hm
    exact ⟨a, v, b, c.plain⟩⟩
/-- Rows of one place have one length: nothing lies behind the shorter, and the longer has a cell there. -/
theorem row_cell {w : World} {lo hi : Nat} (f : Fr) : ∀ (b o j : Nat), Go.Proofs.YtkefpickpjjllaaDoor.NdRow w lo hi f b o → j < f.len → ∃ v, w.cell? ⟨b, o + j, none⟩ = some v := by
  induction f with
  | nil => intro b o j _ h; simp [Fr.len] at h
  | cons k n s kids rest _ ihr =>
    rintro b o j ⟨⟨v, hv, _⟩, hr⟩ h
    cases j with
    | zero => exact ⟨v, hv⟩
    | succ j =>
      obtain ⟨u, hu⟩ := ihr b (o + 1) j hr (by simpa [Fr.len] using h)
      exact ⟨u, by rwa [show o + (j + 1) = o + 1 + j by omega]⟩
theorem one_len {w : World} {lo hi lo' hi' b : Nat} {f g : Fr} (hf : w.cell? ⟨b, f.len, none⟩ = none) (hg : w.cell? ⟨b, g.len, none⟩ = none) (h1 : Go.Proofs.YtkefpickpjjllaaDoor.NdRow w lo hi f b 0) (h2 : Go.Proofs.YtkefpickpjjllaaDoor.NdRow w lo' hi' g b 0) : f.len = g.len := by
  rcases Nat.lt_trichotomy f.len g.len with h | h | h
  · obtain ⟨v, hv⟩ := row_cell g b 0 f.len h2 h
    rw [Nat.zero_add, hf] at hv; cases hv
  · exact h
  · obtain ⟨v, hv⟩ := row_cell f b 0 g.len h1 h
    rw [Nat.zero_add, hg] at hv; cases hv
end Go.Proofs.YtkefpickpjjllaaDoor.Full

/- unifier.bind. Condition: the node, the map of bindings and the trail lie in memory. -/
namespace Go.Proofs.YtkefpickpjjllaaDoor.Full
open Go.RowKit Go.Maps

/-- The unifier in block ub: its map of bindings, its trail, its map of what is done. -/
def UnU (w : World) (lo hi ub mb db base : Nat) (σ : Sub) (T : List Int) (tv : Value) : Prop :=
  Blk w ub 83 #[.map (some mb), tv, .map (some db)] ∧ w.ownsRow base 67 1 tv T.length (T.map (Value.int .i64)) ∧ MpS w lo hi mb σ
theorem UnU.below {w w' : World} {lo hi ub mb db base : Nat} {σ : Sub} {T : List Int} {tv : Value} (h : UnU w lo hi ub mb db base σ T tv) (hb : Below w.heap.size w w') (hh : hi ≤ w.heap.size) : UnU w' lo hi ub mb db base σ T tv := by
  refine ⟨h.1.below hb h.1.lt, h.2.1.kept (row := none) ⟨hb.os, hb.tape, hb.output, hb.size, fun k hk _ => hb.block k hk⟩ ?_, h.2.2.below hb hh⟩
  cases h : tv.ownBlock with
  | none => exact .inl rfl
  | some g => exact .inr (by simp)
def BnRes (w : World) (lo hi ub mb db base : Nat) (σ : Sub) (T : List Int) (tv0 : Value) (v : Int) (m : Nd) (e : Ending) (w' : World) : Prop :=
  ∃ (b : Bool) (tv : Value), e = .returned (.bool b) ∧ (b = true ↔ ¬ occN (suN (fin σ) m) v) ∧ (b = true → UnU w' lo hi ub mb db base ((v, m) :: σ) (T ++ [v]) tv) ∧ (b = false → UnU w' lo hi ub mb db base σ T tv) ∧ Wrote (ub :: mb :: ownV tv0) w w' ∧ (∀ x ∈ ownV tv, x ∈ ownV tv0 ∨ w.heap.size ≤ x)

set_option maxRecDepth 100000 in
set_option maxHeartbeats 4000000 in
/-- unifier.bind. -/
theorem bind_any {σ : Sub} (hσ : Ok2 σ) (v : Int) (hfree : lk σ v = none) (m : Nd) (val : Value) (lo hi ub mb db base : Nat) (T : List Int) (tv : Value) (w : World)
    (hv : NdV w lo hi m.k m.n m.s m.f val) (hs : shapeT m.k m.n m.s m.f 30 = true) (hh : hi ≤ ub) (hm : hi ≤ mb) (hne : ub ≠ mb) (hub : ub < base) (hmb : mb < base) (hbs : base ≤ w.heap.size) (hT : T.length ≤ 1000) (hl : σ.length ≤ 1000) (hvr : 0 ≤ v ∧ v ≤ 25) (hU : UnU w lo hi ub mb db base σ T tv) :
    Calls Tryd.prog 60 #[.pointer (some ⟨ub, 0, none⟩), .int .i64 v, val] w fun e w' => BnRes w lo hi ub mb db base σ T tv v m e w' := by
  have hmm := @run_makeMap Tryd.prog
  obtain ⟨i0, hi0, hz0, hz1, hz2⟩ := info_parts infoVa
  have hba : Below w.heap.size w (w.alloc (.map #[] 0)) := (Below.refl _ _).alloc (Nat.le_refl _) _
  have hU1 := hU.below hba (by omega)
  have C1 := oc_any hσ v m [] val lo hi mb ub w.heap.size (w.alloc (.map #[] 0)) List.nodup_nil (fun x hx => by cases hx) (hv.keep (fun p _ hp => hba.block p (by omega)) (Nat.le_refl _) (Nat.le_refl _)).plain hs (by simp; omega) (by omega) (by omega) (by simp; omega) (by omega) (hU1.1.cell 0) hU1.2.2.plain (seen_new w)
  have H1 := Lib.hid C1
  have HSAY := Lib.hid (fun (w' : World) (e : Ending) (h : OcRes σ v m (w.alloc (.map #[] 0)) w.heap.size [] e w') => oc_says hσ hfree h)
  have HU := Lib.hid hU
  have HV := Lib.hid hv
  have HS := Lib.hid hs
  have hkey : keyOf Tryd.prog 67 (.int .i64 v) = some (.int .i64 v) := keyOf_int_mk Tryd.underlying67 (WalkArith.wf_i64 (by omega))
  obtain ⟨T2, z2, rfl⟩ := hv.iface
  clear C1 hba hU1 hU hv hs hσ hfree
  go_enter Tryd.func60, Tryd.ntmps60
  go_wp2_with fail
  refine H1.out.mono ?_
  rintro e w2 h
  obtain ⟨b, rfl, hw, hbo⟩ := HSAY.out w2 e h
  have hb2 : Below w.heap.size w w2 := ((Below.refl _ _).alloc (Nat.le_refl _) _).trans (hw.below (by simp) fun x hx => by simp at hx; omega)
  have hU2 := HU.out.below hb2 (by omega)
  have HU2 := Lib.hid hU2
  have HBO := Lib.hid hbo
  have HB2 := Lib.hid hb2
  have hs2 := hb2.size
  clear h hw hb2 hbo H1 HSAY
  cases b
  · obtain ⟨hq, hrow, D, hD, hI, hH, hX⟩ := hU2
    have hv2 := HV.out.keep (w' := w2) (fun p _ hp => HB2.out.block p (by omega)) (Nat.le_refl _) (Nat.le_refl _)
    have PUT := fun w3 h4 hg => MpS.put (w := w2) (w1 := w3) (lo := lo) (hi := hi) (mb := mb) (n := v) hI hH hX hm (by omega) h4 hg HS.out hv2
    have hvl := hrow.lt
    have HKR : Hid (∀ w3, w2.grownBy w3 (some mb) → w3.ownsRow base 67 1 tv T.length (T.map (Value.int .i64))) := Lib.hid fun w3 hg => hrow.kept hg (by
      cases h : tv.ownBlock with
      | none => exact .inl rfl
      | some g => exact .inr fun e => by injection e with e; have := (hvl g h).1; omega)
    have HP := Lib.hid PUT
    have HD := Lib.hid hD
    have HVL := Lib.hid hvl
    have x0 := hq.cell 0
    have x1 := hq.cell 1
    simp only [List.getElem?_toArray, List.getElem?_cons_zero, List.getElem?_cons_succ] at x0 x1
    have HQ := Lib.hid hq
    generalize hvs : T.map (Value.int .i64) = vs at *
    have HVS := Lib.hid hvs
    generalize htn : T.length = tn at *
    have HTN := Lib.hid htn
    clear hq hrow hD hI hH hX hv2 PUT hvl hvs htn hmm
    go_wp2_with (first
      | (at_mapUpdate; refine wpList_mapUpdate_own _ rfl _ _ _ 66 rfl 67 53 lawN Tryd.underlying66 heldR mb σ.length D rfl HD.out (by unfold maxLen; omega) _ _ _ rfl rfl hkey (.held (.iface T2 z2)) [] rfl ?_; intro w3 hown3 hgrow3; have b3 := HQ.out.keep (hgrow3.block ub (by omega) (fun e => hne (by injection e))); have z1 := b3.cell 1; simp only [List.getElem?_toArray, List.getElem?_cons_zero, List.getElem?_cons_succ] at z1; have HB3 := Lib.hid b3; have HR3 := Lib.hid (HKR.out w3 hgrow3); have HNEW := Lib.hid (heap_alloc_new w3 (.cells #[.int .i64 v] 67)); have HO3 := Lib.hid hown3; have HG3 := Lib.hid hgrow3; have hs3 := hgrow3.size; clear hown3 hgrow3 b3)
      | (at_builtin; go_must (refine wpList_append_lies _ rfl _ _ _ rfl base 67 i0 _ 1 8 Tryd.underlying81 hi0 hz0 hz1 hz2 rfl (by omega) tv tn vs rfl (HR3.out.alloc _) ⟨w3.heap.size, 0, none⟩ 1 1 [.int .i64 v] rfl rfl (World.news_of_block (cs := #[.int .i64 v]) (t := 67) (fr := (0, 0)) HNEW.out) (by simp [Value.oneCell']) (by omega) (by unfold maxLen; omega) (by omega) (by simp; omega) (w3.heap.size + 1) (by simp) ?_); intro g9 cap9 w9 hown9 hgrow9 hat9 hlt9; have b9 := (HB3.out.alloc (.cells #[.int .i64 v] 67)).keep (hgrow9.block ub (by simp; omega) (fun e => by have := (HVL.out ub e.symm).1; omega)); have y1 := b9.cell 1; have yf := b9.frozen 1; simp only [List.getElem?_toArray, List.getElem?_cons_zero, List.getElem?_cons_succ] at y1; have HB9 := Lib.hid b9; have HO9 := Lib.hid hown9; have HG9 := Lib.hid hgrow9; have HAT9 := Lib.hid hat9; clear hown9 hgrow9 b9 hat9))
    go_ret
    have hg9 := HG9.out
    have hW : Wrote (ub :: tv.ownBlock.toList) w3 (w9.setCell ⟨ub, 1, none⟩ (.slice (some ⟨g9, 0, none⟩) (tn + 1) cap9)) := by
      have h1 : Wrote (ub :: tv.ownBlock.toList) w3 w9 := ⟨hg9.os, hg9.tape, hg9.output, by have := hg9.size; simp at this; omega, fun x hx hn => (hg9.block x (by simp; omega) fun e => hn (by rw [← e]; simp)).trans (heap_alloc_old (r := x) w3 _ hx)⟩
      exact h1.set_ (.inl (by simp)) _
    refine ⟨true, .slice (some ⟨g9, 0, none⟩) (tn + 1) cap9, rfl, ⟨fun _ h => (by have := HBO.out.2 h; cases this), fun _ => rfl⟩, fun _ => ⟨HB9.out.set_ 1 _, ?_, ?_⟩, fun h => (by cases h), ?_, ?_⟩
    · rw [List.length_append, List.map_append, HVS.out, HTN.out]
      exact ownsRow_setCell_below HO9.out (by exact hub) _
    · refine (HP.out w3 HO3.out HG3.out).wrote hW ?_ (by omega) ?_
      · intro hx
        rcases List.mem_cons.1 hx with h | h
        · exact hne h.symm
        · have := (HVL.out mb (by simpa using h)).1; omega
      · intro x hx
        rcases List.mem_cons.1 hx with rfl | h
        · exact hh
        · have := (HVL.out x (by simpa using h)).1; omega
    · have k3 : Wrote (ub :: mb :: ownV tv) w2 w3 := ⟨HG3.out.os, HG3.out.tape, HG3.out.output, HG3.out.size, fun x hx hn => HG3.out.block x hx fun e => hn (by injection e with e; simp [e])⟩
      have k9 : Wrote (ub :: mb :: ownV tv) w3 (w9.setCell ⟨ub, 1, none⟩ (.slice (some ⟨g9, 0, none⟩) (tn + 1) cap9)) := ⟨hW.os, hW.tape, hW.output, hW.size, fun x hx hn => hW.block x hx fun h => hn (by
        rcases List.mem_cons.1 h with h | h
        · simp [h]
        · exact List.mem_cons_of_mem _ (List.mem_cons_of_mem _ h))⟩
      exact ((Wrote.of_below HB2.out (ub :: mb :: ownV tv)).trans k3).trans k9
    · intro x hx
      have e : x = g9 := by simpa [ownV, Value.ownBlock] using hx
      subst e
      rcases HAT9.out with h | h
      · exact .inl (by unfold ownV; rw [h]; simp)
      · exact .inr (by omega)
  · clear hU2 hmm
    go_wp2_with fail
    go_ret
    exact ⟨false, tv, rfl, ⟨fun h => (by cases h), fun h => absurd (HBO.out.1 (by first | rfl | trivial)) h⟩, fun h => (by cases h), fun _ => HU2.out, .of_below HB2.out _, fun x hx => .inl hx⟩
end Go.Proofs.YtkefpickpjjllaaDoor.Full

/- A map whose keys are structs of two pointers (impl.unifier's 'done'): what is there and what is not; a key more. Condition: the blocks that the keys point to hold cells. -/
namespace Go.Proofs.YtkefpickpjjllaaDoor
open Go.RowKit Go.ChangeMaps Go.MapKept

/-- A pair of places as a key. -/
def kd (p q : Addr) : Value := .agg #[.pointer (some p), .pointer (some q)]
theorem kd_check (e : Bool) (p q : Addr) (w : World) : (Instr.checkKey e 10000 137 (kd p q)).run Tryd.prog w = .ok () w := by
  unfold kd
  kernel_rfl
/-- Cells lie there. -/
def Lies (w : World) (p : Addr) : Prop := ∃ t cs, Blk w p.block t cs
theorem kd_ptr (d : Nat) {w : World} {p p' : Addr} (ha : Lies w p) (hb : Lies w p') : (Op.equalIn (d + 1) 135 (.pointer (some p)) (.pointer (some p'))).run Tryd.prog w = .ok (decide (p = p')) w := by
  obtain ⟨ta, ca, ha⟩ := ha
  obtain ⟨tb, cb, hb⟩ := hb
  have hi : (Tryd.prog.info? 53).map (fun i => i.size) = some 1 := by kernel_rfl
  obtain ⟨j, hj, hz⟩ := Option.map_eq_some_iff.1 hi
  by_cases e : p = p'
  · subst e
    simp [Op.equalIn, run_underlying Tryd.underlying135, sizeOf, typeInfo, hj, run_sameAddr_same]
  · simp [Op.equalIn, run_underlying Tryd.underlying135, sizeOf, typeInfo, hj, hz, run_sameAddr_other w e ha hb, e]
theorem kd_part0 (p q : Addr) (w : World) : (part 135 #[.pointer (some p), .pointer (some q)] 0).run Tryd.prog w = .ok (.pointer (some p)) w := by kernel_rfl
theorem kd_part1 (p q : Addr) (w : World) : (part 135 #[.pointer (some p), .pointer (some q)] 1).run Tryd.prog w = .ok (.pointer (some q)) w := by kernel_rfl
theorem kd_eq {w : World} {p p' q q' : Addr} (h1 : Lies w p) (h2 : Lies w p') (h3 : Lies w q) (h4 : Lies w q') :
    (Op.equal 137 (kd p q) (kd p' q')).run Tryd.prog w = .ok (decide (p = p' ∧ q = q')) w := by
  have e1 := kd_ptr 9998 h1 h2
  have e2 := kd_ptr 9998 h3 h4
  have hs : Tryd.prog.stoodInHeld 137 = false := by kernel_rfl
  unfold kd
  have e : ∀ x y, Op.equal 137 x y = Op.equalIn (9998 + 1 + 1) 137 x y := fun _ _ => rfl
  rw [e]
  generalize 9998 = d at *
  rw [Op.equalIn]
  by_cases c1 : p = p'
  · by_cases c2 : q = q'
    · rw [decide_eq_true c1] at e1
      rw [decide_eq_true c2] at e2
      subst c1 c2
      simp [run_underlying Tryd.underlying137, hs, kd_part0, kd_part1, e1, e2]
    · rw [decide_eq_true c1] at e1
      rw [decide_eq_false c2] at e2
      subst c1
      simp [run_underlying Tryd.underlying137, hs, kd_part0, kd_part1, e1, e2, c2]
  · rw [decide_eq_false c1] at e1
    simp [run_underlying Tryd.underlying137, hs, kd_part0, e1, c1]
/-- The entries are true at the pairs of P, and at nothing else. -/
def PdE (w : World) : List MapEntry → List (Addr × Addr) → Prop
  | [], P => P = []
  | e :: es, P => ∃ p q P', P = (p, q) :: P' ∧ e.key = kd p q ∧ e.val = .bool true ∧ Lies w p ∧ Lies w q ∧ PdE w es P'
theorem kd_ask {w : World} {p q : Addr} (hp : Lies w p) (hq : Lies w q) : ∀ (es : List MapEntry) (P : List (Addr × Addr)) (i : Nat), PdE w es P →
    ∃ r, (Instr.findAsking 137 (kd p q) es i).run Tryd.prog w = .ok r w ∧ (((p, q) ∉ P ∧ r = none) ∨ ((p, q) ∈ P ∧ ∃ j x, r = some (i + j, .bool true) ∧ es[j]? = some x ∧ x.key = kd p q ∧ x.val = .bool true))
  | [], P, i, h => ⟨none, by simp [Instr.findAsking], .inl ⟨by rw [show P = [] from h]; simp, rfl⟩⟩
  | e :: es, _, i, ⟨p', q', P', rfl, hk, hv, h1, h2, h3⟩ => by
    have he := kd_eq hp h1 hq h2
    by_cases c : p = p' ∧ q = q'
    · rw [decide_eq_true c] at he
      refine ⟨some (i, .bool true), by simp [Instr.findAsking, hk, he, hv], .inr ⟨?_, 0, e, rfl, rfl, by rw [hk, c.1, c.2], hv⟩⟩
      rw [c.1, c.2]; simp
    · rw [decide_eq_false c] at he
      obtain ⟨r, hr, hrr⟩ := kd_ask hp hq es P' (i + 1) h3
      refine ⟨r, by simp [Instr.findAsking, hk, he, hr], ?_⟩
      rcases hrr with ⟨a, b⟩ | ⟨a, b⟩
      · refine .inl ⟨fun hm => ?_, b⟩
        rcases List.mem_cons.1 hm with h | h
        · injection h with x y
          exact c ⟨x, y⟩
        · exact a h
      · obtain ⟨j, x, rfl, b1, b2, b3⟩ := b
        exact .inr ⟨List.mem_cons_of_mem _ a, j + 1, x, by rw [show i + 1 + j = i + (j + 1) by omega], by simpa using b1, b2, b3⟩
theorem kd_find {w : World} {p q : Addr} (hp : Lies w p) (hq : Lies w q) (es : List MapEntry) (P : List (Addr × Addr)) (h : PdE w es P) :
    ∃ r, (Instr.findKey 137 (kd p q) es).run Tryd.prog w = .ok r w ∧ (((p, q) ∉ P ∧ r = none) ∨ ((p, q) ∈ P ∧ ∃ j x, r = some (j, .bool true) ∧ es[j]? = some x ∧ x.key = kd p q ∧ x.val = .bool true)) := by
  cases es with
  | nil => exact ⟨none, by simp [Instr.findKey, Instr.findNow, run_underlying Tryd.underlying137], .inl ⟨by rw [show P = [] from h]; simp, rfl⟩⟩
  | cons e es =>
    obtain ⟨r, hr, hrr⟩ := kd_ask hp hq (e :: es) P 0 h
    have hn : ∀ fs x, Instr.findNow (.struct fs) x (e :: es) 0 = none := fun fs x => by simp [Instr.findNow, Instr.sameNow]
    exact ⟨r, by simp [Instr.findKey, run_underlying Tryd.underlying137, hn, hr], by simpa using hrr⟩
/-- The map in block b holds true at the pairs of P. -/
def PdM (w : World) (b : Nat) (P : List (Addr × Addr)) : Prop := ∃ es clock, w.heap[b]? = some (.map es clock) ∧ PdE w es.toList P
theorem PdM.look {w : World} {b : Nat} {P : List (Addr × Addr)} {p q : Addr} (h : PdM w b P) (hp : Lies w p) (hq : Lies w q) :
    (Instr.lookup 80 (.map (some b)) (kd p q) false).run Tryd.prog w = .ok (.bool (decide ((p, q) ∈ P))) w := by
  obtain ⟨es, clock, hb, he⟩ := h
  have hg : (getObj b).run Tryd.prog w = .ok (.map es clock) w := MapKept.run_getObj_map hb
  have hz : (zeroValue 4).run Tryd.prog w = .ok (.bool false) w := by kernel_rfl
  obtain ⟨r, hr, ⟨a, rfl⟩ | ⟨a, j, _, rfl, _⟩⟩ := kd_find hp hq es.toList P he
  · simp [Instr.lookup, run_underlying Tryd.underlying80, hg, kd_check, hr, hz, a]
  · simp [Instr.lookup, run_underlying Tryd.underlying80, hg, kd_check, hr, a]
theorem PdE.snoc {w : World} {p q : Addr} {e0 : MapEntry} (h1 : e0.key = kd p q) (h2 : e0.val = .bool true) (h3 : Lies w p) (h4 : Lies w q) : ∀ (es : List MapEntry) (P : List (Addr × Addr)), PdE w es P → PdE w (es ++ [e0]) (P ++ [(p, q)])
  | [], P, h => by
    rw [show P = [] from h]
    exact ⟨p, q, [], rfl, h1, h2, h3, h4, rfl⟩
  | e :: es, _, ⟨p', q', P', rfl, a, b, c, d, h⟩ => ⟨p', q', P' ++ [(p, q)], rfl, a, b, c, d, PdE.snoc h1 h2 h3 h4 es P' h⟩
theorem PdE.keep {w w' : World} (hk : ∀ p, Lies w p → Lies w' p) : ∀ (es : List MapEntry) (P : List (Addr × Addr)), PdE w es P → PdE w' es P
  | [], _, h => h
  | _ :: es, _, ⟨p', q', P', e, a, b, c, d, h⟩ => ⟨p', q', P', e, a, b, hk _ c, hk _ d, PdE.keep hk es P' h⟩
/-- A pair that is not there is put. -/
theorem PdM.put {w : World} {b : Nat} {P : List (Addr × Addr)} {p q : Addr} (h : PdM w b P) (hp : Lies w p) (hq : Lies w q) (hn : (p, q) ∉ P) :
    ∃ o, (Instr.mapUpdate 80 (.map (some b)) (kd p q) (.bool true)).run Tryd.prog w = .ok () (setBlock w b o) ∧ ∃ es clock, o = .map es clock ∧ PdE w es.toList (P ++ [(p, q)]) := by
  obtain ⟨es, clock, hb, he⟩ := h
  have hg : (getObj b).run Tryd.prog w = .ok (.map es clock) w := MapKept.run_getObj_map hb
  have hs : ∀ o, (setObj b o).run Tryd.prog w = .ok () (setBlock w b o) := fun o => MapKept.run_setObj_map o hb
  obtain ⟨r, hr, ⟨a, rfl⟩ | ⟨a, _⟩⟩ := kd_find hp hq es.toList P he
  · refine ⟨_, by simp [Instr.mapUpdate, run_underlying Tryd.underlying80, hg, hs, kd_check, hr]; rfl, _, _, rfl, ?_⟩
    rw [Array.toList_push]
    exact PdE.snoc rfl rfl hp hq es.toList P he
  · exact (hn a).elim
/-- A pair that is there is put again: nothing changes. -/
theorem PdM.again {w : World} {b : Nat} {P : List (Addr × Addr)} {p q : Addr} (h : PdM w b P) (hp : Lies w p) (hq : Lies w q) (hn : (p, q) ∈ P) :
    ∃ o, (Instr.mapUpdate 80 (.map (some b)) (kd p q) (.bool true)).run Tryd.prog w = .ok () (setBlock w b o) ∧ ∃ es clock, o = .map es clock ∧ PdE w es.toList P := by
  obtain ⟨es, clock, hb, he⟩ := h
  have hg : (getObj b).run Tryd.prog w = .ok (.map es clock) w := MapKept.run_getObj_map hb
  have hs : ∀ o, (setObj b o).run Tryd.prog w = .ok () (setBlock w b o) := fun o => MapKept.run_setObj_map o hb
  obtain ⟨r, hr, ⟨a, _⟩ | ⟨a, j, x, rfl, c1, c2, c3⟩⟩ := kd_find hp hq es.toList P he
  · exact (a hn).elim
  · have hsb : Instr.sameBits 10000 (kd p q) (kd p q) = true := by
      unfold kd
      show (Instr.sameBits 9999 (.pointer (some p)) (.pointer (some p)) && (Instr.sameBits 9999 (.pointer (some q)) (.pointer (some q)) && true)) = true
      simp [Instr.sameBits]
    have c1' : es[j]? = some x := by simpa using c1
    have hks : (Instr.keyThatStays (((es[j]?).map (fun y => y.key)).getD (kd p q)) (kd p q)).run Tryd.prog w = .ok (kd p q) w := by
      rw [c1']
      simp [Instr.keyThatStays, c2, hsb]
    have hmod : (es.modify j fun e => { e with key := kd p q, val := .bool true }) = es := by
      apply Array.ext
      · simp
      · intro i h1 h2
        rw [Array.getElem_modify]
        split
        · rename_i e
          subst e
          have h3 : es[j] = x := by
            rw [Array.getElem?_eq_getElem h2] at c1'
            injection c1'
          rw [h3, ← c2, ← c3]
        · rfl
    exact ⟨_, by simp only [Instr.mapUpdate]; simp [run_underlying Tryd.underlying80, hg, hs, kd_check, hr, hks, hmod], es, clock, rfl, he⟩
end Go.Proofs.YtkefpickpjjllaaDoor
