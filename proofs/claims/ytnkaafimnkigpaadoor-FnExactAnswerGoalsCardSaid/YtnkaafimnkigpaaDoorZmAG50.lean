/- AnswerGoals: impl.question.valuesOf, the map of the values and the function that asks it. Condition: the values lie in memory, the table of signs in its variable. -/
import Derived.Test.YtnkaafimnkigpaaDoorProg
import Derived.Test.YtnkaafimnkigpaaDoorZmAG44
import Derived.Test.YtnkaafimnkigpaaDoorZmAG47
import Derived.Test.YtnkaafimnkigpaaDoorZmAG48
import Derived.Test.YtnkaafimnkigpaaDoorZmAG49
import Derived.Test.YtnkaafimnkigpaaDoorZmAG40
import Derived.Test.YtnkaafimnkigpaaDoorZmAG41
import Derived.Test.YtnkaafimnkigpaaDoorZmAG45
import Derived.Test.YtnkaafimnkigpaaDoorZmAG42
namespace Go.Proofs.YtnkaafimnkigpaaDoor
open Go.RowKit Go.Maps

theorem allV_B (g : Fr) : allV g = allB g := by
  induction g with
  | nil => rfl
  | cons k n s kids rest _ ih => rw [allB_cons, ← ih]; rfl
theorem allB_elem {k n : Int} {s : ByteArray} {kids rest : Fr} (f : Fr) : ∀ (i : Nat), f.drop i = .cons k n s kids rest → allB f = true → validT k n s kids = true := by
  induction f with
  | nil => intro i h; cases i <;> cases h
  | cons k' n' s' kids' rest' _ ih =>
    intro i h ha
    rw [allB_cons, Bool.and_eq_true] at ha
    cases i with
    | zero =>
      injection h with h1 h2 h3 h4 h5
      subst h1 h2 h3 h4 h5
      exact ha.1
    | succ i => exact ih i h ha.2
/-- What valuesOf leaves. -/
def VoRes (w : World) (vn : Nat) (g : Fr) (e : Ending) (w' : World) : Prop :=
  Below w.heap.size w w' ∧ ((vn = g.len ∧ allB g = true ∧ ∃ A cap, e = .returned (.tuple #[.slice A g.len cap, .bool true]) ∧ NdS w' w.heap.size w'.heap.size g A cap) ∨ ((vn = g.len → allB g = false) ∧ e = .returned (.tuple #[.slice none 0 0, .bool false])))

set_option maxRecDepth 100000 in
set_option maxHeartbeats 2000000 in
/-- impl.question.valuesOf. -/
theorem valuesOf_any (q0 : Value) (Av : Option Addr) (vn capV : Nat) (g : Fr) (B : Option Addr) (capB lo hi : Nat) (w : World) (hk : KidsAt w lo hi g B capB) (hh : hi ≤ w.heap.size) (hng : nodes g ≤ 1048576) (ht : nv.Tab w) :
    Calls Tryd.prog 45 #[.agg #[q0, .slice Av vn capV], .agg #[.slice B g.len capB]] w fun e w' => VoRes w vn g e w' := by
  have hb0 := two_alloc w (.cells #[q0, .slice Av vn capV] 86) (.cells #[.slice B g.len capB] 48)
  have hlt0 := tab_lt ht
  have C1 := nodesOf_any g B capB lo hi _ (hk.below hb0 hh) (Nat.le_trans hh hb0.size) hng (tab_below ht hb0 hlt0)
  have hlg : g.len ≤ 1048576 := by have := len_le_nodes g; omega
  have e0 : ((w.alloc (.cells #[q0, .slice Av vn capV] 86)).alloc (.cells #[.slice B g.len capB] 48)).heap.size = w.heap.size + 1 + 1 := by simp
  have hne : Hid (∀ w', Below w.heap.size w w' → ¬ vn = g.len → VoRes w vn g (.returned (.tuple #[.slice none 0 0, .bool false])) w') := Lib.hid fun w' hb h => ⟨hb, .inr ⟨fun e => absurd e h, rfl⟩⟩
  have hre : Hid (∀ e w', vn = g.len → NodesRes ((w.alloc (.cells #[q0, .slice Av vn capV] 86)).alloc (.cells #[.slice B g.len capB] 48)) g e w' → VoRes w vn g e w') := Lib.hid fun e w' he h => by
    obtain ⟨hb, hr⟩ := h
    refine ⟨hb0.trans (hb.mono hb0.size), ?_⟩
    rw [allV_B] at hr
    rcases hr with ⟨h1, A, cap, e1, h2⟩ | ⟨h1, e1⟩
    · exact .inl ⟨he, h1, A, cap, e1, h2.keep (fun _ _ _ => rfl) hb0.size (Nat.le_refl _)⟩
    · exact .inr ⟨fun _ => h1, e1⟩
  have HB0 := Lib.hid hb0
  have H1 := Lib.hid C1
  clear C1 hk hh hng ht hb0 e0
  generalize hm : g.len = lem at *
  by_cases hvl : vn = lem
  · subst hvl
    have t0 : ((vn : Int) == (vn : Int)) = true := by simp
    have t1 : ((vn : Int) != (vn : Int)) = false := by simp
    clear hm
    go_enter Tryd.func45, Tryd.ntmps45
    go_wp2_with fail
    refine H1.out.mono ?_
    rintro e w2 hr
    have HR := Lib.hid (hre.out e w2 (by first | trivial | rfl) hr)
    obtain ⟨_, hr⟩ := hr
    rcases hr with ⟨_, A, cap, rfl, _⟩ | ⟨_, rfl⟩
    · go_wp2_with fail
      go_ret2
      exact HR.out
    · go_wp2_with fail
      go_ret2
      exact HR.out
  · have t0 : ((lem : Int) == (vn : Int)) = false := by rw [beq_eq_false_iff_ne]; omega
    have t1 : ((lem : Int) != (vn : Int)) = true := by rw [bne_iff_ne]; omega
    clear hm
    go_enter Tryd.func45, Tryd.ntmps45
    go_wp2_with fail
    go_ret2
    exact hne.out _ HB0.out hvl

theorem occ_row (f : Fr) : ∀ (i : Nat) {k n : Int} {s : ByteArray} {kids rest : Fr} {y : Int}, f.drop i = .cons k n s kids rest → occN ⟨k, n, s, kids⟩ y → occF f y := by
  induction f with
  | nil => intro i _ _ _ _ _ _ h; cases i <;> cases h
  | cons k' n' s' kids' rest' _ ih =>
    intro i k n s kids rest y h ho
    cases i with
    | zero =>
      injection h with h1 h2 h3 h4 h5
      subst h1 h2 h3 h4 h5
      exact .inl ho
    | succ i => exact .inr (ih i h ho)
theorem fdB_some {y : Int} : ∀ (ns : List Int) (g : Fr), ns.length = g.len → y ∈ ns → (fdB ns g y).isSome = true
  | [], _, _, h => by cases h
  | _ :: _, .nil, h, _ => by simp [Fr.len] at h
  | n0 :: ns, .cons k n s kids rest, hl, h => by
    rw [fdB_cons]
    split
    · rfl
    · rename_i hne
      rcases List.mem_cons.1 h with rfl | h
      · exact absurd rfl hne
      · exact fdB_some ns rest (by simpa [Fr.len] using hl) h
theorem st_put {st : St} {ns : List Int} {g : Fr} {j : Nat} {a b : Int} {s : ByteArray} {kids rest : Fr} (hl : ns.length = g.len) (hd : g.drop j = .cons a b s kids rest)
    (h : ∀ x, (lkS st x).or (fdB (ns.drop j) (g.drop j) x) = fdB ns g x) (hk : lkS st (ns.getD j 0) = none) : ∀ x, (lkS ((ns.getD j 0, ⟨a, b, s, kids⟩) :: st) x).or (fdB (ns.drop (j + 1)) (g.drop (j + 1)) x) = fdB ns g x := fun x => by
  have h1 := h x
  rw [fdB_drop j ns g x hl hd] at h1
  by_cases e : ns.getD j 0 = x
  · subst e
    rw [hk, if_pos rfl] at h1
    rw [lkS_same]
    exact h1
  · rw [if_neg e] at h1
    rw [lkS_other _ _ _ _ fun h => e h.symm]
    exact h1
theorem nd_take {ns : List Int} {j : Nat} (h : ns.Nodup) (hj : j < ns.length) : ns.getD j 0 ∉ ns.take j := by
  intro hm
  have h1 : (ns.take j ++ ns.drop j).Nodup := by rw [List.take_append_drop]; exact h
  have h2 : ns.getD j 0 ∈ ns.drop j := by
    rw [List.drop_eq_getElem_cons hj, List.getD, List.getElem?_eq_getElem hj]
    exact List.mem_cons_self
  exact (List.nodup_append.1 h1).2.2 _ hm _ h2 rfl
theorem MpS.wrote2 {w w' : World} {lo hi mb : Nat} {st : St} {L : List Nat} (h : MpS w lo hi mb st) (hb : Wrote L w w') (hg : mb ∉ L) (hh : hi ≤ w.heap.size) (hL : ∀ x ∈ L, x < lo ∨ hi ≤ x) : MpS w' lo hi mb st := by
  obtain ⟨D, hD, h1, h2, h3⟩ := h
  have hlt := hD.lt
  obtain ⟨es, clock, he, r⟩ := hD
  refine ⟨D, ⟨es, clock, (hb.block mb hlt hg).trans he, r⟩, h1, h2, fun n m hm => ?_⟩
  obtain ⟨a, v, b, c⟩ := h3 n m hm
  exact ⟨a, v, b, c.keep (fun p hl hp => hb.cell (by omega) fun e => by have := hL _ e; omega) (Nat.le_refl _) (Nat.le_refl _)⟩

/-- The place of the function's state: the box cb leads to the map mb, whose nodes lie from lo to below mb. -/
def AgI (mb cb lo : Nat) (st : St) (w : World) (_ : Unit) (Q G : List Nat) : Prop := Q = [] ∧ G = [] ∧ w.cell? ⟨cb, 0, none⟩ = some (.map (some mb)) ∧ MpS w lo mb mb st
theorem ag_ef : ∀ args w, (callFunc 47 args).run Tryd.prog w = .ok (.enter 47 args) w := fun _ _ => by kernel_rfl

set_option maxRecDepth 100000 in
set_option maxHeartbeats 2000000 in
/-- The function that AnswerGoals hands on. -/
theorem ag_rep (ns : List Int) (g : Fr) (mb cb lo : Nat) (st : St) (hF : ∀ x, lkS st x = fdB ns g x) (hlm : lo ≤ mb) (h2 : mb < cb) : RepV (α := Unit) 47 #[] #[.pointer (some ⟨cb, 0, none⟩)] (AgI mb cb lo st) (fun x => lo ≤ x ∧ x ≤ cb) (cb + 1) (fun y => (fdB ns g y).isSome = true) (fun _ => 0) (fun a _ => a) (apO ns g) where
  keep := fun {w w' a Q G L} h hw hL => by
    obtain ⟨rfl, rfl, hc, hM⟩ := h
    have hlt := hM.lt
    have hcl := World.block_lt_of_cell? w _ hc
    simp only at hcl
    refine ⟨rfl, rfl, (hw.cell hcl fun e => ?_).trans hc, hM.wrote2 hw (fun e => ?_) (by omega) fun x hx => ?_⟩
    · exact (hL _ e).2.2 ⟨by show lo ≤ cb; omega, Nat.le_refl _⟩
    · exact (hL _ e).2.2 ⟨hlm, by omega⟩
    · have := (hL x hx).2.2
      by_cases h : x < lo
      · exact .inl h
      · refine .inr ?_
        by_cases h3 : x ≤ cb
        · exact absurd ⟨by omega, h3⟩ this
        · omega
  lt := fun {w a Q G} h x hx => by
    obtain ⟨rfl, rfl, _⟩ := h
    rcases hx with hx | hx <;> cases hx
  old := fun x hx => by omega
  len := fun _ _ => Nat.zero_le _
  call := fun a Q G n w h hB _ hn hv => by
    have h0 := h
    obtain ⟨rfl, rfl, hc, hM⟩ := h
    obtain ⟨D, hD, hI, hH, hX⟩ := hM
    have hkey : keyOf Tryd.prog 93 (.int .i64 n) = some (.int .i64 n) := keyOf_int_mk Tryd.underlying93 (WalkArith.wf_i64 (by omega))
    obtain ⟨o, ho⟩ := Option.isSome_iff_exists.1 hv
    have hlk : lkS st n = some o := by rw [hF, ho]
    have hao : apO ns g a n = o := by unfold apO; rw [ho]; rfl
    obtain ⟨_, u, hat, hu⟩ := hX n o hlk
    obtain ⟨v, ps, hrun, hvr⟩ := hD.lookup (t := 92) lawN Tryd.underlying92 (zeroN w) (zd := .held .nilIface) (zp := []) rfl hkey
    have hvu := heldR_inv hvr hat
    subst hvu
    have HR : Hid (∃ (Q' G' : List Nat) (v' : Value), (Ending.returned v = .returned v') ∧ AgI mb cb lo st w a Q' G' ∧ Wrote [] w w ∧ (∀ x ∈ Q', x ∈ ([] : List Nat) ∨ w.heap.size ≤ x) ∧ (∀ x ∈ G', x ∈ ([] : List Nat) ∨ w.heap.size ≤ x) ∧ (∀ x ∈ ([] : List Nat), x ∈ G') ∧ NdVIn w (Fresh4 (fun x => lo ≤ x ∧ x ≤ cb) G' w.heap.size w.heap.size Q') (apO ns g a n).k (apO ns g a n).n (apO ns g a n).s (apO ns g a n).f v') :=
      Lib.hid ⟨[], [], v, rfl, h0, .refl _ _, (fun x hx => nomatch hx), (fun x hx => nomatch hx), (fun x hx => nomatch hx), by rw [hao]; exact NdVIn.of_range (fun x a b => ⟨.inl ⟨a, by omega⟩, by omega, by simp⟩) hu⟩
    obtain ⟨T3, z3, rfl⟩ := hu.iface
    clear hD hI hH hX hlk ho h0 hat hu hvr hv hkey
    go_enter Tryd.func47, Tryd.ntmps47
    go_wp2_with fail
    go_ret
    exact HR.out
end Go.Proofs.YtnkaafimnkigpaaDoor

/- Queries: impl.questionOf, QueryValid, QueryVars. Condition: the terms lie in memory, both tables in their variables. -/
namespace Go.Proofs.YtnkaafimnkigpaaDoor
open Go.RowKit Go.Maps Go.ChangeShapes

/-- What impl.questionOf leaves. -/
def QOf (w : World) (f : Fr) (e : Ending) (w' : World) : Prop :=
  Below w.heap.size w w' ∧ ((goalsV f = false ∧ e = .returned (.tuple #[.agg #[.slice none 0 0, .slice none 0 0], .bool false])) ∨
    (goalsV f = true ∧ ∃ A cap vo hi, e = .returned (.tuple #[.agg #[.slice A f.len cap, vo], .bool true]) ∧ GlS w' w.heap.size hi f A cap ∧ (w.heap.size ≤ hi ∧ hi ≤ w'.heap.size) ∧ OwnI w' hi vo (varsF [] f)))
theorem goalsV_all {f : Fr} (h : goalsV f = true) : allG f = true ∧ f.len ≤ 6 := by
  unfold goalsV at h
  simp only [Bool.and_eq_true, decide_eq_true_eq] at h
  exact ⟨h.2, h.1⟩
theorem results_cell_row22 {P : Program} {fn : Func} {p u : Tmp} {ty : TypeId} (h : fn.results = #[.cell p ty, .tmp u]) (tmps : Array Value) (w : World) (g : Nat) (t : TypeId) (cs : Array Value) (d : TypeDesc)
    (hp : tmps.getD p undef = .pointer (some ⟨g, 0, none⟩)) (hg : Blk w g t cs)
    (hu : P.underlying ty = some d) (hd : (match d with | .struct _ | .array _ _ => true | _ => false) = true) (hi : (P.info? ty).map (·.size) = some cs.size) :
    (results fn tmps).run P w = .ok (.tuple #[.agg cs, tmps.getD u undef]) w := results_cell_row2 h tmps w g t cs (0, 0) d hp hg hu hd hi
theorem set2 {w : World} {g : Nat} {t : TypeId} {x0 x1 : Value} (h : Blk w g t #[x0, x1]) (a b : Value) : Blk ((w.setCell ⟨g, 0, none⟩ a).setCell ⟨g, 1, none⟩ b) g t #[a, b] := (h.set_ 0 a).set_ 1 b
/-- The state of the loop: j goals are numbered. -/
def QSt (w2 : World) (f : Fr) (j : Nat) (wr : World) : Prop :=
  ∃ vo acc, Num wr (w2.heap.size + 2) (w2.heap.size + 1) w2.heap.size vo acc ∧ acc.length + nodes (f.drop j) ≤ nodes f ∧ varsF acc (f.drop j) = varsF [] f ∧ Below w2.heap.size w2 wr ∧ w2.heap.size + 2 ≤ wr.heap.size
theorem QSt.below {w2 wr wx : World} {f : Fr} {j : Nat} (h : QSt w2 f j wr) (hb : Below wr.heap.size wr wx) : QSt w2 f j wx := by
  obtain ⟨vo, acc, hN, h1, h2, h3, h4⟩ := h
  exact ⟨vo, acc, hN.below hb, h1, h2, h3.trans (hb.mono h3.size), Nat.le_trans h4 hb.size⟩
theorem QSt.step {w2 wr : World} {f : Fr} {j lo hi : Nat} {k n : Int} {s : ByteArray} {kids rest : Fr} {v : Value} (h : QSt w2 f j wr) (hd : f.drop j = .cons k n s kids rest) (hsh : shapeT k n s kids 30 = true) (hv : NdV wr lo hi k n s kids v) (hh : hi ≤ w2.heap.size) (hnd : nodes f ≤ 1048576) (hr : f.drop (j + 1) = rest) :
    ∃ vo acc, Num wr (w2.heap.size + 2) (w2.heap.size + 1) w2.heap.size vo acc ∧ Calls Tryd.prog 46 #[v, .func (.func 70) #[.pointer (some ⟨w2.heap.size + 1, 0, none⟩)] #[]] wr fun e w' => (∃ T x, e = .returned (.iface T x)) ∧ QSt w2 f (j + 1) w' := by
  obtain ⟨vo, acc, hN, h1, h2, h3, h4⟩ := h
  rw [hd] at h1 h2
  simp only [nodes] at h1
  have hlo := hN.2.2.1.lt
  refine ⟨vo, acc, hN, (nsT_any k n 30 s kids v lo hi _ _ _ vo acc wr hsh hv (by omega) hh hN h4 (by omega)).mono ?_⟩
  rintro e w' ⟨vo', v', rfl, hN', hw', hn', hnd'⟩
  obtain ⟨T, x, rfl⟩ := (hnd' _ (List.prefix_refl _)).iface
  refine ⟨⟨_, _, rfl⟩, ⟨vo', varsT acc k n kids, hN', ?_, ?_, h3.trans (hw'.below h3.size fun x hx => ?_), Nat.le_trans h4 hw'.size⟩⟩
  · rw [hr]
    have := varsT_len acc k n kids
    omega
  · rw [hr]; exact h2
  · simp only [List.mem_cons] at hx
    rcases hx with rfl | rfl | hx
    · omega
    · omega
    · have := (hlo x hx).1; omega

set_option maxRecDepth 100000 in
set_option maxHeartbeats 4000000 in
/-- impl.questionOf. -/
theorem questionOf_any (f : Fr) (A : Option Addr) (cap lo hi : Nat) (w : World) (hk : KidsAt w lo hi f A cap) (hh : hi ≤ w.heap.size) (hnd : nodes f ≤ 1048576) (ht : nv.Tab w) (ho : op.OpTab w) :
    Calls Tryd.prog 44 #[.slice A f.len cap] w fun e w' => QOf w f e w' := by
  have hl : f.len ≤ 1048576 := by have := len_le_nodes f; omega
  have hb0 : Below w.heap.size w (w.alloc (.cells #[.slice none 0 0, .slice none 0 0] 86)) := (Below.refl _ _).alloc (Nat.le_refl _) _
  have hq0 := Blk.new w 86 #[.slice none 0 0, .slice none 0 0]
  have C1 := goalsOf_any f A cap lo hi _ (hk.below hb0 hh) (Nat.le_trans hh hb0.size) hnd (ht.below hb0) (ho.below hb0)
  have hmf : ∀ (fn : Fn) (first cap : Array Value) (w : World), (Instr.makeFunc fn first cap).run Tryd.prog w = .ok (.func fn first cap) w := fun _ _ _ _ => rfl
  have e0 : (w.alloc (.cells #[.slice none 0 0, .slice none 0 0] 86)).heap.size = w.heap.size + 1 := by simp
  have HND := Lib.hid hnd
  have HB0 := Lib.hid hb0
  have HQ0 := Lib.hid hq0
  have H1 := Lib.hid C1
  clear C1 hk hnd ht ho hb0 hq0
  have HE0 := Lib.hid e0
  clear e0
  generalize hn : f.len = len at *
  have HN := Lib.hid hn
  clear hn
  go_enter Tryd.func44, Tryd.ntmps44
  go_wp2_with fail
  refine H1.out.mono ?_
  rintro e w2 ⟨hb, hr⟩
  have hq := HQ0.out.below hb HQ0.out.lt
  have x0 := hq.cell 0
  have x1 := hq.cell 1
  have f0 := hq.frozen 0
  have f1 := hq.frozen 1
  simp only [List.getElem?_toArray, List.getElem?_cons_zero, List.getElem?_cons_succ] at x0 x1
  have HB2 : Hid (Below w.heap.size w w2) := Lib.hid (HB0.out.trans (hb.mono HB0.out.size))
  have HQ := Lib.hid hq
  have hs2 : w.heap.size < w2.heap.size := hq.lt
  clear hb hq H1
  rcases hr with ⟨hok, rfl⟩ | ⟨hok, G, gcap, rfl, hgl⟩
  · have HV := Lib.hid hok
    clear hok
    go_wp2_with fail
    refine bodyPost_ret (v := .tuple #[.agg #[.slice none 0 0, .slice none 0 0], .bool false]) ?_ rfl ⟨?_, .inl ⟨HV.out, rfl⟩⟩
    · exact results_cell_row22 Tryd.results44 _ _ w.heap.size _ _ _ rfl (set2 HQ.out _ _) Tryd.underlying86 rfl (by kernel_rfl)
    · exact (HB2.out.setCell (Nat.le_refl _) _).setCell (Nat.le_refl _) _
  · have HV := Lib.hid hok
    have HALL := Lib.hid (goalsV_all hok).1
    have hl6 := (goalsV_all hok).2
    rw [HN.out] at hl6
    rw [HE0.out] at hgl
    have HGL := Lib.hid hgl
    clear hok hgl x0 x1 f0 f1
    rw [HN.out]
    go_wp2_with fail
    refine (newNum_any w2).mono ?_
    rintro e w4 ⟨rfl, hN, hb4, hs4⟩
    have hst : QSt w2 f 0 w4 := ⟨_, [], hN, by simp [Fr.drop], rfl, hb4, Nat.le_of_eq hs4.symm⟩
    have HST := Lib.hid hst
    clear hN hb4 hst
    go_wp2_with fail
    go_loopw [20] (fun i wr => ∃ (j : Nat), j ≤ len ∧ i = .int .i64 j ∧ QSt w2 f j wr) (fun i _ => len - (intOf i).toNat)
    case atStart => exact ⟨0, Nat.zero_le _, rfl, HST.out⟩
    case round =>
      obtain ⟨j, hj, rfl, hst⟩ := hrel
      by_cases hlt : j < len
      · obtain ⟨kk, nn, ss, kids, hd⟩ := Fr.drop_cons j f (by rw [HN.out]; exact hlt)
        obtain ⟨gb, rfl, hgb1, hgb2, hrow⟩ := HGL.out.2.2 (by rw [HN.out]; omega)
        obtain ⟨gv, A3, cp3, hcell, hgi, hnd⟩ := hrow.elem hd
        rw [Nat.zero_add] at hcell
        have hbw : Below w2.heap.size w2 wr := by obtain ⟨_, _, _, _, _, h, _⟩ := hst; exact h
        have k3 := (hbw.cell (p := ⟨gb, j, none⟩) hgb2).trans hcell
        have hgo := allG_elem f j hd HALL.out
        obtain ⟨rfl, hsh, hfm⟩ := GIs.node (w := w2) (lo := w.heap.size + 1) (hi := w2.heap.size) hgo hgi hnd
        have hnd3 : ∀ wx, Below wr.heap.size wr wx → NdS wx (w.heap.size + 1) w2.heap.size kids A3 cp3 := fun wx hb => hnd.keep (fun p _ hp => (hb.cell (Nat.lt_of_lt_of_le hp hbw.size)).trans (hbw.cell hp)) (Nat.le_refl _) (Nat.le_refl _)
        have HNX := Lib.hid hnd3
        have HSH := Lib.hid hsh
        have HD := Lib.hid hd
        have HSTR := Lib.hid hst
        have HGI := Lib.hid hgi
        clear hrow hcell hgi hnd hbw hgo hnd3 hsh hd hst
        rcases hfm with ⟨rfl, rfl, rfl⟩ | rfl | rfl
        · go_wp2_with fail
          refine (formC_any _).mono ?_
          rintro e w5 ⟨rfl, hb5⟩
          obtain ⟨vo, acc, _, C2⟩ := (HSTR.out.below hb5).step (lo := w.heap.size + 1) (hi := w2.heap.size) (n := nn) HD.out HSH.out (nd_cut w5 _ _ _) (Nat.le_refl _) HND.out rfl
          have H2 := Lib.hid C2
          clear hb5 C2 k3
          go_wp2_with fail
          refine H2.out.mono ?_
          rintro e w6 ⟨⟨T, x, rfl⟩, hst⟩
          have HS6 := Lib.hid hst
          clear hst
          go_wp2_with fail
          go_roundw
          case rel => exact ⟨j + 1, by omega, by go_num, HS6.out⟩
          case measure => simp [intOf]; omega
        · go_wp2_with fail
          refine (formB_any _ _ _ _ _).mono ?_
          rintro e w5 ⟨rfl, hb5⟩
          obtain ⟨vo, acc, _, C2⟩ := (HSTR.out.below hb5).step (lo := w.heap.size + 1) (hi := w2.heap.size) (n := nn) HD.out HSH.out (nd_form (HNX.out w5 hb5)) (Nat.le_refl _) HND.out rfl
          have H2 := Lib.hid C2
          clear hb5 C2 k3
          go_wp2_with fail
          refine H2.out.mono ?_
          rintro e w6 ⟨⟨T, x, rfl⟩, hst⟩
          have HS6 := Lib.hid hst
          clear hst
          go_wp2_with fail
          go_roundw
          case rel => exact ⟨j + 1, by omega, by go_num, HS6.out⟩
          case measure => simp [intOf]; omega
        · go_wp2_with fail
          refine (formP_any _ _ _ _ _).mono ?_
          rintro e w5 ⟨rfl, hb5⟩
          obtain ⟨vo, acc, _, C2⟩ := (HSTR.out.below hb5).step (lo := w.heap.size + 1) (hi := w2.heap.size) (n := nn) HD.out HSH.out (nd_form (HNX.out w5 hb5)) (Nat.le_refl _) HND.out rfl
          have H2 := Lib.hid C2
          clear hb5 C2 k3
          go_wp2_with fail
          refine H2.out.mono ?_
          rintro e w6 ⟨⟨T, x, rfl⟩, hst⟩
          have HS6 := Lib.hid hst
          clear hst
          go_wp2_with fail
          go_roundw
          case rel => exact ⟨j + 1, by omega, by go_num, HS6.out⟩
          case measure => simp [intOf]; omega
      · obtain rfl : j = len := by omega
        obtain ⟨vo, acc, hN, _, hva, hb, hs⟩ := hst
        have hacc : acc = varsF [] f := by
          have h1 := Fr.drop_len f
          rw [HN.out] at h1
          rw [← hva, h1]; rfl
        subst hacc
        have c1 := hN.1.cell 1
        simp only [List.getElem?_toArray, List.getElem?_cons_zero, List.getElem?_cons_succ] at c1
        have hq := HQ.out.below hb HQ.out.lt
        have x0 := hq.cell 0
        have x1 := hq.cell 1
        have f0 := hq.frozen 0
        have f1 := hq.frozen 1
        simp only [List.getElem?_toArray, List.getElem?_cons_zero, List.getElem?_cons_succ] at x0 x1
        have hfin : ∀ a b, QOf w f (.returned (.tuple #[.agg #[.slice G f.len gcap, vo], .bool true])) ((wr.setCell ⟨w.heap.size, 0, none⟩ a).setCell ⟨w.heap.size, 1, none⟩ b) := fun a b => by
          have far : ∀ p : Addr, w.heap.size + 1 ≤ p.block → ((wr.setCell ⟨w.heap.size, 0, none⟩ a).setCell ⟨w.heap.size, 1, none⟩ b).cell? p = wr.cell? p := fun p hp => by
            refine World.cell?_of_block ?_
            rw [heap_setCell_other _ _ _ _ (by show p.block ≠ w.heap.size; omega), heap_setCell_other _ _ _ _ (by show p.block ≠ w.heap.size; omega)]
          have hlo := hN.2.2.1.lt
          refine ⟨((HB2.out.trans (hb.mono HB2.out.size)).setCell (Nat.le_refl _) _).setCell (Nat.le_refl _) _, .inr ⟨HV.out, G, gcap, vo, w2.heap.size, rfl, ?_, ⟨HB2.out.size, by have := hs; simpa [World.setCell] using (by omega : w2.heap.size ≤ wr.heap.size)⟩, ?_⟩⟩
          · exact HGL.out.keep (fun p hl hh => (far p hl).trans (hb.cell hh)) (by omega) (Nat.le_refl _)
          · refine (hN.2.2.1.mono (by omega)).keep (L := [w.heap.size]) (((Wrote.refl _ _).set_ (.inl (by simp)) _).set_ (.inl (by simp)) _) fun x hx e => ?_
            have := (hlo x hx).1
            simp at e; omega
        have HF := Lib.hid hfin
        have HQ2 := Lib.hid hq
        obtain ⟨A4, cap4, rfl, _⟩ := hN.2.2.1.read
        clear hN hva hb hq hfin
        rw [HN.out] at HF
        go_wp2_with fail
        refine bodyPost_ret (v := .tuple #[.agg #[.slice G j gcap, .slice A4 (varsF [] f).length cap4], .bool true]) ?_ rfl (HF.out _ _)
        exact results_cell_row22 Tryd.results44 _ _ w.heap.size _ _ _ rfl (set2 HQ2.out _ _) Tryd.underlying86 rfl (by kernel_rfl)
end Go.Proofs.YtnkaafimnkigpaaDoor
