/- impl.validTermOf. Condition: the nodes lie in memory; their names and numbers are right. -/
import Derived.Test.YtplmkighekjipaaDoorProg
import Derived.Test.YtplmkighekjipaaDoorZmA35
import Derived.Test.YtplmkighekjipaaDoorTb
import Derived.Test.YtplmkighekjipaaDoorNode
import Derived.Test.YtplmkighekjipaaDoorZmA33
namespace Go.Proofs.YtplmkighekjipaaDoor
open Go.RowKit

theorem wfT_shape {k n : Int} {s : ByteArray} {f : Fr} {d : Int} (h : shapeT k n s f d = true) : wfT k n s f.len = true := by
  have hk := shapeT_kind h
  by_cases h3 : k = 3
  · subst h3
    obtain ⟨rfl, hn, _⟩ := shapeT_struct h
    unfold wfT
    rw [hn]; simp
  · obtain ⟨rfl, rfl, hn⟩ := shapeT_leaf h h3
    unfold wfT
    rcases (show k = 1 ∨ k = 2 by omega) with rfl | rfl
    · rw [decide_eq_true (show (-9223372036854775808 : Int) ≤ n by omega), decide_eq_true (show n ≤ 9223372036854775807 by omega)]
      rfl
    · rw [decide_eq_true (show (-999 : Int) ≤ n by omega), decide_eq_true (show n ≤ 999 by omega)]
      rfl
theorem wfF_shape (f : Fr) : ∀ d, shapeF f d = true → wfF f = true := by
  induction f with
  | nil => intro d _; rfl
  | cons k n s kids rest ihk ihr =>
    intro d h
    rw [shapeF_cons, Bool.and_eq_true] at h
    rw [wfF_cons, wfT_shape h.1, ihk (d - 1) (shapeT_kids h.1), ihr d h.2]
    rfl

set_option maxRecDepth 100000 in
set_option maxHeartbeats 2000000 in
/-- impl.validTermOf. -/
theorem vt_any (m : Nd) (v : Value) (lo hi : Nat) (w : World) (hwf : wfT m.k m.n m.s m.f.len = true) (hwk : wfF m.f = true) (hv : NdV w lo hi m.k m.n m.s m.f v) (hh : hi ≤ w.heap.size) (hnd : nodes m.f ≤ 1048576) :
    Calls Tryd.prog 29 #[v] w fun e w' => TbRes w (vtF m) (vtB m) e w' := by
  obtain ⟨k, n, s, f⟩ := m
  have C1 := fun w1 mb (hb : Below w.heap.size w w1) (hq : Blk w1 mb 97 #[.int .i64 120]) (hm : w.heap.size ≤ mb) =>
    ftT_any s f k n 1 120 v lo hi mb w1 hwf hwk (hv.keep (fun p _ hp => hb.cell (by omega)) (Nat.le_refl _) (Nat.le_refl _)) (Nat.le_trans hh hb.size) (Nat.le_trans hh hm) hnd hq (by omega) (by omega) (by omega) (by omega)
  have C2 := fun w1 (hb : Below w.heap.size w w1) (hs : shapeT k n s f 30 = true) => tmT_any s f k n 30 v lo hi w1 hs (hv.keep (fun p _ hp => hb.cell (by omega)) (Nat.le_refl _) (Nat.le_refl _)) (Nat.le_trans hh hb.size) hnd
  rw [okT_valid] at C1
  have hb0 := two_alloc w (.cells #[.int .i64 0, .int .i64 0, .string ⟨#[]⟩, .slice none 0 0] 28) (.cells #[.int .i64 120] 97)
  have hz0 : Blk ((w.alloc (.cells #[.int .i64 0, .int .i64 0, .string ⟨#[]⟩, .slice none 0 0] 28)).alloc (.cells #[.int .i64 120] 97)) w.heap.size 28 #[.int .i64 0, .int .i64 0, .string ⟨#[]⟩, .slice none 0 0] := (Blk.new w _ _).alloc _
  have hq0 : Blk ((w.alloc (.cells #[.int .i64 0, .int .i64 0, .string ⟨#[]⟩, .slice none 0 0] 28)).alloc (.cells #[.int .i64 120] 97)) (w.heap.size + 1) 97 #[.int .i64 120] := by
    have h := Blk.new (w.alloc (.cells #[.int .i64 0, .int .i64 0, .string ⟨#[]⟩, .slice none 0 0] 28)) 97 #[.int .i64 120]
    simpa using h
  have C0 := C1 _ _ hb0 hq0 (by omega)
  obtain ⟨T, x, rfl⟩ := hv.iface
  have hsz : ((w.alloc (.cells #[.int .i64 0, .int .i64 0, .string ⟨#[]⟩, .slice none 0 0] 28)).alloc (.cells #[.int .i64 120] 97)).heap.size = w.heap.size + 1 + 1 := by simp
  have H1 := Lib.hid C0
  have H2 := Lib.hid C2
  have HB0 := Lib.hid hb0
  have HZ0 := Lib.hid hz0
  have HSZ := Lib.hid hsz
  clear C0 C1 C2 hwf hwk hv hnd hh hb0 hz0 hq0 hsz
  have HM : Hid (vtF ⟨k, n, s, f⟩ = (if validT k n s f = true then ⟨k, n, s, f⟩ else nd0) ∧ vtB ⟨k, n, s, f⟩ = validT k n s f) := Lib.hid ⟨rfl, rfl⟩
  have HSH : Hid (validT k n s f = true → shapeT k n s f 30 = true) := Lib.hid fun h => by unfold validT at h; rw [Bool.and_eq_true] at h; exact h.1
  generalize validT k n s f = ok at *
  go_enter Tryd.func29, Tryd.ntmps29
  go_wp2_with fail
  refine H1.out.mono ?_
  rintro e w3 ⟨rfl, hg, _⟩
  have hb3 := below_grownBy HB0.out (by omega) hg
  have hz3 := HZ0.out.grown hg (by omega)
  have hs3 : w.heap.size + 1 + 1 ≤ w3.heap.size := by have := HSZ.out; have := hg.size; omega
  clear hg
  cases ok
  · obtain ⟨d0, d1, d2, d3⟩ := cells4i hz3
    obtain ⟨f0, f1, f2, f3⟩ := frozen4 hz3
    have HB3 := Lib.hid hb3
    have HZ3 := Lib.hid hz3
    clear hb3 hz3 H1 H2 HSH
    go_wp2_with fail
    rw [HM.out.1, HM.out.2]
    refine bodyPost_ret (v := .tuple #[.agg #[.int .i64 0, .int .i64 0, .string ⟨#[]⟩, .slice none 0 0], .bool false]) ?_ rfl (tb_no (below4 HB3.out (Nat.le_refl _) _ _ _ _))
    exact results_cell_row2 Tryd.results29 _ _ w.heap.size _ _ _ _ rfl (set4 HZ3.out _ _ _ _) Tryd.underlying28 rfl (by kernel_rfl)
  · have HB3 := Lib.hid hb3
    have HZ3 := Lib.hid hz3
    clear hb3 hz3 H1
    go_wp2_with fail
    refine (H2.out _ HB3.out (HSH.out (by first | rfl | trivial))).mono ?_
    rintro e w4 ⟨A4, cap4, rfl, hm⟩
    have hd := made_below hm
    have hz4 := HZ3.out.below hd HZ3.out.lt
    obtain ⟨d0, d1, d2, d3⟩ := cells4i hz4
    obtain ⟨f0, f1, f2, f3⟩ := frozen4 hz4
    have HZ4 := Lib.hid hz4
    have HM4 : Hid (∃ L, OwnS w4 f A4 cap4 L ∧ L.Nodup ∧ (∀ x ∈ L, w3.heap.size ≤ x ∧ x < w4.heap.size)) := Lib.hid (by obtain ⟨L, h1, h2, h3, _⟩ := hm; exact ⟨L, h1, h2, h3⟩)
    have HB4 := Lib.hid (HB3.out.trans (hd.mono HB3.out.size))
    clear hm hd hz4 H2
    go_wp2_with fail
    rw [HM.out.1, HM.out.2]
    refine bodyPost_ret (v := .tuple #[.agg #[.int .i64 k, .int .i64 n, .string s, .slice A4 f.len cap4], .bool true]) ?_ rfl ⟨A4, cap4, rfl, made_set4 HM4.out HB4.out (Nat.le_refl _) (by omega) _ _ _ _⟩
    exact results_cell_row2 Tryd.results29 _ _ w.heap.size _ _ _ _ rfl (set4 HZ4.out _ _ _ _) Tryd.underlying28 rfl (by kernel_rfl)
end Go.Proofs.YtplmkighekjipaaDoor

/- impl's nodes in memory, by the set of their blocks. No condition. -/
namespace Go.Proofs.YtplmkighekjipaaDoor
open Go.RowKit

/-- The nodes of the row f lie in block b from cell o on; what they lead to lies in blocks of the set P. -/
def NdRowIn (w : World) (P : Nat → Prop) : Fr → Nat → Nat → Prop
  | .nil, _, _ => True
  | .cons k n s kids rest, b, o => (∃ v, w.cell? ⟨b, o, none⟩ = some v ∧
      ((k = 1 ∧ v = .iface 56 (.int .i64 n)) ∨ (k = 2 ∧ v = .iface 132 (.int .i64 n)) ∨
        (k = 3 ∧ ∃ (A : Option Addr) (cap : Nat), v = .iface 113 (.agg #[.string s, .slice A kids.len cap]) ∧ kids.len ≤ cap ∧ cap ≤ maxLen ∧ (0 < kids.len → ∃ b', A = some ⟨b', 0, none⟩ ∧ P b' ∧ NdRowIn w P kids b' 0)))) ∧ NdRowIn w P rest b (o + 1)
def NdSIn (w : World) (P : Nat → Prop) (f : Fr) (A : Option Addr) (cap : Nat) : Prop :=
  f.len ≤ cap ∧ cap ≤ maxLen ∧ (0 < f.len → ∃ b', A = some ⟨b', 0, none⟩ ∧ P b' ∧ NdRowIn w P f b' 0)
def NdVIn (w : World) (P : Nat → Prop) (k n : Int) (s : ByteArray) (kids : Fr) (v : Value) : Prop :=
  (k = 1 ∧ v = .iface 56 (.int .i64 n)) ∨ (k = 2 ∧ v = .iface 132 (.int .i64 n)) ∨
    (k = 3 ∧ ∃ (A : Option Addr) (cap : Nat), v = .iface 113 (.agg #[.string s, .slice A kids.len cap]) ∧ NdSIn w P kids A cap)
section
variable {w w' : World} {P P' : Nat → Prop}
theorem NdRowIn.keep (hk : ∀ p : Addr, P p.block → w'.cell? p = w.cell? p) (hP : ∀ x, P x → P' x) (f : Fr) :
    ∀ b o, (∀ j, j < f.len → w'.cell? ⟨b, o + j, none⟩ = w.cell? ⟨b, o + j, none⟩) → NdRowIn w P f b o → NdRowIn w' P' f b o := by
  induction f with
  | nil => intro b o _ _; trivial
  | cons k n s kids rest ihk ihr =>
    rintro b o hc ⟨⟨v, hv, hw⟩, hr⟩
    simp only [Fr.len] at hc
    refine ⟨⟨v, (hc 0 (by omega)).trans hv, ?_⟩, ihr b (o + 1) (fun j hj => ?_) hr⟩
    · rcases hw with h | h | ⟨h1, A, cap, h2, h3, h4, h5⟩
      · exact .inl h
      · exact .inr (.inl h)
      · refine .inr (.inr ⟨h1, A, cap, h2, h3, h4, fun hp => ?_⟩)
        obtain ⟨b', e, hb, hrow⟩ := h5 hp
        exact ⟨b', e, hP _ hb, ihk b' 0 (fun j _ => hk _ hb) hrow⟩
    · have := hc (j + 1) (by omega)
      rwa [show o + (j + 1) = o + 1 + j by omega] at this
theorem NdSIn.keep {f : Fr} {A : Option Addr} {cap : Nat} (h : NdSIn w P f A cap) (hk : ∀ p : Addr, P p.block → w'.cell? p = w.cell? p) (hP : ∀ x, P x → P' x) : NdSIn w' P' f A cap :=
  ⟨h.1, h.2.1, fun hp => by
    obtain ⟨b', e, hb, hrow⟩ := h.2.2 hp
    exact ⟨b', e, hP _ hb, NdRowIn.keep hk hP f b' 0 (fun j _ => hk _ hb) hrow⟩⟩
theorem NdVIn.keep {k n : Int} {s : ByteArray} {kids : Fr} {v : Value} (h : NdVIn w P k n s kids v) (hk : ∀ p : Addr, P p.block → w'.cell? p = w.cell? p) (hP : ∀ x, P x → P' x) : NdVIn w' P' k n s kids v := by
  rcases h with h | h | ⟨h1, A, cap, h2, h3⟩
  · exact .inl h
  · exact .inr (.inl h)
  · exact .inr (.inr ⟨h1, A, cap, h2, h3.keep hk hP⟩)
theorem NdVIn.iface {k n : Int} {s : ByteArray} {kids : Fr} {v : Value} (h : NdVIn w P k n s kids v) : ∃ T x, v = .iface T x := by
  rcases h with ⟨_, rfl⟩ | ⟨_, rfl⟩ | ⟨_, A, cap, rfl, _⟩
  · exact ⟨_, _, rfl⟩
  · exact ⟨_, _, rfl⟩
  · exact ⟨_, _, rfl⟩
theorem NdRowIn.snoc (f : Fr) {k n : Int} {s : ByteArray} {kids : Fr} {v : Value} (hv : NdVIn w P k n s kids v) :
    ∀ b o, NdRowIn w P f b o → w.cell? ⟨b, o + f.len, none⟩ = some v → NdRowIn w P (f.app (.cons k n s kids .nil)) b o := by
  induction f with
  | nil =>
    intro b o _ hc
    refine ⟨⟨v, hc, ?_⟩, trivial⟩
    rcases hv with h | h | ⟨h1, A, cap, h2, h3⟩
    · exact .inl h
    · exact .inr (.inl h)
    · exact .inr (.inr ⟨h1, A, cap, h2, h3.1, h3.2.1, h3.2.2⟩)
  | cons k' n' s' kids' rest' _ ihr =>
    intro b o h hc
    refine ⟨h.1, ihr b (o + 1) h.2 ?_⟩
    rw [← hc]
    simp only [Fr.len]
    rw [show o + (rest'.len + 1) = o + 1 + rest'.len by omega]
/-- By ranges. -/
theorem NdRowIn.range {lo hi : Nat} (hP : ∀ x, P x → lo ≤ x ∧ x < hi) (f : Fr) : ∀ b o, NdRowIn w P f b o → NdRow w lo hi f b o := by
  induction f with
  | nil => intro b o _; trivial
  | cons k n s kids rest ihk ihr =>
    rintro b o ⟨⟨v, hv, hw⟩, hr⟩
    refine ⟨⟨v, hv, ?_⟩, ihr b (o + 1) hr⟩
    rcases hw with h | h | ⟨h1, A, cap, h2, h3, h4, h5⟩
    · exact .inl h
    · exact .inr (.inl h)
    · refine .inr (.inr ⟨h1, A, cap, h2, h3, h4, fun hp => ?_⟩)
      obtain ⟨b', e, hb, hrow⟩ := h5 hp
      exact ⟨b', e, (hP _ hb).1, (hP _ hb).2, ihk b' 0 hrow⟩
theorem NdVIn.range {lo hi : Nat} (hP : ∀ x, P x → lo ≤ x ∧ x < hi) {k n : Int} {s : ByteArray} {kids : Fr} {v : Value} (h : NdVIn w P k n s kids v) : NdV w lo hi k n s kids v := by
  rcases h with h | h | ⟨h1, A, cap, h2, h3, h4, h5⟩
  · exact .inl h
  · exact .inr (.inl h)
  · refine .inr (.inr ⟨h1, A, cap, h2, h3, h4, fun hp => ?_⟩)
    obtain ⟨b', e, hb, hrow⟩ := h5 hp
    exact ⟨b', e, (hP _ hb).1, (hP _ hb).2, NdRowIn.range hP kids b' 0 hrow⟩
/-- One node is put behind those that are there. -/
theorem NdRowIn.put {w0 : World} {f : Fr} {j g : Nat} {k n : Int} {s : ByteArray} {kids rest : Fr} {v u0 : Value} {Q : Nat → Prop} (hd : f.drop j = .cons k n s kids rest) (hj : j ≤ f.len) (hrow : NdRowIn w0 P (f.take j) g 0) (hv : NdVIn w Q k n s kids v)
    (hk : ∀ p : Addr, P p.block → w.cell? p = w0.cell? p) (hc : ∀ i, w.cell? ⟨g, i, none⟩ = w0.cell? ⟨g, i, none⟩) (hcell : w.cell? ⟨g, j, none⟩ = some u0) (hP : ∀ x, P x → P' x) (hQ : ∀ x, Q x → P' x) (hg : ¬ P g ∧ ¬ Q g) :
    NdRowIn (w.setCell ⟨g, j, none⟩ v) P' (f.take (j + 1)) g 0 := by
  have hlen : (f.take j).len = j := Fr.len_take j f hj
  have far : ∀ p : Addr, p.block ≠ g → (w.setCell ⟨g, j, none⟩ v).cell? p = w.cell? p := fun p hp => World.cell?_of_block (heap_setCell_other w _ p.block v hp)
  rw [Fr.take_succ j f hd]
  refine NdRowIn.snoc (f.take j) (hv.keep (fun p hp => far p fun e => hg.2 (e ▸ hp)) hQ) g 0 ?_ ?_
  · refine NdRowIn.keep (fun p hp => (far p fun e => hg.1 (e ▸ hp)).trans (hk p hp)) hP (f.take j) g 0 (fun i hi => ?_) hrow
    rw [hlen] at hi
    rw [← hc]
    exact World.cell?_setCell_other w _ _ _ (fun e => by injection e with _ e _; omega)
  · rw [hlen, Nat.zero_add]
    exact World.cell?_setCell_same w _ _ hcell
end
end Go.Proofs.YtplmkighekjipaaDoor
