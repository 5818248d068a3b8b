/- Rows that are made beside one block that is written. spec.l18Open, l1Var, l1Int. Condition: the bytes lie in memory. -/
import Derived.Test.YtkgihpddjppmdaaDoorProg
import Derived.Test.YtkgihpddjppmdaaDoorDrP
import Derived.Test.YtkgihpddjppmdaaDoorDrS
namespace Go.Proofs.YtkgihpddjppmdaaDoor
open Go.RowKit

/-- As RowP, all of it elsewhere than block H. -/
def RowX (base H : Nat) (v : Value) (f : Fr) (w : World) : Prop :=
  ∃ xs L, w.ownsRow base 25 4 v f.len xs ∧ Desc w f xs L ∧ L.Nodup ∧ (∀ x ∈ L, base ≤ x ∧ x < w.heap.size ∧ x ≠ H) ∧ (∀ g, v.ownBlock = some g → g ∉ L ∧ g ≠ H)
section
variable {w w' : World} {base H rb : Nat} {v : Value} {f : Fr}
theorem RowP.x (h : RowP base v f w) (hH : w.heap.size ≤ H) : RowX base H v f w := by
  obtain ⟨xs, L, ho, hd, hn, hL, hv⟩ := h
  exact ⟨xs, L, ho, hd, hn, fun x hx => ⟨(hL x hx).1, (hL x hx).2, by have := (hL x hx).2; omega⟩, fun g hg => ⟨hv g hg, by have := (ho.lt g hg).2; omega⟩⟩
theorem RowX.p (h : RowX base H v f w) : RowP base v f w := by
  obtain ⟨xs, L, ho, hd, hn, hL, hv⟩ := h
  exact ⟨xs, L, ho, hd, hn, fun x hx => ⟨(hL x hx).1, (hL x hx).2.1⟩, fun g hg => (hv g hg).1⟩
/-- A world in which its blocks are as they were. -/
theorem RowX.keep (h : RowX base H v f w) (hk : ∀ x, base ≤ x → x < w.heap.size → x ≠ H → w'.heap[x]? = w.heap[x]?) (hs : w.heap.size ≤ w'.heap.size) : RowX base H v f w' := by
  obtain ⟨xs, L, ho, hd, hn, hL, hv⟩ := h
  have hlt := ho.lt
  refine ⟨xs, L, ⟨ho.1, ?_⟩, hd.keep f xs L fun x hx => hk x (hL x hx).1 (hL x hx).2.1 (hL x hx).2.2, hn, fun x hx => ⟨(hL x hx).1, Nat.lt_of_lt_of_le (hL x hx).2.1 hs, (hL x hx).2.2⟩, hv⟩
  rcases ho.2 with h | ⟨g, cap, cur, rfl, hg, hh, hr'⟩
  · exact .inl h
  · exact .inr ⟨g, cap, cur, rfl, hg, (hk g hg (hlt g rfl).2 (hv g rfl).2).trans hh, hr'⟩
theorem RowX.wrote (h : RowX base H v f w) (hr : rb < base) (hw : Wrote [rb] w w') : RowX base H v f w' := h.keep (fun x hx hl _ => hw.block x hl (by simp; omega)) hw.size
theorem RowX.below (h : RowX base H v f w) (hb : Below w.heap.size w w') : RowX base H v f w' := h.keep (fun x _ hl _ => hb.block x hl) hb.size
theorem RowX.set_ (h : RowX base H v f w) {p : Addr} (hp : p.block = H) (u : Value) : RowX base H v f (w.setCell p u) := h.keep (fun x _ _ hn => heap_setCell_other w p x u (by omega)) (by simp [World.setCell])
theorem RowX.setlo (h : RowX base H v f w) {p : Addr} (hp : p.block < base) (u : Value) : RowX base H v f (w.setCell p u) := h.keep (fun x hx _ _ => heap_setCell_other w p x u (by omega)) (by simp [World.setCell])
/-- One term more. -/
theorem RowX.step {w1 w2 w3 : World} {xs : List Value} {L : List Nat} {k n : Int} {s : ByteArray} {kids : Fr} {A : Option Addr} {cap cap' g : Nat} (hr : rb < base)
    (hD : Desc w f xs L) (hN : L.Nodup) (hL : ∀ x ∈ L, base ≤ x ∧ x < w.heap.size ∧ x ≠ H) (hv : ∀ g, v.ownBlock = some g → g ∉ L ∧ g ≠ H) (hvl : ∀ g, v.ownBlock = some g → g < w.heap.size) (hbase : base ≤ w.heap.size) (hH : H < w.heap.size)
    (hf : Fits k n s) (hm : MadeW rb w kids A cap w1) (hb2 : Below w1.heap.size w1 w2) (hg : w2.grownBy w3 v.ownBlock)
    (ho : w3.ownsRow base 25 4 (.slice (some ⟨g, 0, none⟩) (f.len + 1) cap') (f.len + 1) (xs ++ [.int .i64 k, .int .i64 n, .string s, .slice A kids.len cap])) (hat : v.ownBlock = some g ∨ g = w2.heap.size) :
    RowX base H (.slice (some ⟨g, 0, none⟩) (f.len + 1) cap') (f.app (.cons k n s kids .nil)) w3 := by
  obtain ⟨L', how, hn', hL', hb1⟩ := hm
  have h12 : w.heap.size ≤ w2.heap.size := Nat.le_trans hb1.size hb2.size
  have far : ∀ x, x < w1.heap.size → (∀ g, v.ownBlock = some g → x ≠ g) → w3.heap[x]? = w1.heap[x]? := fun x hx hne =>
    (hg.block x (Nat.lt_of_lt_of_le hx hb2.size) fun e => hne x e.symm rfl).trans (hb2.block x hx)
  have hlen : (f.app (.cons k n s kids .nil)).len = f.len + 1 := by rw [Fr.len_app]; rfl
  refine ⟨_, L ++ L', by rw [hlen]; exact ho, Desc.snoc f hf (how.keep fun x hx => far x (hL' x hx).2 fun g hg e => ?_) xs L (hD.keep f xs L fun x hx => ?_), List.nodup_append.2 ⟨hN, hn', fun a ha b hb e => ?_⟩, fun x hx => ?_, fun g' hg' => ?_⟩
  · have := hvl g hg; have := (hL' x hx).1; omega
  · rw [far x (Nat.lt_of_lt_of_le (hL x hx).2.1 hb1.size) fun g hg e => (hv g hg).1 (e ▸ hx)]
    exact hb1.block x (hL x hx).2.1 (by simp; have := (hL x hx).1; omega)
  · have := (hL a ha).2.1; have := (hL' b hb).1; omega
  · have hs3 := hg.size
    have := hb2.size
    rcases List.mem_append.1 hx with hx | hx
    · have := hL x hx; omega
    · have := hL' x hx; omega
  · have e : g = g' := by simpa [Value.ownBlock] using hg'
    subst e
    have := hb2.size
    rcases hat with h | rfl
    · refine ⟨fun hx => ?_, (hv g h).2⟩
      rcases List.mem_append.1 hx with hx | hx
      · exact (hv g h).1 hx
      · have := hvl g h; have := (hL' g hx).1; omega
    · refine ⟨fun hx => ?_, by omega⟩
      rcases List.mem_append.1 hx with hx | hx
      · have := (hL _ hx).2.1; omega
      · have := (hL' _ hx).2; omega
end

set_option maxRecDepth 100000 in
/-- spec.l1Var. -/
theorem var_any (n : Int) (w : World) : Calls Tryd.prog 30 #[.int .i64 n] w fun e w' => e = .returned (.agg #[.int .i64 1, .int .i64 n, .string ⟨#[]⟩, .slice none 0 0]) ∧ Below w.heap.size w w' := by
  have hq := Blk.new w 25 #[.int .i64 1, .int .i64 n, .string ⟨#[]⟩, .slice none 0 0]
  have HB : ∀ o, Hid (Below w.heap.size w (w.alloc o)) := fun o => Lib.hid ((Below.refl _ _).alloc (Nat.le_refl _) _)
  have HQ := Lib.hid hq
  clear hq
  go_enter Tryd.func30, Tryd.ntmps30
  go_wp2_with fail
  refine bodyPost_ret (v := .agg #[.int .i64 1, .int .i64 n, .string ⟨#[]⟩, .slice none 0 0]) ?_ rfl ⟨rfl, (HB _).out⟩
  exact results_cell_row Tryd.results30 _ _ w.heap.size _ _ _ _ rfl HQ.out Tryd.underlying25 rfl (by kernel_rfl)
set_option maxRecDepth 100000 in
/-- spec.l1Int. -/
theorem int_any (n : Int) (w : World) : Calls Tryd.prog 28 #[.int .i64 n] w fun e w' => e = .returned (.agg #[.int .i64 2, .int .i64 n, .string ⟨#[]⟩, .slice none 0 0]) ∧ Below w.heap.size w w' := by
  have hq := Blk.new w 25 #[.int .i64 2, .int .i64 n, .string ⟨#[]⟩, .slice none 0 0]
  have HB : ∀ o, Hid (Below w.heap.size w (w.alloc o)) := fun o => Lib.hid ((Below.refl _ _).alloc (Nat.le_refl _) _)
  have HQ := Lib.hid hq
  clear hq
  go_enter Tryd.func28, Tryd.ntmps28
  go_wp2_with fail
  refine bodyPost_ret (v := .agg #[.int .i64 2, .int .i64 n, .string ⟨#[]⟩, .slice none 0 0]) ?_ rfl ⟨rfl, (HB _).out⟩
  exact results_cell_row Tryd.results28 _ _ w.heap.size _ _ _ _ rfl HQ.out Tryd.underlying25 rfl (by kernel_rfl)
set_option maxRecDepth 100000 in
/-- spec.l18Open. -/
theorem open18_any (A : Option Addr) (len cap : Nat) (w : World) (hb : Bts w w.heap.size A len) (hc : len ≤ cap) (hm : cap ≤ maxLen) :
    Calls Tryd.prog 10 #[.slice A len cap] w fun e w' => e = .returned (.pointer (some ⟨w.heap.size, 0, none⟩)) ∧ Rd w' w.heap.size 0 ∧ Below w.heap.size w w' := by
  have HB : ∀ o, Hid (Below w.heap.size w (w.alloc o)) := fun o => Lib.hid ((Below.refl _ _).alloc (Nat.le_refl _) _)
  unfold maxLen at hm
  by_cases h2 : len ≤ 2000
  · have HR : Hid (Rd (w.alloc (.cells #[.slice A len cap, .int .i64 0] 70)) w.heap.size 0) := Lib.hid ⟨A, len, cap, 0, Blk.new w _ _, hb.keep fun x hx => (HB _).out.block x hx, h2, Nat.le_refl _⟩
    have t0 : ¬ (len : Int) > 2000 := by omega
    clear hb
    go_enter Tryd.func10, Tryd.ntmps10
    go_wp2_with fail
    go_ret
    exact ⟨rfl, HR.out, (HB _).out⟩
  · obtain ⟨b, o, rfl, hbb, hbc⟩ := hb (by omega)
    have HR : Hid (Rd (w.alloc (.cells #[.slice (some ⟨b, o, none⟩) 2000 cap, .int .i64 0] 70)) w.heap.size 0) := Lib.hid ⟨_, 2000, cap, 0, Blk.new w _ _, fun _ => ⟨b, o, rfl, hbb, fun i hi => by
      obtain ⟨n, h1, h3⟩ := hbc i (by omega)
      exact ⟨n, ((HB _).out.cell (p := ⟨b, o + i, none⟩) hbb).trans h1, h3⟩⟩, Nat.le_refl _, Nat.le_refl _⟩
    have t0 : (len : Int) > 2000 := by omega
    clear hb hbc
    go_enter Tryd.func10, Tryd.ntmps10
    go_wp2_with fail
    go_ret
    exact ⟨rfl, HR.out, (HB _).out⟩
end Go.Proofs.YtkgihpddjppmdaaDoor
