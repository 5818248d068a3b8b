/- impl.joinList: the list of some nodes with a tail. Condition: the nodes lie in memory. -/
import Derived.Test.YtplmkighekjipaaDoorProg
import Derived.Test.YtplmkighekjipaaDoorZmA27
import Derived.Test.YtplmkighekjipaaDoorZmA28
import Derived.Test.YtplmkighekjipaaDoorZmA24
import Derived.Test.YtplmkighekjipaaDoorTb
import Derived.Test.YtplmkighekjipaaDoorMk
namespace Go.Proofs.YtplmkighekjipaaDoor
open Go.RowKit

def dot : ByteArray := ⟨#[46]⟩
/-- The list of the terms f, with the term t in the place of the list behind the last one. -/
def chain : Fr → Fr → Fr
  | .nil, t => t
  | .cons k n s kids rest, t => .cons 3 0 dot (.cons k n s kids (chain rest t)) .nil
theorem chain_one (f : Fr) (k n : Int) (s : ByteArray) (kids : Fr) : ∃ k' n' s' f', chain f (.cons k n s kids .nil) = .cons k' n' s' f' .nil := by
  cases f with
  | nil => exact ⟨_, _, _, _, rfl⟩
  | cons k' n' s' kids' rest => exact ⟨_, _, _, _, rfl⟩
theorem nodes_chain (f t : Fr) : nodes (chain f t) = nodes f + f.len + nodes t := by
  induction f with
  | nil => simp [chain, nodes, Fr.len]
  | cons k n s kids rest _ ih => simp only [chain, nodes, Fr.len, ih]; omega
theorem shape_chain (f : Fr) (k n : Int) (s : ByteArray) (kids : Fr) (hf : allV f = true) (ht : validT k n s kids = true) : shapeF (chain f (.cons k n s kids .nil)) (30 + f.len) = true := by
  induction f with
  | nil =>
    have h : shapeT k n s kids 30 = true := by
      unfold validT at ht
      rw [Bool.and_eq_true] at ht
      exact ht.1
    simp only [chain, Fr.len]
    rw [shapeF_cons, show (30 + ((0 : Nat) : Int)) = 30 by omega, h]
    rfl
  | cons k' n' s' kids' rest _ ih =>
    simp only [allV, Bool.and_eq_true] at hf
    have h1 : shapeT k' n' s' kids' 30 = true := by
      have h := hf.1
      unfold validT at h
      rw [Bool.and_eq_true] at h
      exact h.1
    have h2 := ih hf.2
    obtain ⟨k2, n2, s2, f2, hc⟩ := chain_one rest k n s kids
    have hl : (chain rest (.cons k n s kids .nil)).len = 1 := by rw [hc]; rfl
    simp only [chain, Fr.len]
    rw [shapeF_cons]
    have h3 : shapeF (.cons k' n' s' kids' (chain rest (.cons k n s kids .nil))) (30 + ((rest.len + 1 : Nat) : Int) - 1) = true := by
      rw [shapeF_cons, Bool.and_eq_true]
      have e : (30 + ((rest.len + 1 : Nat) : Int) - 1) = 30 + (rest.len : Int) := by omega
      rw [e]
      refine ⟨?_, h2⟩
      have h4 : shapeF (.cons k' n' s' kids' .nil) 30 = true := by rw [shapeF_cons, h1]; rfl
      have h5 := shapeF_mono _ 30 (30 + (rest.len : Int)) (by omega) h4
      rw [shapeF_cons, Bool.and_eq_true] at h5
      exact h5.1
    have h6 : shapeT 3 0 dot (.cons k' n' s' kids' (chain rest (.cons k n s kids .nil))) (30 + ((rest.len + 1 : Nat) : Int)) = true := by
      unfold shapeT ownB
      rw [h3, Fr.len, hl]
      have h7 : nv.nameB dot.data.toList = true := by decide
      rw [h7, decide_eq_true (show (1 : Int) ≤ 30 + ((rest.len + 1 : Nat) : Int) by omega)]
      rfl
    rw [h6]
    rfl

/-- v is the node of the one term of f. -/
def NdOne (w : World) (lo hi : Nat) (f : Fr) (v : Value) : Prop := ∃ k n s kids, f = .cons k n s kids .nil ∧ NdV w lo hi k n s kids v
theorem NdOne.iface {w : World} {lo hi : Nat} {f : Fr} {v : Value} (h : NdOne w lo hi f v) : ∃ T x, v = .iface T x := by
  obtain ⟨k, n, s, kids, _, h⟩ := h
  exact h.iface
theorem NdOne.below {w w' : World} {lo hi lo' hi' : Nat} {f : Fr} {v : Value} (h : NdOne w lo hi f v) (hb : Below w.heap.size w w') (hh : hi ≤ w.heap.size) (hL : lo' ≤ lo) (hH : hi ≤ hi') : NdOne w' lo' hi' f v := by
  obtain ⟨k, n, s, kids, e, h⟩ := h
  exact ⟨k, n, s, kids, e, h.keep (fun p _ hp => hb.cell (by omega)) hL hH⟩
/-- One element more in front. -/
theorem NdOne.pair {w w' : World} {g : Nat} {k n : Int} {s : ByteArray} {kids t : Fr} {v x : Value} (hv : NdV w 0 w.heap.size k n s kids v) (ht : NdOne w 0 w.heap.size t x) (hb : Below w.heap.size w w') (hg : Blk w' g 51 #[v, x]) :
    NdOne w' 0 w'.heap.size (.cons 3 0 dot (.cons k n s kids t) .nil) (.iface 113 (.agg #[.string dot, .slice (some ⟨g, 0, none⟩) 2 2])) := by
  obtain ⟨k2, n2, s2, kids2, rfl, hx⟩ := ht
  have keep : ∀ p : Addr, 0 ≤ p.block → p.block < w.heap.size → w'.cell? p = w.cell? p := fun p _ hp => hb.cell hp
  have h1 := hv.keep keep (Nat.le_refl 0) hb.size
  have h2 := hx.keep keep (Nat.le_refl 0) hb.size
  refine ⟨3, 0, dot, _, rfl, .inr (.inr ⟨rfl, some ⟨g, 0, none⟩, 2, rfl, Nat.le_refl _, by unfold maxLen; omega, fun _ => ⟨g, rfl, Nat.zero_le _, hg.lt, ?_⟩⟩)⟩
  have r0 : NdRow w' 0 w'.heap.size .nil g 0 := trivial
  have r1 := NdRow.snoc .nil h1 g 0 r0 (hg.cell 0)
  exact NdRow.snoc _ h2 g 0 r1 (hg.cell 1)

end Go.Proofs.YtplmkighekjipaaDoor

/- spec.ListOf: the elements of a list, copied. Condition: the term lies in memory. -/
namespace Go.Proofs.YtplmkighekjipaaDoor
open Go.RowKit

def lenOf : Value → Nat | .slice _ n _ => n | _ => 0

/-- The loop's relation: the term that is looked at lies in block H; its elements before it are copied into the row v. -/
def LsP (w : World) (lo hi H : Nat) (F T : Fr) (M : Nat) (k n : Int) (s : ByteArray) (f : Fr) (A : Option Addr) (cap : Nat) (acc : Fr) (v : Value) (wr : World) : Prop :=
  Blk wr H 28 #[.int .i64 k, .int .i64 n, .string s, .slice A f.len cap] ∧ KidsAt w lo hi f A cap ∧ Fits k n s ∧ nodes f ≤ M ∧ RowP (H + 1) v acc wr ∧ acc.app (fronts k s f) = F ∧ tails k n s f = T ∧ Below w.heap.size w wr ∧ H + 1 ≤ wr.heap.size ∧ w.heap.size ≤ H

theorem LsP.step {w wr w1 w2 w3 w4 : World} {lo hi H : Nat} {F T : Fr} {M : Nat} {k n : Int} {s : ByteArray} {k1 n1 k2 n2 : Int} {s1 s2 : ByteArray} {kd1 kd2 : Fr} {A : Option Addr} {cap : Nat} {acc : Fr} {v : Value} {xs : List Value} {L : List Nat} {A1 A2 : Option Addr} {cap1 cap2 g cap4 : Nat}
    (h : LsP w lo hi H F T M k n s (.cons k1 n1 s1 kd1 (.cons k2 n2 s2 kd2 .nil)) A cap acc v wr) (hp : pairB k s 2 = true) (hD : Desc w1 acc xs L) (hN : L.Nodup) (hL : ∀ x ∈ L, H + 1 ≤ x ∧ x < w1.heap.size) (hv : ∀ g, v.ownBlock = some g → g ∉ L) (hvl : ∀ g, v.ownBlock = some g → H + 1 ≤ g ∧ g < w1.heap.size)
    (hb1 : Below wr.heap.size wr w1) (hf1 : Fits k1 n1 s1) (hm : Made w1 kd1 A1 cap1 w2) (hb3 : Below w2.heap.size w2 w3) (hg : w3.grownBy w4 v.ownBlock)
    (ho : w4.ownsRow (H + 1) 28 4 (.slice (some ⟨g, 0, none⟩) (acc.len + 1) cap4) (acc.len + 1) (xs ++ [.int .i64 k1, .int .i64 n1, .string s1, .slice A1 kd1.len cap1])) (hat : v.ownBlock = some g ∨ g = w3.heap.size)
    (hf2 : Fits k2 n2 s2) (hk2 : KidsAt w lo hi kd2 A2 cap2) :
    LsP w lo hi H F T M k2 n2 s2 kd2 A2 cap2 (acc.app (.cons k1 n1 s1 kd1 .nil)) (.slice (some ⟨g, 0, none⟩) (acc.len + 1) cap4) ((((w4.setCell ⟨H, 0, none⟩ (.int .i64 k2)).setCell ⟨H, 1, none⟩ (.int .i64 n2)).setCell ⟨H, 2, none⟩ (.string s2)).setCell ⟨H, 3, none⟩ (.slice A2 kd2.len cap2)) := by
  obtain ⟨b0, hk, hf, hM, hr, hF, hT, hb, hs, hH⟩ := h
  have hm' := hm
  obtain ⟨_, _, _, _, hb2⟩ := hm'
  have s1' := hb1.size
  have s2' := hb2.size
  have s3' := hb3.size
  have s4' := hg.size
  have far : w4.heap[H]? = wr.heap[H]? := by
    rw [hg.block H (by omega) fun e => by have := (hvl H e.symm).1; omega, hb3.block H (by omega), hb2.block H (by omega), hb1.block H (by omega)]
  have hbw : Below w.heap.size w w4 := by
    have h1 := hb1.trans ((hb2.trans (hb3.mono hb2.size)).mono hb1.size)
    have h2 := hb.trans (h1.mono hb.size)
    refine h2.grown hg h2.size fun g hg => ?_
    have := (hvl g hg).1; omega
  have hst := RowP.step (base := H + 1) hD hN hL hv (fun g hg => (hvl g hg).2) (by omega) hf1 hm hb3 hg ho hat
  have hF' : (acc.app (.cons k1 n1 s1 kd1 .nil)).app (fronts k2 s2 kd2) = F := by
    rw [← hF, fronts, if_pos hp, app_assoc]; rfl
  have hT' : tails k2 n2 s2 kd2 = T := by rw [← hT, tails, if_pos hp]
  have hM' : nodes kd2 ≤ M := by simp only [nodes] at hM; omega
  refine ⟨((((b0.keep far).set_ 0 _).set_ 1 _).set_ 2 _).set_ 3 _, hk2, hf2, hM', (((hst.set_ (by simp) _).set_ (by simp) _).set_ (by simp) _).set_ (by simp) _, hF', hT', (((hbw.setCell hH _).setCell hH _).setCell hH _).setCell hH _, ?_, hH⟩
  simp only [World.setCell, Array.size_modify]
  omega

theorem LsP.below {w wr w1 : World} {lo hi H : Nat} {F T : Fr} {M : Nat} {k n : Int} {s : ByteArray} {f : Fr} {A : Option Addr} {cap : Nat} {acc : Fr} {v : Value}
    (h : LsP w lo hi H F T M k n s f A cap acc v wr) (hb : Below wr.heap.size wr w1) : LsP w lo hi H F T M k n s f A cap acc v w1 := by
  obtain ⟨b0, hk, hf, hM, hr, hF, hT, hbw, hs, hH⟩ := h
  exact ⟨b0.below hb (by omega), hk, hf, hM, hr.below hb, hF, hT, hbw.trans (hb.mono hbw.size), Nat.le_trans hs hb.size, hH⟩

theorem fronts_nodes (k : Int) (s : ByteArray) (f : Fr) : nodes (fronts k s f) ≤ nodes f := by
  have all : ∀ N : Nat, ∀ f : Fr, f.size ≤ N → ∀ k s, nodes (fronts k s f) ≤ nodes f := by
    intro N
    induction N with
    | zero =>
      intro f hf k s
      cases f with
      | nil => exact Nat.le_refl _
      | cons _ _ _ _ _ => simp [Fr.size] at hf
    | succ N ih =>
      intro f hf k s
      cases hp : pairB k s f.len
      · rw [(pair_no 0 hp).1]; exact Nat.zero_le _
      · obtain ⟨k1, n1, s1, kd1, k2, n2, s2, kd2, rfl, hfr, _⟩ := pair_yes 0 hp
        rw [hfr]
        simp only [Fr.size] at hf
        have := ih kd2 (by omega) k2 s2
        simp only [nodes]
        omega
  exact all f.size f (Nat.le_refl _) k s

/-- What spec.ListOf answers. -/
def ListRes (w : World) (k n : Int) (s : ByteArray) (f : Fr) (e : Ending) (w' : World) : Prop :=
  Below w.heap.size w w' ∧ ((validT k n s f && listB k n s f) = true ∧ (∃ A cap, e = .returned (.tuple #[.slice A (fronts k s f).len cap, .bool true]) ∧ Made w (fronts k s f) A cap w') ∨
    (validT k n s f && listB k n s f) = false ∧ ∃ A cap, e = .returned (.tuple #[.slice A 0 cap, .bool false]) ∧ cap ≤ maxLen)

end Go.Proofs.YtplmkighekjipaaDoor

/- Rows of terms in memory, in blocks that meet a condition. No condition. -/
namespace Go.Proofs.YtplmkighekjipaaDoor
open Go.RowKit

/-- The row f lies in block b from cell o on; what it leads to lies in blocks of X. -/
def RowIn (w : World) (X : Nat → Prop) : Fr → Nat → Nat → Prop
  | .nil, _, _ => True
  | .cons k n s kids rest, b, o => Fits k n s ∧ (∃ (A : Option Addr) (cap : Nat),
      (w.cell? ⟨b, o, none⟩ = some (.int .i64 k) ∧ w.cell? ⟨b, o + 1, none⟩ = some (.int .i64 n) ∧ w.cell? ⟨b, o + 2, none⟩ = some (.string s) ∧ w.cell? ⟨b, o + 3, none⟩ = some (.slice A kids.len cap)) ∧
      kids.len ≤ cap ∧ cap ≤ maxLen ∧ (0 < kids.len → ∃ b' o', A = some ⟨b', o', none⟩ ∧ X b' ∧ RowIn w X kids b' o')) ∧ RowIn w X rest b (o + 4)
def KidsIn (w : World) (X : Nat → Prop) (f : Fr) (A : Option Addr) (cap : Nat) : Prop :=
  f.len ≤ cap ∧ cap ≤ maxLen ∧ (0 < f.len → ∃ b o, A = some ⟨b, o, none⟩ ∧ X b ∧ RowIn w X f b o)
section
variable {w w' : World} {X Y : Nat → Prop} {lo hi : Nat}
theorem RowIn.keep (hk : ∀ p : Addr, X p.block → w'.cell? p = w.cell? p) (hY : ∀ b, X b → Y b) (f : Fr) : ∀ b o, (∀ j, w'.cell? ⟨b, j, none⟩ = w.cell? ⟨b, j, none⟩) → RowIn w X f b o → RowIn w' Y f b o := by
  induction f with
  | nil => intro b o _ _; trivial
  | cons k n s kids rest ihk ihr =>
    rintro b o hc ⟨hf, ⟨A, cap, ⟨c0, c1, c2, c3⟩, h1, h2, h3⟩, hr⟩
    refine ⟨hf, ⟨A, cap, ⟨(hc _).trans c0, (hc _).trans c1, (hc _).trans c2, (hc _).trans c3⟩, h1, h2, fun hp => ?_⟩, ihr b (o + 4) hc hr⟩
    obtain ⟨b', o', e, hb, h⟩ := h3 hp
    exact ⟨b', o', e, hY b' hb, ihk b' o' (fun j => hk _ hb) h⟩
theorem KidsIn.keep {f : Fr} {A : Option Addr} {cap : Nat} (h : KidsIn w X f A cap) (hk : ∀ p : Addr, X p.block → w'.cell? p = w.cell? p) (hY : ∀ b, X b → Y b) : KidsIn w' Y f A cap :=
  ⟨h.1, h.2.1, fun hp => by
    obtain ⟨b, o, e, hb, hr⟩ := h.2.2 hp
    exact ⟨b, o, e, hY b hb, RowIn.keep hk hY f b o (fun j => hk _ hb) hr⟩⟩
theorem RowAt.inn (f : Fr) : ∀ b o, RowAt w lo hi f b o → RowIn w (fun b => lo ≤ b ∧ b < hi) f b o := by
  induction f with
  | nil => intro b o _; trivial
  | cons k n s kids rest ihk ihr =>
    rintro b o ⟨hf, ⟨A, cap, hc, h1, h2, h3⟩, hr⟩
    refine ⟨hf, ⟨A, cap, hc, h1, h2, fun hp => ?_⟩, ihr b (o + 4) hr⟩
    obtain ⟨b', o', e, hl, hb, h⟩ := h3 hp
    exact ⟨b', o', e, ⟨hl, hb⟩, ihk b' o' h⟩
theorem KidsAt.inn {f : Fr} {A : Option Addr} {cap : Nat} (h : KidsAt w lo hi f A cap) : KidsIn w (fun b => lo ≤ b ∧ b < hi) f A cap :=
  ⟨h.1, h.2.1, fun hp => by
    obtain ⟨b, o, e, hl, hb, hr⟩ := h.2.2 hp
    exact ⟨b, o, e, ⟨hl, hb⟩, RowAt.inn f b o hr⟩⟩
theorem RowIn.out (hX : ∀ b, X b → lo ≤ b ∧ b < hi) (f : Fr) : ∀ b o, RowIn w X f b o → RowAt w lo hi f b o := by
  induction f with
  | nil => intro b o _; trivial
  | cons k n s kids rest ihk ihr =>
    rintro b o ⟨hf, ⟨A, cap, hc, h1, h2, h3⟩, hr⟩
    refine ⟨hf, ⟨A, cap, hc, h1, h2, fun hp => ?_⟩, ihr b (o + 4) hr⟩
    obtain ⟨b', o', e, hb, h⟩ := h3 hp
    exact ⟨b', o', e, (hX b' hb).1, (hX b' hb).2, ihk b' o' h⟩
theorem KidsIn.out {f : Fr} {A : Option Addr} {cap : Nat} (h : KidsIn w X f A cap) (hX : ∀ b, X b → lo ≤ b ∧ b < hi) : KidsAt w lo hi f A cap :=
  ⟨h.1, h.2.1, fun hp => by
    obtain ⟨b, o, e, hb, hr⟩ := h.2.2 hp
    exact ⟨b, o, e, (hX b hb).1, (hX b hb).2, hr.out hX f b o⟩⟩
/-- A row of one term more in front. -/
theorem RowIn.cons {k n : Int} {s : ByteArray} {kids rest : Fr} {A : Option Addr} {cap b o : Nat} (hf : Fits k n s) (c0 : w.cell? ⟨b, o, none⟩ = some (.int .i64 k)) (c1 : w.cell? ⟨b, o + 1, none⟩ = some (.int .i64 n)) (c2 : w.cell? ⟨b, o + 2, none⟩ = some (.string s)) (c3 : w.cell? ⟨b, o + 3, none⟩ = some (.slice A kids.len cap)) (hk : KidsIn w X kids A cap) (hr : RowIn w X rest b (o + 4)) : RowIn w X (.cons k n s kids rest) b o :=
  ⟨hf, ⟨A, cap, ⟨c0, c1, c2, c3⟩, hk.1, hk.2.1, hk.2.2⟩, hr⟩
end
end Go.Proofs.YtplmkighekjipaaDoor
