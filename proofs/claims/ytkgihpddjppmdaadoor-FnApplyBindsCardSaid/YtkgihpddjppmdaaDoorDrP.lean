/- The source's methods pick, num, of. Condition: the source lies in memory. -/
import Derived.Test.YtkgihpddjppmdaaDoorProg
import Derived.Test.YtkgihpddjppmdaaDoorDrR
import Derived.Deep.QuietTactic
import Derived.BigQuiet
import Derived.IntWalk
namespace Go.Proofs.YtkgihpddjppmdaaDoor
open Go.RowKit

theorem xor_i64 (a b : Nat) (ha : a < 2147483648) (hb : b < 2147483648) : ∃ y : Nat, bits .xor .i64 (a : Int) (b : Int) = (y : Int) ∧ y < 2147483648 := by
  have hx : a ^^^ b < 2 ^ 31 := Nat.xor_lt_two_pow (by omega) (by omega)
  have h1 : (BitVec.ofInt 64 (a : Int)).toNat = a := by
    rw [BitVec.ofInt_natCast, BitVec.toNat_ofNat]; exact Nat.mod_eq_of_lt (by omega)
  have h2 : (BitVec.ofInt 64 (b : Int)).toNat = b := by
    rw [BitVec.ofInt_natCast, BitVec.toNat_ofNat]; exact Nat.mod_eq_of_lt (by omega)
  refine ⟨a ^^^ b, ?_, by omega⟩
  show IntKind.i64.wrap ((BitVec.ofInt 64 (a : Int) ^^^ BitVec.ofInt 64 (b : Int)).toNat : Int) = _
  rw [BitVec.toNat_xor, h1, h2]
  simp [IntKind.wrap, IntKind.bits, IntKind.signed]
  omega
/-- The source behind a draw. -/
theorem Rd.next {w : World} {rb N : Nat} {A : Option Addr} {len cap p : Nat} (h1 : Blk w rb 70 #[.slice A len cap, .int .i64 (p : Int)]) (h2 : Bts w rb A len) (h3 : len ≤ 2000) (h4 : p ≤ N) :
    Rd (w.setCell ⟨rb, 1, none⟩ (.int .i64 ((p : Int) + 1))) rb (N + 1) ∧ Wrote [rb] w (w.setCell ⟨rb, 1, none⟩ (.int .i64 ((p : Int) + 1))) := by
  refine ⟨⟨A, len, cap, p + 1, ?_, h2.keep fun x hx => heap_setCell_other w ⟨rb, 1, none⟩ x _ (by show x ≠ rb; omega), h3, by omega⟩, (Wrote.refl _ _).set_ (.inl (by simp)) _⟩
  have := h1.set_ 1 (.int .i64 ((p : Int) + 1))
  simpa using this

set_option maxRecDepth 100000 in
set_option maxHeartbeats 4000000 in
/-- l18Rd.pick. -/
theorem pick_any (rb N : Nat) (n : Int) (w : World) (hr : Rd w rb N) (hN : N ≤ 1000000) (h0 : 1 ≤ n) (h1 : n ≤ 100000) :
    Calls Tryd.prog 26 #[.pointer (some ⟨rb, 0, none⟩), .int .i64 n] w fun e w' => PkR w rb N n e w' := by
  obtain ⟨A, len, cap, p, hq, hb, hl, hp⟩ := hr
  have hnx := Rd.next hq hb hl hp
  have x0 : w.cell? ⟨rb, 0, none⟩ = some (.slice A len cap) := hq.cell 0
  have x1 : w.cell? ⟨rb, 1, none⟩ = some (.int .i64 (p : Int)) := hq.cell 1
  have f1 := hq.frozen 1
  have hp1 : p ≤ 1000000 := by omega
  have HNX := Lib.hid hnx
  have HB := Lib.hid hb
  clear hq hb hnx hp
  have t0 : ¬ n < 1 := by omega
  have far : ∀ b o u, b < rb → (w.setCell ⟨rb, 1, none⟩ u).cell? ⟨b, o, none⟩ = w.cell? ⟨b, o, none⟩ := fun b o u h => World.cell?_setCell_other w _ _ _ (fun e => by injection e with e _ _; omega)
  have HF := Lib.hid far
  clear far
  rcases Nat.eq_zero_or_pos len with hz | hpos
  · subst hz
    have t1 : (((0 : Nat) : Int) == 0) = true := rfl
    go_enter Tryd.func26, Tryd.ntmps26
    go_wp2_with fail
    go_ret
    exact ⟨0, rfl, Int.le_refl _, by omega, HNX.out⟩
  · have t1 : ((len : Int) == 0) = false := by rw [beq_eq_false_iff_ne]; omega
    obtain ⟨b, o, rfl, hb, hc⟩ := HB.out hpos
    by_cases hlt : p < len
    · obtain ⟨c, h2, h3, h4⟩ := hc p hlt
      have k0 := (HF.out b (o + p) (.int .i64 ((p : Int) + 1)) hb).trans h2
      clear h2 hc HF HB
      go_enter Tryd.func26, Tryd.ntmps26
      go_wp2_with fail
      go_ret
      exact ⟨c % n, rfl, Int.emod_nonneg _ (by omega), Int.emod_lt_of_pos _ (by omega), HNX.out⟩
    · have e1 : ∃ i1 : Nat, (p : Int) % (len : Int) = (i1 : Int) ∧ i1 < len := ⟨p % len, by simp, Nat.mod_lt _ hpos⟩
      have e2 : ∃ i2 : Nat, ((p : Int) * 7 + 3) % (len : Int) = (i2 : Int) ∧ i2 < len := ⟨(p * 7 + 3) % len, by simp, Nat.mod_lt _ hpos⟩
      have e3 : ∃ q : Nat, (p : Int) / (len : Int) = (q : Int) ∧ q ≤ 1000000 := ⟨p / len, by simp, Nat.le_trans (Nat.div_le_self _ _) hp1⟩
      obtain ⟨i1, e1, l1⟩ := e1
      obtain ⟨i2, e2, l2⟩ := e2
      obtain ⟨q, e3, l3⟩ := e3
      obtain ⟨c1, h2, h3, h4⟩ := hc i1 l1
      obtain ⟨c2, g2, g3, g4⟩ := hc i2 l2
      have k1 := (HF.out b (o + i1) (.int .i64 ((p : Int) + 1)) hb).trans h2
      have k2 := (HF.out b (o + i2) (.int .i64 ((p : Int) + 1)) hb).trans g2
      obtain ⟨m1, rfl⟩ : ∃ m1 : Nat, c1 = (m1 : Int) := ⟨c1.toNat, by omega⟩
      obtain ⟨m2, rfl⟩ : ∃ m2 : Nat, c2 = (m2 : Int) := ⟨c2.toNat, by omega⟩
      have e4 : ∃ x : Nat, (m1 : Int) * 131 + (m2 : Int) * 1117 + (p : Int) * 29 + (q : Int) * 53 = (x : Int) ∧ x < 2147483648 := ⟨m1 * 131 + m2 * 1117 + p * 29 + q * 53, by omega, by omega⟩
      obtain ⟨x, e4, l4⟩ := e4
      have e5 : ∃ y : Nat, (x : Int) / 64 = (y : Int) ∧ y < 2147483648 := ⟨x / 64, by omega, by omega⟩
      obtain ⟨y, e5, l5⟩ := e5
      obtain ⟨z, e6, l6⟩ := xor_i64 x y l4 l5
      have q1 : IntKind.i64.wrap ((p : Int) * 7) = (p : Int) * 7 := IntWalk.i64_in _ (by omega)
      have q2 : IntKind.i64.wrap ((p : Int) * 7 + 3) = (p : Int) * 7 + 3 := IntWalk.i64_in _ (by omega)
      have q3 : IntKind.i64.wrap ((m1 : Int) * 131) = (m1 : Int) * 131 := IntWalk.i64_in _ (by omega)
      have q4 : IntKind.i64.wrap ((m2 : Int) * 1117) = (m2 : Int) * 1117 := IntWalk.i64_in _ (by omega)
      have q5 : IntKind.i64.wrap ((m1 : Int) * 131 + (m2 : Int) * 1117) = (m1 : Int) * 131 + (m2 : Int) * 1117 := IntWalk.i64_in _ (by omega)
      have q6 : IntKind.i64.wrap ((p : Int) * 29) = (p : Int) * 29 := IntWalk.i64_in _ (by omega)
      have q7 : IntKind.i64.wrap ((m1 : Int) * 131 + (m2 : Int) * 1117 + (p : Int) * 29) = (m1 : Int) * 131 + (m2 : Int) * 1117 + (p : Int) * 29 := IntWalk.i64_in _ (by omega)
      have q8 : IntKind.i64.wrap ((q : Int) * 53) = (q : Int) * 53 := IntWalk.i64_in _ (by omega)
      have q9 : IntKind.i64.wrap ((m1 : Int) * 131 + (m2 : Int) * 1117 + (p : Int) * 29 + (q : Int) * 53) = (x : Int) := by rw [e4]; exact IntWalk.i64_in _ (by omega)
      have z1 : (i1 : Int) < (len : Int) := by omega
      have z2 : (i2 : Int) < (len : Int) := by omega
      have z3 : (0 : Int) ≤ (i1 : Int) := by omega
      have z4 : (0 : Int) ≤ (i2 : Int) := by omega
      have HZ : Hid ((z : Int) % n < n ∧ 0 ≤ (z : Int) % n) := Lib.hid ⟨Int.emod_lt_of_pos _ (by omega), Int.emod_nonneg _ (by omega)⟩
      clear h2 g2 hc HF HB
      go_enter Tryd.func26, Tryd.ntmps26
      go_wp2_with fail
      go_quiet (fail)
      clear q1 q2 q3 q4 q5 q6 q7 q8 q9 e1 e2 e3 e4 z1 z2 z3 z4 k1 k2
      go_wp2_with fail
      go_ret
      have hd : Below (w.setCell ⟨rb, 1, none⟩ (.int .i64 ((p : Int) + 1))).heap.size (w.setCell ⟨rb, 1, none⟩ (.int .i64 ((p : Int) + 1))) ((w.setCell ⟨rb, 1, none⟩ (.int .i64 ((p : Int) + 1))).drewN nq) := ⟨rfl, rfl, rfl, Nat.le_refl _, fun _ _ => rfl⟩
      exact ⟨(z : Int) % n, rfl, HZ.out.2, HZ.out.1, HNX.out.1.below hd, HNX.out.2.trans (.of_below hd _)⟩

/-- A row of numbers in memory. -/
def IntsAt (w : World) (lo : Nat) (A : Option Addr) (zs : List Int) : Prop := ∃ b, A = some ⟨b, 0, none⟩ ∧ lo ≤ b ∧ b < w.heap.size ∧ ∀ (i : Nat) z, zs[i]? = some z → w.cell? ⟨b, i, none⟩ = some (.int .i64 z)
def StrsAt (w : World) (lo : Nat) (A : Option Addr) (ss : List ByteArray) : Prop := ∃ b, A = some ⟨b, 0, none⟩ ∧ lo ≤ b ∧ b < w.heap.size ∧ ∀ (i : Nat) z, ss[i]? = some z → w.cell? ⟨b, i, none⟩ = some (.string z)
def NmR (w : World) (rb N : Nat) (zs : List Int) (e : Ending) (w' : World) : Prop := ∃ z : Int, e = .returned (.int .i64 z) ∧ z ∈ zs ∧ Rd w' rb (N + 1) ∧ Wrote [rb] w w'
def OfR (w : World) (rb N : Nat) (ss : List ByteArray) (e : Ending) (w' : World) : Prop := ∃ z : ByteArray, e = .returned (.string z) ∧ z ∈ ss ∧ Rd w' rb (N + 1) ∧ Wrote [rb] w w'

set_option maxRecDepth 100000 in
/-- l18Rd.num. -/
theorem num_any (rb N : Nat) (zs : List Int) (A : Option Addr) (cap : Nat) (w : World) (hr : Rd w rb N) (hN : N ≤ 1000000) (hz : IntsAt w (rb + 1) A zs) (h1 : 1 ≤ zs.length) (h2 : zs.length ≤ 1000) :
    Calls Tryd.prog 13 #[.pointer (some ⟨rb, 0, none⟩), .slice A zs.length cap] w fun e w' => NmR w rb N zs e w' := by
  obtain ⟨b, rfl, hb1, hb2, hc⟩ := hz
  have C1 := pick_any rb N (zs.length : Int) w hr hN (by omega) (by omega)
  have HC := Lib.hid hc
  have HM : Hid (∀ (i : Nat) z, zs[i]? = some z → z ∈ zs) := Lib.hid fun i z h => List.mem_of_getElem? h
  have HG : Hid (∀ i : Nat, i < zs.length → ∃ z, zs[i]? = some z) := Lib.hid fun i h => ⟨_, List.getElem?_eq_getElem h⟩
  have H1 := Lib.hid C1
  clear C1 hc hr
  generalize hn : zs.length = len at *
  clear hn
  go_enter Tryd.func13, Tryd.ntmps13
  go_wp2_with fail
  refine H1.out.mono ?_
  rintro e w2 ⟨k, rfl, hk0, hk1, hr2, hw⟩
  obtain ⟨m, rfl⟩ : ∃ m : Nat, k = (m : Int) := ⟨k.toNat, by omega⟩
  obtain ⟨z, hz⟩ := HG.out m (by omega)
  have k0 := (hw.cell (p := ⟨b, m, none⟩) hb2 (by simp; omega)).trans (HC.out m z hz)
  have HR : Hid (NmR w rb N zs (.returned (.int .i64 z)) w2) := Lib.hid ⟨z, rfl, HM.out m z hz, hr2, hw⟩
  clear hr2 hw hz H1
  go_wp2_with fail
  go_ret
  exact HR.out
set_option maxRecDepth 100000 in
/-- l18Rd.of. -/
theorem of_any (rb N : Nat) (ss : List ByteArray) (A : Option Addr) (cap : Nat) (w : World) (hr : Rd w rb N) (hN : N ≤ 1000000) (hz : StrsAt w (rb + 1) A ss) (h1 : 1 ≤ ss.length) (h2 : ss.length ≤ 1000) :
    Calls Tryd.prog 27 #[.pointer (some ⟨rb, 0, none⟩), .slice A ss.length cap] w fun e w' => OfR w rb N ss e w' := by
  obtain ⟨b, rfl, hb1, hb2, hc⟩ := hz
  have C1 := pick_any rb N (ss.length : Int) w hr hN (by omega) (by omega)
  have HC := Lib.hid hc
  have HM : Hid (∀ (i : Nat) z, ss[i]? = some z → z ∈ ss) := Lib.hid fun i z h => List.mem_of_getElem? h
  have HG : Hid (∀ i : Nat, i < ss.length → ∃ z, ss[i]? = some z) := Lib.hid fun i h => ⟨_, List.getElem?_eq_getElem h⟩
  have H1 := Lib.hid C1
  clear C1 hc hr
  generalize hn : ss.length = len at *
  clear hn
  go_enter Tryd.func27, Tryd.ntmps27
  go_wp2_with fail
  refine H1.out.mono ?_
  rintro e w2 ⟨k, rfl, hk0, hk1, hr2, hw⟩
  obtain ⟨m, rfl⟩ : ∃ m : Nat, k = (m : Int) := ⟨k.toNat, by omega⟩
  obtain ⟨z, hz⟩ := HG.out m (by omega)
  have k0 := (hw.cell (p := ⟨b, m, none⟩) hb2 (by simp; omega)).trans (HC.out m z hz)
  have HR : Hid (OfR w rb N ss (.returned (.string z)) w2) := Lib.hid ⟨z, rfl, HM.out m z hz, hr2, hw⟩
  clear hr2 hw hz H1
  go_wp2_with fail
  go_ret
  exact HR.out
end Go.Proofs.YtkgihpddjppmdaaDoor
