/- spec.l1Struct of two arguments, l1Chain. Condition: the terms lie in memory. -/
import Derived.Test.YtihmgodiiohdnaaGreatDoorProg
import Derived.Test.YtihmgodiiohdnaaGreatDoorChain
import Derived.Test.YtihmgodiiohdnaaGreatDoorCopy
import Derived.Test.YtihmgodiiohdnaaGreatDoorSpecL
import Derived.Test.YtihmgodiiohdnaaGreatDoorRowIn
import Derived.Deep.RegionLaw
namespace Go.Proofs.YtihmgodiiohdnaaGreatDoor
open Go.RowKit

set_option maxRecDepth 100000 in
set_option maxHeartbeats 2000000 in
/-- spec.l1Struct of two arguments. -/
theorem struct2_any (name : ByteArray) (b c : Nat) (xs : List Value) (w : World) (hx : xs.length = 8) (h1 : ∀ u ∈ xs, u.oneCell' = true) (hb : b < w.heap.size) (hc : ∀ j u, xs[j]? = some u → w.cell? ⟨b, j, none⟩ = some u) :
    Calls Tryz.prog 27 #[.string name, .slice (some ⟨b, 0, none⟩) 2 c] w fun e w' => ∃ g cap, e = .returned (.agg #[.int .i64 3, .int .i64 0, .string name, .slice (some ⟨g, 0, none⟩) 2 cap]) ∧ Below w.heap.size w w' ∧ w'.ownsRow (w.heap.size + 1) 30 4 (.slice (some ⟨g, 0, none⟩) 2 cap) 2 xs := by
  obtain ⟨i0, hi0, hz0, hz1, hz2⟩ := info_parts infoT
  have hb2 := two_alloc w (.cells #[.int .i64 0, .int .i64 0, .string ⟨#[]⟩, .slice none 0 0] 30) (.cells #[] 30)
  have hown : ((w.alloc (.cells #[.int .i64 0, .int .i64 0, .string ⟨#[]⟩, .slice none 0 0] 30)).alloc (.cells #[] 30)).ownsRow (w.heap.size + 1) 30 4 (.slice (some ⟨w.heap.size + 1, 0, none⟩) 0 0) 0 [] := by
    have h := Blk.new (w.alloc (.cells #[.int .i64 0, .int .i64 0, .string ⟨#[]⟩, .slice none 0 0] 30)) 30 #[]
    rw [show (w.alloc (.cells #[.int .i64 0, .int .i64 0, .string ⟨#[]⟩, .slice none 0 0] 30)).heap.size = w.heap.size + 1 by simp] at h
    exact ⟨rfl, .inr ⟨w.heap.size + 1, 0, #[], rfl, by omega, h, Nat.le_refl _, Nat.zero_le _, rfl, rfl⟩⟩
  have hq : Blk ((w.alloc (.cells #[.int .i64 0, .int .i64 0, .string ⟨#[]⟩, .slice none 0 0] 30)).alloc (.cells #[] 30)) w.heap.size 30 #[.int .i64 0, .int .i64 0, .string ⟨#[]⟩, .slice none 0 0] := (Blk.new w _ _).alloc _
  have hnews : ∀ j u, xs[j]? = some u → ((w.alloc (.cells #[.int .i64 0, .int .i64 0, .string ⟨#[]⟩, .slice none 0 0] 30)).alloc (.cells #[] 30)).cell? ((⟨b, 0, none⟩ : Addr).add j) = some u := fun j u hu => by
    have e : (⟨b, 0, none⟩ : Addr).add j = ⟨b, j, none⟩ := by unfold Addr.add; split <;> simp_all
    rw [e]
    exact (hb2.cell (p := ⟨b, j, none⟩) hb).trans (hc j u hu)
  have HB2 := Lib.hid hb2
  have HOWN := Lib.hid hown
  have HNEWS := Lib.hid hnews
  have HX := Lib.hid hx
  have HQ := Lib.hid hq
  have HO1 := Lib.hid h1
  clear hb2 hown hnews hc h1 hq hx
  go_enter Tryz.func27, Tryz.ntmps27
  go_wp2_with (at_builtin; go_must (refine wpList_append_lies _ rfl _ _ _ rfl (w.heap.size + 1) 30 i0 _ 4 56 Tryz.underlying28 hi0 hz0 hz1 hz2 rfl (by omega) (.slice (some ⟨w.heap.size + 1, 0, none⟩) 0 0) 0 [] rfl HOWN.out ⟨b, 0, none⟩ 2 c xs rfl HX.out HNEWS.out HO1.out (by omega) (by unfold maxLen; omega) (by omega) (by simp) (w.heap.size + 1 + 1) (by simp) ?_); intro g cap4 w6 hown6 hgrow hat hlt6; have hq6 := HQ.out.keep (hgrow.block _ HQ.out.lt (by simp [Value.ownBlock])); obtain ⟨d0, d1, d2, d3⟩ := cells4i hq6; obtain ⟨f0, f1, f2, f3⟩ := frozen4 hq6; have HQ6 := Lib.hid hq6; have HOWN6 := Lib.hid hown6; have HGR := Lib.hid hgrow; clear hq6 hown6 hgrow hat)
  have e1 := (((HQ6.out.set_ 0 (.int .i64 3)).set_ 1 (.int .i64 0)).set_ 2 (.string name)).set_ 3 (.slice (some ⟨g, 0, none⟩) 2 cap4)
  have ho : w6.ownsRow (w.heap.size + 1) 30 4 (.slice (some ⟨g, 0, none⟩) 2 cap4) 2 xs := HOWN6.out
  have hbw : Below w.heap.size w w6 := HB2.out.grown HGR.out HB2.out.size fun g hg => by
    have : w.heap.size + 1 = g := by simpa [Value.ownBlock] using hg
    omega
  refine bodyPost_ret (v := .agg #[.int .i64 3, .int .i64 0, .string name, .slice (some ⟨g, 0, none⟩) 2 cap4]) ?_ rfl ⟨g, cap4, rfl, ?_, ?_⟩
  · exact results_cell_row Tryz.results27 _ _ w.heap.size _ _ _ _ rfl e1 Tryz.underlying30 rfl (by kernel_rfl)
  · exact (((hbw.setCell (p := ⟨w.heap.size, 0, none⟩) (Nat.le_refl _) _).setCell (p := ⟨w.heap.size, 1, none⟩) (Nat.le_refl _) _).setCell (p := ⟨w.heap.size, 2, none⟩) (Nat.le_refl _) _).setCell (p := ⟨w.heap.size, 3, none⟩) (Nat.le_refl _) _
  · exact ownsRow_setCell_below (ownsRow_setCell_below (ownsRow_setCell_below (ownsRow_setCell_below ho (a := ⟨w.heap.size, 0, none⟩) (by simp) _) (a := ⟨w.heap.size, 1, none⟩) (by simp) _) (a := ⟨w.heap.size, 2, none⟩) (by simp) _) (a := ⟨w.heap.size, 3, none⟩) (by simp) _

/-- The loop's relation: the term t that is made so far lies in block H + 2, what it leads to lies elsewhere. -/
def ChP (w : World) (H : Nat) (t : Fr) (k n : Int) (s : ByteArray) (kids : Fr) (A : Option Addr) (cap : Nat) (wr : World) : Prop :=
  Blk wr (H + 1) 30 #[.int .i64 0, .int .i64 0, .string ⟨#[]⟩, .slice none 0 0] ∧ Blk wr (H + 1 + 1) 30 #[.int .i64 k, .int .i64 n, .string s, .slice A kids.len cap] ∧
  (t = .cons k n s kids .nil ∧ Fits k n s ∧ KidsIn wr (fun b => b < wr.heap.size ∧ b ≠ H + 1 + 1 ∧ b ≠ H + 1) kids A cap) ∧ Below w.heap.size w wr ∧ w.heap.size ≤ H
theorem fits_dot : Fits 3 0 dot := ⟨by omega, by omega, by decide⟩
theorem ChP.step {w wr w2 w3 : World} {H : Nat} {t : Fr} {k n : Int} {s : ByteArray} {kids : Fr} {A : Option Addr} {cap : Nat} {k1 n1 : Int} {s1 : ByteArray} {kd1 : Fr} {A1 : Option Addr} {cap1 g cap4 : Nat}
    (h : ChP w H t k n s kids A cap wr) (hf1 : Fits k1 n1 s1) (hk1 : KidsIn wr (fun b => b < H) kd1 A1 cap1) (hb2 : Below wr.heap.size wr w2) (hb3 : Below w2.heap.size w2 w3)
    (ho : w3.ownsRow (w2.heap.size + 1) 30 4 (.slice (some ⟨g, 0, none⟩) 2 cap4) 2 [.int .i64 k1, .int .i64 n1, .string s1, .slice A1 kd1.len cap1, .int .i64 k, .int .i64 n, .string s, .slice A kids.len cap]) :
    ChP w H (.cons 3 0 dot (.cons k1 n1 s1 kd1 t) .nil) 3 0 dot (.cons k1 n1 s1 kd1 t) (some ⟨g, 0, none⟩) cap4 ((((w3.setCell ⟨H + 1 + 1, 0, none⟩ (.int .i64 3)).setCell ⟨H + 1 + 1, 1, none⟩ (.int .i64 0)).setCell ⟨H + 1 + 1, 2, none⟩ (.string dot)).setCell ⟨H + 1 + 1, 3, none⟩ (.slice (some ⟨g, 0, none⟩) 2 cap4)) := by
  obtain ⟨b1, b2, ⟨rfl, hf, hk⟩, hb, hH⟩ := h
  have h23 : Below wr.heap.size wr w3 := hb2.trans (hb3.mono hb2.size)
  have hs2 := hb2.size
  have hs3 := hb3.size
  have l2 := b2.lt
  have q1 := (((((b1.below h23 b1.lt).far (p := ⟨H + 1 + 1, 0, none⟩) (by simp) (.int .i64 3)).far (p := ⟨H + 1 + 1, 1, none⟩) (by simp) (.int .i64 0)).far (p := ⟨H + 1 + 1, 2, none⟩) (by simp) (.string dot)).far (p := ⟨H + 1 + 1, 3, none⟩) (by simp) (.slice (some ⟨g, 0, none⟩) 2 cap4))
  have q2 := ((((b2.below h23 l2).set_ 0 (.int .i64 3)).set_ 1 (.int .i64 0)).set_ 2 (.string dot)).set_ 3 (.slice (some ⟨g, 0, none⟩) 2 cap4)
  have hbw : Below w.heap.size w ((((w3.setCell ⟨H + 1 + 1, 0, none⟩ (.int .i64 3)).setCell ⟨H + 1 + 1, 1, none⟩ (.int .i64 0)).setCell ⟨H + 1 + 1, 2, none⟩ (.string dot)).setCell ⟨H + 1 + 1, 3, none⟩ (.slice (some ⟨g, 0, none⟩) 2 cap4)) :=
    ((((hb.trans (h23.mono hb.size)).setCell (p := ⟨H + 1 + 1, 0, none⟩) (by simp; omega) _).setCell (p := ⟨H + 1 + 1, 1, none⟩) (by simp; omega) _).setCell (p := ⟨H + 1 + 1, 2, none⟩) (by simp; omega) _).setCell (p := ⟨H + 1 + 1, 3, none⟩) (by simp; omega) _
  have far : ∀ p : Addr, p.block ≠ H + 1 + 1 → ((((w3.setCell ⟨H + 1 + 1, 0, none⟩ (.int .i64 3)).setCell ⟨H + 1 + 1, 1, none⟩ (.int .i64 0)).setCell ⟨H + 1 + 1, 2, none⟩ (.string dot)).setCell ⟨H + 1 + 1, 3, none⟩ (.slice (some ⟨g, 0, none⟩) 2 cap4)).cell? p = w3.cell? p := fun p hne => far4 hne _ _ _ _
  have hsz : ((((w3.setCell ⟨H + 1 + 1, 0, none⟩ (.int .i64 3)).setCell ⟨H + 1 + 1, 1, none⟩ (.int .i64 0)).setCell ⟨H + 1 + 1, 2, none⟩ (.string dot)).setCell ⟨H + 1 + 1, 3, none⟩ (.slice (some ⟨g, 0, none⟩) 2 cap4)).heap.size = w3.heap.size := by simp [World.setCell]
  have hcells := World.ownsRow.cells ho (g := g) rfl
  have hgl := ho.lt g rfl
  have hcap : 2 ≤ cap4 ∧ cap4 ≤ maxLen := by
    rcases ho.2 with ⟨h, _⟩ | ⟨g', cap', cur, h', _, _, h2, h3, _⟩
    · simp at h
    · injection h' with _ _ h'
      subst h'
      exact ⟨h2, h3⟩
  generalize (((w3.setCell ⟨H + 1 + 1, 0, none⟩ (.int .i64 3)).setCell ⟨H + 1 + 1, 1, none⟩ (.int .i64 0)).setCell ⟨H + 1 + 1, 2, none⟩ (.string dot)).setCell ⟨H + 1 + 1, 3, none⟩ (.slice (some ⟨g, 0, none⟩) 2 cap4) = w4 at *
  have cell : ∀ j u, [Value.int .i64 k1, .int .i64 n1, .string s1, .slice A1 kd1.len cap1, .int .i64 k, .int .i64 n, .string s, .slice A kids.len cap][j]? = some u → w4.cell? ⟨g, j, none⟩ = some u := fun j u hu => by
    have e : (⟨g, 0, none⟩ : Addr).add j = ⟨g, j, none⟩ := by unfold Addr.add; split <;> simp_all
    rw [far _ (by simp; omega), ← e]
    exact hcells j u hu
  have e1 : KidsIn w4 (fun b => b < w4.heap.size ∧ b ≠ H + 1 + 1 ∧ b ≠ H + 1) kd1 A1 cap1 := hk1.keep (fun p hp => (far p (by have h : p.block < H := hp; omega)).trans (h23.cell (by have h : p.block < H := hp; omega))) fun b hb => ⟨by omega, by omega, by omega⟩
  have e2 : KidsIn w4 (fun b => b < w4.heap.size ∧ b ≠ H + 1 + 1 ∧ b ≠ H + 1) kids A cap := hk.keep (fun p hp => (far p hp.2.1).trans (h23.cell hp.1)) fun b hb => ⟨by omega, hb.2⟩
  refine ⟨q1, q2, ⟨rfl, fits_dot, hcap.1, hcap.2, fun _ => ⟨g, 0, rfl, ⟨by omega, by omega, by omega⟩, ?_⟩⟩, hbw, hH⟩
  exact RowIn.cons hf1 (cell 0 _ rfl) (cell 1 _ rfl) (cell 2 _ rfl) (cell 3 _ rfl) e1 (RowIn.cons hf (cell 4 _ rfl) (cell 5 _ rfl) (cell 6 _ rfl) (cell 7 _ rfl) e2 trivial)

/-- What l1Chain answers: the chain, its arguments where they were or in new blocks. -/
def ChainRes (w : World) (t : Fr) (e : Ending) (w' : World) : Prop :=
  ∃ k n s kids A cap, t = .cons k n s kids .nil ∧ e = .returned (.agg #[.int .i64 k, .int .i64 n, .string s, .slice A kids.len cap]) ∧ Fits k n s ∧ KidsAt w' 0 w'.heap.size kids A cap ∧ Below w.heap.size w w'

set_option maxRecDepth 100000 in
set_option maxHeartbeats 8000000 in
/-- spec.l1Chain. -/
theorem specChain_any (f : Fr) (k n : Int) (s : ByteArray) (kids : Fr) (A A2 : Option Addr) (cap cap2 : Nat) (w : World) (hk : KidsAt w 0 w.heap.size f A cap) (hf : Fits k n s) (ht : KidsAt w 0 w.heap.size kids A2 cap2) (hl : f.len ≤ 1048576) :
    Calls Tryz.prog 103 #[.slice A f.len cap, .agg #[.int .i64 k, .int .i64 n, .string s, .slice A2 kids.len cap2]] w fun e w' => ChainRes w (chain f (.cons k n s kids .nil)) e w' := by
  have HK := Lib.hid hk
  have hst : ChP w w.heap.size (.cons k n s kids .nil) k n s kids A2 cap2 (((w.alloc (.cells #[.int .i64 k, .int .i64 n, .string s, .slice A2 kids.len cap2] 30)).alloc (.cells #[.int .i64 0, .int .i64 0, .string ⟨#[]⟩, .slice none 0 0] 30)).alloc (.cells #[.int .i64 k, .int .i64 n, .string s, .slice A2 kids.len cap2] 30)) := by
    have hb : Below w.heap.size w (((w.alloc (.cells #[.int .i64 k, .int .i64 n, .string s, .slice A2 kids.len cap2] 30)).alloc (.cells #[.int .i64 0, .int .i64 0, .string ⟨#[]⟩, .slice none 0 0] 30)).alloc (.cells #[.int .i64 k, .int .i64 n, .string s, .slice A2 kids.len cap2] 30)) := (two_alloc w _ _).alloc (by simp; omega) _
    refine ⟨?_, ?_, ⟨rfl, hf, ht.inn.keep (fun p hp => hb.cell hp.2) fun b hb => ?_⟩, hb, Nat.le_refl _⟩
    · have h := (Blk.new (w.alloc (.cells #[.int .i64 k, .int .i64 n, .string s, .slice A2 kids.len cap2] 30)) 30 #[.int .i64 0, .int .i64 0, .string ⟨#[]⟩, .slice none 0 0]).alloc (.cells #[.int .i64 k, .int .i64 n, .string s, .slice A2 kids.len cap2] 30)
      simpa using h
    · have h := Blk.new ((w.alloc (.cells #[.int .i64 k, .int .i64 n, .string s, .slice A2 kids.len cap2] 30)).alloc (.cells #[.int .i64 0, .int .i64 0, .string ⟨#[]⟩, .slice none 0 0] 30)) 30 #[.int .i64 k, .int .i64 n, .string s, .slice A2 kids.len cap2]
      simpa using h
    · have := hb.2
      simp
      omega
  have hst2 : ChP w w.heap.size (chain (f.drop f.len) (.cons k n s kids .nil)) k n s kids A2 cap2 (((w.alloc (.cells #[.int .i64 k, .int .i64 n, .string s, .slice A2 kids.len cap2] 30)).alloc (.cells #[.int .i64 0, .int .i64 0, .string ⟨#[]⟩, .slice none 0 0] 30)).alloc (.cells #[.int .i64 k, .int .i64 n, .string s, .slice A2 kids.len cap2] 30)) := by
    rw [Fr.drop_len]; exact hst
  clear hk hst ht hf
  generalize hn : f.len = len at *
  have HN := Lib.hid hn
  have HST := Lib.hid hst2
  clear hn hst2
  go_enter Tryz.func103, Tryz.ntmps103
  go_wp2_with fail
  go_loopw [6] (fun i wr => ∃ (j : Nat) (k' n' : Int) (s' : ByteArray) (f' : Fr) (A' : Option Addr) (cap' : Nat), j ≤ len ∧ i = .int .i64 ((j : Int) - 1) ∧ ChP w w.heap.size (chain (f.drop j) (.cons k n s kids .nil)) k' n' s' f' A' cap' wr) (fun i _ => (intOf i + 1).toNat)
  case atStart => exact ⟨len, _, _, _, _, _, _, Nat.le_refl _, rfl, HST.out⟩
  case round =>
    obtain ⟨j, k', n', s', f', A', cap', hj, rfl, hp⟩ := hrel
    have HP := Lib.hid hp
    obtain ⟨b1, b2, ⟨hc, hf, hk⟩, hb, hH⟩ := hp
    obtain ⟨x0, x1, x2, x3⟩ := cells4i b2
    cases j with
    | zero =>
      obtain ⟨d0, d1, d2, d3⟩ := cells4i b1
      obtain ⟨g0, g1, g2, g3⟩ := frozen4 b1
      have hbs := hb.size
      have HB1 := Lib.hid b1
      have HC : Hid (chain f (.cons k n s kids .nil) = .cons k' n' s' f' .nil) := Lib.hid hc
      have HFK := Lib.hid (And.intro hf hk)
      have HB := Lib.hid hb
      have hs1 := b2.lt
      clear b1 b2 hc hf hk hb HP
      go_wp2_with fail
      have e1 := (((HB1.out.set_ 0 (.int .i64 k')).set_ 1 (.int .i64 n')).set_ 2 (.string s')).set_ 3 (.slice A' f'.len cap')
      refine bodyPost_ret (v := .agg #[.int .i64 k', .int .i64 n', .string s', .slice A' f'.len cap']) ?_ rfl ⟨k', n', s', f', A', cap', HC.out, rfl, HFK.out.1, ?_, ?_⟩
      · exact results_cell_row Tryz.results103 _ _ (w.heap.size + 1) _ _ _ _ rfl e1 Tryz.underlying30 rfl (by kernel_rfl)
      · refine KidsIn.out (HFK.out.2.keep (Y := fun b => b < wr.heap.size) (fun p hp => far4 hp.2.2 _ _ _ _) fun b hb => hb.1) fun b hb => ⟨Nat.zero_le _, by simp [World.setCell]; exact hb⟩
      · exact (((HB.out.setCell (p := ⟨w.heap.size + 1, 0, none⟩) (by simp) _).setCell (p := ⟨w.heap.size + 1, 1, none⟩) (by simp) _).setCell (p := ⟨w.heap.size + 1, 2, none⟩) (by simp) _).setCell (p := ⟨w.heap.size + 1, 3, none⟩) (by simp) _
    | succ m =>
      obtain ⟨kk, nn, s1, kd1, hd⟩ := Fr.drop_cons m f (by rw [HN.out]; omega)
      obtain ⟨b, o, rfl, hlb, hbb, hrow⟩ := HK.out.2.2 (by rw [HN.out]; omega)
      obtain ⟨hfit, A1, cp1, c0, c1, c2, c3, hkid⟩ := hrow.elem hd
      have k0 := (hb.cell (p := ⟨b, o + m * 4, none⟩) hbb).trans c0
      have k1 := (hb.cell (p := ⟨b, o + m * 4 + 1, none⟩) hbb).trans c1
      have k2 := (hb.cell (p := ⟨b, o + m * 4 + 2, none⟩) hbb).trans c2
      have k3 := (hb.cell (p := ⟨b, o + m * 4 + 3, none⟩) hbb).trans c3
      have hk1 := hkid.inn.keep (w' := wr) (Y := fun b => b < w.heap.size) (fun p hp => hb.cell hp.2) fun b hb => hb.2
      have hch : chain (f.drop m) (.cons k n s kids .nil) = .cons 3 0 dot (.cons kk nn s1 kd1 (chain (f.drop (m + 1)) (.cons k n s kids .nil))) .nil := by rw [hd]; rfl
      have hb1 : Below wr.heap.size wr (wr.drew.alloc (.cells #[.int .i64 kk, .int .i64 nn, .string s1, .slice A1 kd1.len cp1, .int .i64 k', .int .i64 n', .string s', .slice A' f'.len cap'] 30)) := (Below.refl _ _).drew.alloc (by simp) _
      have hnew : Blk (wr.drew.alloc (.cells #[.int .i64 kk, .int .i64 nn, .string s1, .slice A1 kd1.len cp1, .int .i64 k', .int .i64 n', .string s', .slice A' f'.len cap'] 30)) wr.heap.size 30 #[.int .i64 kk, .int .i64 nn, .string s1, .slice A1 kd1.len cp1, .int .i64 k', .int .i64 n', .string s', .slice A' f'.len cap'] := Blk.new wr.drew 30 #[.int .i64 kk, .int .i64 nn, .string s1, .slice A1 kd1.len cp1, .int .i64 k', .int .i64 n', .string s', .slice A' f'.len cap']
      have C2 := struct2_any dot wr.heap.size 2 [.int .i64 kk, .int .i64 nn, .string s1, .slice A1 kd1.len cp1, .int .i64 k', .int .i64 n', .string s', .slice A' f'.len cap'] (wr.drew.alloc (.cells #[.int .i64 kk, .int .i64 nn, .string s1, .slice A1 kd1.len cp1, .int .i64 k', .int .i64 n', .string s', .slice A' f'.len cap'] 30)) rfl (by simp [Value.oneCell']) (by simp) (fun j u hu => by rw [hnew.cell j, List.getElem?_toArray]; exact hu)
      have STEP := fun w2 w3 g cap4 h2 h3 ho => ChP.step (w2 := w2) (w3 := w3) (g := g) (cap4 := cap4) HP.out hfit hk1 h2 h3 ho
      rw [← hch] at STEP
      have FAR : ∀ w3, Below wr.heap.size wr w3 → Blk w3 (w.heap.size + 1 + 1) 30 #[.int .i64 k', .int .i64 n', .string s', .slice A' f'.len cap'] := fun w3 h => b2.below h b2.lt
      have H2 := Lib.hid C2
      have HSTEP := Lib.hid STEP
      have HFAR := Lib.hid FAR
      have HB1 := Lib.hid hb1
      have e0 : (((m + 1 : Nat) : Int) - 1) = (m : Int) := by omega
      have hs1 := b2.lt
      rw [e0]
      have im0 : (0 : Int) ≤ (m : Int) := Int.natCast_nonneg _
      have im1 : (m : Int) < (len : Int) := by omega
      clear C2 STEP FAR hb1 hnew hch hk1 hkid hrow hd c0 c1 c2 c3 b1 b2 hc hf hk hfit e0 HP
      go_wp2_with fail
      go_region_law (go_simp; go_at_call 27; refine H2.out.mono ?_; rintro e w3 ⟨g, cap4, rfl, hb3, ho3⟩; obtain ⟨y0, y1, y2, y3⟩ := cells4i (HFAR.out w3 (HB1.out.trans (hb3.mono HB1.out.size))); obtain ⟨f0, f1, f2, f3⟩ := frozen4 (HFAR.out w3 (HB1.out.trans (hb3.mono HB1.out.size))); have HB3 := Lib.hid hb3; have HO3 := Lib.hid ho3; clear hb3 ho3)
      all_goals
        go_wp2_with fail
        go_roundw
        case rel => exact ⟨m, _, _, _, _, _, _, by omega, by go_num, HSTEP.out _ w3 g cap4 HB1.out HB3.out HO3.out⟩
        case measure => simp [intOf]
end Go.Proofs.YtihmgodiiohdnaaGreatDoor
