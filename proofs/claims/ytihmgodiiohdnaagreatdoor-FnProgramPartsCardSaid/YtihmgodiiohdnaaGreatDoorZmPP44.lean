/- spec.l1Chain: as SpecM, and what the chain leads to lies from lo on where its parts do. Condition: the items and the tail lie in memory. -/
import Derived.Test.YtihmgodiiohdnaaGreatDoorProg
import Derived.Test.YtihmgodiiohdnaaGreatDoorSpecM
import Derived.Test.YtihmgodiiohdnaaGreatDoorZmPP43
namespace Go.Proofs.YtihmgodiiohdnaaGreatDoor
open Go.RowKit

/-- The loop's relation: the term t that is made so far lies in block H + 2, what it leads to lies elsewhere. -/
def ChQ (w : World) (lo H : Nat) (t : Fr) (k n : Int) (s : ByteArray) (kids : Fr) (A : Option Addr) (cap : Nat) (wr : World) : Prop :=
  Blk wr (H + 1) 30 #[.int .i64 0, .int .i64 0, .string ⟨#[]⟩, .slice none 0 0] ∧ Blk wr (H + 1 + 1) 30 #[.int .i64 k, .int .i64 n, .string s, .slice A kids.len cap] ∧
  (t = .cons k n s kids .nil ∧ Fits k n s ∧ KidsIn wr (fun b => (lo ≤ b ∧ b < wr.heap.size) ∧ b ≠ H + 1 + 1 ∧ b ≠ H + 1) kids A cap) ∧ Below w.heap.size w wr ∧ w.heap.size ≤ H
theorem ChQ.step {w wr w2 w3 : World} {lo H : Nat} {t : Fr} {k n : Int} {s : ByteArray} {kids : Fr} {A : Option Addr} {cap : Nat} {k1 n1 : Int} {s1 : ByteArray} {kd1 : Fr} {A1 : Option Addr} {cap1 g cap4 : Nat}
    (h : ChQ w lo H t k n s kids A cap wr) (hlo : lo ≤ w.heap.size) (hf1 : Fits k1 n1 s1) (hk1 : KidsIn wr (fun b => lo ≤ b ∧ b < H) kd1 A1 cap1) (hb2 : Below wr.heap.size wr w2) (hb3 : Below w2.heap.size w2 w3)
    (ho : w3.ownsRow (w2.heap.size + 1) 30 4 (.slice (some ⟨g, 0, none⟩) 2 cap4) 2 [.int .i64 k1, .int .i64 n1, .string s1, .slice A1 kd1.len cap1, .int .i64 k, .int .i64 n, .string s, .slice A kids.len cap]) :
    ChQ w lo H (.cons 3 0 dot (.cons k1 n1 s1 kd1 t) .nil) 3 0 dot (.cons k1 n1 s1 kd1 t) (some ⟨g, 0, none⟩) cap4 ((((w3.setCell ⟨H + 1 + 1, 0, none⟩ (.int .i64 3)).setCell ⟨H + 1 + 1, 1, none⟩ (.int .i64 0)).setCell ⟨H + 1 + 1, 2, none⟩ (.string dot)).setCell ⟨H + 1 + 1, 3, none⟩ (.slice (some ⟨g, 0, none⟩) 2 cap4)) := by
  obtain ⟨b1, b2, ⟨rfl, hf, hk⟩, hb, hH⟩ := h
  have h23 : Below wr.heap.size wr w3 := hb2.trans (hb3.mono hb2.size)
  have hs2 := hb2.size
  have hs3 := hb3.size
  have l2 := b2.lt
  have q1 := (((((b1.below h23 b1.lt).far (p := ⟨H + 1 + 1, 0, none⟩) (by simp) (.int .i64 3)).far (p := ⟨H + 1 + 1, 1, none⟩) (by simp) (.int .i64 0)).far (p := ⟨H + 1 + 1, 2, none⟩) (by simp) (.string dot)).far (p := ⟨H + 1 + 1, 3, none⟩) (by simp) (.slice (some ⟨g, 0, none⟩) 2 cap4))
  have q2 := ((((b2.below h23 l2).set_ 0 (.int .i64 3)).set_ 1 (.int .i64 0)).set_ 2 (.string dot)).set_ 3 (.slice (some ⟨g, 0, none⟩) 2 cap4)
  have hbw : Below w.heap.size w ((((w3.setCell ⟨H + 1 + 1, 0, none⟩ (.int .i64 3)).setCell ⟨H + 1 + 1, 1, none⟩ (.int .i64 0)).setCell ⟨H + 1 + 1, 2, none⟩ (.string dot)).setCell ⟨H + 1 + 1, 3, none⟩ (.slice (some ⟨g, 0, none⟩) 2 cap4)) :=
    ((((hb.trans (h23.mono hb.size)).setCell (p := ⟨H + 1 + 1, 0, none⟩) (by simp; omega) _).setCell (p := ⟨H + 1 + 1, 1, none⟩) (by simp; omega) _).setCell (p := ⟨H + 1 + 1, 2, none⟩) (by simp; omega) _).setCell (p := ⟨H + 1 + 1, 3, none⟩) (by simp; omega) _
  have far : ∀ p : Addr, p.block ≠ H + 1 + 1 → ((((w3.setCell ⟨H + 1 + 1, 0, none⟩ (.int .i64 3)).setCell ⟨H + 1 + 1, 1, none⟩ (.int .i64 0)).setCell ⟨H + 1 + 1, 2, none⟩ (.string dot)).setCell ⟨H + 1 + 1, 3, none⟩ (.slice (some ⟨g, 0, none⟩) 2 cap4)).cell? p = w3.cell? p := fun p hne => far4 hne _ _ _ _
  have hsz : ((((w3.setCell ⟨H + 1 + 1, 0, none⟩ (.int .i64 3)).setCell ⟨H + 1 + 1, 1, none⟩ (.int .i64 0)).setCell ⟨H + 1 + 1, 2, none⟩ (.string dot)).setCell ⟨H + 1 + 1, 3, none⟩ (.slice (some ⟨g, 0, none⟩) 2 cap4)).heap.size = w3.heap.size := by simp [World.setCell]
  have hcells := World.ownsRow.cells ho (g := g) rfl
  have hgl := ho.lt g rfl
  have hcap : 2 ≤ cap4 ∧ cap4 ≤ maxLen := by
    rcases ho.2 with ⟨h, _⟩ | ⟨g', cap', cur, h', _, _, h2, h3, _⟩
    · simp at h
    · injection h' with _ _ h'
      subst h'
      exact ⟨h2, h3⟩
  generalize (((w3.setCell ⟨H + 1 + 1, 0, none⟩ (.int .i64 3)).setCell ⟨H + 1 + 1, 1, none⟩ (.int .i64 0)).setCell ⟨H + 1 + 1, 2, none⟩ (.string dot)).setCell ⟨H + 1 + 1, 3, none⟩ (.slice (some ⟨g, 0, none⟩) 2 cap4) = w4 at *
  have cell : ∀ j u, [Value.int .i64 k1, .int .i64 n1, .string s1, .slice A1 kd1.len cap1, .int .i64 k, .int .i64 n, .string s, .slice A kids.len cap][j]? = some u → w4.cell? ⟨g, j, none⟩ = some u := fun j u hu => by
    have e : (⟨g, 0, none⟩ : Addr).add j = ⟨g, j, none⟩ := by unfold Addr.add; split <;> simp_all
    rw [far _ (by simp; omega), ← e]
    exact hcells j u hu
  have e1 : KidsIn w4 (fun b => (lo ≤ b ∧ b < w4.heap.size) ∧ b ≠ H + 1 + 1 ∧ b ≠ H + 1) kd1 A1 cap1 := hk1.keep (fun p hp => (far p (by have h : p.block < H := hp.2; omega)).trans (h23.cell (by have h : p.block < H := hp.2; omega))) fun b hb => ⟨⟨hb.1, by have := hb.2; omega⟩, by have := hb.2; omega, by have := hb.2; omega⟩
  have e2 : KidsIn w4 (fun b => (lo ≤ b ∧ b < w4.heap.size) ∧ b ≠ H + 1 + 1 ∧ b ≠ H + 1) kids A cap := hk.keep (fun p hp => (far p hp.2.1).trans (h23.cell hp.1.2)) fun b hb => ⟨⟨hb.1.1, by have := hb.1.2; omega⟩, hb.2⟩
  refine ⟨q1, q2, ⟨rfl, fits_dot, hcap.1, hcap.2, fun _ => ⟨g, 0, rfl, ⟨⟨by have := hb.size; omega, by omega⟩, by omega, by omega⟩, ?_⟩⟩, hbw, hH⟩
  exact RowIn.cons hf1 (cell 0 _ rfl) (cell 1 _ rfl) (cell 2 _ rfl) (cell 3 _ rfl) e1 (RowIn.cons hf (cell 4 _ rfl) (cell 5 _ rfl) (cell 6 _ rfl) (cell 7 _ rfl) e2 trivial)

/-- What l1Chain answers: the chain, its arguments where they were or in new blocks. -/
def ChainQ (w : World) (lo : Nat) (t : Fr) (e : Ending) (w' : World) : Prop :=
  ∃ k n s kids A cap, t = .cons k n s kids .nil ∧ e = .returned (.agg #[.int .i64 k, .int .i64 n, .string s, .slice A kids.len cap]) ∧ Fits k n s ∧ KidsAt w' lo w'.heap.size kids A cap ∧ Below w.heap.size w w'

set_option maxRecDepth 100000 in
set_option maxHeartbeats 8000000 in
/-- spec.l1Chain. -/
theorem specChainL_any (lo : Nat) (f : Fr) (k n : Int) (s : ByteArray) (kids : Fr) (A A2 : Option Addr) (cap cap2 : Nat) (w : World) (hlo : lo ≤ w.heap.size) (hk : KidsAt w lo w.heap.size f A cap) (hf : Fits k n s) (ht : KidsAt w lo w.heap.size kids A2 cap2) (hl : f.len ≤ 1048576) :
    Calls Tryz.prog 103 #[.slice A f.len cap, .agg #[.int .i64 k, .int .i64 n, .string s, .slice A2 kids.len cap2]] w fun e w' => ChainQ w lo (chain f (.cons k n s kids .nil)) e w' := by
  have HK := Lib.hid hk
  have hst : ChQ w lo w.heap.size (.cons k n s kids .nil) k n s kids A2 cap2 (((w.alloc (.cells #[.int .i64 k, .int .i64 n, .string s, .slice A2 kids.len cap2] 30)).alloc (.cells #[.int .i64 0, .int .i64 0, .string ⟨#[]⟩, .slice none 0 0] 30)).alloc (.cells #[.int .i64 k, .int .i64 n, .string s, .slice A2 kids.len cap2] 30)) := by
    have hb : Below w.heap.size w (((w.alloc (.cells #[.int .i64 k, .int .i64 n, .string s, .slice A2 kids.len cap2] 30)).alloc (.cells #[.int .i64 0, .int .i64 0, .string ⟨#[]⟩, .slice none 0 0] 30)).alloc (.cells #[.int .i64 k, .int .i64 n, .string s, .slice A2 kids.len cap2] 30)) := (two_alloc w _ _).alloc (by simp; omega) _
    refine ⟨?_, ?_, ⟨rfl, hf, ht.inn.keep (fun p hp => hb.cell hp.2) fun b hb => ?_⟩, hb, Nat.le_refl _⟩
    · have h := (Blk.new (w.alloc (.cells #[.int .i64 k, .int .i64 n, .string s, .slice A2 kids.len cap2] 30)) 30 #[.int .i64 0, .int .i64 0, .string ⟨#[]⟩, .slice none 0 0]).alloc (.cells #[.int .i64 k, .int .i64 n, .string s, .slice A2 kids.len cap2] 30)
      simpa using h
    · have h := Blk.new ((w.alloc (.cells #[.int .i64 k, .int .i64 n, .string s, .slice A2 kids.len cap2] 30)).alloc (.cells #[.int .i64 0, .int .i64 0, .string ⟨#[]⟩, .slice none 0 0] 30)) 30 #[.int .i64 k, .int .i64 n, .string s, .slice A2 kids.len cap2]
      simpa using h
    · have h1 := hb.1
      have h2 := hb.2
      simp
      omega
  have hst2 : ChQ w lo w.heap.size (chain (f.drop f.len) (.cons k n s kids .nil)) k n s kids A2 cap2 (((w.alloc (.cells #[.int .i64 k, .int .i64 n, .string s, .slice A2 kids.len cap2] 30)).alloc (.cells #[.int .i64 0, .int .i64 0, .string ⟨#[]⟩, .slice none 0 0] 30)).alloc (.cells #[.int .i64 k, .int .i64 n, .string s, .slice A2 kids.len cap2] 30)) := by
    rw [Fr.drop_len]; exact hst
  clear hk hst ht hf
  generalize hn : f.len = len at *
  have HN := Lib.hid hn
  have HST := Lib.hid hst2
  clear hn hst2
  go_enter Tryz.func103, Tryz.ntmps103
  go_wp2_with fail
  go_loopw [6] (fun i wr => ∃ (j : Nat) (k' n' : Int) (s' : ByteArray) (f' : Fr) (A' : Option Addr) (cap' : Nat), j ≤ len ∧ i = .int .i64 ((j : Int) - 1) ∧ ChQ w lo w.heap.size (chain (f.drop j) (.cons k n s kids .nil)) k' n' s' f' A' cap' wr) (fun i _ => (intOf i + 1).toNat)
  case atStart => exact ⟨len, _, _, _, _, _, _, Nat.le_refl _, rfl, HST.out⟩
  case round =>
    obtain ⟨j, k', n', s', f', A', cap', hj, rfl, hp⟩ := hrel
    have HP := Lib.hid hp
    obtain ⟨b1, b2, ⟨hc, hf, hk⟩, hb, hH⟩ := hp
    obtain ⟨x0, x1, x2, x3⟩ := cells4i b2
    cases j with
    | zero =>
      obtain ⟨d0, d1, d2, d3⟩ := cells4i b1
      obtain ⟨g0, g1, g2, g3⟩ := frozen4 b1
      have hbs := hb.size
      have HB1 := Lib.hid b1
      have HC : Hid (chain f (.cons k n s kids .nil) = .cons k' n' s' f' .nil) := Lib.hid hc
      have HFK := Lib.hid (And.intro hf hk)
      have HB := Lib.hid hb
      have hs1 := b2.lt
      clear b1 b2 hc hf hk hb HP
      go_wp2_with fail
      have e1 := (((HB1.out.set_ 0 (.int .i64 k')).set_ 1 (.int .i64 n')).set_ 2 (.string s')).set_ 3 (.slice A' f'.len cap')
      refine bodyPost_ret (v := .agg #[.int .i64 k', .int .i64 n', .string s', .slice A' f'.len cap']) ?_ rfl ⟨k', n', s', f', A', cap', HC.out, rfl, HFK.out.1, ?_, ?_⟩
      · exact results_cell_row Tryz.results103 _ _ (w.heap.size + 1) _ _ _ _ rfl e1 Tryz.underlying30 rfl (by kernel_rfl)
      · refine KidsIn.out (HFK.out.2.keep (Y := fun b => lo ≤ b ∧ b < wr.heap.size) (fun p hp => far4 hp.2.2 _ _ _ _) fun b hb => hb.1) fun b hb => ⟨hb.1, by simp [World.setCell]; exact hb.2⟩
      · exact (((HB.out.setCell (p := ⟨w.heap.size + 1, 0, none⟩) (by simp) _).setCell (p := ⟨w.heap.size + 1, 1, none⟩) (by simp) _).setCell (p := ⟨w.heap.size + 1, 2, none⟩) (by simp) _).setCell (p := ⟨w.heap.size + 1, 3, none⟩) (by simp) _
    | succ m =>
      obtain ⟨kk, nn, s1, kd1, hd⟩ := Fr.drop_cons m f (by rw [HN.out]; omega)
      obtain ⟨b, o, rfl, hlb, hbb, hrow⟩ := HK.out.2.2 (by rw [HN.out]; omega)
      obtain ⟨hfit, A1, cp1, c0, c1, c2, c3, hkid⟩ := hrow.elem hd
      have k0 := (hb.cell (p := ⟨b, o + m * 4, none⟩) hbb).trans c0
      have k1 := (hb.cell (p := ⟨b, o + m * 4 + 1, none⟩) hbb).trans c1
      have k2 := (hb.cell (p := ⟨b, o + m * 4 + 2, none⟩) hbb).trans c2
      have k3 := (hb.cell (p := ⟨b, o + m * 4 + 3, none⟩) hbb).trans c3
      have hk1 := hkid.inn.keep (w' := wr) (Y := fun b => lo ≤ b ∧ b < w.heap.size) (fun p hp => hb.cell hp.2) fun b hb => hb
      have hch : chain (f.drop m) (.cons k n s kids .nil) = .cons 3 0 dot (.cons kk nn s1 kd1 (chain (f.drop (m + 1)) (.cons k n s kids .nil))) .nil := by rw [hd]; rfl
      have hb1 : Below wr.heap.size wr (wr.drew.alloc (.cells #[.int .i64 kk, .int .i64 nn, .string s1, .slice A1 kd1.len cp1, .int .i64 k', .int .i64 n', .string s', .slice A' f'.len cap'] 30)) := (Below.refl _ _).drew.alloc (by simp) _
      have hnew : Blk (wr.drew.alloc (.cells #[.int .i64 kk, .int .i64 nn, .string s1, .slice A1 kd1.len cp1, .int .i64 k', .int .i64 n', .string s', .slice A' f'.len cap'] 30)) wr.heap.size 30 #[.int .i64 kk, .int .i64 nn, .string s1, .slice A1 kd1.len cp1, .int .i64 k', .int .i64 n', .string s', .slice A' f'.len cap'] := Blk.new wr.drew 30 #[.int .i64 kk, .int .i64 nn, .string s1, .slice A1 kd1.len cp1, .int .i64 k', .int .i64 n', .string s', .slice A' f'.len cap']
      have C2 := struct2_any dot wr.heap.size 2 [.int .i64 kk, .int .i64 nn, .string s1, .slice A1 kd1.len cp1, .int .i64 k', .int .i64 n', .string s', .slice A' f'.len cap'] (wr.drew.alloc (.cells #[.int .i64 kk, .int .i64 nn, .string s1, .slice A1 kd1.len cp1, .int .i64 k', .int .i64 n', .string s', .slice A' f'.len cap'] 30)) rfl (by simp [Value.oneCell']) (by simp) (fun j u hu => by rw [hnew.cell j, List.getElem?_toArray]; exact hu)
      have STEP := fun w2 w3 g cap4 h2 h3 ho => ChQ.step (w2 := w2) (w3 := w3) (g := g) (cap4 := cap4) HP.out hlo hfit hk1 h2 h3 ho
      rw [← hch] at STEP
      have FAR : ∀ w3, Below wr.heap.size wr w3 → Blk w3 (w.heap.size + 1 + 1) 30 #[.int .i64 k', .int .i64 n', .string s', .slice A' f'.len cap'] := fun w3 h => b2.below h b2.lt
      have H2 := Lib.hid C2
      have HSTEP := Lib.hid STEP
      have HFAR := Lib.hid FAR
      have HB1 := Lib.hid hb1
      have e0 : (((m + 1 : Nat) : Int) - 1) = (m : Int) := by omega
      have hs1 := b2.lt
      rw [e0]
      have im0 : (0 : Int) ≤ (m : Int) := Int.natCast_nonneg _
      have im1 : (m : Int) < (len : Int) := by omega
      clear C2 STEP FAR hb1 hnew hch hk1 hkid hrow hd c0 c1 c2 c3 b1 b2 hc hf hk hfit e0 HP
      go_wp2_with fail
      go_region_law (go_simp; go_at_call 27; refine H2.out.mono ?_; rintro e w3 ⟨g, cap4, rfl, hb3, ho3⟩; obtain ⟨y0, y1, y2, y3⟩ := cells4i (HFAR.out w3 (HB1.out.trans (hb3.mono HB1.out.size))); obtain ⟨f0, f1, f2, f3⟩ := frozen4 (HFAR.out w3 (HB1.out.trans (hb3.mono HB1.out.size))); have HB3 := Lib.hid hb3; have HO3 := Lib.hid ho3; clear hb3 ho3)
      all_goals
        go_wp2_with fail
        go_roundw
        case rel => exact ⟨m, _, _, _, _, _, _, by omega, by go_num, HSTEP.out _ w3 g cap4 HB1.out HB3.out HO3.out⟩
        case measure => simp [intOf]
end Go.Proofs.YtihmgodiiohdnaaGreatDoor

/- spec.l2Items put together; spec.l2Items. Condition: the contracts of the functions that they call. -/
namespace Go.Proofs.YtihmgodiiohdnaaGreatDoor.rdr
open Go.RowKit

theorem pc_step (n : Nat) (hT : TC n) (hI : IC n) (hS : SC n) : PC (n + 1) := by
  intro s a dp w hs ha hdp hn
  rw [rdP]
  by_cases c0 : dp < 1 ∨ s.size ≤ a
  · rw [if_pos c0]; exact pr_fail s a dp w hs ha hdp c0
  · rw [if_neg c0]
    have h1 : a < s.size := by omega
    have h2 : 1 ≤ dp := by omega
    by_cases c1 : bA s a 40 = true
    · rw [if_pos c1]; exact pr_bra n s a dp w hs h1 hdp h2 c1 hT (by omega)
    · rw [if_neg c1]
      by_cases c2 : bA s a 91 = true ∧ bA s (a + 1) 93 = false
      · rw [if_pos c2]; exact pr_list n s a dp w hs h1 hdp h2 c2.1 c2.2 hI (by omega)
      · rw [if_neg c2]
        by_cases c3 : atB upC s.data.toList a = true
        · rw [if_pos c3]; exact pr_var s a dp w hs h1 hdp h2 c3
        · rw [if_neg c3]
          by_cases c4 : atB dgC s.data.toList a = true ∨ (bA s a 45 = true ∧ atB dgC s.data.toList (a + 1) = true)
          · rw [if_pos c4]; exact pr_num s a dp w hs h1 hdp h2 c4
          · rw [if_neg c4]
            obtain ⟨g1, g2, g3⟩ := nm_or h1 (by simpa using c1) c2 (by simpa using c3) c4
            by_cases c5 : nmN s a = 0
            · rw [if_pos c5]; exact pr_nmf s a dp w hs h1 hdp h2 g1 g2 g3 c5
            · rw [if_neg c5]
              by_cases c6 : bA s (a + nmN s a) 40 = false
              · rw [if_pos c6]; exact pr_atom s a dp w hs h1 hdp h2 g1 g2 g3 c5 c6
              · rw [if_neg c6]; exact pr_str n s a dp w hs h1 hdp h2 g1 g2 g3 c5 (by simpa using c6) hS (by omega)
theorem rdS_len (n : Nat) : ∀ s a dp x y acc f e, rdS n s a dp x y acc = some (f, e) → f.len + a ≤ acc.len + e := by
  induction n with
  | zero => intro s a dp x y acc f e h; rw [rdS] at h; cases h
  | succ n ih =>
    intro s a dp x y acc f e h
    rw [rdS] at h
    cases hq : rdT n s a dp 3 with
    | none => rw [hq] at h; cases h
    | some r =>
      obtain ⟨t1, e1⟩ := r
      rw [hq] at h
      have h1 := (rd_prog n).1 _ _ _ _ _ _ hq
      have h2 : (acc.app (t1.fr .nil)).len = acc.len + 1 := by rw [Fr.len_app]; rfl
      simp only at h
      split at h
      · injection h with h
        injection h with h3 h4
        subst h3 h4
        omega
      · split at h
        · cases h
        · have := ih _ _ _ _ _ _ _ _ h
          omega
theorem chain_fr : ∀ (f : Fr) (t : Tm), chain f (t.fr .nil) = (chainT f t).fr .nil
  | .nil, _ => rfl
  | .cons k n s kids rest, t => by
    show Fr.cons 3 0 dot (.cons k n s kids (chain rest (t.fr .nil))) .nil = _
    rw [chain_fr rest t]
    rfl
theorem chain_is {f : Fr} {k n k' n' : Int} {s s' : ByteArray} {g g' : Fr} (h : chain f (.cons k n s g .nil) = .cons k' n' s' g' .nil) : chainT f (k, n, s, g) = (k', n', s', g') := by
  have h1 := chain_fr f (k, n, s, g)
  rw [show (Tm.fr (k, n, s, g) .nil) = .cons k n s g .nil from rfl, h] at h1
  generalize chainT f (k, n, s, g) = t at *
  obtain ⟨a, b, c, d⟩ := t
  simp only [Tm.fr, Fr.cons.injEq, and_true] at h1
  obtain ⟨rfl, rfl, rfl, rfl⟩ := h1
  rfl
set_option maxRecDepth 100000 in
set_option maxHeartbeats 4000000 in
theorem ic_step (n : Nat) (hT : TC n) (hS : SC n) : IC (n + 1) := by
  intro s a dp w hs ha hdp hn
  rw [rdI]
  have hb0 : Below w.heap.size w (w.alloc (.cells #[.int .i64 0, .int .i64 0, .string ⟨#[]⟩, .slice none 0 0] 30)) := (Below.refl _ _).alloc (Nat.le_refl _) _
  have hq0 := Blk.new w 30 #[.int .i64 0, .int .i64 0, .string ⟨#[]⟩, .slice none 0 0]
  have hs0 : (w.alloc (.cells #[.int .i64 0, .int .i64 0, .string ⟨#[]⟩, .slice none 0 0] 30)).heap.size = w.heap.size + 1 := by simp
  have HB0 := Lib.hid hb0
  have HQ0 := Lib.hid hq0
  have HS0 := Lib.hid hs0
  clear hb0 hq0 hs0
  have C1 := hS s a dp 93 124 (w.alloc (.cells #[.int .i64 0, .int .i64 0, .string ⟨#[]⟩, .slice none 0 0] 30)) hs ha hdp (by omega)
  rw [show (((93 : UInt8).toNat : Nat) : Int) = 93 from rfl, show (((124 : UInt8).toNat : Nat) : Int) = 124 from rfl] at C1
  have hpg := (rd_prog n).2.2.2.1 s a dp 93 124 .nil
  cases hr : rdS n s a dp 93 124 .nil with
  | none =>
    rw [hr] at C1
    have H1 := Lib.hid C1
    clear C1 hr hpg hS hT
    show Calls Tryz.prog 91 #[.string s, .int .i64 a, .int .i64 dp] w fun e w' => RdR w none e w'
    go_enter Tryz.func91, Tryz.ntmps91
    go_wp2_with fail
    refine H1.out.mono ?_
    intro e w2 hr2
    obtain ⟨hb, z, hz, rfl⟩ := hr2.none_
    have HZ := Lib.hid hz
    have hzl := hz.2
    have HB2 := Lib.hid (HB0.out.trans (hb.mono HB0.out.size))
    have HQ2 := Lib.hid (HQ0.out.below hb HQ0.out.lt)
    clear hb hz
    have hl2 := HQ2.out.lt
    obtain ⟨d0, d1, d2, d3⟩ := cells4i HQ2.out
    obtain ⟨f0, f1, f2, f3⟩ := frozen4 HQ2.out
    go_wp2_with fail
    refine bodyPost_ret (v := .tuple #[.agg #[.int .i64 0, .int .i64 0, .string ⟨#[]⟩, .slice none 0 0], .int .i64 z]) ?_ rfl (RdR.fin0 HB2.out HZ.out _ _ _ _)
    exact results_cell_row2 Tryz.results91 _ _ w.heap.size _ _ _ _ rfl (rset4 HQ2.out _ _ _ _) Tryz.underlying30 rfl (by kernel_rfl)
  | some r =>
    obtain ⟨f, p⟩ := r
    have hp := hpg _ _ hr
    rw [hr] at C1
    have C2 := fun w1 => sign_any s p 93 w1 (by unfold maxLen; omega) (by unfold maxLen; omega)
    have t8 : ¬ (p : Int) < 0 := by omega
    have hp2 : p ≤ 1000 := by omega
    have H1 := Lib.hid C1
    have hlen := rdS_len n s a dp 93 124 .nil f p hr
    have HLEN : Hid (f.len ≤ 1048576) := Lib.hid (by rw [show Fr.nil.len = 0 from rfl] at hlen; omega)
    clear C1 hr hpg hS hlen
    show Calls Tryz.prog 91 #[.string s, .int .i64 a, .int .i64 dp] w fun e w' => RdR w (if bA s p 93 = true then some (chainT f (3, 0, ⟨#[91, 93]⟩, .nil), p + 1) else match rdT n s (p + 1) dp 3 with | none => none | some (t, e2) => if bA s e2 93 = true then some (chainT f t, e2 + 1) else none) e w'
    cases h93 : bA s p 93 with
    | true =>
      rw [show atB (sgC 93) s.data.toList p = true from h93] at C2
      have H2 := Lib.hid C2
      clear C2 h93 hT hp
      rw [if_pos rfl]
      go_enter Tryz.func91, Tryz.ntmps91
      go_wp2_with fail
      refine H1.out.mono ?_
      intro e w2 hr2
      obtain ⟨hb, A, cap, rfl, hk⟩ := hr2.some_
      have HB3 := Lib.hid (HB0.out.trans (hb.mono HB0.out.size))
      have HQ3 := Lib.hid (HQ0.out.below hb HQ0.out.lt)
      have HK3 := Lib.hid (hk.more (lo' := w.heap.size + 1) (hi' := w2.heap.size) (Nat.le_of_eq HS0.out.symm) (Nat.le_refl _))
      clear hb hk
      go_wp2_with fail
      refine (H2.out _).mono ?_
      rintro e w9 ⟨rfl, hw⟩
      subst hw
      go_wp2_with fail
      refine (structN_any ⟨#[91, 93]⟩ .nil none 0 [] _ ⟨Nat.zero_le _, Nat.zero_le _, .inl ⟨rfl, rfl⟩⟩ List.nodup_nil (by decide)).mono ?_
      rintro e w5 ⟨A2, cap2, L, rfl, ho, -, -, hb, -⟩
      have hcap : cap2 ≤ maxLen := ho.2.1
      have HB5 := Lib.hid (HB3.out.trans (hb.mono HB3.out.size))
      have HQ5 := Lib.hid (HQ3.out.below hb HQ3.out.lt)
      have hk5 := (HK3.out.below hb (Nat.le_refl _)).more (lo' := w.heap.size + 1) (hi' := w5.heap.size) (Nat.le_refl _) hb.size
      have C5 := specChainL_any (w.heap.size + 1) f 3 0 ⟨#[91, 93]⟩ .nil A A2 cap cap2 w5 HQ5.out.lt hk5 ⟨by omega, by omega, by unfold maxLen; decide⟩ (KidsAt.nil _ _ _ _ _ hcap) HLEN.out
      rw [show Fr.nil.len = 0 from rfl] at C5
      have H5 := Lib.hid C5
      clear hb ho hcap hk5 C5
      go_wp2_with fail
      refine H5.out.mono ?_
      rintro e w6 ⟨k, m, s0, kids, B, capB, hch, rfl, hf, hk, hb⟩
      have HCH := Lib.hid (chain_is hch)
      have HF := Lib.hid hf
      have HB2 := Lib.hid (HB5.out.trans (hb.mono HB5.out.size))
      have HQ2 := Lib.hid (HQ5.out.below hb HQ5.out.lt)
      have HK2 := Lib.hid hk
      clear hch hf hk hb
      obtain ⟨d0, d1, d2, d3⟩ := cells4i HQ2.out
      obtain ⟨f0, f1, f2, f3⟩ := frozen4 HQ2.out
      go_wp2_with fail
      refine bodyPost_ret (v := .tuple #[.agg #[.int .i64 k, .int .i64 m, .string s0, .slice B kids.len capB], .int .i64 ((p : Int) + 1)]) ?_ rfl (by rw [HCH.out]; exact RdR.fin (p := p + 1) HB2.out HF.out HK2.out _ _ _ _)
      exact results_cell_row2 Tryz.results91 _ _ w.heap.size _ _ _ _ rfl (rset4 HQ2.out _ _ _ _) Tryz.underlying30 rfl (by kernel_rfl)
    | false =>
      rw [show atB (sgC 93) s.data.toList p = false from h93] at C2
      have H2 := Lib.hid C2
      have CT := fun w1 => hT s (p + 1) dp 3 w1 hs (by omega) hdp (by omega) (by omega)
      rw [show ((p + 1 : Nat) : Int) = (p : Int) + 1 by omega] at CT
      have hpt := (rd_prog n).1 s (p + 1) dp 3
      rw [if_neg (by decide)]
      clear C2 h93 hT hp
      cases hq : rdT n s (p + 1) dp 3 with
      | none =>
        rw [hq] at CT
        have HT1 := Lib.hid CT
        clear CT hq hpt
        show Calls Tryz.prog 91 #[.string s, .int .i64 a, .int .i64 dp] w fun e w' => RdR w none e w'
        go_enter Tryz.func91, Tryz.ntmps91
        go_wp2_with fail
        refine H1.out.mono ?_
        intro e w2 hr2
        obtain ⟨hb, A, cap, rfl, hk⟩ := hr2.some_
        have HB3 := Lib.hid (HB0.out.trans (hb.mono HB0.out.size))
        have HQ3 := Lib.hid (HQ0.out.below hb HQ0.out.lt)
        have HK3 := Lib.hid (hk.more (lo' := w.heap.size + 1) (hi' := w2.heap.size) (Nat.le_of_eq HS0.out.symm) (Nat.le_refl _))
        clear hb hk
        go_wp2_with fail
        refine (H2.out _).mono ?_
        rintro e w9 ⟨rfl, hw⟩
        subst hw
        go_wp2_with fail
        refine (HT1.out _).mono ?_
        intro e w5 hr2
        obtain ⟨hb, z, hz, rfl⟩ := hr2.none_
        have HZ := Lib.hid hz
        have hzl := hz.2
        have HB2 := Lib.hid (HB3.out.trans (hb.mono HB3.out.size))
        have HQ2 := Lib.hid (HQ3.out.below hb HQ3.out.lt)
        clear hb hz
        have hl2 := HQ2.out.lt
        obtain ⟨d0, d1, d2, d3⟩ := cells4i HQ2.out
        obtain ⟨f0, f1, f2, f3⟩ := frozen4 HQ2.out
        go_wp2_with fail
        refine bodyPost_ret (v := .tuple #[.agg #[.int .i64 0, .int .i64 0, .string ⟨#[]⟩, .slice none 0 0], .int .i64 z]) ?_ rfl (RdR.fin0a HB2.out HZ.out _ _ _ _ _)
        exact results_cell_row2 Tryz.results91 _ _ w.heap.size _ _ _ _ rfl ((rset4 HQ2.out _ _ _ _).alloc _) Tryz.underlying30 rfl (by kernel_rfl)
      | some r2 =>
        obtain ⟨⟨k1, n1, s1, f1⟩, p2⟩ := r2
        have hp3 := hpt _ _ hq
        rw [hq] at CT
        have HT1 := Lib.hid CT
        have C4 := fun w1 => sign_any s p2 93 w1 (by unfold maxLen; omega) (by unfold maxLen; omega)
        have C3 := fun w1 => fails_any p2 w1 (by omega)
        have H3 := Lib.hid C3
        have t9 : ¬ (p2 : Int) < 0 := by omega
        have hp4 : p2 ≤ 1000 := by omega
        clear CT hq hpt hp3 C3
        show Calls Tryz.prog 91 #[.string s, .int .i64 a, .int .i64 dp] w fun e w' => RdR w (if bA s p2 93 = true then some (chainT f (k1, n1, s1, f1), p2 + 1) else none) e w'
        cases h94 : bA s p2 93 with
        | true =>
          rw [show atB (sgC 93) s.data.toList p2 = true from h94] at C4
          have H4 := Lib.hid C4
          clear C4 h94
          rw [if_pos rfl]
          go_enter Tryz.func91, Tryz.ntmps91
          go_wp2_with fail
          refine H1.out.mono ?_
          intro e w2 hr2
          obtain ⟨hb, A, cap, rfl, hk⟩ := hr2.some_
          have HB3 := Lib.hid (HB0.out.trans (hb.mono HB0.out.size))
          have HQ3 := Lib.hid (HQ0.out.below hb HQ0.out.lt)
          have HK3 := Lib.hid (hk.more (lo' := w.heap.size + 1) (hi' := w2.heap.size) (Nat.le_of_eq HS0.out.symm) (Nat.le_refl _))
          clear hb hk
          go_wp2_with fail
          refine (H2.out _).mono ?_
          rintro e w9 ⟨rfl, hw⟩
          subst hw
          go_wp2_with fail
          refine (HT1.out _).mono ?_
          intro e w4 hr2
          obtain ⟨hb, A2, cap2, rfl, hf, hk⟩ := hr2.some_
          have hb5 : Below w4.heap.size w4 (w4.alloc (.cells #[.int .i64 k1, .int .i64 n1, .string s1, .slice A2 f1.len cap2] 30)) := (Below.refl _ _).alloc (Nat.le_refl _) _
          have hb25 := hb.trans (hb5.mono hb.size)
          have HB5 := Lib.hid (HB3.out.trans (hb25.mono HB3.out.size))
          have HQ5 := Lib.hid (HQ3.out.below hb25 HQ3.out.lt)
          have HT5 := Lib.hid (Blk.new w4 30 #[.int .i64 k1, .int .i64 n1, .string s1, .slice A2 f1.len cap2])
          have hk5 := (HK3.out.below hb25 (Nat.le_refl _)).more (lo' := w.heap.size + 1) (hi' := (w4.alloc (.cells #[.int .i64 k1, .int .i64 n1, .string s1, .slice A2 f1.len cap2] 30)).heap.size) (Nat.le_refl _) hb25.size
          have hk6 := (hk.below hb5 (Nat.le_refl _)).more (lo' := w.heap.size + 1) (hi' := (w4.alloc (.cells #[.int .i64 k1, .int .i64 n1, .string s1, .slice A2 f1.len cap2] 30)).heap.size) (by have := HQ3.out.lt; omega) hb5.size
          have H5 := Lib.hid (specChainL_any (w.heap.size + 1) f k1 n1 s1 f1 A A2 cap cap2 _ HQ5.out.lt hk5 hf hk6 HLEN.out)
          clear hb hf hk hb5 hb25 hk5 hk6
          go_wp2_with fail
          generalize w4.alloc (.cells #[.int .i64 k1, .int .i64 n1, .string s1, .slice A2 f1.len cap2] 30) = w5 at *
          generalize w4.heap.size = G at *
          refine (H4.out _).mono ?_
          rintro e w9 ⟨rfl, hw⟩
          subst hw
          obtain ⟨x0, x1, x2, x3⟩ := cells4i HT5.out
          go_wp2_with fail
          refine H5.out.mono ?_
          rintro e w6 ⟨k, m, s0, kids, B, capB, hch, rfl, hf, hk, hb⟩
          have HCH := Lib.hid (chain_is hch)
          have HF := Lib.hid hf
          have HB2 := Lib.hid (HB5.out.trans (hb.mono HB5.out.size))
          have HQ2 := Lib.hid (HQ5.out.below hb HQ5.out.lt)
          have HK2 := Lib.hid hk
          clear hch hf hk hb
          obtain ⟨d0, d1, d2, d3⟩ := cells4i HQ2.out
          obtain ⟨f0, f1, f2, f3⟩ := frozen4 HQ2.out
          go_wp2_with fail
          refine bodyPost_ret (v := .tuple #[.agg #[.int .i64 k, .int .i64 m, .string s0, .slice B kids.len capB], .int .i64 ((p2 : Int) + 1)]) ?_ rfl (by rw [HCH.out]; exact RdR.fin (p := p2 + 1) HB2.out HF.out HK2.out _ _ _ _)
          exact results_cell_row2 Tryz.results91 _ _ w.heap.size _ _ _ _ rfl (rset4 HQ2.out _ _ _ _) Tryz.underlying30 rfl (by kernel_rfl)
        | false =>
          rw [show atB (sgC 93) s.data.toList p2 = false from h94] at C4
          have H4 := Lib.hid C4
          clear C4 h94
          rw [if_neg (by decide)]
          go_enter Tryz.func91, Tryz.ntmps91
          go_wp2_with fail
          refine H1.out.mono ?_
          intro e w2 hr2
          obtain ⟨hb, A, cap, rfl, hk⟩ := hr2.some_
          have HB3 := Lib.hid (HB0.out.trans (hb.mono HB0.out.size))
          have HQ3 := Lib.hid (HQ0.out.below hb HQ0.out.lt)
          have HK3 := Lib.hid (hk.more (lo' := w.heap.size + 1) (hi' := w2.heap.size) (Nat.le_of_eq HS0.out.symm) (Nat.le_refl _))
          clear hb hk
          go_wp2_with fail
          refine (H2.out _).mono ?_
          rintro e w9 ⟨rfl, hw⟩
          subst hw
          go_wp2_with fail
          refine (HT1.out _).mono ?_
          intro e w4 hr2
          obtain ⟨hb, A2, cap2, rfl, hf, hk⟩ := hr2.some_
          have hb5 : Below w4.heap.size w4 (w4.alloc (.cells #[.int .i64 k1, .int .i64 n1, .string s1, .slice A2 f1.len cap2] 30)) := (Below.refl _ _).alloc (Nat.le_refl _) _
          have hb25 := hb.trans (hb5.mono hb.size)
          have HB5 := Lib.hid (HB3.out.trans (hb25.mono HB3.out.size))
          have HQ5 := Lib.hid (HQ3.out.below hb25 HQ3.out.lt)
          have HT5 := Lib.hid (Blk.new w4 30 #[.int .i64 k1, .int .i64 n1, .string s1, .slice A2 f1.len cap2])
          have hk5 := (HK3.out.below hb25 (Nat.le_refl _)).more (lo' := w.heap.size + 1) (hi' := (w4.alloc (.cells #[.int .i64 k1, .int .i64 n1, .string s1, .slice A2 f1.len cap2] 30)).heap.size) (Nat.le_refl _) hb25.size
          have hk6 := (hk.below hb5 (Nat.le_refl _)).more (lo' := w.heap.size + 1) (hi' := (w4.alloc (.cells #[.int .i64 k1, .int .i64 n1, .string s1, .slice A2 f1.len cap2] 30)).heap.size) (by have := HQ3.out.lt; omega) hb5.size
          have H5 := Lib.hid (specChainL_any (w.heap.size + 1) f k1 n1 s1 f1 A A2 cap cap2 _ HQ5.out.lt hk5 hf hk6 HLEN.out)
          clear hb hf hk hb5 hb25 hk5 hk6
          go_wp2_with fail
          generalize w4.alloc (.cells #[.int .i64 k1, .int .i64 n1, .string s1, .slice A2 f1.len cap2] 30) = w5 at *
          generalize w4.heap.size = G at *
          refine (H4.out _).mono ?_
          rintro e w9 ⟨rfl, hw⟩
          subst hw
          go_wp2_with fail
          refine (H3.out _).mono ?_
          intro e w6 hr2
          obtain ⟨hb, z, hz, rfl⟩ := hr2.none_
          have HZ := Lib.hid hz
          have HB2 := Lib.hid (HB5.out.trans (hb.mono HB5.out.size))
          have HQ2 := Lib.hid (HQ5.out.below hb HQ5.out.lt)
          clear hb hz
          obtain ⟨d0, d1, d2, d3⟩ := cells4i HQ2.out
          obtain ⟨f0, f1, f2, f3⟩ := frozen4 HQ2.out
          go_wp2_with fail
          refine bodyPost_ret (v := .tuple #[.agg #[.int .i64 0, .int .i64 0, .string ⟨#[]⟩, .slice none 0 0], .int .i64 z]) ?_ rfl (RdR.fin0 HB2.out HZ.out _ _ _ _)
          exact results_cell_row2 Tryz.results91 _ _ w.heap.size _ _ _ _ rfl (rset4 HQ2.out _ _ _ _) Tryz.underlying30 rfl (by kernel_rfl)
end Go.Proofs.YtihmgodiiohdnaaGreatDoor.rdr

/- spec.l2Terms. Condition: the contract of the reader that it calls. -/
namespace Go.Proofs.YtihmgodiiohdnaaGreatDoor.rdr
open Go.RowKit

/-- The cells of a row of terms whose arguments lie in blocks of X. -/
def XI (w : World) (X : Nat → Prop) : Fr → List Value → Prop
  | .nil, xs => xs = []
  | .cons k n s kids rest, xs => ∃ (A : Option Addr) (cap : Nat) (ys : List Value), xs = .int .i64 k :: .int .i64 n :: .string s :: .slice A kids.len cap :: ys ∧ Fits k n s ∧ KidsIn w X kids A cap ∧ XI w X rest ys
theorem XI.keep {w w' : World} {X Y : Nat → Prop} (hk : ∀ p : Addr, X p.block → w'.cell? p = w.cell? p) (hY : ∀ b, X b → Y b) : ∀ (f : Fr) (xs : List Value), XI w X f xs → XI w' Y f xs
  | .nil, _, h => h
  | .cons k n s kids rest, xs, h => by
    obtain ⟨A, cap, ys, rfl, h1, h2, h3⟩ := h
    exact ⟨A, cap, ys, rfl, h1, h2.keep hk hY, XI.keep hk hY rest ys h3⟩
theorem XI.snoc {w : World} {X : Nat → Prop} {k n : Int} {s : ByteArray} {kids : Fr} {A : Option Addr} {cap : Nat} (hf : Fits k n s) (hk : KidsIn w X kids A cap) :
    ∀ (f : Fr) (xs : List Value), XI w X f xs → XI w X (f.app (.cons k n s kids .nil)) (xs ++ [.int .i64 k, .int .i64 n, .string s, .slice A kids.len cap])
  | .nil, xs, h => by obtain rfl : xs = [] := h; exact ⟨A, cap, [], rfl, hf, hk, rfl⟩
  | .cons k' n' s' kids' rest, xs, h => by
    obtain ⟨A', cap', ys, rfl, hf', hk', h⟩ := h
    exact ⟨A', cap', _, rfl, hf', hk', XI.snoc hf hk rest ys h⟩
theorem XI.row {w : World} {X : Nat → Prop} {g : Nat} : ∀ (f : Fr) (xs : List Value) (o : Nat), XI w X f xs → (∀ j u, xs[j]? = some u → w.cell? ⟨g, o + j, none⟩ = some u) → RowIn w X f g o
  | .nil, _, _, _, _ => trivial
  | .cons k n s kids rest, xs, o, h, hc => by
    obtain ⟨A, cap, ys, rfl, hf, hk, h⟩ := h
    refine RowIn.cons hf (hc 0 _ rfl) (hc 1 _ rfl) (hc 2 _ rfl) (hc 3 _ rfl) hk (XI.row rest ys (o + 4) h fun j u hj => ?_)
    have := hc (j + 4) u (by simpa using hj)
    rw [show o + (j + 4) = o + 4 + j by omega] at this
    exact this
/-- The slice v reads as the row f; its block is the call's own, and what its terms lead to lies elsewhere, from base on. -/
def RowI (base : Nat) (wr : World) (v : Value) (f : Fr) : Prop :=
  ∃ xs, wr.ownsRow base 30 4 v f.len xs ∧ XI wr (fun b => (base ≤ b ∧ b < wr.heap.size) ∧ ∀ g, v.ownBlock = some g → b ≠ g) f xs
theorem RowI.empty {base : Nat} {w : World} (hb : base ≤ w.heap.size) : RowI base (w.alloc (.cells #[] 30)) (.slice (some ⟨w.heap.size, 0, none⟩) 0 0) .nil :=
  ⟨[], ⟨rfl, .inr ⟨w.heap.size, 0, #[], rfl, hb, heap_alloc_new w _, Nat.le_refl _, Nat.zero_le _, rfl, rfl⟩⟩, rfl⟩
theorem RowI.below {base : Nat} {wr w1 : World} {v : Value} {f : Fr} (h : RowI base wr v f) (hb : Below wr.heap.size wr w1) : RowI base w1 v f := by
  obtain ⟨xs, ho, hx⟩ := h
  refine ⟨xs, ho.kept (row := none) ⟨hb.os, hb.tape, hb.output, hb.size, fun k hk _ => hb.block k hk⟩ ?_, hx.keep (fun p hp => hb.cell hp.1.2) (fun b hb' => ⟨⟨hb'.1.1, Nat.lt_of_lt_of_le hb'.1.2 hb.size⟩, hb'.2⟩) f xs⟩
  cases h : v.ownBlock with
  | none => exact .inl rfl
  | some g => exact .inr (by simp)
theorem RowI.step {base : Nat} {w3 w4 w5 : World} {v : Value} {f : Fr} {xs : List Value} {k n : Int} {s : ByteArray} {kids : Fr} {A : Option Addr} {cap cap' g : Nat}
    (hx : XI w3 (fun b => (base ≤ b ∧ b < w3.heap.size) ∧ ∀ g, v.ownBlock = some g → b ≠ g) f xs) (hf : Fits k n s)
    (hk : KidsIn w3 (fun b => (base ≤ b ∧ b < w3.heap.size) ∧ ∀ g, v.ownBlock = some g → b ≠ g) kids A cap) (hb : Below w3.heap.size w3 w4) (hg : w4.grownBy w5 v.ownBlock)
    (ho : w5.ownsRow base 30 4 (.slice (some ⟨g, 0, none⟩) (f.len + 1) cap') (f.len + 1) (xs ++ [.int .i64 k, .int .i64 n, .string s, .slice A kids.len cap])) (hat : v.ownBlock = some g ∨ g = w4.heap.size) :
    RowI base w5 (.slice (some ⟨g, 0, none⟩) (f.len + 1) cap') (f.app (.cons k n s kids .nil)) := by
  have hlen : (f.app (.cons k n s kids .nil)).len = f.len + 1 := by rw [Fr.len_app]; rfl
  have hs1 := hb.size
  have hs2 := hg.size
  refine ⟨_, by rw [hlen]; exact ho, (XI.snoc hf hk f xs hx).keep (fun p hp => World.cell?_of_block ?_) (fun b hb' => ⟨⟨hb'.1.1, by omega⟩, fun g' hg' => ?_⟩) _ _⟩
  · rw [hg.block p.block (by have := hp.1.2; omega) (fun e => hp.2 p.block e.symm rfl), hb.block p.block hp.1.2]
  · have e : g = g' := by simpa [Value.ownBlock] using hg'
    subst e
    rcases hat with h | h
    · exact hb'.2 g h
    · have := hb'.1.2; omega
theorem RowI.fin {base : Nat} {wr : World} {v : Value} {f : Fr} (h : RowI base wr v f) : ∃ A cap, v = .slice A f.len cap ∧ KidsAt wr base wr.heap.size f A cap := by
  obtain ⟨xs, ho, hx⟩ := h
  have hl := ho.lt
  rcases ho.2 with ⟨rfl, h0⟩ | ⟨g, cap, cur, rfl, hbg, hg, hnc, hcm, hcs, htake⟩
  · exact ⟨none, 0, by rw [h0], by omega, Nat.zero_le _, fun hp => by omega⟩
  · refine ⟨some ⟨g, 0, none⟩, cap, rfl, hnc, hcm, fun _ => ⟨g, 0, rfl, hbg, (hl g rfl).2, RowIn.out (X := fun b => (base ≤ b ∧ b < wr.heap.size) ∧ ∀ g', (Value.slice (some ⟨g, 0, none⟩) f.len cap).ownBlock = some g' → b ≠ g') (fun b hb => hb.1) f g 0 (XI.row f xs 0 hx fun j u hj => ?_)⟩⟩
    have h3 := World.ownsRow.cells ho (g := g) rfl j u hj
    have e : (⟨g, 0, none⟩ : Addr).add j = ⟨g, 0 + j, none⟩ := by unfold Addr.add; split <;> simp_all
    rwa [e] at h3
theorem RowI.form {base : Nat} {wr : World} {v : Value} {f : Fr} (h : RowI base wr v f) : ∃ A cap, v = .slice A f.len cap := by
  obtain ⟨A, cap, e, _⟩ := h.fin
  exact ⟨A, cap, e⟩
set_option maxRecDepth 100000 in
set_option maxHeartbeats 8000000 in
theorem sc_step (n : Nat) (hT : ∀ m, m ≤ n → TC m) : SC (n + 1) := by
  intro s a dp x y w hs ha hdp hn
  obtain ⟨i0, hi0, hz0, hz1, hz2⟩ := info_parts infoT
  have CX := fun p w1 (h : p ≤ 1000) => sign_any s p (x.toNat : Int) w1 (by unfold maxLen; omega) (by unfold maxLen; omega)
  have CY := fun p w1 (h : p ≤ 1000) => sign_any s p (y.toNat : Int) w1 (by unfold maxLen; omega) (by unfold maxLen; omega)
  generalize (x.toNat : Int) = X at *
  generalize (y.toNat : Int) = Y at *
  have hb0 : Below w.heap.size w (w.alloc (.cells #[] 30)) := (Below.refl _ _).alloc (Nat.le_refl _) _
  have hr0 : RowI w.heap.size (w.alloc (.cells #[] 30)) (.slice (some ⟨w.heap.size, 0, none⟩) 0 0) .nil := RowI.empty (Nat.le_refl _)
  generalize hR : rdS (n + 1) s a dp X Y .nil = R
  have HR0 := Lib.hid hR
  have HB0 := Lib.hid hb0
  have HRI0 := Lib.hid hr0
  have HXX := Lib.hid CX
  have HYY := Lib.hid CY
  have HT := Lib.hid hT
  clear hb0 hr0 hR CX CY hT
  go_enter Tryz.func95, Tryz.ntmps95
  go_wp2_with fail
  generalize w.alloc (.cells #[] 30) = w1 at *
  go_loopw [1, 12] (fun i u wr => ∃ (v : Value) (m a' : Nat) (acc : Fr), v = u ∧ i = .int .i64 a' ∧ a' ≤ s.size ∧ 8 * (s.size - a') + 6 ≤ m + 1 ∧ m ≤ n ∧ acc.len ≤ a' ∧ rdS (m + 1) s a' dp X Y acc = R ∧ RowI w.heap.size wr v acc ∧ Below w.heap.size w wr) (fun i _ _ => s.size + 1 - (intOf i).toNat)
  case atStart => exact ⟨_, n, a, .nil, rfl, rfl, ha, hn, Nat.le_refl _, Nat.zero_le _, HR0.out, HRI0.out, HB0.out⟩
  case round =>
    obtain ⟨v, m, a', acc, rfl, rfl, ha1, hfu, hmn, hac, hrd, hri, hbw⟩ := hrel
    have C1 := HT.out m hmn s a' dp 3 wr hs ha1 hdp (by omega) (by omega)
    rw [rdS] at hrd
    have hpg := (rd_prog m).1 s a' dp 3
    have HBW := Lib.hid hbw
    have HRI := Lib.hid hri
    cases hq : rdT m s a' dp 3 with
    | none =>
      rw [hq] at C1 hrd
      have HR : Hid (R = none) := Lib.hid hrd.symm
      have H1 := Lib.hid C1
      clear C1 hrd hpg hq hri hbw
      go_wp2_with fail
      refine H1.out.mono ?_
      intro e w2 hr2
      obtain ⟨hb, z, hz, rfl⟩ := hr2.none_
      have HZ := Lib.hid hz
      have hzl := hz.2
      have HB2 := Lib.hid (HBW.out.trans (hb.mono HBW.out.size))
      clear hb hz hr2
      go_wp2_with fail
      go_ret2
      rw [HR.out]
      exact ⟨HB2.out.trans (((Below.refl _ _).alloc (Nat.le_refl _) _).mono HB2.out.size), z, HZ.out, rfl⟩
    | some r =>
      obtain ⟨⟨k, m1, s0, f1⟩, p⟩ := r
      have hp := hpg _ _ hq
      rw [hq] at C1 hrd
      have H1 := Lib.hid C1
      have hp1 : p ≤ 1000 := by omega
      have t8 : ¬ (p : Int) < 0 := by omega
      have C2 := fun w1 => HXX.out p w1 hp1
      have C3 := fun w1 => HYY.out p w1 hp1
      have C4 := fun w1 => sign_any s p 44 w1 (by unfold maxLen; omega) (by unfold maxLen; omega)
      have hrd2 : (if bA s p X = true ∨ bA s p Y = true then some (acc.app (.cons k m1 s0 f1 .nil), p) else if bA s p 44 = false then none else rdS m s (p + 1) dp X Y (acc.app (.cons k m1 s0 f1 .nil))) = R := hrd
      have HC44 : bA s p 44 = true → p < s.size := bA_lt
      have HPQ := Lib.hid (And.intro hp hfu)
      have HLT44 := Lib.hid HC44
      have HAL : Hid ((acc.app (.cons k m1 s0 f1 .nil)).len = acc.len + 1) := Lib.hid (by rw [Fr.len_app]; rfl)
      have HACC := Lib.hid hac
      have hal : acc.len ≤ 1000 := by omega
      change ∀ w1, Calls _ _ _ _ fun e w' => e = .returned (.bool (bA s p X)) ∧ w' = w1 at C2
      change ∀ w1, Calls _ _ _ _ fun e w' => e = .returned (.bool (bA s p Y)) ∧ w' = w1 at C3
      change ∀ w1, Calls _ _ _ _ fun e w' => e = .returned (.bool (bA s p 44)) ∧ w' = w1 at C4
      clear C1 hrd hpg hq hri hbw HC44 hac hfu hp
      cases hbx : bA s p X with
      | true =>
        have HR : Hid (R = some (acc.app (.cons k m1 s0 f1 .nil), p)) := Lib.hid (by rw [← hrd2, if_pos (.inl hbx)])
        rw [hbx] at C2
        have HX := Lib.hid C2
        clear C2 C3 C4 hrd2 hbx
        go_wp2_with fail
        refine H1.out.mono ?_
        intro e w2 hr2
        obtain ⟨hb, A1, cap1, rfl, hf, hk⟩ := hr2.some_
        have hb3 : Below w2.heap.size w2 (w2.alloc (.cells #[.int .i64 k, .int .i64 m1, .string s0, .slice A1 f1.len cap1] 30)) := (Below.refl _ _).alloc (Nat.le_refl _) _
        have hb23 := hb.trans (hb3.mono hb.size)
        have HB3 := Lib.hid (HBW.out.trans (hb23.mono HBW.out.size))
        obtain ⟨xs, ho3, hx3⟩ := HRI.out.below hb23
        have HO3 := Lib.hid ho3
        have HNEW : Hid (Blk ((w2.alloc (.cells #[.int .i64 k, .int .i64 m1, .string s0, .slice A1 f1.len cap1] 30)).alloc (.cells #[.int .i64 k, .int .i64 m1, .string s0, .slice A1 f1.len cap1] 30)) (w2.heap.size + 1) 30 #[.int .i64 k, .int .i64 m1, .string s0, .slice A1 f1.len cap1]) := Lib.hid (by
          have h := Blk.new (w2.alloc (.cells #[.int .i64 k, .int .i64 m1, .string s0, .slice A1 f1.len cap1] 30)) 30 #[.int .i64 k, .int .i64 m1, .string s0, .slice A1 f1.len cap1]
          simpa using h)
        have hq3 := Blk.new w2 30 #[.int .i64 k, .int .i64 m1, .string s0, .slice A1 f1.len cap1]
        obtain ⟨x0, x1, x2, x3⟩ := cells4i hq3
        have hvl := HRI.out
        have hk3 : KidsIn (w2.alloc (.cells #[.int .i64 k, .int .i64 m1, .string s0, .slice A1 f1.len cap1] 30)) (fun b => (w.heap.size ≤ b ∧ b < (w2.alloc (.cells #[.int .i64 k, .int .i64 m1, .string s0, .slice A1 f1.len cap1] 30)).heap.size) ∧ ∀ g, v.ownBlock = some g → b ≠ g) f1 A1 cap1 := by
          have hbs := HBW.out.size
          refine (hk.below hb3 (Nat.le_refl _)).inn.keep (fun _ _ => rfl) fun b hb' => ⟨⟨by omega, by have := hb3.size; omega⟩, fun g hg e => ?_⟩
          obtain ⟨_, ho, _⟩ := HRI.out
          have := (ho.lt g hg).2
          omega
        have HSTEP : Hid (∀ w5 g cap', (((w2.alloc (.cells #[.int .i64 k, .int .i64 m1, .string s0, .slice A1 f1.len cap1] 30)).alloc (.cells #[.int .i64 k, .int .i64 m1, .string s0, .slice A1 f1.len cap1] 30)).grownBy w5 v.ownBlock) → w5.ownsRow w.heap.size 30 4 (.slice (some ⟨g, 0, none⟩) (acc.len + 1) cap') (acc.len + 1) (xs ++ [.int .i64 k, .int .i64 m1, .string s0, .slice A1 f1.len cap1]) →
            (v.ownBlock = some g ∨ g = ((w2.alloc (.cells #[.int .i64 k, .int .i64 m1, .string s0, .slice A1 f1.len cap1] 30)).alloc (.cells #[.int .i64 k, .int .i64 m1, .string s0, .slice A1 f1.len cap1] 30)).heap.size) →
            RowI w.heap.size w5 (.slice (some ⟨g, 0, none⟩) (acc.len + 1) cap') (acc.app (.cons k m1 s0 f1 .nil)) ∧ Below w.heap.size w w5) := Lib.hid fun w5 g cap' hg ho hat => ⟨RowI.step hx3 hf hk3 ((Below.refl _ _).alloc (Nat.le_refl _) _) hg ho hat, by
              have h2 := HB3.out.trans (((Below.refl _ (w2.alloc (.cells #[.int .i64 k, .int .i64 m1, .string s0, .slice A1 f1.len cap1] 30))).alloc (Nat.le_refl _) (.cells #[.int .i64 k, .int .i64 m1, .string s0, .slice A1 f1.len cap1] 30)).mono HB3.out.size)
              exact h2.grown hg h2.size fun g' hg' => (ho3.lt g' hg').1⟩
        have hws : w.heap.size ≤ w2.heap.size := Nat.le_trans HBW.out.size hb.size
        clear hb hf hk hb3 hb23 ho3 hx3 hq3 hvl hk3 hr2
        generalize acc.len = al at *
        go_wp2_with (at_builtin; go_must (refine wpList_append_lies _ rfl _ _ _ rfl w.heap.size 30 i0 _ 4 56 Tryz.underlying28 hi0 hz0 hz1 hz2 rfl (by omega) v al xs rfl (HO3.out.alloc _) ⟨w2.heap.size + 1, 0, none⟩ 1 1 [.int .i64 k, .int .i64 m1, .string s0, .slice A1 f1.len cap1] rfl rfl (World.news_of_block (cs := #[.int .i64 k, .int .i64 m1, .string s0, .slice A1 f1.len cap1]) (fr := (0, 0)) HNEW.out) (by simp [Value.oneCell']) (by omega) (by unfold maxLen; omega) (by omega) (by simp; omega) (w2.heap.size + 1 + 1) (by simp) ?_); intro g4 cap4 w4 hown4 hgrow hat hlt4; have HS := Lib.hid (HSTEP.out w4 g4 cap4 hgrow hown4 (by simpa using hat)); clear hown4 hgrow hat)
        refine (HX.out _).mono ?_
        rintro e w9 ⟨rfl, hw⟩
        subst hw
        go_wp2_with fail
        obtain ⟨A9, cap9, e9, hk9⟩ := HS.out.1.fin
        have HK9 := Lib.hid hk9
        injection e9 with e9 e10 e11
        go_ret2
        rw [HR.out]
        exact ⟨HS.out.2, A9, cap9, by rw [← e11, e9, HAL.out]; rfl, HK9.out⟩
      | false =>
        rw [hbx] at C2
        have HX := Lib.hid C2
        cases hby : bA s p Y with
        | true =>
          have HR : Hid (R = some (acc.app (.cons k m1 s0 f1 .nil), p)) := Lib.hid (by rw [← hrd2, if_pos (.inr hby)])
          rw [hby] at C3
          have HY := Lib.hid C3
          clear C2 C3 C4 hrd2 hbx hby
          go_wp2_with fail
          refine H1.out.mono ?_
          intro e w2 hr2
          obtain ⟨hb, A1, cap1, rfl, hf, hk⟩ := hr2.some_
          have hb3 : Below w2.heap.size w2 (w2.alloc (.cells #[.int .i64 k, .int .i64 m1, .string s0, .slice A1 f1.len cap1] 30)) := (Below.refl _ _).alloc (Nat.le_refl _) _
          have hb23 := hb.trans (hb3.mono hb.size)
          have HB3 := Lib.hid (HBW.out.trans (hb23.mono HBW.out.size))
          obtain ⟨xs, ho3, hx3⟩ := HRI.out.below hb23
          have HO3 := Lib.hid ho3
          have HNEW : Hid (Blk ((w2.alloc (.cells #[.int .i64 k, .int .i64 m1, .string s0, .slice A1 f1.len cap1] 30)).alloc (.cells #[.int .i64 k, .int .i64 m1, .string s0, .slice A1 f1.len cap1] 30)) (w2.heap.size + 1) 30 #[.int .i64 k, .int .i64 m1, .string s0, .slice A1 f1.len cap1]) := Lib.hid (by
            have h := Blk.new (w2.alloc (.cells #[.int .i64 k, .int .i64 m1, .string s0, .slice A1 f1.len cap1] 30)) 30 #[.int .i64 k, .int .i64 m1, .string s0, .slice A1 f1.len cap1]
            simpa using h)
          have hq3 := Blk.new w2 30 #[.int .i64 k, .int .i64 m1, .string s0, .slice A1 f1.len cap1]
          obtain ⟨x0, x1, x2, x3⟩ := cells4i hq3
          have hvl := HRI.out
          have hk3 : KidsIn (w2.alloc (.cells #[.int .i64 k, .int .i64 m1, .string s0, .slice A1 f1.len cap1] 30)) (fun b => (w.heap.size ≤ b ∧ b < (w2.alloc (.cells #[.int .i64 k, .int .i64 m1, .string s0, .slice A1 f1.len cap1] 30)).heap.size) ∧ ∀ g, v.ownBlock = some g → b ≠ g) f1 A1 cap1 := by
            have hbs := HBW.out.size
            refine (hk.below hb3 (Nat.le_refl _)).inn.keep (fun _ _ => rfl) fun b hb' => ⟨⟨by omega, by have := hb3.size; omega⟩, fun g hg e => ?_⟩
            obtain ⟨_, ho, _⟩ := HRI.out
            have := (ho.lt g hg).2
            omega
          have HSTEP : Hid (∀ w5 g cap', (((w2.alloc (.cells #[.int .i64 k, .int .i64 m1, .string s0, .slice A1 f1.len cap1] 30)).alloc (.cells #[.int .i64 k, .int .i64 m1, .string s0, .slice A1 f1.len cap1] 30)).grownBy w5 v.ownBlock) → w5.ownsRow w.heap.size 30 4 (.slice (some ⟨g, 0, none⟩) (acc.len + 1) cap') (acc.len + 1) (xs ++ [.int .i64 k, .int .i64 m1, .string s0, .slice A1 f1.len cap1]) →
              (v.ownBlock = some g ∨ g = ((w2.alloc (.cells #[.int .i64 k, .int .i64 m1, .string s0, .slice A1 f1.len cap1] 30)).alloc (.cells #[.int .i64 k, .int .i64 m1, .string s0, .slice A1 f1.len cap1] 30)).heap.size) →
              RowI w.heap.size w5 (.slice (some ⟨g, 0, none⟩) (acc.len + 1) cap') (acc.app (.cons k m1 s0 f1 .nil)) ∧ Below w.heap.size w w5) := Lib.hid fun w5 g cap' hg ho hat => ⟨RowI.step hx3 hf hk3 ((Below.refl _ _).alloc (Nat.le_refl _) _) hg ho hat, by
                have h2 := HB3.out.trans (((Below.refl _ (w2.alloc (.cells #[.int .i64 k, .int .i64 m1, .string s0, .slice A1 f1.len cap1] 30))).alloc (Nat.le_refl _) (.cells #[.int .i64 k, .int .i64 m1, .string s0, .slice A1 f1.len cap1] 30)).mono HB3.out.size)
                exact h2.grown hg h2.size fun g' hg' => (ho3.lt g' hg').1⟩
          have hws : w.heap.size ≤ w2.heap.size := Nat.le_trans HBW.out.size hb.size
          clear hb hf hk hb3 hb23 ho3 hx3 hq3 hvl hk3 hr2
          generalize acc.len = al at *
          go_wp2_with (at_builtin; go_must (refine wpList_append_lies _ rfl _ _ _ rfl w.heap.size 30 i0 _ 4 56 Tryz.underlying28 hi0 hz0 hz1 hz2 rfl (by omega) v al xs rfl (HO3.out.alloc _) ⟨w2.heap.size + 1, 0, none⟩ 1 1 [.int .i64 k, .int .i64 m1, .string s0, .slice A1 f1.len cap1] rfl rfl (World.news_of_block (cs := #[.int .i64 k, .int .i64 m1, .string s0, .slice A1 f1.len cap1]) (fr := (0, 0)) HNEW.out) (by simp [Value.oneCell']) (by omega) (by unfold maxLen; omega) (by omega) (by simp; omega) (w2.heap.size + 1 + 1) (by simp) ?_); intro g4 cap4 w4 hown4 hgrow hat hlt4; have HS := Lib.hid (HSTEP.out w4 g4 cap4 hgrow hown4 (by simpa using hat)); clear hown4 hgrow hat)
          refine (HX.out _).mono ?_
          rintro e w9 ⟨rfl, hw⟩
          subst hw
          go_wp2_with fail
          refine (HY.out _).mono ?_
          rintro e w9 ⟨rfl, hw⟩
          subst hw
          go_wp2_with fail
          obtain ⟨A9, cap9, e9, hk9⟩ := HS.out.1.fin
          have HK9 := Lib.hid hk9
          injection e9 with e9 e10 e11
          go_ret2
          rw [HR.out]
          exact ⟨HS.out.2, A9, cap9, by rw [← e11, e9, HAL.out]; rfl, HK9.out⟩
        | false =>
          rw [hby] at C3
          have HY := Lib.hid C3
          rw [if_neg (by rw [hbx, hby]; simp)] at hrd2
          cases hbc : bA s p 44 with
          | false =>
            have HR : Hid (R = none) := Lib.hid (by rw [← hrd2, if_pos hbc])
            rw [hbc] at C4
            have HC := Lib.hid C4
            clear C2 C3 C4 hrd2 hbx hby hbc
            go_wp2_with fail
            refine H1.out.mono ?_
            intro e w2 hr2
            obtain ⟨hb, A1, cap1, rfl, hf, hk⟩ := hr2.some_
            have hb3 : Below w2.heap.size w2 (w2.alloc (.cells #[.int .i64 k, .int .i64 m1, .string s0, .slice A1 f1.len cap1] 30)) := (Below.refl _ _).alloc (Nat.le_refl _) _
            have hb23 := hb.trans (hb3.mono hb.size)
            have HB3 := Lib.hid (HBW.out.trans (hb23.mono HBW.out.size))
            obtain ⟨xs, ho3, hx3⟩ := HRI.out.below hb23
            have HO3 := Lib.hid ho3
            have HNEW : Hid (Blk ((w2.alloc (.cells #[.int .i64 k, .int .i64 m1, .string s0, .slice A1 f1.len cap1] 30)).alloc (.cells #[.int .i64 k, .int .i64 m1, .string s0, .slice A1 f1.len cap1] 30)) (w2.heap.size + 1) 30 #[.int .i64 k, .int .i64 m1, .string s0, .slice A1 f1.len cap1]) := Lib.hid (by
              have h := Blk.new (w2.alloc (.cells #[.int .i64 k, .int .i64 m1, .string s0, .slice A1 f1.len cap1] 30)) 30 #[.int .i64 k, .int .i64 m1, .string s0, .slice A1 f1.len cap1]
              simpa using h)
            have hq3 := Blk.new w2 30 #[.int .i64 k, .int .i64 m1, .string s0, .slice A1 f1.len cap1]
            obtain ⟨x0, x1, x2, x3⟩ := cells4i hq3
            have hvl := HRI.out
            have hk3 : KidsIn (w2.alloc (.cells #[.int .i64 k, .int .i64 m1, .string s0, .slice A1 f1.len cap1] 30)) (fun b => (w.heap.size ≤ b ∧ b < (w2.alloc (.cells #[.int .i64 k, .int .i64 m1, .string s0, .slice A1 f1.len cap1] 30)).heap.size) ∧ ∀ g, v.ownBlock = some g → b ≠ g) f1 A1 cap1 := by
              have hbs := HBW.out.size
              refine (hk.below hb3 (Nat.le_refl _)).inn.keep (fun _ _ => rfl) fun b hb' => ⟨⟨by omega, by have := hb3.size; omega⟩, fun g hg e => ?_⟩
              obtain ⟨_, ho, _⟩ := HRI.out
              have := (ho.lt g hg).2
              omega
            have HSTEP : Hid (∀ w5 g cap', (((w2.alloc (.cells #[.int .i64 k, .int .i64 m1, .string s0, .slice A1 f1.len cap1] 30)).alloc (.cells #[.int .i64 k, .int .i64 m1, .string s0, .slice A1 f1.len cap1] 30)).grownBy w5 v.ownBlock) → w5.ownsRow w.heap.size 30 4 (.slice (some ⟨g, 0, none⟩) (acc.len + 1) cap') (acc.len + 1) (xs ++ [.int .i64 k, .int .i64 m1, .string s0, .slice A1 f1.len cap1]) →
                (v.ownBlock = some g ∨ g = ((w2.alloc (.cells #[.int .i64 k, .int .i64 m1, .string s0, .slice A1 f1.len cap1] 30)).alloc (.cells #[.int .i64 k, .int .i64 m1, .string s0, .slice A1 f1.len cap1] 30)).heap.size) →
                RowI w.heap.size w5 (.slice (some ⟨g, 0, none⟩) (acc.len + 1) cap') (acc.app (.cons k m1 s0 f1 .nil)) ∧ Below w.heap.size w w5) := Lib.hid fun w5 g cap' hg ho hat => ⟨RowI.step hx3 hf hk3 ((Below.refl _ _).alloc (Nat.le_refl _) _) hg ho hat, by
                  have h2 := HB3.out.trans (((Below.refl _ (w2.alloc (.cells #[.int .i64 k, .int .i64 m1, .string s0, .slice A1 f1.len cap1] 30))).alloc (Nat.le_refl _) (.cells #[.int .i64 k, .int .i64 m1, .string s0, .slice A1 f1.len cap1] 30)).mono HB3.out.size)
                  exact h2.grown hg h2.size fun g' hg' => (ho3.lt g' hg').1⟩
            have hws : w.heap.size ≤ w2.heap.size := Nat.le_trans HBW.out.size hb.size
            clear hb hf hk hb3 hb23 ho3 hx3 hq3 hvl hk3 hr2
            generalize acc.len = al at *
            go_wp2_with (at_builtin; go_must (refine wpList_append_lies _ rfl _ _ _ rfl w.heap.size 30 i0 _ 4 56 Tryz.underlying28 hi0 hz0 hz1 hz2 rfl (by omega) v al xs rfl (HO3.out.alloc _) ⟨w2.heap.size + 1, 0, none⟩ 1 1 [.int .i64 k, .int .i64 m1, .string s0, .slice A1 f1.len cap1] rfl rfl (World.news_of_block (cs := #[.int .i64 k, .int .i64 m1, .string s0, .slice A1 f1.len cap1]) (fr := (0, 0)) HNEW.out) (by simp [Value.oneCell']) (by omega) (by unfold maxLen; omega) (by omega) (by simp; omega) (w2.heap.size + 1 + 1) (by simp) ?_); intro g4 cap4 w4 hown4 hgrow hat hlt4; have HS := Lib.hid (HSTEP.out w4 g4 cap4 hgrow hown4 (by simpa using hat)); clear hown4 hgrow hat)
            refine (HX.out _).mono ?_
            rintro e w9 ⟨rfl, hw⟩
            subst hw
            go_wp2_with fail
            refine (HY.out _).mono ?_
            rintro e w9 ⟨rfl, hw⟩
            subst hw
            go_wp2_with fail
            refine (HC.out _).mono ?_
            rintro e w9 ⟨rfl, hw⟩
            subst hw
            go_wp2_with fail
            go_ret2
            rw [HR.out]
            exact ⟨HS.out.2, -1 - (p : Int), ⟨by omega, by omega⟩, rfl⟩
          | true =>
            have hps := HLT44.out hbc
            have hrd3 : rdS m s (p + 1) dp X Y (acc.app (.cons k m1 s0 f1 .nil)) = R := by rw [← hrd2, if_neg (by rw [hbc]; decide)]
            obtain ⟨m', rfl⟩ : ∃ m', m = m' + 1 := ⟨m - 1, by have := HPQ.out; omega⟩
            have HR := Lib.hid hrd3
            rw [hbc] at C4
            have HC := Lib.hid C4
            clear C2 C3 C4 hrd2 hrd3 hbx hby hbc
            go_wp2_with fail
            refine H1.out.mono ?_
            intro e w2 hr2
            obtain ⟨hb, A1, cap1, rfl, hf, hk⟩ := hr2.some_
            have hb3 : Below w2.heap.size w2 (w2.alloc (.cells #[.int .i64 k, .int .i64 m1, .string s0, .slice A1 f1.len cap1] 30)) := (Below.refl _ _).alloc (Nat.le_refl _) _
            have hb23 := hb.trans (hb3.mono hb.size)
            have HB3 := Lib.hid (HBW.out.trans (hb23.mono HBW.out.size))
            obtain ⟨xs, ho3, hx3⟩ := HRI.out.below hb23
            have HO3 := Lib.hid ho3
            have HNEW : Hid (Blk ((w2.alloc (.cells #[.int .i64 k, .int .i64 m1, .string s0, .slice A1 f1.len cap1] 30)).alloc (.cells #[.int .i64 k, .int .i64 m1, .string s0, .slice A1 f1.len cap1] 30)) (w2.heap.size + 1) 30 #[.int .i64 k, .int .i64 m1, .string s0, .slice A1 f1.len cap1]) := Lib.hid (by
              have h := Blk.new (w2.alloc (.cells #[.int .i64 k, .int .i64 m1, .string s0, .slice A1 f1.len cap1] 30)) 30 #[.int .i64 k, .int .i64 m1, .string s0, .slice A1 f1.len cap1]
              simpa using h)
            have hq3 := Blk.new w2 30 #[.int .i64 k, .int .i64 m1, .string s0, .slice A1 f1.len cap1]
            obtain ⟨x0, x1, x2, x3⟩ := cells4i hq3
            have hvl := HRI.out
            have hk3 : KidsIn (w2.alloc (.cells #[.int .i64 k, .int .i64 m1, .string s0, .slice A1 f1.len cap1] 30)) (fun b => (w.heap.size ≤ b ∧ b < (w2.alloc (.cells #[.int .i64 k, .int .i64 m1, .string s0, .slice A1 f1.len cap1] 30)).heap.size) ∧ ∀ g, v.ownBlock = some g → b ≠ g) f1 A1 cap1 := by
              have hbs := HBW.out.size
              refine (hk.below hb3 (Nat.le_refl _)).inn.keep (fun _ _ => rfl) fun b hb' => ⟨⟨by omega, by have := hb3.size; omega⟩, fun g hg e => ?_⟩
              obtain ⟨_, ho, _⟩ := HRI.out
              have := (ho.lt g hg).2
              omega
            have HSTEP : Hid (∀ w5 g cap', (((w2.alloc (.cells #[.int .i64 k, .int .i64 m1, .string s0, .slice A1 f1.len cap1] 30)).alloc (.cells #[.int .i64 k, .int .i64 m1, .string s0, .slice A1 f1.len cap1] 30)).grownBy w5 v.ownBlock) → w5.ownsRow w.heap.size 30 4 (.slice (some ⟨g, 0, none⟩) (acc.len + 1) cap') (acc.len + 1) (xs ++ [.int .i64 k, .int .i64 m1, .string s0, .slice A1 f1.len cap1]) →
                (v.ownBlock = some g ∨ g = ((w2.alloc (.cells #[.int .i64 k, .int .i64 m1, .string s0, .slice A1 f1.len cap1] 30)).alloc (.cells #[.int .i64 k, .int .i64 m1, .string s0, .slice A1 f1.len cap1] 30)).heap.size) →
                RowI w.heap.size w5 (.slice (some ⟨g, 0, none⟩) (acc.len + 1) cap') (acc.app (.cons k m1 s0 f1 .nil)) ∧ Below w.heap.size w w5) := Lib.hid fun w5 g cap' hg ho hat => ⟨RowI.step hx3 hf hk3 ((Below.refl _ _).alloc (Nat.le_refl _) _) hg ho hat, by
                  have h2 := HB3.out.trans (((Below.refl _ (w2.alloc (.cells #[.int .i64 k, .int .i64 m1, .string s0, .slice A1 f1.len cap1] 30))).alloc (Nat.le_refl _) (.cells #[.int .i64 k, .int .i64 m1, .string s0, .slice A1 f1.len cap1] 30)).mono HB3.out.size)
                  exact h2.grown hg h2.size fun g' hg' => (ho3.lt g' hg').1⟩
            have hws : w.heap.size ≤ w2.heap.size := Nat.le_trans HBW.out.size hb.size
            clear hb hf hk hb3 hb23 ho3 hx3 hq3 hvl hk3 hr2
            generalize acc.len = al at *
            go_wp2_with (at_builtin; go_must (refine wpList_append_lies _ rfl _ _ _ rfl w.heap.size 30 i0 _ 4 56 Tryz.underlying28 hi0 hz0 hz1 hz2 rfl (by omega) v al xs rfl (HO3.out.alloc _) ⟨w2.heap.size + 1, 0, none⟩ 1 1 [.int .i64 k, .int .i64 m1, .string s0, .slice A1 f1.len cap1] rfl rfl (World.news_of_block (cs := #[.int .i64 k, .int .i64 m1, .string s0, .slice A1 f1.len cap1]) (fr := (0, 0)) HNEW.out) (by simp [Value.oneCell']) (by omega) (by unfold maxLen; omega) (by omega) (by simp; omega) (w2.heap.size + 1 + 1) (by simp) ?_); intro g4 cap4 w4 hown4 hgrow hat hlt4; have HS := Lib.hid (HSTEP.out w4 g4 cap4 hgrow hown4 (by simpa using hat)); clear hown4 hgrow hat)
            refine (HX.out _).mono ?_
            rintro e w9 ⟨rfl, hw⟩
            subst hw
            go_wp2_with fail
            refine (HY.out _).mono ?_
            rintro e w9 ⟨rfl, hw⟩
            subst hw
            go_wp2_with fail
            refine (HC.out _).mono ?_
            rintro e w9 ⟨rfl, hw⟩
            subst hw
            go_wp2_with fail
            go_roundw
            case rel => exact ⟨_, m', p + 1, acc.app (.cons k m1 s0 f1 .nil), rfl, by go_num, by omega, by have := HPQ.out; omega, by omega, by have := HAL.out; have := HACC.out; have := HPQ.out; omega, HR.out, HS.out.1, HS.out.2⟩
            case measure => have := HPQ.out; simp [intOf]; omega
end Go.Proofs.YtihmgodiiohdnaaGreatDoor.rdr

/- spec.l2Read; the model's reader put together. Condition: the text is not longer than 1000 bytes. -/
namespace Go.Proofs.YtihmgodiiohdnaaGreatDoor.rdr
open Go.RowKit

theorem rdT_pos (n : Nat) (s : ByteArray) (a dp L : Nat) (h : 1 ≤ L) : rdT (n + 1) s a dp L = (match rdT n s a dp (L - 1) with | none => none | some (t, e) => rdL n s dp L t e) := by
  obtain ⟨l, rfl⟩ : ∃ l, L = l + 1 := ⟨L - 1, by omega⟩
  rw [rdT]
  rfl
theorem opR_fits (s : ByteArray) (a : Nat) : Fits 3 0 (opR s a).1 := by
  have h0 : Fits 3 0 ⟨#[]⟩ := ⟨by omega, by omega, by unfold maxLen; decide⟩
  have hA : ∀ sp f, Fits 3 0 (opA s a sp f).1 := fun sp f => by
    unfold opA
    split
    · exact h0
    · split
      · exact h0
      · split
        · exact h0
        · rename_i h1
          split
          · exact h0
          · split
            · exact h0
            · refine ⟨by omega, by omega, ?_⟩
              obtain ⟨r, hr, he⟩ : ∃ r ∈ op.tab, r.1 = (nmS s f).data.toList := by
                by_cases hx : ∃ r ∈ op.tab, r.1 = (nmS s f).data.toList
                · exact hx
                · exact absurd (op.level_no _ fun r hr e => hx ⟨r, hr, e⟩) h1
              have h2 : ∀ r ∈ op.tab, r.1.length ≤ 3 := by decide
              have h3 := h2 r hr
              rw [he] at h3
              show (nmS s f).data.toList.length ≤ maxLen
              unfold maxLen; omega
  unfold opR
  split <;> exact hA _ _
/-- The state of the loop: the term that is read so far lies in block H. -/
def ReQ (w : World) (H : Nat) (k n : Int) (s : ByteArray) (f : Fr) (A : Option Addr) (cap : Nat) (wr : World) : Prop :=
  Blk wr w.heap.size 30 #[.int .i64 0, .int .i64 0, .string ⟨#[]⟩, .slice none 0 0] ∧ Blk wr H 30 #[.int .i64 k, .int .i64 n, .string s, .slice A f.len cap] ∧ Fits k n s ∧
  KidsIn wr (fun b => (w.heap.size + 1 ≤ b ∧ b < wr.heap.size) ∧ b ≠ H) f A cap ∧ Below w.heap.size w wr ∧ w.heap.size + 1 ≤ H
theorem ReQ.below {w wr w1 : World} {H : Nat} {k n : Int} {s : ByteArray} {f : Fr} {A : Option Addr} {cap : Nat} (h : ReQ w H k n s f A cap wr) (hb : Below wr.heap.size wr w1) : ReQ w H k n s f A cap w1 := by
  obtain ⟨b0, b1, hf, hk, hbw, hH⟩ := h
  exact ⟨b0.below hb b0.lt, b1.below hb b1.lt, hf, hk.keep (fun p hp => hb.cell hp.1.2) (fun b hb' => ⟨⟨hb'.1.1, Nat.lt_of_lt_of_le hb'.1.2 hb.size⟩, hb'.2⟩), hbw.trans (hb.mono hbw.size), hH⟩
theorem ReQ.kids {w wr : World} {H : Nat} {k n : Int} {s : ByteArray} {f : Fr} {A : Option Addr} {cap : Nat} (h : ReQ w H k n s f A cap wr) : KidsAt wr (w.heap.size + 1) wr.heap.size f A cap := h.2.2.2.1.out fun _ hb => hb.1
theorem ReQ.step {w w6 w7 w8 : World} {H : Nat} {k n : Int} {s : ByteArray} {f : Fr} {A : Option Addr} {cap : Nat} {k2 n2 : Int} {s2 : ByteArray} {f2 : Fr} {A2 : Option Addr} {cap2 g cap4 : Nat} {nm : ByteArray}
    (h : ReQ w H k n s f A cap w6) (hf2 : Fits k2 n2 s2) (hk2 : KidsIn w6 (fun b => (w.heap.size + 1 ≤ b ∧ b < w6.heap.size) ∧ b ≠ H) f2 A2 cap2) (hnm : Fits 3 0 nm) (hb2 : Below w6.heap.size w6 w7) (hb3 : Below w7.heap.size w7 w8)
    (ho : w8.ownsRow (w7.heap.size + 1) 30 4 (.slice (some ⟨g, 0, none⟩) 2 cap4) 2 [.int .i64 k, .int .i64 n, .string s, .slice A f.len cap, .int .i64 k2, .int .i64 n2, .string s2, .slice A2 f2.len cap2]) :
    ReQ w H 3 0 nm (.cons k n s f (.cons k2 n2 s2 f2 .nil)) (some ⟨g, 0, none⟩) cap4 ((((w8.setCell ⟨H, 0, none⟩ (.int .i64 3)).setCell ⟨H, 1, none⟩ (.int .i64 0)).setCell ⟨H, 2, none⟩ (.string nm)).setCell ⟨H, 3, none⟩ (.slice (some ⟨g, 0, none⟩) 2 cap4)) := by
  obtain ⟨b0, b1, hf, hk, hb, hH⟩ := h
  have h68 : Below w6.heap.size w6 w8 := hb2.trans (hb3.mono hb2.size)
  have hs2 := hb2.size
  have hs3 := hb3.size
  have hs := hb.size
  have l1 := b1.lt
  have l0 := b0.lt
  have hne : w.heap.size ≠ H := by omega
  have q0 := ((((b0.below h68 l0).far (p := ⟨H, 0, none⟩) hne (.int .i64 3)).far (p := ⟨H, 1, none⟩) hne (.int .i64 0)).far (p := ⟨H, 2, none⟩) hne (.string nm)).far (p := ⟨H, 3, none⟩) hne (.slice (some ⟨g, 0, none⟩) 2 cap4)
  have q1 := ((((b1.below h68 l1).set_ 0 (.int .i64 3)).set_ 1 (.int .i64 0)).set_ 2 (.string nm)).set_ 3 (.slice (some ⟨g, 0, none⟩) 2 cap4)
  have hbw : Below w.heap.size w ((((w8.setCell ⟨H, 0, none⟩ (.int .i64 3)).setCell ⟨H, 1, none⟩ (.int .i64 0)).setCell ⟨H, 2, none⟩ (.string nm)).setCell ⟨H, 3, none⟩ (.slice (some ⟨g, 0, none⟩) 2 cap4)) :=
    ((((hb.trans (h68.mono hb.size)).setCell (p := ⟨H, 0, none⟩) (by simp; omega) _).setCell (p := ⟨H, 1, none⟩) (by simp; omega) _).setCell (p := ⟨H, 2, none⟩) (by simp; omega) _).setCell (p := ⟨H, 3, none⟩) (by simp; omega) _
  have far : ∀ p : Addr, p.block ≠ H → ((((w8.setCell ⟨H, 0, none⟩ (.int .i64 3)).setCell ⟨H, 1, none⟩ (.int .i64 0)).setCell ⟨H, 2, none⟩ (.string nm)).setCell ⟨H, 3, none⟩ (.slice (some ⟨g, 0, none⟩) 2 cap4)).cell? p = w8.cell? p := fun p hne => far4 hne _ _ _ _
  have hsz : ((((w8.setCell ⟨H, 0, none⟩ (.int .i64 3)).setCell ⟨H, 1, none⟩ (.int .i64 0)).setCell ⟨H, 2, none⟩ (.string nm)).setCell ⟨H, 3, none⟩ (.slice (some ⟨g, 0, none⟩) 2 cap4)).heap.size = w8.heap.size := by simp [World.setCell]
  have hcells := World.ownsRow.cells ho (g := g) rfl
  have hgl := ho.lt g rfl
  have hcap : 2 ≤ cap4 ∧ cap4 ≤ maxLen := by
    rcases ho.2 with ⟨h, _⟩ | ⟨g', cap', cur, h', _, _, h2, h3, _⟩
    · simp at h
    · injection h' with _ _ h'
      subst h'
      exact ⟨h2, h3⟩
  generalize (((w8.setCell ⟨H, 0, none⟩ (.int .i64 3)).setCell ⟨H, 1, none⟩ (.int .i64 0)).setCell ⟨H, 2, none⟩ (.string nm)).setCell ⟨H, 3, none⟩ (.slice (some ⟨g, 0, none⟩) 2 cap4) = w9 at *
  have cell : ∀ j u, [Value.int .i64 k, .int .i64 n, .string s, .slice A f.len cap, .int .i64 k2, .int .i64 n2, .string s2, .slice A2 f2.len cap2][j]? = some u → w9.cell? ⟨g, j, none⟩ = some u := fun j u hu => by
    have e : (⟨g, 0, none⟩ : Addr).add j = ⟨g, j, none⟩ := by unfold Addr.add; split <;> simp_all
    rw [far _ (by simp; omega), ← e]
    exact hcells j u hu
  have e1 : KidsIn w9 (fun b => (w.heap.size + 1 ≤ b ∧ b < w9.heap.size) ∧ b ≠ H) f A cap := hk.keep (fun p hp => (far p hp.2).trans (h68.cell hp.1.2)) fun b hb => ⟨⟨hb.1.1, by have := hb.1.2; omega⟩, hb.2⟩
  have e2 : KidsIn w9 (fun b => (w.heap.size + 1 ≤ b ∧ b < w9.heap.size) ∧ b ≠ H) f2 A2 cap2 := hk2.keep (fun p hp => (far p hp.2).trans (h68.cell hp.1.2)) fun b hb => ⟨⟨hb.1.1, by have := hb.1.2; omega⟩, hb.2⟩
  refine ⟨q0, q1, hnm, ⟨hcap.1, hcap.2, fun _ => ⟨g, 0, rfl, ⟨⟨by omega, by omega⟩, by omega⟩, ?_⟩⟩, hbw, hH⟩
  exact RowIn.cons hf (cell 0 _ rfl) (cell 1 _ rfl) (cell 2 _ rfl) (cell 3 _ rfl) e1 (RowIn.cons hf2 (cell 4 _ rfl) (cell 5 _ rfl) (cell 6 _ rfl) (cell 7 _ rfl) e2 trivial)
set_option maxRecDepth 100000 in
set_option maxHeartbeats 8000000 in
theorem re_zero (n : Nat) (hP : PC n) (s : ByteArray) (a dp : Nat) (w : World) (hs : s.size ≤ 1000) (ha : a ≤ s.size) (hdp : dp ≤ 30) (hn : 8 * (s.size - a) + 1 ≤ n) :
    Calls Tryz.prog 62 #[.string s, .int .i64 a, .int .i64 dp, .int .i64 0] w fun e w' => RdR w (rdP n s a dp) e w' := by
  have hb0 : Below w.heap.size w (w.alloc (.cells #[.int .i64 0, .int .i64 0, .string ⟨#[]⟩, .slice none 0 0] 30)) := (Below.refl _ _).alloc (Nat.le_refl _) _
  have hq0 := Blk.new w 30 #[.int .i64 0, .int .i64 0, .string ⟨#[]⟩, .slice none 0 0]
  have hs0 : (w.alloc (.cells #[.int .i64 0, .int .i64 0, .string ⟨#[]⟩, .slice none 0 0] 30)).heap.size = w.heap.size + 1 := by simp
  have HB0 := Lib.hid hb0
  have HQ0 := Lib.hid hq0
  have HS0 := Lib.hid hs0
  clear hb0 hq0 hs0
  have C1 := hP s a dp (w.alloc (.cells #[.int .i64 0, .int .i64 0, .string ⟨#[]⟩, .slice none 0 0] 30)) hs ha hdp hn
  cases hq : rdP n s a dp with
  | none =>
    rw [hq] at C1
    have H1 := Lib.hid C1
    clear C1 hq hP
    go_enter Tryz.func62, Tryz.ntmps62
    go_wp2_with fail
    refine H1.out.mono ?_
    intro e w2 hr2
    obtain ⟨hb, z, hz, rfl⟩ := hr2.none_
    have HZ := Lib.hid hz
    have hzl := hz.2
    have HB2 := Lib.hid (HB0.out.trans (hb.mono HB0.out.size))
    have HQ2 := Lib.hid (HQ0.out.below hb HQ0.out.lt)
    clear hb hz
    have hl2 := HQ2.out.lt
    obtain ⟨d0, d1, d2, d3⟩ := cells4i HQ2.out
    obtain ⟨f0, f1, f2, f3⟩ := frozen4 HQ2.out
    go_wp2_with fail
    refine bodyPost_ret (v := .tuple #[.agg #[.int .i64 0, .int .i64 0, .string ⟨#[]⟩, .slice none 0 0], .int .i64 z]) ?_ rfl (RdR.fin0 HB2.out HZ.out _ _ _ _)
    exact results_cell_row2 Tryz.results62 _ _ w.heap.size _ _ _ _ rfl (rset4 HQ2.out _ _ _ _) Tryz.underlying30 rfl (by kernel_rfl)
  | some r =>
    obtain ⟨⟨k, m, s0, f⟩, p⟩ := r
    rw [hq] at C1
    have H1 := Lib.hid C1
    clear C1 hq hP
    go_enter Tryz.func62, Tryz.ntmps62
    go_wp2_with fail
    refine H1.out.mono ?_
    intro e w2 hr2
    obtain ⟨hb, A, cap, rfl, hf, hk⟩ := hr2.some_
    have HF := Lib.hid hf
    have HB2 := Lib.hid (HB0.out.trans (hb.mono HB0.out.size))
    have HQ2 := Lib.hid (HQ0.out.below hb HQ0.out.lt)
    have HK2 := Lib.hid (hk.more (Nat.le_of_eq HS0.out.symm) (Nat.le_refl _))
    clear hb hf hk
    obtain ⟨d0, d1, d2, d3⟩ := cells4i HQ2.out
    obtain ⟨f0, f1, f2, f3⟩ := frozen4 HQ2.out
    go_wp2_with fail
    refine bodyPost_ret (v := .tuple #[.agg #[.int .i64 k, .int .i64 m, .string s0, .slice A f.len cap], .int .i64 (p : Int)]) ?_ rfl (RdR.fin (p := p) HB2.out HF.out HK2.out _ _ _ _)
    exact results_cell_row2 Tryz.results62 _ _ w.heap.size _ _ _ _ rfl (rset4 HQ2.out _ _ _ _) Tryz.underlying30 rfl (by kernel_rfl)
set_option maxRecDepth 100000 in
set_option maxHeartbeats 8000000 in
theorem tc_step (n : Nat) (hP : PC n) (hT : ∀ m, m ≤ n → TC m) : TC (n + 1) := by
  intro s a dp lv w hs ha hdp hlv hn
  by_cases hz : lv = 0
  · subst hz
    have h := re_zero n hP s a dp w hs ha hdp (by omega)
    rw [rdT]
    exact h
  have hL1 : 1 ≤ lv := by omega
  rw [rdT_pos n s a dp lv hL1]
  generalize hLL : lv = L at *
  clear hLL hz
  have hb0 : Below w.heap.size w (w.alloc (.cells #[.int .i64 0, .int .i64 0, .string ⟨#[]⟩, .slice none 0 0] 30)) := (Below.refl _ _).alloc (Nat.le_refl _) _
  have hq0 := Blk.new w 30 #[.int .i64 0, .int .i64 0, .string ⟨#[]⟩, .slice none 0 0]
  have hs0 : (w.alloc (.cells #[.int .i64 0, .int .i64 0, .string ⟨#[]⟩, .slice none 0 0] 30)).heap.size = w.heap.size + 1 := by simp
  have HB0 := Lib.hid hb0
  have HQ0 := Lib.hid hq0
  have HS0 := Lib.hid hs0
  clear hb0 hq0 hs0
  have C1 := hT n (Nat.le_refl _) s a dp (L - 1) (w.alloc (.cells #[.int .i64 0, .int .i64 0, .string ⟨#[]⟩, .slice none 0 0] 30)) hs ha hdp (by omega) (by omega)
  rw [show ((L - 1 : Nat) : Int) = (L : Int) - 1 by omega] at C1
  have tL : ((L : Int) == 0) = false := by rw [beq_eq_false_iff_ne]; omega
  have hpg := (rd_prog n).1 s a dp (L - 1)
  cases hq : rdT n s a dp (L - 1) with
  | none =>
    rw [hq] at C1
    have H1 := Lib.hid C1
    clear C1 hq hpg hP hT
    show Calls Tryz.prog 62 #[.string s, .int .i64 a, .int .i64 dp, .int .i64 L] w fun e w' => RdR w  none e w'
    go_enter Tryz.func62, Tryz.ntmps62
    go_wp2_with fail
    refine H1.out.mono ?_
    intro e w2 hr2
    obtain ⟨hb, z, hz, rfl⟩ := hr2.none_
    have HZ := Lib.hid hz
    have hzl := hz.2
    have hb3 : Below w2.heap.size w2 (w2.alloc (.cells #[.int .i64 0, .int .i64 0, .string ⟨#[]⟩, .slice none 0 0] 30)) := (Below.refl _ _).alloc (Nat.le_refl _) _
    have hb23 := hb.trans (hb3.mono hb.size)
    have HB3 := Lib.hid (HB0.out.trans (hb23.mono HB0.out.size))
    have HQ3 := Lib.hid (HQ0.out.below hb23 HQ0.out.lt)
    clear hb hz hb3 hb23 hr2
    go_wp2_with fail
    generalize w2.alloc (.cells #[.int .i64 0, .int .i64 0, .string ⟨#[]⟩, .slice none 0 0] 30) = w3 at *
    go_loopw [11] (fun i wr => i = .int .i64 z ∧ wr = w3) (fun _ _ => 0)
    case atStart => exact ⟨rfl, rfl⟩
    case round =>
      obtain ⟨rfl, rfl⟩ := hrel
      have HB2 := HB3
      have HQ2 := HQ3
      obtain ⟨d0, d1, d2, d3⟩ := cells4i HQ2.out
      obtain ⟨f0, f1, f2, f3⟩ := frozen4 HQ2.out
      go_wp2_with fail
      refine bodyPost_ret (v := .tuple #[.agg #[.int .i64 0, .int .i64 0, .string ⟨#[]⟩, .slice none 0 0], .int .i64 z]) ?_ rfl (RdR.fin0 HB2.out HZ.out _ _ _ _)
      exact results_cell_row2 Tryz.results62 _ _ w.heap.size _ _ _ _ rfl (rset4 HQ2.out _ _ _ _) Tryz.underlying30 rfl (by kernel_rfl)
  | some r =>
    obtain ⟨⟨k, m1, s0, f⟩, p⟩ := r
    have hp := hpg _ _ hq
    rw [hq] at C1
    have H1 := Lib.hid C1
    show Calls Tryz.prog 62 #[.string s, .int .i64 a, .int .i64 dp, .int .i64 L] w fun e w' => RdR w  (rdL n s dp L (k, m1, s0, f) p) e w'
    generalize hR : rdL n s dp L (k, m1, s0, f) p = R
    have HR0 := Lib.hid hR
    have HT := Lib.hid hT
    clear C1 hq hpg hP hT hR
    go_enter Tryz.func62, Tryz.ntmps62
    go_wp2_with fail
    refine H1.out.mono ?_
    intro e w2 hr2
    obtain ⟨hb, A, cap, rfl, hf, hk⟩ := hr2.some_
    have hb3 : Below w2.heap.size w2 (w2.alloc (.cells #[.int .i64 k, .int .i64 m1, .string s0, .slice A f.len cap] 30)) := (Below.refl _ _).alloc (Nat.le_refl _) _
    have hb23 := hb.trans (hb3.mono hb.size)
    have hreq : ReQ w w2.heap.size k m1 s0 f A cap (w2.alloc (.cells #[.int .i64 k, .int .i64 m1, .string s0, .slice A f.len cap] 30)) :=
      ⟨HQ0.out.below hb23 HQ0.out.lt, Blk.new w2 _ _, hf, (hk.below hb3 (Nat.le_refl _)).inn.keep (fun _ _ => rfl) (fun b hb' => ⟨⟨by have := HS0.out; omega, by have := hb3.size; omega⟩, by omega⟩), HB0.out.trans (hb23.mono HB0.out.size), by have := HS0.out; have := hb.size; omega⟩
    have HREQ := Lib.hid hreq
    clear hb hf hk hb3 hb23 hr2 hreq
    go_wp2_with fail
    generalize w2.alloc (.cells #[.int .i64 k, .int .i64 m1, .string s0, .slice A f.len cap] 30) = w3 at *
    generalize w2.heap.size = H at *
    go_loopw [11] (fun i wr => ∃ (m p : Nat) (k m1 : Int) (s0 : ByteArray) (f : Fr) (A : Option Addr) (cap : Nat), i = .int .i64 p ∧ p ≤ s.size ∧ 8 * (s.size - p) + L + 3 ≤ m + 1 ∧ m ≤ n ∧ rdL (m + 1) s dp L (k, m1, s0, f) p = R ∧ ReQ w H k m1 s0 f A cap wr) (fun i _ => s.size + 1 - (intOf i).toNat)
    case atStart =>
      obtain ⟨n', rfl⟩ : ∃ n', n = n' + 1 := ⟨n - 1, by omega⟩
      exact ⟨n', p, k, m1, s0, f, A, cap, rfl, hp.2, by omega, Nat.le_succ _, HR0.out, HREQ.out⟩
    case round =>
      clear HREQ HR0 hp
      obtain ⟨m, p, k, m1, s0, f, A, cap, rfl, hp1, hfu, hmn, hrd, hreq⟩ := hrel
      have HREQ := Lib.hid hreq
      have t8 : (p : Int) ≥ 0 := by omega
      have COP := l2op_any s p wr (by omega) hp1
      have CLV := fun w1 => op.l2_any (opR s p).1 w1
      rw [rdL] at hrd
      have hog := opR_prog (s := s) (a := p)
      have hons := opR_fits s p
      generalize opR s p = o at *
      obtain ⟨nm, o⟩ := o
      simp only at hrd hog COP CLV hons
      have HOP := Lib.hid COP
      have HFN := Lib.hid hons
      clear COP hons hreq
      by_cases c1 : nm.size = 0
      · have HR : Hid (R = some ((k, m1, s0, f), p)) := Lib.hid (by rw [← hrd, if_pos (.inl c1)])
        have t1 : (nm.toList == []) = true := by
          rw [beq_iff_eq, ByteArray.toList_eq]
          exact List.length_eq_zero_iff.1 c1
        clear CLV hrd hog c1
        go_wp2_with fail
        refine (HOP.out).mono ?_
        rintro e w4 ⟨rfl, hb⟩
        have HRE := Lib.hid (HREQ.out.below hb)
        clear hb HREQ
        obtain ⟨x0, x1, x2, x3⟩ := cells4i HRE.out.2.1
        obtain ⟨d0, d1, d2, d3⟩ := cells4i HRE.out.1
        obtain ⟨f0, f1', f2', f3'⟩ := frozen4 HRE.out.1
        go_wp2_with fail
        refine bodyPost_ret (v := .tuple #[.agg #[.int .i64 k, .int .i64 m1, .string s0, .slice A f.len cap], .int .i64 (p : Int)]) ?_ rfl (by rw [HR.out]; exact RdR.fin (p := p) HRE.out.2.2.2.2.1 HRE.out.2.2.1 HRE.out.kids _ _ _ _)
        exact results_cell_row2 Tryz.results62 _ _ w.heap.size _ _ _ _ rfl (rset4 HRE.out.1 _ _ _ _) Tryz.underlying30 rfl (by kernel_rfl)
      · have hnl : nm.toList ≠ [] := by
          intro e
          rw [ByteArray.toList_eq] at e
          exact c1 (List.length_eq_zero_iff.2 e)
        have t1 : (nm.toList == []) = false := by rw [beq_eq_false_iff_ne]; exact hnl
        have hog' := hog c1
        generalize hlvl : op.level nm.data.toList = v at *
        have HLV := Lib.hid CLV
        clear CLV hnl hlvl
        by_cases c2 : v = (L : Int)
        · have t2 : (v != (L : Int)) = false := by rw [c2]; simp
          rw [if_neg (by rintro (h | h); exact c1 h; exact h c2)] at hrd
          have CT := fun w1 => HT.out m hmn s o dp (L - 1) w1 hs hog'.2 hdp (by omega) (by omega)
          rw [show ((L - 1 : Nat) : Int) = (L : Int) - 1 by omega] at CT
          have hpt := (rd_prog m).1 s o dp (L - 1)
          clear c1 c2 hog
          cases hq : rdT m s o dp (L - 1) with
          | none =>
            rw [hq] at CT hrd
            have HR : Hid (R = none) := Lib.hid hrd.symm
            have HCT := Lib.hid CT
            clear CT hrd hpt hq
            go_wp2_with fail
            refine (HOP.out).mono ?_
            rintro e w4 ⟨rfl, hb⟩
            have HRE := Lib.hid (HREQ.out.below hb)
            clear hb HREQ
            go_wp2_with fail
            refine (HLV.out _).mono ?_
            rintro e w5 ⟨rfl, hw⟩
            subst hw
            go_wp2_with fail
            refine (HCT.out _).mono ?_
            intro e w6 hr2
            obtain ⟨hb, z, hz, rfl⟩ := hr2.none_
            have HZ := Lib.hid hz
            have hzl := hz.2
            have hre6 := HRE.out.below hb
            have HB2 := Lib.hid hre6.2.2.2.2.1
            have HQ2 := Lib.hid hre6.1
            clear hb hz hr2 hre6
            have hl2 := HQ2.out.lt
            obtain ⟨d0, d1, d2, d3⟩ := cells4i HQ2.out
            obtain ⟨f0, f1, f2, f3⟩ := frozen4 HQ2.out
            go_wp2_with fail
            rw [HR.out]
            refine bodyPost_ret (v := .tuple #[.agg #[.int .i64 0, .int .i64 0, .string ⟨#[]⟩, .slice none 0 0], .int .i64 z]) ?_ rfl (RdR.fin0a HB2.out HZ.out _ _ _ _ _)
            exact results_cell_row2 Tryz.results62 _ _ w.heap.size _ _ _ _ rfl ((rset4 HQ2.out _ _ _ _).alloc _) Tryz.underlying30 rfl (by kernel_rfl)
          | some r =>
            obtain ⟨⟨k2, n2, s2, f2⟩, p2⟩ := r
            have hp2 := hpt _ _ hq
            rw [hq] at CT hrd
            have hrd2 : (if L = 3 then some ((3, 0, nm, .cons k m1 s0 f (.cons k2 n2 s2 f2 .nil)), p2) else rdL m s dp L (3, 0, nm, .cons k m1 s0 f (.cons k2 n2 s2 f2 .nil)) p2) = R := hrd
            have HCT := Lib.hid CT
            have t9 : ¬ (p2 : Int) < 0 := by omega
            clear CT hrd hpt hq
            have HPP := Lib.hid (And.intro hp2 (And.intro hog' hfu))
            clear hp2 hog' hfu
            by_cases c3 : L = 3
            · have HR : Hid (R = some ((3, 0, nm, .cons k m1 s0 f (.cons k2 n2 s2 f2 .nil)), p2)) := Lib.hid (by rw [← hrd2, if_pos c3])
              have t3 : ((L : Int) == 3) = true := by rw [beq_iff_eq]; omega
              clear hrd2 c3
              go_wp2_with fail
              refine (HOP.out).mono ?_
              rintro e w4 ⟨rfl, hb⟩
              have HRE := Lib.hid (HREQ.out.below hb)
              clear hb HREQ
              go_wp2_with fail
              refine (HLV.out _).mono ?_
              rintro e w5 ⟨rfl, hw⟩
              subst hw
              go_wp2_with fail
              refine (HCT.out _).mono ?_
              intro e w6 hr2
              obtain ⟨hb, A2, cap2, rfl, hf2, hk2⟩ := hr2.some_
              have hb7 : Below w6.heap.size w6 (w6.alloc (.cells #[.int .i64 k2, .int .i64 n2, .string s2, .slice A2 f2.len cap2] 30)) := (Below.refl _ _).alloc (Nat.le_refl _) _
              have hre6 := HRE.out.below hb
              have HRE7 := Lib.hid (hre6.below hb7)
              have HF2 := Lib.hid hf2
              have HK2 : Hid (KidsIn (w6.alloc (.cells #[.int .i64 k2, .int .i64 n2, .string s2, .slice A2 f2.len cap2] 30)) (fun b => (w.heap.size + 1 ≤ b ∧ b < (w6.alloc (.cells #[.int .i64 k2, .int .i64 n2, .string s2, .slice A2 f2.len cap2] 30)).heap.size) ∧ b ≠ H) f2 A2 cap2) := Lib.hid (by
                have hHl := HRE.out.2.1.lt
                have hH1 := HRE.out.2.2.2.2.2
                exact (hk2.below hb7 (Nat.le_refl _)).inn.keep (fun _ _ => rfl) fun b hb' => ⟨⟨by omega, by have := hb7.size; omega⟩, by omega⟩)
              have hb1 : Below (w6.alloc (.cells #[.int .i64 k2, .int .i64 n2, .string s2, .slice A2 f2.len cap2] 30)).heap.size (w6.alloc (.cells #[.int .i64 k2, .int .i64 n2, .string s2, .slice A2 f2.len cap2] 30)) ((w6.alloc (.cells #[.int .i64 k2, .int .i64 n2, .string s2, .slice A2 f2.len cap2] 30)).alloc (.cells #[.int .i64 k, .int .i64 m1, .string s0, .slice A f.len cap, .int .i64 k2, .int .i64 n2, .string s2, .slice A2 f2.len cap2] 30)) := (Below.refl _ _).alloc (Nat.le_refl _) _
              have hnew : Blk ((w6.alloc (.cells #[.int .i64 k2, .int .i64 n2, .string s2, .slice A2 f2.len cap2] 30)).alloc (.cells #[.int .i64 k, .int .i64 m1, .string s0, .slice A f.len cap, .int .i64 k2, .int .i64 n2, .string s2, .slice A2 f2.len cap2] 30)) (w6.heap.size + 1) 30 #[.int .i64 k, .int .i64 m1, .string s0, .slice A f.len cap, .int .i64 k2, .int .i64 n2, .string s2, .slice A2 f2.len cap2] := by
                have h := Blk.new (w6.alloc (.cells #[.int .i64 k2, .int .i64 n2, .string s2, .slice A2 f2.len cap2] 30)) 30 #[.int .i64 k, .int .i64 m1, .string s0, .slice A f.len cap, .int .i64 k2, .int .i64 n2, .string s2, .slice A2 f2.len cap2]
                simpa using h
              have C2 := struct2_any nm (w6.heap.size + 1) 2 [.int .i64 k, .int .i64 m1, .string s0, .slice A f.len cap, .int .i64 k2, .int .i64 n2, .string s2, .slice A2 f2.len cap2] ((w6.alloc (.cells #[.int .i64 k2, .int .i64 n2, .string s2, .slice A2 f2.len cap2] 30)).alloc (.cells #[.int .i64 k, .int .i64 m1, .string s0, .slice A f.len cap, .int .i64 k2, .int .i64 n2, .string s2, .slice A2 f2.len cap2] 30)) rfl (by simp [Value.oneCell']) (by simp) (fun j u hu => by rw [hnew.cell j, List.getElem?_toArray]; exact hu)
              have STEPH := fun w8 g cap4 h3 ho => ReQ.step (w7 := (w6.alloc (.cells #[.int .i64 k2, .int .i64 n2, .string s2, .slice A2 f2.len cap2] 30)).alloc (.cells #[.int .i64 k, .int .i64 m1, .string s0, .slice A f.len cap, .int .i64 k2, .int .i64 n2, .string s2, .slice A2 f2.len cap2] 30)) (w8 := w8) (g := g) (cap4 := cap4) HRE7.out HF2.out HK2.out HFN.out hb1 h3 ho
              have FAR : ∀ w8, Below ((w6.alloc (.cells #[.int .i64 k2, .int .i64 n2, .string s2, .slice A2 f2.len cap2] 30)).alloc (.cells #[.int .i64 k, .int .i64 m1, .string s0, .slice A f.len cap, .int .i64 k2, .int .i64 n2, .string s2, .slice A2 f2.len cap2] 30)).heap.size ((w6.alloc (.cells #[.int .i64 k2, .int .i64 n2, .string s2, .slice A2 f2.len cap2] 30)).alloc (.cells #[.int .i64 k, .int .i64 m1, .string s0, .slice A f.len cap, .int .i64 k2, .int .i64 n2, .string s2, .slice A2 f2.len cap2] 30)) w8 → Blk w8 H 30 #[.int .i64 k, .int .i64 m1, .string s0, .slice A f.len cap] ∧ Blk w8 w.heap.size 30 #[.int .i64 0, .int .i64 0, .string ⟨#[]⟩, .slice none 0 0] := fun w8 h => by
                have h2 := (HRE7.out.below hb1).below h
                exact ⟨h2.2.1, h2.1⟩
              have hHl := hre6.2.1.lt
              have hne : w.heap.size ≠ H := by have := hre6.2.2.2.2.2; omega
              have hne' : H ≠ w.heap.size := fun e => hne e.symm
              obtain ⟨x0, x1, x2, x3⟩ := cells4i hre6.2.1
              have H2 := Lib.hid C2
              have HSTEP := Lib.hid STEPH
              have HFAR := Lib.hid FAR
              clear hb hf2 hk2 hb7 hr2 C2 STEPH FAR hb1 hnew hre6 HRE
              go_wp2_with fail
              refine H2.out.mono ?_
              rintro e w8 ⟨g, cap4, rfl, hb8, ho8⟩
              obtain ⟨y0, y1, y2, y3⟩ := cells4i (HFAR.out w8 hb8).1
              obtain ⟨f0, f1', f2', f3'⟩ := frozen4 (HFAR.out w8 hb8).1
              obtain ⟨d0, d1, d2, d3⟩ := cells4i (HFAR.out w8 hb8).2
              obtain ⟨e0, e1', e2', e3'⟩ := frozen4 (HFAR.out w8 hb8).2
              have HNEWQ := Lib.hid (HSTEP.out w8 g cap4 hb8 ho8)
              clear hb8 ho8
              go_wp2_with fail
              refine bodyPost_ret (v := .tuple #[.agg #[.int .i64 3, .int .i64 0, .string nm, .slice (some ⟨g, 0, none⟩) 2 cap4], .int .i64 (p2 : Int)]) ?_ rfl (by rw [HR.out]; exact RdR.fin (p := p2) HNEWQ.out.2.2.2.2.1 HNEWQ.out.2.2.1 HNEWQ.out.kids _ _ _ _)
              exact results_cell_row2 Tryz.results62 _ _ w.heap.size _ _ _ _ rfl (rset4 HNEWQ.out.1 _ _ _ _) Tryz.underlying30 rfl (by kernel_rfl)
            · obtain ⟨m', rfl⟩ : ∃ m', m = m' + 1 := ⟨m - 1, by have := HPP.out; omega⟩
              have HR := Lib.hid (by rw [← hrd2, if_neg c3] : R = rdL (m' + 1) s dp L (3, 0, nm, .cons k m1 s0 f (.cons k2 n2 s2 f2 .nil)) p2)
              have t3 : ((L : Int) == 3) = false := by rw [beq_eq_false_iff_ne]; omega
              clear hrd2 c3
              go_wp2_with fail
              refine (HOP.out).mono ?_
              rintro e w4 ⟨rfl, hb⟩
              have HRE := Lib.hid (HREQ.out.below hb)
              clear hb HREQ
              go_wp2_with fail
              refine (HLV.out _).mono ?_
              rintro e w5 ⟨rfl, hw⟩
              subst hw
              go_wp2_with fail
              refine (HCT.out _).mono ?_
              intro e w6 hr2
              obtain ⟨hb, A2, cap2, rfl, hf2, hk2⟩ := hr2.some_
              have hb7 : Below w6.heap.size w6 (w6.alloc (.cells #[.int .i64 k2, .int .i64 n2, .string s2, .slice A2 f2.len cap2] 30)) := (Below.refl _ _).alloc (Nat.le_refl _) _
              have hre6 := HRE.out.below hb
              have HRE7 := Lib.hid (hre6.below hb7)
              have HF2 := Lib.hid hf2
              have HK2 : Hid (KidsIn (w6.alloc (.cells #[.int .i64 k2, .int .i64 n2, .string s2, .slice A2 f2.len cap2] 30)) (fun b => (w.heap.size + 1 ≤ b ∧ b < (w6.alloc (.cells #[.int .i64 k2, .int .i64 n2, .string s2, .slice A2 f2.len cap2] 30)).heap.size) ∧ b ≠ H) f2 A2 cap2) := Lib.hid (by
                have hHl := HRE.out.2.1.lt
                have hH1 := HRE.out.2.2.2.2.2
                exact (hk2.below hb7 (Nat.le_refl _)).inn.keep (fun _ _ => rfl) fun b hb' => ⟨⟨by omega, by have := hb7.size; omega⟩, by omega⟩)
              have hb1 : Below (w6.alloc (.cells #[.int .i64 k2, .int .i64 n2, .string s2, .slice A2 f2.len cap2] 30)).heap.size (w6.alloc (.cells #[.int .i64 k2, .int .i64 n2, .string s2, .slice A2 f2.len cap2] 30)) ((w6.alloc (.cells #[.int .i64 k2, .int .i64 n2, .string s2, .slice A2 f2.len cap2] 30)).alloc (.cells #[.int .i64 k, .int .i64 m1, .string s0, .slice A f.len cap, .int .i64 k2, .int .i64 n2, .string s2, .slice A2 f2.len cap2] 30)) := (Below.refl _ _).alloc (Nat.le_refl _) _
              have hnew : Blk ((w6.alloc (.cells #[.int .i64 k2, .int .i64 n2, .string s2, .slice A2 f2.len cap2] 30)).alloc (.cells #[.int .i64 k, .int .i64 m1, .string s0, .slice A f.len cap, .int .i64 k2, .int .i64 n2, .string s2, .slice A2 f2.len cap2] 30)) (w6.heap.size + 1) 30 #[.int .i64 k, .int .i64 m1, .string s0, .slice A f.len cap, .int .i64 k2, .int .i64 n2, .string s2, .slice A2 f2.len cap2] := by
                have h := Blk.new (w6.alloc (.cells #[.int .i64 k2, .int .i64 n2, .string s2, .slice A2 f2.len cap2] 30)) 30 #[.int .i64 k, .int .i64 m1, .string s0, .slice A f.len cap, .int .i64 k2, .int .i64 n2, .string s2, .slice A2 f2.len cap2]
                simpa using h
              have C2 := struct2_any nm (w6.heap.size + 1) 2 [.int .i64 k, .int .i64 m1, .string s0, .slice A f.len cap, .int .i64 k2, .int .i64 n2, .string s2, .slice A2 f2.len cap2] ((w6.alloc (.cells #[.int .i64 k2, .int .i64 n2, .string s2, .slice A2 f2.len cap2] 30)).alloc (.cells #[.int .i64 k, .int .i64 m1, .string s0, .slice A f.len cap, .int .i64 k2, .int .i64 n2, .string s2, .slice A2 f2.len cap2] 30)) rfl (by simp [Value.oneCell']) (by simp) (fun j u hu => by rw [hnew.cell j, List.getElem?_toArray]; exact hu)
              have STEPH := fun w8 g cap4 h3 ho => ReQ.step (w7 := (w6.alloc (.cells #[.int .i64 k2, .int .i64 n2, .string s2, .slice A2 f2.len cap2] 30)).alloc (.cells #[.int .i64 k, .int .i64 m1, .string s0, .slice A f.len cap, .int .i64 k2, .int .i64 n2, .string s2, .slice A2 f2.len cap2] 30)) (w8 := w8) (g := g) (cap4 := cap4) HRE7.out HF2.out HK2.out HFN.out hb1 h3 ho
              have FAR : ∀ w8, Below ((w6.alloc (.cells #[.int .i64 k2, .int .i64 n2, .string s2, .slice A2 f2.len cap2] 30)).alloc (.cells #[.int .i64 k, .int .i64 m1, .string s0, .slice A f.len cap, .int .i64 k2, .int .i64 n2, .string s2, .slice A2 f2.len cap2] 30)).heap.size ((w6.alloc (.cells #[.int .i64 k2, .int .i64 n2, .string s2, .slice A2 f2.len cap2] 30)).alloc (.cells #[.int .i64 k, .int .i64 m1, .string s0, .slice A f.len cap, .int .i64 k2, .int .i64 n2, .string s2, .slice A2 f2.len cap2] 30)) w8 → Blk w8 H 30 #[.int .i64 k, .int .i64 m1, .string s0, .slice A f.len cap] ∧ Blk w8 w.heap.size 30 #[.int .i64 0, .int .i64 0, .string ⟨#[]⟩, .slice none 0 0] := fun w8 h => by
                have h2 := (HRE7.out.below hb1).below h
                exact ⟨h2.2.1, h2.1⟩
              have hHl := hre6.2.1.lt
              have hne : w.heap.size ≠ H := by have := hre6.2.2.2.2.2; omega
              have hne' : H ≠ w.heap.size := fun e => hne e.symm
              obtain ⟨x0, x1, x2, x3⟩ := cells4i hre6.2.1
              have H2 := Lib.hid C2
              have HSTEP := Lib.hid STEPH
              have HFAR := Lib.hid FAR
              clear hb hf2 hk2 hb7 hr2 C2 STEPH FAR hb1 hnew hre6 HRE
              go_wp2_with fail
              refine H2.out.mono ?_
              rintro e w8 ⟨g, cap4, rfl, hb8, ho8⟩
              obtain ⟨y0, y1, y2, y3⟩ := cells4i (HFAR.out w8 hb8).1
              obtain ⟨f0, f1', f2', f3'⟩ := frozen4 (HFAR.out w8 hb8).1
              obtain ⟨d0, d1, d2, d3⟩ := cells4i (HFAR.out w8 hb8).2
              obtain ⟨e0, e1', e2', e3'⟩ := frozen4 (HFAR.out w8 hb8).2
              have HNEWQ := Lib.hid (HSTEP.out w8 g cap4 hb8 ho8)
              clear hb8 ho8
              go_wp2_with fail
              go_roundw
              case rel => exact ⟨m', p2, 3, 0, nm, _, _, cap4, rfl, HPP.out.1.2, by have := HPP.out; omega, by omega, HR.out.symm, HNEWQ.out⟩
              case measure => have := HPP.out; simp [intOf]; omega
        · have HR : Hid (R = some ((k, m1, s0, f), p)) := Lib.hid (by rw [← hrd, if_pos (.inr c2)])
          have t2 : (v != (L : Int)) = true := by rw [bne_iff_ne]; exact c2
          clear c1 c2 hrd hog hog'
          go_wp2_with fail
          refine (HOP.out).mono ?_
          rintro e w4 ⟨rfl, hb⟩
          have HRE := Lib.hid (HREQ.out.below hb)
          clear hb HREQ
          go_wp2_with fail
          refine (HLV.out _).mono ?_
          rintro e w5 ⟨rfl, hw⟩
          subst hw
          obtain ⟨x0, x1, x2, x3⟩ := cells4i HRE.out.2.1
          obtain ⟨d0, d1, d2, d3⟩ := cells4i HRE.out.1
          obtain ⟨f0, f1', f2', f3'⟩ := frozen4 HRE.out.1
          go_wp2_with fail
          refine bodyPost_ret (v := .tuple #[.agg #[.int .i64 k, .int .i64 m1, .string s0, .slice A f.len cap], .int .i64 (p : Int)]) ?_ rfl (by rw [HR.out]; exact RdR.fin (p := p) HRE.out.2.2.2.2.1 HRE.out.2.2.1 HRE.out.kids _ _ _ _)
          exact results_cell_row2 Tryz.results62 _ _ w.heap.size _ _ _ _ rfl (rset4 HRE.out.1 _ _ _ _) Tryz.underlying30 rfl (by kernel_rfl)
end Go.Proofs.YtihmgodiiohdnaaGreatDoor.rdr
