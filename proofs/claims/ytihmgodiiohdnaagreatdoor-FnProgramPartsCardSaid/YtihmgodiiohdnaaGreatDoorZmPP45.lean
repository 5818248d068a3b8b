/- The model's reader, from a text of at most 1000 bytes: spec.l2Read, spec.l4Goals. Condition: none but that. -/
import Derived.Test.YtihmgodiiohdnaaGreatDoorProg
import Derived.Test.YtihmgodiiohdnaaGreatDoorZmPP44
import Derived.Test.YtihmgodiiohdnaaGreatDoorTo
import Derived.Test.YtihmgodiiohdnaaGreatDoorTb
import Derived.Test.YtihmgodiiohdnaaGreatDoorCopy
import Derived.Test.YtihmgodiiohdnaaGreatDoorPair
import Derived.Lib.ItoaLen
import Derived.Test.YtihmgodiiohdnaaGreatDoorTermOf
namespace Go.Proofs.YtihmgodiiohdnaaGreatDoor.rdr
open Go.RowKit

theorem rd_any (n : Nat) : (∀ m, m ≤ n → TC m) ∧ PC n ∧ SC n ∧ IC n := by
  induction n with
  | zero =>
    have h0 : TC 0 := fun s a dp lv w _ _ _ _ h => by omega
    have hm0 : ∀ m, m ≤ 0 → TC m := fun m hm => by
      obtain rfl : m = 0 := by omega
      exact h0
    exact ⟨hm0, (fun s a dp w _ _ _ h => by omega), (fun s a dp x y w _ _ _ h => by omega), (fun s a dp w _ _ _ h => by omega)⟩
  | succ n ih =>
    obtain ⟨hT, hP, hS, hI⟩ := ih
    have hTn := hT n (Nat.le_refl _)
    refine ⟨fun m hm => ?_, pc_step n hTn hI hS, sc_step n hT, ic_step n hTn hS⟩
    rcases Nat.lt_or_ge m (n + 1) with h | h
    · exact hT m (by omega)
    · obtain rfl : m = n + 1 := by omega
      exact tc_step n hP hT
/-- spec.l2Read, with fuel that is always enough. -/
def rdE (s : ByteArray) (a : Nat) : Option (Tm × Nat) := rdT (8 * s.size + 16) s a 30 3
theorem read_any (s : ByteArray) (a : Nat) (w : World) (hs : s.size ≤ 1000) (ha : a ≤ s.size) :
    Calls Tryz.prog 62 #[.string s, .int .i64 a, .int .i64 30, .int .i64 3] w fun e w' => RdR w (rdE s a) e w' :=
  (rd_any (8 * s.size + 16)).1 _ (Nat.le_refl _) s a 30 3 w hs ha (by omega) (by omega) (by omega)
theorem rdE_prog {s : ByteArray} {a : Nat} {t : Tm} {e : Nat} (h : rdE s a = some (t, e)) : a < e ∧ e ≤ s.size := (rd_prog _).1 _ _ _ _ _ _ h
/-- spec.l4Goals. -/
def rdG : Nat → ByteArray → Nat → Fr → Option (Fr × Nat)
  | 0, _, _, _ => none
  | n + 1, s, a, acc => if 6 < acc.len then none else match rdE s a with
    | none => none
    | some (t, e) => if bA s e 44 = false then some (acc.app (t.fr .nil), e) else rdG n s (e + 1) (acc.app (t.fr .nil))
theorem rdG_prog (n : Nat) : ∀ s a acc f e, rdG n s a acc = some (f, e) → a < e ∧ e ≤ s.size ∧ f.len ≤ 7 := by
  induction n with
  | zero => intro s a acc f e h; rw [rdG] at h; cases h
  | succ n ih =>
    intro s a acc f e h
    rw [rdG] at h
    split at h
    · cases h
    · rename_i hl
      cases hq : rdE s a with
      | none => rw [hq] at h; cases h
      | some r =>
        obtain ⟨t, e1⟩ := r
        rw [hq] at h
        have h1 := rdE_prog hq
        have h2 : (acc.app (t.fr .nil)).len = acc.len + 1 := by rw [Fr.len_app]; rfl
        simp only at h
        split at h
        · injection h with h
          injection h with h3 h4
          subst h3 h4
          omega
        · have := ih _ _ _ _ _ h
          omega
set_option maxRecDepth 100000 in
set_option maxHeartbeats 8000000 in
theorem goals_any (s : ByteArray) (a : Nat) (w : World) (hs : s.size ≤ 1000) (ha : a ≤ s.size) :
    Calls Tryz.prog 64 #[.string s, .int .i64 a] w fun e w' => RdS w (rdG 8 s a .nil) e w' := by
  obtain ⟨i0, hi0, hz0, hz1, hz2⟩ := info_parts infoT
  have hb0 : Below w.heap.size w (w.alloc (.cells #[] 30)) := (Below.refl _ _).alloc (Nat.le_refl _) _
  have hr0 : RowI w.heap.size (w.alloc (.cells #[] 30)) (.slice (some ⟨w.heap.size, 0, none⟩) 0 0) .nil := RowI.empty (Nat.le_refl _)
  generalize hR : rdG 8 s a .nil = R
  have HR0 := Lib.hid hR
  have HB0 := Lib.hid hb0
  have HRI0 := Lib.hid hr0
  clear hb0 hr0 hR
  go_enter Tryz.func64, Tryz.ntmps64
  go_wp2_with fail
  generalize w.alloc (.cells #[] 30) = w1 at *
  go_loopw [1, 6] (fun i u wr => ∃ (v : Value) (m a' : Nat) (acc : Fr), v = u ∧ i = .int .i64 a' ∧ a' ≤ s.size ∧ acc.len + m = 7 ∧ rdG (m + 1) s a' acc = R ∧ RowI w.heap.size wr v acc ∧ Below w.heap.size w wr) (fun i _ _ => s.size + 1 - (intOf i).toNat)
  case atStart => exact ⟨_, 7, a, .nil, rfl, rfl, ha, rfl, HR0.out, HRI0.out, HB0.out⟩
  case round =>
    obtain ⟨v, m, a', acc, rfl, rfl, ha1, hac, hrd, hri, hbw⟩ := hrel
    obtain ⟨Av, cv, rfl⟩ := hri.form
    rw [rdG] at hrd
    have HBW := Lib.hid hbw
    by_cases hfull : 6 < acc.len
    · rw [if_pos hfull] at hrd
      have HR : Hid (R = none) := Lib.hid hrd.symm
      have t1 : ¬ (acc.len : Int) ≤ 6 := by omega
      clear hrd hri hbw hfull
      generalize acc.len = al at *
      go_wp2_with fail
      go_ret2
      rw [HR.out]
      exact ⟨HBW.out, -1, ⟨by omega, by omega⟩, rfl⟩
    · rw [if_neg hfull] at hrd
      have t1 : (acc.len : Int) ≤ 6 := by omega
      have C1 := read_any s a' wr hs ha1
      have HRI := Lib.hid hri
      cases hq : rdE s a' with
      | none =>
        rw [hq] at C1 hrd
        have HR : Hid (R = none) := Lib.hid hrd.symm
        have H1 := Lib.hid C1
        clear C1 hrd hq hri hbw
        generalize acc.len = al at *
        go_wp2_with fail
        refine H1.out.mono ?_
        intro e w2 hr2
        obtain ⟨hb, z, hz, rfl⟩ := hr2.none_
        have HZ := Lib.hid hz
        have hzl := hz.2
        have HB2 := Lib.hid (HBW.out.trans (hb.mono HBW.out.size))
        clear hb hz hr2
        go_wp2_with fail
        go_ret2
        rw [HR.out]
        exact ⟨HB2.out.trans (((Below.refl _ _).alloc (Nat.le_refl _) _).mono HB2.out.size), -1, ⟨by omega, by omega⟩, rfl⟩
      | some r =>
        obtain ⟨⟨k, m1, s0, f1⟩, p⟩ := r
        have hp := rdE_prog hq
        rw [hq] at C1 hrd
        have H1 := Lib.hid C1
        have hp1 : p ≤ 1000 := by omega
        have t8 : ¬ (p : Int) < 0 := by omega
        have C4 := fun w1 => sign_any s p 44 w1 (by unfold maxLen; omega) (by unfold maxLen; omega)
        have hrd2 : (if bA s p 44 = false then some (acc.app (.cons k m1 s0 f1 .nil), p) else rdG m s (p + 1) (acc.app (.cons k m1 s0 f1 .nil))) = R := hrd
        have HC44 : bA s p 44 = true → p < s.size := bA_lt
        have HLT44 := Lib.hid HC44
        have HPA := Lib.hid hp
        have HAL : Hid ((acc.app (.cons k m1 s0 f1 .nil)).len = acc.len + 1) := Lib.hid (by rw [Fr.len_app]; rfl)
        have HACC := Lib.hid hac
        have hal : acc.len ≤ 1000 := by omega
        change ∀ w1, Calls _ _ _ _ fun e w' => e = .returned (.bool (bA s p 44)) ∧ w' = w1 at C4
        clear C1 hrd hq hri hbw HC44 hac hp hfull
        cases hbc : bA s p 44 with
        | false =>
          have HR : Hid (R = some (acc.app (.cons k m1 s0 f1 .nil), p)) := Lib.hid (by rw [← hrd2, if_pos hbc])
          rw [hbc] at C4
          have HC := Lib.hid C4
          clear C4 hrd2 hbc
          go_wp2_with fail
          refine H1.out.mono ?_
          intro e w2 hr2
          obtain ⟨hb, A1, cap1, rfl, hf, hk⟩ := hr2.some_
          have hb3 : Below w2.heap.size w2 (w2.alloc (.cells #[.int .i64 k, .int .i64 m1, .string s0, .slice A1 f1.len cap1] 30)) := (Below.refl _ _).alloc (Nat.le_refl _) _
          have hb23 := hb.trans (hb3.mono hb.size)
          have HB3 := Lib.hid (HBW.out.trans (hb23.mono HBW.out.size))
          obtain ⟨xs, ho3, hx3⟩ := HRI.out.below hb23
          have HO3 := Lib.hid ho3
          have HNEW : Hid (Blk ((w2.alloc (.cells #[.int .i64 k, .int .i64 m1, .string s0, .slice A1 f1.len cap1] 30)).alloc (.cells #[.int .i64 k, .int .i64 m1, .string s0, .slice A1 f1.len cap1] 30)) (w2.heap.size + 1) 30 #[.int .i64 k, .int .i64 m1, .string s0, .slice A1 f1.len cap1]) := Lib.hid (by
            have h := Blk.new (w2.alloc (.cells #[.int .i64 k, .int .i64 m1, .string s0, .slice A1 f1.len cap1] 30)) 30 #[.int .i64 k, .int .i64 m1, .string s0, .slice A1 f1.len cap1]
            simpa using h)
          have hq3 := Blk.new w2 30 #[.int .i64 k, .int .i64 m1, .string s0, .slice A1 f1.len cap1]
          obtain ⟨x0, x1, x2, x3⟩ := cells4i hq3
          have hvl := HRI.out
          have hk3 : KidsIn (w2.alloc (.cells #[.int .i64 k, .int .i64 m1, .string s0, .slice A1 f1.len cap1] 30)) (fun b => (w.heap.size ≤ b ∧ b < (w2.alloc (.cells #[.int .i64 k, .int .i64 m1, .string s0, .slice A1 f1.len cap1] 30)).heap.size) ∧ ∀ g, (Value.slice Av acc.len cv).ownBlock = some g → b ≠ g) f1 A1 cap1 := by
            have hbs := HBW.out.size
            refine (hk.below hb3 (Nat.le_refl _)).inn.keep (fun _ _ => rfl) fun b hb' => ⟨⟨by omega, by have := hb3.size; omega⟩, fun g hg e => ?_⟩
            obtain ⟨_, ho, _⟩ := HRI.out
            have := (ho.lt g hg).2
            omega
          have HSTEP : Hid (∀ w5 g cap', (((w2.alloc (.cells #[.int .i64 k, .int .i64 m1, .string s0, .slice A1 f1.len cap1] 30)).alloc (.cells #[.int .i64 k, .int .i64 m1, .string s0, .slice A1 f1.len cap1] 30)).grownBy w5 (Value.slice Av acc.len cv).ownBlock) → w5.ownsRow w.heap.size 30 4 (.slice (some ⟨g, 0, none⟩) (acc.len + 1) cap') (acc.len + 1) (xs ++ [.int .i64 k, .int .i64 m1, .string s0, .slice A1 f1.len cap1]) →
              ((Value.slice Av acc.len cv).ownBlock = some g ∨ g = ((w2.alloc (.cells #[.int .i64 k, .int .i64 m1, .string s0, .slice A1 f1.len cap1] 30)).alloc (.cells #[.int .i64 k, .int .i64 m1, .string s0, .slice A1 f1.len cap1] 30)).heap.size) →
              RowI w.heap.size w5 (.slice (some ⟨g, 0, none⟩) (acc.len + 1) cap') (acc.app (.cons k m1 s0 f1 .nil)) ∧ Below w.heap.size w w5) := Lib.hid fun w5 g cap' hg ho hat => ⟨RowI.step hx3 hf hk3 ((Below.refl _ _).alloc (Nat.le_refl _) _) hg ho hat, by
                have h2 := HB3.out.trans (((Below.refl _ (w2.alloc (.cells #[.int .i64 k, .int .i64 m1, .string s0, .slice A1 f1.len cap1] 30))).alloc (Nat.le_refl _) (.cells #[.int .i64 k, .int .i64 m1, .string s0, .slice A1 f1.len cap1] 30)).mono HB3.out.size)
                exact h2.grown hg h2.size fun g' hg' => (ho3.lt g' hg').1⟩
          have hws : w.heap.size ≤ w2.heap.size := Nat.le_trans HBW.out.size hb.size
          clear hb hf hk hb3 hb23 ho3 hx3 hq3 hvl hk3 hr2
          generalize acc.len = al at *
          go_wp2_with (at_builtin; go_must (refine wpList_append_lies _ rfl _ _ _ rfl w.heap.size 30 i0 _ 4 56 Tryz.underlying28 hi0 hz0 hz1 hz2 rfl (by omega) (.slice Av al cv) al xs rfl (HO3.out.alloc _) ⟨w2.heap.size + 1, 0, none⟩ 1 1 [.int .i64 k, .int .i64 m1, .string s0, .slice A1 f1.len cap1] rfl rfl (World.news_of_block (cs := #[.int .i64 k, .int .i64 m1, .string s0, .slice A1 f1.len cap1]) (fr := (0, 0)) HNEW.out) (by simp [Value.oneCell']) (by omega) (by unfold maxLen; omega) (by omega) (by simp; omega) (w2.heap.size + 1 + 1) (by simp) ?_); intro g4 cap4 w4 hown4 hgrow hat hlt4; have HS := Lib.hid (HSTEP.out w4 g4 cap4 hgrow hown4 (by simpa using hat)); clear hown4 hgrow hat)
          refine (HC.out _).mono ?_
          rintro e w9 ⟨rfl, hw⟩
          subst hw
          go_wp2_with fail
          obtain ⟨A9, cap9, e9, hk9⟩ := HS.out.1.fin
          have HK9 := Lib.hid hk9
          injection e9 with e9 e10 e11
          go_ret2
          rw [HR.out]
          exact ⟨HS.out.2, A9, cap9, by rw [← e11, e9, HAL.out]; rfl, HK9.out⟩
        | true =>
          have hps := HLT44.out hbc
          have hrd3 : rdG m s (p + 1) (acc.app (.cons k m1 s0 f1 .nil)) = R := by rw [← hrd2, if_neg (by rw [hbc]; decide)]
          obtain ⟨m', rfl⟩ : ∃ m', m = m' + 1 := ⟨m - 1, by have := HACC.out; omega⟩
          have HR := Lib.hid hrd3
          rw [hbc] at C4
          have HC := Lib.hid C4
          clear C4 hrd2 hrd3 hbc
          go_wp2_with fail
          refine H1.out.mono ?_
          intro e w2 hr2
          obtain ⟨hb, A1, cap1, rfl, hf, hk⟩ := hr2.some_
          have hb3 : Below w2.heap.size w2 (w2.alloc (.cells #[.int .i64 k, .int .i64 m1, .string s0, .slice A1 f1.len cap1] 30)) := (Below.refl _ _).alloc (Nat.le_refl _) _
          have hb23 := hb.trans (hb3.mono hb.size)
          have HB3 := Lib.hid (HBW.out.trans (hb23.mono HBW.out.size))
          obtain ⟨xs, ho3, hx3⟩ := HRI.out.below hb23
          have HO3 := Lib.hid ho3
          have HNEW : Hid (Blk ((w2.alloc (.cells #[.int .i64 k, .int .i64 m1, .string s0, .slice A1 f1.len cap1] 30)).alloc (.cells #[.int .i64 k, .int .i64 m1, .string s0, .slice A1 f1.len cap1] 30)) (w2.heap.size + 1) 30 #[.int .i64 k, .int .i64 m1, .string s0, .slice A1 f1.len cap1]) := Lib.hid (by
            have h := Blk.new (w2.alloc (.cells #[.int .i64 k, .int .i64 m1, .string s0, .slice A1 f1.len cap1] 30)) 30 #[.int .i64 k, .int .i64 m1, .string s0, .slice A1 f1.len cap1]
            simpa using h)
          have hq3 := Blk.new w2 30 #[.int .i64 k, .int .i64 m1, .string s0, .slice A1 f1.len cap1]
          obtain ⟨x0, x1, x2, x3⟩ := cells4i hq3
          have hvl := HRI.out
          have hk3 : KidsIn (w2.alloc (.cells #[.int .i64 k, .int .i64 m1, .string s0, .slice A1 f1.len cap1] 30)) (fun b => (w.heap.size ≤ b ∧ b < (w2.alloc (.cells #[.int .i64 k, .int .i64 m1, .string s0, .slice A1 f1.len cap1] 30)).heap.size) ∧ ∀ g, (Value.slice Av acc.len cv).ownBlock = some g → b ≠ g) f1 A1 cap1 := by
            have hbs := HBW.out.size
            refine (hk.below hb3 (Nat.le_refl _)).inn.keep (fun _ _ => rfl) fun b hb' => ⟨⟨by omega, by have := hb3.size; omega⟩, fun g hg e => ?_⟩
            obtain ⟨_, ho, _⟩ := HRI.out
            have := (ho.lt g hg).2
            omega
          have HSTEP : Hid (∀ w5 g cap', (((w2.alloc (.cells #[.int .i64 k, .int .i64 m1, .string s0, .slice A1 f1.len cap1] 30)).alloc (.cells #[.int .i64 k, .int .i64 m1, .string s0, .slice A1 f1.len cap1] 30)).grownBy w5 (Value.slice Av acc.len cv).ownBlock) → w5.ownsRow w.heap.size 30 4 (.slice (some ⟨g, 0, none⟩) (acc.len + 1) cap') (acc.len + 1) (xs ++ [.int .i64 k, .int .i64 m1, .string s0, .slice A1 f1.len cap1]) →
              ((Value.slice Av acc.len cv).ownBlock = some g ∨ g = ((w2.alloc (.cells #[.int .i64 k, .int .i64 m1, .string s0, .slice A1 f1.len cap1] 30)).alloc (.cells #[.int .i64 k, .int .i64 m1, .string s0, .slice A1 f1.len cap1] 30)).heap.size) →
              RowI w.heap.size w5 (.slice (some ⟨g, 0, none⟩) (acc.len + 1) cap') (acc.app (.cons k m1 s0 f1 .nil)) ∧ Below w.heap.size w w5) := Lib.hid fun w5 g cap' hg ho hat => ⟨RowI.step hx3 hf hk3 ((Below.refl _ _).alloc (Nat.le_refl _) _) hg ho hat, by
                have h2 := HB3.out.trans (((Below.refl _ (w2.alloc (.cells #[.int .i64 k, .int .i64 m1, .string s0, .slice A1 f1.len cap1] 30))).alloc (Nat.le_refl _) (.cells #[.int .i64 k, .int .i64 m1, .string s0, .slice A1 f1.len cap1] 30)).mono HB3.out.size)
                exact h2.grown hg h2.size fun g' hg' => (ho3.lt g' hg').1⟩
          have hws : w.heap.size ≤ w2.heap.size := Nat.le_trans HBW.out.size hb.size
          clear hb hf hk hb3 hb23 ho3 hx3 hq3 hvl hk3 hr2
          generalize acc.len = al at *
          go_wp2_with (at_builtin; go_must (refine wpList_append_lies _ rfl _ _ _ rfl w.heap.size 30 i0 _ 4 56 Tryz.underlying28 hi0 hz0 hz1 hz2 rfl (by omega) (.slice Av al cv) al xs rfl (HO3.out.alloc _) ⟨w2.heap.size + 1, 0, none⟩ 1 1 [.int .i64 k, .int .i64 m1, .string s0, .slice A1 f1.len cap1] rfl rfl (World.news_of_block (cs := #[.int .i64 k, .int .i64 m1, .string s0, .slice A1 f1.len cap1]) (fr := (0, 0)) HNEW.out) (by simp [Value.oneCell']) (by omega) (by unfold maxLen; omega) (by omega) (by simp; omega) (w2.heap.size + 1 + 1) (by simp) ?_); intro g4 cap4 w4 hown4 hgrow hat hlt4; have HS := Lib.hid (HSTEP.out w4 g4 cap4 hgrow hown4 (by simpa using hat)); clear hown4 hgrow hat)
          refine (HC.out _).mono ?_
          rintro e w9 ⟨rfl, hw⟩
          subst hw
          go_wp2_with fail
          go_roundw
          case rel => exact ⟨_, m', p + 1, acc.app (.cons k m1 s0 f1 .nil), rfl, by go_num, by omega, by have := HAL.out; have := HACC.out; omega, HR.out, HS.out.1, HS.out.2⟩
          case measure => have := HPA.out; simp [intOf]; omega
end Go.Proofs.YtihmgodiiohdnaaGreatDoor.rdr

/- The model's reader as plain data: what is read has no more nodes than its text has bytes. No condition. -/
namespace Go.Proofs.YtihmgodiiohdnaaGreatDoor.rdr
open Go.RowKit

theorem nodes_fr (t : Tm) (rest : Fr) : nodes (t.fr rest) = nodes t.2.2.2 + 1 + nodes rest := by simp only [Tm.fr, nodes]; omega
theorem nodes_chainT (f : Fr) (t : Tm) : nodes (chainT f t).2.2.2 = nodes f + f.len + nodes t.2.2.2 := by
  have h1 := nodes_chain f (t.fr .nil)
  rw [chain_fr, nodes_fr, nodes_fr] at h1
  simp only [nodes] at h1
  omega
theorem rd_nodes (n : Nat) : (∀ s a dp lv t e, rdT n s a dp lv = some (t, e) → 1 + nodes t.2.2.2 + a ≤ e) ∧ (∀ s dp lv t0 e0 t e, rdL n s dp lv t0 e0 = some (t, e) → e0 ≤ s.size → nodes t.2.2.2 + e0 ≤ nodes t0.2.2.2 + e) ∧
    (∀ s a dp t e, rdP n s a dp = some (t, e) → 1 + nodes t.2.2.2 + a ≤ e) ∧ (∀ s a dp x y acc f e, rdS n s a dp x y acc = some (f, e) → nodes f + f.len + a ≤ nodes acc + acc.len + e + 1) ∧ (∀ s a dp t e, rdI n s a dp = some (t, e) → nodes t.2.2.2 + a ≤ e) := by
  induction n with
  | zero =>
    refine ⟨?_, ?_, ?_, ?_, ?_⟩
    · intro s a dp lv t e h; rw [rdT] at h; cases h
    · intro s dp lv t0 e0 t e h; rw [rdL] at h; cases h
    · intro s a dp t e h; rw [rdP] at h; cases h
    · intro s a dp x y acc f e h; rw [rdS] at h; cases h
    · intro s a dp t e h; rw [rdI] at h; cases h
  | succ n ih =>
    obtain ⟨iT, iL, iP, iS, iI⟩ := ih
    obtain ⟨pT, pL, pP, pS, pI⟩ := rd_prog n
    refine ⟨?_, ?_, ?_, ?_, ?_⟩
    · intro s a dp lv t e h
      cases lv with
      | zero => rw [rdT] at h; exact iP _ _ _ _ _ h
      | succ lv =>
        rw [rdT] at h
        cases hq : rdT n s a dp lv with
        | none => rw [hq] at h; cases h
        | some r =>
          obtain ⟨t1, e1⟩ := r
          rw [hq] at h
          have h1 := iT _ _ _ _ _ _ hq
          have h2 := iL _ _ _ _ _ _ _ h (pT _ _ _ _ _ _ hq).2
          omega
    · intro s dp lv t0 e0 t e h h0
      rw [rdL] at h
      split at h
      · injection h with h
        injection h with h1 h2
        subst h1 h2
        omega
      · rename_i hc
        have hp := opR_prog (s := s) (a := e0) (fun hz => hc (.inl hz))
        cases hq : rdT n s (opR s e0).2 dp (lv - 1) with
        | none => rw [hq] at h; cases h
        | some r =>
          obtain ⟨r1, e2⟩ := r
          rw [hq] at h
          have h1 := iT _ _ _ _ _ _ hq
          have hn : nodes (t0.fr (r1.fr .nil)) = nodes t0.2.2.2 + 1 + (nodes r1.2.2.2 + 1) := by rw [nodes_fr, nodes_fr]; simp only [nodes]
          simp only at h
          split at h
          · injection h with h
            injection h with h3 h4
            subst h3 h4
            simp only
            omega
          · have h2 := iL _ _ _ _ _ _ _ h (pT _ _ _ _ _ _ hq).2
            simp only at h2
            omega
    · intro s a dp t e h
      rw [rdP] at h
      split at h
      · cases h
      · split at h
        · cases hq : rdT n s (a + 1) dp 3 with
          | none => rw [hq] at h; cases h
          | some r =>
            obtain ⟨t1, e1⟩ := r
            rw [hq] at h
            have h1 := iT _ _ _ _ _ _ hq
            simp only at h
            split at h
            · injection h with h
              injection h with h3 h4
              subst h3 h4
              omega
            · cases h
        · split at h
          · have := iI _ _ _ _ _ h
            omega
          · split at h
            · injection h with h
              injection h with h3 h4
              subst h3 h4
              simp only [nodes]
              omega
            · split at h
              · split at h
                · rename_i hb
                  have := nu_prog hb
                  injection h with h
                  injection h with h3 h4
                  subst h3 h4
                  simp only [nodes]
                  omega
                · cases h
              · split at h
                · cases h
                · rename_i hz
                  split at h
                  · injection h with h
                    injection h with h3 h4
                    subst h3 h4
                    simp only [nodes]
                    omega
                  · cases hq : rdS n s (a + nmN s a + 1) (dp - 1) 41 41 .nil with
                    | none => rw [hq] at h; cases h
                    | some r =>
                      obtain ⟨f1, e1⟩ := r
                      rw [hq] at h
                      have h1 := iS _ _ _ _ _ _ _ _ hq
                      injection h with h
                      injection h with h3 h4
                      subst h3 h4
                      simp only [nodes, Fr.len] at h1 ⊢
                      omega
    · intro s a dp x y acc f e h
      rw [rdS] at h
      cases hq : rdT n s a dp 3 with
      | none => rw [hq] at h; cases h
      | some r =>
        obtain ⟨t1, e1⟩ := r
        rw [hq] at h
        have h1 := iT _ _ _ _ _ _ hq
        have h2 : nodes (acc.app (t1.fr .nil)) = nodes acc + nodes t1.2.2.2 + 1 := by rw [nodes_app, nodes_fr]; simp only [nodes]; omega
        have h3 : (acc.app (t1.fr .nil)).len = acc.len + 1 := by rw [Fr.len_app]; rfl
        simp only at h
        split at h
        · injection h with h
          injection h with h4 h5
          subst h4 h5
          omega
        · split at h
          · cases h
          · have := iS _ _ _ _ _ _ _ _ h
            omega
    · intro s a dp t e h
      rw [rdI] at h
      cases hq : rdS n s a dp 93 124 .nil with
      | none => rw [hq] at h; cases h
      | some r =>
        obtain ⟨f1, e1⟩ := r
        rw [hq] at h
        have h1 := iS _ _ _ _ _ _ _ _ hq
        simp only [nodes, Fr.len] at h1
        simp only at h
        split at h
        · injection h with h
          injection h with h3 h4
          subst h3 h4
          rw [nodes_chainT]
          simp only [nodes]
          omega
        · cases hq2 : rdT n s (e1 + 1) dp 3 with
          | none => rw [hq2] at h; cases h
          | some r2 =>
            obtain ⟨t2, e2⟩ := r2
            rw [hq2] at h
            have h2 := iT _ _ _ _ _ _ hq2
            simp only at h
            split at h
            · injection h with h
              injection h with h3 h4
              subst h3 h4
              rw [nodes_chainT]
              omega
            · cases h
end Go.Proofs.YtihmgodiiohdnaaGreatDoor.rdr

/- Rows of clauses (a head and a row of goals each): where they lie, and what a call owns. No condition. -/
namespace Go.Proofs.YtihmgodiiohdnaaGreatDoor
open Go.RowKit

/-- A clause: its head's fields, and its body. -/
structure Cl where
  k : Int
  n : Int
  s : ByteArray
  kids : Fr
  body : Fr
/-- Head and body as one row of terms. -/
def Cl.row (c : Cl) : Fr := .cons c.k c.n c.s c.kids c.body
/-- Clauses in the memory: five cells each, from cell o of block b on; what they lead to lies in blocks from lo to below hi. -/
def ClAt (w : World) (lo hi : Nat) : List Cl → Nat → Nat → Prop
  | [], _, _ => True
  | c :: cs, b, o => Fits c.k c.n c.s ∧ (∃ (A : Option Addr) (cap : Nat) (B : Option Addr) (capB : Nat),
      (w.cell? ⟨b, o, none⟩ = some (.int .i64 c.k) ∧ w.cell? ⟨b, o + 1, none⟩ = some (.int .i64 c.n) ∧ w.cell? ⟨b, o + 2, none⟩ = some (.string c.s) ∧ w.cell? ⟨b, o + 3, none⟩ = some (.slice A c.kids.len cap) ∧ w.cell? ⟨b, o + 4, none⟩ = some (.slice B c.body.len capB)) ∧
      KidsAt w lo hi c.kids A cap ∧ KidsAt w lo hi c.body B capB) ∧ ClAt w lo hi cs b (o + 5)
def ClS (w : World) (lo hi : Nat) (cs : List Cl) (A : Option Addr) (cap : Nat) : Prop :=
  cs.length ≤ cap ∧ cap ≤ maxLen ∧ (0 < cs.length → ∃ b o, A = some ⟨b, o, none⟩ ∧ lo ≤ b ∧ b < hi ∧ ClAt w lo hi cs b o)
section
variable {w w' : World} {lo hi lo' hi' : Nat}
theorem ClAt.keep (hk : ∀ p : Addr, lo ≤ p.block → p.block < hi → w'.cell? p = w.cell? p) : ∀ (cs : List Cl) (b o : Nat), lo ≤ b → b < hi → ClAt w lo hi cs b o → ClAt w' lo hi cs b o
  | [], _, _, _, _, _ => trivial
  | c :: cs, b, o, hl, hb, h => by
    obtain ⟨hf, ⟨A, cap, B, capB, ⟨c0, c1, c2, c3, c4⟩, hkid, hbd⟩, hr⟩ := h
    exact ⟨hf, ⟨A, cap, B, capB, ⟨(hk _ hl hb).trans c0, (hk _ hl hb).trans c1, (hk _ hl hb).trans c2, (hk _ hl hb).trans c3, (hk _ hl hb).trans c4⟩, hkid.keep hk, hbd.keep hk⟩, ClAt.keep hk cs b (o + 5) hl hb hr⟩
theorem ClAt.more (hL : lo' ≤ lo) (hH : hi ≤ hi') : ∀ (cs : List Cl) (b o : Nat), ClAt w lo hi cs b o → ClAt w lo' hi' cs b o
  | [], _, _, _ => trivial
  | c :: cs, b, o, h => by
    obtain ⟨hf, ⟨A, cap, B, capB, hc, hkid, hbd⟩, hr⟩ := h
    exact ⟨hf, ⟨A, cap, B, capB, hc, hkid.more hL hH, hbd.more hL hH⟩, ClAt.more hL hH cs b (o + 5) hr⟩
theorem ClS.keep {cs : List Cl} {A : Option Addr} {cap : Nat} (h : ClS w lo hi cs A cap) (hk : ∀ p : Addr, lo ≤ p.block → p.block < hi → w'.cell? p = w.cell? p) : ClS w' lo hi cs A cap :=
  ⟨h.1, h.2.1, fun hp => by
    obtain ⟨b, o, e, hl, hb, hr⟩ := h.2.2 hp
    exact ⟨b, o, e, hl, hb, ClAt.keep hk cs b o hl hb hr⟩⟩
theorem ClS.below {cs : List Cl} {A : Option Addr} {cap B : Nat} (h : ClS w lo hi cs A cap) (hb : Below B w w') (hB : hi ≤ B) : ClS w' lo hi cs A cap := h.keep fun p _ hp => hb.cell (by omega)
theorem ClS.more {cs : List Cl} {A : Option Addr} {cap : Nat} (h : ClS w lo hi cs A cap) (hL : lo' ≤ lo) (hH : hi ≤ hi') : ClS w lo' hi' cs A cap :=
  ⟨h.1, h.2.1, fun hp => by
    obtain ⟨b, o, e, hl, hb, hr⟩ := h.2.2 hp
    exact ⟨b, o, e, by omega, by omega, hr.more hL hH⟩⟩
/-- What lies at clause i. -/
def ClElem (w : World) (lo hi : Nat) (c : Cl) (b o : Nat) : Prop :=
  Fits c.k c.n c.s ∧ ∃ (A : Option Addr) (cap : Nat) (B : Option Addr) (capB : Nat), w.cell? ⟨b, o, none⟩ = some (.int .i64 c.k) ∧ w.cell? ⟨b, o + 1, none⟩ = some (.int .i64 c.n) ∧ w.cell? ⟨b, o + 2, none⟩ = some (.string c.s) ∧ w.cell? ⟨b, o + 3, none⟩ = some (.slice A c.kids.len cap) ∧ w.cell? ⟨b, o + 4, none⟩ = some (.slice B c.body.len capB) ∧ KidsAt w lo hi c.kids A cap ∧ KidsAt w lo hi c.body B capB
theorem ClAt.elem : ∀ (i : Nat) (cs : List Cl) (b o : Nat) {c : Cl} {rest : List Cl}, ClAt w lo hi cs b o → cs.drop i = c :: rest → ClElem w lo hi c b (o + i * 5)
  | _, [], _, _, _, _, _, hd => by simp at hd
  | 0, c0 :: cs, b, o, _, _, h, hd => by
    obtain ⟨hf, ⟨A, cap, B, capB, ⟨c0, c1, c2, c3, c4⟩, hkid, hbd⟩, hr⟩ := h
    injection hd with e1 e2
    subst e1
    rw [Nat.zero_mul, Nat.add_zero]
    exact ⟨hf, A, cap, B, capB, c0, c1, c2, c3, c4, hkid, hbd⟩
  | i + 1, c0 :: cs, b, o, _, _, h, hd => by
    have h1 := ClAt.elem i cs b (o + 5) h.2.2 hd
    rw [show o + 5 + i * 5 = o + (i + 1) * 5 by omega] at h1
    exact h1
end

/-- Clauses that a call made: the rows of their terms lie in just the blocks L. -/
def OwnC (w : World) : List Cl → Nat → Nat → List Nat → Prop
  | [], _, _, L => L = []
  | c :: cs, b, o, L => ∃ (A : Option Addr) (cap : Nat) (B : Option Addr) (capB : Nat) (L1 L2 L3 : List Nat), L = L1 ++ (L2 ++ L3) ∧ Fits c.k c.n c.s ∧
      (w.cell? ⟨b, o, none⟩ = some (.int .i64 c.k) ∧ w.cell? ⟨b, o + 1, none⟩ = some (.int .i64 c.n) ∧ w.cell? ⟨b, o + 2, none⟩ = some (.string c.s) ∧ w.cell? ⟨b, o + 3, none⟩ = some (.slice A c.kids.len cap) ∧ w.cell? ⟨b, o + 4, none⟩ = some (.slice B c.body.len capB)) ∧
      OwnS w c.kids A cap L1 ∧ OwnS w c.body B capB L2 ∧ OwnC w cs b (o + 5) L3
section
variable {w w' : World}
theorem OwnC.keep : ∀ (cs : List Cl) (b o : Nat) (L : List Nat), OwnC w cs b o L → (∀ j, j < cs.length * 5 → w'.cell? ⟨b, o + j, none⟩ = w.cell? ⟨b, o + j, none⟩) → (∀ x ∈ L, w'.heap[x]? = w.heap[x]?) → OwnC w' cs b o L
  | [], _, _, _, h, _, _ => h
  | c :: cs, b, o, L, h, hc, hL => by
    obtain ⟨A, cap, B, capB, L1, L2, L3, rfl, hf, ⟨c0, c1, c2, c3, c4⟩, ho, hob, hr⟩ := h
    simp only [List.length_cons] at hc
    refine ⟨A, cap, B, capB, L1, L2, L3, rfl, hf, ⟨(hc 0 (by omega)).trans c0, (hc 1 (by omega)).trans c1, (hc 2 (by omega)).trans c2, (hc 3 (by omega)).trans c3, (hc 4 (by omega)).trans c4⟩, ho.keep fun x hx => hL x (by simp [hx]), hob.keep fun x hx => hL x (by simp [hx]), OwnC.keep cs b (o + 5) L3 hr (fun j hj => ?_) fun x hx => hL x (by simp [hx])⟩
    have := hc (5 + j) (by omega)
    rwa [← Nat.add_assoc] at this
theorem OwnC.snoc {c : Cl} {A B : Option Addr} {cap capB : Nat} {L1' L2' : List Nat} (hf : Fits c.k c.n c.s) (hs : OwnS w c.kids A cap L1') (hsb : OwnS w c.body B capB L2') : ∀ (cs : List Cl) (b o : Nat) (L : List Nat), OwnC w cs b o L →
    w.cell? ⟨b, o + cs.length * 5, none⟩ = some (.int .i64 c.k) → w.cell? ⟨b, o + cs.length * 5 + 1, none⟩ = some (.int .i64 c.n) → w.cell? ⟨b, o + cs.length * 5 + 2, none⟩ = some (.string c.s) → w.cell? ⟨b, o + cs.length * 5 + 3, none⟩ = some (.slice A c.kids.len cap) → w.cell? ⟨b, o + cs.length * 5 + 4, none⟩ = some (.slice B c.body.len capB) →
    OwnC w (cs ++ [c]) b o (L ++ (L1' ++ L2'))
  | [], b, o, L, h, c0, c1, c2, c3, c4 => by
    have h' : L = [] := h
    subst h'
    exact ⟨A, cap, B, capB, L1', L2', [], by simp, hf, ⟨c0, c1, c2, c3, c4⟩, hs, hsb, rfl⟩
  | c' :: cs, b, o, L, h, c0, c1, c2, c3, c4 => by
    obtain ⟨A', cap', B', capB', L1, L2, L3, rfl, hf', hc', ho', hob', hr⟩ := h
    have e : o + (c' :: cs).length * 5 = o + 5 + cs.length * 5 := by simp only [List.length_cons]; omega
    rw [e] at c0 c1 c2 c3 c4
    exact ⟨A', cap', B', capB', L1, L2, L3 ++ (L1' ++ L2'), by simp, hf', hc', ho', hob', OwnC.snoc hf hs hsb cs b (o + 5) L3 hr c0 c1 c2 c3 c4⟩
theorem OwnC.row {lo hi : Nat} : ∀ (cs : List Cl) (b o : Nat) (L : List Nat), OwnC w cs b o L → (∀ x ∈ L, lo ≤ x ∧ x < hi) → ClAt w lo hi cs b o
  | [], _, _, _, _, _ => trivial
  | c :: cs, b, o, L, h, hL => by
    obtain ⟨A, cap, B, capB, L1, L2, L3, rfl, hf, hc, ho, hob, hr⟩ := h
    exact ⟨hf, ⟨A, cap, B, capB, hc, ho.kids fun x hx => hL x (by simp [hx]), hob.kids fun x hx => hL x (by simp [hx])⟩, OwnC.row cs b (o + 5) L3 hr fun x hx => hL x (by simp [hx])⟩
theorem OwnC.lt : ∀ (cs : List Cl) (b o : Nat) (L : List Nat), OwnC w cs b o L → ∀ x ∈ L, x < w.heap.size
  | [], _, _, L, h, x, hx => by
    have h' : L = [] := h
    subst h'
    cases hx
  | c :: cs, b, o, L, h, x, hx => by
    obtain ⟨A, cap, B, capB, L1, L2, L3, rfl, hf, hc, ho, hob, hr⟩ := h
    rcases List.mem_append.1 hx with h | h
    · exact ho.lt x h
    · rcases List.mem_append.1 h with h | h
      · exact hob.lt x h
      · exact OwnC.lt cs b (o + 5) L3 hr x h
end
/-- The slice value owns the clauses, in the blocks L. -/
def OwnCS (w : World) (cs : List Cl) (A : Option Addr) (cap : Nat) (L : List Nat) : Prop :=
  cs.length ≤ cap ∧ cap ≤ maxLen ∧ ∃ b L' xs, A = some ⟨b, 0, none⟩ ∧ L = b :: L' ∧ Blk w b 32 xs ∧ xs.size = cap * 5 ∧ OwnC w cs b 0 L'
theorem OwnCS.keep {w w' : World} {cs : List Cl} {A : Option Addr} {cap : Nat} {L : List Nat} (h : OwnCS w cs A cap L) (hL : ∀ x ∈ L, w'.heap[x]? = w.heap[x]?) : OwnCS w' cs A cap L := by
  obtain ⟨h2, h3, b, L', xs, rfl, rfl, hb, hs, ho⟩ := h
  have hblk := hL b (by simp)
  exact ⟨h2, h3, b, L', xs, rfl, rfl, hb.keep hblk, hs, OwnC.keep cs b 0 L' ho (fun j _ => World.cell?_of_block (a := ⟨b, 0 + j, none⟩) hblk) fun x hx => hL x (by simp [hx])⟩
theorem OwnCS.below {w w' : World} {cs : List Cl} {A : Option Addr} {cap B : Nat} {L : List Nat} (h : OwnCS w cs A cap L) (hb : Below B w w') (hL : ∀ x ∈ L, x < B) : OwnCS w' cs A cap L := h.keep fun x hx => hb.block x (hL x hx)
theorem OwnCS.clauses {w : World} {cs : List Cl} {A : Option Addr} {cap lo hi : Nat} {L : List Nat} (h : OwnCS w cs A cap L) (hL : ∀ x ∈ L, lo ≤ x ∧ x < hi) : ClS w lo hi cs A cap := by
  obtain ⟨h2, h3, b, L', xs, rfl, rfl, hb, hs, ho⟩ := h
  exact ⟨h2, h3, fun _ => ⟨b, 0, rfl, (hL b (by simp)).1, (hL b (by simp)).2, OwnC.row cs b 0 L' ho fun x hx => hL x (by simp [hx])⟩⟩
theorem OwnCS.lt {w : World} {cs : List Cl} {A : Option Addr} {cap : Nat} {L : List Nat} (h : OwnCS w cs A cap L) : ∀ x ∈ L, x < w.heap.size := by
  obtain ⟨h2, h3, b, L', xs, rfl, rfl, hb, hs, ho⟩ := h
  intro x hx
  rcases List.mem_cons.1 hx with rfl | hx
  · exact hb.lt
  · exact OwnC.lt cs b 0 L' ho x hx
/-- What a call leaves that made a row of clauses. -/
def MadeC (w : World) (cs : List Cl) (A : Option Addr) (cap : Nat) (w' : World) : Prop :=
  ∃ L, OwnCS w' cs A cap L ∧ L.Nodup ∧ (∀ x ∈ L, w.heap.size ≤ x ∧ x < w'.heap.size) ∧ Below w.heap.size w w'
theorem clauses_of_made {w w' : World} {cs : List Cl} {A : Option Addr} {cap : Nat} (h : MadeC w cs A cap w') : ClS w' w.heap.size w'.heap.size cs A cap ∧ Below w.heap.size w w' := by
  obtain ⟨L, ho, _, hL, hb⟩ := h
  exact ⟨ho.clauses hL, hb⟩
/-- What a call leaves that made one clause. -/
def MadeCl (w : World) (c : Cl) (A : Option Addr) (cap : Nat) (B : Option Addr) (capB : Nat) (w' : World) : Prop :=
  ∃ L1 L2, OwnS w' c.kids A cap L1 ∧ OwnS w' c.body B capB L2 ∧ (L1 ++ L2).Nodup ∧ (∀ x ∈ L1 ++ L2, w.heap.size ≤ x ∧ x < w'.heap.size) ∧ Below w.heap.size w w'
theorem MadeCl.at_ {w w' : World} {c : Cl} {A B : Option Addr} {cap capB : Nat} (h : MadeCl w c A cap B capB w') : KidsAt w' w.heap.size w'.heap.size c.kids A cap ∧ KidsAt w' w.heap.size w'.heap.size c.body B capB ∧ Below w.heap.size w w' := by
  obtain ⟨L1, L2, h1, h2, _, hL, hb⟩ := h
  exact ⟨h1.kids fun x hx => hL x (by simp [hx]), h2.kids fun x hx => hL x (by simp [hx]), hb⟩
end Go.Proofs.YtihmgodiiohdnaaGreatDoor

/- spec.l1Copy, with how the row of its answer lies. Condition: the term lies in memory. -/
namespace Go.Proofs.YtihmgodiiohdnaaGreatDoor
open Go.RowKit

theorem RowP.lower {w : World} {base base' : Nat} {v : Value} {f : Fr} (h : RowP base v f w) (hb : base' ≤ base) : RowP base' v f w := by
  obtain ⟨xs, L, ho, hd, hn, hL, hv⟩ := h
  refine ⟨xs, L, ⟨ho.1, ?_⟩, hd, hn, fun x hx => ⟨Nat.le_trans hb (hL x hx).1, (hL x hx).2⟩, hv⟩
  rcases ho.2 with h | ⟨g, cap, cur, rfl, hg, hr⟩
  · exact .inl h
  · exact .inr ⟨g, cap, cur, rfl, Nat.le_trans hb hg, hr⟩
/-- What spec.l1Copy leaves. -/
def MadeP (w : World) (k n : Int) (s : ByteArray) (f : Fr) (e : Ending) (w' : World) : Prop := ∃ v, e = .returned (.agg #[.int .i64 k, .int .i64 n, .string s, v]) ∧ RowP w.heap.size v f w' ∧ Below w.heap.size w w'

set_option maxRecDepth 100000 in
set_option maxHeartbeats 8000000 in
/-- spec.l1Copy, and how its row lies. -/
theorem cpP_any (s : ByteArray) (f : Fr) (k n : Int) (A : Option Addr) (cap lo hi : Nat) (w : World) (hk : KidsAt w lo hi f A cap) (hh : hi ≤ w.heap.size) (hnd : nodes f ≤ 1048576) :
    Calls Tryz.prog 60 #[.agg #[.int .i64 k, .int .i64 n, .string s, .slice A f.len cap]] w fun e w' => MadeP w k n s f e w' := by
  have HK := Lib.hid hk
  have HHI := Lib.hid hh
  have HND := Lib.hid hnd
  have hl := hk.1
  have hm := hk.2.1
  have hl2 : f.len ≤ 1048576 := by have := len_le_nodes f; omega
  have hst : CpP w k n s f A cap w.heap.size 0 (.slice none 0 0) (((w.alloc (.cells #[.int .i64 k, .int .i64 n, .string s, .slice A f.len cap] 30)).alloc (.cells #[.int .i64 0, .int .i64 0, .string ⟨#[]⟩, .slice none 0 0] 30)).alloc (.cells #[.int .i64 k, .int .i64 n, .string s, .slice none 0 0] 30)) := by
    refine ⟨((Blk.new w _ _).alloc _).alloc _, ?_, ?_, RowP.nil _ _, (two_alloc w _ _).alloc (by simp; omega) _, by simp, Nat.le_refl _⟩
    · have h := (Blk.new (w.alloc (.cells #[.int .i64 k, .int .i64 n, .string s, .slice A f.len cap] 30)) 30 #[.int .i64 0, .int .i64 0, .string ⟨#[]⟩, .slice none 0 0]).alloc (.cells #[.int .i64 k, .int .i64 n, .string s, .slice none 0 0] 30)
      simpa using h
    · have h := Blk.new ((w.alloc (.cells #[.int .i64 k, .int .i64 n, .string s, .slice A f.len cap] 30)).alloc (.cells #[.int .i64 0, .int .i64 0, .string ⟨#[]⟩, .slice none 0 0] 30)) 30 #[.int .i64 k, .int .i64 n, .string s, .slice none 0 0]
      simpa using h
  unfold maxLen at hm
  clear hk hh hnd
  obtain ⟨i0, hi0, hz0, hz1, hz2⟩ := info_parts infoT
  generalize hn : f.len = len at *
  have HN := Lib.hid hn
  have HST := Lib.hid hst
  clear hn hst
  go_enter Tryz.func60, Tryz.ntmps60
  go_wp2_with fail
  go_loopw [4] (fun i wr => ∃ (j : Nat) (v : Value), j ≤ len ∧ i = .int .i64 j ∧ CpP w k n s f A cap w.heap.size j v wr) (fun i _ => len - (intOf i).toNat)
  case atStart => exact ⟨0, .slice none 0 0, Nat.zero_le _, rfl, HST.out⟩
  case round =>
    obtain ⟨j, v, hj, rfl, hp⟩ := hrel
    have HP := Lib.hid hp
    obtain ⟨b0, b1, b2, hr, hb, hs, hH⟩ := hp
    have a3 := b0.cell 3
    simp only [List.getElem?_toArray, List.getElem?_cons_zero, List.getElem?_cons_succ, HN.out] at a3
    by_cases hlt : j < len
    · obtain ⟨kk, nn, s', kids, hd⟩ := Fr.drop_cons j f (by rw [HN.out]; exact hlt)
      obtain ⟨b, o, rfl, hlb, hbb, hrow⟩ := HK.out.2.2 (by rw [HN.out]; omega)
      obtain ⟨hfit, A', cap', c0, c1, c2, c3, hkid⟩ := hrow.elem hd
      have hlo : (⟨b, o, none⟩ : Addr).block < w.heap.size := Nat.lt_of_lt_of_le hbb HHI.out
      have k0 := (hb.cell (p := ⟨b, o + j * 4, none⟩) hlo).trans c0
      have k1 := (hb.cell (p := ⟨b, o + j * 4 + 1, none⟩) hlo).trans c1
      have k2 := (hb.cell (p := ⟨b, o + j * 4 + 2, none⟩) hlo).trans c2
      have k3 := (hb.cell (p := ⟨b, o + j * 4 + 3, none⟩) hlo).trans c3
      obtain ⟨xs, L, hown, hD, hN, hL, hv⟩ := hr
      rw [Fr.len_take j f (by rw [HN.out]; omega)] at hown
      have hvl := hown.lt
      have x3 := b2.cell 3
      have xf := b2.frozen 3
      simp only [List.getElem?_toArray, List.getElem?_cons_zero, List.getElem?_cons_succ] at x3
      have hsz : w.heap.size + 1 + 1 < wr.heap.size := by omega
      have C2 : ∀ w1, Below wr.heap.size wr w1 → Calls Tryz.prog 60 #[.agg #[.int .i64 kk, .int .i64 nn, .string s', .slice A' kids.len cap']] w1 fun e w' => MadeT w1 kk nn s' kids e w' := fun w1 hb1 => by
        have hb2 := hb.trans (hb1.mono hb.size)
        refine cpT_any s' kids kk nn A' cap' lo hi w1 (hkid.below hb2 HHI.out) (Nat.le_trans HHI.out hb2.size) hfit ?_
        have := nodes_elem j f hd
        have := HND.out
        omega
      have STEP := fun (A2 : Option Addr) (cap2 : Nat) (w1 w2 w4 : World) (g cap4 : Nat) hm hb2 hg ho hat => HP.out.step (w1 := w1) (w2 := w2) (w4 := w4) (A' := A2) (cap' := cap2) (g := g) (cap4 := cap4) hd (by rw [HN.out]; exact hlt) hD hN hL hv hvl hfit hm hb2 hg ho hat
      have H2 := Lib.hid C2
      have HSTEP := Lib.hid STEP
      have HOWN := Lib.hid hown
      have hne : some (w.heap.size + 1 + 1) ≠ v.ownBlock := fun e => by have := (hvl _ e.symm).1; omega
      have keep : ∀ w2, Below wr.heap.size wr w2 → w2.ownsRow (w.heap.size + 1 + 1 + 1) 30 4 v j xs := fun w2 hb2 =>
        hown.kept (row := none) ⟨hb2.os, hb2.tape, hb2.output, hb2.size, fun k hk _ => hb2.block k hk⟩ (by
          cases h : v.ownBlock with
          | none => exact .inl rfl
          | some g => exact .inr (by simp))
      have HNE := Lib.hid hne
      have HKEEP := Lib.hid keep
      have HB2 := Lib.hid b2
      have hHs : w.heap.size ≤ wr.heap.size := by omega
      have ij0 : (0 : Int) ≤ (j : Int) := Int.natCast_nonneg _
      have ij1 : (j : Int) < (len : Int) := by omega
      clear C2 STEP hown hD hN hL hv hvl hb hH b0 b1 b2 hrow hkid hd c0 c1 c2 c3 hfit hlo hne keep
      go_wp2_with fail
      go_region_law (first
        | (refine step_append_lies _ (by rfl) _ _ _ (by rfl) (w.heap.size + 1 + 1 + 1) 30 i0 _ 4 56 Tryz.underlying28 hi0 hz0 hz1 hz2 rfl (by omega) v j xs (by rfl) (HO2.out.alloc _)
             ⟨w2.heap.size, 0, none⟩ 1 1 [.int .i64 kk, .int .i64 nn, .string s', .slice A2 kids.len cap2] (by rfl) (by rfl) (World.news_of_block (cs := #[.int .i64 kk, .int .i64 nn, .string s', .slice A2 kids.len cap2]) (fr := (0, 0)) (heap_alloc_new w2 _)) (by simp [Value.oneCell'])
             (by omega) (by unfold maxLen; omega) (by omega) (by simp; omega) (w2.heap.size + 1) (by simp) ?_
           intro g cap4 w4 hown4 hgrow hat hlt4
           have q4 := (HQ2.out.alloc (.cells #[.int .i64 kk, .int .i64 nn, .string s', .slice A2 kids.len cap2] 30)).keep (hgrow.block _ (by simp; omega) HNE.out)
           have z3 := q4.cell 3
           have zf := q4.frozen 3
           simp only [List.getElem?_toArray, List.getElem?_cons_zero, List.getElem?_cons_succ] at z3
           clear q4
           have HOWN4 := Lib.hid hown4
           have HGROW := Lib.hid hgrow
           have HAT := Lib.hid hat
           clear hown4 hgrow hat)
        | (go_simp
           go_at_call 60
           refine (H2.out _ (Below.refl _ _).drew).mono ?_
           rintro e w2 ⟨A2, cap2, rfl, hm2⟩
           have hd2 : Below wr.heap.size wr w2 := (Below.refl wr.heap.size wr).drew.trans (by obtain ⟨L, _, _, _, h⟩ := hm2; exact h)
           have y3 := (hd2.cell (p := ⟨w.heap.size + 1 + 1, 3, none⟩) hsz).trans x3
           have hs2 : wr.heap.size ≤ w2.heap.size := hd2.size
           have HO2 := Lib.hid (HKEEP.out w2 hd2)
           have HQ2 := Lib.hid (HB2.out.below hd2 hsz)
           have y4 := (HQ2.out.alloc (.cells #[.int .i64 kk, .int .i64 nn, .string s', .slice A2 kids.len cap2] 30)).cell 3
           simp only [List.getElem?_toArray, List.getElem?_cons_zero, List.getElem?_cons_succ] at y4
           have HM := Lib.hid hm2
           clear hm2 hd2))
      all_goals
        go_wp2_with fail
        go_roundw
        case rel => exact ⟨j + 1, _, by omega, by go_num, HSTEP.out A2 cap2 w2 _ w4 g cap4 (drew_made HM.out) ((Below.refl _ _).alloc (Nat.le_refl _) _) HGROW.out HOWN4.out (by rw [show (w2.alloc (.cells #[.int .i64 kk, .int .i64 nn, .string s', .slice A2 kids.len cap2] 30)).heap.size = w2.heap.size + 1 by simp]; exact HAT.out)⟩
        case measure => simp [intOf]; omega
    · obtain rfl : j = len := by omega
      have x0 := b2.cell 0
      have x1 := b2.cell 1
      have x2 := b2.cell 2
      have x3 := b2.cell 3
      have d0 := b1.cell 0
      have d1 := b1.cell 1
      have d2 := b1.cell 2
      have d3 := b1.cell 3
      have g0 := b1.frozen 0
      have g1 := b1.frozen 1
      have g2 := b1.frozen 2
      have g3 := b1.frozen 3
      simp only [List.getElem?_toArray, List.getElem?_cons_zero, List.getElem?_cons_succ] at x0 x1 x2 x3 d0 d1 d2 d3
      rw [← HN.out, Fr.take_len] at hr
      obtain ⟨A2, cap2, rfl⟩ := hr.form
      have HB1 := Lib.hid b1
      have HR := Lib.hid hr
      have HB := Lib.hid hb
      clear b0 b1 b2 hr hb HP
      go_wp2_with fail
      have e1 := (((HB1.out.set_ 0 (.int .i64 k)).set_ 1 (.int .i64 n)).set_ 2 (.string s)).set_ 3 (.slice A2 f.len cap2)
      have hr2 := (((HR.out.set_ (p := ⟨w.heap.size + 1, 0, none⟩) (by simp) (.int .i64 k)).set_ (p := ⟨w.heap.size + 1, 1, none⟩) (by simp) (.int .i64 n)).set_ (p := ⟨w.heap.size + 1, 2, none⟩) (by simp) (.string s)).set_ (p := ⟨w.heap.size + 1, 3, none⟩) (by simp) (.slice A2 f.len cap2)
      refine bodyPost_ret (v := .agg #[.int .i64 k, .int .i64 n, .string s, .slice A2 f.len cap2]) ?_ rfl ⟨.slice A2 f.len cap2, rfl, hr2.lower (by omega), ?_⟩
      · exact results_cell_row Tryz.results60 _ _ (w.heap.size + 1) _ _ _ _ rfl e1 Tryz.underlying30 rfl (by kernel_rfl)
      · exact (((HB.out.setCell (p := ⟨w.heap.size + 1, 0, none⟩) (by simp) _).setCell (p := ⟨w.heap.size + 1, 1, none⟩) (by simp) _).setCell (p := ⟨w.heap.size + 1, 2, none⟩) (by simp) _).setCell (p := ⟨w.heap.size + 1, 3, none⟩) (by simp) _
end Go.Proofs.YtihmgodiiohdnaaGreatDoor

/- spec.l4Copy. Condition: the clause lies in memory. -/
namespace Go.Proofs.YtihmgodiiohdnaaGreatDoor
open Go.RowKit

theorem dset5 {w : World} {g : Nat} {t : TypeId} {x0 x1 x2 x3 x4 : Value} (h : Blk w g t #[x0, x1, x2, x3, x4]) (a b c d e : Value) : Blk (((((w.setCell ⟨g, 0, none⟩ a).setCell ⟨g, 1, none⟩ b).setCell ⟨g, 2, none⟩ c).setCell ⟨g, 3, none⟩ d).setCell ⟨g, 4, none⟩ e) g t #[a, b, c, d, e] := ((((h.set_ 0 a).set_ 1 b).set_ 2 c).set_ 3 d).set_ 4 e
theorem dcells5 {w : World} {g : Nat} {t : TypeId} {a b c d e : Value} (h : Blk w g t #[a, b, c, d, e]) :
    w.cell? ⟨g, 0, none⟩ = some a ∧ w.cell? ⟨g, 1, none⟩ = some b ∧ w.cell? ⟨g, 2, none⟩ = some c ∧ w.cell? ⟨g, 3, none⟩ = some d ∧ w.cell? ⟨g, 4, none⟩ = some e := ⟨h.cell 0, h.cell 1, h.cell 2, h.cell 3, h.cell 4⟩
theorem dfrozen5 {w : World} {g : Nat} {t : TypeId} {cs : Array Value} (h : Blk w g t cs) :
    w.frozen? ⟨g, 0, none⟩ = false ∧ w.frozen? ⟨g, 1, none⟩ = false ∧ w.frozen? ⟨g, 2, none⟩ = false ∧ w.frozen? ⟨g, 3, none⟩ = false ∧ w.frozen? ⟨g, 4, none⟩ = false := ⟨h.frozen 0, h.frozen 1, h.frozen 2, h.frozen 3, h.frozen 4⟩
/-- The loop's relation: the argument lies in block H, the copy's fields in block G; j goals are copied. -/
def CcP (w : World) (c : Cl) (A : Option Addr) (cap : Nat) (B : Option Addr) (capB H G : Nat) (A1 : Option Addr) (cp1 : Nat) (L1 : List Nat) (j : Nat) (v : Value) (wr : World) : Prop :=
  Blk wr H 32 #[.int .i64 c.k, .int .i64 c.n, .string c.s, .slice A c.kids.len cap, .slice B c.body.len capB] ∧ Blk wr (H + 1) 32 #[.int .i64 0, .int .i64 0, .string ⟨#[]⟩, .slice none 0 0, .slice none 0 0] ∧
  Blk wr G 32 #[.int .i64 c.k, .int .i64 c.n, .string c.s, .slice A1 c.kids.len cp1, v] ∧ (OwnS wr c.kids A1 cp1 L1 ∧ L1.Nodup ∧ ∀ x ∈ L1, H + 2 ≤ x ∧ x < G) ∧ RowP (G + 1) v (c.body.take j) wr ∧ Below w.heap.size w wr ∧ G + 1 ≤ wr.heap.size ∧ w.heap.size ≤ H ∧ H + 2 ≤ G
theorem CcP.step {w wr w1 w2 w4 : World} {c : Cl} {A : Option Addr} {cap : Nat} {B : Option Addr} {capB H G : Nat} {A1 : Option Addr} {cp1 : Nat} {L1 : List Nat} {j : Nat} {v : Value} {xs : List Value} {L : List Nat} {kk nn : Int} {s' : ByteArray} {kids rest : Fr} {A' : Option Addr} {cap' g cap4 : Nat}
    (h : CcP w c A cap B capB H G A1 cp1 L1 j v wr) (hd : c.body.drop j = .cons kk nn s' kids rest) (hj : j < c.body.len) (hD : Desc wr (c.body.take j) xs L) (hN : L.Nodup) (hL : ∀ x ∈ L, G + 1 ≤ x ∧ x < wr.heap.size) (hv : ∀ g, v.ownBlock = some g → g ∉ L)
    (hvl : ∀ g, v.ownBlock = some g → G + 1 ≤ g ∧ g < wr.heap.size) (hf : Fits kk nn s') (hm : Made wr kids A' cap' w1) (hb2 : Below w1.heap.size w1 w2) (hg : w2.grownBy w4 v.ownBlock)
    (ho : w4.ownsRow (G + 1) 30 4 (.slice (some ⟨g, 0, none⟩) (j + 1) cap4) (j + 1) (xs ++ [.int .i64 kk, .int .i64 nn, .string s', .slice A' kids.len cap'])) (hat : v.ownBlock = some g ∨ g = w2.heap.size) :
    CcP w c A cap B capB H G A1 cp1 L1 (j + 1) (.slice (some ⟨g, 0, none⟩) (j + 1) cap4) (w4.setCell ⟨G, 4, none⟩ (.slice (some ⟨g, 0, none⟩) (j + 1) cap4)) := by
  obtain ⟨b0, b1, b2, ⟨o1, o2, o3⟩, hr, hb, hs, hH, hG⟩ := h
  have hlen : (c.body.take j).len = j := Fr.len_take j c.body (by omega)
  have hm' := hm
  obtain ⟨_, _, _, _, hb1⟩ := hm'
  have far : ∀ x, x < G + 1 → w4.heap[x]? = wr.heap[x]? := fun x hx => by
    have h1 := hb1.size
    have h2 := hb2.size
    rw [hg.block x (by omega) fun e => by have := (hvl x e.symm).1; omega, hb2.block x (by omega), hb1.block x (by omega)]
  have hbw : Below w.heap.size w w4 := by
    have h1 := hb1.trans (hb2.mono hb1.size)
    have h2 := hb.trans (h1.mono hb.size)
    refine h2.grown hg h2.size fun g hg => ?_
    have := (hvl g hg).1; omega
  have hst := RowP.step (base := G + 1) hD hN hL hv (fun g hg => (hvl g hg).2) hs hf hm hb2 hg (by rw [hlen]; exact ho) hat
  rw [hlen, ← Fr.take_succ j c.body hd] at hst
  refine ⟨(b0.keep (far H (by omega))).far (by simp; omega) _, (b1.keep (far (H + 1) (by omega))).far (by simp; omega) _, (b2.keep (far G (by omega))).set_ 4 _, ⟨o1.keep fun x hx => ?_, o2, o3⟩, hst.set_ (by simp) _, hbw.setCell (by simp; omega) _, ?_, hH, hG⟩
  · have := o3 x hx
    rw [heap_setCell_other _ _ _ _ (show x ≠ G by omega), far x (by omega)]
  have h1 := hb1.size
  have h2 := hb2.size
  have h3 := hg.size
  simp only [World.setCell, Array.size_modify]
  omega
set_option maxRecDepth 100000 in
set_option maxHeartbeats 8000000 in
/-- What l4Copy leaves: the body is a row made by append. -/
def CuP (w : World) (c : Cl) (e : Ending) (w' : World) : Prop :=
  ∃ (A2 : Option Addr) (cap2 : Nat) (v : Value) (G : Nat) (L1 : List Nat), e = .returned (.agg #[.int .i64 c.k, .int .i64 c.n, .string c.s, .slice A2 c.kids.len cap2, v]) ∧ (OwnS w' c.kids A2 cap2 L1 ∧ L1.Nodup ∧ ∀ x ∈ L1, w.heap.size ≤ x ∧ x < G) ∧ RowP (G + 1) v c.body w' ∧ G + 1 ≤ w'.heap.size ∧ w.heap.size + 2 ≤ G ∧ Below w.heap.size w w'
set_option maxRecDepth 100000 in
set_option maxHeartbeats 8000000 in
/-- spec.l4Copy. -/
theorem cuC_any (c : Cl) (A B : Option Addr) (cap capB lo hi : Nat) (w : World) (hk : KidsAt w lo hi c.kids A cap) (hkb : KidsAt w lo hi c.body B capB) (hh : hi ≤ w.heap.size) (hf : Fits c.k c.n c.s) (hnd : nodes c.kids ≤ 1048576) (hndb : nodes c.body ≤ 1048576) :
    Calls Tryz.prog 39 #[.agg #[.int .i64 c.k, .int .i64 c.n, .string c.s, .slice A c.kids.len cap, .slice B c.body.len capB]] w fun e w' => CuP w c e w' := by
  have hb2 := two_alloc w (.cells #[.int .i64 c.k, .int .i64 c.n, .string c.s, .slice A c.kids.len cap, .slice B c.body.len capB] 32) (.cells #[.int .i64 0, .int .i64 0, .string ⟨#[]⟩, .slice none 0 0, .slice none 0 0] 32)
  have b0 := (Blk.new w 32 #[.int .i64 c.k, .int .i64 c.n, .string c.s, .slice A c.kids.len cap, .slice B c.body.len capB]).alloc (.cells #[.int .i64 0, .int .i64 0, .string ⟨#[]⟩, .slice none 0 0, .slice none 0 0] 32)
  have b1 : Blk ((w.alloc (.cells #[.int .i64 c.k, .int .i64 c.n, .string c.s, .slice A c.kids.len cap, .slice B c.body.len capB] 32)).alloc (.cells #[.int .i64 0, .int .i64 0, .string ⟨#[]⟩, .slice none 0 0, .slice none 0 0] 32)) (w.heap.size + 1) 32 #[.int .i64 0, .int .i64 0, .string ⟨#[]⟩, .slice none 0 0, .slice none 0 0] := by
    have h := Blk.new (w.alloc (.cells #[.int .i64 c.k, .int .i64 c.n, .string c.s, .slice A c.kids.len cap, .slice B c.body.len capB] 32)) 32 #[.int .i64 0, .int .i64 0, .string ⟨#[]⟩, .slice none 0 0, .slice none 0 0]
    simpa using h
  have hs2 : ((w.alloc (.cells #[.int .i64 c.k, .int .i64 c.n, .string c.s, .slice A c.kids.len cap, .slice B c.body.len capB] 32)).alloc (.cells #[.int .i64 0, .int .i64 0, .string ⟨#[]⟩, .slice none 0 0, .slice none 0 0] 32)).heap.size = w.heap.size + 2 := by simp
  have C1 := cpT_any c.s c.kids c.k c.n A cap lo hi _ (hk.below hb2 hh) (Nat.le_trans hh hb2.size) hf hnd
  have hl := hkb.1
  have hm := hkb.2.1
  have hl2 : c.body.len ≤ 1048576 := by have := len_le_nodes c.body; omega
  have H1 := Lib.hid C1
  have HB2 := Lib.hid hb2
  have HQ0 := Lib.hid b0
  have HQ1 := Lib.hid b1
  have HS2 := Lib.hid hs2
  have HK := Lib.hid hkb
  have HHI := Lib.hid hh
  have HND := Lib.hid hndb
  clear C1 hk hkb hh hf hnd hndb hb2 b0 b1 hs2
  unfold maxLen at hm
  obtain ⟨i0, hi0, hz0, hz1, hz2⟩ := info_parts infoT
  go_enter Tryz.func39, Tryz.ntmps39
  go_wp2_with fail
  refine H1.out.mono ?_
  rintro e w3 ⟨A1, cp1, rfl, hm1⟩
  have hst : CcP w c A cap B capB w.heap.size w3.heap.size A1 cp1 (hm1.choose) 0 (.slice none 0 0) (w3.alloc (.cells #[.int .i64 c.k, .int .i64 c.n, .string c.s, .slice A1 c.kids.len cp1, .slice none 0 0] 32)) := by
    obtain ⟨ho, hn, hL, hb⟩ := hm1.choose_spec
    have hb4 := (Below.refl w3.heap.size w3).alloc (Nat.le_refl _) (.cells #[.int .i64 c.k, .int .i64 c.n, .string c.s, .slice A1 c.kids.len cp1, .slice none 0 0] 32)
    have hb5 := hb.trans (hb4.mono hb.size)
    refine ⟨HQ0.out.below hb5 HQ0.out.lt, HQ1.out.below hb5 HQ1.out.lt, Blk.new w3 _ _, ⟨ho.below hb4 fun x hx => (hL x hx).2, hn, fun x hx => ⟨by have := (hL x hx).1; have := HS2.out; omega, (hL x hx).2⟩⟩, RowP.nil _ _, HB2.out.trans (hb5.mono HB2.out.size), by simp, Nat.le_refl _, by have := hb.size; have := HS2.out; omega⟩
  generalize hm1.choose = L1 at *
  have HST := Lib.hid hst
  clear hst hm1 HQ0 HQ1 HB2 H1
  go_wp2_with fail
  generalize w3.alloc (.cells #[.int .i64 c.k, .int .i64 c.n, .string c.s, .slice A1 c.kids.len cp1, .slice none 0 0] 32) = w4 at *
  generalize w3.heap.size = G at *
  generalize hn : c.body.len = len at *
  have HN := Lib.hid hn
  clear hn
  go_loopw [4] (fun i wr => ∃ (j : Nat) (v : Value), j ≤ len ∧ i = .int .i64 j ∧ CcP w c A cap B capB w.heap.size G A1 cp1 L1 j v wr) (fun i _ => len - (intOf i).toNat)
  case atStart => exact ⟨0, .slice none 0 0, Nat.zero_le _, rfl, HST.out⟩
  case round =>
    clear HST
    obtain ⟨j, v, hj, rfl, hp⟩ := hrel
    have HP := Lib.hid hp
    obtain ⟨b0, b1, b2, ho1, hr, hb, hs, hH, hG⟩ := hp
    have a4 := b0.cell 4
    simp only [List.getElem?_toArray, List.getElem?_cons_zero, List.getElem?_cons_succ, HN.out] at a4
    by_cases hlt : j < len
    · obtain ⟨kk, nn, s', kids, hd⟩ := Fr.drop_cons j c.body (by rw [HN.out]; exact hlt)
      obtain ⟨b, o, rfl, hlb, hbb, hrow⟩ := HK.out.2.2 (by rw [HN.out]; omega)
      obtain ⟨hfit, A', cap', c0, c1, c2, c3, hkid⟩ := hrow.elem hd
      have hlo : (⟨b, o, none⟩ : Addr).block < w.heap.size := Nat.lt_of_lt_of_le hbb HHI.out
      have k0 := (hb.cell (p := ⟨b, o + j * 4, none⟩) hlo).trans c0
      have k1 := (hb.cell (p := ⟨b, o + j * 4 + 1, none⟩) hlo).trans c1
      have k2 := (hb.cell (p := ⟨b, o + j * 4 + 2, none⟩) hlo).trans c2
      have k3 := (hb.cell (p := ⟨b, o + j * 4 + 3, none⟩) hlo).trans c3
      obtain ⟨xs, L, hown, hD, hN, hL, hv⟩ := hr
      rw [Fr.len_take j c.body (by rw [HN.out]; omega)] at hown
      have hvl := hown.lt
      have x4 := b2.cell 4
      have xf := b2.frozen 4
      simp only [List.getElem?_toArray, List.getElem?_cons_zero, List.getElem?_cons_succ] at x4
      have hsz : G < wr.heap.size := by omega
      have C2 : ∀ w1, Below wr.heap.size wr w1 → Calls Tryz.prog 60 #[.agg #[.int .i64 kk, .int .i64 nn, .string s', .slice A' kids.len cap']] w1 fun e w' => MadeT w1 kk nn s' kids e w' := fun w1 hb1 => by
        have hb2 := hb.trans (hb1.mono hb.size)
        refine cpT_any s' kids kk nn A' cap' lo hi w1 (hkid.below hb2 HHI.out) (Nat.le_trans HHI.out hb2.size) hfit ?_
        have := nodes_elem j c.body hd
        have := HND.out
        omega
      have STEP := fun (A2 : Option Addr) (cap2 : Nat) (w1 w2 w4 : World) (g cap4 : Nat) hm hb2 hg ho hat => HP.out.step (w1 := w1) (w2 := w2) (w4 := w4) (A' := A2) (cap' := cap2) (g := g) (cap4 := cap4) hd (by rw [HN.out]; exact hlt) hD hN hL hv hvl hfit hm hb2 hg ho hat
      have H2 := Lib.hid C2
      have HSTEP := Lib.hid STEP
      have hne : some G ≠ v.ownBlock := fun e => by have := (hvl _ e.symm).1; omega
      have keep : ∀ w2, Below wr.heap.size wr w2 → w2.ownsRow (G + 1) 30 4 v j xs := fun w2 hb2 =>
        hown.kept (row := none) ⟨hb2.os, hb2.tape, hb2.output, hb2.size, fun k hk _ => hb2.block k hk⟩ (by
          cases h : v.ownBlock with
          | none => exact .inl rfl
          | some g => exact .inr (by simp))
      have HNE := Lib.hid hne
      have HKEEP := Lib.hid keep
      have HB2 := Lib.hid b2
      have ij0 : (0 : Int) ≤ (j : Int) := Int.natCast_nonneg _
      have ij1 : (j : Int) < (len : Int) := by omega
      clear C2 STEP hown hD hN hL hv hvl hb hH b0 b1 b2 hrow hkid hd c0 c1 c2 c3 hfit hlo hne keep ho1
      go_wp2_with fail
      go_region_law (first
        | (refine step_append_lies _ (by rfl) _ _ _ (by rfl) (G + 1) 30 i0 _ 4 56 Tryz.underlying28 hi0 hz0 hz1 hz2 rfl (by omega) v j xs (by rfl) (HO2.out.alloc _)
             ⟨w2.heap.size, 0, none⟩ 1 1 [.int .i64 kk, .int .i64 nn, .string s', .slice A2 kids.len cap2] (by rfl) (by rfl) (World.news_of_block (cs := #[.int .i64 kk, .int .i64 nn, .string s', .slice A2 kids.len cap2]) (fr := (0, 0)) (heap_alloc_new w2 _)) (by simp [Value.oneCell'])
             (by omega) (by unfold maxLen; omega) (by omega) (by simp; omega) (w2.heap.size + 1) (by simp) ?_
           intro g cap4 w4 hown4 hgrow hat hlt4
           have q4 := (HQ2.out.alloc (.cells #[.int .i64 kk, .int .i64 nn, .string s', .slice A2 kids.len cap2] 30)).keep (hgrow.block _ (by simp; omega) HNE.out)
           have z3 := q4.cell 4
           have zf := q4.frozen 4
           simp only [List.getElem?_toArray, List.getElem?_cons_zero, List.getElem?_cons_succ] at z3
           clear q4
           have HOWN4 := Lib.hid hown4
           have HGROW := Lib.hid hgrow
           have HAT := Lib.hid hat
           clear hown4 hgrow hat)
        | (go_simp
           go_at_call 60
           refine (H2.out _ (Below.refl _ _).drew).mono ?_
           rintro e w2 ⟨A2, cap2, rfl, hm2⟩
           have hd2 : Below wr.heap.size wr w2 := (Below.refl wr.heap.size wr).drew.trans (by obtain ⟨L, _, _, _, h⟩ := hm2; exact h)
           have y3 := (hd2.cell (p := ⟨G, 4, none⟩) hsz).trans x4
           have hs2 : wr.heap.size ≤ w2.heap.size := hd2.size
           have HO2 := Lib.hid (HKEEP.out w2 hd2)
           have HQ2 := Lib.hid (HB2.out.below hd2 hsz)
           have y4 := (HQ2.out.alloc (.cells #[.int .i64 kk, .int .i64 nn, .string s', .slice A2 kids.len cap2] 30)).cell 4
           simp only [List.getElem?_toArray, List.getElem?_cons_zero, List.getElem?_cons_succ] at y4
           have HM := Lib.hid hm2
           clear hm2 hd2))
      all_goals
        go_wp2_with fail
        go_roundw
        case rel => exact ⟨j + 1, _, by omega, by go_num, HSTEP.out A2 cap2 w2 _ w4 g cap4 (drew_made HM.out) ((Below.refl _ _).alloc (Nat.le_refl _) _) HGROW.out HOWN4.out (by rw [show (w2.alloc (.cells #[.int .i64 kk, .int .i64 nn, .string s', .slice A2 kids.len cap2] 30)).heap.size = w2.heap.size + 1 by simp]; exact HAT.out)⟩
        case measure => simp [intOf]; omega
    · obtain rfl : j = len := by omega
      obtain ⟨x0, x1, x2, x3, x4⟩ := dcells5 b2
      obtain ⟨d0, d1, d2, d3, d4⟩ := dcells5 b1
      obtain ⟨g0, g1, g2, g3, g4⟩ := dfrozen5 b1
      rw [← HN.out, Fr.take_len] at hr
      obtain ⟨B2, capB2, rfl⟩ := hr.form
      have HB1 := Lib.hid b1
      have HR := Lib.hid hr
      have HB := Lib.hid hb
      have HO1 := Lib.hid ho1
      clear b0 b1 b2 hr hb HP ho1
      go_wp2_with fail
      have hne : ∀ x, x ≠ w.heap.size + 1 → (((((wr.setCell ⟨w.heap.size + 1, 0, none⟩ (.int .i64 c.k)).setCell ⟨w.heap.size + 1, 1, none⟩ (.int .i64 c.n)).setCell ⟨w.heap.size + 1, 2, none⟩ (.string c.s)).setCell ⟨w.heap.size + 1, 3, none⟩ (.slice A1 c.kids.len cp1)).setCell ⟨w.heap.size + 1, 4, none⟩ (.slice B2 c.body.len capB2)).heap[x]? = wr.heap[x]? := fun x hx => by
        rw [heap_setCell_other _ _ _ _ hx, heap_setCell_other _ _ _ _ hx, heap_setCell_other _ _ _ _ hx, heap_setCell_other _ _ _ _ hx, heap_setCell_other _ _ _ _ hx]
      have hsz : (((((wr.setCell ⟨w.heap.size + 1, 0, none⟩ (.int .i64 c.k)).setCell ⟨w.heap.size + 1, 1, none⟩ (.int .i64 c.n)).setCell ⟨w.heap.size + 1, 2, none⟩ (.string c.s)).setCell ⟨w.heap.size + 1, 3, none⟩ (.slice A1 c.kids.len cp1)).setCell ⟨w.heap.size + 1, 4, none⟩ (.slice B2 c.body.len capB2)).heap.size = wr.heap.size := by simp [World.setCell]
      refine bodyPost_ret (v := .agg #[.int .i64 c.k, .int .i64 c.n, .string c.s, .slice A1 c.kids.len cp1, .slice B2 c.body.len capB2]) ?_ rfl ⟨A1, cp1, .slice B2 c.body.len capB2, G, L1, rfl, ?_⟩
      · exact results_cell_row Tryz.results39 _ _ (w.heap.size + 1) _ _ _ _ rfl (dset5 HB1.out _ _ _ _ _) Tryz.underlying32 rfl (by kernel_rfl)
      · obtain ⟨o1, n1, l1⟩ := HO1.out
        have hle : w.heap.size ≤ w.heap.size + 1 := Nat.le_succ _
        refine ⟨⟨o1.keep fun x hx => hne x (by have := l1 x hx; omega), n1, fun x hx => ⟨by have := l1 x hx; omega, (l1 x hx).2⟩⟩, ((((HR.out.set_ (p := ⟨w.heap.size + 1, 0, none⟩) (by show w.heap.size + 1 < G + 1; omega) _).set_ (p := ⟨w.heap.size + 1, 1, none⟩) (by show w.heap.size + 1 < G + 1; omega) _).set_ (p := ⟨w.heap.size + 1, 2, none⟩) (by show w.heap.size + 1 < G + 1; omega) _).set_ (p := ⟨w.heap.size + 1, 3, none⟩) (by show w.heap.size + 1 < G + 1; omega) _).set_ (p := ⟨w.heap.size + 1, 4, none⟩) (by show w.heap.size + 1 < G + 1; omega) _, by rw [hsz]; omega, by omega, ((((HB.out.setCell (p := ⟨w.heap.size + 1, 0, none⟩) (by simp) _).setCell (p := ⟨w.heap.size + 1, 1, none⟩) (by simp) _).setCell (p := ⟨w.heap.size + 1, 2, none⟩) (by simp) _).setCell (p := ⟨w.heap.size + 1, 3, none⟩) (by simp) _).setCell (p := ⟨w.heap.size + 1, 4, none⟩) (by simp) _⟩
/-- spec.l4Copy, as it is called elsewhere. -/
theorem cpC_any (c : Cl) (A B : Option Addr) (cap capB lo hi : Nat) (w : World) (hk : KidsAt w lo hi c.kids A cap) (hkb : KidsAt w lo hi c.body B capB) (hh : hi ≤ w.heap.size) (hf : Fits c.k c.n c.s) (hnd : nodes c.kids ≤ 1048576) (hndb : nodes c.body ≤ 1048576) :
    Calls Tryz.prog 39 #[.agg #[.int .i64 c.k, .int .i64 c.n, .string c.s, .slice A c.kids.len cap, .slice B c.body.len capB]] w fun e w' => ∃ A2 cap2 B2 capB2, e = .returned (.agg #[.int .i64 c.k, .int .i64 c.n, .string c.s, .slice A2 c.kids.len cap2, .slice B2 c.body.len capB2]) ∧ MadeCl w c A2 cap2 B2 capB2 w' := by
  refine (cuC_any c A B cap capB lo hi w hk hkb hh hf hnd hndb).mono ?_
  rintro e w' ⟨A2, cap2, v, G, L1, rfl, ⟨o1, n1, l1⟩, hr, hs, hG, hb⟩
  obtain ⟨B2, capB2, rfl⟩ := hr.form
  obtain ⟨L2, o2, n2, l2⟩ := hr.own
  refine ⟨A2, cap2, B2, capB2, rfl, L1, L2, o1, o2, List.nodup_append.2 ⟨n1, n2, fun a ha b hb e => by have := (l1 a ha).2; have := (l2 b hb).1; omega⟩, fun x hx => ?_, hb⟩
  rcases List.mem_append.1 hx with hx | hx
  · have := l1 x hx; omega
  · have := l2 x hx
    omega
end Go.Proofs.YtihmgodiiohdnaaGreatDoor

/- The text of a term, as plain data. No condition. -/
namespace Go.Proofs.YtihmgodiiohdnaaGreatDoor
open Go.RowKit

def letB (n : Int) : List UInt8 := [UInt8.ofNat (65 + n.toNat)]
/-- Texts with commas between and brackets around. -/
def argsB : List (List UInt8) → List UInt8
  | [] => []
  | t :: ts => 40 :: (t ++ (ts.flatMap (fun x => 44 :: x) ++ [41]))
abbrev TT := List UInt8 × List UInt8
/-- The text of a term, and what it adds as the rest of a list. -/
def bodyB (k n : Int) (s : ByteArray) (len : Nat) (r : List TT) : List UInt8 :=
  if k = 1 then letB n else if k = 2 then Lib.itoa n else
    if pairB k s len = true then 91 :: ((r.getD 0 ([], [])).1 ++ ((r.getD 1 ([], [])).2 ++ [93])) else s.data.toList ++ argsB (r.map Prod.fst)
def elt (k n : Int) (s : ByteArray) (len : Nat) (r : List TT) : TT :=
  (bodyB k n s len r, if pairB k s len = true then 44 :: ((r.getD 0 ([], [])).1 ++ (r.getD 1 ([], [])).2) else if nilB k s len = true then [] else 124 :: bodyB k n s len r)
def txL : Fr → List TT
  | .nil => []
  | .cons k n s kids rest => elt k n s kids.len (txL kids) :: txL rest
def txT (k n : Int) (s : ByteArray) (f : Fr) : List UInt8 := (elt k n s f.len (txL f)).1
def tlT (k n : Int) (s : ByteArray) (f : Fr) : List UInt8 := (elt k n s f.len (txL f)).2
/-- The texts of a row. -/
def txs (f : Fr) : List (List UInt8) := (txL f).map Prod.fst
theorem txs_cons (k n : Int) (s : ByteArray) (kids rest : Fr) : txs (.cons k n s kids rest) = txT k n s kids :: txs rest := rfl
theorem txT_var (n : Int) (s : ByteArray) (f : Fr) : txT 1 n s f = letB n := by unfold txT elt bodyB; rw [if_pos rfl]
theorem txT_int (n : Int) (s : ByteArray) (f : Fr) : txT 2 n s f = Lib.itoa n := by unfold txT elt bodyB; rw [if_neg (by decide), if_pos rfl]
theorem txT_pair {k : Int} (n : Int) {s : ByteArray} {k1 n1 k2 n2 : Int} {s1 s2 : ByteArray} {kd1 kd2 : Fr} (h : pairB k s 2 = true) :
    txT k n s (.cons k1 n1 s1 kd1 (.cons k2 n2 s2 kd2 .nil)) = 91 :: (txT k1 n1 s1 kd1 ++ (tlT k2 n2 s2 kd2 ++ [93])) := by
  obtain ⟨_, rfl, _⟩ := pairB_len h
  show bodyB 3 n s 2 _ = _
  unfold bodyB
  rw [if_neg (by decide), if_neg (by decide), if_pos h]
  rfl
theorem tlT_pair {k : Int} (n : Int) {s : ByteArray} {k1 n1 k2 n2 : Int} {s1 s2 : ByteArray} {kd1 kd2 : Fr} (h : pairB k s 2 = true) :
    tlT k n s (.cons k1 n1 s1 kd1 (.cons k2 n2 s2 kd2 .nil)) = 44 :: (txT k1 n1 s1 kd1 ++ tlT k2 n2 s2 kd2) := by
  show (if pairB k s 2 = true then _ else _) = _
  rw [if_pos h]
  rfl
theorem txT_str {n : Int} {s : ByteArray} {f : Fr} (h : pairB 3 s f.len = false) : txT 3 n s f = s.data.toList ++ argsB (txs f) := by
  show bodyB 3 n s f.len _ = _
  unfold bodyB
  rw [if_neg (by decide), if_neg (by decide), h]
  rfl
theorem tlT_nil {k n : Int} {s : ByteArray} {f : Fr} (h : nilB k s f.len = true) : tlT k n s f = [] := by
  have hp : pairB k s f.len = false := by
    unfold nilB at h
    unfold pairB
    simp only [Bool.and_eq_true, beq_iff_eq] at h
    rw [h.2.2]; simp
  show (if pairB k s f.len = true then _ else _) = _
  rw [hp, h]
  rfl
theorem tlT_end {k n : Int} {s : ByteArray} {f : Fr} (hp : pairB k s f.len = false) (h : nilB k s f.len = false) : tlT k n s f = 124 :: txT k n s f := by
  show (if pairB k s f.len = true then _ else _) = _
  rw [hp, h]
  rfl
/-- What stands behind the last element of a list. -/
def endB (k n : Int) (s : ByteArray) (f : Fr) : List UInt8 := if nilB k s f.len = true then [] else 124 :: txT k n s f
theorem tlT_not {k n : Int} {s : ByteArray} {f : Fr} (hp : pairB k s f.len = false) : tlT k n s f = endB k n s f := by
  unfold endB
  cases h : nilB k s f.len
  · rw [tlT_end hp h]; rfl
  · rw [tlT_nil h]; rfl
/-- The rest of a list: its elements, then its end. -/
theorem tlT_split (N : Nat) : ∀ (k n : Int) (s : ByteArray) (f : Fr), f.size ≤ N → ∀ k' n' s' f', tails k n s f = .cons k' n' s' f' .nil → tlT k n s f = (txs (fronts k s f)).flatMap (fun x => 44 :: x) ++ endB k' n' s' f' := by
  induction N with
  | zero =>
    intro k n s f hf k' n' s' f' ht
    have hp : pairB k s f.len = false := by
      cases f with
      | nil => unfold pairB; simp [Fr.len]
      | cons _ _ _ _ _ => simp [Fr.size] at hf
    rw [(pair_no n hp).2] at ht
    rw [(pair_no n hp).1, tlT_not hp]
    simp only [Fr.cons.injEq, and_true] at ht
    obtain ⟨rfl, rfl, rfl, rfl⟩ := ht
    rfl
  | succ N ih =>
    intro k n s f hf k' n' s' f' ht
    cases hp : pairB k s f.len
    · rw [(pair_no n hp).2] at ht
      rw [(pair_no n hp).1, tlT_not hp]
      simp only [Fr.cons.injEq, and_true] at ht
      obtain ⟨rfl, rfl, rfl, rfl⟩ := ht
      rfl
    · obtain ⟨k1, n1, s1, kd1, k2, n2, s2, kd2, rfl, hfr, htl⟩ := pair_yes n hp
      have h2 := ih k2 n2 s2 kd2 (by simp only [Fr.size] at hf; omega) k' n' s' f' (by rw [← htl]; exact ht)
      rw [tlT_pair n hp, hfr, txs_cons, h2]
      simp
theorem txT_list {k n : Int} {s : ByteArray} {f : Fr} (hp : pairB k s f.len = true) {k' n' : Int} {s' : ByteArray} {f' : Fr} (ht : tails k n s f = .cons k' n' s' f' .nil) :
    ∃ k1 n1 s1 kd1 r, fronts k s f = .cons k1 n1 s1 kd1 r ∧ txT k n s f = 91 :: (txT k1 n1 s1 kd1 ++ ((txs r).flatMap (fun x => 44 :: x) ++ (endB k' n' s' f' ++ [93]))) := by
  obtain ⟨k1, n1, s1, kd1, k2, n2, s2, kd2, rfl, hfr, htl⟩ := pair_yes n hp
  refine ⟨k1, n1, s1, kd1, _, hfr, ?_⟩
  rw [txT_pair n hp, tlT_split kd2.size k2 n2 s2 kd2 (Nat.le_refl _) k' n' s' f' (by rw [← htl]; exact ht), List.append_assoc]

/-- Texts are not long. -/
theorem itoa_small (n : Int) (h : -999 ≤ n ∧ n ≤ 999) : (Lib.itoa n).length ≤ 21 := Lib.itoa_length_le n (by omega) (by omega)
def smF : Fr → Prop
  | .nil => True
  | .cons k n s kids rest => (s.size ≤ 6 ∧ (k = 2 → -999 ≤ n ∧ n ≤ 999)) ∧ smF kids ∧ smF rest
theorem flat_len : ∀ ts : List (List UInt8), (ts.flatMap (fun x => 44 :: x)).length = ts.length + (ts.map List.length).sum
  | [] => rfl
  | t :: ts => by simp only [List.flatMap_cons, List.length_append, List.length_cons, List.map_cons, List.sum_cons, flat_len ts]; omega
theorem args_len (ts : List (List UInt8)) : (argsB ts).length ≤ ts.length + (ts.map List.length).sum + 1 := by
  cases ts with
  | nil => exact Nat.zero_le _
  | cons t ts =>
    simp only [argsB, List.length_cons, List.length_append, flat_len, List.map_cons, List.sum_cons, List.length_nil]
    omega
theorem txs_len (f : Fr) : (txs f).length = f.len := by
  induction f with
  | nil => rfl
  | cons _ _ _ _ _ _ ih => rw [txs_cons, List.length_cons, ih]; rfl
/-- Text or rest, whichever is longer. -/
def mxL : List TT → Nat
  | [] => 0
  | t :: ts => max (t.1.length + 1) t.2.length + mxL ts
theorem mxL_args : ∀ f : Fr, f.len + ((txs f).map List.length).sum ≤ mxL (txL f)
  | .nil => Nat.le_refl _
  | .cons k n s kids rest => by
    have := mxL_args rest
    show rest.len + 1 + ((txT k n s kids).length + ((txs rest).map List.length).sum) ≤ max ((txT k n s kids).length + 1) _ + mxL (txL rest)
    omega
theorem mxL_at : ∀ (ts : List TT) (j : Nat) (t : TT), ts[j]? = some t → max (t.1.length + 1) t.2.length ≤ mxL ts
  | [], j, t, h => by simp at h
  | t' :: ts, 0, t, h => by
    simp at h
    subst h
    simp only [mxL]; omega
  | t' :: ts, j + 1, t, h => by
    have := mxL_at ts j t (by simpa using h)
    simp only [mxL]; omega
theorem tx_len (f : Fr) : smF f → mxL (txL f) ≤ 32 * nodes f := by
  induction f with
  | nil => exact fun _ => Nat.le_refl _
  | cons k n s kids rest ihk ihr =>
    rintro ⟨⟨h1, h2⟩, h3, h4⟩
    have a := ihk h3
    have b := ihr h4
    have hb : max ((txT k n s kids).length + 1) (tlT k n s kids).length ≤ 32 * (nodes kids + 1) := by
      cases hp : pairB k s kids.len
      · have hlen : (txT k n s kids).length + 1 ≤ 32 * (nodes kids + 1) := by
          show (bodyB k n s kids.len (txL kids)).length + 1 ≤ _
          unfold bodyB
          split
          · simp only [letB, List.length_cons, List.length_nil]; omega
          · split
            · have := itoa_small n (h2 (by assumption)); omega
            · rw [hp]
              have h5 := args_len (txs kids)
              have h6 : s.data.toList.length = s.size := rfl
              have h7 := mxL_args kids
              rw [txs_len] at h5
              show (s.data.toList ++ argsB (txs kids)).length + 1 ≤ _
              rw [List.length_append]
              omega
        rw [tlT_not hp]
        unfold endB
        split
        · simp only [List.length_nil]; omega
        · rw [List.length_cons]; omega
      · obtain ⟨k1, n1, s1, kd1, k2, n2, s2, kd2, rfl, hfr, htl⟩ := pair_yes n hp
        have e1 : max ((txT k1 n1 s1 kd1).length + 1) (tlT k1 n1 s1 kd1).length + (max ((txT k2 n2 s2 kd2).length + 1) (tlT k2 n2 s2 kd2).length + 0) ≤ 32 * nodes (.cons k1 n1 s1 kd1 (.cons k2 n2 s2 kd2 .nil)) := a
        rw [txT_pair n hp, tlT_pair n hp]
        simp only [List.length_cons, List.length_append, List.length_nil]
        omega
    have e : mxL (txL (.cons k n s kids rest)) = max ((txT k n s kids).length + 1) (tlT k n s kids).length + mxL (txL rest) := rfl
    rw [e]
    simp only [nodes]
    omega
theorem txT_len {k n : Int} {s : ByteArray} {f : Fr} (h1 : s.size ≤ 6) (h2 : k = 2 → -999 ≤ n ∧ n ≤ 999) (h3 : smF f) : (txT k n s f).length + 1 ≤ 32 * (nodes f + 1) ∧ (tlT k n s f).length ≤ 32 * (nodes f + 1) := by
  have h := tx_len (.cons k n s f .nil) ⟨⟨h1, h2⟩, h3, trivial⟩
  have e : mxL (txL (.cons k n s f .nil)) = max ((txT k n s f).length + 1) (tlT k n s f).length + 0 := rfl
  rw [e] at h
  simp only [nodes] at h
  omega
end Go.Proofs.YtihmgodiiohdnaaGreatDoor

/- Texts, as plain data: what is still to come. No condition. -/
namespace Go.Proofs.YtihmgodiiohdnaaGreatDoor
open Go.RowKit

/-- The texts of a row that is written from element j on. -/
def moreB (j : Nat) (f : Fr) : List UInt8 := if j = 0 then (match txs f with | [] => [] | t :: ts => 40 :: (t ++ ts.flatMap (fun x => 44 :: x))) else (txs f).flatMap (fun x => 44 :: x)
theorem moreB_step (j : Nat) (k n : Int) (s : ByteArray) (kids rest : Fr) : moreB j (.cons k n s kids rest) = (if j = 0 then 40 else 44) :: (txT k n s kids ++ moreB (j + 1) rest) := by
  unfold moreB
  rw [if_neg (show ¬ j + 1 = 0 by omega), txs_cons]
  by_cases h : j = 0
  · rw [if_pos h, if_pos h]
  · rw [if_neg h, if_neg h, List.flatMap_cons]; rfl
theorem moreB_nil (j : Nat) : moreB j .nil = [] := by unfold moreB; split <;> rfl
theorem argsB_more (f : Fr) : argsB (txs f) = if f.len = 0 then [] else moreB 0 f ++ [41] := by
  cases f with
  | nil => rfl
  | cons k n s kids rest =>
    rw [if_neg (by simp [Fr.len]), moreB_step, txs_cons]
    unfold moreB
    rw [if_neg (show ¬ 0 + 1 = 0 by omega)]
    simp [argsB]
theorem smF_shape (f : Fr) : ∀ d, shapeF f d = true → smF f := by
  induction f with
  | nil => intro _ _; trivial
  | cons k n s kids rest ihk ihr =>
    intro d h
    rw [shapeF_cons, Bool.and_eq_true] at h
    refine ⟨?_, ihk _ (shapeT_kids h.1), ihr _ h.2⟩
    by_cases h3 : k = 3
    · subst h3
      obtain ⟨_, hn, _⟩ := shapeT_struct h.1
      exact ⟨nameB_size hn, fun e => absurd e (by decide)⟩
    · obtain ⟨rfl, _, hn⟩ := shapeT_leaf h.1 h3
      exact ⟨by decide, fun _ => hn⟩
theorem txT_shape {k n : Int} {s : ByteArray} {f : Fr} {d : Int} (h : shapeT k n s f d = true) : (txT k n s f).length + 1 ≤ 32 * (nodes f + 1) ∧ (tlT k n s f).length ≤ 32 * (nodes f + 1) := by
  have h1 := smF_shape (.cons k n s f .nil) d (by rw [shapeF_cons, h]; rfl)
  exact txT_len h1.1.1 h1.1.2 h1.2.1
theorem shape_drop {k n : Int} {s : ByteArray} {kids rest : Fr} : ∀ (f : Fr) (j : Nat) (d : Int), f.drop j = .cons k n s kids rest → shapeF f d = true → shapeT k n s kids d = true
  | .nil, j, _, h, _ => by cases j <;> cases h
  | .cons _ _ _ _ _, 0, d, h, hs => by
    injection h with h1 h2 h3 h4 h5
    subst h1 h2 h3 h4
    rw [shapeF_cons, Bool.and_eq_true] at hs
    exact hs.1
  | .cons _ _ _ _ rest, j + 1, d, h, hs => by
    rw [shapeF_cons, Bool.and_eq_true] at hs
    exact shape_drop rest j d h hs.2
theorem shapeT_kind3 {k n : Int} {s : ByteArray} {f : Fr} {d : Int} (h : shapeT k n s f d = true) : k = 1 ∧ 0 ≤ n ∧ n ≤ 25 ∨ k = 2 ∧ -999 ≤ n ∧ n ≤ 999 ∨ k = 3 := by
  unfold shapeT ownB at h
  simp only [Bool.and_eq_true, Bool.or_eq_true, decide_eq_true_eq, beq_iff_eq] at h
  obtain ⟨_, h, _⟩ := h
  rcases h with (⟨h1, ⟨h2, h3⟩, _⟩ | ⟨h1, ⟨h2, h3⟩, _⟩) | ⟨h1, _⟩
  · exact .inl ⟨h1, h2.1, h2.2⟩
  · exact .inr (.inl ⟨h1, h2.1, h2.2⟩)
  · exact .inr (.inr h1)
end Go.Proofs.YtihmgodiiohdnaaGreatDoor
