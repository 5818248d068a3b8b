/- The law FnTermParts, walked. Condition: the code lies in memory. -/
import Derived.Test.YtomckmnaifcphaaProg
import Derived.Test.YtomckmnaifcphaaDrD
import Derived.Test.YtomckmnaifcphaaSame
import Derived.Test.YtomckmnaifcphaaSameS
import Derived.Deep.RegionHeld3
namespace Go.Proofs.Ytomckmnaifcphaa
open Go.RowKit

theorem OwnAt.sub {w : World} {k n : Int} {s : ByteArray} {kids rest : Fr} : ∀ (f : Fr) (i b o : Nat) (L : List Nat), OwnAt w f b o L → f.drop i = .cons k n s kids rest →
    ∃ A cap L1, L1.Sublist L ∧ Fits k n s ∧ w.cell? ⟨b, o + i * 4, none⟩ = some (.int .i64 k) ∧ w.cell? ⟨b, o + i * 4 + 1, none⟩ = some (.int .i64 n) ∧ w.cell? ⟨b, o + i * 4 + 2, none⟩ = some (.string s) ∧ w.cell? ⟨b, o + i * 4 + 3, none⟩ = some (.slice A kids.len cap) ∧ OwnS w kids A cap L1
  | .nil, i, _, _, _, _, h => by cases i <;> cases h
  | .cons _ _ _ _ _, 0, b, o, L, ⟨A, cap, L1, L2, e, hf, hc, h1, h2, h3, _⟩, h => by
    injection h with g1 g2 g3 g4 g5
    subst g1 g2 g3 g4
    exact ⟨A, cap, L1, by rw [e]; exact List.sublist_append_left _ _, hf, by simpa using hc.1, by simpa using hc.2.1, by simpa using hc.2.2.1, by simpa using hc.2.2.2, h1, h2, h3⟩
  | .cons _ _ _ _ rest', i + 1, b, o, L, ⟨_, _, L1, L2, e, _, _, _, _, _, hr⟩, h => by
    obtain ⟨A, cap, L3, hs, hf, c0, c1, c2, c3, ho⟩ := OwnAt.sub rest' i b (o + 4) L2 hr h
    rw [show o + 4 + i * 4 = o + (i + 1) * 4 by omega] at c0 c1 c2 c3
    exact ⟨A, cap, L3, by rw [e]; exact hs.trans (List.sublist_append_right _ _), hf, c0, c1, c2, c3, ho⟩
theorem OwnS.sub {w : World} {f : Fr} {A : Option Addr} {cap : Nat} {L : List Nat} {i : Nat} {k n : Int} {s : ByteArray} {kids rest : Fr} (h : OwnS w f A cap L) (hd : f.drop i = .cons k n s kids rest) (hi : i < f.len) :
    ∃ b A2 c2 L1, A = some ⟨b, 0, none⟩ ∧ b < w.heap.size ∧ L1.Sublist L ∧ Fits k n s ∧ w.cell? ⟨b, i * 4, none⟩ = some (.int .i64 k) ∧ w.cell? ⟨b, i * 4 + 1, none⟩ = some (.int .i64 n) ∧ w.cell? ⟨b, i * 4 + 2, none⟩ = some (.string s) ∧ w.cell? ⟨b, i * 4 + 3, none⟩ = some (.slice A2 kids.len c2) ∧ OwnS w kids A2 c2 L1 := by
  obtain ⟨_, _, ⟨h0, _⟩ | ⟨b, L', cs, rfl, rfl, hb, _, ho⟩⟩ := h
  · omega
  · obtain ⟨A2, c2, L1, hs, hf, c0, c1, c2', c3, ho'⟩ := OwnAt.sub f i b 0 L' ho hd
    rw [Nat.zero_add] at c0 c1 c2' c3
    exact ⟨b, A2, c2, L1, rfl, hb.lt, hs.trans (List.sublist_cons_self _ _), hf, c0, c1, c2', c3, ho'⟩
/-- What holds of j pairs of parts: all so far are equal, or the terms are not. -/
def TpR (f g : Fr) (j : Nat) (u : Bool) : Prop := (u = true ∧ eqF (f.drop j) (g.drop j) = eqF f g) ∨ (u = false ∧ eqF f g = false)
theorem TpR.step {f g : Fr} {j : Nat} {k n : Int} {s : ByteArray} {kids rest : Fr} {k' n' : Int} {s' : ByteArray} {kids' rest' : Fr} (h : TpR f g j true) (hd : f.drop j = .cons k n s kids rest) (hd' : g.drop j = .cons k' n' s' kids' rest') (e : f.drop (j + 1) = rest) (e' : g.drop (j + 1) = rest') :
    TpR f g (j + 1) (eqT k n s kids k' n' s' kids') := by
  rcases h with ⟨_, h⟩ | ⟨h, _⟩
  · rw [hd, hd'] at h
    have h2 : (eqT k n s kids k' n' s' kids' && eqF rest rest') = eqF f g := by rw [← h]; unfold eqT; simp [eqF, Bool.and_assoc]
    cases hq : eqT k n s kids k' n' s' kids'
    · exact .inr ⟨rfl, by rw [← h2, hq]; rfl⟩
    · exact .inl ⟨rfl, by rw [e, e', ← h2, hq]; rfl⟩
  · cases h
/-- impl.TermSame and spec.TermSame at terms of blocks of their own. -/
theorem tsame_own (k n : Int) (s : ByteArray) (f : Fr) (A : Option Addr) (cap : Nat) (k' n' : Int) (s' : ByteArray) (g : Fr) (B : Option Addr) (cap' : Nat) (L M : List Nat) (w : World) (ho : OwnS w f A cap L) (ho' : OwnS w g B cap' M) (hn : (L ++ M).Nodup) (hM : nodes f ≤ 1048576) :
    Calls Try.prog 5 #[.agg #[.int .i64 k, .int .i64 n, .string s, .slice A f.len cap], .agg #[.int .i64 k', .int .i64 n', .string s', .slice B g.len cap']] w fun e w' => e = .returned (.bool (eqT k n s f k' n' s' g)) ∧ Below w.heap.size w w' :=
  same_any ⟨k, n, s, f, A, cap, L, k', n', s', g, B, cap', M⟩ w ⟨ho, ho'⟩ hn (fun y hy => by
    rcases List.mem_append.1 hy with h | h
    · exact ho.lt y h
    · exact ho'.lt y h) (by show nodes f ≤ _; omega)
theorem nodes_dropc (i : Nat) : ∀ (f : Fr) {k n : Int} {s : ByteArray} {kids rest : Fr}, f.drop i = .cons k n s kids rest → nodes kids ≤ nodes f := by
  induction i with
  | zero => intro f k n s kids rest h; cases f with
    | nil => cases h
    | cons _ _ _ _ _ => injection h with _ _ _ h4 _; subst h4; simp only [nodes]; omega
  | succ i ih => intro f k n s kids rest h; cases f with
    | nil => cases h
    | cons _ _ _ _ r => have := ih r h; simp only [nodes]; omega
theorem bytes_eq {s s' : ByteArray} (h : s.data.toList = s'.data.toList) : s = s' := by
  cases s; cases s'; congr 1; exact Array.toList_inj.1 h

set_option maxRecDepth 100000 in
set_option maxHeartbeats 8000000 in
theorem lawTP_any (A : Option Addr) (len cap : Nat) (w : World) (hb : Bts w w.heap.size A len) (hc : len ≤ cap) (hm : cap ≤ maxLen) :
    Calls Try.prog 3 #[.slice A len cap] w fun e w' => e = .returned (.bool true) ∧ Below w.heap.size w w' := by
  by_cases h2 : len ≤ 1048576
  · have t0 : ¬ (len : Int) > 1048576 := by omega
    have C1 := drawTS_any A len cap w hb hc hm
    have H1 := Lib.hid C1
    clear C1 hb hc hm
    go_enter Try.func3, Try.ntmps3
    go_wp2_with fail
    refine H1.out.mono ?_
    rintro e w2 ⟨k, n, s, f, A1, c1, k', n', s', g, B1, c1', rfl, hf, hf', hn, hn', ⟨L, M, o1, o2, hnd, hlm⟩, hb⟩
    have hb0 : Below w2.heap.size w2 ((w2.alloc (.cells #[.int .i64 k, .int .i64 n, .string s, .slice A1 f.len c1] 25)).alloc (.cells #[.int .i64 k', .int .i64 n', .string s', .slice B1 g.len c1'] 25)) := two_new _ _ _
    have q1 : Blk ((w2.alloc (.cells #[.int .i64 k, .int .i64 n, .string s, .slice A1 f.len c1] 25)).alloc (.cells #[.int .i64 k', .int .i64 n', .string s', .slice B1 g.len c1'] 25)) w2.heap.size 25 #[.int .i64 k, .int .i64 n, .string s, .slice A1 f.len c1] := (Blk.new w2 _ _).alloc _
    have q2 : Blk ((w2.alloc (.cells #[.int .i64 k, .int .i64 n, .string s, .slice A1 f.len c1] 25)).alloc (.cells #[.int .i64 k', .int .i64 n', .string s', .slice B1 g.len c1'] 25)) (w2.heap.size + 1) 25 #[.int .i64 k', .int .i64 n', .string s', .slice B1 g.len c1'] := by
      have h := Blk.new (w2.alloc (.cells #[.int .i64 k, .int .i64 n, .string s, .slice A1 f.len c1] 25)) 25 #[.int .i64 k', .int .i64 n', .string s', .slice B1 g.len c1']
      simpa using h
    have HO1 := Lib.hid (o1.below hb0 o1.lt)
    have HO2 := Lib.hid (o2.below hb0 o2.lt)
    have HB0 := Lib.hid (hb.trans (hb0.mono hb.size))
    have HQ1 := Lib.hid q1
    have HQ2 := Lib.hid q2
    have HND := Lib.hid hnd
    have HNF := Lib.hid hn
    have hfl := Nat.le_trans o1.1 o1.2.1
    have hgl := Nat.le_trans o2.1 o2.2.1
    unfold maxLen at hfl hgl
    clear hf hf' hn hn' o1 o2 hnd hlm hb hb0 q1 q2 H1
    go_wp2_with fail
    generalize ((w2.alloc (.cells #[.int .i64 k, .int .i64 n, .string s, .slice A1 f.len c1] 25)).alloc (.cells #[.int .i64 k', .int .i64 n', .string s', .slice B1 g.len c1'] 25)) = w3 at *
    generalize w2.heap.size = H at *
    refine (tsame_own _ _ _ _ _ _ _ _ _ _ _ _ L M w3 HO1.out HO2.out HND.out (by have := HNF.out; omega)).mono ?_
    rintro e w4 ⟨rfl, hb⟩
    have HB4 := Lib.hid hb
    obtain ⟨x0, x1, x2, x3⟩ := cells4i (HQ1.out.below hb HQ1.out.lt)
    obtain ⟨y0, y1, y2, y3⟩ := cells4i (HQ2.out.below hb HQ2.out.lt)
    clear hb
    go_wp2_with fail
    refine (sa_all f.size s f (Nat.le_refl _) s' g k n k' n' A1 B1 c1 c1' 0 w3.heap.size 0 w3.heap.size w4 ((HO1.out.kids fun x hx => ⟨Nat.zero_le _, HO1.out.lt x hx⟩).below HB4.out (Nat.le_refl _)) ((HO2.out.kids fun x hx => ⟨Nat.zero_le _, HO2.out.lt x hx⟩).below HB4.out (Nat.le_refl _)) HB4.out.size HB4.out.size).mono ?_
    rintro e w5 ⟨rfl, hb⟩
    have HB5 := Lib.hid (HB4.out.trans (hb.mono HB4.out.size))
    have q1 := HQ1.out.below HB5.out HQ1.out.lt
    have q2 := HQ2.out.below HB5.out HQ2.out.lt
    clear hb x0 x1 x2 x3 y0 y1 y2 y3
    obtain ⟨x0, x1, x2, x3⟩ := cells4i q1
    obtain ⟨y0, y1, y2, y3⟩ := cells4i q2
    clear q1 q2
    have tvv : ∀ v : Bool, (v != v) = false := by intro v; cases v <;> rfl
    have HE : Hid (eqT k n s f k' n' s' g = ((k == k') && ((n == n') && ((s.data.toList == s'.data.toList) && eqF f g)))) := Lib.hid rfl
    have tv := tvv (eqT k n s f k' n' s' g)
    clear tvv
    generalize eqT k n s f k' n' s' g = v at *
    have hbad : ∀ P : Prop, v = false → (v == false) = true := fun _ h => by rw [h]; rfl
    clear hbad
    by_cases z : (k = k' ∧ n = n' ∧ s = s' ∧ f.len = g.len)
    · obtain ⟨rfl, rfl, rfl, z4⟩ := z
      have HV : Hid (v = eqF f g) := Lib.hid (by rw [HE.out]; simp)
      have HG : Hid (g.len = f.len) := Lib.hid z4.symm
      rw [← z4] at y3
      clear HE z4
      generalize hl : f.len = l at *
      have HL := Lib.hid hl
      clear hl
      go_wp2_with fail
      go_loopw [6, 7] (fun a i wr => ∃ (j : Nat) (u : Bool), j ≤ l ∧ i = .int .i64 j ∧ a = .bool u ∧ TpR f g j u ∧ Below w3.heap.size w3 wr) (fun _ i _ => l - (intOf i).toNat)
      case atStart => exact ⟨0, true, Nat.zero_le _, rfl, rfl, .inl ⟨rfl, rfl⟩, HB5.out⟩
      case round =>
        obtain ⟨j, u, hj, rfl, rfl, hr, hb⟩ := hrel
        have q1 := HQ1.out.below hb HQ1.out.lt
        have q2 := HQ2.out.below hb HQ2.out.lt
        have x3' := q1.cell 3
        have y3' := q2.cell 3
        simp only [List.getElem?_toArray, List.getElem?_cons_zero, List.getElem?_cons_succ, HG.out] at x3' y3'
        clear x0 x1 x2 x3 y0 y1 y2 y3
        cases u
        · have HW : Hid (v = false) := Lib.hid (by
            rcases hr with ⟨h, _⟩ | ⟨_, h⟩
            · cases h
            · rw [HV.out, h])
          have HBX := Lib.hid (HB0.out.trans (hb.mono HB0.out.size))
          clear hr hb q1 q2
          go_wp2_with fail
          all_goals
            go_ret
            rw [HW.out]
            exact ⟨rfl, HBX.out⟩
        · by_cases hlt : j < l
          · obtain ⟨ka, na, sa, fa, hd⟩ := Fr.drop_cons j f (by rw [HL.out]; exact hlt)
            obtain ⟨kb, nb, sb, fb, hd'⟩ := Fr.drop_cons j g (by rw [HG.out]; exact hlt)
            obtain ⟨b1, A2, c2, L1, rfl, hb1, hs1, _, k0, k1, k2, k3, ho1⟩ := HO1.out.sub hd (by rw [HL.out]; exact hlt)
            obtain ⟨b2, B2, d2, M1, rfl, hb2, hs2, _, m0, m1, m2, m3, ho2⟩ := HO2.out.sub hd' (by rw [HG.out]; exact hlt)
            have k0' := (hb.cell (p := ⟨b1, j * 4, none⟩) hb1).trans k0
            have k1' := (hb.cell (p := ⟨b1, j * 4 + 1, none⟩) hb1).trans k1
            have k2' := (hb.cell (p := ⟨b1, j * 4 + 2, none⟩) hb1).trans k2
            have k3' := (hb.cell (p := ⟨b1, j * 4 + 3, none⟩) hb1).trans k3
            have m0' := (hb.cell (p := ⟨b2, j * 4, none⟩) hb2).trans m0
            have m1' := (hb.cell (p := ⟨b2, j * 4 + 1, none⟩) hb2).trans m1
            have m2' := (hb.cell (p := ⟨b2, j * 4 + 2, none⟩) hb2).trans m2
            have m3' := (hb.cell (p := ⟨b2, j * 4 + 3, none⟩) hb2).trans m3
            have hbd : Below w3.heap.size w3 wr.drew := hb.drew
            have CALL := tsame_own ka na sa fa A2 c2 kb nb sb fb B2 d2 L1 M1 wr.drew (ho1.below hbd ho1.lt) (ho2.below hbd ho2.lt) (List.Nodup.sublist (hs1.append hs2) HND.out) (by have := nodes_dropc j f hd; have := HNF.out; omega)
            have HC := Lib.hid CALL
            have TEN : ∀ x, Below w3.heap.size w3 x → x.cell? ⟨H, 3, none⟩ = some (.slice (some ⟨b1, 0, none⟩) l c1) ∧ x.cell? ⟨H + 1, 3, none⟩ = some (.slice (some ⟨b2, 0, none⟩) l c1') ∧ x.cell? ⟨b1, j * 4, none⟩ = some (.int .i64 ka) ∧ x.cell? ⟨b1, j * 4 + 1, none⟩ = some (.int .i64 na) ∧ x.cell? ⟨b1, j * 4 + 2, none⟩ = some (.string sa) ∧ x.cell? ⟨b1, j * 4 + 3, none⟩ = some (.slice A2 fa.len c2) ∧
                x.cell? ⟨b2, j * 4, none⟩ = some (.int .i64 kb) ∧ x.cell? ⟨b2, j * 4 + 1, none⟩ = some (.int .i64 nb) ∧ x.cell? ⟨b2, j * 4 + 2, none⟩ = some (.string sb) ∧ x.cell? ⟨b2, j * 4 + 3, none⟩ = some (.slice B2 fb.len d2) := fun x h =>
              ⟨(HQ1.out.below h HQ1.out.lt).cell 3, by have := (HQ2.out.below h HQ2.out.lt).cell 3; rw [HG.out] at this; exact this, (h.cell (p := ⟨b1, j * 4, none⟩) hb1).trans k0, (h.cell (p := ⟨b1, j * 4 + 1, none⟩) hb1).trans k1, (h.cell (p := ⟨b1, j * 4 + 2, none⟩) hb1).trans k2, (h.cell (p := ⟨b1, j * 4 + 3, none⟩) hb1).trans k3,
                (h.cell (p := ⟨b2, j * 4, none⟩) hb2).trans m0, (h.cell (p := ⟨b2, j * 4 + 1, none⟩) hb2).trans m1, (h.cell (p := ⟨b2, j * 4 + 2, none⟩) hb2).trans m2, (h.cell (p := ⟨b2, j * 4 + 3, none⟩) hb2).trans m3⟩
            have HTEN := Lib.hid TEN
            have HBW := Lib.hid hb
            have STEP := hr.step hd hd' rfl rfl
            have HSTEP := Lib.hid STEP
            have HBD := Lib.hid hbd
            have ij0 : (0 : Int) ≤ (j : Int) := Int.natCast_nonneg _
            have ij1 : (j : Int) < (l : Int) := by omega
            clear hb q1 q2 hd hd' k0 k1 k2 k3 m0 m1 m2 m3 ho1 ho2 hs1 hs2 hbd CALL STEP hr TEN
            generalize eqT ka na sa fa kb nb sb fb = q at *
            go_wp2_with fail
            go_region_held3 (fun x => x.cell? ⟨H, 3, none⟩ = some (.slice (some ⟨b1, 0, none⟩) l c1) ∧ x.cell? ⟨H + 1, 3, none⟩ = some (.slice (some ⟨b2, 0, none⟩) l c1') ∧ x.cell? ⟨b1, j * 4, none⟩ = some (.int .i64 ka) ∧ x.cell? ⟨b1, j * 4 + 1, none⟩ = some (.int .i64 na) ∧ x.cell? ⟨b1, j * 4 + 2, none⟩ = some (.string sa) ∧ x.cell? ⟨b1, j * 4 + 3, none⟩ = some (.slice A2 fa.len c2) ∧
                x.cell? ⟨b2, j * 4, none⟩ = some (.int .i64 kb) ∧ x.cell? ⟨b2, j * 4 + 1, none⟩ = some (.int .i64 nb) ∧ x.cell? ⟨b2, j * 4 + 2, none⟩ = some (.string sb) ∧ x.cell? ⟨b2, j * 4 + 3, none⟩ = some (.slice B2 fb.len d2))
              (first | exact HTEN.out _ HB6.out | exact HTEN.out _ HBW.out | exact HTEN.out _ HBD.out)
              (first
                | (go_at_call 5
                   refine HC.out.mono ?_
                   rintro e w6 ⟨rfl, hb6⟩
                   have HB6 := Lib.hid (HBD.out.trans (hb6.mono HBD.out.size))
                   clear hb6)
                | fail)
            all_goals
              clear x3' y3' k0' k1' k2' k3' m0' m1' m2' m3' HTEN
              go_wp2_with fail
              go_roundw
              case rel => exact ⟨j + 1, q, by omega, by go_num, rfl, HSTEP.out, HB6.out⟩
              case measure => simp [intOf]; omega
          · obtain rfl : j = l := by omega
            have HW : Hid (v = true) := Lib.hid (by
              rcases hr with ⟨_, h⟩ | ⟨h, _⟩
              · have e1 : f.drop j = .nil := by rw [← HL.out]; exact Fr.drop_len f
                have e2 : g.drop j = .nil := by rw [← HG.out]; exact Fr.drop_len g
                rw [HV.out, ← h, e1, e2]; rfl
              · cases h)
            have HBX := Lib.hid (HB0.out.trans (hb.mono HB0.out.size))
            clear hr hb q1 q2
            go_wp2_with fail
            go_ret
            rw [HW.out]
            exact ⟨rfl, HBX.out⟩
    · have HW : Hid (v = false) := Lib.hid (by
        rw [HE.out]
        cases hq : eqF f g
        · simp
        · have hl := eqF_len f g hq
          rw [Bool.eq_false_iff]
          intro h
          simp only [Bool.and_eq_true, beq_iff_eq, and_true] at h
          exact z ⟨h.1, h.2.1, bytes_eq h.2.2, hl⟩)
      have hway : (k == k') = false ∨ ((k == k') = true ∧ (n == n') = false) ∨ ((k == k') = true ∧ (n == n') = true ∧ (s.toList == s'.toList) = false) ∨ ((k == k') = true ∧ (n == n') = true ∧ (s.toList == s'.toList) = true ∧ ((f.len : Int) == (g.len : Int)) = false) := by
        by_cases z1 : k = k'
        · by_cases z2 : n = n'
          · by_cases z3 : s = s'
            · refine .inr (.inr (.inr ⟨by simp [z1], by simp [z2], by simp [z3], ?_⟩))
              rw [beq_eq_false_iff_ne]
              intro h
              exact z ⟨z1, z2, z3, by omega⟩
            · refine .inr (.inr (.inl ⟨by simp [z1], by simp [z2], ?_⟩))
              rw [beq_eq_false_iff_ne]
              intro h
              rw [ByteArray.toList_eq, ByteArray.toList_eq] at h
              exact z3 (bytes_eq h)
          · exact .inr (.inl ⟨by simp [z1], by rw [beq_eq_false_iff_ne]; exact z2⟩)
        · exact .inl (by rw [beq_eq_false_iff_ne]; exact z1)
      clear z HE
      generalize hl : f.len = l at *
      generalize hl' : g.len = l' at *
      clear hl hl' HO1 HO2 HND
      rcases hway with t1 | ⟨t1, t2⟩ | ⟨t1, t2, t3⟩ | ⟨t1, t2, t3, t4⟩
      all_goals
        go_wp2_with fail
        go_loopw [6, 7] (fun a i wr => i = .int .i64 0 ∧ a = .bool false ∧ Below w3.heap.size w3 wr) (fun _ _ _ => 0)
        case atStart => exact ⟨rfl, rfl, HB5.out⟩
        case round =>
          obtain ⟨rfl, rfl, hb⟩ := hrel
          have q1 := HQ1.out.below hb HQ1.out.lt
          have x3' := q1.cell 3
          simp only [List.getElem?_toArray, List.getElem?_cons_zero, List.getElem?_cons_succ] at x3'
          have HBX := Lib.hid (HB0.out.trans (hb.mono HB0.out.size))
          clear hb q1 x0 x1 x2 x3 y0 y1 y2 y3
          go_wp2_with fail
          all_goals
            go_ret
            rw [HW.out]
            exact ⟨rfl, HBX.out⟩
  · have t0 : (len : Int) > 1048576 := by omega
    clear hb hc hm
    go_enter Try.func3, Try.ntmps3
    go_wp2_with fail
    go_ret
    exact ⟨rfl, Below.refl _ _⟩
end Go.Proofs.Ytomckmnaifcphaa
