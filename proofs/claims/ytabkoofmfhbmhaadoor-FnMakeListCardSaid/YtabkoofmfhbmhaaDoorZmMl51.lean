/- Terms of blocks of their own: their parts; impl.TermSame at them; laws.pgTerms. Condition: the rows are owned, apart. -/
import Derived.Test.YtabkoofmfhbmhaaDoorProg
import Derived.Test.YtabkoofmfhbmhaaDoorZmMl50
import Derived.Deep.RegionHeld3
import Derived.Test.YtabkoofmfhbmhaaDoorDrK
import Derived.Test.YtabkoofmfhbmhaaDoorZmMl49
namespace Go.Proofs.YtabkoofmfhbmhaaDoor
open Go.RowKit

theorem OwnAt.sub {w : World} {k n : Int} {s : ByteArray} {kids rest : Fr} : ∀ (f : Fr) (i b o : Nat) (L : List Nat), OwnAt w f b o L → f.drop i = .cons k n s kids rest →
    ∃ A cap L1, L1.Sublist L ∧ Fits k n s ∧ w.cell? ⟨b, o + i * 4, none⟩ = some (.int .i64 k) ∧ w.cell? ⟨b, o + i * 4 + 1, none⟩ = some (.int .i64 n) ∧ w.cell? ⟨b, o + i * 4 + 2, none⟩ = some (.string s) ∧ w.cell? ⟨b, o + i * 4 + 3, none⟩ = some (.slice A kids.len cap) ∧ OwnS w kids A cap L1
  | .nil, i, _, _, _, _, h => by cases i <;> cases h
  | .cons _ _ _ _ _, 0, b, o, L, ⟨A, cap, L1, L2, e, hf, hc, h1, h2, h3, _⟩, h => by
    injection h with g1 g2 g3 g4 g5
    subst g1 g2 g3 g4
    exact ⟨A, cap, L1, by rw [e]; exact List.sublist_append_left _ _, hf, by simpa using hc.1, by simpa using hc.2.1, by simpa using hc.2.2.1, by simpa using hc.2.2.2, h1, h2, h3⟩
  | .cons _ _ _ _ rest', i + 1, b, o, L, ⟨_, _, L1, L2, e, _, _, _, _, _, hr⟩, h => by
    obtain ⟨A, cap, L3, hs, hf, c0, c1, c2, c3, ho⟩ := OwnAt.sub rest' i b (o + 4) L2 hr h
    rw [show o + 4 + i * 4 = o + (i + 1) * 4 by omega] at c0 c1 c2 c3
    exact ⟨A, cap, L3, by rw [e]; exact hs.trans (List.sublist_append_right _ _), hf, c0, c1, c2, c3, ho⟩
theorem OwnS.sub {w : World} {f : Fr} {A : Option Addr} {cap : Nat} {L : List Nat} {i : Nat} {k n : Int} {s : ByteArray} {kids rest : Fr} (h : OwnS w f A cap L) (hd : f.drop i = .cons k n s kids rest) (hi : i < f.len) :
    ∃ b A2 c2 L1, A = some ⟨b, 0, none⟩ ∧ b < w.heap.size ∧ L1.Sublist L ∧ Fits k n s ∧ w.cell? ⟨b, i * 4, none⟩ = some (.int .i64 k) ∧ w.cell? ⟨b, i * 4 + 1, none⟩ = some (.int .i64 n) ∧ w.cell? ⟨b, i * 4 + 2, none⟩ = some (.string s) ∧ w.cell? ⟨b, i * 4 + 3, none⟩ = some (.slice A2 kids.len c2) ∧ OwnS w kids A2 c2 L1 := by
  obtain ⟨_, _, ⟨h0, _⟩ | ⟨b, L', cs, rfl, rfl, hb, _, ho⟩⟩ := h
  · omega
  · obtain ⟨A2, c2, L1, hs, hf, c0, c1, c2', c3, ho'⟩ := OwnAt.sub f i b 0 L' ho hd
    rw [Nat.zero_add] at c0 c1 c2' c3
    exact ⟨b, A2, c2, L1, rfl, hb.lt, hs.trans (List.sublist_cons_self _ _), hf, c0, c1, c2', c3, ho'⟩
/-- The slice value from cell o of its block on owns the row f, in the blocks L. -/
def OwnT (w : World) (f : Fr) (A : Option Addr) (cap : Nat) (L : List Nat) : Prop :=
  f.len ≤ cap ∧ cap ≤ maxLen ∧ ((f.len = 0 ∧ L = []) ∨ ∃ b o L' cs, A = some ⟨b, o, none⟩ ∧ L = b :: L' ∧ Blk w b 31 cs ∧ OwnAt w f b o L')
theorem OwnS.t {w : World} {f : Fr} {A : Option Addr} {cap : Nat} {L : List Nat} (h : OwnS w f A cap L) : OwnT w f A cap L := by
  obtain ⟨h1, h2, h3 | ⟨b, L', cs, rfl, rfl, hb, _, ho⟩⟩ := h
  · exact ⟨h1, h2, .inl h3⟩
  · exact ⟨h1, h2, .inr ⟨b, 0, L', cs, rfl, rfl, hb, ho⟩⟩
theorem OwnT.below {w w' : World} {f : Fr} {A : Option Addr} {cap : Nat} {L : List Nat} (h : OwnT w f A cap L) (hb : Below w.heap.size w w') : OwnT w' f A cap L := by
  obtain ⟨h1, h2, h3 | ⟨b, o, L', cs, rfl, rfl, hq, ho⟩⟩ := h
  · exact ⟨h1, h2, .inl h3⟩
  · have hl := hq.lt
    exact ⟨h1, h2, .inr ⟨b, o, L', cs, rfl, rfl, hq.below hb hl, OwnAt.keep f b o L' ho (fun j _ => hb.cell (p := ⟨b, o + j, none⟩) hl) fun x hx => hb.block x (OwnAt.lt f b o L' ho x hx)⟩⟩
theorem OwnT.sub {w : World} {f : Fr} {A : Option Addr} {cap : Nat} {L : List Nat} {i : Nat} {k n : Int} {s : ByteArray} {kids rest : Fr} (h : OwnT w f A cap L) (hd : f.drop i = .cons k n s kids rest) (hi : i < f.len) :
    ∃ b o A2 c2 L1, A = some ⟨b, o, none⟩ ∧ b < w.heap.size ∧ L1.Sublist L ∧ Fits k n s ∧ w.cell? ⟨b, o + i * 4, none⟩ = some (.int .i64 k) ∧ w.cell? ⟨b, o + i * 4 + 1, none⟩ = some (.int .i64 n) ∧ w.cell? ⟨b, o + i * 4 + 2, none⟩ = some (.string s) ∧ w.cell? ⟨b, o + i * 4 + 3, none⟩ = some (.slice A2 kids.len c2) ∧ OwnS w kids A2 c2 L1 := by
  obtain ⟨_, _, ⟨h0, _⟩ | ⟨b, o, L', cs, rfl, rfl, hb, ho⟩⟩ := h
  · omega
  · obtain ⟨A2, c2, L1, hs, hf, c0, c1, c2', c3, ho'⟩ := OwnAt.sub f i b o L' ho hd
    exact ⟨b, o, A2, c2, L1, rfl, hb.lt, hs.trans (List.sublist_cons_self _ _), hf, c0, c1, c2', c3, ho'⟩
/-- Behind the row's first term. -/
theorem OwnS.behind {w : World} {k n : Int} {s : ByteArray} {f g : Fr} {A : Option Addr} {cap : Nat} {L : List Nat} (h : OwnS w (.cons k n s f g) A cap L) (hn : L.Nodup) :
    ∃ b Af capf L1 L2, A = some ⟨b, 0, none⟩ ∧ g.len + 1 ≤ cap ∧ cap ≤ maxLen ∧ (w.cell? ⟨b, 0, none⟩ = some (.int .i64 k) ∧ w.cell? ⟨b, 1, none⟩ = some (.int .i64 n) ∧ w.cell? ⟨b, 2, none⟩ = some (.string s) ∧ w.cell? ⟨b, 3, none⟩ = some (.slice Af f.len capf)) ∧ b < w.heap.size ∧
      OwnS w f Af capf L1 ∧ OwnT w g (some ⟨b, 4, none⟩) (cap - 1) L2 ∧ L1.Nodup ∧ L2.Nodup ∧ (∀ x ∈ L1, x ∈ L) ∧ (∀ x ∈ L2, x ∈ L) := by
  obtain ⟨h1, h2, ⟨h3, _⟩ | ⟨b, L', cs, rfl, rfl, hb, hs, ho⟩⟩ := h
  · simp [Fr.len] at h3
  · obtain ⟨Af, capf, L1, L2, rfl, hfit, hc, a1, a2, a3, hr⟩ := ho
    have hl : g.len + 1 ≤ cap := h1
    obtain ⟨hb0, hn'⟩ := List.nodup_cons.1 hn
    obtain ⟨n1, n2, n12⟩ := List.nodup_append.1 hn'
    exact ⟨b, Af, capf, L1, b :: L2, rfl, hl, h2, by simpa using hc, hb.lt, ⟨a1, a2, a3⟩, ⟨by omega, by omega, .inr ⟨b, 4, L2, cs, rfl, rfl, hb, by simpa using hr⟩⟩, n1, List.nodup_cons.2 ⟨fun h => hb0 (by simp [h]), n2⟩, fun x hx => by simp [hx], fun x hx => by
      rcases List.mem_cons.1 hx with rfl | hx
      · simp
      · simp [hx]⟩
/-- impl.TermSame and spec.TermSame at terms of blocks of their own. -/
theorem tsame_own (k n : Int) (s : ByteArray) (f : Fr) (A : Option Addr) (cap : Nat) (k' n' : Int) (s' : ByteArray) (g : Fr) (B : Option Addr) (cap' : Nat) (L M : List Nat) (w : World) (ho : OwnS w f A cap L) (ho' : OwnS w g B cap' M) (hn : (L ++ M).Nodup) (hM : nodes f ≤ 1048576) :
    Calls Tryd.prog 16 #[.agg #[.int .i64 k, .int .i64 n, .string s, .slice A f.len cap], .agg #[.int .i64 k', .int .i64 n', .string s', .slice B g.len cap']] w fun e w' => e = .returned (.bool (eqT k n s f k' n' s' g)) ∧ Below w.heap.size w w' :=
  same_any ⟨k, n, s, f, A, cap, L, k', n', s', g, B, cap', M⟩ w ⟨ho, ho'⟩ hn (fun y hy => by
    rcases List.mem_append.1 hy with h | h
    · exact ho.lt y h
    · exact ho'.lt y h) (by show nodes f ≤ _; omega)
theorem nodes_dropc (i : Nat) : ∀ (f : Fr) {k n : Int} {s : ByteArray} {kids rest : Fr}, f.drop i = .cons k n s kids rest → nodes kids ≤ nodes f := by
  induction i with
  | zero => intro f k n s kids rest h; cases f with
    | nil => cases h
    | cons _ _ _ _ _ => injection h with _ _ _ h4 _; subst h4; simp only [nodes]; omega
  | succ i ih => intro f k n s kids rest h; cases f with
    | nil => cases h
    | cons _ _ _ _ r => have := ih r h; simp only [nodes]; omega
set_option maxRecDepth 100000 in
set_option maxHeartbeats 8000000 in
/-- laws.pgTerms. -/
theorem pgTo_any (f g : Fr) (A B : Option Addr) (cap cap' : Nat) (L M : List Nat) (w : World) (ho : OwnT w f A cap L) (ho' : OwnT w g B cap' M) (hn : (L ++ M).Nodup) (hM : nodes f ≤ 1048576) :
    Calls Tryd.prog 11 #[.slice A f.len cap, .slice B g.len cap'] w fun e w' => e = .returned (.bool (eqF f g)) ∧ Below w.heap.size w w' := by
  have hfl := Nat.le_trans ho.1 ho.2.1
  have hgl := Nat.le_trans ho'.1 ho'.2.1
  unfold maxLen at hfl hgl
  by_cases hl : f.len = g.len
  · have HO1 := Lib.hid ho
    have HO2 := Lib.hid ho'
    have HND := Lib.hid hn
    have HNF := Lib.hid hM
    have HG : Hid (g.len = f.len) := Lib.hid hl.symm
    have tl : ((f.len : Int) != (f.len : Int)) = false := by simp
    rw [← hl]
    clear ho ho' hn hM hl hgl
    generalize hl : f.len = l at *
    have HL := Lib.hid hl
    clear hl
    generalize hv : eqF f g = v
    have HV := Lib.hid hv
    clear hv
    go_enter Tryd.func11, Tryd.ntmps11
    go_wp2_with fail
    go_loopw [5] (fun i wr => ∃ (j : Nat), j ≤ l ∧ i = .int .i64 j ∧ eqF (f.drop j) (g.drop j) = v ∧ Below w.heap.size w wr) (fun i _ => l - (intOf i).toNat)
    case atStart => exact ⟨0, Nat.zero_le _, rfl, HV.out, Below.refl _ _⟩
    case round =>
      obtain ⟨j, hj, rfl, hr, hb⟩ := hrel
      by_cases hlt : j < l
      · obtain ⟨ka, na, sa, fa, hd⟩ := Fr.drop_cons j f (by rw [HL.out]; exact hlt)
        obtain ⟨kb, nb, sb, fb, hd'⟩ := Fr.drop_cons j g (by rw [HG.out]; exact hlt)
        obtain ⟨b1, o1, A2, c2, L1, rfl, hb1, hs1, _, k0, k1, k2, k3, ho1⟩ := HO1.out.sub hd (by rw [HL.out]; exact hlt)
        obtain ⟨b2, o2, B2, d2, M1, rfl, hb2, hs2, _, m0, m1, m2, m3, ho2⟩ := HO2.out.sub hd' (by rw [HG.out]; exact hlt)
        have TEN : ∀ x, Below w.heap.size w x → x.cell? ⟨b1, o1 + j * 4, none⟩ = some (.int .i64 ka) ∧ x.cell? ⟨b1, o1 + j * 4 + 1, none⟩ = some (.int .i64 na) ∧ x.cell? ⟨b1, o1 + j * 4 + 2, none⟩ = some (.string sa) ∧ x.cell? ⟨b1, o1 + j * 4 + 3, none⟩ = some (.slice A2 fa.len c2) ∧
            x.cell? ⟨b2, o2 + j * 4, none⟩ = some (.int .i64 kb) ∧ x.cell? ⟨b2, o2 + j * 4 + 1, none⟩ = some (.int .i64 nb) ∧ x.cell? ⟨b2, o2 + j * 4 + 2, none⟩ = some (.string sb) ∧ x.cell? ⟨b2, o2 + j * 4 + 3, none⟩ = some (.slice B2 fb.len d2) := fun x h =>
          ⟨(h.cell (p := ⟨b1, o1 + j * 4, none⟩) hb1).trans k0, (h.cell (p := ⟨b1, o1 + j * 4 + 1, none⟩) hb1).trans k1, (h.cell (p := ⟨b1, o1 + j * 4 + 2, none⟩) hb1).trans k2, (h.cell (p := ⟨b1, o1 + j * 4 + 3, none⟩) hb1).trans k3,
            (h.cell (p := ⟨b2, o2 + j * 4, none⟩) hb2).trans m0, (h.cell (p := ⟨b2, o2 + j * 4 + 1, none⟩) hb2).trans m1, (h.cell (p := ⟨b2, o2 + j * 4 + 2, none⟩) hb2).trans m2, (h.cell (p := ⟨b2, o2 + j * 4 + 3, none⟩) hb2).trans m3⟩
        have CALL := fun wX (hX : Below w.heap.size w wX) => tsame_own ka na sa fa A2 c2 kb nb sb fb B2 d2 L1 M1 wX (ho1.below hX ho1.lt) (ho2.below hX ho2.lt) (List.Nodup.sublist (hs1.append hs2) HND.out) (by have := nodes_dropc j f hd; have := HNF.out; omega)
        have STEP : (eqT ka na sa fa kb nb sb fb && eqF (f.drop (j + 1)) (g.drop (j + 1))) = v := by rw [← hr, hd, hd']; unfold eqT; simp [eqF, Bool.and_assoc]
        have HC := Lib.hid CALL
        have HTEN := Lib.hid TEN
        have HSTEP := Lib.hid STEP
        have HBW := Lib.hid hb
        have HBD := Lib.hid hb.drew
        obtain ⟨x0, x1, x2, x3, x4, x5, x6, x7⟩ := TEN wr hb
        have ij0 : (0 : Int) ≤ (j : Int) := Int.natCast_nonneg _
        have ij1 : (j : Int) < (l : Int) := by omega
        clear hb hd hd' k0 k1 k2 k3 m0 m1 m2 m3 ho1 ho2 hs1 hs2 CALL STEP hr TEN
        generalize eqT ka na sa fa kb nb sb fb = q at *
        go_wp2_with fail
        cases q
        · have HW : Hid (v = false) := Lib.hid (by rw [← HSTEP.out]; rfl)
          go_region_held3 (fun x => x.cell? ⟨b1, o1 + j * 4, none⟩ = some (.int .i64 ka) ∧ x.cell? ⟨b1, o1 + j * 4 + 1, none⟩ = some (.int .i64 na) ∧ x.cell? ⟨b1, o1 + j * 4 + 2, none⟩ = some (.string sa) ∧ x.cell? ⟨b1, o1 + j * 4 + 3, none⟩ = some (.slice A2 fa.len c2) ∧
              x.cell? ⟨b2, o2 + j * 4, none⟩ = some (.int .i64 kb) ∧ x.cell? ⟨b2, o2 + j * 4 + 1, none⟩ = some (.int .i64 nb) ∧ x.cell? ⟨b2, o2 + j * 4 + 2, none⟩ = some (.string sb) ∧ x.cell? ⟨b2, o2 + j * 4 + 3, none⟩ = some (.slice B2 fb.len d2))
            (first | exact HTEN.out _ HB6.out | exact HTEN.out _ HBW.out | exact HTEN.out _ HBD.out)
            (first
              | (go_at_call 16
                 refine (HC.out _ HBD.out).mono ?_
                 rintro e w6 ⟨rfl, hb6⟩
                 have HB6 := Lib.hid (HBD.out.trans (hb6.mono HBD.out.size))
                 clear hb6)
              | fail)
          all_goals
            clear x0 x1 x2 x3 x4 x5 x6 x7 HTEN
            go_wp2_with fail
            go_ret
            rw [HW.out]
            exact ⟨rfl, HB6.out⟩
        · have HW : Hid (eqF (f.drop (j + 1)) (g.drop (j + 1)) = v) := Lib.hid (by rw [← HSTEP.out]; rfl)
          go_region_held3 (fun x => x.cell? ⟨b1, o1 + j * 4, none⟩ = some (.int .i64 ka) ∧ x.cell? ⟨b1, o1 + j * 4 + 1, none⟩ = some (.int .i64 na) ∧ x.cell? ⟨b1, o1 + j * 4 + 2, none⟩ = some (.string sa) ∧ x.cell? ⟨b1, o1 + j * 4 + 3, none⟩ = some (.slice A2 fa.len c2) ∧
              x.cell? ⟨b2, o2 + j * 4, none⟩ = some (.int .i64 kb) ∧ x.cell? ⟨b2, o2 + j * 4 + 1, none⟩ = some (.int .i64 nb) ∧ x.cell? ⟨b2, o2 + j * 4 + 2, none⟩ = some (.string sb) ∧ x.cell? ⟨b2, o2 + j * 4 + 3, none⟩ = some (.slice B2 fb.len d2))
            (first | exact HTEN.out _ HB6.out | exact HTEN.out _ HBW.out | exact HTEN.out _ HBD.out)
            (first
              | (go_at_call 16
                 refine (HC.out _ HBD.out).mono ?_
                 rintro e w6 ⟨rfl, hb6⟩
                 have HB6 := Lib.hid (HBD.out.trans (hb6.mono HBD.out.size))
                 clear hb6)
              | fail)
          all_goals
            clear x0 x1 x2 x3 x4 x5 x6 x7 HTEN
            go_wp2_with fail
            go_roundw
            case rel => exact ⟨j + 1, by omega, by go_num, HW.out, HB6.out⟩
            case measure => simp [intOf]; omega
      · obtain rfl : j = l := by omega
        have HW : Hid (v = true) := Lib.hid (by
          have e1 : f.drop j = .nil := by rw [← HL.out]; exact Fr.drop_len f
          have e2 : g.drop j = .nil := by rw [← HG.out]; exact Fr.drop_len g
          rw [← hr, e1, e2]; rfl)
        have HBX := Lib.hid hb
        clear hr hb
        go_wp2_with fail
        go_ret
        rw [HW.out]
        exact ⟨rfl, HBX.out⟩
  · have HV : Hid (eqF f g = false) := Lib.hid (by
      cases hq : eqF f g
      · rfl
      · exact absurd (eqF_len f g hq) hl)
    have tl : ((f.len : Int) != (g.len : Int)) = true := by rw [bne_iff_ne]; omega
    clear ho ho' hn hM hl
    generalize f.len = l at *
    generalize g.len = l' at *
    go_enter Tryd.func11, Tryd.ntmps11
    go_wp2_with fail
    go_ret
    rw [HV.out]
    exact ⟨rfl, Below.refl _ _⟩
theorem pgT_any (f g : Fr) (A B : Option Addr) (cap cap' : Nat) (L M : List Nat) (w : World) (ho : OwnS w f A cap L) (ho' : OwnS w g B cap' M) (hn : (L ++ M).Nodup) (hM : nodes f ≤ 1048576) :
    Calls Tryd.prog 11 #[.slice A f.len cap, .slice B g.len cap'] w fun e w' => e = .returned (.bool (eqF f g)) ∧ Below w.heap.size w w' := pgTo_any f g A B cap cap' L M w ho.t ho'.t hn hM
end Go.Proofs.YtabkoofmfhbmhaaDoor

/- The law FnMakeList, walked. Condition: the code lies in memory, the table of signs in its variable. -/
namespace Go.Proofs.YtabkoofmfhbmhaaDoor
open Go.RowKit

theorem OwnS.kx {w : World} {f : Fr} {A : Option Addr} {cap : Nat} {L : List Nat} (h : OwnS w f A cap L) : KidsAt w 0 w.heap.size f A cap := h.kids fun x hx => ⟨Nat.zero_le _, h.lt x hx⟩
/-- append of both rows to an empty row. -/
theorem app_both {w : World} {F E : Fr} {A B : Option Addr} {cA cB : Nat} {L M : List Nat} (ho : OwnS w F A cA L) (ho2 : OwnS w E B cB M) (hn : (L ++ M).Nodup) (hF : F.len ≤ 1000) (hE : E.len ≤ 1000) (ty : TypeId) :
    ∃ b1 c1 w1 A2 c2 w2 L2, (Builtin.append_ #[23, 23] ty #[.slice (some ⟨w.heap.size, 0, none⟩) 0 0, .slice A F.len cA]).run Tryd.prog (w.alloc (.cells #[] 31)) = .ok (.slice (some ⟨b1, 0, none⟩) F.len c1) w1 ∧
      (Builtin.append_ #[23, 23] ty #[.slice (some ⟨b1, 0, none⟩) F.len c1, .slice B E.len cB]).run Tryd.prog w1 = .ok (.slice A2 (F.app E).len c2) w2 ∧ OwnS w2 (F.app E) A2 c2 L2 ∧ L2.Nodup ∧ (∀ x ∈ L2, x ∈ L ∨ x ∈ M ∨ w.heap.size ≤ x) ∧ Below w.heap.size w w2 := by
  have hb0 : Below w.heap.size w (w.alloc (.cells #[] 31)) := (Below.refl _ _).alloc (Nat.le_refl _) _
  have hs : (w.alloc (.cells #[] 31)).heap.size = w.heap.size + 1 := by simp
  have hl1 := ho.lt
  have hl2 := ho2.lt
  obtain ⟨hnL, hnM, hLM⟩ := List.nodup_append.1 hn
  obtain ⟨v1, w1, hr1, b1, c1, L1, rfl, hrow, hnd1, hb1, hx1, hg1⟩ := appO_run (RowB.new w) (ho.below hb0 ho.lt) (List.nodup_append.2 ⟨by simp, hnL, fun a ha c hc e => by simp at ha; have := hl1 c hc; omega⟩) (by simp [Fr.len]) (by omega) ty
  have e0 : (Fr.nil).app F = F := rfl
  rw [e0] at hrow
  have hs1 := hg1.size
  have hlow : ∀ x, x < w.heap.size → w1.heap[x]? = w.heap[x]? := fun x hx => (hg1.block x (by omega) (by simp; omega)).trans (hb0.block x hx)
  have ho2' : OwnS w1 E B cB M := ho2.keep fun x hx => hlow x (hl2 x hx)
  have hbge : w.heap.size ≤ b1 := by rcases hb1 with h | h <;> omega
  have hL1 : ∀ x ∈ L1, x ∈ L := fun x hx => by rcases hx1 x hx with h | h; exact absurd h (by simp); exact h
  have hn2 : ((b1 :: L1) ++ M).Nodup := List.nodup_append.2 ⟨hnd1, hnM, fun a ha c hc e => by
    rcases List.mem_cons.1 ha with rfl | ha
    · have := hl2 c hc; omega
    · exact hLM a (hL1 a ha) c hc e⟩
  obtain ⟨v2, w2, hr2, b2, c2, L2, rfl, hrow2, hnd2, hb2, hx2, hg2⟩ := appO_run hrow ho2' hn2 (by omega) (by omega) ty
  have hz : (0 : Nat) + F.len = F.len := Nat.zero_add _
  have hr1' : (Builtin.append_ #[23, 23] ty #[.slice (some ⟨w.heap.size, 0, none⟩) 0 0, .slice A F.len cA]).run Tryd.prog (w.alloc (.cells #[] 31)) = .ok (.slice (some ⟨b1, 0, none⟩) F.len c1) w1 := by
    have h := hr1
    simp only [Fr.len] at h
    rwa [hz] at h
  refine ⟨b1, c1, w1, some ⟨b2, 0, none⟩, c2, w2, b2 :: L2, hr1', by rw [Fr.len_app]; exact hr2, hrow2.own, hnd2, fun x hx => ?_, ?_⟩
  · rcases List.mem_cons.1 hx with rfl | hx
    · right; right
      rcases hb2 with h | h <;> omega
    · rcases hx2 x hx with h | h
      · exact .inl (hL1 x h)
      · exact .inr (.inl h)
  · exact ((hb0.grown hg1 hb0.size fun g hg => by cases hg; exact Nat.le_refl _).grown hg2 (by omega) fun g hg => by cases hg; exact hbge)

set_option maxRecDepth 100000 in
set_option maxHeartbeats 8000000 in
theorem lawPML_any (A : Option Addr) (len cap : Nat) (w : World) (hb : Bts w w.heap.size A len) (hc : len ≤ cap) (hm : cap ≤ maxLen) (ht : nv.Tab w) :
    Calls Tryd.prog 4 #[.slice A len cap] w fun e w' => e = .returned (.bool true) ∧ Below w.heap.size w w' := by
  by_cases h2 : len ≤ 1048576
  · have t0 : ¬ (len : Int) > 1048576 := by omega
    have C1 := drawML_any A len cap w hb hc hm
    have H1 := Lib.hid C1
    have HT := Lib.hid ht
    clear C1 hb hc hm ht
    go_enter Tryd.func4, Tryd.ntmps4
    go_wp2_with fail
    refine H1.out.mono ?_
    rintro e w2 ⟨F, A1, c1, k, n, s, g, B1, d1, rfl, hF3, hnF, hf, hng, ⟨L, M, o1, o2, hnd, hlm⟩, hb⟩
    have hb0 : Below w2.heap.size w2 (w2.alloc (.cells #[.int .i64 k, .int .i64 n, .string s, .slice B1 g.len d1] 31)) := (Below.refl _ _).alloc (Nat.le_refl _) _
    have HQ := Lib.hid (Blk.new w2 31 #[.int .i64 k, .int .i64 n, .string s, .slice B1 g.len d1])
    have HO := Lib.hid (o1.below hb0 o1.lt)
    have HP := Lib.hid (o2.below hb0 o2.lt)
    have HB3 := Lib.hid (hb.trans (hb0.mono hb.size))
    have HND := Lib.hid hnd
    have HNF := Lib.hid hnF
    have HNG := Lib.hid hng
    have HF := Lib.hid hf
    have HF3 := Lib.hid hF3
    have HLT : Hid (∀ x ∈ L ++ M, x < w2.heap.size) := Lib.hid fun x hx => by
      rcases List.mem_append.1 hx with h | h
      · exact o1.lt x h
      · exact o2.lt x h
    have hs3 : (w2.alloc (.cells #[.int .i64 k, .int .i64 n, .string s, .slice B1 g.len d1] 31)).heap.size = w2.heap.size + 1 := by simp
    have hlw := fun (h : mlB F k n s g = true) => ml_law h
    have HLW := Lib.hid hlw
    obtain ⟨x0, x1, x2, x3⟩ := cells4i HQ.out
    clear hf hng hnF hF3 o1 o2 hnd hlm hb hb0 H1 hlw
    go_wp2_with fail
    generalize w2.alloc (.cells #[.int .i64 k, .int .i64 n, .string s, .slice B1 g.len d1] 31) = w3 at *
    have C4 := implMake_any F A1 c1 k n s g B1 d1 0 w3.heap.size 0 w3.heap.size w3 HO.out.kx (Nat.le_refl _) HP.out.kx (Nat.le_refl _) HF.out (Nat.le_trans HNF.out (by omega)) (Nat.le_trans HNG.out (by omega)) (HT.out.below HB3.out)
    have C5 := fun w1 (hb : Below w3.heap.size w3 w1) => specMake_any F A1 c1 k n s g B1 d1 0 w1.heap.size 0 w1.heap.size w1 (HO.out.below hb HO.out.lt).kx (Nat.le_refl _) (HP.out.below hb HP.out.lt).kx (Nat.le_refl _) HF.out (Nat.le_trans HNF.out (by omega)) (Nat.le_trans HNG.out (by omega))
    unfold TermRes at C4 C5
    generalize hml : mlF F k n s g = ml at *
    generalize mlB F k n s g = ok at *
    have HML := Lib.hid hml
    have H4 := Lib.hid C4
    have H5 := Lib.hid C5
    clear C4 C5 hml
    generalize w2.heap.size = H at *
    refine H4.out.mono ?_
    rintro e w4 ⟨mk, mn, ms, mf, A4, c4, rfl, rfl, L4, o4, n4, l4, hb4⟩
    have hba : Below w4.heap.size w4 (w4.alloc (.cells #[.int .i64 mk, .int .i64 mn, .string ms, .slice A4 mf.len c4] 31)) := (Below.refl _ _).alloc (Nat.le_refl _) _
    have hbb := hb4.trans (hba.mono hb4.size)
    have HQ5 := Lib.hid (HQ.out.below hbb HQ.out.lt)
    have HR5 := Lib.hid (Blk.new w4 31 #[.int .i64 mk, .int .i64 mn, .string ms, .slice A4 mf.len c4])
    have HM5 := Lib.hid (o4.below hba o4.lt)
    have HN4 := Lib.hid n4
    have HL4 : Hid (∀ x ∈ L4, w3.heap.size ≤ x ∧ x < w4.heap.size) := Lib.hid l4
    have HBB := Lib.hid hbb
    have HB5 := Lib.hid (HB3.out.trans (hbb.mono HB3.out.size))
    obtain ⟨x0, x1, x2, x3⟩ := cells4i HQ5.out
    have hs5 : (w4.alloc (.cells #[.int .i64 mk, .int .i64 mn, .string ms, .slice A4 mf.len c4] 31)).heap.size = w4.heap.size + 1 := by simp
    have hs34 := hb4.size
    clear hba hbb hb4 o4 n4 l4 H4 HQ
    go_wp2_with fail
    generalize w4.alloc (.cells #[.int .i64 mk, .int .i64 mn, .string ms, .slice A4 mf.len c4] 31) = w5 at *
    generalize w4.heap.size = Z5 at *
    refine (H5.out _ HBB.out).mono ?_
    rintro e w6 ⟨mk', mn', ms', mf', A6, c6, he6, rfl, L6, o6, n6, l6, hb6⟩
    injection he6 with q1 q2 q3 q4 _
    subst q1 q2 q3 q4
    have hba : Below w6.heap.size w6 (w6.alloc (.cells #[.int .i64 mk, .int .i64 mn, .string ms, .slice A6 mf.len c6] 31)) := (Below.refl _ _).alloc (Nat.le_refl _) _
    have hbb := hb6.trans (hba.mono hb6.size)
    have HQ7 := Lib.hid (HQ5.out.below hbb HQ5.out.lt)
    have HR7 := Lib.hid (HR5.out.below hbb HR5.out.lt)
    have HM7 := Lib.hid (HM5.out.below hbb HM5.out.lt)
    have HS7 := Lib.hid (Blk.new w6 31 #[.int .i64 mk, .int .i64 mn, .string ms, .slice A6 mf.len c6])
    have HW7 := Lib.hid (o6.below hba o6.lt)
    have HN6 := Lib.hid n6
    have HL6 : Hid (∀ x ∈ L6, w5.heap.size ≤ x ∧ x < w6.heap.size) := Lib.hid l6
    have HB37 := Lib.hid (HBB.out.trans (hbb.mono HBB.out.size))
    have HB7 := Lib.hid (HB5.out.trans (hbb.mono HB5.out.size))
    have hs7 : (w6.alloc (.cells #[.int .i64 mk, .int .i64 mn, .string ms, .slice A6 mf.len c6] 31)).heap.size = w6.heap.size + 1 := by simp
    have hs56 := hb6.size
    clear hba hbb hb6 o6 n6 l6 H5 HQ5 HR5 HM5 x0 x1 x2 x3
    have tv : (ok != ok) = false := by cases ok <;> rfl
    have te : (ok == ok) = true := by cases ok <;> rfl
    have hXY : (L4 ++ L6).Nodup := List.nodup_append.2 ⟨HN4.out, HN6.out, fun a ha b hb e => by have := (HL4.out a ha).2; have := (HL6.out b hb).1; omega⟩
    have hmn : nodes mf ≤ 1048576 := by
      have h := ml_nodes F k n s g
      rw [HML.out] at h
      have h1 := HNF.out
      have h2 := HNG.out
      have h3 := HF3.out
      simp only [nodes] at h
      omega
    have CS := fun w1 (hb : Below (w6.alloc (.cells #[.int .i64 mk, .int .i64 mn, .string ms, .slice A6 mf.len c6] 31)).heap.size (w6.alloc (.cells #[.int .i64 mk, .int .i64 mn, .string ms, .slice A6 mf.len c6] 31)) w1) => tsame_own mk mn ms mf A4 c4 mk mn ms mf A6 c6 L4 L6 w1 (HM7.out.below hb HM7.out.lt) (HW7.out.below hb HW7.out.lt) hXY hmn
    rw [eqT_refl] at CS
    have HCS := Lib.hid CS
    have HMN := Lib.hid hmn
    obtain ⟨x0, x1, x2, x3⟩ := cells4i HR7.out
    obtain ⟨y0, y1, y2, y3⟩ := cells4i HS7.out
    clear CS hXY hmn
    cases ok
    · go_wp2_with fail
      generalize w6.alloc (.cells #[.int .i64 mk, .int .i64 mn, .string ms, .slice A6 mf.len c6] 31) = w7 at *
      generalize w6.heap.size = Z7 at *
      refine (HCS.out w7 (Below.refl _ _)).mono ?_
      rintro e w8 ⟨rfl, hb8⟩
      have hq8 := HR7.out.below hb8 HR7.out.lt
      have hr8 := HS7.out.below hb8 HS7.out.lt
      obtain ⟨u0, u1, u2, u3⟩ := cells4i hq8
      obtain ⟨v0, v1, v2, v3⟩ := cells4i hr8
      have HB78 := Lib.hid hb8
      clear hb8 hq8 hr8
      go_wp2_with fail
      refine (HCS.out w8 HB78.out).mono ?_
      rintro e w9 ⟨rfl, hb9⟩
      have HB9 := Lib.hid (HB7.out.trans ((HB78.out.trans (hb9.mono HB78.out.size)).mono HB7.out.size))
      clear hb9
      go_wp2_with fail
      go_ret
      exact ⟨rfl, HB9.out⟩
    · obtain ⟨hvT, hall⟩ := HLW.out (by first | exact trivial | exact rfl)
      obtain ⟨hvM, hlM, hfM⟩ := hall mk mn ms mf (by first | exact trivial | exact rfl)
      have HVT := Lib.hid hvT
      have HVM := Lib.hid hvM
      have HLM := Lib.hid hlM
      have HFM := Lib.hid hfM
      have hFit := (shapeT_small (validT_shape hvM)).1
      have HFIT := Lib.hid hFit
      clear hvT hall hvM hlM hfM hFit HLW
      go_wp2_with fail
      generalize w6.alloc (.cells #[.int .i64 mk, .int .i64 mn, .string ms, .slice A6 mf.len c6] 31) = w7 at *
      generalize w6.heap.size = Z7 at *
      refine (HCS.out w7 (Below.refl _ _)).mono ?_
      rintro e w8 ⟨rfl, hb8⟩
      have hr8 := HR7.out.below hb8 HR7.out.lt
      obtain ⟨u0, u1, u2, u3⟩ := cells4i hr8
      have HQ8 := Lib.hid (HQ7.out.below hb8 HQ7.out.lt)
      have HM8 := Lib.hid (HM7.out.below hb8 HM7.out.lt)
      have HB38 := Lib.hid (HB37.out.trans (hb8.mono HB37.out.size))
      have HB8 := Lib.hid (HB7.out.trans (hb8.mono HB7.out.size))
      clear hb8 hr8 HCS HQ7 HM7 HR7 HS7 HW7 x0 x1 x2 x3 y0 y1 y2 y3 HB37 HB7
      go_wp2_with fail
      refine (implList_any mk mn ms mf A4 c4 0 w8.heap.size w8 HM8.out.kx (Nat.le_refl _) HFIT.out HMN.out (HT.out.below HB8.out)).mono ?_
      rintro e w9 ⟨hb9, hr9⟩
      rw [HVM.out, HLM.out, HFM.out] at hr9
      have hq9 := HQ8.out.below hb9 HQ8.out.lt
      have HB39 := Lib.hid (HB38.out.trans (hb9.mono HB38.out.size))
      have HB9 := Lib.hid (HB8.out.trans (hb9.mono HB8.out.size))
      obtain ⟨u0, u1, u2, u3⟩ := cells4i hq9
      have HP9 := Lib.hid (HP.out.below HB39.out HP.out.lt)
      have C10 := implList_any k n s g B1 d1 0 w9.heap.size w9 HP9.out.kx (Nat.le_refl _) HF.out (Nat.le_trans HNG.out (by omega)) (HT.out.below HB9.out)
      unfold ListRes at C10
      rw [HVT.out] at C10
      generalize listB k n s g = lb at *
      have H10 := Lib.hid C10
      clear C10 hb9 hq9 HQ8 HM8
      cases lb
      · have h9 : ∃ A9 c9, e = .returned (.tuple #[.slice A9 0 c9, .bool false]) := by
          rcases hr9 with ⟨h, _⟩ | ⟨_, A9, c9, he, _⟩
          · simp at h
          · exact ⟨A9, c9, he⟩
        obtain ⟨A9, c9, rfl⟩ := h9
        clear hr9
        go_wp2_with fail
        refine H10.out.mono ?_
        rintro e w10 ⟨hb10, hr10⟩
        have h10 : ∃ A10 c10, e = .returned (.tuple #[.slice A10 0 c10, .bool false]) := by
          rcases hr10 with ⟨h, _⟩ | ⟨_, A10, c10, he, _⟩
          · simp at h
          · exact ⟨A10, c10, he⟩
        obtain ⟨A10, c10, rfl⟩ := h10
        have HB10 := Lib.hid (HB9.out.trans (hb10.mono HB9.out.size))
        clear hr10 hb10
        go_wp2_with fail
        go_ret
        exact ⟨rfl, HB10.out⟩
      · have h9 : ∃ A9 c9, e = .returned (.tuple #[.slice A9 (F.app (fronts k s g)).len c9, .bool true]) ∧ Made w8 (F.app (fronts k s g)) A9 c9 w9 := by
          rcases hr9 with ⟨_, A9, c9, he, hm⟩ | ⟨h, _⟩
          · exact ⟨A9, c9, he, hm⟩
          · simp at h
        obtain ⟨A9, c9, rfl, L9, o9, n9, l9, _⟩ := h9
        have HO9 := Lib.hid o9
        have HN9 := Lib.hid n9
        have HL9 : Hid (∀ x ∈ L9, w8.heap.size ≤ x ∧ x < w9.heap.size) := Lib.hid l9
        clear hr9 o9 n9 l9
        generalize hal : (F.app (fronts k s g)).len = al at *
        have HAL := Lib.hid hal
        clear hal
        go_wp2_with fail
        refine H10.out.mono ?_
        rintro e w10 ⟨hb10, hr10⟩
        have h10 : ∃ A10 c10, e = .returned (.tuple #[.slice A10 (fronts k s g).len c10, .bool true]) ∧ Made w9 (fronts k s g) A10 c10 w10 := by
          rcases hr10 with ⟨_, A10, c10, he, hm⟩ | ⟨h, _⟩
          · exact ⟨A10, c10, he, hm⟩
          · simp at h
        obtain ⟨A10, c10, rfl, L10, o10, n10, l10, _⟩ := h10
        have hb310 := HB39.out.trans (hb10.mono HB39.out.size)
        have hsz39 := HB39.out.size
        have hs9 := hb10.size
        obtain ⟨hnL, hnM, _⟩ := List.nodup_append.1 HND.out
        have hltw := HO.out.lt
        have hfl : (fronts k s g).len ≤ 1000 := Nat.le_trans (len_le_nodes _) (Nat.le_trans (fronts_nodes k s g) HNG.out)
        obtain ⟨b1, cc1, w11, A12, cc2, w12, L12, hr1, hr2, ho12, hnd12, hl12, hb12⟩ := app_both (w := w10) (HO.out.below hb310 HO.out.lt) o10 (List.nodup_append.2 ⟨hnL, n10, fun a ha c hc e => by have := hltw a ha; have := (l10 c hc).1; omega⟩) (Nat.le_trans HF3.out (by omega)) hfl 23
        have HB12 := Lib.hid (HB9.out.trans ((hb10.trans (hb12.mono hb10.size)).mono HB9.out.size))
        have ho9' := HO9.out.below (hb10.trans (hb12.mono hb10.size)) HO9.out.lt
        have hXY : (L9 ++ L12).Nodup := List.nodup_append.2 ⟨HN9.out, hnd12, fun a ha c hc e => by
          have h1 := HL9.out a ha
          have hs38 := HB38.out.size
          rcases hl12 c hc with h | h | h
          · have := hltw c h; omega
          · have := (l10 c h).1; omega
          · omega⟩
        have CP := pgT_any (F.app (fronts k s g)) (F.app (fronts k s g)) A9 A12 c9 cc2 L9 L12 w12 ho9' ho12 hXY (by rw [nodes_app]; have := fronts_nodes k s g; have := HNG.out; have := HNF.out; omega)
        rw [eqF_refl, HAL.out] at CP
        rw [HAL.out] at hr2
        have HCP := Lib.hid CP
        clear CP hXY ho9' ho12 hl12 hb12 hb310 o10 n10 l10 hr10 hb10 hnL hnM hltw
        generalize (fronts k s g).len = el at *
        generalize F.len = fl at *
        have HR1 := Lib.hid hr1
        have HR2 := Lib.hid hr2
        clear hr1 hr2
        go_wp2_with (first
          | (at_builtin; go_must (first | refine wpList_appRun (by rfl) _ _ rfl rfl rfl HR1.out ?_ | refine wpList_appRun (by rfl) _ _ rfl rfl rfl HR2.out ?_))
          | fail)
        refine HCP.out.mono ?_
        rintro e w13 ⟨rfl, hb13⟩
        have HB13 := Lib.hid (HB12.out.trans (hb13.mono HB12.out.size))
        clear hb13
        go_wp2_with fail
        go_ret
        exact ⟨rfl, HB13.out⟩
  · have HB := Lib.hid (Below.refl w.heap.size w)
    have t0 : (len : Int) > 1048576 := by omega
    clear hb hc hm ht
    go_enter Tryd.func4, Tryd.ntmps4
    go_wp2_with fail
    go_ret
    exact ⟨rfl, HB.out⟩
end Go.Proofs.YtabkoofmfhbmhaaDoor
