/- impl.TermSame of a term and the term itself: true. Condition: the term's row lies in memory. -/
import Derived.Test.YtejehnmnocokiaaDoorProg
import Derived.Test.YtejehnmnocokiaaDoorSame
namespace Go.Proofs.YtejehnmnocokiaaDoor
open Go.RowKit Go.ChangeMaps Go.MapKept

theorem kp_eqs (p : Addr) (w : World) : (binOp .eql 57 (.pointer (some p)) (.pointer (some p))).run Tryd.prog w = .ok (.bool true) w := by
  have hi : (Tryd.prog.info? 29).map (fun i => i.size) = some 4 := by kernel_rfl
  obtain ⟨j, hj, _⟩ := Option.map_eq_some_iff.1 hi
  have e : ∀ x y, Op.equal 57 x y = Op.equalIn (9999 + 1) 57 x y := fun _ _ => rfl
  have h : (Op.equalIn (9999 + 1) 57 (.pointer (some p)) (.pointer (some p))).run Tryd.prog w = .ok true w := by
    generalize 9999 = d
    simp [Op.equalIn, run_underlying Tryd.underlying57, sizeOf, typeInfo, hj, run_sameAddr_same]
  simp only [binOp]
  simp [e, h]
/-- The stack of one pair, or of none. -/
def SlP (w : World) (G : Nat) (cs : Array Value) (v : Value) (m cp : Nat) (wr : World) : Prop :=
  (v = .slice (some ⟨G, 0, none⟩) m cp ∧ m ≤ cp ∧ cp ≤ 1048601) ∧ m ≤ 1 ∧ Blk wr G 55 cs ∧ Below w.heap.size w wr ∧ w.heap.size < G
theorem SlP.pop {w wr wc : World} {G m cp : Nat} {cs : Array Value} {v : Value} (h : SlP w G cs v (m + 1) cp wr) (hb : Below wr.heap.size wr wc) : SlP w G cs (.slice (some ⟨G, 0, none⟩) m cp) m cp wc :=
  ⟨⟨rfl, by have := h.1.2.1; omega, h.1.2.2⟩, by have := h.2.1; omega, h.2.2.1.below hb h.2.2.1.lt, h.2.2.2.1.trans (hb.mono h.2.2.2.1.size), h.2.2.2.2⟩

set_option maxRecDepth 100000 in
set_option maxHeartbeats 4000000 in
theorem self_any (k n : Int) (s : ByteArray) (f : Fr) (A : Option Addr) (cap : Nat) (L : List Nat) (w : World) (ho : OwnS w f A cap L) :
    Calls Tryd.prog 11 #[.agg #[.int .i64 k, .int .i64 n, .string s, .slice A f.len cap], .agg #[.int .i64 k, .int .i64 n, .string s, .slice A f.len cap]] w fun e w' => e = .returned (.bool true) ∧ Below w.heap.size w w' := by
  have hmm := @run_makeMap Tryd.prog
  have hA : f.len = 0 ∨ 0 < f.len ∧ f.len ≤ cap ∧ cap ≤ maxLen ∧ ∃ b, A = some ⟨b, 0, none⟩ := by
    obtain ⟨h1, h2, ⟨h3, _⟩ | ⟨b, L', cs, rfl, _⟩⟩ := ho
    · exact .inl h3
    · by_cases h0 : f.len = 0
      · exact .inl h0
      · exact .inr ⟨by omega, h1, h2, b, rfl⟩
  have hst : ∀ W, W = (((w.alloc (.cells #[.int .i64 k, .int .i64 n, .string s, .slice A f.len cap] 29)).alloc (.cells #[.int .i64 k, .int .i64 n, .string s, .slice A f.len cap] 29)).alloc (.map #[] 0)) →
      SlP w (w.heap.size + 1 + 1 + 1) #[.int .i64 k, .int .i64 n, .string s, .slice A f.len cap, .int .i64 k, .int .i64 n, .string s, .slice A f.len cap] (.slice (some ⟨w.heap.size + 1 + 1 + 1, 0, none⟩) 1 1) 1 1 (W.alloc (.cells #[.int .i64 k, .int .i64 n, .string s, .slice A f.len cap, .int .i64 k, .int .i64 n, .string s, .slice A f.len cap] 55)) := by
    rintro W rfl
    have hb2 := two_alloc w (.cells #[.int .i64 k, .int .i64 n, .string s, .slice A f.len cap] 29) (.cells #[.int .i64 k, .int .i64 n, .string s, .slice A f.len cap] 29)
    have hs2 : ((w.alloc (.cells #[.int .i64 k, .int .i64 n, .string s, .slice A f.len cap] 29)).alloc (.cells #[.int .i64 k, .int .i64 n, .string s, .slice A f.len cap] 29)).heap.size = w.heap.size + 1 + 1 := by simp
    generalize ((w.alloc (.cells #[.int .i64 k, .int .i64 n, .string s, .slice A f.len cap] 29)).alloc (.cells #[.int .i64 k, .int .i64 n, .string s, .slice A f.len cap] 29)) = w2 at *
    have hs3 : (w2.alloc (.map #[] 0)).heap.size = w.heap.size + 1 + 1 + 1 := by simp [hs2]
    have hb3 := (hb2.alloc hb2.size (.map #[] 0)).alloc (by rw [hs3]; omega) (.cells #[.int .i64 k, .int .i64 n, .string s, .slice A f.len cap, .int .i64 k, .int .i64 n, .string s, .slice A f.len cap] 55)
    have hq := Blk.new (w2.alloc (.map #[] 0)) 55 #[.int .i64 k, .int .i64 n, .string s, .slice A f.len cap, .int .i64 k, .int .i64 n, .string s, .slice A f.len cap]
    rw [hs3] at hq
    exact ⟨⟨rfl, Nat.le_refl _, by omega⟩, Nat.le_refl _, hq, hb3, by omega⟩
  have HST := Lib.hid (hst _ rfl)
  clear hst ho
  have tk : (k != k) = false := by simp
  have tn : (n != n) = false := by simp
  have ts : (s.toList != s.toList) = false := by simp
  have tl : ((f.len : Int) != (f.len : Int)) = false := by simp
  have ts2 : (!(s.toList == s.toList)) = false := by simp
  generalize f.len = l at *
  have HA := Lib.hid hA
  clear hA
  generalize hG : w.heap.size + 1 + 1 + 1 = G at *
  go_enter Tryd.func11, Tryd.ntmps11
  go_wp2_with fail
  clear hG
  go_loopw [6] (fun v wr => ∃ (m cp : Nat), SlP w G #[.int .i64 k, .int .i64 n, .string s, .slice A l cap, .int .i64 k, .int .i64 n, .string s, .slice A l cap] v m cp wr) (fun v _ => lenV v)
  case atStart => exact ⟨1, 1, HST.out⟩
  case round =>
    obtain ⟨m, cp, hp⟩ := hrel
    cases m with
    | zero =>
      have HB := Lib.hid hp.2.2.2.1
      obtain ⟨⟨rfl, -⟩, -⟩ := hp
      go_wp2_with fail
      go_ret
      exact ⟨rfl, HB.out⟩
    | succ m =>
      have hm := hp.2.1
      have hz : m = 0 := by omega
      have HP := Lib.hid hp
      have hq := hp.2.2.1
      have hgl := hq.lt
      have c0 : wr.cell? ⟨G, m * 8, none⟩ = some (.int .i64 k) := by rw [hz]; exact hq.cell 0
      have c1 : wr.cell? ⟨G, m * 8 + 1, none⟩ = some (.int .i64 n) := by rw [hz]; exact hq.cell 1
      have c2 : wr.cell? ⟨G, m * 8 + 2, none⟩ = some (.string s) := by rw [hz]; exact hq.cell 2
      have c3 : wr.cell? ⟨G, m * 8 + 3, none⟩ = some (.slice A l cap) := by rw [hz]; exact hq.cell 3
      have c4 : wr.cell? ⟨G, m * 8 + 4, none⟩ = some (.int .i64 k) := by rw [hz]; exact hq.cell 4
      have c5 : wr.cell? ⟨G, m * 8 + 5, none⟩ = some (.int .i64 n) := by rw [hz]; exact hq.cell 5
      have c6 : wr.cell? ⟨G, m * 8 + 6, none⟩ = some (.string s) := by rw [hz]; exact hq.cell 6
      have c7 : wr.cell? ⟨G, m * 8 + 7, none⟩ = some (.slice A l cap) := by rw [hz]; exact hq.cell 7
      have hc1 := hp.1.2.1
      have hc2 := hp.1.2.2
      obtain ⟨⟨rfl, -⟩, -⟩ := hp
      have im0 : (0 : Int) ≤ (m : Int) := Int.natCast_nonneg _
      have im1 : (m : Int) < (m : Int) + 1 := by omega
      have em : ((m + 1 : Nat) : Int) - 1 = (m : Int) := by omega
      have em2 : ((m : Int) + 1) - 1 = (m : Int) := by omega
      clear hq hz hm
      go_wp2_with fail
      go_cut [7, 8] (fun u u' wx => ∃ hx hy : Nat, u = .pointer (some ⟨hx, 0, none⟩) ∧ u' = .pointer (some ⟨hy, 0, none⟩) ∧ Blk wx hx 29 #[.int .i64 k, .int .i64 n, .string s, .slice A l cap] ∧ Blk wx hy 29 #[.int .i64 k, .int .i64 n, .string s, .slice A l cap] ∧ Below wr.heap.size wr wx)
      case first =>
        clear tk tn ts tl ts2
        go_region
        all_goals
          go_wp2_with fail
          go_meet
        all_goals
          have tb := boxes wr #[.int .i64 k, .int .i64 n, .string s, .slice A l cap] #[.int .i64 k, .int .i64 n, .string s, .slice A l cap]
          first
            | with_reducible exact ⟨_, _, rfl, rfl, tb.1, tb.2.1, tb.2.2⟩
            | with_reducible exact ⟨_, _, rfl, rfl, tb.2.1, tb.1, tb.2.2⟩
            | fail
      case rest =>
        obtain ⟨hx, hy, rfl, rfl, bx, bY, hb⟩ := hcut
        obtain ⟨a0, a1, a2, a3⟩ := cells4i bx
        obtain ⟨b0, b1, b2, b3⟩ := cells4i bY
        have HPOP := Lib.hid (HP.out.pop hb)
        have HX := Lib.hid bx
        have HY := Lib.hid bY
        have hxl := HX.out.lt
        have hyl := HY.out.lt
        clear hb bx bY c0 c1 c2 c3 c4 c5 c6 c7
        rcases HA.out with hl | ⟨hl, hc, hmx, b, rfl⟩
        · have t6 : ((l : Int) == 0) = true := by rw [hl]; rfl
          clear hl
          go_wp2_with fail
          go_roundw
          case rel => exact ⟨m, cp, HPOP.out⟩
          case measure => simp only [lenV]; omega
        · have t6 : ((l : Int) == 0) = false := by rw [beq_eq_false_iff_ne]; omega
          have im : (0 : Int) < (l : Int) := by omega
          generalize wc = wq at *
          go_wp2_with fail
          go_cut [9] (fun u wx => ∃ hq : Nat, u = .pointer (some ⟨hq, 0, none⟩) ∧ Blk wx hq 59 #[.pointer (some ⟨b, 0, none⟩), .pointer (some ⟨b, 0, none⟩), .int .i64 (l : Int)] ∧ Below wq.heap.size wq wx)
          case first =>
            go_region
            all_goals
              go_wp2_with fail
              go_meet
            all_goals first
              | (have tb := Blk.new wq 59 #[.pointer (some ⟨b, 0, none⟩), .pointer (some ⟨b, 0, none⟩), .int .i64 (l : Int)]
                 exact ⟨_, rfl, tb, ((Below.refl wq.heap.size wq).alloc (Nat.le_refl _) _).drew⟩)
              | fail
          case rest =>
            obtain ⟨hq, rfl, bq, hbq⟩ := hcut
            have p0 := bq.cell 0
            have p1 := bq.cell 1
            have p2 := bq.cell 2
            simp only [List.getElem?_toArray, List.getElem?_cons_zero, List.getElem?_cons_succ] at p0 p1 p2
            have q1 := kp_eqs ⟨b, 0, none⟩ wc
            have HB2 := Lib.hid hbq
            clear bq hbq
            go_wp2_with fail
            go_roundw
            case rel =>
              have h := HPOP.out
              exact ⟨m, cp, h.1, h.2.1, h.2.2.1.below HB2.out h.2.2.1.lt, h.2.2.2.1.trans (HB2.out.mono h.2.2.2.1.size), h.2.2.2.2⟩
            case measure => simp only [lenV]; omega
/-- impl.TermSame at terms of blocks of their own. -/
theorem tsame_own2 (k n : Int) (s : ByteArray) (f : Fr) (A : Option Addr) (cap : Nat) (k' n' : Int) (s' : ByteArray) (g : Fr) (B : Option Addr) (cap' : Nat) (L M : List Nat) (w : World) (ho : OwnS w f A cap L) (ho' : OwnS w g B cap' M) (hn : (L ++ M).Nodup) (hM : nodes f ≤ 1048576) :
    Calls Tryd.prog 11 #[.agg #[.int .i64 k, .int .i64 n, .string s, .slice A f.len cap], .agg #[.int .i64 k', .int .i64 n', .string s', .slice B g.len cap']] w fun e w' => e = .returned (.bool (eqT k n s f k' n' s' g)) ∧ Below w.heap.size w w' :=
  same_any ⟨k, n, s, f, A, cap, L, k', n', s', g, B, cap', M⟩ w ⟨ho, ho'⟩ hn (fun y hy => by
    rcases List.mem_append.1 hy with h | h
    · exact ho.lt y h
    · exact ho'.lt y h) (by show nodes f ≤ _; omega)
end Go.Proofs.YtejehnmnocokiaaDoor
