/- What every law's walk shares. No condition. -/
import Derived.Test.YtejehnmnocokiaaDoorProg
import Derived.Test.YtejehnmnocokiaaDoorImplV
import Derived.Test.YtejehnmnocokiaaDoorTo
import Derived.Test.YtejehnmnocokiaaDoorDrD
import Derived.Test.YtejehnmnocokiaaDoorSamS
import Derived.Test.YtejehnmnocokiaaDoorSameS
import Derived.Test.YtejehnmnocokiaaDoorZmTS49
import Derived.Test.YtejehnmnocokiaaDoorInk
namespace Go.Proofs.YtejehnmnocokiaaDoor
open Go.RowKit

theorem nodes_le_wt (f : Fr) : nodes f ≤ f.len + wt f := by
  induction f with
  | nil => exact Nat.le_refl _
  | cons k n s kids rest h1 h2 => simp only [nodes, Fr.len, wt]; omega
theorem kids_of_made {w w' : World} {f : Fr} {A : Option Addr} {cap : Nat} (h : Made w f A cap w') : KidsAt w' w.heap.size w'.heap.size f A cap ∧ Below w.heap.size w w' := by
  obtain ⟨L, ho, _, hL, hb⟩ := h
  exact ⟨ho.kids hL, hb⟩

end Go.Proofs.YtejehnmnocokiaaDoor

/- The law FnTermSame, walked. Condition: the code lies in memory, the tables of signs and of powers of ten in their variables. -/
namespace Go.Proofs.YtejehnmnocokiaaDoor
open Go.RowKit

/-- What the texts of two terms say of them. -/
theorem fm_says (k n : Int) (s : ByteArray) (f : Fr) (k' n' : Int) (s' : ByteArray) (g : Fr) :
    (fmB k n s f = [] ∨ fmB k' n' s' g = []) ∨ (fmB k n s f ≠ [] ∧ fmB k' n' s' g ≠ [] ∧ (fmB k n s f = fmB k' n' s' g ↔ eqT k n s f k' n' s' g = true)) := by
  by_cases hv : validT k n s f = true
  · by_cases hv' : validT k' n' s' g = true
    · have hs : shapeT k n s f 30 = true := by unfold validT at hv; rw [Bool.and_eq_true] at hv; exact hv.1
      have hs' : shapeT k' n' s' g 30 = true := by unfold validT at hv'; rw [Bool.and_eq_true] at hv'; exact hv'.1
      have p := txT_ne hs
      have p' := txT_ne hs'
      have e : fmB k n s f = txT k n s f := by unfold fmB; rw [if_pos hv]
      have e' : fmB k' n' s' g = txT k' n' s' g := by unfold fmB; rw [if_pos hv']
      rw [e, e']
      refine .inr ⟨fun h => ?_, fun h => ?_, txt_same hs hs'⟩
      · rw [h] at p; simp at p
      · rw [h] at p'; simp at p'
    · exact .inl (.inr (by unfold fmB; rw [if_neg hv']))
  · exact .inl (.inl (by unfold fmB; rw [if_neg hv]))
set_option maxRecDepth 100000 in
set_option maxHeartbeats 8000000 in
theorem lawPTS_any (A : Option Addr) (len cap : Nat) (w : World) (hb : Bts w w.heap.size A len) (hc : len ≤ cap) (hm : cap ≤ maxLen) (ht : nv.Tab w) (hp : Lib.TabIs Tryd.prog w "internal/strconv.uint64pow10" .u64 Lib.pow10Tab) :
    Calls Tryd.prog 4 #[.slice A len cap] w fun e w' => e = .returned (.bool true) ∧ Below w.heap.size w w' := by
  by_cases h2 : len ≤ 1048576
  · have t0 : ¬ (len : Int) > 1048576 := by omega
    have hlt := tab_lt ht
    have C1 := drawTS_any A len cap w hb hc hm
    have H1 := Lib.hid C1
    have HT := Lib.hid ht
    have HLT := Lib.hid hlt
    have HPT := Lib.hid (Lib.tabBelow_of_tabIs hp)
    clear C1 hb hc hm ht hp hlt
    go_enter Tryd.func4, Tryd.ntmps4
    go_wp2_with fail
    refine H1.out.mono ?_
    rintro e w2 ⟨k, n, s, f, A1, c1, k', n', s', g, B1, c1', rfl, hf, hf', hn, hn', ⟨L, M, o1, o2, hnd, hlm⟩, hb⟩
    have hb0 : Below w2.heap.size w2 ((w2.alloc (.cells #[.int .i64 k, .int .i64 n, .string s, .slice A1 f.len c1] 29)).alloc (.cells #[.int .i64 k', .int .i64 n', .string s', .slice B1 g.len c1'] 29)) := two_new _ _ _
    have q1 : Blk ((w2.alloc (.cells #[.int .i64 k, .int .i64 n, .string s, .slice A1 f.len c1] 29)).alloc (.cells #[.int .i64 k', .int .i64 n', .string s', .slice B1 g.len c1'] 29)) w2.heap.size 29 #[.int .i64 k, .int .i64 n, .string s, .slice A1 f.len c1] := (Blk.new w2 _ _).alloc _
    have q2 : Blk ((w2.alloc (.cells #[.int .i64 k, .int .i64 n, .string s, .slice A1 f.len c1] 29)).alloc (.cells #[.int .i64 k', .int .i64 n', .string s', .slice B1 g.len c1'] 29)) (w2.heap.size + 1) 29 #[.int .i64 k', .int .i64 n', .string s', .slice B1 g.len c1'] := by
      have h := Blk.new (w2.alloc (.cells #[.int .i64 k, .int .i64 n, .string s, .slice A1 f.len c1] 29)) 29 #[.int .i64 k', .int .i64 n', .string s', .slice B1 g.len c1']
      simpa using h
    have HO1 := Lib.hid (o1.below hb0 o1.lt)
    have HO2 := Lib.hid (o2.below hb0 o2.lt)
    have HB0 := Lib.hid (hb.trans (hb0.mono hb.size))
    have HQ1 := Lib.hid q1
    have HQ2 := Lib.hid q2
    have HND := Lib.hid hnd
    have HNF := Lib.hid (And.intro hn hn')
    have HF := Lib.hid (And.intro hf hf')
    have HSY := Lib.hid (eqT_symm k n s f k' n' s' g)
    have HFM := Lib.hid (fm_says k n s f k' n' s' g)
    clear hf hf' hn hn' o1 o2 hnd hlm hb hb0 q1 q2 H1
    go_wp2_with fail
    generalize ((w2.alloc (.cells #[.int .i64 k, .int .i64 n, .string s, .slice A1 f.len c1] 29)).alloc (.cells #[.int .i64 k', .int .i64 n', .string s', .slice B1 g.len c1'] 29)) = w3 at *
    generalize w2.heap.size = H at *
    have hnod : (L ++ M).Nodup ∧ (M ++ L).Nodup := ⟨HND.out, by
      have h := List.nodup_append.1 HND.out
      exact List.nodup_append.2 ⟨h.2.1, h.1, fun a ha b hb e => h.2.2 b hb a ha e.symm⟩⟩
    have C1 := fun wX (hX : Below w3.heap.size w3 wX) => tsame_own2 k n s f A1 c1 k' n' s' g B1 c1' L M wX (HO1.out.below hX HO1.out.lt) (HO2.out.below hX HO2.out.lt) hnod.1 (by have := HNF.out.1; omega)
    have C2 := fun wX (hX : Below w3.heap.size w3 wX) => sa_all f.size s f (Nat.le_refl _) s' g k n k' n' A1 B1 c1 c1' 0 w3.heap.size 0 w3.heap.size wX ((HO1.out.kids fun x hx => ⟨Nat.zero_le _, HO1.out.lt x hx⟩).below hX (Nat.le_refl _)) ((HO2.out.kids fun x hx => ⟨Nat.zero_le _, HO2.out.lt x hx⟩).below hX (Nat.le_refl _)) hX.size hX.size
    have C3 := fun wX (hX : Below w3.heap.size w3 wX) => tsame_own2 k' n' s' g B1 c1' k n s f A1 c1 M L wX (HO2.out.below hX HO2.out.lt) (HO1.out.below hX HO1.out.lt) hnod.2 (by have := HNF.out.2; omega)
    have C4 := fun wX (hX : Below w3.heap.size w3 wX) => self_any k n s f A1 c1 L wX (HO1.out.below hX HO1.out.lt)
    have C5 := fun wX (hX : Below w3.heap.size w3 wX) => implFm_any k n s f A1 c1 0 w3.heap.size wX ((HO1.out.kids fun x hx => ⟨Nat.zero_le _, HO1.out.lt x hx⟩).below hX (Nat.le_refl _)) hX.size HF.out.1 (by have := HNF.out.1; omega) (tab_below HT.out (HB0.out.trans (hX.mono HB0.out.size)) HLT.out) (HPT.out _ (HB0.out.trans (hX.mono HB0.out.size)))
    have C6 := fun wX (hX : Below w3.heap.size w3 wX) => implFm_any k' n' s' g B1 c1' 0 w3.heap.size wX ((HO2.out.kids fun x hx => ⟨Nat.zero_le _, HO2.out.lt x hx⟩).below hX (Nat.le_refl _)) hX.size HF.out.2 (by have := HNF.out.2; omega) (tab_below HT.out (HB0.out.trans (hX.mono HB0.out.size)) HLT.out) (HPT.out _ (HB0.out.trans (hX.mono HB0.out.size)))
    rw [HSY.out] at C3
    have CELLS : ∀ wX, Below w3.heap.size w3 wX → (wX.cell? ⟨H, 0, none⟩ = some (.int .i64 k) ∧ wX.cell? ⟨H, 1, none⟩ = some (.int .i64 n) ∧ wX.cell? ⟨H, 2, none⟩ = some (.string s) ∧ wX.cell? ⟨H, 3, none⟩ = some (.slice A1 f.len c1)) ∧
        (wX.cell? ⟨H + 1, 0, none⟩ = some (.int .i64 k') ∧ wX.cell? ⟨H + 1, 1, none⟩ = some (.int .i64 n') ∧ wX.cell? ⟨H + 1, 2, none⟩ = some (.string s') ∧ wX.cell? ⟨H + 1, 3, none⟩ = some (.slice B1 g.len c1')) := fun wX hX =>
      ⟨cells4i (HQ1.out.below hX HQ1.out.lt), cells4i (HQ2.out.below hX HQ2.out.lt)⟩
    have tvv : ∀ v : Bool, (v != v) = false := by intro v; cases v <;> rfl
    have tv := tvv (eqT k n s f k' n' s' g)
    have hfm := HFM.out
    generalize eqT k n s f k' n' s' g = v at *
    have h1 : ∀ a : List UInt8, ∃ b : ByteArray, b = ⟨a.toArray⟩ ∧ b.toList = a := fun a => ⟨_, rfl, by rw [ByteArray.toList_eq]⟩
    obtain ⟨b1, e1, f1⟩ := h1 (fmB k n s f)
    obtain ⟨b2, e2, f2⟩ := h1 (fmB k' n' s' g)
    rw [← f1, ← f2] at hfm
    rw [← e1] at C5
    rw [← e2] at C6
    have HFS := Lib.hid hfm
    have HC1 := Lib.hid C1
    have HC2 := Lib.hid C2
    have HC3 := Lib.hid C3
    have HC4 := Lib.hid C4
    have HC5 := Lib.hid C5
    have HC6 := Lib.hid C6
    have HCE := Lib.hid CELLS
    clear C1 C2 C3 C4 C5 C6 CELLS tvv hnod h1 e1 e2 f1 f2 hfm HFM HSY HF HNF HND HO1 HO2 HQ1 HQ2 HPT HT HLT
    generalize f.len = fl at *
    generalize g.len = gl at *
    refine (HC1.out w3 (Below.refl _ _)).mono ?_
    rintro e w4 ⟨rfl, hb⟩
    have HB4 := Lib.hid hb
    clear hb
    obtain ⟨⟨x0, x1, x2, x3⟩, y0, y1, y2, y3⟩ := HCE.out w4 HB4.out
    go_wp2_with fail
    refine (HC2.out w4 HB4.out).mono ?_
    rintro e w5 ⟨rfl, hb⟩
    have HB5 := Lib.hid (HB4.out.trans (hb.mono HB4.out.size))
    clear hb x0 x1 x2 x3 y0 y1 y2 y3
    obtain ⟨⟨x0, x1, x2, x3⟩, y0, y1, y2, y3⟩ := HCE.out w5 HB5.out
    go_wp2_with fail
    refine (HC3.out w5 HB5.out).mono ?_
    rintro e w6 ⟨rfl, hb⟩
    have HB6 := Lib.hid (HB5.out.trans (hb.mono HB5.out.size))
    clear hb x0 x1 x2 x3 y0 y1 y2 y3
    obtain ⟨⟨x0, x1, x2, x3⟩, y0, y1, y2, y3⟩ := HCE.out w6 HB6.out
    go_wp2_with fail
    refine (HC4.out w6 HB6.out).mono ?_
    rintro e w7 ⟨rfl, hb⟩
    have HB7 := Lib.hid (HB6.out.trans (hb.mono HB6.out.size))
    clear hb x0 x1 x2 x3 y0 y1 y2 y3
    obtain ⟨⟨x0, x1, x2, x3⟩, y0, y1, y2, y3⟩ := HCE.out w7 HB7.out
    go_wp2_with fail
    refine (HC5.out w7 HB7.out).mono ?_
    rintro e w8 ⟨rfl, hb⟩
    have HB8 := Lib.hid (HB7.out.trans (hb.mono HB7.out.size))
    clear hb x0 x1 x2 x3 y0 y1 y2 y3
    obtain ⟨⟨x0, x1, x2, x3⟩, y0, y1, y2, y3⟩ := HCE.out w8 HB8.out
    go_wp2_with fail
    refine (HC6.out w8 HB8.out).mono ?_
    rintro e w9 ⟨rfl, hb⟩
    have HB9 := Lib.hid (HB0.out.trans ((HB8.out.trans (hb.mono HB8.out.size)).mono HB0.out.size))
    clear hb x0 x1 x2 x3 y0 y1 y2 y3
    by_cases z1 : b1.toList = []
    · have t1 : (b1.toList == []) = true := by rw [z1]; rfl
      clear z1
      go_wp2_with fail
      go_ret
      exact ⟨rfl, HB9.out⟩
    · have t1 : (b1.toList == []) = false := by rw [beq_eq_false_iff_ne]; exact z1
      by_cases z2 : b2.toList = []
      · have t2 : (b2.toList == []) = true := by rw [z2]; rfl
        clear z1 z2
        go_wp2_with fail
        go_ret
        exact ⟨rfl, HB9.out⟩
      · have t2 : (b2.toList == []) = false := by rw [beq_eq_false_iff_ne]; exact z2
        have t3 : (b1.toList == b2.toList) = v := by
          rcases HFS.out with (h | h) | ⟨_, _, h⟩
          · exact absurd h z1
          · exact absurd h z2
          · rw [Bool.eq_iff_iff, beq_iff_eq]; exact h
        have t4 : (v == v) = true := by cases v <;> rfl
        clear z1 z2
        go_wp2_with fail
        go_ret
        exact ⟨rfl, HB9.out⟩
  · have t0 : (len : Int) > 1048576 := by omega
    clear hb hc hm
    go_enter Tryd.func4, Tryd.ntmps4
    go_wp2_with fail
    go_ret
    exact ⟨rfl, Below.refl _ _⟩
end Go.Proofs.YtejehnmnocokiaaDoor
