/- impl.RenumberClause; the law FnExactRenumberClause, walked. Condition: the argument lies in memory, both tables in their variables. -/
import Derived.Test.YtojilompidmfiaaDoorProg
import Derived.Test.YtojilompidmfiaaDoorRcS
import Derived.Test.YtojilompidmfiaaDoorCvI
import Derived.Test.YtojilompidmfiaaDoorImplR
import Derived.Test.YtojilompidmfiaaDoorClE
import Derived.Deep.RegionHeld3
namespace Go.Proofs.YtojilompidmfiaaDoor
open Go.RowKit

theorem MadeClo.drew {w w2 : World} {c : Cl} {A B : Option Addr} {cap capB : Nat} (h : MadeClo w c A cap B capB w2) : MadeClo w c A cap B capB w2.drew := by
  obtain ⟨L1, L2, h1, h2, h3⟩ := h
  exact ⟨L1, L2, h1.keep fun _ _ => rfl, h2, h3.drew⟩

set_option maxRecDepth 100000 in
set_option maxHeartbeats 4000000 in
/-- impl.RenumberClause. -/
theorem implRC_any (c : Cl) (A B : Option Addr) (cap capB : Nat) (L1 L2 : List Nat) (w : World) (ho : OwnCl w c A cap B capB L1 L2) (hf : Fits c.k c.n c.s) (hnd : nodes c.kids ≤ 1048576) (hndb : nodes c.body ≤ 1048576) (ht : nv.Tab w) (hop : op.OpTab w) :
    Calls Tryd.prog 24 #[.agg #[.int .i64 c.k, .int .i64 c.n, .string c.s, .slice A c.kids.len cap, .slice B c.body.len capB]] w fun e w' => RcRes w (rcC c) (clauseV c) e w' := by
  have hlt := tab_lt ht
  have C1 := fun w1 (hb : Below w.heap.size w w1) => implCV_any c A B cap capB 0 w1.heap.size w1 ((ho.1.below hb ho.1.lt).kids fun x hx => ⟨Nat.zero_le _, Nat.lt_of_lt_of_le (ho.1.lt x hx) hb.size⟩) ((ho.2.1.below hb ho.2.1.lt).kids fun x hx => ⟨Nat.zero_le _, Nat.lt_of_lt_of_le (ho.2.1.lt x hx) hb.size⟩) (Nat.le_refl _) hf hnd hndb (ht.below hb) (hop.below hb)
  have C2 := fun w1 (hb : Below w.heap.size w w1) (hg : c.body.len ≤ 1048576) => hab_any c.k c.n c.s c.kids c.body A B cap capB L1 L2 w1 (ho.1.below hb ho.1.lt) (ho.2.1.below hb ho.2.1.lt) hf hg
  have C3 := fun A1 cap1 w1 (hv : clauseV c = true) (hk : KidsAt w1 0 w1.heap.size c.row A1 cap1) (hb : Below w.heap.size w w1) => implRenT_any c.row A1 cap1 0 w1.heap.size w1 hk (Nat.le_refl _) (clauseV_row hv).2 (tab_below ht hb hlt)
  have e3 : clauseV c = true → allV c.row = true ∧ rnF c.row = renF (allVars c.row) c.row := fun hv => ⟨(clauseV_row hv).1, by unfold rnF; rw [if_pos (clauseV_row hv).1]⟩
  have hgl : c.body.len ≤ 1048576 := by have := len_le_nodes c.body; omega
  have e1 : clauseV c = true → rcC c = numC (allVars c.row) c := fun h => by unfold rcC; rw [if_pos h]
  have e2 : clauseV c = false → rcC c = ⟨0, 0, ⟨#[]⟩, .nil, .nil⟩ := fun h => by unfold rcC; rw [if_neg (by rw [h]; simp)]
  generalize rcC c = Q at *
  generalize clauseV c = v at *
  unfold RnRes at C3
  obtain ⟨k, n, s, f, g⟩ := c
  unfold numC Cl.row at *
  simp only at *
  have hba : Below w.heap.size w ((w.alloc (.cells #[.int .i64 k, .int .i64 n, .string s, .slice A f.len cap, .slice B g.len capB] 38)).alloc (.cells #[.int .i64 0, .int .i64 0, .string ⟨#[]⟩, .slice none 0 0, .slice none 0 0] 38)) := two_alloc w _ _
  have p0 : Blk ((w.alloc (.cells #[.int .i64 k, .int .i64 n, .string s, .slice A f.len cap, .slice B g.len capB] 38)).alloc (.cells #[.int .i64 0, .int .i64 0, .string ⟨#[]⟩, .slice none 0 0, .slice none 0 0] 38)) w.heap.size 38 #[.int .i64 k, .int .i64 n, .string s, .slice A f.len cap, .slice B g.len capB] := (Blk.new w _ _).alloc _
  have p1 : Blk ((w.alloc (.cells #[.int .i64 k, .int .i64 n, .string s, .slice A f.len cap, .slice B g.len capB] 38)).alloc (.cells #[.int .i64 0, .int .i64 0, .string ⟨#[]⟩, .slice none 0 0, .slice none 0 0] 38)) (w.heap.size + 1) 38 #[.int .i64 0, .int .i64 0, .string ⟨#[]⟩, .slice none 0 0, .slice none 0 0] := by
    have h := Blk.new (w.alloc (.cells #[.int .i64 k, .int .i64 n, .string s, .slice A f.len cap, .slice B g.len capB] 38)) 38 #[.int .i64 0, .int .i64 0, .string ⟨#[]⟩, .slice none 0 0, .slice none 0 0]
    simpa using h
  have hs0 : ((w.alloc (.cells #[.int .i64 k, .int .i64 n, .string s, .slice A f.len cap, .slice B g.len capB] 38)).alloc (.cells #[.int .i64 0, .int .i64 0, .string ⟨#[]⟩, .slice none 0 0, .slice none 0 0] 38)).heap.size = w.heap.size + 2 := by simp
  have H1 := Lib.hid (C1 _ hba)
  have H2 := Lib.hid C2
  have H3 := Lib.hid C3
  have HG := Lib.hid hgl
  clear C1 C2 C3 ho hf hnd hndb ht hop hlt hgl
  go_enter Tryd.func24, Tryd.ntmps24
  go_wp2_with fail
  generalize ((w.alloc (.cells #[.int .i64 k, .int .i64 n, .string s, .slice A f.len cap, .slice B g.len capB] 38)).alloc (.cells #[.int .i64 0, .int .i64 0, .string ⟨#[]⟩, .slice none 0 0, .slice none 0 0] 38)) = W0 at *
  refine H1.out.mono ?_
  rintro e w2 ⟨rfl, hb⟩
  have q0 := p0.below hb p0.lt
  have q1 := p1.below hb p1.lt
  obtain ⟨a0, a1, a2, a3, a4⟩ := ccells5 q0
  obtain ⟨c0, c1, c2, c3, c4⟩ := ccells5 q1
  obtain ⟨f0, f1, f2, f3, f4⟩ := cfrozen5 q1
  have hw2 := hba.trans (hb.mono hba.size)
  have hs2 : w.heap.size + 2 ≤ w2.heap.size := by have := hb.size; rwa [hs0] at this
  have HW2 := Lib.hid hw2
  have HR1 := Lib.hid q1
  have E1 := Lib.hid e1
  have E2 := Lib.hid e2
  have E3 := Lib.hid e3
  clear hb hw2 q0 q1 p0 p1 hba hs0 H1 e1 e2 e3
  cases v
  · have HV := Lib.hid (E2.out rfl)
    clear E1 E2 E3 H2 H3
    go_wp2_with fail
    refine bodyPost_ret (v := .tuple #[.agg #[.int .i64 0, .int .i64 0, .string ⟨#[]⟩, .slice none 0 0, .slice none 0 0], .bool false]) ?_ rfl ?_
    · exact results_cell_row2 Tryd.results24 _ _ (w.heap.size + 1) _ _ _ _ rfl (cset5 HR1.out _ _ _ _ _) Tryd.underlying38 rfl (by kernel_rfl)
    · rw [HV.out]
      exact ⟨none, 0, none, 0, rfl, MadeClo.stored (OwnClo.nil _) (fun x hx => by simp at hx) HW2.out _ _ _ _ _⟩
  · have HV := Lib.hid (E1.out rfl)
    have C := H2.out w2 HW2.out HG.out
    have C3 := fun A1 cap1 w1 hk hb => H3.out A1 cap1 w1 rfl hk hb
    have er := (E3.out rfl).2
    have ev := (E3.out rfl).1
    have ef : (Fr.cons k n s f g).len = g.len + 1 := rfl
    rw [er, ev, ef] at C3
    generalize allVars (.cons k n s f g) = V at *
    have er2 : renF V (.cons k n s f g) = .cons k (renN V k n) s (renF V f) (renF V g) := rfl
    have eg : (Fr.cons k (renN V k n) s (renF V f) (renF V g)).len = (renF V g).len + 1 := rfl
    rw [er2, eg] at C3
    have el := renF_len V g
    generalize renN V k n = n' at *
    generalize renF V f = f' at *
    generalize renF V g = g' at *
    have HC := Lib.hid C
    have H4 := Lib.hid C3
    have HEL := Lib.hid el
    clear E1 E2 E3 H2 H3 C C3 er ev ef er2 eg el HG
    go_wp2_with fail
    refine HC.out.mono ?_
    rintro e w3 ⟨A', cap', b', rfl, hb, hown, hb1, hb2⟩
    have q1 := HR1.out.below hb HR1.out.lt
    have hw3 := HW2.out.trans (hb.mono HW2.out.size)
    have hky := hown.kids (lo := 0) (hi := w3.heap.size) fun x hx => ⟨Nat.zero_le _, hown.lt x hx⟩
    have hs3 := hb.size
    have HW3 := Lib.hid hw3
    have HR3 := Lib.hid q1
    have HK := Lib.hid hky
    clear hb hown hb1 hb2 q1 hw3 hky HC a0 a1 a2 a3 a4 c0 c1 c2 c3 c4 f0 f1 f2 f3 f4 HR1 HW2
    go_wp2_with fail
    refine (H4.out _ _ _ HK.out HW3.out).mono ?_
    rintro e w4 ⟨A2, cap2, rfl, L, hL, hLn, hLx, hb⟩
    obtain ⟨b, Af, capf, M1, M2, rfl, hc1, hc2, hfit, ⟨d0, d1, d2, d3⟩, hbl, hm1, hm2, hmn, hmL⟩ := hL.tail hLn
    have q1 := HR3.out.below hb HR3.out.lt
    obtain ⟨c0, c1, c2, c3, c4⟩ := ccells5 q1
    obtain ⟨f0, f1, f2, f3, f4⟩ := cfrozen5 q1
    have hs4 := hb.size
    have HW4 := Lib.hid (HW3.out.trans (hb.mono HW3.out.size))
    have HR4 := Lib.hid q1
    have HM : Hid (OwnClo w4 ⟨k, n', s, f', g'⟩ Af capf (some ⟨b, 4, none⟩) (cap2 - 1) M1 M2) := Lib.hid ⟨hm1, hm2, hmn⟩
    have HM0 : Hid (g'.len = 0 → ∀ B', OwnClo w4 ⟨k, n', s, f', g'⟩ Af capf B' 0 M1 []) := Lib.hid fun hz B' => ⟨hm1, ⟨by simp only; omega, Nat.zero_le _, .inl ⟨hz, rfl⟩⟩, by rw [List.append_nil]; exact (List.nodup_append.1 hmn).1⟩
    have HX : Hid (∀ x ∈ M1 ++ M2, w.heap.size + 2 ≤ x) := Lib.hid fun x hx => by have := (hLx x (hmL x hx)).1; omega
    have hgp : (w.heap.size + 1) ≠ b := fun e => by
      have h := (hLx b (by
        obtain ⟨_, _, ⟨h3, _⟩ | ⟨b9, L9, cs9, e9, rfl, _⟩⟩ := hL
        · simp [Fr.len] at h3
        · injection e9 with e9; injection e9 with e9; simp [e9])).1
      omega
    have HGP := Lib.hid hgp
    have z1 : w.heap.size + 1 < w4.heap.size := by omega
    clear hL hLn hLx hb hfit hm1 hm2 hmn hmL q1 HR3 HK HW3 H4 hs2 hs3 hs4 hgp
    have t0 : (0 : Int) < ((g'.len + 1 : Nat) : Int) := by omega
    have t1 : (1 : Int) ≤ ((g'.len + 1 : Nat) : Int) := by omega
    have hmb : ∃ M3, OwnClo w4 ⟨k, n', s, f', g'⟩ Af capf (if cap2 = 1 then some ⟨b, 0, none⟩ else some ⟨b, 4, none⟩) (cap2 - 1) M1 M3 ∧ ∀ x ∈ M1 ++ M3, w.heap.size + 2 ≤ x := by
      by_cases h : cap2 = 1
      · rw [if_pos h, h]
        exact ⟨[], HM0.out (by omega) _, fun x hx => HX.out x (by simp at hx; simp [hx])⟩
      · rw [if_neg h]
        exact ⟨M2, HM.out, HX.out⟩
    obtain ⟨M3, hm3, hx3⟩ := hmb
    have HM3 := Lib.hid hm3
    have HX3 := Lib.hid hx3
    clear hm3 hx3 HM HM0 HX HGP
    go_wp2_with fail
    go_region
    generalize (if cap2 = 1 then (some ⟨b, 0, none⟩ : Option Addr) else some ⟨b, 4, none⟩) = PB at *
    go_wp2_with fail
    refine bodyPost_ret (v := .tuple #[.agg #[.int .i64 k, .int .i64 n', .string s, .slice Af f'.len capf, .slice PB g'.len (cap2 - 1)], .bool true]) ?_ rfl ?_
    · exact results_cell_row2 Tryd.results24 _ _ (w.heap.size + 1) _ _ _ _ rfl (cset5 HR4.out _ _ _ _ _) Tryd.underlying38 rfl (by kernel_rfl)
    · rw [HV.out]
      exact ⟨Af, capf, _, cap2 - 1, rfl, (MadeClo.stored HM3.out HX3.out HW4.out _ _ _ _ _).drew⟩

/-- The law's variables, and the model's answer. -/
def Rb (w : World) (ca cw cx cg : Array Value) (bw bx bg lw hw : Nat) (R : Cl) (Aw : Option Addr) (capw : Nat) (Bw : Option Addr) (capBw : Nat) (wk : World) : Prop :=
  (Blk wk w.heap.size 34 ca ∧ Blk wk bw 38 cw ∧ Blk wk bx 38 cx ∧ Blk wk bg 38 cg) ∧ KidsAt wk lw hw R.kids Aw capw ∧ KidsAt wk lw hw R.body Bw capBw ∧ hw ≤ wk.heap.size ∧ Below w.heap.size w wk
def RbFar (w : World) (bw bx bg hw : Nat) (L : List Nat) : Prop := ∀ x ∈ L, w.heap.size < x ∧ hw ≤ x ∧ x ≠ bw ∧ x ≠ bx ∧ x ≠ bg
theorem Rb.wrote {w wk wl : World} {ca cw cx cg : Array Value} {bw bx bg lw hw : Nat} {R : Cl} {Aw : Option Addr} {capw : Nat} {Bw : Option Addr} {capBw : Nat} {L : List Nat}
    (h : Rb w ca cw cx cg bw bx bg lw hw R Aw capw Bw capBw wk) (hr : Wrote L wk wl) (hL : RbFar w bw bx bg hw L) : Rb w ca cw cx cg bw bx bg lw hw R Aw capw Bw capBw wl := by
  obtain ⟨⟨h1, h2, h3, h4⟩, k1, k2, hs, hb⟩ := h
  refine ⟨⟨hr.blk h1 fun e => ?_, hr.blk h2 fun e => ?_, hr.blk h3 fun e => ?_, hr.blk h4 fun e => ?_⟩, k1.wrote hr hs fun x e => .inr (hL x e).2.1, k2.wrote hr hs fun x e => .inr (hL x e).2.1, Nat.le_trans hs hr.size, hb.trans (hr.below hb.size fun x e => Nat.le_of_lt (hL x e).1)⟩
  · have := (hL _ e).1; omega
  · exact (hL _ e).2.2.1 rfl
  · exact (hL _ e).2.2.2.1 rfl
  · exact (hL _ e).2.2.2.2 rfl
theorem Rb.below {w wk wl : World} {ca cw cx cg : Array Value} {bw bx bg lw hw : Nat} {R : Cl} {Aw : Option Addr} {capw : Nat} {Bw : Option Addr} {capBw : Nat}
    (h : Rb w ca cw cx cg bw bx bg lw hw R Aw capw Bw capBw wk) (hb : Below wk.heap.size wk wl) : Rb w ca cw cx cg bw bx bg lw hw R Aw capw Bw capBw wl := h.wrote (Wrote.of_below hb []) fun x hx => by simp at hx
theorem OwnCl.below {w w' : World} {c : Cl} {A B : Option Addr} {cap capB : Nat} {L1 L2 : List Nat} (h : OwnCl w c A cap B capB L1 L2) (hb : Below w.heap.size w w') : OwnCl w' c A cap B capB L1 L2 := ⟨h.1.below hb h.1.lt, h.2.1.below hb h.2.1.lt, h.2.2⟩
theorem OwnClo.below {w w' : World} {c : Cl} {A B : Option Addr} {cap capB : Nat} {L1 L2 : List Nat} (h : OwnClo w c A cap B capB L1 L2) (hb : Below w.heap.size w w') : OwnClo w' c A cap B capB L1 L2 := h.keep fun x hx => hb.block x (h.lt x hx)
theorem OwnClo.wrote {w w' : World} {c : Cl} {A B : Option Addr} {cap capB : Nat} {L1 L2 L : List Nat} (h : OwnClo w c A cap B capB L1 L2) (hr : Wrote L w w') (hn : ∀ x ∈ L, x ∉ L1 ++ L2) : OwnClo w' c A cap B capB L1 L2 := h.keep fun x hx => hr.block x (h.lt x hx) fun e => hn x e hx
theorem OwnCl.at0 {w : World} {c : Cl} {A B : Option Addr} {cap capB : Nat} {L1 L2 : List Nat} (h : OwnCl w c A cap B capB L1 L2) : KidsAt w 0 w.heap.size c.kids A cap ∧ KidsAt w 0 w.heap.size c.body B capB :=
  ⟨h.1.kids fun x hx => ⟨Nat.zero_le _, h.1.lt x hx⟩, h.2.1.kids fun x hx => ⟨Nat.zero_le _, h.2.1.lt x hx⟩⟩
theorem OwnClo.at0 {w : World} {c : Cl} {A B : Option Addr} {cap capB : Nat} {L1 L2 : List Nat} (h : OwnClo w c A cap B capB L1 L2) : KidsAt w 0 w.heap.size c.kids A cap ∧ KidsAt w 0 w.heap.size c.body B capB :=
  ⟨h.1.kids fun x hx => ⟨Nat.zero_le _, h.1.lt x hx⟩, h.2.1.kids fun x hx => ⟨Nat.zero_le _, h.2.1.lt x hx⟩⟩

set_option maxRecDepth 100000 in
set_option maxHeartbeats 8000000 in
theorem lawRC_any (c : Cl) (A : Option Addr) (cap : Nat) (B : Option Addr) (capB : Nat) (w : World) (hk : KidsAt w 0 w.heap.size c.kids A cap) (hkb : KidsAt w 0 w.heap.size c.body B capB) (hf : Fits c.k c.n c.s) (ht : nv.Tab w) (ho : op.OpTab w) :
    Calls Tryd.prog 5 #[.agg #[.int .i64 c.k, .int .i64 c.n, .string c.s, .slice A c.kids.len cap, .slice B c.body.len capB]] w fun e w' => e = .returned (.bool true) ∧ Below w.heap.size w w' := by
  have C1 := fun w1 (hb : Below w.heap.size w w1) => szC_any c A B cap capB 0 w.heap.size 1048576 w1 (hk.below hb (Nat.le_refl _)) (hkb.below hb (Nat.le_refl _)) hb.size hf (by omega) (by omega)
  have hr := szC_range c 1048576 (by omega)
  generalize szC c 1048576 = r at *
  have H1 := Lib.hid C1
  have HK := Lib.hid hk
  have HKB := Lib.hid hkb
  have HT := Lib.hid ht
  have HO := Lib.hid ho
  have HF := Lib.hid hf
  have r1 := hr.1
  have r2 := hr.2.1
  clear C1 hk hkb ht ho hf
  have hb1 : ∀ o, Below w.heap.size w (w.alloc o) := fun o => (Below.refl _ _).alloc (Nat.le_refl _) _
  have HB1 := Lib.hid hb1
  clear hb1
  by_cases hneg : r < 0
  · clear hr
    obtain ⟨k, n, s, f, g⟩ := c
    simp only at *
    go_enter Tryd.func5, Tryd.ntmps5
    go_wp2_with fail
    refine (H1.out _ (HB1.out _)).mono ?_
    rintro e w2 ⟨rfl, hb⟩
    have HB := Lib.hid hb
    clear hb
    go_wp2_with fail
    go_ret
    exact ⟨rfl, (HB1.out _).trans (HB.out.mono (by simp))⟩
  · have hwt : wtC c ≤ 1048576 := by have := hr.2.2 (by omega); omega
    have hwn := wtC_nodes c
    have hnc : ndC c ≤ 1048576 := by unfold ndC; omega
    have hnr := rcC_nodes c hnc
    have CT := fun w1 (hb : Below w.heap.size w w1) => toC_any c A B cap capB 0 w.heap.size w1 (HK.out.below hb (Nat.le_refl _)) (HKB.out.below hb (Nat.le_refl _)) hb.size hwt
    have CS := fun w1 A1 cap1 B1 capB1 L1 L2 (ho : OwnCl w1 c A1 cap1 B1 capB1 L1 L2) => specRC_any c A1 B1 cap1 capB1 L1 L2 w1 ho HF.out (by omega) (by omega)
    have CI := fun w1 A1 cap1 B1 capB1 L1 L2 (ho : OwnCl w1 c A1 cap1 B1 capB1 L1 L2) (hb : Below w.heap.size w w1) => implRC_any c A1 B1 cap1 capB1 L1 L2 w1 ho HF.out (by omega) (by omega) (HT.out.below hb) (HO.out.below hb)
    have CE := fun w1 A1 cap1 B1 capB1 lo hi A2 cap2 B2 capB2 lo2 hi2 (hk : KidsAt w1 lo hi c.kids A1 cap1) (hkb : KidsAt w1 lo hi c.body B1 capB1) hh (hk2 : KidsAt w1 lo2 hi2 c.kids A2 cap2) (hkb2 : KidsAt w1 lo2 hi2 c.body B2 capB2) hh2 => eqC_any c A1 B1 A2 B2 cap1 capB1 cap2 capB2 lo hi lo2 hi2 w1 hk hkb hk2 hkb2 hh hh2
    have CMX := fun w1 A1 cap1 B1 capB1 L1 L2 (ho : OwnCl w1 c A1 cap1 B1 capB1 L1 L2) => markC_any c A1 B1 cap1 capB1 1 L1 L2 w1 ho (by omega) (by omega)
    unfold RcRes at CS CI
    generalize hv : clauseV c = v at *
    generalize rcC c = R at *
    have CG := fun w1 A1 cap1 B1 capB1 lo hi A2 cap2 B2 capB2 lo2 hi2 (hk : KidsAt w1 lo hi R.kids A1 cap1) (hkb : KidsAt w1 lo hi R.body B1 capB1) hh (hk2 : KidsAt w1 lo2 hi2 R.kids A2 cap2) (hkb2 : KidsAt w1 lo2 hi2 R.body B2 capB2) hh2 => eqC_any R A1 B1 A2 B2 cap1 capB1 cap2 capB2 lo hi lo2 hi2 w1 hk hkb hk2 hkb2 hh hh2
    have CMG := fun w1 A1 cap1 B1 capB1 L1 L2 (ho : OwnClo w1 R A1 cap1 B1 capB1 L1 L2) => markCo_any R A1 B1 cap1 capB1 1 L1 L2 w1 ho (by omega) (by omega)
    have CHG := fun w1 A1 cap1 B1 capB1 lo hi hk hkb hh => heldC_any R A1 B1 cap1 capB1 1 lo hi w1 hk hkb hh (by omega) (by omega)
    have tv : (v != v) = false := by cases v <;> rfl
    have tk : ¬ (((1 + 3 * ndC c : Nat) : Int) < 0) := by omega
    have tq : ¬ (((1 + 3 * ndC R : Nat) : Int) < 0) := by omega
    have tm : (((1 + 3 * ndC R : Nat) : Int) != ((1 + 3 * ndC R : Nat) : Int)) = false := by simp
    generalize ((1 + 3 * ndC c : Nat) : Int) = kf at *
    generalize ((1 + 3 * ndC R : Nat) : Int) = kg at *
    have HT' := Lib.hid CT
    have HS := Lib.hid CS
    have HI := Lib.hid CI
    have HE := Lib.hid CE
    have HG := Lib.hid CG
    have HMX := Lib.hid CMX
    have HMG := Lib.hid CMG
    have HHG := Lib.hid CHG
    have hmd : ∀ w1 A1 cap1 B1 capB1 w2, MadeCl w1 c A1 cap1 B1 capB1 w2 → KidsAt w2 w1.heap.size w2.heap.size c.kids A1 cap1 ∧ KidsAt w2 w1.heap.size w2.heap.size c.body B1 capB1 ∧ Below w1.heap.size w1 w2 := fun _ _ _ _ _ _ h => h.at_
    have HMD := Lib.hid hmd
    clear CT CS CI CE CG CMX CMG CHG hr hwt hwn hnc hnr hv hmd
    obtain ⟨k, n, s, f, g⟩ := c
    obtain ⟨rk, rn, rs, rf, rg⟩ := R
    simp only at *
    go_enter Tryd.func5, Tryd.ntmps5
    go_wp2_with fail
    refine (H1.out _ (HB1.out _)).mono ?_
    rintro e w2 ⟨rfl, hb⟩
    have hq := (Blk.new w 34 #[.int .i64 k, .int .i64 n, .string s, .slice A f.len cap, .slice B g.len capB]).below hb (by simp)
    have hb2 : Below w.heap.size w w2 := (HB1.out _).trans (hb.mono (by simp))
    have hsz2 : w.heap.size < w2.heap.size := by have := hb.size; simp at this; omega
    obtain ⟨a0, a1, a2, a3, a4⟩ := ccells5 hq
    have HQ := Lib.hid hq
    have HB2 := Lib.hid hb2
    clear hb hq hb2
    go_wp2_with fail
    refine (HT'.out _ HB2.out).mono ?_
    rintro e w3 ⟨A1, cap1, B1, capB1, rfl, L1, L2, o1, o2, on, _, ob⟩
    have HO3 : Hid (OwnCl w3 ⟨k, n, s, f, g⟩ A1 cap1 B1 capB1 L1 L2) := Lib.hid ⟨o1, o2, on⟩
    have HQ3 := Lib.hid (HQ.out.below ob hsz2)
    have HB3 : Hid (Below w.heap.size w w3) := Lib.hid (HB2.out.trans (ob.mono HB2.out.size))
    have hsz3 : w.heap.size < w3.heap.size := Nat.lt_of_lt_of_le hsz2 ob.size
    clear o1 o2 on ob a0 a1 a2 a3 a4 HQ HB2
    go_wp2_with fail
    refine (HS.out _ _ _ _ _ _ _ HO3.out).mono ?_
    rintro e w4 ⟨Aw, capw, Bw, capBw, rfl, M1, M2, hmw, hxw, hbw⟩
    have hq4 := HQ3.out.below hbw hsz3
    obtain ⟨a0, a1, a2, a3, a4⟩ := ccells5 hq4
    have hsz4 : w.heap.size < w4.heap.size := Nat.lt_of_lt_of_le hsz3 hbw.size
    have HQ4 := Lib.hid hq4
    have HB4 : Hid (Below w.heap.size w w4) := Lib.hid (HB3.out.trans (hbw.mono HB3.out.size))
    have HW4 : Hid (KidsAt w4 w3.heap.size w4.heap.size rf Aw capw ∧ KidsAt w4 w3.heap.size w4.heap.size rg Bw capBw) := Lib.hid ⟨hmw.1.kids fun x hx => hxw x (by simp [hx]), hmw.2.1.kids fun x hx => hxw x (by simp [hx])⟩
    clear hmw hxw hbw hq4 HQ3 HB3 HO3
    go_wp2_with fail
    have hb45 : Below w4.heap.size w4 (w4.alloc (.cells #[.int .i64 rk, .int .i64 rn, .string rs, .slice Aw rf.len capw, .slice Bw rg.len capBw] 38)) := (Below.refl _ _).alloc (Nat.le_refl _) _
    refine (HT'.out _ (HB4.out.trans (hb45.mono HB4.out.size))).mono ?_
    rintro e w5 ⟨Ax, capx, Bx, capBx, rfl, X1, X2, o1, o2, on, ox, ob⟩
    have e4 : (w4.alloc (.cells #[.int .i64 rk, .int .i64 rn, .string rs, .slice Aw rf.len capw, .slice Bw rg.len capBw] 38)).heap.size = w4.heap.size + 1 := by simp
    have hbw5 := (Blk.new w4 38 #[.int .i64 rk, .int .i64 rn, .string rs, .slice Aw rf.len capw, .slice Bw rg.len capBw]).below ob (by rw [e4]; omega)
    have hb45' : Below w4.heap.size w4 w5 := hb45.trans (ob.mono (by rw [e4]; omega))
    rw [e4] at ox
    have hs5 : w4.heap.size < w5.heap.size := by have := ob.size; rw [e4] at this; omega
    have HX5 : Hid (OwnCl w5 ⟨k, n, s, f, g⟩ Ax capx Bx capBx X1 X2) := Lib.hid ⟨o1, o2, on⟩
    have HXX := Lib.hid ox
    have HBW5 := Lib.hid hbw5
    have HQ5 := Lib.hid (HQ4.out.below hb45' hsz4)
    have HB5 : Hid (Below w.heap.size w w5) := Lib.hid (HB4.out.trans (hb45'.mono HB4.out.size))
    have HW5 := Lib.hid (And.intro (HW4.out.1.below hb45' (Nat.le_refl _)) (HW4.out.2.below hb45' (Nat.le_refl _)))
    clear o1 o2 on ox ob e4 hbw5 hb45 hb45' a0 a1 a2 a3 a4 HQ4 HB4 HW4
    go_wp2_with fail
    have hb56 : Below w5.heap.size w5 (w5.alloc (.cells #[.int .i64 k, .int .i64 n, .string s, .slice Ax f.len capx, .slice Bx g.len capBx] 38)) := (Below.refl _ _).alloc (Nat.le_refl _) _
    refine (HI.out _ _ _ _ _ _ _ (HX5.out.below hb56) (HB5.out.trans (hb56.mono HB5.out.size))).mono ?_
    rintro e w6 ⟨Ag, capg, Bg, capBg, rfl, G1, G2, hg, hgx, hgb⟩
    have e5 : (w5.alloc (.cells #[.int .i64 k, .int .i64 n, .string s, .slice Ax f.len capx, .slice Bx g.len capBx] 38)).heap.size = w5.heap.size + 1 := by simp
    have hbx6 := (Blk.new w5 38 #[.int .i64 k, .int .i64 n, .string s, .slice Ax f.len capx, .slice Bx g.len capBx]).below hgb (by rw [e5]; omega)
    have hb56' : Below w5.heap.size w5 w6 := hb56.trans (hgb.mono (by rw [e5]; omega))
    rw [e5] at hgx
    have hs6 : w5.heap.size < w6.heap.size := by have := hgb.size; rw [e5] at this; omega
    have hbw6 := HBW5.out.below hb56' hs5
    obtain ⟨b0, b1, b2, b3, b4⟩ := ccells5 hbw6
    have hs46 : w4.heap.size < w6.heap.size := by omega
    have hb67 : Below w6.heap.size w6 (w6.alloc (.cells #[.int .i64 rk, .int .i64 rn, .string rs, .slice Ag rf.len capg, .slice Bg rg.len capBg] 38)) := (Below.refl _ _).alloc (Nat.le_refl _) _
    have HRB : Hid (Rb w #[.int .i64 k, .int .i64 n, .string s, .slice A f.len cap, .slice B g.len capB] #[.int .i64 rk, .int .i64 rn, .string rs, .slice Aw rf.len capw, .slice Bw rg.len capBw] #[.int .i64 k, .int .i64 n, .string s, .slice Ax f.len capx, .slice Bx g.len capBx] #[.int .i64 rk, .int .i64 rn, .string rs, .slice Ag rf.len capg, .slice Bg rg.len capBg] w4.heap.size w5.heap.size w6.heap.size w3.heap.size w4.heap.size ⟨rk, rn, rs, rf, rg⟩ Aw capw Bw capBw (w6.alloc (.cells #[.int .i64 rk, .int .i64 rn, .string rs, .slice Ag rf.len capg, .slice Bg rg.len capBg] 38))) :=
      Lib.hid ⟨⟨(HQ5.out.below hb56' (by omega)).alloc _, hbw6.alloc _, hbx6.alloc _, Blk.new w6 _ _⟩, (HW5.out.1.below hb56' (by omega)).below hb67 (by omega), (HW5.out.2.below hb56' (by omega)).below hb67 (by omega), by have := hb67.size; omega, HB5.out.trans ((hb56'.mono HB5.out.size).trans (hb67.mono (by omega)))⟩
    have HX7 : Hid (OwnCl (w6.alloc (.cells #[.int .i64 rk, .int .i64 rn, .string rs, .slice Ag rf.len capg, .slice Bg rg.len capBg] 38)) ⟨k, n, s, f, g⟩ Ax capx Bx capBx X1 X2) := Lib.hid ((HX5.out.below hb56').below hb67)
    have HG7 : Hid (OwnClo (w6.alloc (.cells #[.int .i64 rk, .int .i64 rn, .string rs, .slice Ag rf.len capg, .slice Bg rg.len capBg] 38)) ⟨rk, rn, rs, rf, rg⟩ Ag capg Bg capBg G1 G2) := Lib.hid (hg.below hb67)
    have HXN : Hid (X1 ++ X2).Nodup := Lib.hid HX5.out.2.2
    have HFX : Hid (RbFar w w4.heap.size w5.heap.size w6.heap.size w4.heap.size (X1 ++ X2)) := Lib.hid fun x hx => by have := HXX.out x hx; omega
    have HFG : Hid (RbFar w w4.heap.size w5.heap.size w6.heap.size w4.heap.size (G1 ++ G2)) := Lib.hid fun x hx => by have := hgx x hx; omega
    have HXG : Hid (∀ x ∈ X1 ++ X2, x ∉ G1 ++ G2) := Lib.hid fun x hx h => by have := HXX.out x hx; have := hgx x h; omega
    clear hg hgx hgb e5 hbx6 hb56 hb56' hbw6 hb67 HX5 HXX HBW5 HQ5 HB5 HW5
    go_wp2_with fail
    generalize hW7 : (w6.alloc (.cells #[.int .i64 rk, .int .i64 rn, .string rs, .slice Ag rf.len capg, .slice Bg rg.len capBg] 38)) = W7 at *
    clear hW7 b0 b1 b2 b3 b4
    refine (HG.out _ _ _ _ _ _ _ _ _ _ _ _ _ HG7.out.at0.1 HG7.out.at0.2 (Nat.le_refl _) HRB.out.2.1 HRB.out.2.2.1 HRB.out.2.2.2.1).mono ?_
    rintro e w8 ⟨rfl, hb8⟩
    have HRB8 := Lib.hid (HRB.out.below hb8)
    have HX8 := Lib.hid (HX7.out.below hb8)
    have HG8 := Lib.hid (HG7.out.below hb8)
    clear hb8 HRB HX7 HG7
    generalize w4.heap.size = bw at *
    generalize w5.heap.size = bx at *
    generalize w6.heap.size = bg at *
    generalize w3.heap.size = lw at *
    clear hsz2 hsz3 hsz4 hs5 hs6 hs46
    have hrb := HRB8.out
    obtain ⟨x0, x1, x2, x3, x4⟩ := ccells5 hrb.1.2.2.1
    obtain ⟨a0, a1, a2, a3, a4⟩ := ccells5 hrb.1.1
    clear hrb
    go_wp2_with fail
    go_region_held3 (fun w' => w'.cell? ⟨bx, 0, none⟩ = some (.int .i64 k) ∧ w'.cell? ⟨bx, 1, none⟩ = some (.int .i64 n) ∧ w'.cell? ⟨bx, 2, none⟩ = some (.string s) ∧ w'.cell? ⟨bx, 3, none⟩ = some (.slice Ax f.len capx) ∧ w'.cell? ⟨bx, 4, none⟩ = some (.slice Bx g.len capBx) ∧
        w'.cell? ⟨w.heap.size, 0, none⟩ = some (.int .i64 k) ∧ w'.cell? ⟨w.heap.size, 1, none⟩ = some (.int .i64 n) ∧ w'.cell? ⟨w.heap.size, 2, none⟩ = some (.string s) ∧ w'.cell? ⟨w.heap.size, 3, none⟩ = some (.slice A f.len cap) ∧ w'.cell? ⟨w.heap.size, 4, none⟩ = some (.slice B g.len capB))
      (first | exact ⟨z0, z1, z2, z3, z4, z5, z6, z7, z8, z9⟩ | exact ⟨y0, y1, y2, y3, y4, y5, y6, y7, y8, y9⟩ | exact ⟨x0, x1, x2, x3, x4, a0, a1, a2, a3, a4⟩)
      (first
        | (go_at_call 20
           refine (HT'.out _ HRB8.out.2.2.2.2.drew).mono ?_
           rintro e w9 ⟨A3, cap3, B3, capB3, rfl, hm⟩
           have hm9 := HMD.out _ _ _ _ _ _ hm
           have hd9 : Below w8.heap.size w8 w9 := (Below.refl w8.heap.size w8).drew.trans hm9.2.2
           have HRB9 := Lib.hid (HRB8.out.below hd9)
           have HX9 := Lib.hid (HX8.out.below hd9)
           have HG9 := Lib.hid (HG8.out.below hd9)
           obtain ⟨y0, y1, y2, y3, y4⟩ := ccells5 HRB9.out.1.2.2.1
           obtain ⟨y5, y6, y7, y8, y9⟩ := ccells5 HRB9.out.1.1
           have HM9 := Lib.hid hm9
           clear hm hm9 hd9)
        | (go_at_call 22
           refine (HE.out _ _ _ _ _ _ _ _ _ _ _ _ _ HX9.out.at0.1 HX9.out.at0.2 (Nat.le_refl _) HM9.out.1 HM9.out.2.1 (Nat.le_refl _)).mono ?_
           rintro e w10 ⟨rfl, hb10⟩
           have HRB10 := Lib.hid (HRB9.out.below hb10)
           have HX10 := Lib.hid (HX9.out.below hb10)
           have HG10 := Lib.hid (HG9.out.below hb10)
           obtain ⟨z0, z1, z2, z3, z4⟩ := ccells5 HRB10.out.1.2.2.1
           obtain ⟨z5, z6, z7, z8, z9⟩ := ccells5 HRB10.out.1.1
           clear hb10)
        | fail)
    clear x0 x1 x2 x3 x4 a0 a1 a2 a3 a4 y0 y1 y2 y3 y4 y5 y6 y7 y8 y9 z5 z6 z7 z8 z9 HRB9 HX9 HG9 HM9 HRB8 HX8 HG8 HE
    go_wp2_with fail
    refine (HMX.out _ _ _ _ _ _ _ HX10.out).mono ?_
    rintro e w11 ⟨rfl, _, hwr⟩
    have HRB11 := Lib.hid (HRB10.out.wrote hwr HFX.out)
    have HG11 := Lib.hid (HG10.out.wrote hwr HXG.out)
    clear hwr z0 z1 z2 z3 z4 HRB10 HX10 HG10 HMX HFX HXG
    obtain ⟨b0, b1, b2, b3, b4⟩ := ccells5 HRB11.out.1.2.1
    obtain ⟨d0, d1, d2, d3, d4⟩ := ccells5 HRB11.out.1.2.2.2
    go_wp2_with fail
    refine (HG.out _ _ _ _ _ _ _ _ _ _ _ _ _ HG11.out.at0.1 HG11.out.at0.2 (Nat.le_refl _) HRB11.out.2.1 HRB11.out.2.2.1 HRB11.out.2.2.2.1).mono ?_
    rintro e w12 ⟨rfl, hb⟩
    have HRB12 := Lib.hid (HRB11.out.below hb)
    have HG12 := Lib.hid (HG11.out.below hb)
    clear hb b0 b1 b2 b3 b4 d0 d1 d2 d3 d4 HRB11 HG11
    obtain ⟨d0, d1, d2, d3, d4⟩ := ccells5 HRB12.out.1.2.2.2
    go_wp2_with fail
    refine (HMG.out _ _ _ _ _ _ _ HG12.out).mono ?_
    rintro e w13 ⟨rfl, hom, hwr⟩
    have HRB13 := Lib.hid (HRB12.out.wrote hwr HFG.out)
    have HM13 := Lib.hid hom
    clear hom hwr d0 d1 d2 d3 d4 HRB12 HG12 HMG HFG
    obtain ⟨d0, d1, d2, d3, d4⟩ := ccells5 HRB13.out.1.2.2.2
    go_wp2_with fail
    refine (HHG.out _ _ _ _ _ _ _ HM13.out.at0.1 HM13.out.at0.2 (Nat.le_refl _)).mono ?_
    rintro e w14 ⟨rfl, hb⟩
    have HRB14 := Lib.hid (HRB13.out.below hb)
    have HM14 := Lib.hid (HM13.out.below hb)
    clear hb d0 d1 d2 d3 d4 HRB13 HM13
    obtain ⟨a0, a1, a2, a3, a4⟩ := ccells5 HRB14.out.1.1
    go_wp2_with fail
    refine (HT'.out _ HRB14.out.2.2.2.2).mono ?_
    rintro e w15 ⟨Ah, caph, Bh, capBh, rfl, L1, L2, o1, o2, on, _, ob⟩
    have HRB15 := Lib.hid (HRB14.out.below ob)
    have HM15 := Lib.hid (HM14.out.below ob)
    have HO15 : Hid (OwnCl w15 ⟨k, n, s, f, g⟩ Ah caph Bh capBh L1 L2) := Lib.hid ⟨o1, o2, on⟩
    clear ob o1 o2 on a0 a1 a2 a3 a4 HRB14 HM14
    go_wp2_with fail
    refine (HI.out _ _ _ _ _ _ _ HO15.out HRB15.out.2.2.2.2).mono ?_
    rintro e w16 ⟨Ai, capi, Bi, capBi, rfl, J1, J2, hj, _, hjb⟩
    have HRB16 := Lib.hid (HRB15.out.below hjb)
    have HM16 := Lib.hid (HM15.out.below hjb)
    have hb7 : Below w16.heap.size w16 (w16.alloc (.cells #[.int .i64 rk, .int .i64 rn, .string rs, .slice Ai rf.len capi, .slice Bi rg.len capBi] 38)) := (Below.refl _ _).alloc (Nat.le_refl _) _
    have HRB17 := Lib.hid (HRB16.out.below hb7)
    have HM17 := Lib.hid (HM16.out.below hb7)
    have HJ17 := Lib.hid (hj.below hb7)
    have hbs : bw < w16.heap.size := HRB16.out.1.2.1.lt
    obtain ⟨b0, b1, b2, b3, b4⟩ := ccells5 HRB16.out.1.2.1
    clear hb7 hj hjb HRB15 HM15 HO15 HM16
    go_wp2_with fail
    generalize hW7 : (w16.alloc (.cells #[.int .i64 rk, .int .i64 rn, .string rs, .slice Ai rf.len capi, .slice Bi rg.len capBi] 38)) = W9 at *
    clear hW7 b0 b1 b2 b3 b4 HRB16
    refine (HG.out _ _ _ _ _ _ _ _ _ _ _ _ _ HJ17.out.at0.1 HJ17.out.at0.2 (Nat.le_refl _) HRB17.out.2.1 HRB17.out.2.2.1 HRB17.out.2.2.2.1).mono ?_
    rintro e w18 ⟨rfl, hb⟩
    have HRB18 := Lib.hid (HRB17.out.below hb)
    have HM18 := Lib.hid (HM17.out.below hb)
    clear hb HRB17 HM17 HJ17
    obtain ⟨d0, d1, d2, d3, d4⟩ := ccells5 HRB18.out.1.2.2.2
    go_wp2_with fail
    refine (HHG.out _ _ _ _ _ _ _ HM18.out.at0.1 HM18.out.at0.2 (Nat.le_refl _)).mono ?_
    rintro e w19 ⟨rfl, hb⟩
    have HB19 := Lib.hid (HRB18.out.below hb).2.2.2.2
    clear hb d0 d1 d2 d3 d4 HRB18 HM18
    go_wp2_with fail
    go_ret
    exact ⟨rfl, HB19.out⟩
end Go.Proofs.YtojilompidmfiaaDoor
