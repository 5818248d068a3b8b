/- ClauseSame: impl.headAndBody, impl.ClauseSame; spec.ClauseSame. Condition: the clauses lie in memory (impl: the call owns them). -/
import Derived.Test.YtojilompidmfiaaProg
import Derived.Test.YtojilompidmfiaaHab
import Derived.Test.YtojilompidmfiaaSame
import Derived.Test.YtojilompidmfiaaSameS
import Derived.Deep.RegionHeld3
namespace Go.Proofs.Ytojilompidmfiaa
open Go.RowKit

theorem wpList_hab {ops : Array Oper} {rest : List Oper} {o : Oper} {a : Act} {Q : Exit → Act → World → Prop} (hgd : o.guard = none) (sx x : Operand)
    (ho : o.op = .call { callee := .builtin .append, args := #[sx, x], argTypes := #[30, 30] })
    {w y : World} {k n : Int} {s : ByteArray} {f g : Fr} {A B : Option Addr} {cap capB h : Nat} {L1 L2 : List Nat} (hw : Below w.heap.size w y) (hh : w.heap.size ≤ h) (hblk : Blk y h 32 #[.int .i64 k, .int .i64 n, .string s, .slice A f.len cap]) (hf : Fits k n s)
    (ho1 : OwnS y f A cap L1) (ho2 : OwnS y g B capB L2) (hL1 : h ∉ L1) (hL2 : h ∉ L2) (hg : g.len ≤ 1048576) (hs : a.eval sx = .slice (some ⟨h, 0, none⟩) 1 1) (hx : a.eval x = .slice B g.len capB)
    (hK : ∀ v y', HabDone w k n s f g L1 L2 h y v y' → wpList Try.prog ops Q rest (a.put o.dst v) y') : wpList Try.prog ops Q (o :: rest) a y := by
  refine wpList_plain hgd fun K' hK' => ?_
  obtain ⟨v, y', hrun, hd⟩ := hab_run hw hh hblk hf ho1 ho2 hL1 hL2 hg o.type
  unfold Oper.wp
  simp [execOp, ho, resolve, invoke, builtin, hs, hx, hrun, Result.andThen]
  exact hK' _ _ (hK v y' hd)

set_option maxRecDepth 100000 in
/-- impl.headAndBody. -/
theorem hab_any (k n : Int) (s : ByteArray) (f g : Fr) (A B : Option Addr) (cap capB : Nat) (L1 L2 : List Nat) (w : World) (ho1 : OwnS w f A cap L1) (ho2 : OwnS w g B capB L2) (hf : Fits k n s) (hg : g.len ≤ 1048576) :
    Calls Try.prog 20 #[.agg #[.int .i64 k, .int .i64 n, .string s, .slice A f.len cap, .slice B g.len capB]] w fun e w' => ∃ A' cap' b', e = .returned (.slice A' (g.len + 1) cap') ∧ Below w.heap.size w w' ∧ OwnS w' (.cons k n s f g) A' cap' (b' :: (L1 ++ tailL g L2)) ∧ w.heap.size ≤ b' ∧ b' < w'.heap.size := by
  have hb0 : Below w.heap.size w ((w.alloc (.cells #[.int .i64 k, .int .i64 n, .string s, .slice A f.len cap, .slice B g.len capB] 34)).alloc (.cells #[.int .i64 k, .int .i64 n, .string s, .slice A f.len cap] 32)) := two_alloc w _ _
  have hq : Blk ((w.alloc (.cells #[.int .i64 k, .int .i64 n, .string s, .slice A f.len cap, .slice B g.len capB] 34)).alloc (.cells #[.int .i64 k, .int .i64 n, .string s, .slice A f.len cap] 32)) (w.heap.size + 1) 32 #[.int .i64 k, .int .i64 n, .string s, .slice A f.len cap] := by
    have h := Blk.new (w.alloc (.cells #[.int .i64 k, .int .i64 n, .string s, .slice A f.len cap, .slice B g.len capB] 34)) 32 #[.int .i64 k, .int .i64 n, .string s, .slice A f.len cap]
    simpa using h
  have h1 := ho1.below hb0 ho1.lt
  have h2 := ho2.below hb0 ho2.lt
  have n1 : w.heap.size + 1 ∉ L1 := fun e => by have := ho1.lt _ e; omega
  have n2 : w.heap.size + 1 ∉ L2 := fun e => by have := ho2.lt _ e; omega
  have HB0 := Lib.hid hb0
  have HQ := Lib.hid hq
  have H1 := Lib.hid h1
  have H2 := Lib.hid h2
  have HF := Lib.hid hf
  have HG := Lib.hid hg
  have HN1 := Lib.hid n1
  have HN2 := Lib.hid n2
  clear ho1 ho2 hb0 hq h1 h2 hf hg n1 n2
  go_enter Try.func20, Try.ntmps20
  go_wp2_with (at_builtin; go_must (refine wpList_hab rfl _ _ rfl HB0.out (Nat.le_succ _) HQ.out HF.out H1.out H2.out HN1.out HN2.out HG.out rfl rfl ?_); rintro v y' ⟨A', cap', b', rfl, hbw, hown, hb1, hsz⟩)
  have R : Hid (Below w.heap.size w y' ∧ OwnS y' (.cons k n s f g) A' cap' (b' :: (L1 ++ tailL g L2)) ∧ w.heap.size ≤ b' ∧ b' < y'.heap.size) := Lib.hid ⟨hbw, hown, by
    rcases hb1 with h | h
    · omega
    · simp at h; omega, hown.lt b' (by simp)⟩
  clear hbw hown hb1 hsz
  go_ret
  exact ⟨A', cap', b', rfl, R.out⟩

/-- Equal clauses. -/
def sameC (c c' : Cl) : Bool := eqT c.k c.n c.s c.kids c'.k c'.n c'.s c'.kids && eqF c.body c'.body
theorem sameC_row (c c' : Cl) : eqT 0 0 ⟨#[]⟩ (.cons c.k c.n c.s c.kids c.body) 0 0 ⟨#[]⟩ (.cons c'.k c'.n c'.s c'.kids c'.body) = sameC c c' := by
  unfold eqT sameC
  rw [eqF_cons]
  simp
theorem tailL_sub (f : Fr) (L : List Nat) : ∀ x ∈ tailL f L, x ∈ L := by
  intro x hx
  unfold tailL at hx
  split at hx
  · simp at hx
  · exact List.mem_of_mem_tail hx
theorem tailL_nodup (f : Fr) {L : List Nat} (h : L.Nodup) : (tailL f L).Nodup := by
  unfold tailL
  split
  · exact List.nodup_nil
  · cases L with
    | nil => exact List.nodup_nil
    | cons x L => exact (List.nodup_cons.1 h).2

set_option maxRecDepth 100000 in
set_option maxHeartbeats 4000000 in
/-- impl.ClauseSame. -/
theorem implCS_any (c c' : Cl) (A B A' B' : Option Addr) (cap capB cap' capB' : Nat) (L1 L2 M1 M2 : List Nat) (w : World) (h1 : OwnS w c.kids A cap L1) (h2 : OwnS w c.body B capB L2) (h3 : OwnS w c'.kids A' cap' M1) (h4 : OwnS w c'.body B' capB' M2) (hn1 : (L1 ++ L2).Nodup) (hn2 : (M1 ++ M2).Nodup) (hd : ∀ x ∈ L1 ++ L2, x ∉ M1 ++ M2)
    (hf : Fits c.k c.n c.s) (hf' : Fits c'.k c'.n c'.s) (hl : c.body.len ≤ 1048576) (hl' : c'.body.len ≤ 1048576) (hnd : nodes c.kids + nodes c.body ≤ 1048580) :
    Calls Try.prog 11 #[.agg #[.int .i64 c.k, .int .i64 c.n, .string c.s, .slice A c.kids.len cap, .slice B c.body.len capB], .agg #[.int .i64 c'.k, .int .i64 c'.n, .string c'.s, .slice A' c'.kids.len cap', .slice B' c'.body.len capB']] w fun e w' => e = .returned (.bool (sameC c c')) ∧ Below w.heap.size w w' := by
  have hrow := sameC_row c c'
  obtain ⟨k, n, s, f, g⟩ := c
  obtain ⟨k', n', s', f', g'⟩ := c'
  simp only at *
  have hb0 := two_alloc w (.cells #[.int .i64 k, .int .i64 n, .string s, .slice A f.len cap, .slice B g.len capB] 34) (.cells #[.int .i64 k', .int .i64 n', .string s', .slice A' f'.len cap', .slice B' g'.len capB'] 34)
  have hq0 := (Blk.new w 34 #[.int .i64 k, .int .i64 n, .string s, .slice A f.len cap, .slice B g.len capB]).alloc (.cells #[.int .i64 k', .int .i64 n', .string s', .slice A' f'.len cap', .slice B' g'.len capB'] 34)
  have hq1 := Blk.new (w.alloc (.cells #[.int .i64 k, .int .i64 n, .string s, .slice A f.len cap, .slice B g.len capB] 34)) 34 #[.int .i64 k', .int .i64 n', .string s', .slice A' f'.len cap', .slice B' g'.len capB']
  rw [show (w.alloc (.cells #[.int .i64 k, .int .i64 n, .string s, .slice A f.len cap, .slice B g.len capB] 34)).heap.size = w.heap.size + 1 by simp] at hq1
  have hsc : ∀ x, Below ((w.alloc (.cells #[.int .i64 k, .int .i64 n, .string s, .slice A f.len cap, .slice B g.len capB] 34)).alloc (.cells #[.int .i64 k', .int .i64 n', .string s', .slice A' f'.len cap', .slice B' g'.len capB'] 34)).heap.size ((w.alloc (.cells #[.int .i64 k, .int .i64 n, .string s, .slice A f.len cap, .slice B g.len capB] 34)).alloc (.cells #[.int .i64 k', .int .i64 n', .string s', .slice A' f'.len cap', .slice B' g'.len capB'] 34)) x →
      x.cell? ⟨w.heap.size, 0, none⟩ = some (.int .i64 k) ∧ x.cell? ⟨w.heap.size, 1, none⟩ = some (.int .i64 n) ∧ x.cell? ⟨w.heap.size, 2, none⟩ = some (.string s) ∧ x.cell? ⟨w.heap.size, 3, none⟩ = some (.slice A f.len cap) ∧ x.cell? ⟨w.heap.size, 4, none⟩ = some (.slice B g.len capB) ∧
      x.cell? ⟨w.heap.size + 1, 0, none⟩ = some (.int .i64 k') ∧ x.cell? ⟨w.heap.size + 1, 1, none⟩ = some (.int .i64 n') ∧ x.cell? ⟨w.heap.size + 1, 2, none⟩ = some (.string s') ∧ x.cell? ⟨w.heap.size + 1, 3, none⟩ = some (.slice A' f'.len cap') ∧ x.cell? ⟨w.heap.size + 1, 4, none⟩ = some (.slice B' g'.len capB') := fun x hb => by
    have p0 := hq0.below hb hq0.lt
    have p1 := hq1.below hb hq1.lt
    exact ⟨p0.cell 0, p0.cell 1, p0.cell 2, p0.cell 3, p0.cell 4, p1.cell 0, p1.cell 1, p1.cell 2, p1.cell 3, p1.cell 4⟩
  go_enter Try.func11, Try.ntmps11
  go_wp2_with fail
  generalize ((w.alloc (.cells #[.int .i64 k, .int .i64 n, .string s, .slice A f.len cap, .slice B g.len capB] 34)).alloc (.cells #[.int .i64 k', .int .i64 n', .string s', .slice A' f'.len cap', .slice B' g'.len capB'] 34)) = W0 at *
  have C1 := fun x (hb : Below w.heap.size w x) => hab_any k n s f g A B cap capB L1 L2 x (h1.below hb h1.lt) (h2.below hb h2.lt) hf hl
  have C2 := fun x (hb : Below w.heap.size w x) => hab_any k' n' s' f' g' A' B' cap' capB' M1 M2 x (h3.below hb h3.lt) (h4.below hb h4.lt) hf' hl'
  have C3 := fun x P1 Q1 c1 c2 b1 b2 (hb : Below w.heap.size w x) (hp : OwnS x (.cons k n s f g) P1 c1 (b1 :: (L1 ++ tailL g L2))) (hq : OwnS x (.cons k' n' s' f' g') Q1 c2 (b2 :: (M1 ++ tailL g' M2))) (hb1 : w.heap.size ≤ b1) (hb2 : b1 < b2) =>
    same_any ⟨0, 0, ⟨#[]⟩, .cons k n s f g, P1, c1, b1 :: (L1 ++ tailL g L2), 0, 0, ⟨#[]⟩, .cons k' n' s' f' g', Q1, c2, b2 :: (M1 ++ tailL g' M2)⟩ x ⟨hp, hq⟩ (by
      have l1 : ∀ x ∈ L1 ++ tailL g L2, x ∈ L1 ++ L2 := fun x hx => by
        rcases List.mem_append.1 hx with h | h
        · simp [h]
        · simp [tailL_sub _ _ _ h]
      have l2 : ∀ x ∈ M1 ++ tailL g' M2, x ∈ M1 ++ M2 := fun x hx => by
        rcases List.mem_append.1 hx with h | h
        · simp [h]
        · simp [tailL_sub _ _ _ h]
      have a1 : ∀ x ∈ L1 ++ L2, x < w.heap.size := fun x hx => by
        rcases List.mem_append.1 hx with h | h
        · exact h1.lt x h
        · exact h2.lt x h
      have a2 : ∀ x ∈ M1 ++ M2, x < w.heap.size := fun x hx => by
        rcases List.mem_append.1 hx with h | h
        · exact h3.lt x h
        · exact h4.lt x h
      have n1 := List.nodup_append.1 hn1
      have n2 := List.nodup_append.1 hn2
      refine List.nodup_append.2 ⟨List.nodup_cons.2 ⟨fun h => by have := a1 _ (l1 _ h); omega, List.nodup_append.2 ⟨n1.1, tailL_nodup _ n1.2.1, fun a ha b hb => n1.2.2 a ha b (tailL_sub _ _ _ hb)⟩⟩, List.nodup_cons.2 ⟨fun h => by have := a2 _ (l2 _ h); omega, List.nodup_append.2 ⟨n2.1, tailL_nodup _ n2.2.1, fun a ha b hb => n2.2.2 a ha b (tailL_sub _ _ _ hb)⟩⟩, fun a ha b hb e => ?_⟩
      subst e
      rcases List.mem_cons.1 ha with ha | ha <;> rcases List.mem_cons.1 hb with hb | hb
      · omega
      · have := a2 _ (l2 _ hb); omega
      · have := a1 _ (l1 _ ha); omega
      · exact hd _ (l1 _ ha) (l2 _ hb))
      (fun y hy => by
        rcases List.mem_append.1 hy with h | h
        · exact hp.lt y h
        · exact hq.lt y h) (by simp only [nodes]; omega)
  simp only [It.eq, hrow] at C3
  have HSC := Lib.hid hsc
  have H1 := Lib.hid C1
  have H2 := Lib.hid C2
  have H3 := Lib.hid C3
  have HB0 := Lib.hid hb0
  have hs0 := hsc W0 (Below.refl _ _)
  clear h1 h2 h3 h4 hn1 hn2 hd hf hf' hl hl' hnd hrow hq0 hq1 hsc C1 C2 C3 hb0
  obtain ⟨y0, y1, y2, y3, y4, y5, y6, y7, y8, y9⟩ := id hs0
  have ef : (Fr.cons k n s f g).len = g.len + 1 := rfl
  have ef' : (Fr.cons k' n' s' f' g').len = g'.len + 1 := rfl
  rw [ef, ef'] at H3
  go_region_held3 (fun x => x.cell? ⟨w.heap.size, 0, none⟩ = some (.int .i64 k) ∧ x.cell? ⟨w.heap.size, 1, none⟩ = some (.int .i64 n) ∧ x.cell? ⟨w.heap.size, 2, none⟩ = some (.string s) ∧ x.cell? ⟨w.heap.size, 3, none⟩ = some (.slice A f.len cap) ∧ x.cell? ⟨w.heap.size, 4, none⟩ = some (.slice B g.len capB) ∧
      x.cell? ⟨w.heap.size + 1, 0, none⟩ = some (.int .i64 k') ∧ x.cell? ⟨w.heap.size + 1, 1, none⟩ = some (.int .i64 n') ∧ x.cell? ⟨w.heap.size + 1, 2, none⟩ = some (.string s') ∧ x.cell? ⟨w.heap.size + 1, 3, none⟩ = some (.slice A' f'.len cap') ∧ x.cell? ⟨w.heap.size + 1, 4, none⟩ = some (.slice B' g'.len capB'))
    (first | exact hs0 | exact HSC.out _ HX3.out | exact HSC.out _ HX2.out | exact HSC.out _ HX1.out | exact HSC.out _ (Below.refl _ _).drew)
    (first
      | (go_at_call_of 20 k
         refine (H1.out _ (HB0.out.trans ((Below.refl W0.heap.size W0).drew.mono HB0.out.size))).mono ?_
         rintro e w2 ⟨P1, c1, b1, rfl, hb, hp, hb1, hb1'⟩
         have hx1 : Below W0.heap.size W0 w2 := (Below.refl W0.heap.size W0).drew.trans hb
         have hb1w : w.heap.size ≤ b1 := Nat.le_trans HB0.out.size hb1
         have HX1 := Lib.hid hx1
         have HP := Lib.hid hp
         clear hb hx1 hp hb1)
      | (go_at_call_of 20 k'
         refine (H2.out _ (HB0.out.trans (HX1.out.mono HB0.out.size))).mono ?_
         rintro e w3 ⟨Q1, c2, b2, rfl, hb, hq, hb2, hb2'⟩
         have HX2 : Hid (Below W0.heap.size W0 w3) := Lib.hid (HX1.out.trans (hb.mono HX1.out.size))
         have HP2 := Lib.hid (HP.out.below hb HP.out.lt)
         have HQ2 := Lib.hid hq
         have hbb : b1 < b2 := Nat.lt_of_lt_of_le hb1' hb2
         clear hb hq)
      | (go_at_call 16
         refine (H3.out _ _ _ _ _ _ _ (HB0.out.trans (HX2.out.mono HB0.out.size)) HP2.out HQ2.out hb1w hbb).mono ?_
         rintro e w4 ⟨rfl, hb⟩
         have HX3 : Hid (Below W0.heap.size W0 w4) := Lib.hid (HX2.out.trans (hb.mono HX2.out.size))
         clear hb)
      | fail)
  go_wp2_with fail
  go_ret
  exact ⟨rfl, HB0.out.trans (HX3.out.mono HB0.out.size)⟩

set_option maxRecDepth 100000 in
set_option maxHeartbeats 4000000 in
/-- spec.ClauseSame. -/
theorem specCS_any (c c' : Cl) (A B A' B' : Option Addr) (cap capB cap' capB' lo hi lo' hi' : Nat) (w : World) (h1 : KidsAt w lo hi c.kids A cap) (h2 : KidsAt w lo hi c.body B capB) (h3 : KidsAt w lo' hi' c'.kids A' cap') (h4 : KidsAt w lo' hi' c'.body B' capB') (hh : hi ≤ w.heap.size) (hh' : hi' ≤ w.heap.size) :
    Calls Try.prog 9 #[.agg #[.int .i64 c.k, .int .i64 c.n, .string c.s, .slice A c.kids.len cap, .slice B c.body.len capB], .agg #[.int .i64 c'.k, .int .i64 c'.n, .string c'.s, .slice A' c'.kids.len cap', .slice B' c'.body.len capB']] w fun e w' => e = .returned (.bool (sameC c c')) ∧ Below w.heap.size w w' := by
  have hsame : sameC c c' = (eqT c.k c.n c.s c.kids c'.k c'.n c'.s c'.kids && eqF c.body c'.body) := rfl
  obtain ⟨k, n, s, f, g⟩ := c
  obtain ⟨k', n', s', f', g'⟩ := c'
  simp only at *
  have hb0 := two_alloc w (.cells #[.int .i64 k, .int .i64 n, .string s, .slice A f.len cap, .slice B g.len capB] 34) (.cells #[.int .i64 k', .int .i64 n', .string s', .slice A' f'.len cap', .slice B' g'.len capB'] 34)
  have hq0 := (Blk.new w 34 #[.int .i64 k, .int .i64 n, .string s, .slice A f.len cap, .slice B g.len capB]).alloc (.cells #[.int .i64 k', .int .i64 n', .string s', .slice A' f'.len cap', .slice B' g'.len capB'] 34)
  have hq1 := Blk.new (w.alloc (.cells #[.int .i64 k, .int .i64 n, .string s, .slice A f.len cap, .slice B g.len capB] 34)) 34 #[.int .i64 k', .int .i64 n', .string s', .slice A' f'.len cap', .slice B' g'.len capB']
  rw [show (w.alloc (.cells #[.int .i64 k, .int .i64 n, .string s, .slice A f.len cap, .slice B g.len capB] 34)).heap.size = w.heap.size + 1 by simp] at hq1
  have C1 := sa_all _ s f (Nat.le_refl _) s' f' k n k' n' A A' cap cap' lo hi lo' hi' _ (h1.below hb0 hh) (h3.below hb0 hh') (Nat.le_trans hh hb0.size) (Nat.le_trans hh' hb0.size)
  have hg1 := h2.1
  have hg2 := h2.2.1
  unfold maxLen at hg2
  generalize eqT k n s f k' n' s' f' = v1 at *
  have H1 := Lib.hid C1
  have HE := Lib.hid hsame
  have HB0 := Lib.hid hb0
  have HQ0 := Lib.hid hq0
  have HQ1 := Lib.hid hq1
  have HG := Lib.hid h2
  have HG' := Lib.hid h4
  have HHI := Lib.hid hh
  have HHI' := Lib.hid hh'
  clear C1 hsame hb0 hq0 hq1 h1 h2 h3 h4 hh hh'
  cases v1
  · have HV : Hid (sameC ⟨k, n, s, f, g⟩ ⟨k', n', s', f', g'⟩ = false) := Lib.hid (by rw [HE.out]; rfl)
    go_enter Try.func9, Try.ntmps9
    go_wp2_with fail
    refine H1.out.mono ?_
    rintro e w2 ⟨rfl, hb⟩
    have HB := Lib.hid (HB0.out.trans (hb.mono HB0.out.size))
    clear hb
    go_wp2_with fail
    go_ret
    rw [HV.out]; exact ⟨rfl, HB.out⟩
  · have HV0 : Hid (sameC ⟨k, n, s, f, g⟩ ⟨k', n', s', f', g'⟩ = eqF g g') := Lib.hid (by rw [HE.out]; rfl)
    generalize hn : g.len = gl at *
    generalize hn' : g'.len = gl' at *
    have HN := Lib.hid hn
    have HN' := Lib.hid hn'
    clear hn hn'
    by_cases hlen : gl = gl'
    · subst hlen
      have t0 : ((gl : Int) != (gl : Int)) = false := by simp
      go_enter Try.func9, Try.ntmps9
      go_wp2_with fail
      refine H1.out.mono ?_
      rintro e w2 ⟨rfl, hb⟩
      have HB := Lib.hid (HB0.out.trans (hb.mono HB0.out.size))
      have hq0 := HQ0.out.below hb HQ0.out.lt
      have hq1 := HQ1.out.below hb HQ1.out.lt
      have x4 := hq0.cell 4
      have y4 := hq1.cell 4
      simp only [List.getElem?_toArray, List.getElem?_cons_zero, List.getElem?_cons_succ] at x4 y4
      have HP0 := Lib.hid hq0
      have HP1 := Lib.hid hq1
      clear hb hq0 hq1
      go_wp2_with fail
      go_loopw [5] (fun i wr => ∃ (j : Nat), j ≤ gl ∧ i = .int .i64 j ∧ eqF (g.drop j) (g'.drop j) = eqF g g' ∧ Below w2.heap.size w2 wr) (fun i _ => gl - (intOf i).toNat)
      case atStart => exact ⟨0, Nat.zero_le _, rfl, rfl, Below.refl _ _⟩
      case round =>
        obtain ⟨j, hj, rfl, hev, hb⟩ := hrel
        have hbw := HB.out.trans (hb.mono HB.out.size)
        have hq0 := HP0.out.below hb HP0.out.lt
        have hq1 := HP1.out.below hb HP1.out.lt
        clear x4 y4
        have x4 := hq0.cell 4
        have y4 := hq1.cell 4
        simp only [List.getElem?_toArray, List.getElem?_cons_zero, List.getElem?_cons_succ] at x4 y4
        by_cases hlt : j < gl
        · obtain ⟨kk, nn, ss, kids, hd⟩ := Fr.drop_cons j g (by rw [HN.out]; exact hlt)
          obtain ⟨kk', nn', ss', kids', hd'⟩ := Fr.drop_cons j g' (by rw [HN'.out]; exact hlt)
          obtain ⟨b, o, rfl, hlb, hbb, hrow⟩ := HG.out.2.2 (by rw [HN.out]; omega)
          obtain ⟨b', o', rfl, hlb', hbb', hrow'⟩ := HG'.out.2.2 (by rw [HN'.out]; omega)
          obtain ⟨hfit, A1, cp, c0, c1, c2, c3, hkid⟩ := hrow.elem hd
          obtain ⟨hfit', A2, cp', c0', c1', c2', c3', hkid'⟩ := hrow'.elem hd'
          have hlo : (⟨b, o, none⟩ : Addr).block < w.heap.size := Nat.lt_of_lt_of_le hbb HHI.out
          have hlo' : (⟨b', o', none⟩ : Addr).block < w.heap.size := Nat.lt_of_lt_of_le hbb' HHI'.out
          have k0 := (hbw.cell (p := ⟨b, o + j * 4, none⟩) hlo).trans c0
          have k1 := (hbw.cell (p := ⟨b, o + j * 4 + 1, none⟩) hlo).trans c1
          have k2 := (hbw.cell (p := ⟨b, o + j * 4 + 2, none⟩) hlo).trans c2
          have k3 := (hbw.cell (p := ⟨b, o + j * 4 + 3, none⟩) hlo).trans c3
          have j0 := (hbw.cell (p := ⟨b', o' + j * 4, none⟩) hlo').trans c0'
          have j1 := (hbw.cell (p := ⟨b', o' + j * 4 + 1, none⟩) hlo').trans c1'
          have j2 := (hbw.cell (p := ⟨b', o' + j * 4 + 2, none⟩) hlo').trans c2'
          have j3 := (hbw.cell (p := ⟨b', o' + j * 4 + 3, none⟩) hlo').trans c3'
          have C1 : ∀ w1, Below wr.heap.size wr w1 → _ := fun w1 hb1 =>
            have hb2 := hbw.trans (hb1.mono hbw.size)
            sa_all _ ss kids (Nat.le_refl _) ss' kids' kk nn kk' nn' A1 A2 cp cp' lo hi lo' hi' w1 (hkid.below hb2 HHI.out) (hkid'.below hb2 HHI'.out) (Nat.le_trans HHI.out hb2.size) (Nat.le_trans HHI'.out hb2.size)
          rw [hd, hd', eqF_cons] at hev
          generalize eqT kk nn ss kids kk' nn' ss' kids' = v at *
          have HEV := Lib.hid hev
          have H2 := Lib.hid C1
          have HBR := Lib.hid hb
          have HBW := Lib.hid hbw
          have HLB : Hid (b < wr.heap.size) := Lib.hid (Nat.lt_of_lt_of_le hlo hbw.size)
          have HLB' : Hid (b' < wr.heap.size) := Lib.hid (Nat.lt_of_lt_of_le hlo' hbw.size)
          clear C1 hev hb hbw hq0 hq1 c0 c1 c2 c3 c0' c1' c2' c3' hkid hkid' hrow hrow' hd hd' hfit hfit' hlo hlo'
          generalize kids.len = kl at *
          generalize kids'.len = kl' at *
          have hl0 : w.heap.size < wr.heap.size := Nat.lt_of_lt_of_le HP0.out.lt HBR.out.size
          have hl1 : w.heap.size + 1 < wr.heap.size := Nat.lt_of_lt_of_le HP1.out.lt HBR.out.size
          have hl2 : b < wr.heap.size := HLB.out
          have hl3 : b' < wr.heap.size := HLB'.out
          have hsc : ∀ x, Below wr.heap.size wr x → (x.cell? ⟨w.heap.size, 4, none⟩ = some (.slice (some ⟨b, o, none⟩) gl capB) ∧ x.cell? ⟨w.heap.size + 1, 4, none⟩ = some (.slice (some ⟨b', o', none⟩) gl capB') ∧ x.cell? ⟨b, o + j * 4, none⟩ = some (.int .i64 kk) ∧ x.cell? ⟨b, o + j * 4 + 1, none⟩ = some (.int .i64 nn) ∧ x.cell? ⟨b, o + j * 4 + 2, none⟩ = some (.string ss) ∧ x.cell? ⟨b, o + j * 4 + 3, none⟩ = some (.slice A1 kl cp) ∧
            x.cell? ⟨b', o' + j * 4, none⟩ = some (.int .i64 kk') ∧ x.cell? ⟨b', o' + j * 4 + 1, none⟩ = some (.int .i64 nn') ∧ x.cell? ⟨b', o' + j * 4 + 2, none⟩ = some (.string ss') ∧ x.cell? ⟨b', o' + j * 4 + 3, none⟩ = some (.slice A2 kl' cp')) := fun x hb =>
            ⟨(hb.cell (p := ⟨w.heap.size, 4, none⟩) hl0).trans x4, (hb.cell (p := ⟨w.heap.size + 1, 4, none⟩) hl1).trans y4, (hb.cell (p := ⟨b, o + j * 4, none⟩) hl2).trans k0, (hb.cell (p := ⟨b, o + j * 4 + 1, none⟩) hl2).trans k1, (hb.cell (p := ⟨b, o + j * 4 + 2, none⟩) hl2).trans k2, (hb.cell (p := ⟨b, o + j * 4 + 3, none⟩) hl2).trans k3,
              (hb.cell (p := ⟨b', o' + j * 4, none⟩) hl3).trans j0, (hb.cell (p := ⟨b', o' + j * 4 + 1, none⟩) hl3).trans j1, (hb.cell (p := ⟨b', o' + j * 4 + 2, none⟩) hl3).trans j2, (hb.cell (p := ⟨b', o' + j * 4 + 3, none⟩) hl3).trans j3⟩
          have HSC := Lib.hid hsc
          clear hsc hl0 hl1 hl2 hl3
          cases v
          · have HV : Hid (eqF g g' = false) := Lib.hid (by rw [← HEV.out]; rfl)
            go_wp2_with fail
            go_region_held3 (fun x => x.cell? ⟨w.heap.size, 4, none⟩ = some (.slice (some ⟨b, o, none⟩) gl capB) ∧ x.cell? ⟨w.heap.size + 1, 4, none⟩ = some (.slice (some ⟨b', o', none⟩) gl capB') ∧ x.cell? ⟨b, o + j * 4, none⟩ = some (.int .i64 kk) ∧ x.cell? ⟨b, o + j * 4 + 1, none⟩ = some (.int .i64 nn) ∧ x.cell? ⟨b, o + j * 4 + 2, none⟩ = some (.string ss) ∧ x.cell? ⟨b, o + j * 4 + 3, none⟩ = some (.slice A1 kl cp) ∧
            x.cell? ⟨b', o' + j * 4, none⟩ = some (.int .i64 kk') ∧ x.cell? ⟨b', o' + j * 4 + 1, none⟩ = some (.int .i64 nn') ∧ x.cell? ⟨b', o' + j * 4 + 2, none⟩ = some (.string ss') ∧ x.cell? ⟨b', o' + j * 4 + 3, none⟩ = some (.slice A2 kl' cp'))
              (first | exact HSC.out _ HX3.out | exact HSC.out _ (Below.refl _ _) | exact HSC.out _ (Below.refl _ _).drew)
              (first
                | (go_at_call 14
                   refine (H2.out _ (Below.refl wr.heap.size wr).drew).mono ?_
                   rintro e w3 ⟨rfl, hb3⟩
                   have HX3 : Hid (Below wr.heap.size wr w3) := Lib.hid ((Below.refl wr.heap.size wr).drew.trans hb3)
                   clear hb3)
                | fail)
            go_wp2_with fail
            go_ret
            rw [HV0.out, HV.out]; exact ⟨rfl, HBW.out.trans (HX3.out.mono HBW.out.size)⟩
          · have HV : Hid (eqF (g.drop (j + 1)) (g'.drop (j + 1)) = eqF g g') := Lib.hid (by rw [← HEV.out]; rfl)
            go_wp2_with fail
            go_region_held3 (fun x => x.cell? ⟨w.heap.size, 4, none⟩ = some (.slice (some ⟨b, o, none⟩) gl capB) ∧ x.cell? ⟨w.heap.size + 1, 4, none⟩ = some (.slice (some ⟨b', o', none⟩) gl capB') ∧ x.cell? ⟨b, o + j * 4, none⟩ = some (.int .i64 kk) ∧ x.cell? ⟨b, o + j * 4 + 1, none⟩ = some (.int .i64 nn) ∧ x.cell? ⟨b, o + j * 4 + 2, none⟩ = some (.string ss) ∧ x.cell? ⟨b, o + j * 4 + 3, none⟩ = some (.slice A1 kl cp) ∧
            x.cell? ⟨b', o' + j * 4, none⟩ = some (.int .i64 kk') ∧ x.cell? ⟨b', o' + j * 4 + 1, none⟩ = some (.int .i64 nn') ∧ x.cell? ⟨b', o' + j * 4 + 2, none⟩ = some (.string ss') ∧ x.cell? ⟨b', o' + j * 4 + 3, none⟩ = some (.slice A2 kl' cp'))
              (first | exact HSC.out _ HX3.out | exact HSC.out _ (Below.refl _ _) | exact HSC.out _ (Below.refl _ _).drew)
              (first
                | (go_at_call 14
                   refine (H2.out _ (Below.refl wr.heap.size wr).drew).mono ?_
                   rintro e w3 ⟨rfl, hb3⟩
                   have HX3 : Hid (Below wr.heap.size wr w3) := Lib.hid ((Below.refl wr.heap.size wr).drew.trans hb3)
                   clear hb3)
                | fail)
            go_wp2_with fail
            go_roundw
            case rel => exact ⟨j + 1, by omega, by go_num, HV.out, HBR.out.trans (HX3.out.mono HBR.out.size)⟩
            case measure => simp [intOf]; omega
        · obtain rfl : j = gl := by omega
          have HV : Hid (eqF g g' = true) := Lib.hid (by
            have e1 := Fr.drop_len g
            have e2 := Fr.drop_len g'
            rw [HN.out] at e1
            rw [HN'.out] at e2
            rw [← hev, e1, e2]; rfl)
          have HBW := Lib.hid hbw
          clear hb hbw hq0 hq1 hev
          go_wp2_with fail
          go_ret
          rw [HV0.out, HV.out]; exact ⟨rfl, HBW.out⟩
    · have t0 : ((gl : Int) != (gl' : Int)) = true := by simp; omega
      have HV : Hid (eqF g g' = false) := Lib.hid (by
        rw [← Bool.not_eq_true]
        intro h
        have := eqF_len g g' h
        rw [HN.out, HN'.out] at this
        exact hlen this)
      clear hlen
      go_enter Try.func9, Try.ntmps9
      go_wp2_with fail
      refine H1.out.mono ?_
      rintro e w2 ⟨rfl, hb⟩
      have HB := Lib.hid (HB0.out.trans (hb.mono HB0.out.size))
      have x4 := (HQ0.out.below hb HQ0.out.lt).cell 4
      have y4 := (HQ1.out.below hb HQ1.out.lt).cell 4
      simp only [List.getElem?_toArray, List.getElem?_cons_zero, List.getElem?_cons_succ] at x4 y4
      clear hb
      go_wp2_with fail
      go_ret
      rw [HV0.out, HV.out]; exact ⟨rfl, HB.out⟩
end Go.Proofs.Ytojilompidmfiaa
