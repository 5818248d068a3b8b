/- impl.programWith walked. Condition: the clauses and the goal lie in memory, both tables in their variables. -/
import Derived.Test.YtlapdnllncoomaaDoorProg
import Derived.Test.YtlapdnllncoomaaDoorZmDE45
import Derived.RegionTactic
import Derived.Test.YtlapdnllncoomaaDoorZmDE47
namespace Go.Proofs.YtlapdnllncoomaaDoor
open Go.RowKit Go.WideMaps Go.Maps Go.ChangeShapes

theorem PgAt.set {w : World} {cs : List Cl} {R : Option Addr} {M lo g : Nat} (h : PgAt w cs R M lo) (hg : g < lo) (i : Nat) (v : Value) : PgAt (w.setCell ⟨g, i, none⟩ v) cs R M lo := by
  obtain ⟨h1, h2, D, hD, hH, r, rfl, hr1, hr2, hct⟩ := h
  have hw : w.grownBy (w.setCell ⟨g, i, none⟩ v) (some g) := grownBy_set (show w.grownBy w (some g) from ⟨rfl, rfl, rfl, Nat.le_refl _, fun _ _ _ => rfl⟩) (.inr rfl) _
  have hs : (w.setCell ⟨g, i, none⟩ v).heap.size = w.heap.size := by simp [World.setCell]
  have hc : ∀ p : Addr, lo ≤ p.block → (w.setCell ⟨g, i, none⟩ v).cell? p = w.cell? p := fun p hp => World.cell?_of_block (heap_setCell_other w ⟨g, i, none⟩ p.block v (by show p.block ≠ g; omega))
  exact ⟨h1, by rw [hs]; exact h2, D, hD.kept hw (by simp; omega) (hD.rowsAbove (fun j hj => by cases hj; omega)), hH, r, rfl, hr1, by rw [hs]; exact hr2,
    Cts.keep (fun p hp => hc p hp.1) (fun g hg => by rw [hs]; exact hg) cs 0 (fun j _ => hc ⟨r, j, none⟩ hr1) hct⟩
/-- The two results' blocks are written. -/
def pwW (w2 : World) (g : Nat) (a b c d : Value) : World := (((w2.setCell ⟨g + 1, 0, none⟩ a).setCell ⟨g + 1, 1, none⟩ b).setCell ⟨g + 1 + 1, 0, none⟩ c).setCell ⟨g + 1 + 1, 1, none⟩ d
theorem pw_store {w w2 : World} {a b c d : Value} {t t' : TypeId} (hb : Below w.heap.size w w2) (h1 : Blk w2 (w.heap.size + 1) t #[a, b]) (h2 : Blk w2 (w.heap.size + 1 + 1) t' #[c, d]) (a' b' c' d' : Value) :
    Blk (pwW w2 w.heap.size a' b' c' d') (w.heap.size + 1) t #[a', b'] ∧ Blk (pwW w2 w.heap.size a' b' c' d') (w.heap.size + 1 + 1) t' #[c', d'] ∧ Below w.heap.size w (pwW w2 w.heap.size a' b' c' d') ∧ (pwW w2 w.heap.size a' b' c' d').heap.size = w2.heap.size := by
  unfold pwW
  exact ⟨(((h1.set_ 0 a').set_ 1 b').far (by simp) _).far (by simp) _, (((h2.far (by simp) _).far (by simp) _).set_ 0 c').set_ 1 d', (((hb.setCell (by simp) _).setCell (by simp) _).setCell (by simp; omega) _).setCell (by simp; omega) _, by simp [World.setCell]⟩

set_option maxRecDepth 100000 in
set_option maxHeartbeats 4000000 in
/-- impl.programWith. -/
theorem progWith_any (cs : List Cl) (A : Option Addr) (cap lo hi : Nat) (k n : Int) (s : ByteArray) (f : Fr) (B : Option Addr) (capB lo' hi' : Nat) (w : World) (hk : ClS w lo hi cs A cap) (hh : hi ≤ w.heap.size) (hnd : cs.length + wtCs cs ≤ 1048576)
    (hkb : KidsAt w lo' hi' f B capB) (hh' : hi' ≤ w.heap.size) (hf : Fits k n s) (hndb : nodes f ≤ 1048576) (ht : nv.Tab w) (ho : op.OpTab w) :
    Calls Tryd.prog 43 #[.slice A cs.length cap, .agg #[.int .i64 k, .int .i64 n, .string s, .slice B f.len capB]] w fun e w' => PWr w cs k n s f e w' := by
  have hb0 : Below w.heap.size w (((w.alloc (.cells #[.int .i64 k, .int .i64 n, .string s, .slice B f.len capB] 29)).alloc (.cells #[.slice none 0 0, .map none] 73)).alloc (.cells #[.string ⟨#[]⟩, .slice none 0 0] 74)) := (two_alloc w _ _).alloc (two_alloc w _ _).size _
  have C1 := plainOf_any k n s f B capB lo' hi' _ (hkb.below hb0 hh') (Nat.le_trans hh' hb0.size) hf hndb (ht.below hb0) (ho.below hb0)
  have C2 := fun w1 (hb : Below w.heap.size w w1) => progOf_any cs A cap lo hi w1 (hk.below hb hh) (Nat.le_trans hh hb.size) hnd (ht.below hb) (ho.below hb)
  have hq1 : Blk (((w.alloc (.cells #[.int .i64 k, .int .i64 n, .string s, .slice B f.len capB] 29)).alloc (.cells #[.slice none 0 0, .map none] 73)).alloc (.cells #[.string ⟨#[]⟩, .slice none 0 0] 74)) (w.heap.size + 1) 73 #[.slice none 0 0, .map none] := by
    have h := (Blk.new (w.alloc (.cells #[.int .i64 k, .int .i64 n, .string s, .slice B f.len capB] 29)) 73 #[.slice none 0 0, .map none]).alloc (.cells #[.string ⟨#[]⟩, .slice none 0 0] 74)
    simpa using h
  have hq2 : Blk (((w.alloc (.cells #[.int .i64 k, .int .i64 n, .string s, .slice B f.len capB] 29)).alloc (.cells #[.slice none 0 0, .map none] 73)).alloc (.cells #[.string ⟨#[]⟩, .slice none 0 0] 74)) (w.heap.size + 1 + 1) 74 #[.string ⟨#[]⟩, .slice none 0 0] := by
    have h := Blk.new ((w.alloc (.cells #[.int .i64 k, .int .i64 n, .string s, .slice B f.len capB] 29)).alloc (.cells #[.slice none 0 0, .map none] 73)) 74 #[.string ⟨#[]⟩, .slice none 0 0]
    simpa using h
  have hs0 : (((w.alloc (.cells #[.int .i64 k, .int .i64 n, .string s, .slice B f.len capB] 29)).alloc (.cells #[.slice none 0 0, .map none] 73)).alloc (.cells #[.string ⟨#[]⟩, .slice none 0 0] 74)).heap.size = w.heap.size + 3 := by simp
  have H1 := Lib.hid C1
  have H2 := Lib.hid C2
  have HB0 := Lib.hid hb0
  have HQ1 := Lib.hid hq1
  have HQ2 := Lib.hid hq2
  clear C1 C2 hk hh hnd hkb hh' hf hndb ht ho hb0 hq1 hq2
  generalize hn : cs.length = cl at *
  have HN := Lib.hid hn
  clear hn
  go_enter Tryd.func43, Tryd.ntmps43
  go_wp2_with fail
  generalize (((w.alloc (.cells #[.int .i64 k, .int .i64 n, .string s, .slice B f.len capB] 29)).alloc (.cells #[.slice none 0 0, .map none] 73)).alloc (.cells #[.string ⟨#[]⟩, .slice none 0 0] 74)) = W0 at *
  refine H1.out.mono ?_
  rintro e w2 ⟨hb, hr⟩
  have hbw := HB0.out.trans (hb.mono HB0.out.size)
  have hq1 := HQ1.out.below hb HQ1.out.lt
  have hq2 := HQ2.out.below hb HQ2.out.lt
  have r0 := hq1.cell 0
  have r1 := hq1.cell 1
  have r2 := hq2.cell 0
  have r3 := hq2.cell 1
  have g0 := hq1.frozen 0
  have g1 := hq1.frozen 1
  have g2 := hq2.frozen 0
  have g3 := hq2.frozen 1
  simp only [List.getElem?_toArray, List.getElem?_cons_zero, List.getElem?_cons_succ] at r0 r1 r2 r3
  have hw1 : w.heap.size + 1 < w2.heap.size := by have := hb.size; omega
  have hw2 : w.heap.size + 1 + 1 < w2.heap.size := by have := hb.size; omega
  rcases hr with ⟨hok, s', A', len', cap', rfl⟩ | ⟨hok, A2, cap2, rfl, hnds⟩
  · have HV : Hid ((progV cs && plainV k n s f) = false) := Lib.hid (by rw [hok, Bool.and_false])
    have HQ1' := Lib.hid hq1
    have HQ2' := Lib.hid hq2
    have HBW := Lib.hid hbw
    clear hb hok hq1 hq2 hbw HQ1 HQ2 H1 H2
    go_wp2_with fail
    obtain ⟨p1, p2, p3, p4⟩ := pw_store HBW.out HQ1'.out HQ2'.out (.slice none 0 0) (.map none) (.string ⟨#[]⟩) (.slice none 0 0)
    refine bodyPost_ret (v := .tuple #[.agg #[.slice none 0 0, .map none], .agg #[.string ⟨#[]⟩, .slice none 0 0], .bool false]) ?_ rfl ⟨?_, .inl ⟨HV.out, _, _, _, _, _, _, _, _, rfl⟩⟩
    · exact results_cells2t Tryd.results43 _ _ (w.heap.size + 1) (w.heap.size + 1 + 1) _ _ _ _ _ _ rfl rfl (p1.alloc _) (p2.alloc _) Tryd.underlying73 rfl (by kernel_rfl) Tryd.underlying74 rfl (by kernel_rfl)
    · exact p3.alloc p3.size _
  · have HP := Lib.hid hok
    have hb3 : Below w2.heap.size w2 (w2.alloc (.cells #[.string s, .slice A2 f.len cap2] 74)) := (Below.refl _ _).alloc (Nat.le_refl _) _
    have HBW := Lib.hid (hbw.trans (hb3.mono hbw.size))
    have HQ3 := Lib.hid (Blk.new w2 74 #[.string s, .slice A2 f.len cap2])
    have HQ1' := Lib.hid (hq1.below hb3 hq1.lt)
    have HQ2' := Lib.hid (hq2.below hb3 hq2.lt)
    have HND := Lib.hid (hnds.keep (fun p _ hp => hb3.cell hp) (Nat.le_refl _) hb3.size)
    have HS3 : Hid (w2.heap.size < (w2.alloc (.cells #[.string s, .slice A2 f.len cap2] 74)).heap.size) := Lib.hid (by simp)
    clear hb hok hq1 hq2 hbw hb3 hnds HQ1 HQ2 H1 r0 r1 r2 r3 g0 g1 g2 g3
    go_wp2_with fail
    generalize w2.alloc (.cells #[.string s, .slice A2 f.len cap2] 74) = W3 at *
    refine (H2.out _ HBW.out).mono ?_
    rintro e w4 ⟨hb, hr⟩
    have hq1 := HQ1'.out.below hb HQ1'.out.lt
    have hq2 := HQ2'.out.below hb HQ2'.out.lt
    have hq3 := HQ3.out.below hb HQ3.out.lt
    have r0 := hq1.cell 0
    have r1 := hq1.cell 1
    have r2 := hq2.cell 0
    have r3 := hq2.cell 1
    have r4 := hq3.cell 0
    have r5 := hq3.cell 1
    have g0 := hq1.frozen 0
    have g1 := hq1.frozen 1
    have g2 := hq2.frozen 0
    have g3 := hq2.frozen 1
    simp only [List.getElem?_toArray, List.getElem?_cons_zero, List.getElem?_cons_succ] at r0 r1 r2 r3 r4 r5
    have hs4 : w2.heap.size < w4.heap.size := by have := hb.size; have := HS3.out; omega
    have hw3 : w.heap.size + 1 < w4.heap.size := by omega
    have hw4 : w.heap.size + 1 + 1 < w4.heap.size := by omega
    rcases hr with ⟨hok, rfl⟩ | ⟨hok, R, M, rfl, hM1, hM2, D, hD, hH, r, rfl, hr1, hr2, hct⟩
    · have HV : Hid ((progV cs && plainV k n s f) = false) := Lib.hid (by rw [hok, Bool.false_and])
      have hbw4 := HBW.out.trans (hb.mono HBW.out.size)
      obtain ⟨p1, p2, p3, p4⟩ := pw_store hbw4 hq1 hq2 (.slice none 0 0) (.map none) (.string s) (.slice A2 f.len cap2)
      have HP1 := Lib.hid p1
      have HP2 := Lib.hid p2
      have HP3 := Lib.hid p3
      clear hb hok hq1 hq2 hq3 HQ1' HQ2' HND H2 p1 p2 p3 p4 hbw4
      go_wp2_with fail
      go_region
      go_wp2_with fail
      refine bodyPost_ret (v := .tuple #[.agg #[.slice none 0 0, .map none], .agg #[.string s, .slice A2 f.len cap2], .bool false]) ?_ rfl ⟨?_, .inl ⟨HV.out, _, _, _, _, _, _, _, _, rfl⟩⟩
      · exact results_cells2t Tryd.results43 _ _ (w.heap.size + 1) (w.heap.size + 1 + 1) _ _ _ _ _ _ rfl rfl (HP1.out.alloc _) (HP2.out.alloc _) Tryd.underlying73 rfl (by kernel_rfl) Tryd.underlying74 rfl (by kernel_rfl)
      · exact (HP3.out.alloc HP3.out.size _).drew
    · have HV : Hid ((progV cs && plainV k n s f) = true) := Lib.hid (by rw [hok, HP.out]; rfl)
      have hbw4 := HBW.out.trans (hb.mono HBW.out.size)
      rw [HN.out] at hD
      have hpg : PgAt w4 cs (some ⟨r, 0, none⟩) M W3.heap.size := ⟨hM1, hM2, D, by rw [HN.out]; exact hD, hH, r, rfl, hr1, hr2, hct⟩
      have hl3 := HS3.out
      have hpg2 : ∀ o, PgAt ((pwW w4 w.heap.size (.slice (some ⟨r, 0, none⟩) cl cl) (.map (some M)) (.string s) (.slice A2 f.len cap2)).alloc o) cs (some ⟨r, 0, none⟩) M w.heap.size := fun o => by
        have h1 : PgAt (pwW w4 w.heap.size (.slice (some ⟨r, 0, none⟩) cl cl) (.map (some M)) (.string s) (.slice A2 f.len cap2)) cs (some ⟨r, 0, none⟩) M W3.heap.size :=
          (((hpg.set (g := w.heap.size + 1) (by omega) _ _).set (g := w.heap.size + 1) (by omega) _ _).set (g := w.heap.size + 1 + 1) (by omega) _ _).set (g := w.heap.size + 1 + 1) (by omega) _ _
        exact (h1.below ((Below.refl _ _).alloc (Nat.le_refl _) o)).mono (by omega)
      obtain ⟨p1, p2, p3, p4⟩ := pw_store hbw4 hq1 hq2 (.slice (some ⟨r, 0, none⟩) cl cl) (.map (some M)) (.string s) (.slice A2 f.len cap2)
      have hnd4 := HND.out.keep (fun p _ hp => hb.cell hp) (Nat.le_refl _) hb.size
      have hnd5 : ∀ o, NdS ((pwW w4 w.heap.size (.slice (some ⟨r, 0, none⟩) cl cl) (.map (some M)) (.string s) (.slice A2 f.len cap2)).alloc o) w.heap.size ((pwW w4 w.heap.size (.slice (some ⟨r, 0, none⟩) cl cl) (.map (some M)) (.string s) (.slice A2 f.len cap2)).alloc o).heap.size f A2 cap2 := fun o =>
        hnd4.keep (fun p hl hp => by
          refine (Below.cell ((Below.refl _ _).alloc (Nat.le_refl _) o) (by rw [p4]; exact hp)).trans ?_
          unfold pwW
          rw [World.cell?_of_block (heap_setCell_other _ ⟨w.heap.size + 1 + 1, 1, none⟩ p.block _ (by show p.block ≠ w.heap.size + 1 + 1; omega)), World.cell?_of_block (heap_setCell_other _ ⟨w.heap.size + 1 + 1, 0, none⟩ p.block _ (by show p.block ≠ w.heap.size + 1 + 1; omega)), World.cell?_of_block (heap_setCell_other _ ⟨w.heap.size + 1, 1, none⟩ p.block _ (by show p.block ≠ w.heap.size + 1; omega)), World.cell?_of_block (heap_setCell_other _ ⟨w.heap.size + 1, 0, none⟩ p.block _ (by show p.block ≠ w.heap.size + 1; omega))]) (by omega) (by rw [show ((pwW w4 w.heap.size (.slice (some ⟨r, 0, none⟩) cl cl) (.map (some M)) (.string s) (.slice A2 f.len cap2)).alloc o).heap.size = w4.heap.size + 1 by simp [p4]]; omega)
      have HP1 := Lib.hid p1
      have HP2 := Lib.hid p2
      have HP3 := Lib.hid p3
      have HPG := Lib.hid hpg2
      have HND5 := Lib.hid hnd5
      clear hb hok hq1 hq2 hq3 HQ1' HQ2' HND H2 p1 p2 p3 p4 hbw4 hM1 hM2 hD hH hr1 hr2 hct hpg hl3 hpg2 hnd4 hnd5
      rw [HN.out]
      go_wp2_with fail
      go_region
      go_wp2_with fail
      refine bodyPost_ret (v := .tuple #[.agg #[.slice (some ⟨r, 0, none⟩) cl cl, .map (some M)], .agg #[.string s, .slice A2 f.len cap2], .bool true]) ?_ rfl ⟨?_, .inr ⟨HV.out, some ⟨r, 0, none⟩, M, A2, cap2, by rw [HN.out], (HND5.out _).keep (fun _ _ _ => rfl) (Nat.le_refl _) (Nat.le_refl _), (HPG.out _).below (Below.refl _ _).drew⟩⟩
      · exact results_cells2t Tryd.results43 _ _ (w.heap.size + 1) (w.heap.size + 1 + 1) _ _ _ _ _ _ rfl rfl (HP1.out.alloc _) (HP2.out.alloc _) Tryd.underlying73 rfl (by kernel_rfl) Tryd.underlying74 rfl (by kernel_rfl)
      · exact (HP3.out.alloc HP3.out.size _).drew
end Go.Proofs.YtlapdnllncoomaaDoor

/- keyIndex.candidates; impl.Candidates. Condition: the clauses and the goal lie in memory, both tables and that of powers of ten in their variables. -/
namespace Go.Proofs.YtlapdnllncoomaaDoor
open Go.RowKit Go.WideMaps Go.Maps Go.ChangeShapes

theorem groups_at_ok {H : Type} {P : Program} {k : TypeId} {w : World} {base : Nat} {e : TypeId} {q : IntKind} {b n : Nat} {D : DataW H} {t E : TypeId} {key : Value} {kl : Lit} (h : w.ownsGroups P k base e q b n D) (K : Keyed P k) (ht : P.underlying t = some (.map k E)) (hz : (zeroValue E).run P w = .ok (.slice none 0 0) w) (hkey : keyOf P k key = some kl) :
    ∃ v zs, (Instr.lookup t (.map (some b)) key true).run P w = .ok (.tuple #[v, .bool (Maps.has D kl)]) w ∧ D.atKey kl .nil = rowDatum q v zs ∧ w.ownsInts base e q v zs := by
  obtain ⟨es, clock, hb, F, hs, rfl, hbb, hlen, hap⟩ := h
  rcases Maps.fit_look true K ht hz hb F hkey with ⟨hrun, _, hat⟩ | ⟨e0, y, hm0, h3, hrun, hR, hat, _⟩
  · exact ⟨.slice none 0 0, [], by rw [hrun, has_false_of_atKey hat]; rfl, hat _, World.ownsInts_nil _ _ _ _⟩
  · obtain ⟨zs, ho, rfl⟩ := rowElem_inv hR
    exact ⟨e0.val, zs, by rw [hrun, has_true_of_atKey hat]; rfl, hat _, ho⟩
/-- A look-up at the operation. -/
theorem wpList_lookup_run {P : Program} (w : World) {ops : Array Oper} {rest : List Oper} {o : Oper} {a : Act} {Q : Exit → Act → World → Prop}
    (hg : o.guard = none) (m x : Operand) (t : TypeId) (c : Bool) (hop : o.op = Op.lookup t m x c) (mv key v : Value) (hm : a.eval m = mv) (hx : a.eval x = key)
    (hrun : (Instr.lookup t mv key c).run P w = .ok v w) (hK : wpList P ops Q rest (a.put o.dst v) w) : wpList P ops Q (o :: rest) a w := by
  refine wpList_plain hg fun K' hK' => ?_
  unfold Oper.wp
  simp [execOp, hop, hm, hx, hrun, Result.andThen]
  exact hK' _ _ hK
theorem kx_look {D : DataW Unit} {cs : List Cl} {s : ByteArray} {len : Nat} {key : List UInt8} (h : KxD D cs cs) (hwf : ∀ c ∈ cs, WfK c) (hs : s.size ≤ maxLen) (hl : len ≤ maxLen) (hk : key.length ≤ maxLen) :
    (Maps.has D (kk s len key) = true → HoldsD D (kk s len key) (ixK cs s len key)) ∧ (Maps.has D (kk s len key) = false → ¬ Place cs s len key ∧ D.atKey (kk s len key) .nil = .nil) := by
  constructor
  · intro hh
    have hex : ∃ c ∈ cs, ck c = kk s len key := Classical.byContradiction fun hn => by
      have := (h.2 (kk s len key) fun c hc e => hn ⟨c, hc, e⟩).2
      rw [hh] at this
      cases this
    obtain ⟨c, hc, he⟩ := hex
    have hw := hwf c hc
    obtain ⟨e1, e2, e3⟩ := kk_inj hw.1.1 hw.1.2 (by have := keyF_len hw.2; unfold maxLen; omega) hs hl hk he
    have h1 := (h.1 c hc).1
    obtain ⟨j, hj⟩ := List.getElem?_of_mem hc
    have h2 := ixK_self hj
    rw [he, e1, e2, e3] at h1
    rw [e1, e2, e3] at h2
    exact .inr ⟨fun e => by rw [e] at h2; simp at h2, h1⟩
  · intro hh
    refine ⟨fun hp => ?_, ?_⟩
    · obtain ⟨c, hc, e1, e2, e3⟩ := hp
      have h1 := (h.1 c hc).2
      unfold ck at h1
      rw [e1, e2, e3, hh] at h1
      cases h1
    · refine (h.2 (kk s len key) fun c hc e => ?_).1
      have h1 := (h.1 c hc).2
      rw [e, hh] at h1
      cases h1

set_option maxRecDepth 100000 in
set_option maxHeartbeats 4000000 in
/-- keyIndex.candidates. -/
theorem cand_any (cs : List Cl) (R : Option Addr) (M lo B MF nn : Nat) (D : DataW Unit) (s : ByteArray) (f : Fr) (A : Option Addr) (cap lo5 hi5 : Nat) (w : World) (h : PgAt w cs R M lo) (hG : w.ownsGroups Tryd.prog 109 (MF + 1) 3 .i64 MF nn D) (hK : KxD D cs cs) (hwf : ∀ c ∈ cs, WfK c) (hcl : cs.length ≤ 20)
    (hB : B ≤ M + 1) (hB' : B ≤ MF + 1) (hnn : nn ≤ 400) (hk : NdS w lo5 hi5 f A cap) (hh : hi5 ≤ w.heap.size) (hsz : s.size ≤ maxLen) (hs : shapeF f 29 = true)
    (hp : ∀ w1, Below w.heap.size w w1 → Lib.TabIs Tryd.prog w1 "internal/strconv.uint64pow10" .u64 Lib.pow10Tab) :
    Calls Tryd.prog 45 #[.agg #[.slice R cs.length cs.length, .map (some M), .map (some MF)], .agg #[.string s, .slice A f.len cap]] w fun e w' => ∃ v, e = .returned v ∧ OwnI w' B v (cdF cs s f.len (keyF f)) ∧ Below w.heap.size w w' := by
  have hb2 : Below w.heap.size w ((w.alloc (.cells #[.slice R cs.length cs.length, .map (some M), .map (some MF)] 79)).alloc (.cells #[.string s, .slice A f.len cap] 74)) := two_alloc w _ _
  have hq1 : Blk ((w.alloc (.cells #[.slice R cs.length cs.length, .map (some M), .map (some MF)] 79)).alloc (.cells #[.string s, .slice A f.len cap] 74)) w.heap.size 79 #[.slice R cs.length cs.length, .map (some M), .map (some MF)] := (Blk.new w _ _).alloc _
  have hq2 : Blk ((w.alloc (.cells #[.slice R cs.length cs.length, .map (some M), .map (some MF)] 79)).alloc (.cells #[.string s, .slice A f.len cap] 74)) (w.heap.size + 1) 74 #[.string s, .slice A f.len cap] := by
    have h := Blk.new (w.alloc (.cells #[.slice R cs.length cs.length, .map (some M), .map (some MF)] 79)) 74 #[.string s, .slice A f.len cap]
    simpa using h
  have hfl : f.len ≤ maxLen := Nat.le_trans hk.1 hk.2.1
  have hkl : (keyF f).length ≤ maxLen := by have := keyF_len hs; unfold maxLen; omega
  have C1 := keyed_any s f A cap lo5 hi5 29 _ (hk.keep (fun p _ hp => hb2.cell (by omega)) (Nat.le_refl _) (Nat.le_refl _)) (Nat.le_trans hh hb2.size) hs (fun w1 hb => hp w1 (hb2.trans (hb.mono hb2.size)))
  have C2 := fun w1 (hb : Below w.heap.size w w1) => cfor_any cs R M lo s A f.len cap w1 (h.below hb) (fun c hc => (hwf c hc).1) (by omega) hsz hfl
  have hkey := kk_key s f.len (keyF f) hsz hfl hkl
  have hkey0 := kk_key s f.len [] hsz hfl (Nat.zero_le _)
  have hl1 := kx_look hK hwf hsz hfl hkl
  have hl0 := kx_look (key := []) hK hwf hsz hfl (Nat.zero_le _)
  have H1 := Lib.hid C1
  have H2 := Lib.hid C2
  have HKEY := Lib.hid hkey
  have HKEY0 := Lib.hid hkey0
  have HL1 := Lib.hid hl1
  have HL0 := Lib.hid hl0
  have HG := Lib.hid hG
  have HB2 := Lib.hid hb2
  have HQ1 := Lib.hid hq1
  have HQ2 := Lib.hid hq2
  have HB := Lib.hid hB
  have HB' := Lib.hid hB'
  have HCN := Lib.hid (cand_none cs s f.len)
  have HE1 := Lib.hid (ba_empty (keyF f))
  clear C1 C2 hkey hkey0 hl1 hl0 hG hb2 hq1 hq2 hB hB' h hK hwf hcl hk hh hsz hs hp hfl hkl
  generalize cs.length = cl at *
  generalize hkv : (⟨(keyF f).toArray⟩ : ByteArray) = kv at *
  clear hkv
  go_enter Tryd.func45, Tryd.ntmps45
  go_wp2_with fail
  generalize ((w.alloc (.cells #[.slice R cl cl, .map (some M), .map (some MF)] 79)).alloc (.cells #[.string s, .slice A f.len cap] 74)) = W0 at *
  refine H1.out.mono ?_
  rintro e w2 ⟨rfl, hb⟩
  have hq1 := HQ1.out.below hb HQ1.out.lt
  have hq2 := HQ2.out.below hb HQ2.out.lt
  have x0 := hq1.cell 0
  have x1 := hq1.cell 1
  have x2 := hq1.cell 2
  have y0 := hq2.cell 0
  have y1 := hq2.cell 1
  simp only [List.getElem?_toArray, List.getElem?_cons_zero, List.getElem?_cons_succ] at x0 x1 x2 y0 y1
  have hl1 : w.heap.size < w2.heap.size := hq1.lt
  have hl2 : w.heap.size + 1 < w2.heap.size := hq2.lt
  have hb3 : Below w2.heap.size w2 (w2.alloc (.cells #[.string s, .int .i64 (f.len : Int), .string kv] 109)) := (Below.refl _ _).alloc (Nat.le_refl _) _
  have hbw := HB2.out.trans ((hb.trans (hb3.mono hb.size)).mono HB2.out.size)
  have HBW := Lib.hid hbw
  have HG3 := Lib.hid (groups3_below HG.out hbw)
  clear hb hq1 hq2 hb3 hbw H1
  cases h1 : (keyF f).isEmpty
  · have hne : keyF f ≠ [] := fun e => by rw [e] at h1; cases h1
    have u1 : (kv.toList == []) = false := by rw [HE1.out]; exact h1
    clear h1
    obtain ⟨v, zs, hrun, hat, hoi⟩ := groups_at_ok HG3.out lawK3 Tryd.underlying77 (zeroIx _) HKEY.out
    cases hh : Maps.has D (kk s f.len (keyF f))
    · obtain ⟨hnp, _⟩ := HL1.out.2 hh
      rw [hh] at hrun
      obtain ⟨v0, zs0, hrun0, hat0, hoi0, _⟩ := HG3.out.at lawK3 Tryd.underlying77 (zeroIx _) (by unfold maxLen; omega) HKEY0.out
      have hz : zs0 = ixK cs s f.len [] := by
        cases hh0 : Maps.has D (kk s f.len [])
        · obtain ⟨hnp0, hat1⟩ := HL0.out.2 hh0
          rw [cand_no cs s f.len hnp0]
          exact HoldsD.eq (.inl ⟨rfl, hat1⟩) hat0 hoi0
        · exact (HL0.out.1 hh0).eq hat0 hoi0
      have HDONE : Hid (OwnI (w2.alloc (.cells #[.string s, .int .i64 (f.len : Int), .string kv] 109)) B v0 (cdF cs s f.len (keyF f))) := Lib.hid (by
        rw [cand_rest cs s f.len hne hnp, ← hz]
        exact OwnI.mono (base := MF + 1) hoi0.1 HB'.out)
      clear hat hoi hat0 hoi0 hz hne hnp hh
      go_wp2_with (first
        | (at_lookup; refine wpList_lookup_run _ rfl _ _ _ true rfl _ _ _ rfl rfl hrun ?_)
        | (at_lookup; refine wpList_lookup_run _ rfl _ _ _ false rfl _ _ _ rfl rfl hrun0 ?_))
      go_ret
      exact ⟨v0, rfl, HDONE.out, HBW.out⟩
    · have hz := (HL1.out.1 hh).eq hat hoi
      rw [hh] at hrun
      have HDONE : Hid (OwnI (w2.alloc (.cells #[.string s, .int .i64 (f.len : Int), .string kv] 109)) B v (cdF cs s f.len (keyF f))) := Lib.hid (by
        rw [cand_known cs s f.len hne, ← hz]
        exact OwnI.mono (base := MF + 1) hoi.1 HB'.out)
      clear hat hoi hz hne hh
      go_wp2_with (first
        | (at_lookup; go_must (refine wpList_lookup_run _ rfl _ _ _ true rfl _ _ _ rfl rfl hrun ?_)))
      go_ret
      exact ⟨v, rfl, HDONE.out, HBW.out⟩
  · have hne : keyF f = [] := by simpa using h1
    have u1 : (kv.toList == []) = true := by rw [HE1.out]; exact h1
    clear h1
    have HNE := Lib.hid hne
    clear hne
    have H3 := Lib.hid (H2.out _ HBW.out)
    go_wp2_with fail
    refine H3.out.mono ?_
    rintro e w4 ⟨v, rfl, hoi, hb⟩
    have HDONE : Hid (OwnI w4 B v (cdF cs s f.len (keyF f)) ∧ Below w.heap.size w w4) := Lib.hid ⟨by rw [HNE.out, HCN.out]; exact OwnI.mono (base := M + 1) hoi.1 HB.out, HBW.out.trans (hb.mono HBW.out.size)⟩
    clear hoi hb
    go_wp2_with fail
    go_ret
    exact ⟨v, rfl, HDONE.out⟩
end Go.Proofs.YtlapdnllncoomaaDoor
