/- keyIndex.candidates; impl.Candidates. Condition: the clauses and the goal lie in memory, both tables and that of powers of ten in their variables. -/
import Derived.Test.YtlapdnllncoomaaDoorProg
import Derived.Test.YtlapdnllncoomaaDoorZmCD45
import Derived.Test.YtlapdnllncoomaaDoorZmCD46
import Derived.Deep.RegionHeld3
namespace Go.Proofs.YtlapdnllncoomaaDoor
open Go.RowKit Go.WideMaps Go.Maps Go.ChangeShapes

theorem groups_at_ok {H : Type} {P : Program} {k : TypeId} {w : World} {base : Nat} {e : TypeId} {q : IntKind} {b n : Nat} {D : DataW H} {t E : TypeId} {key : Value} {kl : Lit} (h : w.ownsGroups P k base e q b n D) (K : Keyed P k) (ht : P.underlying t = some (.map k E)) (hz : (zeroValue E).run P w = .ok (.slice none 0 0) w) (hkey : keyOf P k key = some kl) :
    ∃ v zs, (Instr.lookup t (.map (some b)) key true).run P w = .ok (.tuple #[v, .bool (Maps.has D kl)]) w ∧ D.atKey kl .nil = rowDatum q v zs ∧ w.ownsInts base e q v zs := by
  obtain ⟨es, clock, hb, F, hs, rfl, hbb, hlen, hap⟩ := h
  rcases Maps.fit_look true K ht hz hb F hkey with ⟨hrun, _, hat⟩ | ⟨e0, y, hm0, h3, hrun, hR, hat, _⟩
  · exact ⟨.slice none 0 0, [], by rw [hrun, has_false_of_atKey hat]; rfl, hat _, World.ownsInts_nil _ _ _ _⟩
  · obtain ⟨zs, ho, rfl⟩ := rowElem_inv hR
    exact ⟨e0.val, zs, by rw [hrun, has_true_of_atKey hat]; rfl, hat _, ho⟩
/-- A look-up at the operation. -/
theorem wpList_lookup_run {P : Program} (w : World) {ops : Array Oper} {rest : List Oper} {o : Oper} {a : Act} {Q : Exit → Act → World → Prop}
    (hg : o.guard = none) (m x : Operand) (t : TypeId) (c : Bool) (hop : o.op = Op.lookup t m x c) (mv key v : Value) (hm : a.eval m = mv) (hx : a.eval x = key)
    (hrun : (Instr.lookup t mv key c).run P w = .ok v w) (hK : wpList P ops Q rest (a.put o.dst v) w) : wpList P ops Q (o :: rest) a w := by
  refine wpList_plain hg fun K' hK' => ?_
  unfold Oper.wp
  simp [execOp, hop, hm, hx, hrun, Result.andThen]
  exact hK' _ _ hK
theorem kx_look {D : DataW Unit} {cs : List Cl} {s : ByteArray} {len : Nat} {key : List UInt8} (h : KxD D cs cs) (hwf : ∀ c ∈ cs, WfK c) (hs : s.size ≤ maxLen) (hl : len ≤ maxLen) (hk : key.length ≤ maxLen) :
    (Maps.has D (kk s len key) = true → HoldsD D (kk s len key) (ixK cs s len key)) ∧ (Maps.has D (kk s len key) = false → ¬ Place cs s len key ∧ D.atKey (kk s len key) .nil = .nil) := by
  constructor
  · intro hh
    have hex : ∃ c ∈ cs, ck c = kk s len key := Classical.byContradiction fun hn => by
      have := (h.2 (kk s len key) fun c hc e => hn ⟨c, hc, e⟩).2
      rw [hh] at this
      cases this
    obtain ⟨c, hc, he⟩ := hex
    have hw := hwf c hc
    obtain ⟨e1, e2, e3⟩ := kk_inj hw.1.1 hw.1.2 (by have := keyF_len hw.2; unfold maxLen; omega) hs hl hk he
    have h1 := (h.1 c hc).1
    obtain ⟨j, hj⟩ := List.getElem?_of_mem hc
    have h2 := ixK_self hj
    rw [he, e1, e2, e3] at h1
    rw [e1, e2, e3] at h2
    exact .inr ⟨fun e => by rw [e] at h2; simp at h2, h1⟩
  · intro hh
    refine ⟨fun hp => ?_, ?_⟩
    · obtain ⟨c, hc, e1, e2, e3⟩ := hp
      have h1 := (h.1 c hc).2
      unfold ck at h1
      rw [e1, e2, e3, hh] at h1
      cases h1
    · refine (h.2 (kk s len key) fun c hc e => ?_).1
      have h1 := (h.1 c hc).2
      rw [e, hh] at h1
      cases h1

set_option maxRecDepth 100000 in
set_option maxHeartbeats 4000000 in
/-- keyIndex.candidates. -/
theorem cand_any (cs : List Cl) (R : Option Addr) (M lo B MF nn : Nat) (D : DataW Unit) (s : ByteArray) (f : Fr) (A : Option Addr) (cap lo5 hi5 : Nat) (w : World) (h : PgAt w cs R M lo) (hG : w.ownsGroups Tryd.prog 109 (MF + 1) 3 .i64 MF nn D) (hK : KxD D cs cs) (hwf : ∀ c ∈ cs, WfK c) (hcl : cs.length ≤ 20)
    (hB : B ≤ M + 1) (hB' : B ≤ MF + 1) (hnn : nn ≤ 400) (hk : NdS w lo5 hi5 f A cap) (hh : hi5 ≤ w.heap.size) (hsz : s.size ≤ maxLen) (hs : shapeF f 29 = true)
    (hp : ∀ w1, Below w.heap.size w w1 → Lib.TabIs Tryd.prog w1 "internal/strconv.uint64pow10" .u64 Lib.pow10Tab) :
    Calls Tryd.prog 45 #[.agg #[.slice R cs.length cs.length, .map (some M), .map (some MF)], .agg #[.string s, .slice A f.len cap]] w fun e w' => ∃ v, e = .returned v ∧ OwnI w' B v (cdF cs s f.len (keyF f)) ∧ Below w.heap.size w w' := by
  have hb2 : Below w.heap.size w ((w.alloc (.cells #[.slice R cs.length cs.length, .map (some M), .map (some MF)] 79)).alloc (.cells #[.string s, .slice A f.len cap] 74)) := two_alloc w _ _
  have hq1 : Blk ((w.alloc (.cells #[.slice R cs.length cs.length, .map (some M), .map (some MF)] 79)).alloc (.cells #[.string s, .slice A f.len cap] 74)) w.heap.size 79 #[.slice R cs.length cs.length, .map (some M), .map (some MF)] := (Blk.new w _ _).alloc _
  have hq2 : Blk ((w.alloc (.cells #[.slice R cs.length cs.length, .map (some M), .map (some MF)] 79)).alloc (.cells #[.string s, .slice A f.len cap] 74)) (w.heap.size + 1) 74 #[.string s, .slice A f.len cap] := by
    have h := Blk.new (w.alloc (.cells #[.slice R cs.length cs.length, .map (some M), .map (some MF)] 79)) 74 #[.string s, .slice A f.len cap]
    simpa using h
  have hfl : f.len ≤ maxLen := Nat.le_trans hk.1 hk.2.1
  have hkl : (keyF f).length ≤ maxLen := by have := keyF_len hs; unfold maxLen; omega
  have C1 := keyed_any s f A cap lo5 hi5 29 _ (hk.keep (fun p _ hp => hb2.cell (by omega)) (Nat.le_refl _) (Nat.le_refl _)) (Nat.le_trans hh hb2.size) hs (fun w1 hb => hp w1 (hb2.trans (hb.mono hb2.size)))
  have C2 := fun w1 (hb : Below w.heap.size w w1) => cfor_any cs R M lo s A f.len cap w1 (h.below hb) (fun c hc => (hwf c hc).1) (by omega) hsz hfl
  have hkey := kk_key s f.len (keyF f) hsz hfl hkl
  have hkey0 := kk_key s f.len [] hsz hfl (Nat.zero_le _)
  have hl1 := kx_look hK hwf hsz hfl hkl
  have hl0 := kx_look (key := []) hK hwf hsz hfl (Nat.zero_le _)
  have H1 := Lib.hid C1
  have H2 := Lib.hid C2
  have HKEY := Lib.hid hkey
  have HKEY0 := Lib.hid hkey0
  have HL1 := Lib.hid hl1
  have HL0 := Lib.hid hl0
  have HG := Lib.hid hG
  have HB2 := Lib.hid hb2
  have HQ1 := Lib.hid hq1
  have HQ2 := Lib.hid hq2
  have HB := Lib.hid hB
  have HB' := Lib.hid hB'
  have HCN := Lib.hid (cand_none cs s f.len)
  have HE1 := Lib.hid (ba_empty (keyF f))
  clear C1 C2 hkey hkey0 hl1 hl0 hG hb2 hq1 hq2 hB hB' h hK hwf hcl hk hh hsz hs hp hfl hkl
  generalize cs.length = cl at *
  generalize hkv : (⟨(keyF f).toArray⟩ : ByteArray) = kv at *
  clear hkv
  go_enter Tryd.func45, Tryd.ntmps45
  go_wp2_with fail
  generalize ((w.alloc (.cells #[.slice R cl cl, .map (some M), .map (some MF)] 79)).alloc (.cells #[.string s, .slice A f.len cap] 74)) = W0 at *
  refine H1.out.mono ?_
  rintro e w2 ⟨rfl, hb⟩
  have hq1 := HQ1.out.below hb HQ1.out.lt
  have hq2 := HQ2.out.below hb HQ2.out.lt
  have x0 := hq1.cell 0
  have x1 := hq1.cell 1
  have x2 := hq1.cell 2
  have y0 := hq2.cell 0
  have y1 := hq2.cell 1
  simp only [List.getElem?_toArray, List.getElem?_cons_zero, List.getElem?_cons_succ] at x0 x1 x2 y0 y1
  have hl1 : w.heap.size < w2.heap.size := hq1.lt
  have hl2 : w.heap.size + 1 < w2.heap.size := hq2.lt
  have hb3 : Below w2.heap.size w2 (w2.alloc (.cells #[.string s, .int .i64 (f.len : Int), .string kv] 109)) := (Below.refl _ _).alloc (Nat.le_refl _) _
  have hbw := HB2.out.trans ((hb.trans (hb3.mono hb.size)).mono HB2.out.size)
  have HBW := Lib.hid hbw
  have HG3 := Lib.hid (groups3_below HG.out hbw)
  clear hb hq1 hq2 hb3 hbw H1
  cases h1 : (keyF f).isEmpty
  · have hne : keyF f ≠ [] := fun e => by rw [e] at h1; cases h1
    have u1 : (kv.toList == []) = false := by rw [HE1.out]; exact h1
    clear h1
    obtain ⟨v, zs, hrun, hat, hoi⟩ := groups_at_ok HG3.out lawK3 Tryd.underlying77 (zeroIx _) HKEY.out
    cases hh : Maps.has D (kk s f.len (keyF f))
    · obtain ⟨hnp, _⟩ := HL1.out.2 hh
      rw [hh] at hrun
      obtain ⟨v0, zs0, hrun0, hat0, hoi0, _⟩ := HG3.out.at lawK3 Tryd.underlying77 (zeroIx _) (by unfold maxLen; omega) HKEY0.out
      have hz : zs0 = ixK cs s f.len [] := by
        cases hh0 : Maps.has D (kk s f.len [])
        · obtain ⟨hnp0, hat1⟩ := HL0.out.2 hh0
          rw [cand_no cs s f.len hnp0]
          exact HoldsD.eq (.inl ⟨rfl, hat1⟩) hat0 hoi0
        · exact (HL0.out.1 hh0).eq hat0 hoi0
      have HDONE : Hid (OwnI (w2.alloc (.cells #[.string s, .int .i64 (f.len : Int), .string kv] 109)) B v0 (cdF cs s f.len (keyF f))) := Lib.hid (by
        rw [cand_rest cs s f.len hne hnp, ← hz]
        exact OwnI.mono (base := MF + 1) hoi0.1 HB'.out)
      clear hat hoi hat0 hoi0 hz hne hnp hh
      go_wp2_with (first
        | (at_lookup; refine wpList_lookup_run _ rfl _ _ _ true rfl _ _ _ rfl rfl hrun ?_)
        | (at_lookup; refine wpList_lookup_run _ rfl _ _ _ false rfl _ _ _ rfl rfl hrun0 ?_))
      go_ret
      exact ⟨v0, rfl, HDONE.out, HBW.out⟩
    · have hz := (HL1.out.1 hh).eq hat hoi
      rw [hh] at hrun
      have HDONE : Hid (OwnI (w2.alloc (.cells #[.string s, .int .i64 (f.len : Int), .string kv] 109)) B v (cdF cs s f.len (keyF f))) := Lib.hid (by
        rw [cand_known cs s f.len hne, ← hz]
        exact OwnI.mono (base := MF + 1) hoi.1 HB'.out)
      clear hat hoi hz hne hh
      go_wp2_with (first
        | (at_lookup; go_must (refine wpList_lookup_run _ rfl _ _ _ true rfl _ _ _ rfl rfl hrun ?_)))
      go_ret
      exact ⟨v, rfl, HDONE.out, HBW.out⟩
  · have hne : keyF f = [] := by simpa using h1
    have u1 : (kv.toList == []) = true := by rw [HE1.out]; exact h1
    clear h1
    have HNE := Lib.hid hne
    clear hne
    have H3 := Lib.hid (H2.out _ HBW.out)
    go_wp2_with fail
    refine H3.out.mono ?_
    rintro e w4 ⟨v, rfl, hoi, hb⟩
    have HDONE : Hid (OwnI w4 B v (cdF cs s f.len (keyF f)) ∧ Below w.heap.size w w4) := Lib.hid ⟨by rw [HNE.out, HCN.out]; exact OwnI.mono (base := M + 1) hoi.1 HB.out, HBW.out.trans (hb.mono HBW.out.size)⟩
    clear hoi hb
    go_wp2_with fail
    go_ret
    exact ⟨v, rfl, HDONE.out⟩
end Go.Proofs.YtlapdnllncoomaaDoor

/- impl.ClausesFor. Condition: the clauses and the goal lie in memory, both tables in their variables. -/
namespace Go.Proofs.YtlapdnllncoomaaDoor
open Go.RowKit Go.WideMaps Go.Maps Go.ChangeShapes

theorem nilI {w x : World} (hb : Below w.heap.size w x) : OwnI x w.heap.size (.slice none 0 0) [] ∧ Below w.heap.size w x := ⟨OwnI.nil _ _, hb⟩

set_option maxRecDepth 100000 in
set_option maxHeartbeats 4000000 in
/-- impl.ClausesFor. -/
theorem implCF_any (cs : List Cl) (A : Option Addr) (cap lo hi : Nat) (k n : Int) (s : ByteArray) (f : Fr) (B : Option Addr) (capB lo' hi' : Nat) (w : World) (hk : ClS w lo hi cs A cap) (hh : hi ≤ w.heap.size) (hnd : cs.length + wtCs cs ≤ 1048576)
    (hkb : KidsAt w lo' hi' f B capB) (hh' : hi' ≤ w.heap.size) (hf : Fits k n s) (hndb : nodes f ≤ 1048576) (ht : nv.Tab w) (ho : op.OpTab w) :
    Calls Tryd.prog 26 #[.slice A cs.length cap, .agg #[.int .i64 k, .int .i64 n, .string s, .slice B f.len capB]] w fun e w' => ∃ v, e = .returned v ∧ OwnI w' w.heap.size v (clF cs k n s f) ∧ Below w.heap.size w w' := by
  have hb0 : Below w.heap.size w (w.alloc (.cells #[.int .i64 k, .int .i64 n, .string s, .slice B f.len capB] 29)) := (Below.refl _ _).alloc (Nat.le_refl _) _
  have C1 := progWith_any cs A cap lo hi k n s f B capB lo' hi' _ (hk.below hb0 hh) (Nat.le_trans hh hb0.size) hnd (hkb.below hb0 hh') (Nat.le_trans hh' hb0.size) hf hndb (ht.below hb0) (ho.below hb0)
  have HE : Hid (clF cs k n s f = if (progV cs && plainV k n s f) = true then forF cs 0 s f.len else []) := Lib.hid rfl
  have hfl : f.len ≤ maxLen := Nat.le_trans hkb.1 hkb.2.1
  have C2 := fun R M lo2 A2 cap2 w1 (h : PgAt w1 cs R M lo2) => cfor_any cs R M lo2 s A2 f.len cap2 w1 h hk.wf (by omega) hf.2.2 hfl
  have H1 := Lib.hid C1
  have H2 := Lib.hid C2
  have HB0 := Lib.hid hb0
  clear C1 C2 hk hh hnd hkb hh' hf hndb hb0 ht ho hfl
  go_enter Tryd.func26, Tryd.ntmps26
  go_wp2_with fail
  refine H1.out.mono ?_
  rintro e w2 ⟨hb, hr⟩
  have hbw := HB0.out.trans (hb.mono HB0.out.size)
  rcases hr with ⟨hok, R, l, c, m, s', A', len, cap', rfl⟩ | ⟨hok, R, M, A', cap', rfl, _, hpg⟩
  · have HV : Hid (clF cs k n s f = []) := Lib.hid (by rw [HE.out, hok]; rfl)
    have HBW := Lib.hid ((hbw.alloc hbw.size (.cells #[.slice R l c, .map m] 73)).alloc (hbw.alloc hbw.size _).size (.cells #[.string s', .slice A' len cap'] 74))
    clear hb hbw hok
    go_wp2_with fail
    go_ret
    rw [HV.out]
    exact ⟨_, rfl, nilI HBW.out⟩
  · have HV : Hid (clF cs k n s f = forF cs 0 s f.len) := Lib.hid (by rw [HE.out, hok]; rfl)
    have hb3 : Below w2.heap.size w2 ((w2.alloc (.cells #[.slice R cs.length cs.length, .map (some M)] 73)).alloc (.cells #[.string s, .slice A' f.len cap'] 74)) := two_alloc w2 _ _
    have C3 := H2.out R M _ A' cap' _ (hpg.below hb3)
    have hM : w.heap.size + 1 ≤ M := by
      have := hpg.1
      simpa using this
    have HB3 := Lib.hid (hbw.trans (hb3.mono hbw.size))
    have H3 := Lib.hid C3
    clear hb hbw hok C3 hpg hb3
    go_wp2_with fail
    refine H3.out.mono ?_
    rintro e w4 ⟨v, rfl, hoi, hb⟩
    have HDONE : Hid (OwnI w4 w.heap.size v (forF cs 0 s f.len) ∧ Below w.heap.size w w4) := Lib.hid ⟨OwnI.mono (base := M + 1) hoi.1 (by omega), HB3.out.trans (hb.mono HB3.out.size)⟩
    clear hoi hb
    go_wp2_with fail
    go_ret
    rw [HV.out]
    exact ⟨v, rfl, HDONE.out⟩
end Go.Proofs.YtlapdnllncoomaaDoor

/- impl.Candidates. Condition: the clauses and the goal lie in memory, both tables and that of powers of ten in their variables. -/
namespace Go.Proofs.YtlapdnllncoomaaDoor
open Go.RowKit Go.WideMaps Go.Maps Go.ChangeShapes

/-- What Candidates answers. -/
noncomputable def cdA (cs : List Cl) (k n : Int) (s : ByteArray) (f : Fr) : List Int := if (progV cs && plainV k n s f) = true then cdF cs s f.len (keyF f) else []
theorem cdA_len (cs : List Cl) (k n : Int) (s : ByteArray) (f : Fr) : (cdA cs k n s f).length ≤ cs.length := by
  unfold cdA
  split
  · exact cdF_len _ _ _ _
  · exact Nat.zero_le _
theorem plain_shape {k n : Int} {s : ByteArray} {f : Fr} (h : plainV k n s f = true) : shapeF f 29 = true := by
  unfold plainV validT shapeT at h
  simp only [Bool.and_eq_true] at h
  exact h.1.1.2.2
theorem allC_wf : ∀ (cs : List Cl), allC cs = true → ∀ c ∈ cs, shapeF c.kids 29 = true
  | [], _, c, hc => by simp at hc
  | c0 :: cs, h, c, hc => by
    have h2 : (clauseV c0 && allC cs) = true := h
    rw [Bool.and_eq_true] at h2
    rcases List.mem_cons.1 hc with rfl | hc
    · have h3 := h2.1
      unfold clauseV at h3
      rw [Bool.and_eq_true] at h3
      exact plain_shape h3.1
    · exact allC_wf cs h2.2 c hc
theorem prog_wf {cs : List Cl} (h : progV cs = true) (hw : ∀ c ∈ cs, WfC c) : cs.length ≤ 20 ∧ ∀ c ∈ cs, WfK c := by
  unfold progV at h
  rw [Bool.and_eq_true, decide_eq_true_iff] at h
  exact ⟨h.1, fun c hc => ⟨hw c hc, allC_wf cs h.2 c hc⟩⟩

set_option maxRecDepth 100000 in
set_option maxHeartbeats 4000000 in
/-- impl.Candidates. -/
theorem implCd_any (cs : List Cl) (A : Option Addr) (cap lo hi : Nat) (k n : Int) (s : ByteArray) (f : Fr) (B : Option Addr) (capB lo' hi' : Nat) (w : World) (hk : ClS w lo hi cs A cap) (hh : hi ≤ w.heap.size) (hnd : cs.length + wtCs cs ≤ 1048576)
    (hkb : KidsAt w lo' hi' f B capB) (hh' : hi' ≤ w.heap.size) (hf : Fits k n s) (hndb : nodes f ≤ 1048576) (ht : nv.Tab w) (ho : op.OpTab w) (hp : Lib.TabIs Tryd.prog w "internal/strconv.uint64pow10" .u64 Lib.pow10Tab) :
    Calls Tryd.prog 16 #[.slice A cs.length cap, .agg #[.int .i64 k, .int .i64 n, .string s, .slice B f.len capB]] w fun e w' => ∃ v, e = .returned v ∧ OwnI w' w.heap.size v (cdA cs k n s f) ∧ Below w.heap.size w w' := by
  have hb0 : Below w.heap.size w (w.alloc (.cells #[.int .i64 k, .int .i64 n, .string s, .slice B f.len capB] 29)) := (Below.refl _ _).alloc (Nat.le_refl _) _
  have C1 := progWith_any cs A cap lo hi k n s f B capB lo' hi' _ (hk.below hb0 hh) (Nat.le_trans hh hb0.size) hnd (hkb.below hb0 hh') (Nat.le_trans hh' hb0.size) hf hndb (ht.below hb0) (ho.below hb0)
  have HE : Hid (cdA cs k n s f = if (progV cs && plainV k n s f) = true then cdF cs s f.len (keyF f) else []) := Lib.hid rfl
  have HWC := Lib.hid hk.wf
  have HSZ := Lib.hid hf.2.2
  have HP := Lib.hid (Lib.tabBelow_of_tabIs hp)
  have H1 := Lib.hid C1
  have HB0 := Lib.hid hb0
  clear C1 hk hh hnd hkb hh' hf hndb hb0 ht ho hp
  go_enter Tryd.func16, Tryd.ntmps16
  go_wp2_with fail
  refine H1.out.mono ?_
  rintro e w2 ⟨hb, hr⟩
  have hbw := HB0.out.trans (hb.mono HB0.out.size)
  rcases hr with ⟨hok, R, l, c, m, s', A', len, cap', rfl⟩ | ⟨hok, R, M, A', cap', rfl, hnds, hpg⟩
  · have HV : Hid (cdA cs k n s f = []) := Lib.hid (by rw [HE.out, hok]; rfl)
    have HBW := Lib.hid ((hbw.alloc hbw.size (.cells #[.slice R l c, .map m] 73)).alloc (hbw.alloc hbw.size _).size (.cells #[.string s', .slice A' len cap'] 74))
    clear hb hbw hok
    go_wp2_with fail
    go_ret
    rw [HV.out]
    exact ⟨_, rfl, nilI HBW.out⟩
  · have HV : Hid (cdA cs k n s f = cdF cs s f.len (keyF f)) := Lib.hid (by rw [HE.out, hok]; rfl)
    rw [Bool.and_eq_true] at hok
    obtain ⟨hc20, hwk⟩ := prog_wf hok.1 HWC.out
    have hsf := plain_shape hok.2
    have hb3 : Below w2.heap.size w2 ((w2.alloc (.cells #[.slice R cs.length cs.length, .map (some M)] 73)).alloc (.cells #[.string s, .slice A' f.len cap'] 74)) := two_alloc w2 _ _
    have hq1 : Blk ((w2.alloc (.cells #[.slice R cs.length cs.length, .map (some M)] 73)).alloc (.cells #[.string s, .slice A' f.len cap'] 74)) w2.heap.size 73 #[.slice R cs.length cs.length, .map (some M)] := (Blk.new w2 _ _).alloc _
    have hq2 : Blk ((w2.alloc (.cells #[.slice R cs.length cs.length, .map (some M)] 73)).alloc (.cells #[.string s, .slice A' f.len cap'] 74)) (w2.heap.size + 1) 74 #[.string s, .slice A' f.len cap'] := by
      have h := Blk.new (w2.alloc (.cells #[.slice R cs.length cs.length, .map (some M)] 73)) 74 #[.string s, .slice A' f.len cap']
      simpa using h
    have hM : w.heap.size ≤ M + 1 := by
      have h0 := hpg.1
      have h1 := HB0.out.size
      omega
    have HPG := Lib.hid (hpg.below hb3)
    have HND := Lib.hid (hnds.keep (fun p _ hp => hb3.cell hp) (Nat.le_refl _) (Nat.le_refl _))
    have HB3 := Lib.hid (hbw.trans (hb3.mono hbw.size))
    have HS3 := Lib.hid hb3.size
    have HQ1 := Lib.hid hq1
    have HQ2 := Lib.hid hq2
    have HWK := Lib.hid hwk
    have HC20 := Lib.hid hc20
    have HSF := Lib.hid hsf
    have HM := Lib.hid hM
    clear hb hbw hok hb3 hq1 hq2 hwk hc20 hsf hpg hnds hM H1
    go_wp2_with fail
    generalize ((w2.alloc (.cells #[.slice R cs.length cs.length, .map (some M)] 73)).alloc (.cells #[.string s, .slice A' f.len cap'] 74)) = W3 at *
    have x0 := HQ1.out.cell 0
    have x1 := HQ1.out.cell 1
    have x2 := HQ2.out.cell 0
    have x3 := HQ2.out.cell 1
    simp only [List.getElem?_toArray, List.getElem?_cons_zero, List.getElem?_cons_succ] at x0 x1 x2 x3
    go_region_held3 (fun x => x.cell? ⟨w2.heap.size, 0, none⟩ = some (.slice R cs.length cs.length) ∧ x.cell? ⟨w2.heap.size, 1, none⟩ = some (.map (some M)) ∧ x.cell? ⟨w2.heap.size + 1, 0, none⟩ = some (.string s) ∧ x.cell? ⟨w2.heap.size + 1, 1, none⟩ = some (.slice A' f.len cap'))
      (first | exact ⟨z0, z1, z2, z3⟩ | exact ⟨y0, y1, y2, y3⟩ | exact ⟨x0, x1, x2, x3⟩)
      (first
        | (go_at_call 44
           refine (newKey_any cs R M _ _ (HPG.out.below (Below.refl _ W3).drew) HWK.out HC20.out (fun w1 hb => HP.out w1 (HB3.out.trans (((Below.refl _ W3).drew.trans hb).mono HB3.out.size)))).mono ?_
           rintro e w6 ⟨MF, nn, D, rfl, hm1, hm2, hn, hG, hIM, hK, hb6⟩
           have hd6 : Below W3.heap.size W3 w6 := (Below.refl W3.heap.size W3).drew.trans hb6
           have y0 := (HQ1.out.below hd6 HQ1.out.lt).cell 0
           have y1 := (HQ1.out.below hd6 HQ1.out.lt).cell 1
           have y2 := (HQ2.out.below hd6 HQ2.out.lt).cell 0
           have y3 := (HQ2.out.below hd6 HQ2.out.lt).cell 1
           simp only [List.getElem?_toArray, List.getElem?_cons_zero, List.getElem?_cons_succ] at y0 y1 y2 y3
           have hm3 : w.heap.size ≤ MF + 1 := by
             have h1 : W3.heap.size ≤ MF := hm1
             have h2 := HB3.out.size
             omega
           have C7 := cand_any cs R M _ w.heap.size MF nn D s f A' cap' _ _ w6 (HPG.out.below hd6) hG hK HWK.out HC20.out HM.out hm3 hn (HND.out.keep (fun p _ hp => hd6.cell (Nat.lt_of_lt_of_le hp HS3.out)) (Nat.le_refl _) (Nat.le_refl _)) (Nat.le_trans HS3.out hd6.size) HSZ.out HSF.out (fun w1 hb => HP.out w1 (HB3.out.trans ((hd6.trans (hb.mono hd6.size)).mono HB3.out.size)))
           have HC7 := Lib.hid C7
           have HD6 := Lib.hid (HB3.out.trans (hd6.mono HB3.out.size))
           have HQ6 := Lib.hid (HQ1.out.below hd6 HQ1.out.lt)
           have HQ7 := Lib.hid (HQ2.out.below hd6 HQ2.out.lt)
           clear hm1 hm2 hn hG hIM hK hb6 hd6 C7 hm3)
        | (go_at_call 45
           refine HC7.out.mono ?_
           rintro e w8 ⟨v, rfl, hoi, hb⟩
           have z0 := (HQ6.out.below hb HQ6.out.lt).cell 0
           have z1 := (HQ6.out.below hb HQ6.out.lt).cell 1
           have z2 := (HQ7.out.below hb HQ7.out.lt).cell 0
           have z3 := (HQ7.out.below hb HQ7.out.lt).cell 1
           simp only [List.getElem?_toArray, List.getElem?_cons_zero, List.getElem?_cons_succ] at z0 z1 z2 z3
           have HDONE := Lib.hid (And.intro hoi (HD6.out.trans (hb.mono HD6.out.size)))
           clear hoi hb))
    go_wp2_with fail
    go_ret
    rw [HV.out]
    exact ⟨v, rfl, HDONE.out⟩
end Go.Proofs.YtlapdnllncoomaaDoor
