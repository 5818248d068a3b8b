/- impl.unifier.unifyKids of structures that are alike and have arguments, walked from the contract of unifyParts. Condition: the nodes lie in memory and are well-formed. -/
import Derived.Test.YtkefpickpjjllaaDoorProg
import Derived.Test.YtkefpickpjjllaaDoorZmUT48
import Derived.Deep.RegionHeld3
import Derived.BigQuiet
import Derived.LaidEqlPtr
import Derived.StillTailTactics
import Derived.Maps.OwnSet
import Derived.Defers
import Derived.Laws.ResultCell
namespace Go.Proofs.YtkefpickpjjllaaDoor.Full
open Go.RowKit Go.Maps
open Go.ChangeMaps (setBlock)

theorem pdM_same {w w' : World} {db : Nat} {P : List (Addr × Addr)} (h : PdM w db P) (hh : ∀ x : Nat, w'.heap[x]? = w.heap[x]?) : PdM w' db P := by
  obtain ⟨es, clock, he, hr⟩ := h
  exact ⟨es, clock, (hh db).trans he, PdE.keep (fun p ⟨t, cs, h⟩ => ⟨t, cs, (hh p.block).trans h⟩) _ _ hr⟩
theorem shape_drop (d : Int) : ∀ (j : Nat) (f : Fr), shapeF f d = true → shapeF (f.drop j) d = true
  | 0, _, h => h
  | _ + 1, .nil, h => h
  | j + 1, .cons k n s kids rest, h => by
    rw [shapeF_cons, Bool.and_eq_true] at h
    exact shape_drop d j rest h.2
theorem shape_elem {f rest kids : Fr} {j : Nat} {k n : Int} {s : ByteArray} {d : Int} (hd : f.drop j = .cons k n s kids rest) (h : shapeF f d = true) : shapeT k n s kids d = true := by
  have h1 := shape_drop d j f h
  rw [hd, shapeF_cons, Bool.and_eq_true] at h1
  exact h1.1
set_option maxRecDepth 100000 in
set_option maxHeartbeats 8000000 in
/-- unifyKids of alike structures with arguments. -/
theorem ukT_long (N : Nat) (hN : UpT N) (lo hi ub mb db base : Nat) (σ : Sub) (P : List (Addr × Addr)) (tv : Value) (s s' : ByteArray) (f g : Fr) (b b' : Nat) (ca cb : Nat) (r : Option Sub) (w : World) (ho : UpO lo hi ub mb db base) (hU : UpS w lo hi ub mb db base σ P tv) (hbs : base ≤ w.heap.size)
    (hlb : lo ≤ b ∧ b < hi) (hlb' : lo ≤ b' ∧ b' < hi) (hf : (∃ t cur, Blk w b t cur ∧ cur.size = f.len) ∧ NdRow w lo hi f b 0) (hg : (∃ t cur, Blk w b' t cur ∧ cur.size = g.len) ∧ NdRow w lo hi g b' 0) (hsf : shapeF f 29 = true) (hsg : shapeF g 29 = true) (hca : f.len ≤ ca ∧ ca ≤ maxLen)
    (hss : (s.data.toList == s'.data.toList) = true) (hl : f.len = g.len) (hpos : 0 < f.len) (hrun : unRow (unT N) σ f g = some r) :
    Calls Tryd.prog 61 #[.pointer (some ⟨ub, 0, none⟩), .agg #[.string s, .slice (some ⟨b, 0, none⟩) f.len ca], .agg #[.string s', .slice (some ⟨b', 0, none⟩) g.len cb]] w fun e w' => UpRes w lo hi ub mb db base σ tv r e w' := by
  have HDN := Lib.hid (fun w' (hb : Below w.heap.size w w') => hU.done hb ho hbs)
  have HUP := Lib.hid (fun w' (hb : Below w.heap.size w w') => hU.below hb ho hbs)
  have hb0 := two_alloc w (.cells #[.string s, .slice (some ⟨b, 0, none⟩) f.len ca] 105) (.cells #[.string s', .slice (some ⟨b', 0, none⟩) g.len cb] 105)
  have q0 := (Blk.new w 105 #[.string s, .slice (some ⟨b, 0, none⟩) f.len ca]).alloc (.cells #[.string s', .slice (some ⟨b', 0, none⟩) g.len cb] 105)
  have q1 := Blk.new (w.alloc (.cells #[.string s, .slice (some ⟨b, 0, none⟩) f.len ca] 105)) 105 #[.string s', .slice (some ⟨b', 0, none⟩) g.len cb]
  rw [show (w.alloc (.cells #[.string s, .slice (some ⟨b, 0, none⟩) f.len ca] 105)).heap.size = w.heap.size + 1 by simp] at q1
  have C1 := alike_any s s' (some ⟨b, 0, none⟩) (some ⟨b', 0, none⟩) f.len g.len ca cb ((w.alloc (.cells #[.string s, .slice (some ⟨b, 0, none⟩) f.len ca] 105)).alloc (.cells #[.string s', .slice (some ⟨b', 0, none⟩) g.len cb] 105))
  rw [hss, show (f.len == g.len) = true by rw [hl]; simp] at C1
  have HTV : Hid (∀ x ∈ ownV tv, base ≤ x ∧ x < w.heap.size) := Lib.hid fun x hx => hU.1.2.1.lt x (by unfold ownV at hx; simpa using hx)
  have HSAME : Hid (suF (fin σ) f = suF (fin σ) g → r = some σ) := Lib.hid fun e => row_same hU.2.2.2.1 hsf hsg hrun e
  have HGOOD : Hid (∀ σ', r = some σ' → suF (fin σ') f = suF (fin σ') g) := Lib.hid fun σ' e => row_good hU.2.2.2.1 hsf hsg hl (e ▸ hrun)
  have HROWS : Hid (∀ w', (∀ x, x < hi → w'.heap[x]? = w.heap[x]?) → ((∃ t cur, Blk w' b t cur ∧ cur.size = f.len) ∧ NdRow w' lo hi f b 0) ∧ ((∃ t cur, Blk w' b' t cur ∧ cur.size = g.len) ∧ NdRow w' lo hi g b' 0)) := Lib.hid fun w' hk => by
    obtain ⟨⟨t, cur, h1, h2⟩, h3⟩ := hf
    obtain ⟨⟨t', cur', h1', h2'⟩, h3'⟩ := hg
    exact ⟨⟨⟨t, cur, h1.keep (hk b hlb.2), h2⟩, NdRow.keep (fun x _ hx => hk x hx) (Nat.le_refl _) (Nat.le_refl _) f b 0 (fun j _ => World.cell?_of_block (hk b hlb.2)) h3⟩, ⟨⟨t', cur', h1'.keep (hk b' hlb'.2), h2'⟩, NdRow.keep (fun x _ hx => hk x hx) (Nat.le_refl _) (Nat.le_refl _) g b' 0 (fun j _ => World.cell?_of_block (hk b' hlb'.2)) h3'⟩⟩
  have HO := Lib.hid ho
  have HSF := Lib.hid hsf
  have HSG := Lib.hid hsg
  have HRUN := Lib.hid hrun
  have HLB := Lib.hid (And.intro hlb hlb')
  have HBS := Lib.hid hbs
  have HHI : Hid (hi ≤ w.heap.size) := Lib.hid (by obtain ⟨o1, ⟨o2, o3, o4⟩, _, o8, _⟩ := ho; omega)
  have H1 := Lib.hid C1
  have HB0 := Lib.hid hb0
  have HQ0 := Lib.hid q0
  have HQ1 := Lib.hid q1
  obtain ⟨hca1, hca2⟩ := hca
  unfold maxLen at hca2
  rw [← hl] at H1 HB0 HQ0 HQ1 ⊢
  have HLL := Lib.hid hl
  clear C1 hb0 q0 q1 hU ho hbs hlb hlb' hf hg hsf hsg hss hl hrun
  generalize hn : f.len = len at *
  have HN := Lib.hid hn
  clear hn
  have t0 : ((len : Int) == 0) = false := by simp; omega
  have t1 : (0 : Int) < (len : Int) := by omega
  go_enter Tryd.func61, Tryd.ntmps61
  go_wp2_with fail
  refine H1.out.mono ?_
  rintro e w3 ⟨rfl, hb⟩
  have hb3 := HB0.out.trans (hb.mono HB0.out.size)
  have p0 := HQ0.out.below hb HQ0.out.lt
  have p1 := HQ1.out.below hb HQ1.out.lt
  have HB3 := Lib.hid hb3
  have HP0 := Lib.hid p0
  have HP1 := Lib.hid p1
  have c1 := p0.cell 1
  have d1 := p1.cell 1
  simp only [List.getElem?_toArray, List.getElem?_cons_zero, List.getElem?_cons_succ] at c1 d1
  clear hb hb3 p0 p1 HQ0 HQ1 HB0 H1
  have HS3 : Hid (∀ o, (w3.alloc o).cell? ⟨w.heap.size, 1, none⟩ = some (.slice (some ⟨b, 0, none⟩) len ca) ∧ (w3.alloc o).cell? ⟨w.heap.size + 1, 1, none⟩ = some (.slice (some ⟨b', 0, none⟩) len cb)) := Lib.hid fun o => ⟨(HP0.out.alloc o).cell 1, (HP1.out.alloc o).cell 1⟩
  go_wp2_with fail
  go_region_held3 (fun x => x.cell? ⟨w.heap.size, 1, none⟩ = some (.slice (some ⟨b, 0, none⟩) len ca) ∧ x.cell? ⟨w.heap.size + 1, 1, none⟩ = some (.slice (some ⟨b', 0, none⟩) len cb))
    (first | exact HS3.out _ | exact ⟨c1, d1⟩)
    (fail)
  have HB5 : Hid (Below w.heap.size w (w3.alloc (.cells #[.pointer (some ⟨b, 0, none⟩), .pointer (some ⟨b', 0, none⟩)] 137)).drew) := Lib.hid (HB3.out.alloc HB3.out.size _).drew
  have HP5 : Hid (Blk (w3.alloc (.cells #[.pointer (some ⟨b, 0, none⟩), .pointer (some ⟨b', 0, none⟩)] 137)).drew w.heap.size 105 #[.string s, .slice (some ⟨b, 0, none⟩) len ca]) := Lib.hid (HP0.out.alloc _)
  have HQ5 : Hid (Blk (w3.alloc (.cells #[.pointer (some ⟨b, 0, none⟩), .pointer (some ⟨b', 0, none⟩)] 137)).drew (w.heap.size + 1) 105 #[.string s', .slice (some ⟨b', 0, none⟩) len cb]) := Lib.hid (HP1.out.alloc _)
  have HK5 : Hid (Blk (w3.alloc (.cells #[.pointer (some ⟨b, 0, none⟩), .pointer (some ⟨b', 0, none⟩)] 137)).drew w3.heap.size 137 #[.pointer (some ⟨b, 0, none⟩), .pointer (some ⟨b', 0, none⟩)]) := Lib.hid (Blk.new w3 _ _)
  generalize (w3.alloc (.cells #[.pointer (some ⟨b, 0, none⟩), .pointer (some ⟨b', 0, none⟩)] 137)).drew = w5 at *
  have hw3 : w.heap.size + 1 < w3.heap.size := HP1.out.lt
  have HW3 := Lib.hid hw3
  clear c1 d1 HS3 HP0 HP1 hw3
  have hU5 := HUP.out w5 HB5.out
  have HU5 := Lib.hid hU5
  have HR5 := Lib.hid (HROWS.out w5 (fun x hx => HB5.out.block x (Nat.lt_of_lt_of_le hx HHI.out)))
  obtain ⟨⟨hqu, _, _⟩, hP5, hD5, hk5, _⟩ := hU5
  have x2 := hqu.cell 2
  have y0 := HK5.out.cell 0
  have y1 := HK5.out.cell 1
  simp only [List.getElem?_toArray, List.getElem?_cons_zero, List.getElem?_cons_succ] at x2 y0 y1
  obtain ⟨j0, hj0, hjz⟩ := Option.map_eq_some_iff.1 (show (Tryd.prog.info? 53).map (fun i => i.size) = some 1 by kernel_rfl)
  have HLP : Hid (Lies w5 ⟨b, 0, none⟩ ∧ Lies w5 ⟨b', 0, none⟩) := Lib.hid (by
    obtain ⟨⟨⟨t, cur, h, _⟩, _⟩, ⟨t', cur', h', _⟩, _⟩ := HR5.out
    exact ⟨⟨t, cur, h⟩, ⟨t', cur', h'⟩⟩)
  have HDONE : Hid (suF (fin σ) f = suF (fin σ) g → ∀ n, UpRes w lo hi ub mb db base σ tv r (.returned (.bool true)) (w5.drewN n)) := Lib.hid fun e n => by
    rw [HSAME.out e]; exact HDN.out (w5.drewN n) (HB5.out.trans ⟨rfl, rfl, rfl, Nat.le_refl _, fun _ _ => rfl⟩)
  have HPD := Lib.hid hP5
  have HDD := Lib.hid hD5
  clear hqu hP5 hD5 hk5
  by_cases hbb : b = b'
  · subst hbb
    have heq : ∀ w1 : World, (binOp .eql 135 (.pointer (some ⟨b, 0, none⟩)) (.pointer (some ⟨b, 0, none⟩))).run Tryd.prog w1 = .ok (.bool true) w1 := fun w1 => run_eql_ptr_same w1 _ Tryd.underlying135 hj0
    have hfg : f = g := Go.Proofs.YtkefpickpjjllaaDoor.NdRow.det f g b 0 29 29 HSF.out HSG.out (HN.out.trans HLL.out) (HR5.out.1.2.plain) (HR5.out.2.2.plain)
    have HF := Lib.hid (HDONE.out (by rw [hfg]))
    clear hfg HDONE HDN HUP HU5 HR5 HROWS HPD HDD
    go_wp2_with fail
    go_quiet (fail)
    go_wp2_with fail
    go_ret
    exact HF.out _
  · have hne : (⟨b, 0, none⟩ : Addr) ≠ ⟨b', 0, none⟩ := fun e => hbb (by injection e)
    have heq : ∀ n, (binOp .eql 135 (.pointer (some ⟨b, 0, none⟩)) (.pointer (some ⟨b', 0, none⟩))).run Tryd.prog (w5.drewN n) = .ok (.bool false) (w5.drewN n) := fun n => by
      obtain ⟨⟨t, cur, h⟩, ⟨t', cur', h'⟩⟩ := HLP.out
      exact run_eql_ptr_other (w5.drewN n) Tryd.underlying135 hj0 (by omega) hne h h'
    have hlk : ∀ n, (Instr.lookup 80 (.map (some db)) (.agg #[.pointer (some ⟨b, 0, none⟩), .pointer (some ⟨b', 0, none⟩)]) false).run Tryd.prog (w5.drewN n) = .ok (.bool (decide ((⟨b, 0, none⟩, ⟨b', 0, none⟩) ∈ P))) (w5.drewN n) := fun n => PdM.look (w := w5.drewN n) (pdM_same HPD.out fun _ => rfl) HLP.out.1 HLP.out.2
    have HNE := Lib.hid hne
    clear hne hbb
    by_cases hm : ((⟨b, 0, none⟩, ⟨b', 0, none⟩) : Addr × Addr) ∈ P
    · rw [decide_eq_true hm] at hlk
      have hsf : suF (fin σ) f = suF (fin σ) g := HDD.out.hit hm (shapeF_mono f 29 30 (by decide) HSF.out) (shapeF_mono g 29 30 (by decide) HSG.out) ⟨none_behind (HN.out.symm ▸ HR5.out.1.1), HR5.out.1.2.plain⟩ ⟨none_behind HR5.out.2.1, HR5.out.2.2.plain⟩
      have HF := Lib.hid (HDONE.out hsf)
      clear hm hsf HDONE HDN HUP HU5 HR5 HROWS HPD HDD
      go_wp2_with fail
      go_quiet (fail)
      go_wp2_with fail
      go_ret
      exact HF.out _
    · rw [decide_eq_false hm] at hlk
      have HM := Lib.hid hm
      clear hm HDONE HDN
      go_wp2_with fail
      go_quiet (fail)
      go_wp2_with fail
      have HB56 : Hid (Below w5.heap.size w5 (w5.drewN nq)) := Lib.hid ⟨rfl, rfl, rfl, Nat.le_refl _, fun _ _ => rfl⟩
      generalize w5.drewN nq = w6 at *
      have HU6 := Lib.hid (HUP.out w6 (HB5.out.trans (HB56.out.mono HB5.out.size)))
      have HB6 : Hid (Below w.heap.size w w6) := Lib.hid (HB5.out.trans (HB56.out.mono HB5.out.size))
      have HP6 := Lib.hid (HP5.out.below HB56.out HP5.out.lt)
      have HQ6 := Lib.hid (HQ5.out.below HB56.out HQ5.out.lt)
      have HK6 := Lib.hid (HK5.out.below HB56.out HK5.out.lt)
      have HNO : Hid (∀ x, base ≤ x → x ∉ ownV tv → x ∉ ub :: mb :: db :: ownV tv) := Lib.hid fun x hx hn h => by
        obtain ⟨_, _, _, o8, o9, o10⟩ := HO.out
        rcases List.mem_cons.1 h with h | h
        · omega
        · rcases List.mem_cons.1 h with h | h
          · omega
          · rcases List.mem_cons.1 h with h | h
            · omega
            · exact hn h
      have HNEW : Hid (∀ x, w.heap.size ≤ x → x ∉ ub :: mb :: db :: ownV tv) := Lib.hid fun x hx => HNO.out x (Nat.le_trans HBS.out hx) fun h => by have := (HTV.out x h).2; omega
      have HHL : Hid (∀ x, x < hi → x ∉ ub :: mb :: db :: ownV tv) := Lib.hid fun x hx h => by
        obtain ⟨_, ⟨o2, o3, o4⟩, _, o8, _⟩ := HO.out
        rcases List.mem_cons.1 h with h | h
        · omega
        · rcases List.mem_cons.1 h with h | h
          · omega
          · rcases List.mem_cons.1 h with h | h
            · omega
            · have := (HTV.out x h).1; omega
      have hb6s : w.heap.size ≤ w6.heap.size := HB6.out.size
      have HS6 := Lib.hid hb6s
      clear HU5 HR5 HPD HDD HLP heq hlk x2 y0 y1 HP5 HQ5 HK5 HUP HB5 HB56 HB3 hb6s
      go_loopw [40] (fun i wr => ∃ (j : Nat) (σ2 : Sub) (P2 : List (Addr × Addr)) (tv2 : Value), j ≤ len ∧ i = .int .i64 j ∧ unRow (unT N) σ2 (f.drop j) (g.drop j) = some r ∧ UpS wr lo hi ub mb db base σ2 P2 tv2 ∧ (∃ l, σ2 = l ++ σ) ∧ Wrote (ub :: mb :: db :: ownV tv) w6 wr ∧ (∀ x ∈ ownV tv2, x ∈ ownV tv ∨ w6.heap.size ≤ x)) (fun i _ => len - (intOf i).toNat)
      case atStart => exact ⟨0, σ, P, tv, Nat.zero_le _, rfl, HRUN.out, HU6.out, ⟨[], rfl⟩, .refl _ _, fun _ hx => .inl hx⟩
      case round =>
        obtain ⟨j, σ2, P2, tv2, hj, rfl, hrow, hU2, hext, hwr, hown⟩ := hrel
        have p0 := hwr.blk HP6.out (HNEW.out _ (Nat.le_refl _))
        have p1 := hwr.blk HQ6.out (HNEW.out _ (Nat.le_succ _))
        have pk := hwr.blk HK6.out (HNEW.out _ (by have := HW3.out; omega))
        have hrows := HROWS.out wr (fun x hx => (hwr.block x (by have := HHI.out; have := HS6.out; omega) (HHL.out x hx)).trans (HB6.out.block x (by have := HHI.out; omega)))
        have c1 := p0.cell 1
        have d1 := p1.cell 1
        have y0 := pk.cell 0
        have y1 := pk.cell 1
        have x2 := hU2.1.1.cell 2
        simp only [List.getElem?_toArray, List.getElem?_cons_zero, List.getElem?_cons_succ] at c1 d1 x2 y0 y1
        have HWR := Lib.hid hwr
        have HOWN := Lib.hid hown
        have HEXT := Lib.hid hext
        have HU2 := Lib.hid hU2
        have HRR := Lib.hid hrows
        have hlow : hi ≤ wr.heap.size := by have := HHI.out; have := HS6.out; have := hwr.size; omega
        by_cases hlt : j < len
        · obtain ⟨k1, n1, s1, kids1, hd1⟩ := Fr.drop_cons j f (by rw [HN.out]; exact hlt)
          obtain ⟨k2, n2, s2, kids2, hd2⟩ := Fr.drop_cons j g (by rw [← HLL.out]; exact hlt)
          obtain ⟨v1, e1, hv1⟩ := NdRow.elem hrows.1.2 hd1
          obtain ⟨v2, e2, hv2⟩ := NdRow.elem hrows.2.2 hd2
          rw [Nat.zero_add] at e1 e2
          obtain ⟨o, hun, hno, hyes⟩ := unRow_drop hd1 hd2 hrow
          have hsh1 : shapeT k1 n1 s1 kids1 30 = true := shapeT_mono (show (29 : Int) ≤ 30 by decide) (shape_elem hd1 HSF.out)
          have hsh2 : shapeT k2 n2 s2 kids2 30 = true := shapeT_mono (show (29 : Int) ≤ 30 by decide) (shape_elem hd2 HSG.out)
          have C2 := fun (w4 : World) (h4 : Below wr.heap.size wr w4) => hN lo hi ub mb db base σ2 P2 tv2 ⟨k1, n1, s1, kids1⟩ ⟨k2, n2, s2, kids2⟩ v1 v2 o w4 HO.out (HU2.out.below h4 HO.out (by have := HBS.out; have := HS6.out; have := HWR.out.size; omega)) (by have := HBS.out; have := HS6.out; have := HWR.out.size; have := h4.size; omega) (hv1.keep (fun p _ hp => h4.block p (by omega)) (Nat.le_refl _) (Nat.le_refl _)) (hv2.keep (fun p _ hp => h4.block p (by omega)) (Nat.le_refl _) (Nat.le_refl _)) hsh1 hsh2 hun
          have H2 := Lib.hid C2
          have HNOO := Lib.hid hno
          have HYES := Lib.hid hyes
          obtain ⟨T1, z1, rfl⟩ := hv1.iface
          obtain ⟨T2, z2, rfl⟩ := hv2.iface
          clear C2 hv1 hv2 hno hyes hun hrow hU2 hwr hown hext hrows p0 p1 pk hd1 hd2 hsh1 hsh2
          go_wp2_with fail
          go_still_tail 11, (by kernel_rfl)
          change wpList _ _ _ _ _ wr.drew
          have hbd : Below wr.heap.size wr wr.drew := (Below.refl _ _).drew
          generalize wr.drew = w4 at hbd ⊢
          have HD := Lib.hid hbd
          clear hbd c1 d1 y0 y1 x2 e1 e2
          go_wp2_with fail
          refine (H2.out w4 HD.out).mono ?_
          rintro e w7 ⟨σ3, P3, tv3, rfl, hU3, hor, ⟨l3, hl3⟩, hw7, hown3⟩
          have hbs4 : wr.heap.size ≤ w4.heap.size := HD.out.size
          have hw47 : Wrote (ub :: mb :: db :: ownV tv2) wr w7 := (Wrote.of_below HD.out _).trans hw7
          have hsub : ∀ x ∈ ub :: mb :: db :: ownV tv2, x ∈ ub :: mb :: db :: ownV tv ∨ w6.heap.size ≤ x := fun x hx => by
            rcases List.mem_cons.1 hx with h | h
            · exact .inl (by simp [h])
            · rcases List.mem_cons.1 h with h | h
              · exact .inl (by simp [h])
              · rcases List.mem_cons.1 h with h | h
                · exact .inl (by simp [h])
                · rcases HOWN.out x h with h | h
                  · exact .inl (by simp [h])
                  · exact .inr h
          have hwr7 : Wrote (ub :: mb :: db :: ownV tv) w6 w7 := HWR.out.more_new hw47 hsub
          have hown7 : ∀ x ∈ ownV tv3, x ∈ ownV tv ∨ w6.heap.size ≤ x := fun x hx => by
            rcases hown3 x hx with h | h
            · exact HOWN.out x h
            · exact .inr (by have := HWR.out.size; omega)
          have hext7 : ∃ l, σ3 = l ++ σ := by
            obtain ⟨l2, e2⟩ := HEXT.out
            exact ⟨l3 ++ l2, by rw [hl3, e2, List.append_assoc]⟩
          have HW7 := Lib.hid hwr7
          have HOW7 := Lib.hid hown7
          have HEX7 := Lib.hid hext7
          have HU3 := Lib.hid hU3
          cases o with
          | none =>
            have hr : r = none := HNOO.out rfl
            have HF : Hid (UpRes w lo hi ub mb db base σ tv r (.returned (.bool false)) w7) := Lib.hid (by
              rw [hr]
              exact ⟨σ3, P3, tv3, rfl, HU3.out, .inl rfl, HEX7.out, (Wrote.of_below HB6.out _).trans HW7.out, fun x hx => (HOW7.out x hx).imp id (Nat.le_trans HB6.out.size)⟩)
            clear hr hor hl3 hw7 hown3 hw47 hsub hwr7 hown7 hext7 hU3 hbs4
            go_wp2_with fail
            go_ret
            exact HF.out
          | some σ4 =>
            obtain rfl : σ4 = σ3 := by
              rcases hor with h | h
              · cases h
              · injection h
            have HRW := Lib.hid (HYES.out σ4 rfl)
            clear hor hl3 hw7 hown3 hw47 hsub hwr7 hown7 hext7 hU3 hbs4
            go_wp2_with fail
            go_roundw
            case rel => exact ⟨j + 1, σ4, P3, tv3, by omega, by go_num, HRW.out, HU3.out, HEX7.out, HW7.out, HOW7.out⟩
            case measure => simp [intOf]; omega
        · obtain rfl : j = len := by omega
          have hr : r = some σ2 := by
            have e1 : f.drop j = .nil := by rw [← HN.out]; exact Fr.drop_len f
            have e2 : g.drop j = .nil := by
              have := Fr.drop_len g
              rwa [← HLL.out] at this
            rw [e1, e2] at hrow
            rw [unRow] at hrow
            · injection hrow with h
              exact h.symm
            · intro _ _ _ _ _ _ _ _ _ _ h _
              cases h
          have hsf := HGOOD.out σ2 hr
          have htv2 : ∀ x ∈ ownV tv2, base ≤ x := fun x hx => (hU2.1.2.1.lt x (by unfold ownV at hx; simpa using hx)).1
          have hwd : Below wr.heap.size wr wr.drew := (Below.refl _ _).drew
          have hbs2 : base ≤ wr.heap.size := by have := HBS.out; have := HS6.out; have := HWR.out.size; omega
          have hU2d := hU2.below hwd HO.out hbs2
          have hln : f.len = g.len := HN.out.trans HLL.out
          have hdq : DnP wr.drew lo hi σ2 [(⟨b, 0, none⟩, ⟨b', 0, none⟩)] := DnP.add (DnP.nil _ _ _ _) HLB.out.1 HLB.out.2 hln (shapeF_mono f 29 30 (by decide) HSF.out) (shapeF_mono g 29 30 (by decide) HSG.out)
            ⟨none_behind (w := wr.drew) (HN.out.symm ▸ HRR.out.1.1), (NdRow.keep (w := wr) (w' := wr.drew) (fun _ _ _ => rfl) (Nat.le_refl _) (Nat.le_refl _) f b 0 (fun _ _ => rfl) HRR.out.1.2).plain⟩ ⟨none_behind (w := wr.drew) HRR.out.2.1, (NdRow.keep (w := wr) (w' := wr.drew) (fun _ _ _ => rfl) (Nat.le_refl _) (Nat.le_refl _) g b' 0 (fun _ _ => rfl) HRR.out.2.2).plain⟩ hsf
          have hlie : Lies wr.drew ⟨b, 0, none⟩ ∧ Lies wr.drew ⟨b', 0, none⟩ := by
            obtain ⟨⟨⟨t, cur, h, _⟩, _⟩, ⟨t', cur', h', _⟩, _⟩ := HRR.out
            exact ⟨⟨t, cur, h⟩, ⟨t', cur', h'⟩⟩
          obtain ⟨ob, P7, hrun, hob, hd7⟩ : ∃ ob P7, (Instr.mapUpdate 80 (.map (some db)) (kd ⟨b, 0, none⟩ ⟨b', 0, none⟩) (.bool true)).run Tryd.prog wr.drew = .ok () (setBlock wr.drew db ob) ∧ (∃ es clock, ob = .map es clock ∧ PdE wr.drew es.toList P7) ∧ DnP wr.drew lo hi σ2 P7 := by
            by_cases hm : ((⟨b, 0, none⟩, ⟨b', 0, none⟩) : Addr × Addr) ∈ P2
            · obtain ⟨ob, h1, h2⟩ := PdM.again hU2d.2.1 hlie.1 hlie.2 hm
              exact ⟨ob, P2, h1, h2, hU2d.2.2.1⟩
            · obtain ⟨ob, h1, h2⟩ := PdM.put hU2d.2.1 hlie.1 hlie.2 hm
              refine ⟨ob, _, h1, h2, fun x hx => ?_⟩
              rcases List.mem_append.1 hx with h | h
              · exact hU2d.2.2.1 x h
              · exact hdq x h
          obtain ⟨hU7, hW7⟩ := up_done HO.out hU2d rfl hob hd7 htv2
          have hK7 := hW7.blk (show Blk wr.drew w3.heap.size 137 #[.pointer (some ⟨b, 0, none⟩), .pointer (some ⟨b', 0, none⟩)] from pk) (by obtain ⟨_, _, _, _, _, o10⟩ := HO.out; have := HBS.out; have := HW3.out; simp; omega)
          have x2' := hU7.1.1.cell 2
          have y0' := hK7.cell 0
          have y1' := hK7.cell 1
          simp only [List.getElem?_toArray, List.getElem?_cons_zero, List.getElem?_cons_succ] at x2' y0' y1'
          have hwr7 : Wrote (ub :: mb :: db :: ownV tv) w6 (setBlock wr.drew db ob) := (HWR.out.trans (.of_below hwd _)).trans (hW7.more fun x hx => by simp at hx; simp [hx])
          have HF : Hid (∀ n, UpRes w lo hi ub mb db base σ tv r (.returned (.bool true)) ((setBlock wr.drew db ob).drewN n)) := Lib.hid fun n => by
            rw [hr]
            have hdn : Below (setBlock wr.drew db ob).heap.size (setBlock wr.drew db ob) ((setBlock wr.drew db ob).drewN n) := ⟨rfl, rfl, rfl, Nat.le_refl _, fun _ _ => rfl⟩
            have hs7 : base ≤ (setBlock wr.drew db ob).heap.size := Nat.le_trans hbs2 hW7.size
            exact ⟨σ2, P7, tv2, rfl, hU7.below hdn HO.out hs7, .inr rfl, HEXT.out, ((Wrote.of_below HB6.out _).trans hwr7).trans (.of_below hdn _), fun x hx => (HOWN.out x hx).imp id (Nat.le_trans HB6.out.size)⟩
          unfold kd at hrun
          clear hr hsf htv2 hU2d hdq hlie hob hd7 hU7 hW7 hK7 hwr7 hrow hU2 hwr hown hext hrows p0 p1 pk hln
          go_wp2_with fail
          go_region_held3 (fun x => x.cell? ⟨ub, 2, none⟩ = some (.map (some db)) ∧ x.cell? ⟨w3.heap.size, 0, none⟩ = some (.pointer (some ⟨b, 0, none⟩)) ∧ x.cell? ⟨w3.heap.size, 1, none⟩ = some (.pointer (some ⟨b', 0, none⟩)))
            (first | exact ⟨x2, y0, y1⟩ | exact ⟨x2', y0', y1'⟩)
            (fail)
          go_wp2_with fail
          go_ret
          exact HF.out 0
end Go.Proofs.YtkefpickpjjllaaDoor.Full

/- impl.unifier.unifyKids and unifyParts: their contracts at every depth. No condition. -/
namespace Go.Proofs.YtkefpickpjjllaaDoor.Full
open Go.RowKit Go.Maps

theorem ukT_of (N : Nat) (hN : UpT N) : UkT N := by
  intro lo hi ub mb db base σ P tv s s' f g A B ca cb r w ho hU hbs hf hg hsf hsg hyes hno
  by_cases hz : (s.data.toList == s'.data.toList && f.len == g.len) = true ∧ 0 < f.len
  · obtain ⟨hal, hpos⟩ := hz
    have hrun := hyes hal
    rw [Bool.and_eq_true] at hal
    have hl : f.len = g.len := by simpa using hal.2
    obtain ⟨h1, h2, h3⟩ := hf
    obtain ⟨k1, k2, k3⟩ := hg
    obtain ⟨b, rfl, hb1, hb2, hrow⟩ := h3 hpos
    obtain ⟨b', rfl, hb1', hb2', hrow'⟩ := k3 (by omega)
    exact ukT_long N hN lo hi ub mb db base σ P tv s s' f g b b' ca cb r w ho hU hbs ⟨hb1, hb2⟩ ⟨hb1', hb2'⟩ hrow hrow' hsf hsg ⟨h1, h2⟩ hal.1 hl hpos hrun
  · exact ukT_short N lo hi ub mb db base σ P tv s s' f g A B ca cb r w ho hU hbs hyes hno fun h => by
      have : ¬ 0 < f.len := fun h2 => hz ⟨h, h2⟩
      omega
theorem upT_all : ∀ N, UpT N
  | 0 => fun _ _ _ _ _ _ _ _ _ _ _ _ _ _ _ _ _ _ _ _ _ _ h => by cases h
  | N + 1 => upT_of N (ukT_of N (upT_all N))
/-- unifyParts. -/
theorem unifyParts_any (lo hi ub mb db base : Nat) (σ : Sub) (P : List (Addr × Addr)) (tv : Value) (a b : Nd) (va vb : Value) (r : Option Sub) (w : World) (ho : UpO lo hi ub mb db base) (hU : UpS w lo hi ub mb db base σ P tv) (hbs : base ≤ w.heap.size)
    (ha : NdV w lo hi a.k a.n a.s a.f va) (hb : NdV w lo hi b.k b.n b.s b.f vb) (hsa : shapeT a.k a.n a.s a.f 30 = true) (hsb : shapeT b.k b.n b.s b.f 30 = true) (h : Un σ a b r) :
    Calls Tryd.prog 42 #[.pointer (some ⟨ub, 0, none⟩), va, vb] w fun e w' => UpRes w lo hi ub mb db base σ tv r e w' := by
  obtain ⟨N, hN⟩ := h
  exact upT_all N lo hi ub mb db base σ P tv a b va vb r w ho hU hbs ha hb hsa hsb hN
end Go.Proofs.YtkefpickpjjllaaDoor.Full

/- impl.unifier.takeBack and takeBackTo. Condition: the unifier is in order. -/
namespace Go.Proofs.YtkefpickpjjllaaDoor.Full
open Go.RowKit Go.Maps
open Go.ChangeMaps (setBlock heap_setBlock_same heap_setBlock_other)

theorem UpS.wrote {w w' : World} {lo hi ub mb db base : Nat} {σ : Sub} {P : List (Addr × Addr)} {tv : Value} {L : List Nat} (h : UpS w lo hi ub mb db base σ P tv) (hw : Wrote L w w') (ho : UpO lo hi ub mb db base) (hbs : base ≤ w.heap.size) (hL : ∀ x ∈ L, hi ≤ x ∧ x ≠ ub ∧ x ≠ mb ∧ x ≠ db ∧ x ∉ ownV tv) : UpS w' lo hi ub mb db base σ P tv := by
  obtain ⟨⟨hq, htr, hmp⟩, hP, hD, h1, h2⟩ := h
  obtain ⟨o1, ⟨o2, o3, o4⟩, ⟨o5, o6, o7⟩, o8, o9, o10⟩ := ho
  have hn : ∀ x, x = ub ∨ x = mb ∨ x = db ∨ x < hi → x ∉ L := fun x hx hl => by
    have := hL x hl
    omega
  have htv := htr.lt
  have hblk : ∀ x, x < hi → w'.heap[x]? = w.heap[x]? := fun x hx => hw.block x (by omega) (hn x (by omega))
  have hk : ∀ x ∈ ownV tv, w'.heap[x]? = w.heap[x]? := fun x hx => hw.block x (htv x (by unfold ownV at hx; simpa using hx)).2 fun hl => (hL x hl).2.2.2.2 hx
  refine ⟨⟨hw.blk hq (hn ub (by omega)), ⟨htr.1, ?_⟩, hmp.wrote hw (hn mb (by omega)) (by omega) (fun x hx => (hL x hx).1)⟩, ?_, hD.keep fun p _ hp => World.cell?_of_block (hblk p.block hp), h1, h2⟩
  · rcases htr.2 with h | ⟨g, cap, cur, rfl, hg, hh, hr⟩
    · exact .inl h
    · exact .inr ⟨g, cap, cur, rfl, hg, (hk g (by simp [ownV, Value.ownBlock])).trans hh, hr⟩
  · obtain ⟨es, clock, he, hr⟩ := hP
    refine ⟨es, clock, (hw.block db (by omega) (hn db (by omega))).trans he, pdE_keep _ _ (fun x hx => ?_) hr⟩
    obtain ⟨f, g, b, b', e, k1, k2, _⟩ := hD x hx
    subst e
    exact ⟨fun ⟨t, cs, h⟩ => ⟨t, cs, (hblk b k1.2).trans h⟩, fun ⟨t, cs, h⟩ => ⟨t, cs, (hblk b' k2.2).trans h⟩⟩

section
variable {Pr : Program}
/-- 'clear(m)' of a map. -/
theorem run_clear {w : World} {t k e : TypeId} (ty : TypeId) (ht : Pr.underlying t = some (.map k e)) {b : Nat} {es : Array MapEntry} {clock : Nat} (hb : w.heap[b]? = some (.map es clock)) :
    (Builtin.clear_ #[t] ty #[.map (some b)]).run Pr w = .ok (.tuple #[]) (setBlock w b (.map #[] clock)) := by
  have hg : (getObj b).run Pr w = .ok (.map es clock) w := MapKept.run_getObj_map hb
  have hs : (setObj b (.map #[] clock)).run Pr w = .ok () (setBlock w b (.map #[] clock)) := MapKept.run_setObj_map _ hb
  simp [Builtin.clear_, run_underlying ht, hg, hs]
end

set_option maxRecDepth 100000 in
/-- takeBack where the bindings are to be kept. -/
theorem takeBack_keep (ub H : Nat) (u : FrameMode) (w : World) (hc : w.cell? ⟨H, 0, none⟩ = some (.bool true)) :
    CallsD Tryd.prog 41 #[.pointer (some ⟨ub, 0, none⟩), .int .i64 0, .pointer (some ⟨H, 0, none⟩)] u w fun e u' w' => u' = u ∧ (e = .returned (.tuple #[]) ∧ w' = w) := by
  go_enter_d Tryd.func41, Tryd.ntmps41
  go_wp2_with fail
  go_end0
  exact ⟨rfl, rfl⟩

theorem turned_wrote {w w' : World} {b : Nat} (h : w.mapTurned w' b) : Wrote [b] w w' := by
  have hg := h.grown
  exact ⟨hg.os, hg.tape, hg.output, hg.size, fun x hx hn => hg.block x hx fun e => hn (by injection e with e; simp [e])⟩
set_option maxRecDepth 100000 in
set_option maxHeartbeats 4000000 in
/-- takeBackTo where all bindings are to be taken back. -/
theorem takeBackTo_all (lo hi ub mb db base : Nat) (σ : Sub) (P : List (Addr × Addr)) (tv : Value) (w : World) (ho : UpO lo hi ub mb db base) (hU : UpS w lo hi ub mb db base σ P tv) (hbs : base ≤ w.heap.size) :
    Calls Tryd.prog 58 #[.pointer (some ⟨ub, 0, none⟩), .int .i64 0] w fun e w' => e = .returned (.tuple #[]) ∧ Wrote [ub, mb, db] w w' := by
  obtain ⟨⟨hq, htr, hmp⟩, hP, hD, h1, h2⟩ := hU
  have HO := Lib.hid ho
  have hlen : σ.length ≤ 26 := by
    have := nodup_len 26 (keysS σ) h1.nodup h2.keys
    simpa [keysS] using this
  obtain ⟨D0, hD0, _⟩ := hmp
  obtain ⟨es, clock, hdb, _⟩ := hP
  have HDB := Lib.hid hdb
  have HD0 := Lib.hid hD0
  have HQ := Lib.hid hq
  have HTR := Lib.hid htr
  have HRNG : Hid (∀ j, j < (trl σ).length → 0 ≤ (trl σ).getD j 0 ∧ (trl σ).getD j 0 ≤ 25) := Lib.hid fun j hj => by
    have hmem : (trl σ).getD j 0 ∈ trl σ := by rw [List.getD_eq_getElem?_getD, List.getElem?_eq_getElem hj]; simp
    have := h2.keys ((trl σ).getD j 0) (by unfold trl at hmem; rw [List.mem_reverse] at hmem; exact hmem)
    omega
  have HTVL : Hid (∀ x ∈ ownV tv, base ≤ x ∧ x < w.heap.size) := Lib.hid fun x hx => htr.lt x (by unfold ownV at hx; simpa using hx)
  have HBS := Lib.hid hbs
  have hql := hq.lt
  have c0 := hq.cell 0
  have c1 := hq.cell 1
  have c2 := hq.cell 2
  have f1 := hq.frozen 1
  simp only [List.getElem?_toArray, List.getElem?_cons_zero, List.getElem?_cons_succ] at c0 c1 c2
  have hln : (trl σ).length ≤ 26 := by rw [trl_len]; exact hlen
  generalize trl σ = T at *
  clear hq hD h1 h2 hD0 hdb ho hbs hlen
  rcases htr.2 with ⟨rfl, hz⟩ | ⟨g, cap, cur, rfl, hg, hh, hr1, hr2, hr3⟩
  · have HZ := Lib.hid hz
    clear htr hz
    go_enter Tryd.func58, Tryd.ntmps58
    go_wp2_with fail
    go_loopw [13] (fun i wr => ∃ (j nm : Nat) (D : DataW Value), j ≤ 0 ∧ i = .int .i64 (j : Int) ∧ wr.ownsMap Tryd.prog 67 heldR mb nm D ∧ Wrote [mb] w wr) (fun i _ => 0 - (intOf i).toNat)
    case atStart => exact ⟨0, _, D0, Nat.zero_le _, rfl, HD0.out, .refl _ _⟩
    case round =>
      obtain ⟨j, nm, D, hj, rfl, hown, hw⟩ := hrel
      obtain ⟨_, ⟨o2, o3, o4⟩, ⟨o5, o6, o7⟩, o8, o9, o10⟩ := HO.out
      have hqw := hw.blk HQ.out (by simp; omega)
      have c0 := hqw.cell 0
      have c1 := hqw.cell 1
      have c2 := hqw.cell 2
      have f1 := hqw.frozen 1
      simp only [List.getElem?_toArray, List.getElem?_cons_zero, List.getElem?_cons_succ] at c0 c1 c2
      have HOWN := Lib.hid hown
      have HW := Lib.hid hw
      have HDW : Hid (∀ v, (wr.setCell ⟨ub, 1, none⟩ v).heap[db]? = some (.map es clock)) := Lib.hid fun v => by
        rw [heap_setCell_other _ _ _ _ (by show db ≠ ub; omega)]
        exact (hw.block db (by have := HBS.out; omega) (by simp; omega)).trans HDB.out
      have HFIN : Hid (∀ v, Wrote [ub, mb, db] w (setBlock (wr.setCell ⟨ub, 1, none⟩ v) db (.map #[] clock))) := Lib.hid fun v => by
        have h1 : Wrote [ub, mb, db] w (wr.setCell ⟨ub, 1, none⟩ v) := (hw.more fun x hx => by simp at hx; simp [hx]).set_ (.inl (by simp)) v
        have hd := HDW.out v
        refine h1.trans ⟨rfl, rfl, rfl, by simp [setBlock], fun x _ hn => ?_⟩
        exact heap_setBlock_other hd _ (fun e => hn (by simp [e]))
      by_cases hlt : j < 0
      · omega

      · obtain rfl : j = 0 := by omega
        clear hown hw hqw
        have hclr : ∀ ty v, (Builtin.clear_ #[80] ty #[.map (some db)]).run Tryd.prog (wr.setCell ⟨ub, 1, none⟩ v) = .ok (.tuple #[]) (setBlock (wr.setCell ⟨ub, 1, none⟩ v) db (.map #[] clock)) := fun ty v => run_clear ty Tryd.underlying80 (HDW.out v)
        go_wp2_with fail
        go_end0
        exact ⟨rfl, HFIN.out _⟩
  · have hcell : ∀ j, j < T.length → w.cell? ⟨g, j, none⟩ = some (.int .i64 (T.getD j 0)) := fun j hj => by
      rw [World.ownsRow.cellAt htr j (by omega), List.getElem?_map, List.getElem?_eq_getElem hj]
      simp [List.getD, List.getElem?_eq_getElem hj]
    have HCELL := Lib.hid hcell
    have hgl : g < w.heap.size := (HTVL.out g (by simp [ownV, Value.ownBlock])).2
    unfold maxLen at hr2
    clear htr hcell hh hr3
    generalize hn : T.length = n at *
    have HN := Lib.hid hn
    clear hn
    go_enter Tryd.func58, Tryd.ntmps58
    go_wp2_with fail
    go_loopw [13] (fun i wr => ∃ (j nm : Nat) (D : DataW Value), j ≤ n ∧ i = .int .i64 (j : Int) ∧ wr.ownsMap Tryd.prog 67 heldR mb nm D ∧ Wrote [mb] w wr) (fun i _ => n - (intOf i).toNat)
    case atStart => exact ⟨0, _, D0, Nat.zero_le _, rfl, HD0.out, .refl _ _⟩
    case round =>
      obtain ⟨j, nm, D, hj, rfl, hown, hw⟩ := hrel
      obtain ⟨_, ⟨o2, o3, o4⟩, ⟨o5, o6, o7⟩, o8, o9, o10⟩ := HO.out
      have hqw := hw.blk HQ.out (by simp; omega)
      have c0 := hqw.cell 0
      have c1 := hqw.cell 1
      have c2 := hqw.cell 2
      have f1 := hqw.frozen 1
      simp only [List.getElem?_toArray, List.getElem?_cons_zero, List.getElem?_cons_succ] at c0 c1 c2
      have HOWN := Lib.hid hown
      have HW := Lib.hid hw
      have HDW : Hid (∀ v, (wr.setCell ⟨ub, 1, none⟩ v).heap[db]? = some (.map es clock)) := Lib.hid fun v => by
        rw [heap_setCell_other _ _ _ _ (by show db ≠ ub; omega)]
        exact (hw.block db (by have := HBS.out; omega) (by simp; omega)).trans HDB.out
      have HFIN : Hid (∀ v, Wrote [ub, mb, db] w (setBlock (wr.setCell ⟨ub, 1, none⟩ v) db (.map #[] clock))) := Lib.hid fun v => by
        have h1 : Wrote [ub, mb, db] w (wr.setCell ⟨ub, 1, none⟩ v) := (hw.more fun x hx => by simp at hx; simp [hx]).set_ (.inl (by simp)) v
        have hd := HDW.out v
        refine h1.trans ⟨rfl, rfl, rfl, by simp [setBlock], fun x _ hn => ?_⟩
        exact heap_setBlock_other hd _ (fun e => hn (by simp [e]))
      by_cases hlt : j < n
      · have hk := HCELL.out j hlt
        have hr := HRNG.out j hlt
        have k0 := (hw.cell (p := ⟨g, j, none⟩) hgl (by simp; have := (HTVL.out g (by simp [ownV, Value.ownBlock])).1; omega)).trans hk
        generalize T.getD j 0 = x at *
        have hkey : keyOf Tryd.prog 67 (.int .i64 x) = some (.int .i64 x) := keyOf_int_mk Tryd.underlying67 (WalkArith.wf_i64 (by omega))
        clear hown hw hqw hk HFIN HDW
        go_wp2_with (first
          | (at_delete; refine wpList_delete_own _ rfl _ _ 66 67 rfl 53 lawN Tryd.underlying66 heldR mb nm D rfl HOWN.out _ _ rfl hkey ?_; intro w1 hown1 hturn1
             have HO1 := Lib.hid hown1
             have HW1 := Lib.hid (HW.out.trans (turned_wrote hturn1))
             clear hown1 hturn1)
          | fail)
        go_roundw
        case rel => exact ⟨j + 1, _, _, by omega, by go_num, HO1.out, HW1.out⟩
        case measure => simp [intOf]; omega

      · obtain rfl : j = n := by omega
        clear hown hw hqw
        have hclr : ∀ ty v, (Builtin.clear_ #[80] ty #[.map (some db)]).run Tryd.prog (wr.setCell ⟨ub, 1, none⟩ v) = .ok (.tuple #[]) (setBlock (wr.setCell ⟨ub, 1, none⟩ v) db (.map #[] clock)) := fun ty v => run_clear ty Tryd.underlying80 (HDW.out v)
        go_wp2_with fail
        go_end0
        exact ⟨rfl, HFIN.out _⟩
set_option maxRecDepth 100000 in
/-- takeBack where all bindings are to be taken back. -/
theorem takeBack_undo (lo hi ub mb db base : Nat) (σ : Sub) (P : List (Addr × Addr)) (tv : Value) (H : Nat) (u : FrameMode) (w : World) (ho : UpO lo hi ub mb db base) (hU : UpS w lo hi ub mb db base σ P tv) (hbs : base ≤ w.heap.size) (hc : w.cell? ⟨H, 0, none⟩ = some (.bool false)) :
    CallsD Tryd.prog 41 #[.pointer (some ⟨ub, 0, none⟩), .int .i64 0, .pointer (some ⟨H, 0, none⟩)] u w fun e u' w' => u' = u ∧ (e = .returned (.tuple #[]) ∧ Wrote [ub, mb, db] w w') := by
  have C := Lib.hid (takeBackTo_all lo hi ub mb db base σ P tv w ho hU hbs)
  clear ho hU hbs
  go_enter_d Tryd.func41, Tryd.ntmps41
  go_wp2_with (first
    | (go_at_call 58; (with_reducible refine C.out.mono ?_); rintro e w1 ⟨rfl, hw1⟩)
    | fail)
  go_end0
  exact ⟨rfl, hw1⟩
end Go.Proofs.YtkefpickpjjllaaDoor.Full

/- impl.unifier.unify of a unifier that has no bindings yet. Condition: the nodes lie in memory and are well-formed. -/
namespace Go.Proofs.YtkefpickpjjllaaDoor.Full
open Go.RowKit Go.Maps

/-- What unify leaves: whether there is a unifier, and then its state; nothing else is written. -/
def UnfRes (w : World) (lo hi ub mb db base : Nat) (tv : Value) (r : Option Sub) (e : Ending) (w' : World) : Prop :=
  e = .returned (.bool r.isSome) ∧ Wrote (ub :: mb :: db :: ownV tv) w w' ∧ ∀ σ', r = some σ' → ∃ (P' : List (Addr × Addr)) (tv' : Value), UpS w' lo hi ub mb db base σ' P' tv' ∧ (∀ x ∈ ownV tv', x ∈ ownV tv ∨ w.heap.size ≤ x)

theorem res_cell1 {Pr : Program} {fn : Func} {p : Tmp} {ty : TypeId} (h : fn.results = #[.cell p ty]) (tmps : Array Value) (w : World) (ad : Addr) (v : Value)
    (hp : tmps.getD p undef = .pointer (some ad)) (hagg : (isAgg ty).run Pr w = .ok false w) (hc : w.cell? ad = some v) : (results fn tmps).run Pr w = .ok v w := by
  have hp' : tmps[p]?.getD undef = .pointer (some ad) := by simpa using hp
  simp [results, h, hp', asAddr, loadVar, hagg, hc]

set_option maxRecDepth 100000 in
set_option maxHeartbeats 4000000 in
/-- unify. -/
theorem unify_any (lo hi ub mb db base : Nat) (P : List (Addr × Addr)) (tv : Value) (a b : Nd) (va vb : Value) (r : Option Sub) (w : World) (ho : UpO lo hi ub mb db base) (hU : UpS w lo hi ub mb db base [] P tv) (hbs : base ≤ w.heap.size)
    (ha : NdV w lo hi a.k a.n a.s a.f va) (hb : NdV w lo hi b.k b.n b.s b.f vb) (hsa : shapeT a.k a.n a.s a.f 30 = true) (hsb : shapeT b.k b.n b.s b.f 30 = true) (h : Un [] a b r) :
    Calls Tryd.prog 25 #[.pointer (some ⟨ub, 0, none⟩), va, vb] w fun e w' => UnfRes w lo hi ub mb db base tv r e w' := by
  have hb1 : Below w.heap.size w (w.alloc (.cells #[.bool false] 4)) := (Below.refl _ _).alloc (Nat.le_refl _) _
  have q1 := Blk.new w 4 #[.bool false]
  have hU1 := hU.below hb1 ho hbs
  have hhi : hi ≤ w.heap.size := by obtain ⟨o1, ⟨o2, o3, o4⟩, _, o8, _⟩ := ho; omega
  have C1 := unifyParts_any lo hi ub mb db base [] P tv a b va vb r (w.alloc (.cells #[.bool false] 4)) ho hU1 (Nat.le_trans hbs hb1.size) (ha.keep (fun p _ hp => hb1.block p (by omega)) (Nat.le_refl _) (Nat.le_refl _)) (hb.keep (fun p _ hp => hb1.block p (by omega)) (Nat.le_refl _) (Nat.le_refl _)) hsa hsb h
  obtain ⟨A, cap, rfl⟩ : ∃ A cap, tv = .slice A 0 cap := by
    rcases hU.1.2.1.2 with ⟨rfl, _⟩ | ⟨g, cap, cur, rfl, _⟩
    · exact ⟨_, _, rfl⟩
    · exact ⟨_, _, rfl⟩
  have c1 := hU1.1.1.cell 1
  simp only [List.getElem?_toArray, List.getElem?_cons_zero, List.getElem?_cons_succ] at c1
  have HTV : Hid (∀ x ∈ ownV (.slice A 0 cap), base ≤ x ∧ x < w.heap.size) := Lib.hid fun x hx => hU.1.2.1.lt x (by unfold ownV at hx; simpa using hx)
  have H1 := Lib.hid C1
  have HO := Lib.hid ho
  have HBS := Lib.hid hbs
  have HB1 := Lib.hid hb1
  have HQ1 := Lib.hid q1
  have HHI := Lib.hid hhi
  have hsz : (w.alloc (.cells #[.bool false] 4)).heap.size = w.heap.size + 1 := by simp
  have HSZ := Lib.hid hsz
  obtain ⟨T1, x1, rfl⟩ := ha.iface
  obtain ⟨T2, x2, rfl⟩ := hb.iface
  clear C1 hU1 hU ho hbs ha hb hsa hsb h hb1 q1 hhi hsz
  go_enter_defers Tryd.func25, Tryd.ntmps25
  go_wp2_with fail
  refine H1.out.mono ?_
  rintro e w2 ⟨σ2, P2, tv2, rfl, hU2, hor, hext, hw2, hown2⟩
  have q2 := hw2.blk HQ1.out (fun hx => by
    obtain ⟨_, _, _, o8, o9, o10⟩ := HO.out
    have := HBS.out
    rcases List.mem_cons.1 hx with h | h
    · omega
    · rcases List.mem_cons.1 h with h | h
      · omega
      · rcases List.mem_cons.1 h with h | h
        · omega
        · have := (HTV.out _ h).2; omega)
  have HQ2 := Lib.hid q2
  have HW2 := Lib.hid hw2
  have HU2 := Lib.hid hU2
  have HOR := Lib.hid hor
  have HOWN2 := Lib.hid hown2
  have k0 := q2.cell 0
  have z0 := q2.frozen 0
  simp only [List.getElem?_toArray, List.getElem?_cons_zero] at k0
  clear q2 hw2 hU2 hor hext hown2 c1
  go_wp2_with fail
  have hq3 : Blk (w2.setCell ⟨w.heap.size, 0, none⟩ (.bool r.isSome)) w.heap.size 4 #[.bool r.isSome] := HQ2.out.set_ 0 _
  have hc3 : (w2.setCell ⟨w.heap.size, 0, none⟩ (.bool r.isSome)).cell? ⟨w.heap.size, 0, none⟩ = some (.bool r.isSome) := hq3.cell 0
  have hw3 : Wrote (ub :: mb :: db :: ownV (.slice A 0 cap)) w (w2.setCell ⟨w.heap.size, 0, none⟩ (.bool r.isSome)) := ((Wrote.of_below HB1.out _).trans HW2.out).set_ (.inr (Nat.le_refl _)) _
  have hown3 : ∀ x ∈ ownV tv2, x ∈ ownV (.slice A 0 cap) ∨ w.heap.size ≤ x := fun x hx => (HOWN2.out x hx).imp id fun h => Nat.le_trans HB1.out.size h
  have hs2 : w.heap.size < w2.heap.size := HQ2.out.lt
  have hU3 : UpS (w2.setCell ⟨w.heap.size, 0, none⟩ (.bool r.isSome)) lo hi ub mb db base σ2 P2 tv2 := by
    have ht := HU2.out.1.2.1.lt
    refine HU2.out.wrote (L := [w.heap.size]) ((Wrote.refl _ _).set_ (.inl (by simp)) _) HO.out (by have := HBS.out; omega) fun x hx => ?_
    obtain rfl : x = w.heap.size := by simpa using hx
    obtain ⟨o1, o2, _, o8, o9, o10⟩ := HO.out
    have := HBS.out
    refine ⟨HHI.out, by omega, by omega, by omega, fun hx => ?_⟩
    rcases HOWN2.out _ hx with h | h
    · have := (HTV.out _ h).2; omega
    · rw [HSZ.out] at h; omega
  have hbs3 : base ≤ (w2.setCell ⟨w.heap.size, 0, none⟩ (.bool r.isSome)).heap.size := by have := HBS.out; simp [World.setCell]; omega
  cases r with
  | some σ' =>
    obtain rfl : σ' = σ2 := by
      rcases HOR.out with h | h
      · cases h
      · injection h
    refine leaves_cons (f := 41) (args := #[.pointer (some ⟨ub, 0, none⟩), .int .i64 0, .pointer (some ⟨w.heap.size, 0, none⟩)]) (by simp) (by simp [go_sem]) ?_
    refine (takeBack_keep ub w.heap.size .returning _ hc3).mono ?_
    rintro e u' w4 ⟨rfl, rfl, rfl⟩
    refine ⟨_, res_cell1 rfl _ _ ⟨w.heap.size, 0, none⟩ (.bool true) rfl (by simp [go_sem]) hc3, rfl, hw3, fun σ4 e => ?_⟩
    injection e with e
    subst e
    exact ⟨P2, tv2, hU3, hown3⟩
  | none =>
    refine leaves_cons (f := 41) (args := #[.pointer (some ⟨ub, 0, none⟩), .int .i64 0, .pointer (some ⟨w.heap.size, 0, none⟩)]) (by simp) (by simp [go_sem]) ?_
    refine (takeBack_undo lo hi ub mb db base σ2 P2 tv2 w.heap.size .returning _ HO.out hU3 hbs3 hc3).mono ?_
    rintro e u' w4 ⟨rfl, rfl, hw4⟩
    have hc4 := (hw4.blk hq3 (fun hx => by
      obtain ⟨o1, o2, _, o8, o9, o10⟩ := HO.out
      have := HBS.out
      simp at hx
      omega)).cell 0
    refine ⟨_, res_cell1 rfl _ _ ⟨w.heap.size, 0, none⟩ (.bool false) rfl (by simp [go_sem]) hc4, rfl, hw3.trans (hw4.more fun x hx => by simp at hx ⊢; omega), fun σ4 e => by cases e⟩
end Go.Proofs.YtkefpickpjjllaaDoor.Full
