/- impl.ApplyBinds. Condition: term and bindings lie in memory, the table of signs in its variable. -/
import Derived.Test.YtplledmhbbmgiaaDoorProg
import Derived.Test.YtplledmhbbmgiaaDoorApM
namespace Go.Proofs.YtplledmhbbmgiaaDoor
open Go.RowKit Go.Maps

/-- The loop's state: the result's box, the map and its box, the term's node. -/
def ApW (w : World) (mb c : Nat) (F : Int → Option Nd) (k n : Int) (s : ByteArray) (f : Fr) (tv : Value) (wr : World) : Prop :=
  RC w (w.heap.size + 1) wr ∧ MpA wr mb wr.heap.size c F ∧ Blk wr (mb + 1) 62 #[.map (some mb)] ∧ NdV wr w.heap.size mb k n s f tv ∧ mb + 2 ≤ wr.heap.size ∧ w.heap.size + 2 ≤ mb
theorem ApW.below {w wr w' : World} {mb c : Nat} {F : Int → Option Nd} {k n : Int} {s : ByteArray} {f : Fr} {tv : Value} (h : ApW w mb c F k n s f tv wr) (hb : Below wr.heap.size wr w') : ApW w mb c F k n s f tv w' := by
  obtain ⟨h1, h2, h3, h4, h5, h6⟩ := h
  have hs := hb.size
  exact ⟨h1.below hb, h2.below hb (Nat.le_refl _) (by omega) hs, h3.below hb h3.lt, h4.keep (fun p _ hp => hb.cell (by omega)) (Nat.le_refl _) (Nat.le_refl _), by omega, h6⟩
/-- The map has one more. -/
theorem ApW.put {w w3 w4 : World} {mb c : Nat} {F : Int → Option Nd} {k n : Int} {s : ByteArray} {f : Fr} {tv : Value} (h : ApW w mb c F k n s f tv w3) {D : DataW Value} {n0 : Int} {m : Nd} {v : Value} {lo : Nat} (h1 : IsMap D) (h2 : ∀ n, has D (.int .i64 n) = (F n).isSome)
    (h3 : ∀ n m, F n = some m → validT m.k m.n m.s m.f = true ∧ ∃ v, D.atKey (.int .i64 n) (.held .nilIface) = .held v ∧ NdV w3 (mb + 1) w3.heap.size m.k m.n m.s m.f v) (hs : validT m.k m.n m.s m.f = true) (hv : NdV w3 lo w3.heap.size m.k m.n m.s m.f v) (hlo : mb + 1 ≤ lo)
    (hD : w4.ownsMap Tryd.prog 63 heldA mb (c + 1) (D.put (.int .i64 n0) (.held v))) (hg : w3.grownBy w4 (some mb)) : ApW w mb (c + 1) (updB F n0 m) k n s f tv w4 := by
  obtain ⟨g1, g2, g3, g4, g5, g6⟩ := h
  have hw : Wrote [mb] w3 w4 := ⟨hg.os, hg.tape, hg.output, hg.size, fun x hx hn => hg.block x hx fun e => hn (by simpa using e)⟩
  have hsz := hg.size
  refine ⟨g1.wrote hw fun x hx => by simp at hx; omega, MpA.put h1 h2 h3 (Nat.le_refl _) hD hg hs (hv.keep (fun _ _ _ => rfl) hlo (Nat.le_refl _)), hw.blk g3 (by simp), g4.keep (fun p _ hp => hw.cell (by omega) (by simp; omega)) (Nat.le_refl _) (Nat.le_refl _), by omega, g6⟩
theorem ApW.start {w w2 : World} {k n : Int} {s : ByteArray} {f : Fr} {tv : Value} {lo : Nat} (h : RC w (w.heap.size + 1) w2) (hv : NdV w2 lo w2.heap.size k n s f tv) (hlo : w.heap.size ≤ lo) : ApW w w2.heap.size 0 (fun _ => none) k n s f tv ((w2.alloc (.map #[] 0)).alloc (.cells #[.map (some w2.heap.size)] 62)) := by
  have hl := h.1.lt
  have hb : Below w2.heap.size w2 ((w2.alloc (.map #[] 0)).alloc (.cells #[.map (some w2.heap.size)] 62)) := two_alloc w2 _ _
  refine ⟨h.below hb, ⟨.map [], (World.ownsMap_made w2 _ _ _).alloc _, isMap_empty, fun _ => rfl, fun n m hm => by cases hm⟩, ?_, hv.keep (fun p _ hp => hb.cell hp) hlo (Nat.le_refl _), by simp, by omega⟩
  have h := Blk.new (w2.alloc (.map #[] 0)) 62 #[.map (some w2.heap.size)]
  rwa [show (w2.alloc (.map #[] 0)).heap.size = w2.heap.size + 1 by simp] at h

theorem or_known {F : Int → Option Nd} {ns : List Int} {g : Fr} {j : Nat} {n0 : Int} {a b : Int} {s : ByteArray} {kids rest : Fr} (hl : ns.length = g.len) (hd : g.drop j = .cons a b s kids rest) (h0 : ns.getD j 0 = n0)
    (h : ∀ x, (F x).or (fdB (ns.drop j) (g.drop j) x) = fdB ns g x) {o : Nd} (hk : F n0 = some o) : ∀ x, (F x).or (fdB (ns.drop (j + 1)) (g.drop (j + 1)) x) = fdB ns g x := fun x => by
  have h1 := h x
  rw [fdB_drop j ns g x hl hd, h0] at h1
  by_cases e : n0 = x
  · subst e
    rw [hk] at h1 ⊢
    exact h1
  · rwa [if_neg e] at h1
theorem or_put {F : Int → Option Nd} {ns : List Int} {g : Fr} {j : Nat} {n0 : Int} {a b : Int} {s : ByteArray} {kids rest : Fr} (hl : ns.length = g.len) (hd : g.drop j = .cons a b s kids rest) (h0 : ns.getD j 0 = n0)
    (h : ∀ x, (F x).or (fdB (ns.drop j) (g.drop j) x) = fdB ns g x) (hk : F n0 = none) : ∀ x, (updB F n0 ⟨a, b, s, kids⟩ x).or (fdB (ns.drop (j + 1)) (g.drop (j + 1)) x) = fdB ns g x := fun x => by
  have h1 := h x
  rw [fdB_drop j ns g x hl hd, h0] at h1
  by_cases e : n0 = x
  · subst e
    rw [hk, if_pos rfl] at h1
    rw [updB_same]
    exact h1
  · rw [if_neg e] at h1
    rw [updB_other F _ fun h => e h.symm]
    exact h1

set_option maxRecDepth 100000 in
set_option maxHeartbeats 8000000 in
/-- impl.ApplyBinds. -/
theorem implAp_any (k n : Int) (s : ByteArray) (f : Fr) (A : Option Addr) (cap lo hi : Nat) (ns : List Int) (g : Fr) (B : Option Addr) (capB lo2 hi2 : Nat) (w : World) (hk : KidsAt w lo hi f A cap) (hh : hi ≤ w.heap.size) (hf : Fits k n s) (hnd : nodes f ≤ 1048576) (hK : BdS w lo2 hi2 ns g B capB) (hh2 : hi2 ≤ w.heap.size) (hng : nodes g ≤ 1048576) (ht : nv.Tab w) :
    Calls Tryd.prog 16 #[.agg #[.int .i64 k, .int .i64 n, .string s, .slice A f.len cap], .slice B g.len capB] w fun e w' => TbRes w (apR ns g k n s f) (apB ns g k n s f) e w' := by
  have hlt0 := tab_lt ht
  have C1 := fun w1 (hb : Below w.heap.size w w1) => nodeOf_any k n s f A cap lo hi w1 (hk.below hb hh) (Nat.le_trans hh hb.size) hf hnd (tab_below ht hb hlt0)
  have q0 : ApQ w k n s f.len A cap ((w.alloc (.cells #[.int .i64 k, .int .i64 n, .string s, .slice A f.len cap] 29)).alloc (.cells #[.int .i64 0, .int .i64 0, .string ⟨#[]⟩, .slice none 0 0] 29)) := by
    refine ⟨⟨?_, by omega, two_alloc w _ _⟩, (Blk.new w _ _).alloc _⟩
    have h := Blk.new (w.alloc (.cells #[.int .i64 k, .int .i64 n, .string s, .slice A f.len cap] 29)) 29 #[.int .i64 0, .int .i64 0, .string ⟨#[]⟩, .slice none 0 0]
    simpa using h
  have HB1 := Lib.hid (fun h => apB_bad (ns := ns) (g := g) (k := k) (n := n) (s := s) (f := f) h)
  have HB2 := Lib.hid (fun h ha => apB_good (ns := ns) (g := g) (k := k) (n := n) (s := s) (f := f) h ha)
  have H1 := Lib.hid C1
  have HQ := Lib.hid q0
  have HK := Lib.hid hK
  have HHI := Lib.hid hh2
  have HNG := Lib.hid hng
  have HT := Lib.hid ht
  have hl := hK.2.1
  have hmx := hK.2.2.1
  unfold maxLen at hmx
  have HNS := Lib.hid hK.1
  have hgl : g.len ≤ 1048576 := by have := len_le_nodes g; omega
  clear C1 hk hh hf hnd q0 hK hh2 hng ht
  generalize hn : g.len = len at *
  have HN := Lib.hid hn
  clear hn
  have hmm := @run_makeMap Tryd.prog
  go_enter Tryd.func16, Tryd.ntmps16
  go_wp2_with fail
  generalize ((w.alloc (.cells #[.int .i64 k, .int .i64 n, .string s, .slice A f.len cap] 29)).alloc (.cells #[.int .i64 0, .int .i64 0, .string ⟨#[]⟩, .slice none 0 0] 29)) = w1 at *
  refine (H1.out _ HQ.out.1.2.2).mono ?_
  rintro e w2 ⟨hb, hr⟩
  have hs1 := HQ.out.1.2.2.size
  have HP := Lib.hid (HQ.out.1.below hb)
  clear hb H1 HQ
  rcases hr with ⟨hok, v, rfl, hv⟩ | ⟨hok, rfl⟩
  rotate_left
  · obtain ⟨d0, d1, d2, d3⟩ := cells4i HP.out.1
    obtain ⟨f0, f1, f2, f3⟩ := frozen4 HP.out.1
    have HE := Lib.hid (HB1.out (.inl hok))
    clear hok
    go_wp2_with fail
    rw [HE.out.1, HE.out.2]
    refine bodyPost_ret (v := .tuple #[.agg #[.int .i64 0, .int .i64 0, .string ⟨#[]⟩, .slice none 0 0], .bool false]) ?_ rfl (HP.out.no _ _ _ _)
    exact results_cell_row2 Tryd.results16 _ _ (w.heap.size + 1) _ _ _ _ rfl (set4 HP.out.1 _ _ _ _) Tryd.underlying29 rfl (by kernel_rfl)
  · have hst := ApW.start HP.out hv hs1
    have HOK := Lib.hid hok
    have HST := Lib.hid hst
    obtain ⟨T1, x1, rfl⟩ := hv.iface
    clear hok hv hst HP
    go_wp2_with fail
    generalize w2.heap.size = mb at *
    go_loopw [26] (fun i wr => ∃ (j c : Nat) (F : Int → Option Nd), j ≤ len ∧ i = .int .i64 j ∧ c ≤ j ∧ allB (g.drop j) = allB g ∧ (∀ x, (F x).or (fdB (ns.drop j) (g.drop j) x) = fdB ns g x) ∧ ApW w mb c F k n s f (.iface T1 x1) wr) (fun i _ => len - (intOf i).toNat)
    case atStart => exact ⟨0, 0, fun _ => none, Nat.zero_le _, rfl, Nat.le_refl _, rfl, fun _ => rfl, HST.out⟩
    case round =>
      obtain ⟨j, c, F, hj, rfl, hc, hv, hF, hp⟩ := hrel
      by_cases hlt : j < len
      · obtain ⟨kk, nn, s', kids, hd⟩ := Fr.drop_cons j g (by rw [HN.out]; exact hlt)
        obtain ⟨b, o, rfl, hlb, hbb, hrow⟩ := HK.out.2.2.2 (by rw [HN.out]; omega)
        obtain ⟨hi0, hfit, A', cap', c0, c1, c2, c3, c4, hkid⟩ := BdAt.elem j ns g b o hrow hd
        rw [hd, allB_cons] at hv
        have hlo : (⟨b, o, none⟩ : Addr).block < w.heap.size := Nat.lt_of_lt_of_le hbb HHI.out
        have hb := hp.1.2.2
        have k0 := (hb.cell (p := ⟨b, o + j * 5, none⟩) hlo).trans c0
        have k1 := (hb.cell (p := ⟨b, o + j * 5 + 1, none⟩) hlo).trans c1
        have k2 := (hb.cell (p := ⟨b, o + j * 5 + 2, none⟩) hlo).trans c2
        have k3 := (hb.cell (p := ⟨b, o + j * 5 + 3, none⟩) hlo).trans c3
        have k4 := (hb.cell (p := ⟨b, o + j * 5 + 4, none⟩) hlo).trans c4
        have hne := nodes_elem j g hd
        have hlen := HNS.out.trans HN.out.symm
        have HKN := Lib.hid (fun o => or_known (F := F) (o := o) hlen hd rfl hF)
        have HPT := Lib.hid (or_put (F := F) hlen hd rfl hF)
        have hba : Below wr.heap.size wr (wr.alloc (.cells #[.int .i64 (ns.getD j 0), .int .i64 kk, .int .i64 nn, .string s', .slice A' kids.len cap'] 59)) := (Below.refl _ _).alloc (Nat.le_refl _) _
        have hb2 := hb.trans (hba.mono hb.size)
        have C1 := nodeOf_any kk nn s' kids A' cap' lo2 hi2 _ (hkid.below hb2 HHI.out) (Nat.le_trans HHI.out hb2.size) hfit (by have := HNG.out; omega) (tab_below HT.out hb2 hlt0)
        have hkey : keyOf Tryd.prog 63 (.int .i64 (ns.getD j 0)) = some (.int .i64 (ns.getD j 0)) := keyOf_int_mk Tryd.underlying63 (WalkArith.wf_i64 hi0)
        generalize ns.getD j 0 = n0 at *
        have H1 := Lib.hid C1
        have HP0 := Lib.hid hp
        have HBA := Lib.hid hba
        have hmb : mb + 2 ≤ wr.heap.size := hp.2.2.2.2.1
        clear C1 hp c0 c1 c2 c3 c4 hkid hrow hd hb hb2 hba hlo hne hfit hF hlen hi0
        go_wp2_with fail
        refine H1.out.mono ?_
        rintro e w3 ⟨hb3, hr⟩
        have hb13 := HBA.out.trans (hb3.mono HBA.out.size)
        have hp3 := HP0.out.below hb13
        have hbox := (Blk.new wr 59 #[.int .i64 n0, .int .i64 kk, .int .i64 nn, .string s', .slice A' kids.len cap']).below hb3 (by simp)
        have hsz3 := hb3.size
        have HP3 := Lib.hid hp3
        clear H1 HP0 HBA hb13 k0 k1 k2 k3 k4
        rcases hr with ⟨hok, v, rfl, hv2⟩ | ⟨hok, rfl⟩
        rotate_left
        · have HE := Lib.hid (HB1.out (.inr (by rw [← hv, hok]; rfl)))
          have HP := Lib.hid hp3.1
          obtain ⟨d0, d1, d2, d3⟩ := cells4i hp3.1.1
          obtain ⟨f0, f1, f2, f3⟩ := frozen4 hp3.1.1
          clear hb3 hok hv hp3 hbox
          go_wp2_with fail
          rw [HE.out.1, HE.out.2]
          refine bodyPost_ret (v := .tuple #[.agg #[.int .i64 0, .int .i64 0, .string ⟨#[]⟩, .slice none 0 0], .bool false]) ?_ rfl (HP.out.no _ _ _ _)
          exact results_cell_row2 Tryd.results16 _ _ (w.heap.size + 1) _ _ _ _ rfl (set4 HP.out.1 _ _ _ _) Tryd.underlying29 rfl (by kernel_rfl)
        · have HV : Hid (allB (g.drop (j + 1)) = allB g) := Lib.hid (by rw [← hv, hok]; rfl)
          obtain ⟨D, hD, hI, hH, hX⟩ := hp3.2.1
          have e0 := hp3.2.2.1.cell 0
          have b0 := hbox.cell 0
          simp only [List.getElem?_toArray, List.getElem?_cons_zero] at e0 b0
          have PUT := fun w4 h4 h5 => ApW.put (w4 := w4) (n0 := n0) (m := ⟨kk, nn, s', kids⟩) (v := v) hp3 hI hH hX hok hv2 (by simp; omega) h4 h5
          have HPUT := Lib.hid PUT
          obtain ⟨T2, z2, rfl⟩ := hv2.iface
          have HD := Lib.hid hD
          have hhn := hH n0
          cases hlk : F n0 with
          | none =>
            rw [hlk] at hhn
            have HHN : Hid (has D (.int .i64 n0) = false) := Lib.hid hhn
            have HF := Lib.hid (HPT.out hlk)
            clear hb3 hok hv hp3 hbox hv2 hD hI hH hX PUT hhn hlk HPT HKN HP3
            go_wp2_with (first
              | (at_lookup; refine wpList_lookup_own_ok _ rfl _ _ 62 rfl 63 50 lawA Tryd.underlying62 heldA (zeroA _) (.held .nilIface) [] rfl mb c D rfl HD.out _ _ rfl hkey ?_; intro v ps hv; rw [HHN.out]; clear hv)
              | (at_mapUpdate; refine wpList_mapUpdate_own _ rfl _ _ _ 62 rfl 63 50 lawA Tryd.underlying62 heldA mb c D rfl HD.out (by unfold maxLen; omega) _ _ _ rfl rfl hkey (.held (.iface T2 z2)) [] rfl ?_; intro w4 hown1 hgrow1; have HO1 := Lib.hid hown1; have HG1 := Lib.hid hgrow1; clear hown1 hgrow1))
            go_roundw
            case rel => exact ⟨j + 1, c + 1, _, by omega, by go_num, by omega, HV.out, HF.out, HPUT.out w4 HO1.out HG1.out⟩
            case measure => simp [intOf]; omega
          | some o =>
            rw [hlk] at hhn
            have HHN : Hid (has D (.int .i64 n0) = true) := Lib.hid hhn
            have HF := Lib.hid (HKN.out o hlk)
            clear hb3 hok hv hp3 hbox hv2 hD hI hH hX PUT hhn hlk HPT HKN HPUT
            go_wp2_with (at_lookup; refine wpList_lookup_own_ok _ rfl _ _ 62 rfl 63 50 lawA Tryd.underlying62 heldA (zeroA _) (.held .nilIface) [] rfl mb c D rfl HD.out _ _ rfl hkey ?_; intro v ps hv; rw [HHN.out]; clear hv)
            go_roundw
            case rel => exact ⟨j + 1, c, F, by omega, by go_num, by omega, HV.out, HF.out, HP3.out⟩
            case measure => simp [intOf]; omega
      · obtain rfl : j = len := by omega
        have hdl : g.drop j = .nil := by
          have h1 := Fr.drop_len g
          rwa [HN.out] at h1
        have ha : allB g = true := by rw [← hv, hdl]; rfl
        have hF2 : ∀ x, F x = fdB ns g x := fun x => by
          have h1 := hF x
          rw [hdl] at h1
          rw [← h1]
          cases ns.drop j <;> simp [fdB]
        have HE := Lib.hid (HB2.out HOK.out ha)
        have hsh := (validT_fits HOK.out).1
        have hnf := (validT_fits HOK.out).2.2
        have hn2 := apT_nodes (ns := ns) ha hsh
        have hwf := wf_ap (ns := ns) ha hsh
        obtain ⟨p1, p2, p3, p4, p5, p6⟩ := hp
        have C2 := rpT_any ap_ef (ap_rep ns g mb (mb + 1) wr.heap.size c F hF2 (by omega) (by omega)) s f k n 30 (.iface T1 x1) w.heap.size mb () [] wr hsh p4 (by omega) (fun x hx => nomatch hx) ⟨rfl, p3.cell 0, p2, Nat.le_refl _⟩ (Nat.le_refl _) (by show 0 + nodes f ≤ 2097152; omega)
        have C2' : Calls Tryd.prog 38 #[.iface T1 x1, .func (.func 39) #[] #[.pointer (some ⟨mb + 1, 0, none⟩)]] wr fun e w' => RpRes (ApI mb (mb + 1) wr.heap.size c F) (fun x => mb ≤ x ∧ x < wr.heap.size) wr [] (stT (fun a _ => a) () k n f) (apT ns g k n s f) e w' := C2
        have C3 := fun v' lo hi w3 (hv : NdV w3 lo hi (apT ns g k n s f).k (apT ns g k n s f).n (apT ns g k n s f).s (apT ns g k n s f).f v') (hh : hi ≤ w3.heap.size) => vt_any (apT ns g k n s f) v' lo hi w3 hwf.1 hwf.2 hv hh (by omega)
        generalize vtF (apT ns g k n s f) = rm at *
        generalize vtB (apT ns g k n s f) = rok at *
        generalize apT ns g k n s f = m at *
        have H2 := Lib.hid C2'
        have H3 := Lib.hid C3
        have HQ2 := Lib.hid p1
        clear C2 C2' C3 hsh hnf hn2 hwf p1 p2 p3 p4 hF hF2 ha hdl hv HB1 HB2 HOK
        have hmf : ∀ (fn : Fn) (first cap : Array Value) (w : World), (Instr.makeFunc fn first cap).run Tryd.prog w = .ok (.func fn first cap) w := fun _ _ _ _ => rfl
        go_wp2_with fail
        refine H2.out.mono ?_
        rintro e w3 ⟨Q3, v3, rfl, _, hw3, _, hv3⟩
        have hb3 : Below wr.heap.size wr w3 := hw3.below (Nat.le_refl _) fun x hx => nomatch hx
        have hv3' := hv3.range (lo := 0) (hi := w3.heap.size) fun x hx => ⟨Nat.zero_le _, hx.2.1⟩
        have C4 := H3.out v3 _ _ w3 hv3' (Nat.le_refl _)
        have q3 := HQ2.out.below hb3
        obtain ⟨T3, x3, rfl⟩ := hv3'.iface
        have H4 := Lib.hid C4
        have HQ3 := Lib.hid q3
        clear hb3 hw3 hv3 hv3' C4 q3 H2 H3 HQ2
        go_wp2_with fail
        refine H4.out.mono ?_
        rintro e w4 ⟨A4, c4, rfl, hm⟩
        have q4 := HQ3.out.below (made_below hm)
        obtain ⟨d0, d1, d2, d3⟩ := cells4i q4.1
        obtain ⟨f0, f1, f2, f3⟩ := frozen4 q4.1
        obtain ⟨mk, mn, ms, mf⟩ := rm
        have HY := Lib.hid (HQ3.out.yes (k := mk) (n := mn) (s := ms) hm (.int .i64 mk) (.int .i64 mn) (.string ms) (.slice A4 mf.len c4) rok)
        have HQ4 := Lib.hid q4
        clear q4 hm HQ3 H4
        go_wp2_with fail
        rw [HE.out.1, HE.out.2]
        refine bodyPost_ret (v := .tuple #[.agg #[.int .i64 mk, .int .i64 mn, .string ms, .slice A4 mf.len c4], .bool rok]) ?_ rfl HY.out
        exact results_cell_row2 Tryd.results16 _ _ (w.heap.size + 1) _ _ _ _ rfl (set4 HQ4.out.1 _ _ _ _) Tryd.underlying29 rfl (by kernel_rfl)
end Go.Proofs.YtplledmhbbmgiaaDoor
