/- impl.ApplyBinds. Condition: term and bindings lie in memory, the table of signs in its variable. -/
import Derived.Test.YtkgihpddjppmdaaDoorProg
import Derived.Test.YtkgihpddjppmdaaDoorZmAB45
import Derived.Test.YtkgihpddjppmdaaDoorOwn
import Derived.LaidEql
import Derived.Maps.Own
import Derived.KernelRfl
import Derived.Test.YtkgihpddjppmdaaDoorEq
import Derived.Test.YtkgihpddjppmdaaDoorValid
import Derived.Laws.AppendOwn
namespace Go.Proofs.YtkgihpddjppmdaaDoor
open Go.RowKit Go.Maps

/-- The loop's state: the result's box, the map and its box, the term's node. -/
def ApW (w : World) (mb c : Nat) (F : Int → Option Nd) (k n : Int) (s : ByteArray) (f : Fr) (tv : Value) (wr : World) : Prop :=
  RC w (w.heap.size + 1) wr ∧ MpA wr mb wr.heap.size c F ∧ Blk wr (mb + 1) 47 #[.map (some mb)] ∧ NdV wr w.heap.size mb k n s f tv ∧ mb + 2 ≤ wr.heap.size ∧ w.heap.size + 2 ≤ mb
theorem ApW.below {w wr w' : World} {mb c : Nat} {F : Int → Option Nd} {k n : Int} {s : ByteArray} {f : Fr} {tv : Value} (h : ApW w mb c F k n s f tv wr) (hb : Below wr.heap.size wr w') : ApW w mb c F k n s f tv w' := by
  obtain ⟨h1, h2, h3, h4, h5, h6⟩ := h
  have hs := hb.size
  exact ⟨h1.below hb, h2.below hb (Nat.le_refl _) (by omega) hs, h3.below hb h3.lt, h4.keep (fun p _ hp => hb.cell (by omega)) (Nat.le_refl _) (Nat.le_refl _), by omega, h6⟩
/-- The map has one more. -/
theorem ApW.put {w w3 w4 : World} {mb c : Nat} {F : Int → Option Nd} {k n : Int} {s : ByteArray} {f : Fr} {tv : Value} (h : ApW w mb c F k n s f tv w3) {D : DataW Value} {n0 : Int} {m : Nd} {v : Value} {lo : Nat} (h1 : IsMap D) (h2 : ∀ n, has D (.int .i64 n) = (F n).isSome)
    (h3 : ∀ n m, F n = some m → validT m.k m.n m.s m.f = true ∧ ∃ v, D.atKey (.int .i64 n) (.held .nilIface) = .held v ∧ NdV w3 (mb + 1) w3.heap.size m.k m.n m.s m.f v) (hs : validT m.k m.n m.s m.f = true) (hv : NdV w3 lo w3.heap.size m.k m.n m.s m.f v) (hlo : mb + 1 ≤ lo)
    (hD : w4.ownsMap Tryd.prog 48 heldA mb (c + 1) (D.put (.int .i64 n0) (.held v))) (hg : w3.grownBy w4 (some mb)) : ApW w mb (c + 1) (updB F n0 m) k n s f tv w4 := by
  obtain ⟨g1, g2, g3, g4, g5, g6⟩ := h
  have hw : Wrote [mb] w3 w4 := ⟨hg.os, hg.tape, hg.output, hg.size, fun x hx hn => hg.block x hx fun e => hn (by simpa using e)⟩
  have hsz := hg.size
  refine ⟨g1.wrote hw fun x hx => by simp at hx; omega, MpA.put h1 h2 h3 (Nat.le_refl _) hD hg hs (hv.keep (fun _ _ _ => rfl) hlo (Nat.le_refl _)), hw.blk g3 (by simp), g4.keep (fun p _ hp => hw.cell (by omega) (by simp; omega)) (Nat.le_refl _) (Nat.le_refl _), by omega, g6⟩
theorem ApW.start {w w2 : World} {k n : Int} {s : ByteArray} {f : Fr} {tv : Value} {lo : Nat} (h : RC w (w.heap.size + 1) w2) (hv : NdV w2 lo w2.heap.size k n s f tv) (hlo : w.heap.size ≤ lo) : ApW w w2.heap.size 0 (fun _ => none) k n s f tv ((w2.alloc (.map #[] 0)).alloc (.cells #[.map (some w2.heap.size)] 47)) := by
  have hl := h.1.lt
  have hb : Below w2.heap.size w2 ((w2.alloc (.map #[] 0)).alloc (.cells #[.map (some w2.heap.size)] 47)) := two_alloc w2 _ _
  refine ⟨h.below hb, ⟨.map [], (World.ownsMap_made w2 _ _ _).alloc _, isMap_empty, fun _ => rfl, fun n m hm => by cases hm⟩, ?_, hv.keep (fun p _ hp => hb.cell hp) hlo (Nat.le_refl _), by simp, by omega⟩
  have h := Blk.new (w2.alloc (.map #[] 0)) 47 #[.map (some w2.heap.size)]
  rwa [show (w2.alloc (.map #[] 0)).heap.size = w2.heap.size + 1 by simp] at h

theorem or_known {F : Int → Option Nd} {ns : List Int} {g : Fr} {j : Nat} {n0 : Int} {a b : Int} {s : ByteArray} {kids rest : Fr} (hl : ns.length = g.len) (hd : g.drop j = .cons a b s kids rest) (h0 : ns.getD j 0 = n0)
    (h : ∀ x, (F x).or (fdB (ns.drop j) (g.drop j) x) = fdB ns g x) {o : Nd} (hk : F n0 = some o) : ∀ x, (F x).or (fdB (ns.drop (j + 1)) (g.drop (j + 1)) x) = fdB ns g x := fun x => by
  have h1 := h x
  rw [fdB_drop j ns g x hl hd, h0] at h1
  by_cases e : n0 = x
  · subst e
    rw [hk] at h1 ⊢
    exact h1
  · rwa [if_neg e] at h1
theorem or_put {F : Int → Option Nd} {ns : List Int} {g : Fr} {j : Nat} {n0 : Int} {a b : Int} {s : ByteArray} {kids rest : Fr} (hl : ns.length = g.len) (hd : g.drop j = .cons a b s kids rest) (h0 : ns.getD j 0 = n0)
    (h : ∀ x, (F x).or (fdB (ns.drop j) (g.drop j) x) = fdB ns g x) (hk : F n0 = none) : ∀ x, (updB F n0 ⟨a, b, s, kids⟩ x).or (fdB (ns.drop (j + 1)) (g.drop (j + 1)) x) = fdB ns g x := fun x => by
  have h1 := h x
  rw [fdB_drop j ns g x hl hd, h0] at h1
  by_cases e : n0 = x
  · subst e
    rw [hk, if_pos rfl] at h1
    rw [updB_same]
    exact h1
  · rw [if_neg e] at h1
    rw [updB_other F _ fun h => e h.symm]
    exact h1

set_option maxRecDepth 100000 in
set_option maxHeartbeats 8000000 in
/-- impl.ApplyBinds. -/
theorem implAp_any (k n : Int) (s : ByteArray) (f : Fr) (A : Option Addr) (cap lo hi : Nat) (ns : List Int) (g : Fr) (B : Option Addr) (capB lo2 hi2 : Nat) (w : World) (hk : KidsAt w lo hi f A cap) (hh : hi ≤ w.heap.size) (hf : Fits k n s) (hnd : nodes f ≤ 1048576) (hK : BdS w lo2 hi2 ns g B capB) (hh2 : hi2 ≤ w.heap.size) (hng : nodes g ≤ 1048576) (ht : nv.Tab w) :
    Calls Tryd.prog 5 #[.agg #[.int .i64 k, .int .i64 n, .string s, .slice A f.len cap], .slice B g.len capB] w fun e w' => TbRes w (apR ns g k n s f) (apB ns g k n s f) e w' := by
  have hlt0 := tab_lt ht
  have C1 := fun w1 (hb : Below w.heap.size w w1) => nodeOf_any k n s f A cap lo hi w1 (hk.below hb hh) (Nat.le_trans hh hb.size) hf hnd (tab_below ht hb hlt0)
  have q0 : ApQ w k n s f.len A cap ((w.alloc (.cells #[.int .i64 k, .int .i64 n, .string s, .slice A f.len cap] 25)).alloc (.cells #[.int .i64 0, .int .i64 0, .string ⟨#[]⟩, .slice none 0 0] 25)) := by
    refine ⟨⟨?_, by omega, two_alloc w _ _⟩, (Blk.new w _ _).alloc _⟩
    have h := Blk.new (w.alloc (.cells #[.int .i64 k, .int .i64 n, .string s, .slice A f.len cap] 25)) 25 #[.int .i64 0, .int .i64 0, .string ⟨#[]⟩, .slice none 0 0]
    simpa using h
  have HB1 := Lib.hid (fun h => apB_bad (ns := ns) (g := g) (k := k) (n := n) (s := s) (f := f) h)
  have HB2 := Lib.hid (fun h ha => apB_good (ns := ns) (g := g) (k := k) (n := n) (s := s) (f := f) h ha)
  have H1 := Lib.hid C1
  have HQ := Lib.hid q0
  have HK := Lib.hid hK
  have HHI := Lib.hid hh2
  have HNG := Lib.hid hng
  have HT := Lib.hid ht
  have hl := hK.2.1
  have hmx := hK.2.2.1
  unfold maxLen at hmx
  have HNS := Lib.hid hK.1
  have hgl : g.len ≤ 1048576 := by have := len_le_nodes g; omega
  clear C1 hk hh hf hnd q0 hK hh2 hng ht
  generalize hn : g.len = len at *
  have HN := Lib.hid hn
  clear hn
  have hmm := @run_makeMap Tryd.prog
  go_enter Tryd.func5, Tryd.ntmps5
  go_wp2_with fail
  generalize ((w.alloc (.cells #[.int .i64 k, .int .i64 n, .string s, .slice A f.len cap] 25)).alloc (.cells #[.int .i64 0, .int .i64 0, .string ⟨#[]⟩, .slice none 0 0] 25)) = w1 at *
  refine (H1.out _ HQ.out.1.2.2).mono ?_
  rintro e w2 ⟨hb, hr⟩
  have hs1 := HQ.out.1.2.2.size
  have HP := Lib.hid (HQ.out.1.below hb)
  clear hb H1 HQ
  rcases hr with ⟨hok, v, rfl, hv⟩ | ⟨hok, rfl⟩
  rotate_left
  · obtain ⟨d0, d1, d2, d3⟩ := cells4i HP.out.1
    obtain ⟨f0, f1, f2, f3⟩ := frozen4 HP.out.1
    have HE := Lib.hid (HB1.out (.inl hok))
    clear hok
    go_wp2_with fail
    rw [HE.out.1, HE.out.2]
    refine bodyPost_ret (v := .tuple #[.agg #[.int .i64 0, .int .i64 0, .string ⟨#[]⟩, .slice none 0 0], .bool false]) ?_ rfl (HP.out.no _ _ _ _)
    exact results_cell_row2 Tryd.results5 _ _ (w.heap.size + 1) _ _ _ _ rfl (set4 HP.out.1 _ _ _ _) Tryd.underlying25 rfl (by kernel_rfl)
  · have hst := ApW.start HP.out hv hs1
    have HOK := Lib.hid hok
    have HST := Lib.hid hst
    obtain ⟨T1, x1, rfl⟩ := hv.iface
    clear hok hv hst HP
    go_wp2_with fail
    generalize w2.heap.size = mb at *
    go_loopw [26] (fun i wr => ∃ (j c : Nat) (F : Int → Option Nd), j ≤ len ∧ i = .int .i64 j ∧ c ≤ j ∧ allB (g.drop j) = allB g ∧ (∀ x, (F x).or (fdB (ns.drop j) (g.drop j) x) = fdB ns g x) ∧ ApW w mb c F k n s f (.iface T1 x1) wr) (fun i _ => len - (intOf i).toNat)
    case atStart => exact ⟨0, 0, fun _ => none, Nat.zero_le _, rfl, Nat.le_refl _, rfl, fun _ => rfl, HST.out⟩
    case round =>
      obtain ⟨j, c, F, hj, rfl, hc, hv, hF, hp⟩ := hrel
      by_cases hlt : j < len
      · obtain ⟨kk, nn, s', kids, hd⟩ := Fr.drop_cons j g (by rw [HN.out]; exact hlt)
        obtain ⟨b, o, rfl, hlb, hbb, hrow⟩ := HK.out.2.2.2 (by rw [HN.out]; omega)
        obtain ⟨hi0, hfit, A', cap', c0, c1, c2, c3, c4, hkid⟩ := BdAt.elem j ns g b o hrow hd
        rw [hd, allB_cons] at hv
        have hlo : (⟨b, o, none⟩ : Addr).block < w.heap.size := Nat.lt_of_lt_of_le hbb HHI.out
        have hb := hp.1.2.2
        have k0 := (hb.cell (p := ⟨b, o + j * 5, none⟩) hlo).trans c0
        have k1 := (hb.cell (p := ⟨b, o + j * 5 + 1, none⟩) hlo).trans c1
        have k2 := (hb.cell (p := ⟨b, o + j * 5 + 2, none⟩) hlo).trans c2
        have k3 := (hb.cell (p := ⟨b, o + j * 5 + 3, none⟩) hlo).trans c3
        have k4 := (hb.cell (p := ⟨b, o + j * 5 + 4, none⟩) hlo).trans c4
        have hne := nodes_elem j g hd
        have hlen := HNS.out.trans HN.out.symm
        have HKN := Lib.hid (fun o => or_known (F := F) (o := o) hlen hd rfl hF)
        have HPT := Lib.hid (or_put (F := F) hlen hd rfl hF)
        have hba : Below wr.heap.size wr (wr.alloc (.cells #[.int .i64 (ns.getD j 0), .int .i64 kk, .int .i64 nn, .string s', .slice A' kids.len cap'] 42)) := (Below.refl _ _).alloc (Nat.le_refl _) _
        have hb2 := hb.trans (hba.mono hb.size)
        have C1 := nodeOf_any kk nn s' kids A' cap' lo2 hi2 _ (hkid.below hb2 HHI.out) (Nat.le_trans HHI.out hb2.size) hfit (by have := HNG.out; omega) (tab_below HT.out hb2 hlt0)
        have hkey : keyOf Tryd.prog 48 (.int .i64 (ns.getD j 0)) = some (.int .i64 (ns.getD j 0)) := keyOf_int_mk Tryd.underlying48 (WalkArith.wf_i64 hi0)
        generalize ns.getD j 0 = n0 at *
        have H1 := Lib.hid C1
        have HP0 := Lib.hid hp
        have HBA := Lib.hid hba
        have hmb : mb + 2 ≤ wr.heap.size := hp.2.2.2.2.1
        clear C1 hp c0 c1 c2 c3 c4 hkid hrow hd hb hb2 hba hlo hne hfit hF hlen hi0
        go_wp2_with fail
        refine H1.out.mono ?_
        rintro e w3 ⟨hb3, hr⟩
        have hb13 := HBA.out.trans (hb3.mono HBA.out.size)
        have hp3 := HP0.out.below hb13
        have hbox := (Blk.new wr 42 #[.int .i64 n0, .int .i64 kk, .int .i64 nn, .string s', .slice A' kids.len cap']).below hb3 (by simp)
        have hsz3 := hb3.size
        have HP3 := Lib.hid hp3
        clear H1 HP0 HBA hb13 k0 k1 k2 k3 k4
        rcases hr with ⟨hok, v, rfl, hv2⟩ | ⟨hok, rfl⟩
        rotate_left
        · have HE := Lib.hid (HB1.out (.inr (by rw [← hv, hok]; rfl)))
          have HP := Lib.hid hp3.1
          obtain ⟨d0, d1, d2, d3⟩ := cells4i hp3.1.1
          obtain ⟨f0, f1, f2, f3⟩ := frozen4 hp3.1.1
          clear hb3 hok hv hp3 hbox
          go_wp2_with fail
          rw [HE.out.1, HE.out.2]
          refine bodyPost_ret (v := .tuple #[.agg #[.int .i64 0, .int .i64 0, .string ⟨#[]⟩, .slice none 0 0], .bool false]) ?_ rfl (HP.out.no _ _ _ _)
          exact results_cell_row2 Tryd.results5 _ _ (w.heap.size + 1) _ _ _ _ rfl (set4 HP.out.1 _ _ _ _) Tryd.underlying25 rfl (by kernel_rfl)
        · have HV : Hid (allB (g.drop (j + 1)) = allB g) := Lib.hid (by rw [← hv, hok]; rfl)
          obtain ⟨D, hD, hI, hH, hX⟩ := hp3.2.1
          have e0 := hp3.2.2.1.cell 0
          have b0 := hbox.cell 0
          simp only [List.getElem?_toArray, List.getElem?_cons_zero] at e0 b0
          have PUT := fun w4 h4 h5 => ApW.put (w4 := w4) (n0 := n0) (m := ⟨kk, nn, s', kids⟩) (v := v) hp3 hI hH hX hok hv2 (by simp; omega) h4 h5
          have HPUT := Lib.hid PUT
          obtain ⟨T2, z2, rfl⟩ := hv2.iface
          have HD := Lib.hid hD
          have hhn := hH n0
          cases hlk : F n0 with
          | none =>
            rw [hlk] at hhn
            have HHN : Hid (has D (.int .i64 n0) = false) := Lib.hid hhn
            have HF := Lib.hid (HPT.out hlk)
            clear hb3 hok hv hp3 hbox hv2 hD hI hH hX PUT hhn hlk HPT HKN HP3
            go_wp2_with (first
              | (at_lookup; refine wpList_lookup_own_ok _ rfl _ _ 47 rfl 48 44 lawA Tryd.underlying47 heldA (zeroA _) (.held .nilIface) [] rfl mb c D rfl HD.out _ _ rfl hkey ?_; intro v ps hv; rw [HHN.out]; clear hv)
              | (at_mapUpdate; refine wpList_mapUpdate_own _ rfl _ _ _ 47 rfl 48 44 lawA Tryd.underlying47 heldA mb c D rfl HD.out (by unfold maxLen; omega) _ _ _ rfl rfl hkey (.held (.iface T2 z2)) [] rfl ?_; intro w4 hown1 hgrow1; have HO1 := Lib.hid hown1; have HG1 := Lib.hid hgrow1; clear hown1 hgrow1))
            go_roundw
            case rel => exact ⟨j + 1, c + 1, _, by omega, by go_num, by omega, HV.out, HF.out, HPUT.out w4 HO1.out HG1.out⟩
            case measure => simp [intOf]; omega
          | some o =>
            rw [hlk] at hhn
            have HHN : Hid (has D (.int .i64 n0) = true) := Lib.hid hhn
            have HF := Lib.hid (HKN.out o hlk)
            clear hb3 hok hv hp3 hbox hv2 hD hI hH hX PUT hhn hlk HPT HKN HPUT
            go_wp2_with (at_lookup; refine wpList_lookup_own_ok _ rfl _ _ 47 rfl 48 44 lawA Tryd.underlying47 heldA (zeroA _) (.held .nilIface) [] rfl mb c D rfl HD.out _ _ rfl hkey ?_; intro v ps hv; rw [HHN.out]; clear hv)
            go_roundw
            case rel => exact ⟨j + 1, c, F, by omega, by go_num, by omega, HV.out, HF.out, HP3.out⟩
            case measure => simp [intOf]; omega
      · obtain rfl : j = len := by omega
        have hdl : g.drop j = .nil := by
          have h1 := Fr.drop_len g
          rwa [HN.out] at h1
        have ha : allB g = true := by rw [← hv, hdl]; rfl
        have hF2 : ∀ x, F x = fdB ns g x := fun x => by
          have h1 := hF x
          rw [hdl] at h1
          rw [← h1]
          cases ns.drop j <;> simp [fdB]
        have HE := Lib.hid (HB2.out HOK.out ha)
        have hsh := (validT_fits HOK.out).1
        have hnf := (validT_fits HOK.out).2.2
        have hn2 := apT_nodes (ns := ns) ha hsh
        have hwf := wf_ap (ns := ns) ha hsh
        obtain ⟨p1, p2, p3, p4, p5, p6⟩ := hp
        have C2 := rpT_any ap_ef (ap_rep ns g mb (mb + 1) wr.heap.size c F hF2 (by omega) (by omega)) s f k n 30 (.iface T1 x1) w.heap.size mb () [] wr hsh p4 (by omega) (fun x hx => nomatch hx) ⟨rfl, p3.cell 0, p2, Nat.le_refl _⟩ (Nat.le_refl _) (by show 0 + nodes f ≤ 2097152; omega)
        have C2' : Calls Tryd.prog 17 #[.iface T1 x1, .func (.func 18) #[] #[.pointer (some ⟨mb + 1, 0, none⟩)]] wr fun e w' => RpRes (ApI mb (mb + 1) wr.heap.size c F) (fun x => mb ≤ x ∧ x < wr.heap.size) wr [] (stT (fun a _ => a) () k n f) (apT ns g k n s f) e w' := C2
        have C3 := fun v' lo hi w3 (hv : NdV w3 lo hi (apT ns g k n s f).k (apT ns g k n s f).n (apT ns g k n s f).s (apT ns g k n s f).f v') (hh : hi ≤ w3.heap.size) => vt_any (apT ns g k n s f) v' lo hi w3 hwf.1 hwf.2 hv hh (by omega)
        generalize vtF (apT ns g k n s f) = rm at *
        generalize vtB (apT ns g k n s f) = rok at *
        generalize apT ns g k n s f = m at *
        have H2 := Lib.hid C2'
        have H3 := Lib.hid C3
        have HQ2 := Lib.hid p1
        clear C2 C2' C3 hsh hnf hn2 hwf p1 p2 p3 p4 hF hF2 ha hdl hv HB1 HB2 HOK
        have hmf : ∀ (fn : Fn) (first cap : Array Value) (w : World), (Instr.makeFunc fn first cap).run Tryd.prog w = .ok (.func fn first cap) w := fun _ _ _ _ => rfl
        go_wp2_with fail
        refine H2.out.mono ?_
        rintro e w3 ⟨Q3, v3, rfl, _, hw3, _, hv3⟩
        have hb3 : Below wr.heap.size wr w3 := hw3.below (Nat.le_refl _) fun x hx => nomatch hx
        have hv3' := hv3.range (lo := 0) (hi := w3.heap.size) fun x hx => ⟨Nat.zero_le _, hx.2.1⟩
        have C4 := H3.out v3 _ _ w3 hv3' (Nat.le_refl _)
        have q3 := HQ2.out.below hb3
        obtain ⟨T3, x3, rfl⟩ := hv3'.iface
        have H4 := Lib.hid C4
        have HQ3 := Lib.hid q3
        clear hb3 hw3 hv3 hv3' C4 q3 H2 H3 HQ2
        go_wp2_with fail
        refine H4.out.mono ?_
        rintro e w4 ⟨A4, c4, rfl, hm⟩
        have q4 := HQ3.out.below (made_below hm)
        obtain ⟨d0, d1, d2, d3⟩ := cells4i q4.1
        obtain ⟨f0, f1, f2, f3⟩ := frozen4 q4.1
        obtain ⟨mk, mn, ms, mf⟩ := rm
        have HY := Lib.hid (HQ3.out.yes (k := mk) (n := mn) (s := ms) hm (.int .i64 mk) (.int .i64 mn) (.string ms) (.slice A4 mf.len c4) rok)
        have HQ4 := Lib.hid q4
        clear q4 hm HQ3 H4
        go_wp2_with fail
        rw [HE.out.1, HE.out.2]
        refine bodyPost_ret (v := .tuple #[.agg #[.int .i64 mk, .int .i64 mn, .string ms, .slice A4 mf.len c4], .bool rok]) ?_ rfl HY.out
        exact results_cell_row2 Tryd.results5 _ _ (w.heap.size + 1) _ _ _ _ rfl (set4 HQ4.out.1 _ _ _ _) Tryd.underlying25 rfl (by kernel_rfl)
end Go.Proofs.YtkgihpddjppmdaaDoor

/- A map whose keys are structs of two pointers and a length (impl.TermSame's 'seen'): a key that is not there; a key more. Condition: the blocks that the keys point to hold cells. -/
namespace Go.Proofs.YtkgihpddjppmdaaDoor
open Go.RowKit Go.ChangeMaps Go.MapKept

/-- A pair of rows as a key. -/
def kp (p q : Addr) (n : Int) : Value := .agg #[.pointer (some p), .pointer (some q), .int .i64 n]
theorem kp_check (e : Bool) (p q : Addr) (n : Int) (w : World) : (Instr.checkKey e 10000 59 (kp p q n)).run Tryd.prog w = .ok () w := by
  unfold kp
  kernel_rfl
theorem kp_ptr (d : Nat) {w : World} {p p' : Addr} {ca cb : Array Value} {ta tb : TypeId} (hne : p ≠ p') (ha : Blk w p.block ta ca) (hb : Blk w p'.block tb cb) :
    (Op.equalIn (d + 1) 57 (.pointer (some p)) (.pointer (some p'))).run Tryd.prog w = .ok false w := by
  have hi : (Tryd.prog.info? 25).map (fun i => i.size) = some 4 := by kernel_rfl
  obtain ⟨j, hj, hz⟩ := Option.map_eq_some_iff.1 hi
  simp [Op.equalIn, run_underlying Tryd.underlying57, sizeOf, typeInfo, hj, hz, run_sameAddr_other w hne ha hb]
theorem kp_part0 (p q : Addr) (n : Int) (w : World) : (part 57 #[.pointer (some p), .pointer (some q), .int .i64 n] 0).run Tryd.prog w = .ok (.pointer (some p)) w := by kernel_rfl
theorem kp_eq_miss {w : World} {p p' q q' : Addr} {n n' : Int} {ca cb : Array Value} {ta tb : TypeId} (hne : p ≠ p') (ha : Blk w p.block ta ca) (hb : Blk w p'.block tb cb) :
    (Op.equal 59 (kp p q n) (kp p' q' n')).run Tryd.prog w = .ok false w := by
  have h1 := kp_ptr 9998 hne ha hb
  have hs : Tryd.prog.stoodInHeld 59 = false := by kernel_rfl
  unfold kp
  have e : ∀ x y, Op.equal 59 x y = Op.equalIn (9998 + 1 + 1) 59 x y := fun _ _ => rfl
  rw [e]
  generalize 9998 = d at *
  rw [Op.equalIn]
  simp [run_underlying Tryd.underlying59, hs, kp_part0, h1]
/-- No entry has the key's first row. -/
def Unseen (w : World) (p : Addr) (es : List MapEntry) : Prop := ∀ e ∈ es, ∃ p' q' n', e.key = kp p' q' n' ∧ p ≠ p' ∧ ∃ tb cb, Blk w p'.block tb cb
theorem kp_ask {w : World} {p q : Addr} {n : Int} {ca : Array Value} {ta : TypeId} (ha : Blk w p.block ta ca) : ∀ (es : List MapEntry) (i : Nat), Unseen w p es →
    (Instr.findAsking 59 (kp p q n) es i).run Tryd.prog w = .ok none w
  | [], i, _ => by simp [Instr.findAsking]
  | e :: es, i, h => by
    obtain ⟨p', q', n', he, hne, tb, cb, hb⟩ := h e (by simp)
    have ih := kp_ask (q := q) (n := n) ha es (i + 1) fun x hx => h x (by simp [hx])
    simp [Instr.findAsking, he, kp_eq_miss hne ha hb, ih]
theorem kp_find {w : World} {p q : Addr} {n : Int} {ca : Array Value} {ta : TypeId} (ha : Blk w p.block ta ca) (es : List MapEntry) (h : Unseen w p es) :
    (Instr.findKey 59 (kp p q n) es).run Tryd.prog w = .ok none w := by
  have h1 := kp_ask (q := q) (n := n) ha es 0 h
  cases es with
  | nil => simp [Instr.findKey, Instr.findNow, run_underlying Tryd.underlying59]
  | cons e es =>
    have hn : ∀ fs x, Instr.findNow (.struct fs) x (e :: es) 0 = none := fun fs x => by simp [Instr.findNow, Instr.sameNow]
    simp [Instr.findKey, run_underlying Tryd.underlying59, hn, h1]
/-- 'seen[pair]' is false where no entry has the pair's first row. -/
theorem seen_miss {w : World} {b clock : Nat} {es : Array MapEntry} {p q : Addr} {n : Int} {ca : Array Value} {ta : TypeId} (hb : w.heap[b]? = some (.map es clock)) (ha : Blk w p.block ta ca) (h : Unseen w p es.toList) :
    (Instr.lookup 54 (.map (some b)) (kp p q n) false).run Tryd.prog w = .ok (.bool false) w := by
  have hg : (getObj b).run Tryd.prog w = .ok (.map es clock) w := MapKept.run_getObj_map hb
  have hz : (zeroValue 4).run Tryd.prog w = .ok (.bool false) w := by kernel_rfl
  simp [Instr.lookup, run_underlying Tryd.underlying54, hg, kp_check, kp_find ha es.toList h, hz]
/-- 'seen[pair] = true' puts one entry more. -/
theorem seen_put {w : World} {b clock : Nat} {es : Array MapEntry} {p q : Addr} {n : Int} {ca : Array Value} {ta : TypeId} (v : Value) (hb : w.heap[b]? = some (.map es clock)) (ha : Blk w p.block ta ca) (h : Unseen w p es.toList) :
    (Instr.mapUpdate 54 (.map (some b)) (kp p q n) v).run Tryd.prog w = .ok () (setBlock w b (.map (es.push { key := kp p q n, val := v, born := clock }) (clock + 1))) := by
  have hlt : b < w.heap.size := by
    rcases Nat.lt_or_ge b w.heap.size with h | h
    · exact h
    · rw [Array.getElem?_eq_none h] at hb; cases hb
  have hg : (getObj b).run Tryd.prog w = .ok (.map es clock) w := MapKept.run_getObj_map hb
  have hs : ∀ o, (setObj b o).run Tryd.prog w = .ok () (setBlock w b o) := fun o => MapKept.run_setObj_map o hb
  simp [Instr.mapUpdate, run_underlying Tryd.underlying54, hg, hs, kp_check, kp_find ha es.toList h]
end Go.Proofs.YtkgihpddjppmdaaDoor

/- The pairs of terms that impl.TermSame works on: a pair's rows taken apart into pairs. No condition. -/
namespace Go.Proofs.YtkgihpddjppmdaaDoor
open Go.RowKit

/-- A pair of terms, with the blocks of their rows. -/
structure It where
  k : Int
  n : Int
  s : ByteArray
  f : Fr
  A : Option Addr
  cap : Nat
  L : List Nat
  k' : Int
  n' : Int
  s' : ByteArray
  g : Fr
  B : Option Addr
  cap' : Nat
  M : List Nat
def It.left (x : It) : List Value := [.int .i64 x.k, .int .i64 x.n, .string x.s, .slice x.A x.f.len x.cap]
def It.right (x : It) : List Value := [.int .i64 x.k', .int .i64 x.n', .string x.s', .slice x.B x.g.len x.cap']
def It.cs (x : It) : List Value := x.left ++ x.right
def It.ok (w : World) (x : It) : Prop := OwnS w x.f x.A x.cap x.L ∧ OwnS w x.g x.B x.cap' x.M
def It.eq (x : It) : Bool := eqT x.k x.n x.s x.f x.k' x.n' x.s' x.g
def stL (xs : List It) : List Nat := xs.flatMap (·.L)
def stM (xs : List It) : List Nat := xs.flatMap (·.M)
def stN (xs : List It) : Nat := (xs.map fun x => nodes x.f + 1).sum
def stC (xs : List It) : List Value := xs.flatMap It.cs
theorem stC_len (xs : List It) : (stC xs).length = xs.length * 8 := by
  induction xs with
  | nil => rfl
  | cons x xs ih =>
    have e : stC (x :: xs) = x.cs ++ stC xs := rfl
    rw [e, List.length_append, ih]
    simp [It.cs, It.left, It.right]; omega
theorem stC_app (xs ys : List It) : stC (xs ++ ys) = stC xs ++ stC ys := by simp [stC]
theorem stL_app (xs ys : List It) : stL (xs ++ ys) = stL xs ++ stL ys := by simp [stL]
theorem stM_app (xs ys : List It) : stM (xs ++ ys) = stM xs ++ stM ys := by simp [stM]
theorem stN_app (xs ys : List It) : stN (xs ++ ys) = stN xs + stN ys := by simp [stN]

/-- The four cells of a term. -/
def four (w : World) (b o : Nat) (cs : List Value) : Prop :=
  w.cell? ⟨b, o, none⟩ = cs[0]? ∧ w.cell? ⟨b, o + 1, none⟩ = cs[1]? ∧ w.cell? ⟨b, o + 2, none⟩ = cs[2]? ∧ w.cell? ⟨b, o + 3, none⟩ = cs[3]?

/-- Two rows of one length, taken apart. -/
theorem pairs_of (w : World) (f : Fr) : ∀ (g : Fr) (b o b' o' : Nat) (L M : List Nat), OwnAt w f b o L → OwnAt w g b' o' M → f.len = g.len →
    ∃ zs : List It, zs.length = f.len ∧ (∀ x ∈ zs, x.ok w) ∧ stL zs = L ∧ stM zs = M ∧ zs.all It.eq = eqF f g ∧ stN zs = nodes f ∧
      ∀ i x, zs[i]? = some x → four w b (o + i * 4) x.left ∧ four w b' (o' + i * 4) x.right := by
  induction f with
  | nil =>
    intro g b o b' o' L M hf hg hl
    have hgn : g = .nil := by
      cases g with
      | nil => rfl
      | cons _ _ _ _ _ => simp [Fr.len] at hl
    subst hgn
    have e1 : L = [] := hf
    have e2 : M = [] := hg
    subst e1 e2
    exact ⟨[], rfl, (fun x hx => by cases hx), rfl, rfl, rfl, rfl, (fun i x hx => by simp at hx)⟩
  | cons k n s kids rest _ ihr =>
    intro g b o b' o' L M hf hg hl
    cases g with
    | nil => simp [Fr.len] at hl
    | cons k' n' s' kids' rest' =>
      obtain ⟨A, cap, L1, L2, rfl, _, ⟨c0, c1, c2, c3⟩, h1, h2, h3, hr⟩ := hf
      obtain ⟨B, cap', M1, M2, rfl, _, ⟨d0, d1, d2, d3⟩, g1, g2, g3, gr⟩ := hg
      obtain ⟨zs, z1, z2, z3, z4, z5, z6, z7⟩ := ihr rest' b (o + 4) b' (o' + 4) L2 M2 hr gr (by simpa [Fr.len] using hl)
      refine ⟨⟨k, n, s, kids, A, cap, L1, k', n', s', kids', B, cap', M1⟩ :: zs, by simp [Fr.len, z1], fun x hx => ?_, ?_, ?_, ?_, ?_, fun i x hx => ?_⟩
      · rcases List.mem_cons.1 hx with rfl | hx
        · exact ⟨⟨h1, h2, h3⟩, ⟨g1, g2, g3⟩⟩
        · exact z2 x hx
      · simp only [stL, List.flatMap_cons]
        rw [← z3]; rfl
      · simp only [stM, List.flatMap_cons]
        rw [← z4]; rfl
      · rw [List.all_cons, z5, eqF_cons]; rfl
      · simp only [stN, List.map_cons, List.sum_cons, nodes]
        have : (zs.map fun x => nodes x.f + 1).sum = nodes rest := z6
        omega
      · cases i with
        | zero =>
          obtain rfl : _ = x := by simpa using hx
          exact ⟨⟨c0, c1, c2, c3⟩, ⟨d0, d1, d2, d3⟩⟩
        | succ i =>
          obtain ⟨p, q⟩ := z7 i x (by simpa using hx)
          rw [show o + 4 + i * 4 = o + (i + 1) * 4 by omega] at p
          rw [show o' + 4 + i * 4 = o' + (i + 1) * 4 by omega] at q
          exact ⟨p, q⟩

/-- A row cut by its last element. -/
theorem ownsRow_pop {w : World} {base : Nat} {e : TypeId} {size g n cap : Nat} {xs ys : List Value} (h : w.ownsRow base e size (.slice (some ⟨g, 0, none⟩) (n + 1) cap) (n + 1) (xs ++ ys)) (hx : xs.length = n * size) :
    w.ownsRow base e size (.slice (some ⟨g, 0, none⟩) n cap) n xs := by
  refine ⟨hx, ?_⟩
  rcases h.2 with ⟨h, _⟩ | ⟨g', cap', cur, e1, hg, hc, h1, h2, h3, h4⟩
  · simp at h
  · injection e1 with e1 e2 e3
    injection e1 with e1
    injection e1 with e1
    subst e1 e3
    refine .inr ⟨g, cap, cur, rfl, hg, hc, by omega, h2, h3, ?_⟩
    have h5 := congrArg (List.take (n * size)) h4
    rw [List.take_take, Nat.min_eq_left (Nat.mul_le_mul_right _ (by omega))] at h5
    rw [h5, ← hx, List.take_left]
end Go.Proofs.YtkgihpddjppmdaaDoor
