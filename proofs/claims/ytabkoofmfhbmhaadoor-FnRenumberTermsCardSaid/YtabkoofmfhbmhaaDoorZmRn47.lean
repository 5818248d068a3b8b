/- spec.RenumberTerms, impl.RenumberTerms. Condition: the row lies in memory, the table of signs in its variable. -/
import Derived.Test.YtabkoofmfhbmhaaDoorProg
import Derived.Test.YtabkoofmfhbmhaaDoorZmRn46
import Derived.Test.YtabkoofmfhbmhaaDoorImplV
namespace Go.Proofs.YtabkoofmfhbmhaaDoor
open Go.RowKit Go.Maps

/-- What both RenumberTerms answer. -/
def rnF (f : Fr) : Fr := if allV f = true then renF (allVars f) f else .nil
def RnRes (w : World) (f : Fr) (e : Ending) (w' : World) : Prop := ∃ A cap, e = .returned (.tuple #[.slice A (rnF f).len cap, .bool (allV f)]) ∧ Made w (rnF f) A cap w'
theorem rnF_nodes (f : Fr) : nodes (rnF f) ≤ nodes f := by
  unfold rnF
  split
  · rw [renF_nodes]; exact Nat.le_refl _
  · exact Nat.zero_le _

set_option maxHeartbeats 1000000 in
/-- spec.RenumberTerms. -/
theorem specRenT_any (f : Fr) (A : Option Addr) (cap lo hi : Nat) (w : World) (hk : KidsAt w lo hi f A cap) (hh : hi ≤ w.heap.size) (hnd : nodes f ≤ 1048576) :
    Calls Tryd.prog 10 #[.slice A f.len cap] w fun e w' => RnRes w f e w' := by
  have C1 := specAll_any f A cap lo hi w hk hh hnd
  have C2 := fun w1 (hb : Below w.heap.size w w1) => specRen_any f A cap lo hi w1 (hk.below hb hh) (Nat.le_trans hh hb.size) hnd
  have H1 := Lib.hid C1
  have H2 := Lib.hid C2
  clear C1 C2 hk hh hnd
  cases hv : allV f
  · have HV : Hid (rnF f = .nil) := Lib.hid (by unfold rnF; rw [hv]; rfl)
    have HV2 := Lib.hid hv
    rw [hv] at H1
    clear hv
    go_enter Tryd.func10, Tryd.ntmps10
    go_wp2_with fail
    refine H1.out.mono ?_
    rintro e w2 ⟨rfl, hb⟩
    have HB := Lib.hid hb
    clear hb
    go_wp2_with fail
    go_ret2
    refine ⟨some ⟨w2.heap.size, 0, none⟩, 0, ?_, ?_⟩
    · rw [HV.out, HV2.out]; rfl
    · rw [HV.out]
      exact ⟨[], ⟨Nat.le_refl _, Nat.zero_le _, .inl ⟨rfl, rfl⟩⟩, List.nodup_nil, fun x hx => by simp at hx, HB.out.alloc HB.out.size _⟩
  · have HV : Hid (rnF f = renF (allVars f) f) := Lib.hid (by unfold rnF; rw [hv]; rfl)
    have HV2 := Lib.hid hv
    rw [hv] at H1
    clear hv
    go_enter Tryd.func10, Tryd.ntmps10
    go_wp2_with fail
    refine H1.out.mono ?_
    rintro e w2 ⟨rfl, hb⟩
    have HB := Lib.hid hb
    clear hb
    go_wp2_with fail
    refine (H2.out _ HB.out).mono ?_
    rintro e w3 ⟨A3, cap3, rfl, hm⟩
    have HM := Lib.hid (hm.up HB.out)
    clear hm
    go_wp2_with fail
    go_ret2
    refine ⟨A3, cap3, ?_, ?_⟩
    · rw [HV.out, HV2.out]; rfl
    · rw [HV.out]; exact HM.out

/-- The loop's relation: j nodes of the row in block g0 are renamed; the numbering lies in h2 and h2 + 1. -/
def RtP (w : World) (f : Fr) (V : List Int) (g0 h2 j : Nat) (wr : World) : Prop :=
  ∃ (vj : Value) (a : List Int), Num wr (h2 + 2) (h2 + 1) h2 vj a ∧ varsF a (f.drop j) = V ∧ a.length + nodes (f.drop j) ≤ nodes f ∧ Below w.heap.size w wr ∧ (∃ cur, Blk wr g0 57 cur ∧ cur.size = f.len) ∧ NdRow wr (g0 + 1) h2 (f.drop j) g0 j ∧ (∀ W, a <+: W → NdRowIn wr (Fresh (h2 + 2) wr.heap.size vj) (renF W (f.take j)) g0 0) ∧ g0 < h2 ∧ w.heap.size ≤ g0 ∧ h2 + 2 ≤ wr.heap.size

theorem RtP.step {w wr w3 : World} {f : Fr} {V : List Int} {g0 h2 j : Nat} {vj : Value} {a : List Int} {k n : Int} {s : ByteArray} {kids : Fr} {cur : Array Value} {e : Ending} (hd : f.drop j = .cons k n s kids (f.drop (j + 1))) (hj : j < f.len)
    (hva : varsF a (f.drop j) = V) (hla : a.length + nodes (f.drop j) ≤ nodes f) (hbw : Below w.heap.size w wr) (hcur : Blk wr g0 57 cur) (hcs : cur.size = f.len) (hrow : NdRow wr (g0 + 1) h2 (f.drop j) g0 j)
    (hrw : ∀ W, a <+: W → NdRowIn wr (Fresh (h2 + 2) wr.heap.size vj) (renF W (f.take j)) g0 0) (hlt : ∀ x ∈ ownV vj, h2 + 2 ≤ x ∧ x < wr.heap.size) (hg : g0 < h2) (hw : w.heap.size ≤ g0) (hh : h2 + 2 ≤ wr.heap.size)
    (hr : NsRes wr (h2 + 2) (h2 + 1) h2 vj (varsT a k n kids) k n s kids e w3) : ∃ u T z, e = .returned u ∧ u = .iface T z ∧
    RtP w f V g0 h2 (j + 1) (w3.setCell ⟨g0, j, none⟩ u) ∧ (∃ u', w3.cell? ⟨g0, j, none⟩ = some u') ∧ w3.frozen? ⟨g0, j, none⟩ = false := by
  obtain ⟨v3, u, rfl, hN3, hw3, hn3, hnode⟩ := hr
  obtain ⟨T, z, hu⟩ := (hnode _ (List.prefix_refl _)).iface
  refine ⟨u, T, z, rfl, hu, ?_⟩
  have hnot : ∀ x, x < h2 → x ∉ (h2 + 1) :: h2 :: ownV vj := fun x hx e => by
    simp only [List.mem_cons] at e
    rcases e with e | e | e
    · omega
    · omega
    · have := (hlt x e).1; omega
  have q2 := hw3.blk hcur (hnot _ hg)
  have hsz : (w3.setCell ⟨g0, j, none⟩ u).heap.size = w3.heap.size := by simp [World.setCell]
  have hs3 := hw3.size
  have hvl := varsT_len a k n kids
  have e1 : nodes (f.drop j) = 1 + nodes kids + nodes (f.drop (j + 1)) := by rw [hd]; rfl
  have hx3 : ∀ x, x < wr.heap.size → x ∉ ownV vj → x ∉ ownV v3 := fun x hx h e => by
    rcases hn3 x e with h' | h'
    · exact h h'
    · omega
  have hgl := hcur.lt
  have g3 : g0 ∉ ownV v3 := hx3 g0 hgl fun e => by have := (hlt g0 e).1; omega
  have hcell : ∀ i, w3.cell? ⟨g0, i, none⟩ = wr.cell? ⟨g0, i, none⟩ := fun i => by rw [q2.cell, hcur.cell]
  have far : ∀ p : Addr, p.block ≠ g0 → (w3.setCell ⟨g0, j, none⟩ u).cell? p = w3.cell? p := fun p hp => World.cell?_of_block (heap_setCell_other w3 _ p.block u hp)
  obtain ⟨b0, ⟨D, hD, hND⟩, ho, l1, l2, l3⟩ := hN3
  refine ⟨⟨v3, _, ⟨b0.far (p := ⟨g0, j, none⟩) (by simp; omega) u, ⟨D, hD.setCell (by simp; omega) u, hND⟩, ho.keep (L := [g0]) ((Wrote.refl _ _).set_ (.inl (by simp)) u) (fun x hx e => g3 (by simp at e; rw [← e]; exact hx)), l1, l2, l3⟩, ?_, by omega, ?_, ⟨_, q2.set_ j u, by simpa using hcs⟩, ?_, fun W hW => ?_, hg, hw, by rw [hsz]; omega⟩, ⟨_, (q2.cell j).trans (Array.getElem?_eq_getElem (by omega))⟩, q2.frozen j⟩
  · rw [hd] at hva; exact hva
  · refine (hbw.trans (hw3.below hbw.size fun x hx => ?_)).setCell hw u
    simp only [List.mem_cons] at hx
    rcases hx with e | e | e
    · omega
    · omega
    · have := (hlt x e).1; omega
  · rw [hd] at hrow
    refine NdRow.keep (w := wr) (fun p hp hp' => (far p (by omega)).trans (hw3.cell (by omega) (hnot _ hp'))) (Nat.le_refl _) (Nat.le_refl _) _ g0 (j + 1) (fun i _ => ?_) hrow.2
    rw [World.cell?_setCell_other w3 _ _ _ (fun e => by injection e with _ e _; omega)]
    exact hcell _
  · rw [hsz, ← renF_take]
    refine NdRowIn.put (w0 := wr) (P := Fresh (h2 + 2) wr.heap.size vj) (Q := Fresh wr.heap.size w3.heap.size v3) (show (renF W f).drop j = .cons k (renN W k n) s (renF W kids) (renF W (f.drop (j + 1))) by rw [renF_drop, hd]; rfl) (by rw [renF_len]; omega)
      (by rw [renF_take]; exact hrw W ((varsT_pre a k n kids).trans hW)) (hnode W hW) (fun p hp => hw3.cell hp.2.1 fun e => ?_) hcell ((q2.cell j).trans (Array.getElem?_eq_getElem (by omega))) (fun x hx => ⟨hx.1, by have := hx.2.1; omega, hx3 x hx.2.1 hx.2.2⟩) (fun x hx => ⟨by have := hx.1; omega, hx.2⟩) ⟨fun h => by have := h.1; omega, fun h => by have := h.1; omega⟩
    simp only [List.mem_cons] at e
    have h0 := hp.1
    rcases e with e | e | e
    · omega
    · omega
    · exact hp.2.2 e

set_option maxRecDepth 100000 in
set_option maxHeartbeats 4000000 in
/-- impl.RenumberTerms. -/
theorem implRenT_any (f : Fr) (A : Option Addr) (cap lo hi : Nat) (w : World) (hk : KidsAt w lo hi f A cap) (hh : hi ≤ w.heap.size) (hnd : nodes f ≤ 1048576) (ht : nv.Tab w) :
    Calls Tryd.prog 9 #[.slice A f.len cap] w fun e w' => RnRes w f e w' := by
  have C1 := nodesOf2_any f A cap lo hi w hk hh hnd ht
  have H1 := Lib.hid C1
  have hl : f.len ≤ 1048576 := by have := len_le_nodes f; omega
  have HND := Lib.hid hnd
  clear C1 hk hnd ht hh
  have hmf : ∀ (fn : Fn) (first cap : Array Value) (w : World), (Instr.makeFunc fn first cap).run Tryd.prog w = .ok (.func fn first cap) w := fun _ _ _ _ => rfl
  go_enter Tryd.func9, Tryd.ntmps9
  go_wp2_with fail
  refine H1.out.mono ?_
  rintro e w2 ⟨hb2, hr⟩
  rcases hr with ⟨hok, rfl, hnp⟩ | ⟨hok, rfl⟩
  · have HV : Hid (rnF f = renF (allVars f) f) := Lib.hid (by unfold rnF; rw [hok]; rfl)
    have HOK := Lib.hid hok
    have HNP := Lib.hid hnp
    have HB2 := Lib.hid hb2
    have hsz := hb2.size
    generalize hn : f.len = len at *
    have HN := Lib.hid hn
    clear hok hb2 hnp hn
    go_wp2_with fail
    refine (newNum_any w2).mono ?_
    rintro e w4 ⟨rfl, hN, hb4, hs4⟩
    have hst : RtP w f (allVars f) w.heap.size w2.heap.size 0 w4 := by
      obtain ⟨hbn, ⟨cur, hcur, hcs⟩, hrow, hgl⟩ := HNP.out
      rw [← HN.out, Fr.take_len] at hrow
      exact ⟨_, [], hN, rfl, by show 0 + nodes f ≤ nodes f; omega, HB2.out.trans (hb4.mono hsz), ⟨cur, hcur.below hb4 hcur.lt, hcs⟩, NdRow.keep (fun p _ hp => hb4.cell hp) (Nat.le_refl _) (Nat.le_refl _) f _ 0 (fun i _ => by rw [(hcur.below hb4 hcur.lt).cell, hcur.cell]) hrow, fun W _ => by rw [show (renF W (f.take 0)) = .nil by cases f <;> rfl]; trivial, hcur.lt, Nat.le_refl _, by omega⟩
    have HST := Lib.hid hst
    clear hN hb4 hst HNP HB2
    go_wp2_with fail
    go_loopw [19] (fun i wr => ∃ (j : Nat), j ≤ len ∧ i = .int .i64 j ∧ shapeF (f.drop j) 30 = true ∧ RtP w f (allVars f) w.heap.size w2.heap.size j wr) (fun i _ => len - (intOf i).toNat)
    case atStart => exact ⟨0, Nat.zero_le _, rfl, allV_shape f HOK.out, HST.out⟩
    case round =>
      obtain ⟨j, hj, rfl, hsh, hp⟩ := hrel
      obtain ⟨vj, a, hNj, hva, hla, hbw, ⟨cur, hcur, hcs⟩, hrow, hrw, hg, hw, hh⟩ := hp
      by_cases hlt : j < len
      · obtain ⟨kk, nn, s', kids, hd⟩ := Fr.drop_cons j f (by rw [HN.out]; exact hlt)
        rw [hd, shapeF_cons, Bool.and_eq_true] at hsh
        have hlo := hNj.2.2.1.lt
        obtain ⟨vv, k0, hnv⟩ := NdRow.elem (i := 0) hrow (show (f.drop j).drop 0 = .cons kk nn s' kids (f.drop (j + 1)) by rw [hd]; rfl)
        rw [Nat.add_zero] at k0
        have e1 : nodes (f.drop j) = 1 + nodes kids + nodes (f.drop (j + 1)) := by rw [hd]; rfl
        have C2 := nsT_any kk nn 30 s' kids vv (w.heap.size + 1) w2.heap.size (w2.heap.size + 2) (w2.heap.size + 1) w2.heap.size vj a wr hsh.1 hnv (by omega) (Nat.le_refl _) hNj hh (by have := HND.out; omega)
        have STEP := fun (w3 : World) (e : Ending) hr => RtP.step (w := w) (w3 := w3) (e := e) hd (by rw [HN.out]; exact hlt) hva hla hbw hcur hcs hrow hrw hlo hg hw hh hr
        obtain ⟨T1, z1, rfl⟩ := hnv.iface
        have H2 := Lib.hid C2
        have HSTEP := Lib.hid STEP
        have HS2 := Lib.hid hsh.2
        clear C2 STEP hsh hNj hva hla hbw hcur hcs hrow hrw hd hnv e1 hlo
        go_wp2_with fail
        refine H2.out.mono ?_
        rintro e w5 h2
        obtain ⟨u, T2, z2, rfl, rfl, hst, ⟨u', y1⟩, yf⟩ := HSTEP.out w5 e h2
        have HNX := Lib.hid hst
        clear h2 hst
        go_wp2_with fail
        go_roundw
        case rel => exact ⟨j + 1, by omega, by go_num, HS2.out, HNX.out⟩
        case measure => simp [intOf]; omega
      · obtain rfl : j = len := by omega
        have he : a = allVars f := by
          have h1 := Fr.drop_len f
          rw [HN.out] at h1
          rw [← hva, h1]; rfl
        have h1 := hrw a (List.prefix_refl a)
        rw [← HN.out, Fr.take_len] at h1
        rw [he] at h1
        have hns : NdS wr 0 wr.heap.size (renF (allVars f) f) (some ⟨w.heap.size, 0, none⟩) j := ⟨by rw [renF_len, HN.out]; exact Nat.le_refl _, by unfold maxLen; omega, fun _ => ⟨w.heap.size, rfl, Nat.zero_le _, hcur.lt, NdRowIn.range (fun x hx => ⟨Nat.zero_le _, hx.2.1⟩) _ _ _ h1⟩⟩
        have C3 := tmS_any (renF (allVars f) f) 30 (some ⟨w.heap.size, 0, none⟩) j 0 wr.heap.size wr (shapeF_ren _ (allVars_small f HOK.out) f 30 (allV_shape f HOK.out)) hns (Nat.le_refl _) (by rw [renF_nodes]; exact HND.out)
        have hlr : (renF (allVars f) f).len = j := by rw [renF_len, HN.out]
        rw [hlr] at C3
        have H3 := Lib.hid C3
        have HBW := Lib.hid hbw
        clear hNj hva hla hbw hcur hcs hrow hrw h1 hns C3 hsh
        go_wp2_with fail
        refine H3.out.mono ?_
        rintro e w6 ⟨A6, cap6, rfl, hm⟩
        have HM := Lib.hid (hm.up HBW.out)
        clear hm
        go_wp2_with fail
        go_ret2
        refine ⟨A6, cap6, ?_, ?_⟩
        · rw [HV.out, HOK.out, hlr]; rfl
        · rw [HV.out]; exact HM.out
  · have HV : Hid (rnF f = .nil) := Lib.hid (by unfold rnF; rw [hok]; rfl)
    have HB2 := Lib.hid hb2
    have HOK := Lib.hid hok
    clear hok hb2
    go_wp2_with fail
    go_ret2
    refine ⟨none, 0, ?_, ?_⟩
    · rw [HV.out, HOK.out]; rfl
    · rw [HV.out]; exact made_nil HB2.out
end Go.Proofs.YtabkoofmfhbmhaaDoor
