/- impl.nodesOf with the row that it makes; shapes of renamed terms. Condition: the row lies in memory, the table of signs in its variable. -/
import Derived.Test.YtabkoofmfhbmhaaDoorProg
import Derived.Test.YtabkoofmfhbmhaaDoorAll
import Derived.Test.YtabkoofmfhbmhaaDoorZmRn44
import Derived.Test.YtabkoofmfhbmhaaDoorZmRn45
import Derived.Test.YtabkoofmfhbmhaaDoorTermOf
namespace Go.Proofs.YtabkoofmfhbmhaaDoor
open Go.RowKit

theorem shape_of_valid {k n : Int} {s : ByteArray} {f : Fr} (h : validT k n s f = true) : shapeT k n s f 30 = true := by
  unfold validT at h
  rw [Bool.and_eq_true] at h
  exact h.1

/-- What nodesOf answers. -/
def NodesRes2 (w : World) (f : Fr) (e : Ending) (w' : World) : Prop :=
  Below w.heap.size w w' ∧ ((allV f = true ∧ e = .returned (.tuple #[.slice (some ⟨w.heap.size, 0, none⟩) f.len f.len, .bool true]) ∧ NPart w f w.heap.size f.len w') ∨ (allV f = false ∧ e = .returned (.tuple #[.slice none 0 0, .bool false])))
theorem nodup_len (N : Nat) : ∀ l : List Int, l.Nodup → (∀ x ∈ l, 0 ≤ x ∧ x < N) → l.length ≤ N := by
  induction N with
  | zero =>
    intro l _ h
    cases l with
    | nil => exact Nat.le_refl _
    | cons x _ => have := h x (by simp); omega
  | succ N ih =>
    intro l hn h
    have h1 := ih (l.erase (N : Int)) (hn.erase _) fun x hx => by
      have h2 := (hn.mem_erase_iff).1 hx
      have h3 := h x h2.2
      have h4 := h2.1
      omega
    rw [List.length_erase] at h1
    split at h1 <;> omega
theorem vars_range (f : Fr) : ∀ (d : Int) (acc : List Int), shapeF f d = true → (∀ x ∈ acc, 0 ≤ x ∧ x < (26 : Nat)) → ∀ x ∈ varsF acc f, 0 ≤ x ∧ x < (26 : Nat) := by
  induction f with
  | nil => intro d acc _ h; exact h
  | cons k n s kids rest ihk ihr =>
    intro d acc hs h
    rw [shapeF_cons, Bool.and_eq_true] at hs
    simp only [varsF]
    refine ihr d _ hs.2 ?_
    split
    · rename_i hk
      subst hk
      have h0 := hs.1
      unfold shapeT ownB at h0
      simp only [Bool.and_eq_true, Bool.or_eq_true, decide_eq_true_eq, beq_iff_eq] at h0
      unfold addV
      split
      · exact h
      · intro x hx
        rcases List.mem_append.1 hx with hx | hx
        · exact h x hx
        · have : x = n := by simpa using hx
          omega
    · exact ihk _ _ (shapeT_kids hs.1) h
theorem shapeF_ren (V : List Int) (hV : V.length ≤ 26) (f : Fr) : ∀ d, shapeF f d = true → shapeF (renF V f) d = true := by
  induction f with
  | nil => intro d h; exact h
  | cons k n s kids rest ihk ihr =>
    intro d hs
    rw [shapeF_cons, Bool.and_eq_true] at hs
    simp only [renF]
    rw [shapeF_cons, Bool.and_eq_true]
    refine ⟨?_, ihr d hs.2⟩
    have hk := ihk _ (shapeT_kids hs.1)
    have h0 := hs.1
    unfold shapeT ownB at h0 ⊢
    simp only [Bool.and_eq_true, Bool.or_eq_true, decide_eq_true_eq, beq_iff_eq, renF_len] at h0 ⊢
    refine ⟨h0.1, ?_, hk⟩
    by_cases h1 : k = 1
    · have hr : 0 ≤ renN V k n ∧ renN V k n ≤ 25 := by
        unfold renN
        split
        · rename_i hh
          have := List.idxOf_lt_length_iff.2 hh.2
          omega
        · omega
      rcases h0.2.1 with (h | h) | h
      · exact .inl (.inl ⟨h.1, ⟨⟨hr, h.2.1.2⟩, h.2.2⟩⟩)
      · omega
      · omega
    · have e : renN V k n = n := by unfold renN; rw [if_neg (fun e => h1 e.1)]
      rw [e]
      exact h0.2.1
theorem allV_shape (f : Fr) (h : allV f = true) : shapeF f 30 = true := by
  induction f with
  | nil => rfl
  | cons k n s kids rest _ ihr =>
    simp only [allV, Bool.and_eq_true] at h
    rw [shapeF_cons, Bool.and_eq_true]
    exact ⟨shape_of_valid h.1, ihr h.2⟩
theorem allVars_small (f : Fr) (h : allV f = true) : (allVars f).length ≤ 26 := by
  unfold allVars
  exact nodup_len 26 _ (varsF_nodup f [] List.nodup_nil) (vars_range f 30 [] (allV_shape f h) fun x hx => by simp at hx)

set_option maxRecDepth 100000 in
set_option maxHeartbeats 2000000 in
/-- impl.nodesOf, with the row that it makes. -/
theorem nodesOf2_any (f : Fr) (A : Option Addr) (cap lo hi : Nat) (w : World) (hk : KidsAt w lo hi f A cap) (hh : hi ≤ w.heap.size) (hnd : nodes f ≤ 1048576) (ht : nv.Tab w) :
    Calls Tryd.prog 29 #[.slice A f.len cap] w fun e w' => NodesRes2 w f e w' := by
  have hlt0 := tab_lt ht
  have HK := Lib.hid hk
  have HHI := Lib.hid hh
  have HND := Lib.hid hnd
  have HT := Lib.hid ht
  have hl : f.len ≤ 1048576 := by have := len_le_nodes f; omega
  have hst := fun w1 base xs => NPart.start (w := w) (w2 := w1) (f := f) (base := base) (xs := xs)
  have HST := Lib.hid hst
  clear hk hh hnd ht hst
  generalize hv : allV f = v
  have HV := Lib.hid hv
  generalize hn : f.len = len at *
  have HN := Lib.hid hn
  clear hn hv
  obtain ⟨i0, hi0, hz0, hz1, hz2⟩ := info_parts infoN
  go_enter Tryd.func29, Tryd.ntmps29
  go_wp2_with (at_make; go_must (refine wpList_make_full _ rfl _ _ 51 rfl w.heap.size 57 i0 _ 1 Tryd.underlying51 hi0 hz0 hz1 .i64 .i64 _ _ len rfl rfl rfl rfl (by rw [hz2]; omega) (by unfold maxLen; omega) (Nat.le_refl _) ?_); intro w1 hown hgrow)
  have hp0 := HST.out _ _ _ hown hgrow
  have HP0 := Lib.hid hp0
  clear hp0 hown hgrow HST hi0 hz0 hz1 hz2
  go_loopw [14] (fun i wr => ∃ (j : Nat), j ≤ len ∧ i = .int .i64 j ∧ allV (f.drop j) = v ∧ NPart w f w.heap.size j wr) (fun i _ => len - (intOf i).toNat)
  case atStart => exact ⟨0, Nat.zero_le _, rfl, HV.out, HP0.out⟩
  case round =>
    obtain ⟨j, hj, rfl, hv, hpart⟩ := hrel
    have HPT := Lib.hid hpart
    by_cases hlt : j < len
    · have hltf : j < f.len := by rw [HN.out]; exact hlt
      obtain ⟨kk, nn, s, kids, hd⟩ := Fr.drop_cons j f hltf
      obtain ⟨b, o, rfl, hlb, hbb, hrow⟩ := HK.out.2.2 (by rw [HN.out]; omega)
      obtain ⟨hfit, A', cp, c0, c1, c2, c3, hkid⟩ := hrow.elem hd
      rw [hd] at hv
      simp only [allV] at hv
      have hb := hpart.1
      have hlo : (⟨b, o, none⟩ : Addr).block < w.heap.size := Nat.lt_of_lt_of_le hbb HHI.out
      have k0 := (hb.cell (p := ⟨b, o + j * 4, none⟩) hlo).trans c0
      have k1 := (hb.cell (p := ⟨b, o + j * 4 + 1, none⟩) hlo).trans c1
      have k2 := (hb.cell (p := ⟨b, o + j * 4 + 2, none⟩) hlo).trans c2
      have k3 := (hb.cell (p := ⟨b, o + j * 4 + 3, none⟩) hlo).trans c3
      have hb1 : Below wr.heap.size wr (wr.alloc (.cells #[.int .i64 kk, .int .i64 nn, .string s, .slice A' kids.len cp] 31)) := (Below.refl _ _).alloc (Nat.le_refl _) _
      have hbw1 := hb.trans (hb1.mono hb.size)
      have C1 := nodeOf_any kk nn s kids A' cp lo hi _ (hkid.below hbw1 HHI.out) (Nat.le_trans HHI.out hbw1.size) hfit (Nat.le_trans (nodes_drop_elem j f hd) HND.out) (tab_below HT.out hbw1 hlt0)
      have cellsOf := fun w2 hb => HPT.out.cell (w2 := w2) hltf hb
      have stepOf := fun w2 v h2 hv => HPT.out.step (w2 := w2) (v := v) hd hltf hb1 h2 hv
      have H1 := Lib.hid C1
      have HB := Lib.hid hb
      have HB1 := Lib.hid hb1
      have HE := Lib.hid hv
      have HC := Lib.hid cellsOf
      have HS := Lib.hid stepOf
      clear C1 hb hb1 hbw1 hv c0 c1 c2 c3 hkid hrow hfit hd hlo cellsOf stepOf hpart hltf
      go_wp2_with fail
      refine H1.out.mono ?_
      rintro e w2 ⟨hb2, hr⟩
      have hb12 : Below wr.heap.size wr w2 := HB1.out.trans (hb2.mono HB1.out.size)
      rcases hr with ⟨hok, vv, rfl, hnv⟩ | ⟨hok, rfl⟩
      · obtain ⟨⟨v0, d0⟩, g0⟩ := HC.out w2 hb12
        have hstep := HS.out w2 vv hb2 hnv
        have HF : Hid (allV (f.drop (j + 1)) = v) := Lib.hid (by rw [← HE.out, hok]; rfl)
        obtain ⟨T, x, rfl⟩ := hnv.iface
        have HSTEP := Lib.hid hstep
        clear hok hnv hb2 hb12 hstep k0 k1 k2 k3
        go_wp2_with fail
        go_roundw
        case rel => exact ⟨j + 1, by omega, by go_num, HF.out, HSTEP.out⟩
        case measure => simp [intOf]; omega
      · have HF : Hid (v = false) := Lib.hid (by rw [← HE.out, hok]; rfl)
        have HBW : Hid (Below w.heap.size w w2) := Lib.hid (HB.out.trans (hb12.mono HB.out.size))
        clear hok hb2 hb12 k0 k1 k2 k3
        go_wp2_with fail
        go_ret2
        exact ⟨HBW.out, .inr ⟨HV.out.trans HF.out, rfl⟩⟩
    · obtain rfl : j = len := by omega
      have HE : Hid (allV f = true) := Lib.hid (by
        have h1 := Fr.drop_len f
        rw [HN.out] at h1
        rw [HV.out, ← hv, h1]; rfl)
      clear hpart hv
      go_wp2_with fail
      go_ret2
      refine ⟨HPT.out.1, .inl ⟨HE.out, ?_, ?_⟩⟩
      · rw [HN.out]; rfl
      · rw [HN.out]; exact HPT.out
end Go.Proofs.YtabkoofmfhbmhaaDoor
