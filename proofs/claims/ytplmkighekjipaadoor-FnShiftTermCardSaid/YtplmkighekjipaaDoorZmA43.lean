/- impl's compareStructures, and the order of nodes whole. Condition: the nodes lie in memory. -/
import Derived.Test.YtplmkighekjipaaDoorProg
import Derived.Test.YtplmkighekjipaaDoorZmA42
namespace Go.Proofs.YtplmkighekjipaaDoor
open Go.RowKit

theorem box4 {w w' : World} {t : TypeId} {a b a' b' : Value} (hb : Below (w.heap.size + 2) ((w.alloc (.cells #[a, b] t)).alloc (.cells #[a', b'] t)) w') :
    w'.cell? ⟨w.heap.size, 0, none⟩ = some a ∧ w'.cell? ⟨w.heap.size, 1, none⟩ = some b ∧ w'.cell? ⟨w.heap.size + 1, 0, none⟩ = some a' ∧ w'.cell? ⟨w.heap.size + 1, 1, none⟩ = some b' := by
  have h1 := ((Blk.new w t #[a, b]).alloc (.cells #[a', b'] t)).below hb (by omega)
  have h0 := Blk.new (w.alloc (.cells #[a, b] t)) t #[a', b']
  rw [show (w.alloc (.cells #[a, b] t)).heap.size = w.heap.size + 1 by simp] at h0
  have h2 := h0.below hb (by omega)
  exact ⟨h1.cell 0, h1.cell 1, h2.cell 0, h2.cell 1⟩

theorem boxC {w w' : World} {t : TypeId} {a b a' b' : Value} (hb : Below (w.heap.size + 2) ((w.alloc (.cells #[a, b] t)).alloc (.cells #[a', b'] t)) w') : w'.cell? ⟨w.heap.size, 1, none⟩ = some b := (box4 hb).2.1
theorem boxD {w w' : World} {t : TypeId} {a b a' b' : Value} (hb : Below (w.heap.size + 2) ((w.alloc (.cells #[a, b] t)).alloc (.cells #[a', b'] t)) w') : w'.cell? ⟨w.heap.size + 1, 1, none⟩ = some b' := (box4 hb).2.2.2
/-- From c on, the rows F and G are in the order v. -/
def ContC (c : Int) (F G : Fr) (v : Int) : Prop := (if c = 0 then cmpF F G else c) = v

set_option maxRecDepth 100000 in
set_option maxHeartbeats 4000000 in
theorem cmSt_of (s : ByteArray) (f : Fr) (s' : ByteArray) (g : Fr) (h : ∀ i k n s kids rest k' n' s' kids' rest', f.drop i = .cons k n s kids rest → g.drop i = .cons k' n' s' kids' rest' → CmV s kids s' kids') : CmSt s f s' g := by
  intro d A B cap cap' lo hi lo' hi' w hs hs' hk hk' hh hh'
  have HK := Lib.hid hk
  have HK' := Lib.hid hk'
  have HH := Lib.hid h
  have HHI := Lib.hid hh
  have HHI' := Lib.hid hh'
  have HSH := Lib.hid hs
  have HSH' := Lib.hid hs'
  have hl := hk.1
  have hm := hk.2.1
  have hl' := hk'.1
  have hm' := hk'.2.1
  unfold maxLen at hm hm'
  clear hk hk' h hh hh' hs hs'
  have HE : Hid (cmpSt s f s' g = if firstOf (lessI f.len g.len) (lessS s s') = 0 then cmpF f g else firstOf (lessI f.len g.len) (lessS s s')) := Lib.hid rfl
  have HL : Hid (firstOf (lessI f.len g.len) (lessS s s') = 0 → f.len = g.len) := Lib.hid (fun h => by
    unfold firstOf at h
    by_cases h0 : lessI f.len g.len = 0
    · have := (lessI_zero _ _).1 h0; omega
    · rw [if_neg h0] at h; exact absurd h h0)
  have hz := fun i => (Blk.new ((w.alloc (.cells #[.string s, .slice A f.len cap] 113)).alloc (.cells #[.string s', .slice B g.len cap'] 113)) 3 #[.int .i64 (lessI f.len g.len), .int .i64 (lessS s s')]).cell i
  have HZ := Lib.hid hz
  clear hz
  generalize hv : cmpSt s f s' g = v at *
  have HC : Hid (ContC (firstOf (lessI f.len g.len) (lessS s s')) f g v) := Lib.hid HE.out.symm
  clear hv HE
  generalize hz0 : firstOf (lessI f.len g.len) (lessS s s') = z0 at *
  have HZ0 := Lib.hid hz0
  clear hz0
  go_enter Tryd.func84, Tryd.ntmps84
  go_wp2_with fail
  go_region_held3 (fun w' => w'.cell? ⟨w.heap.size, 0, none⟩ = some (.string s) ∧ w'.cell? ⟨w.heap.size, 1, none⟩ = some (.slice A f.len cap) ∧ w'.cell? ⟨w.heap.size + 1, 0, none⟩ = some (.string s') ∧ w'.cell? ⟨w.heap.size + 1, 1, none⟩ = some (.slice B g.len cap'))
    (first | exact box4 (t := 113) (by repeat (first | exact Below.refl _ _ | refine Below.drew ?_ | refine Below.alloc ?_ (by simp <;> omega) _)) | go_keep)
    (first
      | (go_at_call 81; refine (cmpInt_any _ _ _).mono ?_; rintro e w2 ⟨rfl, rfl⟩)
      | (go_at_call 97; refine (cmpStr_any _ _ _).mono ?_; rintro e w2 ⟨rfl, rfl⟩)
      | (go_at_call 96; refine (or_any (lessI f.len g.len) (lessS s s') _ _ ?_ ?_).mono ?_; (have hz := HZ.out 0; simpa using hz); (have hz := HZ.out 1; simpa using hz); rintro e w2 ⟨rfl, rfl⟩))
  rw [HZ0.out]
  go_wp2_with fail
  go_loopw [5, 6] (fun c i wr => ∃ (j : Nat) (z : Int), j ≤ f.len ∧ i = .int .i64 j ∧ c = .int .i64 z ∧ ContC z (f.drop j) (g.drop j) v ∧ (z = 0 → f.len = g.len) ∧ shapeF (f.drop j) d = true ∧ shapeF (g.drop j) d = true ∧
      wr.cell? ⟨w.heap.size, 1, none⟩ = some (.slice A f.len cap) ∧ wr.cell? ⟨w.heap.size + 1, 1, none⟩ = some (.slice B g.len cap') ∧ w.heap.size + 1 < wr.heap.size ∧ Below w.heap.size w wr) (fun _ i _ => f.len - (intOf i).toNat)
  case atStart => exact ⟨0, z0, Nat.zero_le _, rfl, rfl, HC.out, HL.out, HSH.out, HSH'.out, boxC (w := w) (t := 113) (a := .string s) (b := .slice A f.len cap) (a' := .string s') (b' := .slice B g.len cap') (by repeat (first | exact Below.refl _ _ | refine Below.drew ?_ | refine Below.alloc ?_ (by simp <;> omega) _)), boxD (w := w) (t := 113) (a := .string s) (b := .slice A f.len cap) (a' := .string s') (b' := .slice B g.len cap') (by repeat (first | exact Below.refl _ _ | refine Below.drew ?_ | refine Below.alloc ?_ (by simp <;> omega) _)), by simp <;> omega, (by repeat (first | exact Below.refl _ _ | refine Below.drew ?_ | refine Below.alloc ?_ (by simp <;> omega) _))⟩
  case round =>
    obtain ⟨j, z, hj, rfl, rfl, hc, hl0, hsh, hsh', q1, q2, hsz, hbw⟩ := hrel
    by_cases hz : z = 0
    · subst hz
      have hlen := hl0 rfl
      by_cases hlt : j < f.len
      · have hltg : j < g.len := by omega
        have HLEN := Lib.hid hlen
        clear hlen hl0
        obtain ⟨kk, nn, s1, kids, hd⟩ := Fr.drop_cons j f hlt
        obtain ⟨kk', nn', s1', kids', hd'⟩ := Fr.drop_cons j g hltg
        obtain ⟨b, rfl, hlb, hbb, hrow⟩ := HK.out.2.2 (by omega)
        obtain ⟨b', rfl, hlb', hbb', hrow'⟩ := HK'.out.2.2 (by omega)
        obtain ⟨x1, hx1, hn1⟩ := hrow.elem hd
        obtain ⟨x2, hx2, hn2⟩ := hrow'.elem hd'
        rw [Nat.zero_add] at hx1 hx2
        rw [hd] at hsh
        rw [hd'] at hsh'
        rw [shapeF_cons, Bool.and_eq_true] at hsh hsh'
        have hlo : (⟨b, j, none⟩ : Addr).block < w.heap.size := Nat.lt_of_lt_of_le hbb HHI.out
        have hlo' : (⟨b', j, none⟩ : Addr).block < w.heap.size := Nat.lt_of_lt_of_le hbb' HHI'.out
        have k0 := (hbw.cell (p := ⟨b, j, none⟩) hlo).trans hx1
        have j0 := (hbw.cell (p := ⟨b', j, none⟩) hlo').trans hx2
        have hcc : ContC 0 (.cons kk nn s1 kids (f.drop (j + 1))) (.cons kk' nn' s1' kids' (g.drop (j + 1))) v := by rw [← hd, ← hd']; exact hc
        have HCC : Hid (ContC (cmpT kk nn s1 kids kk' nn' s1' kids') (f.drop (j + 1)) (g.drop (j + 1)) v) := Lib.hid (by
          unfold ContC at hcc ⊢
          rw [if_pos rfl, cmpF_cons] at hcc
          exact hcc)
        have C1 : ∀ w1, Below wr.heap.size wr w1 → _ := fun w1 hb1 =>
          HH.out _ _ _ _ _ _ _ _ _ _ _ hd hd' kk nn kk' nn' d x1 x2 lo hi lo' hi' w1 hsh.1 hsh'.1 (hn1.keep (fun p _ hp => (hbw.trans (hb1.mono hbw.size)).cell (by have := HHI.out; omega)) (Nat.le_refl _) (Nat.le_refl _)) (hn2.keep (fun p _ hp => (hbw.trans (hb1.mono hbw.size)).cell (by have := HHI'.out; omega)) (Nat.le_refl _) (Nat.le_refl _))
            (Nat.le_trans HHI.out (hbw.trans (hb1.mono hbw.size)).size) (Nat.le_trans HHI'.out (hbw.trans (hb1.mono hbw.size)).size)
        generalize cmpT kk nn s1 kids kk' nn' s1' kids' = t at *
        have H1 := Lib.hid C1
        have HB := Lib.hid hbw
        have HS1 := Lib.hid hsh.2
        have HS2 := Lib.hid hsh'.2
        clear C1 hbw hc hcc hsh hsh' hx1 hx2 hn1 hn2 hrow hrow' hd hd' hlo hlo'
        go_wp2_with fail
        go_still_tail 10, (by kernel_rfl)
        change wpList _ _ _ _ _ wr.drew
        have hbd : Below wr.heap.size wr wr.drew := (Below.refl _ _).drew
        generalize wr.drew = w2 at hbd ⊢
        have HD := Lib.hid hbd
        clear hbd k0 j0
        go_wp2_with fail
        refine (H1.out _ HD.out).mono ?_
        rintro e w3 ⟨rfl, hb3⟩
        have h3 := HD.out.trans (hb3.mono HD.out.size)
        have q1' := (h3.cell (p := ⟨w.heap.size, 1, none⟩) (by simp only; omega)).trans q1
        have q2' := (h3.cell (p := ⟨w.heap.size + 1, 1, none⟩) (by simp only; omega)).trans q2
        have hsz' : w.heap.size + 1 < w3.heap.size := Nat.lt_of_lt_of_le hsz h3.size
        have HB3 := Lib.hid h3
        clear hb3 h3
        go_wp2_with fail
        go_roundw
        case rel => exact ⟨j + 1, t, by omega, by go_num, rfl, HCC.out, fun _ => HLEN.out, HS1.out, HS2.out, q1', q2', hsz', HB.out.trans (HB3.out.mono HB.out.size)⟩
        case measure => simp [intOf]; omega
      · obtain rfl : j = f.len := by omega
        have HE : Hid (v = 0) := Lib.hid (by
          have h1 := Fr.drop_len f
          unfold ContC at hc
          rw [if_pos rfl, h1] at hc
          rw [← hc]; rfl)
        have HB := Lib.hid hbw
        clear hbw hc hsh hsh' hl0 hlen
        go_wp2_with fail
        go_ret
        rw [HE.out]
        exact ⟨rfl, HB.out⟩
    · have HE : Hid (v = z) := Lib.hid (by
        unfold ContC at hc
        rw [if_neg hz] at hc
        exact hc.symm)
      have tz : (z == 0) = false := by rw [beq_eq_false_iff_ne]; exact hz
      have HB := Lib.hid hbw
      clear hbw hc hsh hsh' hl0 hz
      go_wp2_with fail
      go_ret
      rw [HE.out]
      exact ⟨rfl, HB.out⟩
theorem cv_all (N : Nat) : ∀ (s : ByteArray) (f : Fr) (s' : ByteArray) (g : Fr), f.size ≤ N → CmV s f s' g := by
  induction N with
  | zero =>
    intro s f s' g hf
    refine cmV_of s f s' g (cmSt_of s f s' g fun i k n s kids rest k' n' s' kids' rest' hd _ => ?_)
    have h1 := Fr.size_drop i f
    rw [hd] at h1
    simp only [Fr.size] at h1
    omega
  | succ N ih =>
    intro s f s' g hf
    refine cmV_of s f s' g (cmSt_of s f s' g fun i k n s kids rest k' n' s' kids' rest' hd _ => ih s kids s' kids' ?_)
    have h1 := Fr.size_drop i f
    rw [hd] at h1
    simp only [Fr.size] at h1
    omega
/-- impl's compareNodes. -/
theorem cmV_any (s : ByteArray) (f : Fr) (s' : ByteArray) (g : Fr) : CmV s f s' g := cv_all f.size s f s' g (Nat.le_refl _)
end Go.Proofs.YtplmkighekjipaaDoor
