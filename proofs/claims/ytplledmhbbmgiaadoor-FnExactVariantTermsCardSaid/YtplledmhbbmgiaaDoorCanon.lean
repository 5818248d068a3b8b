/- spec.l3Canon. Condition: the term lies in memory. -/
import Derived.Test.YtplledmhbbmgiaaDoorProg
import Derived.Test.YtplledmhbbmgiaaDoorRen
import Derived.Test.YtplledmhbbmgiaaDoorSpecR
import Derived.Test.YtplledmhbbmgiaaDoorNodes2
import Derived.Test.YtplledmhbbmgiaaDoorTb
import Derived.Deep.RegionHeld3
namespace Go.Proofs.YtplledmhbbmgiaaDoor
open Go.RowKit

/-- The variables of one term; the term with them numbered. -/
def canV (k n : Int) (f : Fr) : List Int := varsT [] k n f
theorem canV_nodup (k n : Int) (s : ByteArray) (f : Fr) : (canV k n f).Nodup := varsF_nodup (.cons k n s f .nil) [] List.nodup_nil
theorem canV_len (k n : Int) (f : Fr) : (canV k n f).length ≤ nodes f + 1 := by
  have := varsT_len [] k n f
  simpa [canV] using this
theorem canV_small {k n : Int} {s : ByteArray} {f : Fr} {d : Int} (h : shapeT k n s f d = true) : (canV k n f).length ≤ 26 :=
  nodup_len 26 _ (canV_nodup k n s f) (vars_range (.cons k n s f .nil) d [] (by rw [shapeF_cons, h]; rfl) fun x hx => by simp at hx)
theorem shapeT_ren {V : List Int} (hV : V.length ≤ 26) {k n : Int} {s : ByteArray} {f : Fr} {d : Int} (h : shapeT k n s f d = true) : shapeT k (renN V k n) s (renF V f) d = true := by
  have h1 := shapeF_ren V hV (.cons k n s f .nil) d (by rw [shapeF_cons, h]; rfl)
  simp only [renF] at h1
  rw [shapeF_cons, Bool.and_eq_true] at h1
  exact h1.1

set_option maxRecDepth 100000 in
set_option maxHeartbeats 4000000 in
/-- spec.l3Canon. -/
theorem canon_any (k n : Int) (s : ByteArray) (f : Fr) (A : Option Addr) (cap lo hi : Nat) (w : World) (hk : KidsAt w lo hi f A cap) (hh : hi ≤ w.heap.size) (hf : Fits k n s) (hnd : nodes f ≤ 1048576) :
    Calls Tryd.prog 45 #[.agg #[.int .i64 k, .int .i64 n, .string s, .slice A f.len cap]] w fun e w' => MadeT w k (renN (canV k n f) k n) s (renF (canV k n f) f) e w' := by
  have C1 := fun w1 (hb : Below w.heap.size w w1) => va_all f.size s f (Nat.le_refl _) k n A cap lo hi w1.heap.size [] (.slice none 0 0) w1 (hk.below hb hh) (Nat.le_trans hh hb.size) (Nat.le_refl _) (OwnI.nil _ _) (by simp; omega)
  have C2 := fun w1 base vv (hb : Below w.heap.size w w1) (hO : OwnI w1 base vv (canV k n f)) => rnT_any s f k n A cap lo hi base (canV k n f) vv w1 (hk.below hb hh) (Nat.le_trans hh hb.size) hf hnd hO (canV_nodup k n s f) (by have := canV_len k n f; omega)
  have hb0 := two_alloc w (.cells #[.int .i64 k, .int .i64 n, .string s, .slice A f.len cap] 29) (.cells #[.int .i64 0, .int .i64 0, .string ⟨#[]⟩, .slice none 0 0] 29)
  have b1 : Blk ((w.alloc (.cells #[.int .i64 k, .int .i64 n, .string s, .slice A f.len cap] 29)).alloc (.cells #[.int .i64 0, .int .i64 0, .string ⟨#[]⟩, .slice none 0 0] 29)) w.heap.size 29 #[.int .i64 k, .int .i64 n, .string s, .slice A f.len cap] := (Blk.new w _ _).alloc _
  have b2 : Blk ((w.alloc (.cells #[.int .i64 k, .int .i64 n, .string s, .slice A f.len cap] 29)).alloc (.cells #[.int .i64 0, .int .i64 0, .string ⟨#[]⟩, .slice none 0 0] 29)) (w.heap.size + 1) 29 #[.int .i64 0, .int .i64 0, .string ⟨#[]⟩, .slice none 0 0] := by
    have h := Blk.new (w.alloc (.cells #[.int .i64 k, .int .i64 n, .string s, .slice A f.len cap] 29)) 29 #[.int .i64 0, .int .i64 0, .string ⟨#[]⟩, .slice none 0 0]
    simpa using h
  have HC : Hid (canV k n f = varsT [] k n f) := Lib.hid rfl
  unfold VaRes at C1
  unfold MadeT at C2 ⊢
  rw [renF_len] at C2 ⊢
  rw [← HC.out] at C1
  generalize canV k n f = V at *
  generalize renN V k n = m at *
  have H1 := Lib.hid C1
  have H2 := Lib.hid C2
  clear C1 C2 hk hf hnd hh
  go_enter Tryd.func45, Tryd.ntmps45
  go_wp2_with fail
  have hsz : ((w.alloc (.cells #[.int .i64 k, .int .i64 n, .string s, .slice A f.len cap] 29)).alloc (.cells #[.int .i64 0, .int .i64 0, .string ⟨#[]⟩, .slice none 0 0] 29)).heap.size = w.heap.size + 1 + 1 := by simp
  generalize ((w.alloc (.cells #[.int .i64 k, .int .i64 n, .string s, .slice A f.len cap] 29)).alloc (.cells #[.int .i64 0, .int .i64 0, .string ⟨#[]⟩, .slice none 0 0] 29)) = w3 at *
  obtain ⟨c0, c1, c2, c3⟩ := cells4i b1
  have hb1 : w.heap.size < w3.heap.size := by omega
  have hb2' : w.heap.size + 1 < w3.heap.size := by omega
  have HB0 := Lib.hid hb0
  have HB1 := Lib.hid b1
  have HB2 := Lib.hid b2
  have HSZ := Lib.hid hsz
  clear hb0 b1 b2 hsz
  go_region_held3 (fun w' => w'.cell? ⟨w.heap.size, 0, none⟩ = some (.int .i64 k) ∧ w'.cell? ⟨w.heap.size, 1, none⟩ = some (.int .i64 n) ∧ w'.cell? ⟨w.heap.size, 2, none⟩ = some (.string s) ∧ w'.cell? ⟨w.heap.size, 3, none⟩ = some (.slice A f.len cap))
    (first | exact ⟨c0, c1, c2, c3⟩ | exact ⟨y0, y1, y2, y3⟩ | exact ⟨z0, z1, z2, z3⟩ | exact ⟨(far4 (by simp) _ _ _ _).trans z0, (far4 (by simp) _ _ _ _).trans z1, (far4 (by simp) _ _ _ _).trans z2, (far4 (by simp) _ _ _ _).trans z3⟩)
    (first
      | (go_at_call 61
         refine (H1.out _ HB0.out.drew).mono ?_
         rintro e w4 ⟨vv, rfl, hO, hW, hx⟩
         have hd4 : Below w3.heap.size w3 w4 := (Below.refl w3.heap.size w3).drew.trans (hW.below (Nat.le_refl _) fun x hx => by simp [ownV, Value.ownBlock] at hx)
         obtain ⟨y0, y1, y2, y3⟩ := cells4i (HB1.out.below hd4 hb1)
         have HD4 := Lib.hid hd4
         have HO := Lib.hid hO
         have hs4 := hd4.size
         clear hO hW hx hd4)
      | (go_at_call 60
         refine (H2.out _ _ _ (HB0.out.trans (HD4.out.mono HB0.out.size)) HO.out).mono ?_
         rintro e w5 ⟨A5, cap5, rfl, hm⟩
         have hd5 := HD4.out.trans ((made_below hm).mono hs4)
         obtain ⟨z0, z1, z2, z3⟩ := cells4i (HB1.out.below hd5 hb1)
         have q5 := HB2.out.below hd5 hb2'
         obtain ⟨d0, d1, d2, d3⟩ := cells4i q5
         obtain ⟨g0, g1, g2, g3⟩ := frozen4 q5
         have HQ5 := Lib.hid q5
         have HM := Lib.hid (hm.up HD4.out)
         clear hm hd5 q5))
  go_wp2_with fail
  refine bodyPost_ret (v := .agg #[.int .i64 k, .int .i64 m, .string s, .slice A5 f.len cap5]) ?_ rfl ⟨A5, cap5, rfl, ?_⟩
  · exact results_cell_row Tryd.results45 _ _ (w.heap.size + 1) _ _ _ _ rfl (set4 HQ5.out _ _ _ _) Tryd.underlying29 rfl (by kernel_rfl)
  · obtain ⟨L, h1, h2, h3, h4⟩ := HM.out
    exact made_set4 ⟨L, h1, h2, h3⟩ (HB0.out.trans (h4.mono HB0.out.size)) (by omega) (by omega) _ _ _ _
end Go.Proofs.YtplledmhbbmgiaaDoor
