/- impl.EvalArith. Condition: the term lies in memory, the table of signs and the handle of the type error in their variables. -/
import Derived.Test.YtabkoofmfhbmhaaDoorProg
import Derived.Test.YtabkoofmfhbmhaaDoorEvS
import Derived.Test.YtabkoofmfhbmhaaDoorEvI
import Derived.Test.YtabkoofmfhbmhaaDoorEvB
import Derived.Test.YtabkoofmfhbmhaaDoorImplV
namespace Go.Proofs.YtabkoofmfhbmhaaDoor
open Go.RowKit

theorem ErrT.lt {w : World} (h : ErrT w) : 0 < w.heap.size := by
  unfold ErrT at h
  rcases Nat.lt_or_ge 0 w.heap.size with h1 | h1
  · exact h1
  · simp [World.cell?, Array.getElem?_eq_none h1] at h
theorem ErrT.below {w w' : World} (h : ErrT w) (hb : Below w.heap.size w w') : ErrT w' := (hb.cell (p := ⟨0, 0, none⟩) h.lt).trans h

set_option maxRecDepth 100000 in
set_option maxHeartbeats 1000000 in
/-- impl.EvalArith. -/
theorem implEv_any (k n : Int) (s : ByteArray) (f : Fr) (A : Option Addr) (cap lo hi : Nat) (w : World) (hk : KidsAt w lo hi f A cap) (hh : hi ≤ w.heap.size) (hf : Fits k n s) (hnd : nodes f ≤ 1048576) (ht : nv.Tab w) (he : ErrT w) :
    Calls Tryd.prog 23 #[.agg #[.int .i64 k, .int .i64 n, .string s, .slice A f.len cap]] w fun e w' => e = .returned (.tuple #[.int .i64 (evT k n s f).1, .int .i64 (evT k n s f).2]) ∧ Below w.heap.size w w' := by
  have hb0 : Below w.heap.size w (w.alloc (.cells #[.int .i64 k, .int .i64 n, .string s, .slice A f.len cap] 31)) := (Below.refl _ _).alloc (Nat.le_refl _) _
  have C1 := nodeOf_any k n s f A cap lo hi _ (hk.below hb0 hh) (Nat.le_trans hh hb0.size) hf hnd (ht.below hb0)
  have HE : Hid (evT k n s f = if validT k n s f = true then evK k n (evF s f) else (0, 6)) := Lib.hid rfl
  have hsh : validT k n s f = true → shapeT k n s f 30 = true := fun h => by
    unfold validT at h
    rw [Bool.and_eq_true] at h
    exact h.1
  have HSH := Lib.hid hsh
  have H1 := Lib.hid C1
  have HB0 := Lib.hid hb0
  have HET := Lib.hid he
  clear C1 hk hf hnd ht hb0 hsh he
  go_enter Tryd.func23, Tryd.ntmps23
  go_wp2_with fail
  refine H1.out.mono ?_
  rintro e w2 ⟨hb, hr⟩
  have hb2 := HB0.out.trans (hb.mono HB0.out.size)
  rcases hr with ⟨hok, v, rfl, hv⟩ | ⟨hok, rfl⟩
  · obtain ⟨T, x, hvx⟩ := hv.iface
    have C2 := ev_any s f k n 30 v _ _ w2 (HSH.out hok) hv (Nat.le_refl _)
    have HV : Hid (evT k n s f = evK k n (evF s f)) := Lib.hid (by rw [HE.out, hok]; rfl)
    generalize evK k n (evF s f) = r at *
    obtain ⟨va, ca⟩ := r
    have H2 := Lib.hid (C2.mono fun e w' (h : e = .returned (.tuple #[.int .i64 va, errV ca]) ∧ Below w2.heap.size w2 w') => h)
    have HB2 := Lib.hid hb2
    subst hvx
    clear hb hb2 hok hv C2
    go_wp2_with fail
    refine H2.out.mono ?_
    rintro e w3 ⟨rfl, hb⟩
    have hb3 := HB2.out.trans (hb.mono HB2.out.size)
    have C3 := code_any ca w3 (HET.out.below hb3)
    have H3 := Lib.hid C3
    have HB3 := Lib.hid hb3
    clear C3 hb hb3
    go_wp2_with fail
    refine H3.out.mono ?_
    rintro e w4 ⟨rfl, hb⟩
    have HB4 := Lib.hid (HB3.out.trans (hb.mono HB3.out.size))
    clear hb
    go_wp2_with fail
    go_ret2
    rw [HV.out]; exact ⟨rfl, HB4.out⟩
  · have HV : Hid (evT k n s f = (0, 6)) := Lib.hid (by rw [HE.out, hok]; rfl)
    have HB2 := Lib.hid hb2
    clear hb hb2 hok
    go_wp2_with fail
    go_ret2
    rw [HV.out]; exact ⟨rfl, HB2.out⟩
end Go.Proofs.YtabkoofmfhbmhaaDoor
