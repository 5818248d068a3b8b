/- impl.ClausesFor. Condition: the clauses and the goal lie in memory, both tables in their variables. -/
import Derived.Test.YtlapdnllncoomaaDoorProg
import Derived.Test.YtlapdnllncoomaaDoorPwI
namespace Go.Proofs.YtlapdnllncoomaaDoor
open Go.RowKit Go.WideMaps Go.Maps Go.ChangeShapes

theorem nilI {w x : World} (hb : Below w.heap.size w x) : OwnI x w.heap.size (.slice none 0 0) [] ∧ Below w.heap.size w x := ⟨OwnI.nil _ _, hb⟩

set_option maxRecDepth 100000 in
set_option maxHeartbeats 4000000 in
/-- impl.ClausesFor. -/
theorem implCF_any (cs : List Cl) (A : Option Addr) (cap lo hi : Nat) (k n : Int) (s : ByteArray) (f : Fr) (B : Option Addr) (capB lo' hi' : Nat) (w : World) (hk : ClS w lo hi cs A cap) (hh : hi ≤ w.heap.size) (hnd : cs.length + wtCs cs ≤ 1048576)
    (hkb : KidsAt w lo' hi' f B capB) (hh' : hi' ≤ w.heap.size) (hf : Fits k n s) (hndb : nodes f ≤ 1048576) (ht : nv.Tab w) (ho : op.OpTab w) :
    Calls Tryd.prog 26 #[.slice A cs.length cap, .agg #[.int .i64 k, .int .i64 n, .string s, .slice B f.len capB]] w fun e w' => ∃ v, e = .returned v ∧ OwnI w' w.heap.size v (clF cs k n s f) ∧ Below w.heap.size w w' := by
  have hb0 : Below w.heap.size w (w.alloc (.cells #[.int .i64 k, .int .i64 n, .string s, .slice B f.len capB] 29)) := (Below.refl _ _).alloc (Nat.le_refl _) _
  have C1 := progWith_any cs A cap lo hi k n s f B capB lo' hi' _ (hk.below hb0 hh) (Nat.le_trans hh hb0.size) hnd (hkb.below hb0 hh') (Nat.le_trans hh' hb0.size) hf hndb (ht.below hb0) (ho.below hb0)
  have HE : Hid (clF cs k n s f = if (progV cs && plainV k n s f) = true then forF cs 0 s f.len else []) := Lib.hid rfl
  have hfl : f.len ≤ maxLen := Nat.le_trans hkb.1 hkb.2.1
  have C2 := fun R M lo2 A2 cap2 w1 (h : PgAt w1 cs R M lo2) => cfor_any cs R M lo2 s A2 f.len cap2 w1 h hk.wf (by omega) hf.2.2 hfl
  have H1 := Lib.hid C1
  have H2 := Lib.hid C2
  have HB0 := Lib.hid hb0
  clear C1 C2 hk hh hnd hkb hh' hf hndb hb0 ht ho hfl
  go_enter Tryd.func26, Tryd.ntmps26
  go_wp2_with fail
  refine H1.out.mono ?_
  rintro e w2 ⟨hb, hr⟩
  have hbw := HB0.out.trans (hb.mono HB0.out.size)
  rcases hr with ⟨hok, R, l, c, m, s', A', len, cap', rfl⟩ | ⟨hok, R, M, A', cap', rfl, _, hpg⟩
  · have HV : Hid (clF cs k n s f = []) := Lib.hid (by rw [HE.out, hok]; rfl)
    have HBW := Lib.hid ((hbw.alloc hbw.size (.cells #[.slice R l c, .map m] 73)).alloc (hbw.alloc hbw.size _).size (.cells #[.string s', .slice A' len cap'] 74))
    clear hb hbw hok
    go_wp2_with fail
    go_ret
    rw [HV.out]
    exact ⟨_, rfl, nilI HBW.out⟩
  · have HV : Hid (clF cs k n s f = forF cs 0 s f.len) := Lib.hid (by rw [HE.out, hok]; rfl)
    have hb3 : Below w2.heap.size w2 ((w2.alloc (.cells #[.slice R cs.length cs.length, .map (some M)] 73)).alloc (.cells #[.string s, .slice A' f.len cap'] 74)) := two_alloc w2 _ _
    have C3 := H2.out R M _ A' cap' _ (hpg.below hb3)
    have hM : w.heap.size + 1 ≤ M := by
      have := hpg.1
      simpa using this
    have HB3 := Lib.hid (hbw.trans (hb3.mono hbw.size))
    have H3 := Lib.hid C3
    clear hb hbw hok C3 hpg hb3
    go_wp2_with fail
    refine H3.out.mono ?_
    rintro e w4 ⟨v, rfl, hoi, hb⟩
    have HDONE : Hid (OwnI w4 w.heap.size v (forF cs 0 s f.len) ∧ Below w.heap.size w w4) := Lib.hid ⟨OwnI.mono (base := M + 1) hoi.1 (by omega), HB3.out.trans (hb.mono HB3.out.size)⟩
    clear hoi hb
    go_wp2_with fail
    go_ret
    rw [HV.out]
    exact ⟨v, rfl, HDONE.out⟩
end Go.Proofs.YtlapdnllncoomaaDoor
