/- impl.byteRing.first; impl.decoding.broken. Condition: the decoding and the errors lie in memory. -/
import Derived.Test.YtdpmjpjbcpdgnaaDoorProg
import Derived.Test.YtdpmjpjbcpdgnaaDoorFzR
import Derived.Test.YtdpmjpjbcpdgnaaDoorFzI
namespace Go.Proofs.YtdpmjpjbcpdgnaaDoor
open Go.RowKit

set_option maxRecDepth 100000 in
set_option maxHeartbeats 1000000 in
/-- byteRing.first, where there are fewer. -/
theorem first_no (xb s : Nat) (cur : List Value) (q : List UInt8) (n : Nat) (w : World) (eB eP : Addr) (hb : Blk w xb 71 cur.toArray) (hr : Rg cur q s) (he : Er w eB eP) (hn : q.length < n) :
    Calls Tryd.prog 72 #[.pointer (some ⟨xb, 0, none⟩), .int .i64 (n : Int)] w fun e w' => e = .returned (.tuple #[.slice none 0 0, esV eP]) ∧ Below w.heap.size w w' := by
  have c4 : w.cell? ⟨xb, 2004, none⟩ = some (.int .i64 (q.length : Int)) := by rw [hb.cell]; simpa using hr.cn
  have v1 := he.vP
  have t0 : decide (q.length < n) = true := by simpa using hn
  have HV := Lib.hid (show esV eP = .iface 116 (.pointer (some eP)) from rfl)
  generalize q.length = ql at *
  clear hb hr he hn
  go_enter Tryd.func72, Tryd.ntmps72
  go_wp2_with fail
  go_region
  all_goals
    go_wp2_with fail
    go_ret2
    exact ⟨by rw [HV.out]; rfl, ⟨rfl, rfl, rfl, Nat.le_refl _, fun _ _ => rfl⟩⟩

/-- 'append' for the walk, where its run is known. -/
theorem wpList_app_run {P : Program} (w : World) {ops : Array Oper} {rest : List Oper} {o : Oper} {a : Act} {Q : Exit → Act → World → Prop} (hgd : o.guard = none) (d s : Operand) (t t' : TypeId)
    (ho : o.op = .call { callee := .builtin .append, args := #[d, s], argTypes := #[t, t'] }) (v u : Value) (hd : a.eval d = v) (hs : a.eval s = u) {v' : Value} {w' : World}
    (hr : (Builtin.append_ #[t, t'] o.type #[v, u]).run P w = .ok v' w') (h : wpList P ops Q rest (a.put o.dst v') w') : wpList P ops Q (o :: rest) a w :=
  wpList_plain hgd fun _ hK => by
    unfold Oper.wp execOp
    simp only [ho, resolve, invoke, builtin, Sem.run_bind, Sem.run_pure, Result.andThen_ok, List.map_toArray, List.map_cons, List.map_nil, hd, hs, hr]
    exact hK _ _ h
theorem i_u8 : ∃ i : TypeInfo, Tryd.prog.info? 5 = some i ∧ i.size = 1 ∧ i.bytes = 1 ∧ i.zero = some (.int .u8 0) := by
  obtain ⟨i, hi, h⟩ := Option.map_eq_some_iff.1 (show (Tryd.prog.info? 5).map (fun i => (i.zero, i.size, i.bytes)) = some (some (.int .u8 0), 1, 1) by kernel_rfl)
  simp only [Prod.mk.injEq] at h
  exact ⟨i, hi, h.2.1, h.2.2, h.1⟩
theorem u8_u2 : Tryd.prog.underlying 22 = some (.slice 5) := by kernel_rfl
/-- Nothing is appended. -/
theorem app_none (a : Option Addr) (b : Addr) (n c c' : Nat) (hc : n ≤ c) (w : World) : (Builtin.append_ #[22, 22] 22 #[.slice a n c, .slice (some b) 0 c']).run Tryd.prog w = .ok (.slice a n c) w := by
  obtain ⟨i, hi, hs, _⟩ := i_u8
  exact run_append_nothing w _ _ _ _ i u8_u2 hi a n c hc _ (Src.ofSlice w u8_u2 b 0 c' [] (by simp) (fun j u h => by simp at h) (fun u h => by simp at h))
/-- What 'first' leaves. -/
def FstR (w : World) (q : List UInt8) (n : Nat) (e : Ending) (w' : World) : Prop :=
  ∃ (a : Addr) (cap : Nat), e = .returned (.tuple #[.slice (some a) n cap, .nilIface]) ∧ AtU w' w'.heap.size (some a) (q.take n) ∧ n ≤ cap ∧ cap ≤ maxLen ∧ Below w.heap.size w w'

set_option maxRecDepth 100000 in
set_option maxHeartbeats 1000000 in
/-- byteRing.first, where nothing lies behind the ring's end. -/
theorem first_one (xb s : Nat) (cur : List Value) (q : List UInt8) (n : Nat) (w : World) (hb : Blk w xb 71 cur.toArray) (hr : Rg cur q s) (hn : n ≤ q.length) (hs : s + n ≤ 2003) :
    Calls Tryd.prog 72 #[.pointer (some ⟨xb, 0, none⟩), .int .i64 (n : Int)] w fun e w' => FstR w q n e w' := by
  have c3 : w.cell? ⟨xb, 2003, none⟩ = some (.int .i64 (s : Int)) := by rw [hb.cell]; simpa using hr.cs
  have c4 : w.cell? ⟨xb, 2004, none⟩ = some (.int .i64 (q.length : Int)) := by rw [hb.cell]; simpa using hr.cn
  have t0 : decide (q.length < n) = false := by simpa using hn
  have hsl := hr.sl
  have tm : (s : Int) + (n : Int) ≤ 2003 := by omega
  have hlt := hb.lt
  have HAT : Hid (∀ w', Below w.heap.size w w' → 0 < n → AtU w' w'.heap.size (some ⟨xb, s, none⟩) (q.take n)) := Lib.hid fun w' hw _ _ => ⟨xb, s, rfl, Nat.lt_of_lt_of_le hlt hw.size, fun i hi => by
    rw [List.length_take] at hi
    rw [(hb.below hw hlt).cell]
    have h := hr.cq i (by omega)
    have e : (s + i) % 2003 = s + i := by omega
    rw [e] at h
    have e2 : (q.take n).getD i 0 = q.getD i 0 := by simp only [List.getD, List.getElem?_take]; rw [if_pos (by omega)]
    rw [e2]
    simpa using h⟩
  have HZ : Hid (∀ w' (A : Option Addr), n = 0 → AtU w' w'.heap.size A (q.take n)) := Lib.hid fun w' A h0 hp => by rw [h0] at hp; simp at hp
  clear hb hr
  generalize q.length = ql at *
  rcases Nat.eq_zero_or_pos n with h0 | h0
  · subst h0
    have ks := sl_lhm0 xb s (by omega)
    have kh := sl_h xb 0 (by omega)
    have kh0 : ∀ w, (Instr.sliceAt 63 (.pointer (some ⟨xb, 0, none⟩)) none (some (.int .i64 0)) none).run Tryd.prog w = .ok (.slice (some ⟨xb, 0, none⟩) 0 2003) w := kh
    have tm2 : (s : Int) ≤ 2003 := by omega
    clear kh
    go_enter Tryd.func72, Tryd.ntmps72
    go_wp2_with fail
    go_quiet (fail)
    go_wp2_with (refine wpList_app_run _ rfl _ _ _ _ rfl _ _ rfl rfl (app_none _ _ 0 0 _ (Nat.le_refl _) _) ?_)
    go_ret2
    exact ⟨_, _, rfl, HZ.out _ _ (by first | rfl | trivial), Nat.le_refl _, by unfold maxLen; omega, ⟨rfl, rfl, rfl, Nat.le_refl _, fun _ _ => rfl⟩⟩
  · have ks0 := sl_lhm xb s (s + n) (by omega) hs
    have en : s + n - s = n := by omega
    rw [en] at ks0
    have ks : ∀ w, (Instr.sliceAt 63 (.pointer (some ⟨xb, 0, none⟩)) (some (.int .i64 (s : Int))) (some (.int .i64 ((s : Int) + (n : Int)))) (some (.int .i64 ((s : Int) + (n : Int))))).run Tryd.prog w = .ok (.slice (some ⟨xb, s, none⟩) n n) w := by
      have e : ((s + n : Nat) : Int) = (s : Int) + (n : Int) := by omega
      rw [e] at ks0
      exact ks0
    have kh := sl_h xb 0 (by omega)
    have kh0 : ∀ w, (Instr.sliceAt 63 (.pointer (some ⟨xb, 0, none⟩)) none (some (.int .i64 0)) none).run Tryd.prog w = .ok (.slice (some ⟨xb, 0, none⟩) 0 2003) w := kh
    clear ks0 kh en
    go_enter Tryd.func72, Tryd.ntmps72
    go_wp2_with fail
    go_quiet (fail)
    go_wp2_with (refine wpList_app_run _ rfl _ _ _ _ rfl _ _ rfl rfl (app_none _ _ n n _ (Nat.le_refl _) _) ?_)
    go_ret2
    exact ⟨_, _, rfl, HAT.out _ ⟨rfl, rfl, rfl, Nat.le_refl _, fun _ _ => rfl⟩ h0, Nat.le_refl _, by unfold maxLen; omega, ⟨rfl, rfl, rfl, Nat.le_refl _, fun _ _ => rfl⟩⟩
/-- Something is appended to a full part: a new row. -/
theorem app_wrap (xb s k m : Nat) (l1 l2 : List UInt8) (w : World) (hk : l1.length = k) (hm : l2.length = m) (h0 : 0 < m) (hb : k + m ≤ 100000)
    (h1 : ∀ j, j < k → w.cell? ⟨xb, s + j, none⟩ = some (.int .u8 ((l1.getD j 0).toNat : Int))) (h2 : ∀ j, j < m → w.cell? ⟨xb, j, none⟩ = some (.int .u8 ((l2.getD j 0).toNat : Int))) :
    ∃ cap w', (Builtin.append_ #[22, 22] 22 #[.slice (some ⟨xb, s, none⟩) k k, .slice (some ⟨xb, 0, none⟩) m 2003]).run Tryd.prog w = .ok (.slice (some ⟨w.heap.size, 0, none⟩) (k + m) cap) w' ∧
      AtU w' w'.heap.size (some ⟨w.heap.size, 0, none⟩) (l1 ++ l2) ∧ k + m ≤ cap ∧ cap ≤ maxLen ∧ Below w.heap.size w w' := by
  obtain ⟨i, hi, hs, hby, hz⟩ := i_u8
  have cells1 : ∀ j v, (Lib.byteCells l1)[j]? = some v → w.drew.cell? ((⟨xb, s, none⟩ : Addr).add j) = some v := fun j v hj => by
    have := src_at (w := w) (b := xb) (o := s) (l := l1) 0 l1.length (fun i hi => h1 i (by omega)) j v (by rw [List.drop_zero, List.take_length]; exact hj)
    exact this
  have cells2 : ∀ j v, (Lib.byteCells l2)[j]? = some v → w.cell? ((⟨xb, 0, none⟩ : Addr).add j) = some v := fun j v hj => by
    have := src_at (w := w) (b := xb) (o := 0) (l := l2) 0 l2.length (fun i hi => by rw [Nat.zero_add]; exact h2 i (by omega)) j v (by rw [List.drop_zero, List.take_length]; exact hj)
    exact this
  have hold := run_firstCells_some (P := Tryd.prog) w.drew i.size k ⟨xb, s, none⟩ k k (Lib.byteCells l1) (by rw [bcs_len, hs]; omega) cells1
  have hsrc := Src.ofSlice (P := Tryd.prog) w (size := i.size) (tx := 22) u8_u2 ⟨xb, 0, none⟩ m 2003 (Lib.byteCells l2) (by rw [bcs_len, hs]; omega) cells2 (bcs_one _)
  have hr := run_append_grow_src (P := Tryd.prog) w 22 22 22 5 i (.int .u8 0) u8_u2 hi hz (some ⟨xb, s, none⟩) k k (Lib.byteCells l1) hold (.slice (some ⟨xb, 0, none⟩) m 2003) m (Lib.byteCells l2) hsrc (by omega) (by omega) (growslice_fits (by omega) (by rw [hby]; omega))
  refine ⟨_, _, hr, ?_, grownCap_ge _ _ _ _, grownCap_le_maxLen _ _ _ _ (by unfold maxLen; omega), ((Below.refl w.heap.size w).drew).alloc (Nat.le_refl _) _⟩
  have hnew := Blk.new w.drew 5 ((Lib.byteCells l1 ++ Lib.byteCells l2).toArray ++ Builtin.zeroCells (Value.int .u8 0).cells (grownCap w (k + m) k 5 - (k + m)))
  intro _
  refine ⟨w.heap.size, 0, rfl, hnew.lt, fun j hj => ?_⟩
  rw [Nat.zero_add]
  refine (hnew.cell j).trans ?_
  rw [List.length_append] at hj
  rw [Array.getElem?_append_left (by simp [bcs_len]; omega)]
  simp only [List.getElem?_toArray]
  rw [← bcs_app, bcs_at _ j (by rw [List.length_append]; exact hj)]

set_option maxRecDepth 100000 in
set_option maxHeartbeats 1000000 in
/-- byteRing.first, where the bytes lie on both sides of the ring's end. -/
theorem first_two (xb s : Nat) (cur : List Value) (q : List UInt8) (n : Nat) (w : World) (hb : Blk w xb 71 cur.toArray) (hr : Rg cur q s) (hn : n ≤ q.length) (hs : 2003 < s + n) :
    Calls Tryd.prog 72 #[.pointer (some ⟨xb, 0, none⟩), .int .i64 (n : Int)] w fun e w' => FstR w q n e w' := by
  have c3 : w.cell? ⟨xb, 2003, none⟩ = some (.int .i64 (s : Int)) := by rw [hb.cell]; simpa using hr.cs
  have c4 : w.cell? ⟨xb, 2004, none⟩ = some (.int .i64 (q.length : Int)) := by rw [hb.cell]; simpa using hr.cn
  have t0 : decide (q.length < n) = false := by simpa using hn
  have hsl := hr.sl
  have hql := hr.ql
  have tm : ¬ (s : Int) + (n : Int) ≤ 2003 := by omega
  have tm2 : (2003 : Int) < (s : Int) + (n : Int) := by omega
  have hlt := hb.lt
  have cq : ∀ i, i < q.length → w.cell? ⟨xb, (s + i) % 2003, none⟩ = some (.int .u8 ((q.getD i 0).toNat : Int)) := fun i hi => by rw [hb.cell]; simpa using hr.cq i hi
  obtain ⟨k, hk⟩ : ∃ k, k = 2003 - s := ⟨_, rfl⟩
  obtain ⟨m, hm⟩ : ∃ m, m = n - k := ⟨_, rfl⟩
  have HAP : Hid (∀ nq, ∃ cap w', (Builtin.append_ #[22, 22] 22 #[.slice (some ⟨xb, s, none⟩) k k, .slice (some ⟨xb, 0, none⟩) m 2003]).run Tryd.prog (w.drewN nq) = .ok (.slice (some ⟨w.heap.size, 0, none⟩) (k + m) cap) w' ∧
      AtU w' w'.heap.size (some ⟨w.heap.size, 0, none⟩) (q.take n) ∧ k + m ≤ cap ∧ cap ≤ maxLen ∧ Below w.heap.size w w') := Lib.hid fun nq => by
    have e : q.take n = q.take k ++ (q.drop k).take m := by
      have : n = k + m := by omega
      rw [this, List.take_add]
    rw [e]
    have hd : Below w.heap.size w (w.drewN nq) := ⟨rfl, rfl, rfl, Nat.le_refl _, fun _ _ => rfl⟩
    suffices h : ∃ cap w', (Builtin.append_ #[22, 22] 22 #[.slice (some ⟨xb, s, none⟩) k k, .slice (some ⟨xb, 0, none⟩) m 2003]).run Tryd.prog (w.drewN nq) = .ok (.slice (some ⟨(w.drewN nq).heap.size, 0, none⟩) (k + m) cap) w' ∧
        AtU w' w'.heap.size (some ⟨(w.drewN nq).heap.size, 0, none⟩) (q.take k ++ (q.drop k).take m) ∧ k + m ≤ cap ∧ cap ≤ maxLen ∧ Below (w.drewN nq).heap.size (w.drewN nq) w' by
      obtain ⟨cap, w', h1, h2, h3, h4, h5⟩ := h
      exact ⟨cap, w', h1, h2, h3, h4, hd.trans h5⟩
    refine app_wrap xb s k m (q.take k) ((q.drop k).take m) (w.drewN nq) (by rw [List.length_take]; omega) (by rw [List.length_take, List.length_drop]; omega) (by omega) (by omega) (fun j hj => ?_) (fun j hj => ?_)
    · have h := cq j (by omega)
      have e1 : (s + j) % 2003 = s + j := by omega
      rw [e1] at h
      have e2 : (q.take k).getD j 0 = q.getD j 0 := by simp only [List.getD, List.getElem?_take]; rw [if_pos hj]
      rw [e2]; exact h
    · have h := cq (k + j) (by omega)
      have e1 : (s + (k + j)) % 2003 = j := by omega
      rw [e1] at h
      have e2 : ((q.drop k).take m).getD j 0 = q.getD (k + j) 0 := by simp only [List.getD, List.getElem?_take, List.getElem?_drop]; rw [if_pos hj]
      rw [e2]; exact h
  have ks : ∀ w, (Instr.sliceAt 63 (.pointer (some ⟨xb, 0, none⟩)) (some (.int .i64 (s : Int))) (some (.int .i64 2003)) (some (.int .i64 2003))).run Tryd.prog w = .ok (.slice (some ⟨xb, s, none⟩) k k) w := fun w => by
    rw [hk]; exact sl_lhm xb s 2003 (by omega) (by omega) w
  have kh : ∀ w, (Instr.sliceAt 63 (.pointer (some ⟨xb, 0, none⟩)) none (some (.int .i64 ((n : Int) - (k : Int)))) none).run Tryd.prog w = .ok (.slice (some ⟨xb, 0, none⟩) m 2003) w := fun w => by
    have e : (n : Int) - (k : Int) = (m : Int) := by omega
    rw [e]; exact sl_h xb m (by omega) w
  have hkm : k + m = n := by omega
  have HKM := Lib.hid hkm
  have hk3 : k ≤ 2003 := by omega
  have hn3 : n ≤ 2003 := by omega
  clear hb hr cq hk hm hkm
  generalize q.length = ql at *
  go_enter Tryd.func72, Tryd.ntmps72
  go_wp2_with fail
  go_quiet (fail)
  obtain ⟨cap, w', hrun, hat, hc1, hc2, hbel⟩ := HAP.out nq
  have HR := Lib.hid hrun
  have HAT := Lib.hid hat
  have HBL := Lib.hid hbel
  clear hrun hat hbel HAP
  go_wp2_with (refine wpList_app_run _ rfl _ _ _ _ rfl _ _ rfl rfl HR.out ?_)
  go_ret2
  exact ⟨⟨w.heap.size, 0, none⟩, cap, by rw [HKM.out]; rfl, HAT.out, by rw [← HKM.out]; exact hc1, hc2, HBL.out⟩

/-- byteRing.first of what is there. -/
theorem first_any (xb s : Nat) (cur : List Value) (q : List UInt8) (n : Nat) (w : World) (hb : Blk w xb 71 cur.toArray) (hr : Rg cur q s) (hn : n ≤ q.length) :
    Calls Tryd.prog 72 #[.pointer (some ⟨xb, 0, none⟩), .int .i64 (n : Int)] w fun e w' => FstR w q n e w' := by
  by_cases h : s + n ≤ 2003
  · exact first_one xb s cur q n w hb hr hn h
  · exact first_two xb s cur q n w hb hr hn (by omega)

/-! decoding.broken -/
set_option maxRecDepth 100000 in
theorem broken_nil (xb : Nat) (w : World) (eB eP : Addr) (h7 : w.cell? ⟨xb, 2007, none⟩ = some .nilIface) (he : Er w eB eP) :
    Calls Tryd.prog 50 #[.pointer (some ⟨xb, 0, none⟩)] w fun e w' => e = .returned (.bool false) ∧ Below w.heap.size w w' := by
  have v0 := he.vB
  clear he
  go_enter Tryd.func50, Tryd.ntmps50
  go_wp2_with fail
  go_quiet ((go_at_call 70; exact Calls.quiet_of_same (is_nil _ _)))
  go_wp2_with fail
  go_ret
  exact ⟨rfl, ⟨rfl, rfl, rfl, Nat.le_refl _, fun _ _ => rfl⟩⟩
set_option maxRecDepth 100000 in
theorem broken_part (xb : Nat) (w : World) (eB eP : Addr) (h7 : w.cell? ⟨xb, 2007, none⟩ = some (esV eP)) (he : Er w eB eP) :
    Calls Tryd.prog 50 #[.pointer (some ⟨xb, 0, none⟩)] w fun e w' => e = .returned (.bool false) ∧ Below w.heap.size w w' := by
  have v0 := he.vB
  have h7' : w.cell? ⟨xb, 2007, none⟩ = some (.iface 116 (.pointer (some eP))) := h7
  obtain ⟨c1, t1, hB⟩ := he.hB
  obtain ⟨c2, t2, hP⟩ := he.hP
  have C1 := fun nq => is_other eP eB c2 c1 t2 t1 (w.drewN nq) he.ne.symm hP hB
  have H1 := Lib.hid C1
  clear he h7 hB hP C1
  go_enter Tryd.func50, Tryd.ntmps50
  go_wp2_with fail
  go_quiet ((go_at_call 70; exact Calls.quiet_of_same (H1.out _)))
  go_wp2_with fail
  go_ret
  exact ⟨rfl, ⟨rfl, rfl, rfl, Nat.le_refl _, fun _ _ => rfl⟩⟩
set_option maxRecDepth 100000 in
theorem broken_yes (xb : Nat) (w : World) (eB eP : Addr) (h7 : w.cell? ⟨xb, 2007, none⟩ = some (esV eB)) (he : Er w eB eP) :
    Calls Tryd.prog 50 #[.pointer (some ⟨xb, 0, none⟩)] w fun e w' => e = .returned (.bool true) ∧ Below w.heap.size w w' := by
  have v0 := he.vB
  have h7' : w.cell? ⟨xb, 2007, none⟩ = some (.iface 116 (.pointer (some eB))) := h7
  clear he h7
  go_enter Tryd.func50, Tryd.ntmps50
  go_wp2_with fail
  go_quiet ((go_at_call 70; exact Calls.quiet_of_same (is_same _ _)))
  go_wp2_with fail
  go_ret
  exact ⟨rfl, ⟨rfl, rfl, rfl, Nat.le_refl _, fun _ _ => rfl⟩⟩
end Go.Proofs.YtdpmjpjbcpdgnaaDoor
