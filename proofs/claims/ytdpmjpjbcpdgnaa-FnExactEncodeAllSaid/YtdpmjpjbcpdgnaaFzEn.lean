/- A frame's bytes, of the model and of impl. Condition: the frame is valid. -/
import Derived.Test.YtdpmjpjbcpdgnaaProg
import Derived.Test.YtdpmjpjbcpdgnaaFzW
import Derived.Lib.AppendStr
import Derived.Laws.AppendOwn
namespace Go.Proofs.Ytdpmjpjbcpdgnaa
open Go.RowKit

theorem wpList_appR {P : Program} (w : World) {ops : Array Oper} {rest : List Oper} {o : Oper} {a : Act} {Q : Exit → Act → World → Prop} (hgd : o.guard = none) (d s : Operand) (t t' : TypeId)
    (ho : o.op = .call { callee := .builtin .append, args := #[d, s], argTypes := #[t, t'] }) (v u : Value) (hd : a.eval d = v) (hs : a.eval s = u) {v' : Value} {w' : World}
    (hr : (Builtin.append_ #[t, t'] o.type #[v, u]).run P w = .ok v' w') (h : wpList P ops Q rest (a.put o.dst v') w') : wpList P ops Q (o :: rest) a w :=
  wpList_plain hgd fun _ hK => by
    unfold Oper.wp execOp
    simp only [ho, resolve, invoke, builtin, Sem.run_bind, Sem.run_pure, Result.andThen_ok, List.map_toArray, List.map_cons, List.map_nil, hd, hs, hr]
    exact hK _ _ h
theorem i_u8' : ∃ i : TypeInfo, Try.prog.info? 5 = some i ∧ i.size = 1 ∧ i.bytes = 1 ∧ i.zero = some (.int .u8 0) := by
  obtain ⟨i, hi, h⟩ := Option.map_eq_some_iff.1 (show (Try.prog.info? 5).map (fun i => (i.zero, i.size, i.bytes)) = some (some (.int .u8 0), 1, 1) by kernel_rfl)
  simp only [Prod.mk.injEq] at h
  exact ⟨i, hi, h.2.1, h.2.2, h.1⟩
/-- A string is appended. -/
theorem app_s {w : World} {base : Nat} {v : Value} {l : List UInt8} (ho : OwnU w base v l) (s : ByteArray) (hb : base ≤ w.heap.size) (hz : l.length + s.size ≤ 1000000000000) :
    ∃ v' w', (Builtin.append_ #[29, 9] 29 #[v, .string s]).run Try.prog w = .ok v' w' ∧ OwnU w' base v' (l ++ s.data.toList) ∧ Below base w w' ∧ Wrote (ownV v) w w' := by
  obtain ⟨i, hi, hs, hby, hzz⟩ := i_u8'
  have hlt := own_lt ho
  obtain ⟨v', w', h1, h2, h3, _⟩ := Lib.run_append_own_string (P := Try.prog) w base 29 9 29 5 i (by kernel_rfl) Try.underlying9 hi hzz hs hby v l.length _ ho s (by unfold maxLen; omega) (by omega) hb
  refine ⟨v', w', h1, ?_, (Wrote.of_grown h3 fun x hx => hx).below hb fun x hx => (hlt x hx).1, Wrote.of_grown h3 fun x hx => hx⟩
  unfold OwnU
  rw [List.length_append, bcs_app]
  exact h2
/-- Bytes that lie somewhere are appended. -/
theorem app_b {w : World} {base b o n c : Nat} {v : Value} {l m : List UInt8} (ho : OwnU w base v l) (hm : m.length = n) (ha : ∀ j u, (Lib.byteCells m)[j]? = some u → w.cell? (Addr.add ⟨b, o, none⟩ j) = some u) (hb : base ≤ w.heap.size) (hz : l.length + m.length ≤ 1000000000000) :
    ∃ v' w', (Builtin.append_ #[29, 29] 29 #[v, .slice (some ⟨b, o, none⟩) n c]).run Try.prog w = .ok v' w' ∧ OwnU w' base v' (l ++ m) ∧ Below base w w' ∧ Wrote (ownV v) w w' := by
  obtain ⟨i, hi, hs, hby, hzz⟩ := i_u8'
  have hlt := own_lt ho
  subst hm
  obtain ⟨v', w', h1, h2, h3, _⟩ := run_append_own (P := Try.prog) w base 29 29 5 i (.int .u8 0) 1 1 (by kernel_rfl) hi hzz hs hby rfl (by omega) v l.length _ ho ⟨b, o, none⟩ m.length c (Lib.byteCells m) (by rw [bcs_len]; omega) ha
    (fun u hu => by unfold Lib.byteCells at hu; obtain ⟨x, _, rfl⟩ := List.mem_map.1 hu; rfl) (by unfold maxLen; omega) (by omega) hb
  refine ⟨v', w', h1, ?_, (Wrote.of_grown h3 fun x hx => hx).below hb fun x hx => (hlt x hx).1, Wrote.of_grown h3 fun x hx => hx⟩
  unfold OwnU
  rw [List.length_append, bcs_app]
  exact h2
/-- The three bytes in front of a text. -/
def hd3 (f : fz.F) : List UInt8 := [UInt8.ofNat ((f.s.size + 1) / 256), UInt8.ofNat ((f.s.size + 1) % 256), UInt8.ofNat f.t.toNat]
theorem enc_hd (f : fz.F) : fz.enc f = hd3 f ++ f.s.data.toList := rfl
theorem okF_facts {t : Int} {s : ByteArray} (h : fz.okF ⟨t, s⟩ = true) : 1 ≤ t ∧ t ≤ 7 ∧ s.size ≤ 2000 := by
  unfold fz.okF at h
  simp only [Bool.and_eq_true, decide_eq_true_eq] at h
  exact ⟨h.1.1.1, h.1.1.2, h.2⟩
theorem hd3_cells {t : Int} {s : ByteArray} (hv : fz.okF ⟨t, s⟩ = true) : Lib.byteCells (hd3 ⟨t, s⟩) = [.int .u8 (((s.size : Int) + 1) / 256), .int .u8 (((s.size : Int) + 1) % 256), .int .u8 t] := by
  obtain ⟨h1, h2, h3⟩ := okF_facts hv
  unfold Lib.byteCells hd3
  simp only [List.map_cons, List.map_nil, UInt8.toNat_ofNat', List.cons.injEq, Value.int.injEq, and_true, true_and]
  refine ⟨?_, ?_, ?_⟩ <;> omega
set_option maxRecDepth 100000 in
set_option maxHeartbeats 1000000 in
/-- spec.l11Encode. -/
theorem l11e_any (t : Int) (s : ByteArray) (w : World) (hv : fz.okF ⟨t, s⟩ = true) :
    Calls Try.prog 23 #[.agg #[.int .i64 t, .string s]] w fun e w' => ∃ v, e = .returned v ∧ OwnU w' w.heap.size v (fz.enc ⟨t, s⟩) ∧ Below w.heap.size w w' := by
  obtain ⟨ht1, ht7, hs⟩ := okF_facts hv
  have hs1 : (w.alloc (.cells #[.int .i64 t, .string s] 26)).heap.size = w.heap.size + 1 := by simp
  have hq := Blk.new (w.alloc (.cells #[.int .i64 t, .string s] 26)) 5 #[.int .u8 (((s.size : Int) + 1) / 256), .int .u8 (((s.size : Int) + 1) % 256), .int .u8 t]
  rw [hs1] at hq
  have hb2 : Below w.heap.size w ((w.alloc (.cells #[.int .i64 t, .string s] 26)).alloc (.cells #[.int .u8 (((s.size : Int) + 1) / 256), .int .u8 (((s.size : Int) + 1) % 256), .int .u8 t] 5)) := ((Below.refl w.heap.size w).alloc (Nat.le_refl _) (.cells #[.int .i64 t, .string s] 26)).alloc (by simp) (.cells #[.int .u8 (((s.size : Int) + 1) / 256), .int .u8 (((s.size : Int) + 1) % 256), .int .u8 t] 5)
  have ho : OwnU ((w.alloc (.cells #[.int .i64 t, .string s] 26)).alloc (.cells #[.int .u8 (((s.size : Int) + 1) / 256), .int .u8 (((s.size : Int) + 1) % 256), .int .u8 t] 5)) w.heap.size (.slice (some ⟨w.heap.size + 1, 0, none⟩) 3 3) (hd3 ⟨t, s⟩) := by
    unfold OwnU
    rw [hd3_cells hv]
    exact ⟨rfl, .inr ⟨w.heap.size + 1, 3, _, rfl, by omega, hq, Nat.le_refl _, by unfold maxLen; omega, rfl, rfl⟩⟩
  obtain ⟨v', w', h1, h2, h3, _⟩ := app_s ho s hb2.size (by show 3 + s.size ≤ _; omega)
  have HR := Lib.hid h1
  have HO := Lib.hid h2
  have HB := Lib.hid (hb2.trans h3)
  clear ho h1 h2 h3 hb2 hq hs1 hv
  go_enter Try.func23, Try.ntmps23
  go_wp2_with (refine wpList_appR _ rfl _ _ _ _ rfl _ _ rfl rfl HR.out ?_)
  go_ret
  exact ⟨_, rfl, HO.out, HB.out⟩
set_option maxRecDepth 100000 in
set_option maxHeartbeats 1000000 in
/-- impl.appendFrame. -/
theorem apf_any (t : Int) (s : ByteArray) (v : Value) (l : List UInt8) (base : Nat) (w : World) (hv : fz.okF ⟨t, s⟩ = true) (ho : OwnU w base v l) (hb : base ≤ w.heap.size) (hz : l.length ≤ 900000000000) :
    Calls Try.prog 24 #[v, .agg #[.int .i64 t, .string s]] w fun e w' => ∃ v', e = .returned v' ∧ OwnU w' base v' (l ++ fz.enc ⟨t, s⟩) ∧ Below base w w' := by
  obtain ⟨ht1, ht7, hs⟩ := okF_facts hv
  have hs1 : (w.alloc (.cells #[.int .i64 t, .string s] 26)).heap.size = w.heap.size + 1 := by simp
  have hq0 := (Blk.new w 26 #[.int .i64 t, .string s]).alloc (.cells #[.int .u8 (((s.size : Int) + 1) / 256), .int .u8 (((s.size : Int) + 1) % 256), .int .u8 t] 5)
  have hq := Blk.new (w.alloc (.cells #[.int .i64 t, .string s] 26)) 5 #[.int .u8 (((s.size : Int) + 1) / 256), .int .u8 (((s.size : Int) + 1) % 256), .int .u8 t]
  rw [hs1] at hq
  have hb2 : Below w.heap.size w ((w.alloc (.cells #[.int .i64 t, .string s] 26)).alloc (.cells #[.int .u8 (((s.size : Int) + 1) / 256), .int .u8 (((s.size : Int) + 1) % 256), .int .u8 t] 5)) := ((Below.refl w.heap.size w).alloc (Nat.le_refl _) (.cells #[.int .i64 t, .string s] 26)).alloc (by simp) (.cells #[.int .u8 (((s.size : Int) + 1) / 256), .int .u8 (((s.size : Int) + 1) % 256), .int .u8 t] 5)
  have hlt := own_lt ho
  obtain ⟨v', w', h1, h2, h3, h4⟩ := app_b (own_below ho hb2) (b := w.heap.size + 1) (o := 0) (n := 3) (c := 3) (m := hd3 ⟨t, s⟩) rfl (fun j u hj => by
    rw [hd3_cells hv] at hj
    rw [show (Addr.add ⟨w.heap.size + 1, 0, none⟩ j) = ⟨w.heap.size + 1, j, none⟩ by simp [Addr.add]; exact fun h => h.symm, hq.cell j]
    simpa using hj) (Nat.le_trans hb hb2.size) (by show l.length + 3 ≤ _; omega)
  have hq' := h4.blk hq0 fun hx => by have := (hlt _ hx).2; omega
  obtain ⟨v3, w3, k1, k2, k3, _⟩ := app_s h2 s (Nat.le_trans hb (Nat.le_trans hb2.size h3.size)) (by rw [List.length_append]; show l.length + 3 + s.size ≤ _; omega)
  have x1 : w'.cell? ⟨w.heap.size, 1, none⟩ = some (.string s) := hq'.cell 1
  have HR := Lib.hid h1
  have HR2 := Lib.hid k1
  have HO := Lib.hid (show OwnU w3 base v3 (l ++ fz.enc ⟨t, s⟩) by rw [enc_hd, ← List.append_assoc]; exact k2)
  have HB := Lib.hid (((hb2.mono hb).trans h3).trans k3)
  clear ho h1 h2 h3 h4 k1 k2 k3 hb2 hq hq0 hq' hs1 hv hlt hz hb
  go_enter Try.func24, Try.ntmps24
  go_wp2_with (first | refine wpList_appR _ rfl _ _ _ _ rfl _ _ rfl rfl HR.out ?_ | refine wpList_appR _ rfl _ _ _ _ rfl _ _ rfl rfl HR2.out ?_)
  go_ret
  exact ⟨_, rfl, HO.out, HB.out⟩
end Go.Proofs.Ytdpmjpjbcpdgnaa
