/- opWriter.named of a structure whose name is no operator. Condition: the map of operators in the writer's block. -/
import Derived.Test.YtmgfndgmebignaaDoorProg
import Derived.Test.YtmgfndgmebignaaDoorZmWR45
namespace Go.Proofs.YtmgfndgmebignaaDoor.wr
open Go.RowKit Go.Maps

set_option maxRecDepth 100000 in
set_option maxHeartbeats 4000000 in
/-- opWriter.named of a structure whose name is no operator. -/
theorem named_no (s : ByteArray) (hs : s.size ≤ maxLen) (A : Option Addr) (len cap ob mb : Nat) (tv fv : Value) (w : World) (hq : Blk w mb 48 #[tv, fv, .map (some ob)]) (hm : op.OpM w ob) (hz : op.level s.data.toList = 0) :
    Calls Tryd.prog 30 #[.pointer (some ⟨mb, 0, none⟩), .iface 62 (.agg #[.string s, .slice A len cap])] w fun e w' => NmR w 3 s A len cap e w' := by
  have hml := hq.lt
  have c2 := hq.cell 2
  simp only [List.getElem?_toArray, List.getElem?_cons_zero, List.getElem?_cons_succ] at c2
  have hkey := op.key_ok s hs
  have HM := Lib.hid hm
  have HQ := Lib.hid hq
  have hal : (op.opD2 14).atKey (.string s.data.toList) op.opZ = .agg [.lit (.string []), .lit (.string []), .lit (.int .i64 0)] ∧ has (op.opD2 14) (.string s.data.toList) = false := by
    rcases op.at2_all s.data.toList with ⟨h, _⟩ | ⟨_, h⟩
    · omega
    · exact h
  have HAL := Lib.hid hal
  have HZ := Lib.hid hz
  clear hm hq hal hs hz
  go_enter Tryd.func30, Tryd.ntmps30
  go_wp2_with fail
  have hb3 : Below w.heap.size w (((w.alloc (.cells #[.string ⟨#[]⟩, .slice none 0 0] 62)).alloc (.cells #[.string ⟨#[]⟩, .string ⟨#[]⟩, .int .i64 0] 64)).alloc (.cells #[.string s, .slice A len cap] 62)) :=
    (((Below.refl _ _).alloc (Nat.le_refl _) _).alloc (by simp) _).alloc (by simp; omega) _
  have q1 : Blk (((w.alloc (.cells #[.string ⟨#[]⟩, .slice none 0 0] 62)).alloc (.cells #[.string ⟨#[]⟩, .string ⟨#[]⟩, .int .i64 0] 64)).alloc (.cells #[.string s, .slice A len cap] 62)) w.heap.size 62 #[.string ⟨#[]⟩, .slice none 0 0] :=
    ((Blk.new w _ _).alloc _).alloc _
  have q2 : Blk (((w.alloc (.cells #[.string ⟨#[]⟩, .slice none 0 0] 62)).alloc (.cells #[.string ⟨#[]⟩, .string ⟨#[]⟩, .int .i64 0] 64)).alloc (.cells #[.string s, .slice A len cap] 62)) (w.heap.size + 1) 64 #[.string ⟨#[]⟩, .string ⟨#[]⟩, .int .i64 0] := by
    have h := (Blk.new (w.alloc (.cells #[.string ⟨#[]⟩, .slice none 0 0] 62)) 64 #[.string ⟨#[]⟩, .string ⟨#[]⟩, .int .i64 0]).alloc (.cells #[.string s, .slice A len cap] 62)
    simpa using h
  have q3 : Blk (((w.alloc (.cells #[.string ⟨#[]⟩, .slice none 0 0] 62)).alloc (.cells #[.string ⟨#[]⟩, .string ⟨#[]⟩, .int .i64 0] 64)).alloc (.cells #[.string s, .slice A len cap] 62)) (w.heap.size + 1 + 1) 62 #[.string s, .slice A len cap] := by
    have h := Blk.new ((w.alloc (.cells #[.string ⟨#[]⟩, .slice none 0 0] 62)).alloc (.cells #[.string ⟨#[]⟩, .string ⟨#[]⟩, .int .i64 0] 64)) 62 #[.string s, .slice A len cap]
    simpa using h
  have hm3 : op.OpM (((w.alloc (.cells #[.string ⟨#[]⟩, .slice none 0 0] 62)).alloc (.cells #[.string ⟨#[]⟩, .string ⟨#[]⟩, .int .i64 0] 64)).alloc (.cells #[.string s, .slice A len cap] 62)) ob := ((HM.out.alloc _).alloc _).alloc _
  generalize (((w.alloc (.cells #[.string ⟨#[]⟩, .slice none 0 0] 62)).alloc (.cells #[.string ⟨#[]⟩, .string ⟨#[]⟩, .int .i64 0] 64)).alloc (.cells #[.string s, .slice A len cap] 62)) = W at *
  have m2 := (hb3.cell (p := ⟨mb, 2, none⟩) hml).trans c2
  have x0 := q3.cell 0
  have x1 := q3.cell 1
  simp only [List.getElem?_toArray, List.getElem?_cons_zero, List.getElem?_cons_succ] at x0 x1
  obtain ⟨v, ps, hlk, hv⟩ := World.ownsMap.look_ok (e := 64) hm3.drew op.law Tryd.underlying46 (op.zero_op _) (zd := op.opZ) (zp := []) rfl hkey
  obtain ⟨v2, ps2, hlk2, hv2⟩ := World.ownsMap.look_ok (e := 64) (hm3.alloc (.cells #[.string ⟨#[]⟩, .string ⟨#[]⟩, .int .i64 0] 64)).drew op.law Tryd.underlying46 (op.zero_op _) (zd := op.opZ) (zp := []) rfl hkey
  have hmW : mb < W.heap.size := Nat.lt_of_lt_of_le hml hb3.size
  have hq3l := q3.lt
  have HB3 := Lib.hid hb3
  have HQ1 := Lib.hid q1
  have HQ2 := Lib.hid q2
  have HQ3 := Lib.hid q3
  have n2 : ∀ o, (W.alloc o).cell? ⟨mb, 2, none⟩ = some (.map (some ob)) := fun o => (((Below.refl W.heap.size W).alloc (Nat.le_refl _) o).cell (p := ⟨mb, 2, none⟩) hmW).trans m2
  have z0 : ∀ o, (W.alloc o).cell? ⟨w.heap.size + 1 + 1, 0, none⟩ = some (.string s) := fun o => (((Below.refl W.heap.size W).alloc (Nat.le_refl _) o).cell (p := ⟨w.heap.size + 1 + 1, 0, none⟩) hq3l).trans x0
  have z1 : ∀ o, (W.alloc o).cell? ⟨w.heap.size + 1 + 1, 1, none⟩ = some (.slice A len cap) := fun o => (((Below.refl W.heap.size W).alloc (Nat.le_refl _) o).cell (p := ⟨w.heap.size + 1 + 1, 1, none⟩) hq3l).trans x1
  have HN2 := Lib.hid n2
  have HZ0 := Lib.hid z0
  have HZ1 := Lib.hid z1
  clear hb3 q1 q2 q3 hm3 hkey c2 n2 z0 z1
  obtain ⟨hat, hhas⟩ := HAL.out
  rw [hat] at hv hv2
  obtain ⟨a, ha⟩ : ∃ a : ByteArray, a = ⟨([] : List UInt8).toArray⟩ := ⟨_, rfl⟩
  obtain ⟨b, hb⟩ : ∃ b : ByteArray, b = ⟨([] : List UInt8).toArray⟩ := ⟨_, rfl⟩
  obtain ⟨lv, hl⟩ : ∃ l : Int, l = 0 := ⟨_, rfl⟩
  have h1 : v = .agg #[.string a, .string b, .int .i64 lv] := by rw [ha, hb, hl]; exact op.opR2_inv hv
  have h2 : v2 = .agg #[.string a, .string b, .int .i64 lv] := by rw [ha, hb, hl]; exact op.opR2_inv hv2
  subst h1 h2
  rw [hhas] at hlk hlk2
  clear hv hv2 hat hhas HAL ha hb hl
  go_region_held3 (fun w' => w'.cell? ⟨mb, 2, none⟩ = some (.map (some ob)) ∧ w'.cell? ⟨w.heap.size + 1 + 1, 0, none⟩ = some (.string s) ∧ w'.cell? ⟨w.heap.size + 1 + 1, 1, none⟩ = some (.slice A len cap))
    (first | exact ⟨m2, x0, x1⟩ | exact ⟨HN2.out _, HZ0.out _, HZ1.out _⟩) (fail)
  all_goals
    have q1 : Blk (W.alloc (.cells #[.string a, .string b, .int .i64 lv] 64)).drew w.heap.size 62 #[.string ⟨#[]⟩, .slice none 0 0] := HQ1.out.alloc _
    have q2 : Blk (W.alloc (.cells #[.string a, .string b, .int .i64 lv] 64)).drew (w.heap.size + 1) 64 #[.string ⟨#[]⟩, .string ⟨#[]⟩, .int .i64 0] := HQ2.out.alloc _
    have q3 : Blk (W.alloc (.cells #[.string a, .string b, .int .i64 lv] 64)).drew (w.heap.size + 1 + 1) 62 #[.string s, .slice A len cap] := HQ3.out.alloc _
    have q4 : Blk (W.alloc (.cells #[.string a, .string b, .int .i64 lv] 64)).drew W.heap.size 64 #[.string a, .string b, .int .i64 lv] := Blk.new W _ _
    have hb4 : Below w.heap.size w (W.alloc (.cells #[.string a, .string b, .int .i64 lv] 64)).drew := (HB3.out.alloc HB3.out.size _).drew
    generalize (W.alloc (.cells #[.string a, .string b, .int .i64 lv] 64)).drew = W4 at *
    have r0 := q1.cell 0
    have r1 := q1.cell 1
    have r2 := q2.cell 0
    have r3 := q2.cell 1
    have r4 := q2.cell 2
    have r5 := q3.cell 0
    have r6 := q3.cell 1
    have r7 := q4.cell 0
    have r8 := q4.cell 1
    have r9 := q4.cell 2
    have g0 := q1.frozen 0
    have g1 := q1.frozen 1
    have g2 := q2.frozen 0
    have g3 := q2.frozen 1
    have g4 := q2.frozen 2
    simp only [List.getElem?_toArray, List.getElem?_cons_zero, List.getElem?_cons_succ] at r0 r1 r2 r3 r4 r5 r6 r7 r8 r9
    have hs4 : W.heap.size < W4.heap.size := q4.lt
    have hw4 : w.heap.size + 1 < W4.heap.size := q2.lt
    have hw5 : w.heap.size + 1 < W.heap.size := by omega
    have hw6 : w.heap.size + 1 + 1 < W.heap.size := by omega
    obtain ⟨p1, p2, p3⟩ := nm_store hb4 q1 q2 (.string s) (.slice A len cap) (.string a) (.string b) (.int .i64 lv)
    have HP1 := Lib.hid p1
    have HP2 := Lib.hid p2
    have HP3 := Lib.hid p3
    clear q1 q2 q3 q4 hb4 p1 p2 p3 HQ1 HQ2 HQ3 HB3 m2 x0 x1
    go_wp2_with fail
    go_region
    all_goals
      go_wp2_with fail
      refine bodyPost_ret (v := .tuple #[.agg #[.string s, .slice A len cap], .agg #[.string a, .string b, .int .i64 lv], .bool false]) ?_ rfl ⟨?_, .inr ⟨fun _ => HZ.out, _, _, _, _, _, _, _, rfl⟩⟩
      · exact results_cells2s Tryd.results30 _ _ w.heap.size (w.heap.size + 1) _ _ _ _ _ _ rfl rfl HP1.out HP2.out Tryd.underlying62 rfl (by kernel_rfl) Tryd.underlying64 rfl (by kernel_rfl)
      · exact HP3.out.drew
end Go.Proofs.YtmgfndgmebignaaDoor.wr

/- opWriter.named of variables and numbers. No condition. -/
namespace Go.Proofs.YtmgfndgmebignaaDoor.wr
open Go.RowKit Go.Maps

set_option maxRecDepth 100000 in
set_option maxHeartbeats 2000000 in
/-- opWriter.named of a variable. -/
theorem named_var (x : Int) (s : ByteArray) (A : Option Addr) (len cap mb : Nat) (w : World) :
    Calls Tryd.prog 30 #[.pointer (some ⟨mb, 0, none⟩), .iface 73 (.int .i64 x)] w fun e w' => NmR w 1 s A len cap e w' := by
  have hb3 : Below w.heap.size w (((w.alloc (.cells #[.string ⟨#[]⟩, .slice none 0 0] 62)).alloc (.cells #[.string ⟨#[]⟩, .string ⟨#[]⟩, .int .i64 0] 64)).alloc (.cells #[.string ⟨#[]⟩, .slice none 0 0] 62)) :=
    (((Below.refl _ _).alloc (Nat.le_refl _) _).alloc (by simp) _).alloc (by simp; omega) _
  have q1 : Blk (((w.alloc (.cells #[.string ⟨#[]⟩, .slice none 0 0] 62)).alloc (.cells #[.string ⟨#[]⟩, .string ⟨#[]⟩, .int .i64 0] 64)).alloc (.cells #[.string ⟨#[]⟩, .slice none 0 0] 62)) w.heap.size 62 #[.string ⟨#[]⟩, .slice none 0 0] :=
    ((Blk.new w _ _).alloc _).alloc _
  have q2 : Blk (((w.alloc (.cells #[.string ⟨#[]⟩, .slice none 0 0] 62)).alloc (.cells #[.string ⟨#[]⟩, .string ⟨#[]⟩, .int .i64 0] 64)).alloc (.cells #[.string ⟨#[]⟩, .slice none 0 0] 62)) (w.heap.size + 1) 64 #[.string ⟨#[]⟩, .string ⟨#[]⟩, .int .i64 0] := by
    have h := (Blk.new (w.alloc (.cells #[.string ⟨#[]⟩, .slice none 0 0] 62)) 64 #[.string ⟨#[]⟩, .string ⟨#[]⟩, .int .i64 0]).alloc (.cells #[.string ⟨#[]⟩, .slice none 0 0] 62)
    simpa using h
  have HB3 := Lib.hid hb3
  have HQ1 := Lib.hid q1
  have HQ2 := Lib.hid q2
  clear hb3 q1 q2
  go_enter Tryd.func30, Tryd.ntmps30
  go_wp2_with fail
  refine bodyPost_ret (v := .tuple #[.agg #[.string ⟨#[]⟩, .slice none 0 0], .agg #[.string ⟨#[]⟩, .string ⟨#[]⟩, .int .i64 0], .bool false]) ?_ rfl ⟨HB3.out, .inr ⟨fun h => absurd h (by decide), _, _, _, _, _, _, _, rfl⟩⟩
  exact results_cells2s Tryd.results30 _ _ w.heap.size (w.heap.size + 1) _ _ _ _ _ _ rfl rfl HQ1.out HQ2.out Tryd.underlying62 rfl (by kernel_rfl) Tryd.underlying64 rfl (by kernel_rfl)
set_option maxRecDepth 100000 in
set_option maxHeartbeats 2000000 in
/-- opWriter.named of a number. -/
theorem named_num (x : Int) (s : ByteArray) (A : Option Addr) (len cap mb : Nat) (w : World) :
    Calls Tryd.prog 30 #[.pointer (some ⟨mb, 0, none⟩), .iface 74 (.int .i64 x)] w fun e w' => NmR w 2 s A len cap e w' := by
  have hb3 : Below w.heap.size w (((w.alloc (.cells #[.string ⟨#[]⟩, .slice none 0 0] 62)).alloc (.cells #[.string ⟨#[]⟩, .string ⟨#[]⟩, .int .i64 0] 64)).alloc (.cells #[.string ⟨#[]⟩, .slice none 0 0] 62)) :=
    (((Below.refl _ _).alloc (Nat.le_refl _) _).alloc (by simp) _).alloc (by simp; omega) _
  have q1 : Blk (((w.alloc (.cells #[.string ⟨#[]⟩, .slice none 0 0] 62)).alloc (.cells #[.string ⟨#[]⟩, .string ⟨#[]⟩, .int .i64 0] 64)).alloc (.cells #[.string ⟨#[]⟩, .slice none 0 0] 62)) w.heap.size 62 #[.string ⟨#[]⟩, .slice none 0 0] :=
    ((Blk.new w _ _).alloc _).alloc _
  have q2 : Blk (((w.alloc (.cells #[.string ⟨#[]⟩, .slice none 0 0] 62)).alloc (.cells #[.string ⟨#[]⟩, .string ⟨#[]⟩, .int .i64 0] 64)).alloc (.cells #[.string ⟨#[]⟩, .slice none 0 0] 62)) (w.heap.size + 1) 64 #[.string ⟨#[]⟩, .string ⟨#[]⟩, .int .i64 0] := by
    have h := (Blk.new (w.alloc (.cells #[.string ⟨#[]⟩, .slice none 0 0] 62)) 64 #[.string ⟨#[]⟩, .string ⟨#[]⟩, .int .i64 0]).alloc (.cells #[.string ⟨#[]⟩, .slice none 0 0] 62)
    simpa using h
  have HB3 := Lib.hid hb3
  have HQ1 := Lib.hid q1
  have HQ2 := Lib.hid q2
  clear hb3 q1 q2
  go_enter Tryd.func30, Tryd.ntmps30
  go_wp2_with fail
  refine bodyPost_ret (v := .tuple #[.agg #[.string ⟨#[]⟩, .slice none 0 0], .agg #[.string ⟨#[]⟩, .string ⟨#[]⟩, .int .i64 0], .bool false]) ?_ rfl ⟨HB3.out, .inr ⟨fun h => absurd h (by decide), _, _, _, _, _, _, _, rfl⟩⟩
  exact results_cells2s Tryd.results30 _ _ w.heap.size (w.heap.size + 1) _ _ _ _ _ _ rfl rfl HQ1.out HQ2.out Tryd.underlying62 rfl (by kernel_rfl) Tryd.underlying64 rfl (by kernel_rfl)
end Go.Proofs.YtmgfndgmebignaaDoor.wr

/- opWriter.named at every node; opWriter.operandLevel. Condition: the node lies in memory, the map of operators in the writer's block. -/
namespace Go.Proofs.YtmgfndgmebignaaDoor.wr
open Go.RowKit Go.Maps

/-- opWriter.named of a node, in a world in which the writer stands. -/
theorem named_any (k n : Int) (s : ByteArray) (f : Fr) (v : Value) (lo hi ob mb : Nat) (tv fv : Value) (w : World) (hv : NdV w lo hi k n s f v) (hs : s.size ≤ maxLen) (hq : Blk w mb 48 #[tv, fv, .map (some ob)]) (hm : op.OpM w ob) :
    ∃ A cap, (k = 3 → NdS w lo hi f A cap ∧ v = .iface 62 (.agg #[.string s, .slice A f.len cap])) ∧ Calls Tryd.prog 30 #[.pointer (some ⟨mb, 0, none⟩), v] w fun e w' => NmR w k s A f.len cap e w' := by
  rcases hv with ⟨rfl, rfl⟩ | ⟨rfl, rfl⟩ | ⟨rfl, A, cap, rfl, hn⟩
  · exact ⟨none, 0, (fun h => absurd h (by decide)), named_var n s none f.len 0 mb w⟩
  · exact ⟨none, 0, (fun h => absurd h (by decide)), named_num n s none f.len 0 mb w⟩
  · refine ⟨A, cap, fun _ => ⟨hn, rfl⟩, ?_⟩
    rcases op.at2_all s.data.toList with ⟨h, _⟩ | ⟨h, _⟩
    · exact named_yes s hs A f.len cap ob mb tv fv w hq hm h
    · exact named_no s hs A f.len cap ob mb tv fv w hq hm h

set_option maxRecDepth 100000 in
set_option maxHeartbeats 2000000 in
/-- opWriter.operandLevel. -/
theorem oplev_any (k n : Int) (s : ByteArray) (f : Fr) (v : Value) (lo hi ob mb : Nat) (tv fv : Value) (w : World) (hv : NdV w lo hi k n s f v) (hs : s.size ≤ maxLen) (hfl : f.len ≤ maxLen) (hq : Blk w mb 48 #[tv, fv, .map (some ob)]) (hm : op.OpM w ob) :
    Calls Tryd.prog 49 #[.pointer (some ⟨mb, 0, none⟩), v] w fun e w' => e = .returned (.int .i64 (olv k s f.len)) ∧ Below w.heap.size w w' := by
  obtain ⟨A, cap, -, C1⟩ := named_any k n s f v lo hi ob mb tv fv w hv hs hq hm
  obtain ⟨T0, x0, rfl⟩ := hv.iface
  have HV : Hid (olv k s f.len = if infB k s f.len = true then op.level s.data.toList else if soleB k s f.len = true then 4 else 0) := Lib.hid rfl
  have HI : Hid (infB k s f.len = (k == 3 && (f.len == 2 && decide (0 < op.level s.data.toList)))) := Lib.hid rfl
  have HS : Hid (soleB k s f.len = (k == 3 && (f.len == 0 && decide (0 < op.level s.data.toList)))) := Lib.hid rfl
  have H1 := Lib.hid C1
  unfold maxLen at hfl
  clear C1 hv hs hq hm
  generalize f.len = len at *
  go_enter Tryd.func49, Tryd.ntmps49
  go_wp2_with fail
  refine H1.out.mono ?_
  rintro e w2 ⟨hb, hr⟩
  have HB := Lib.hid hb
  have HB2 : Hid (∀ o1 o2, Below w.heap.size w ((w2.alloc o1).alloc o2)) := Lib.hid fun o1 o2 => (HB.out.alloc HB.out.size _).alloc (by have := HB.out.size; simp; omega) _
  rcases hr with ⟨rfl, hpos, a, rfl⟩ | ⟨hz, x1, x2, x3, x4, y1, y2, y3, rfl⟩
  · have hd := decide_eq_true hpos
    rw [hd] at HI HS
    clear hd hpos hb
    generalize op.level s.data.toList = lv at *
    by_cases h2 : len = 2
    · subst h2
      have HW : Hid (olv 3 s 2 = lv) := Lib.hid (by rw [HV.out, HI.out]; rfl)
      clear HV HI HS
      go_wp2_with fail
      go_ret
      rw [HW.out]; exact ⟨rfl, HB2.out _ _⟩
    · have t2 : ((len : Int) == 2) = false := by rw [beq_eq_false_iff_ne]; omega
      have hi0 : infB 3 s len = false := by rw [HI.out]; simp [h2]
      by_cases h0 : len = 0
      · subst h0
        have HW : Hid (olv 3 s 0 = 4) := Lib.hid (by rw [HV.out, hi0, HS.out]; rfl)
        clear HV HI HS hi0 h2
        go_wp2_with fail
        go_ret
        rw [HW.out]; exact ⟨rfl, HB2.out _ _⟩
      · have t0 : ((len : Int) == 0) = false := by rw [beq_eq_false_iff_ne]; omega
        have hs0 : soleB 3 s len = false := by rw [HS.out]; simp [h0]
        have HW : Hid (olv 3 s len = 0) := Lib.hid (by rw [HV.out, hi0, hs0]; rfl)
        clear HV HI HS hi0 hs0 h2 h0
        go_wp2_with fail
        go_ret
        rw [HW.out]; exact ⟨rfl, HB2.out _ _⟩
  · have hk : (k == 3) = false ∨ decide (0 < op.level s.data.toList) = false := by
      by_cases h3 : k = 3
      · right; rw [hz h3]; rfl
      · left; rw [beq_eq_false_iff_ne]; exact h3
    have HW : Hid (olv k s len = 0) := Lib.hid (by
      rw [HV.out, HI.out, HS.out]
      rcases hk with h | h <;> rw [h] <;> simp)
    clear HV HI HS hk hz hb
    go_wp2_with fail
    go_ret
    rw [HW.out]; exact ⟨rfl, HB2.out _ _⟩
end Go.Proofs.YtmgfndgmebignaaDoor.wr
