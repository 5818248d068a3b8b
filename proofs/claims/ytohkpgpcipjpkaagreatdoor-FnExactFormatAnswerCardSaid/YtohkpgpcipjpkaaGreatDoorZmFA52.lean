/- opWriter.named of variables and numbers. No condition. -/
import Derived.Test.YtohkpgpcipjpkaaGreatDoorProg
import Derived.Test.YtohkpgpcipjpkaaGreatDoorZmFA51
import Derived.Test.YtohkpgpcipjpkaaGreatDoorZmFA50
import Derived.Test.YtohkpgpcipjpkaaGreatDoorZmFA47
import Derived.Test.YtohkpgpcipjpkaaGreatDoorZmFA48
import Derived.Test.YtohkpgpcipjpkaaGreatDoorImplV
import Derived.Laws.EntriesVeiled
import Derived.Test.YtohkpgpcipjpkaaGreatDoorZmFA46
import Derived.Test.YtohkpgpcipjpkaaGreatDoorAn
import Derived.Deep.RegionHeld3
namespace Go.Proofs.YtohkpgpcipjpkaaGreatDoor.wr
open Go.RowKit Go.Maps

set_option maxRecDepth 100000 in
set_option maxHeartbeats 2000000 in
/-- opWriter.named of a variable. -/
theorem named_var (x : Int) (s : ByteArray) (A : Option Addr) (len cap mb : Nat) (w : World) :
    Calls Tryz.prog 34 #[.pointer (some ⟨mb, 0, none⟩), .iface 63 (.int .i64 x)] w fun e w' => NmR w 1 s A len cap e w' := by
  have hb3 : Below w.heap.size w (((w.alloc (.cells #[.string ⟨#[]⟩, .slice none 0 0] 78)).alloc (.cells #[.string ⟨#[]⟩, .string ⟨#[]⟩, .int .i64 0] 87)).alloc (.cells #[.string ⟨#[]⟩, .slice none 0 0] 78)) :=
    (((Below.refl _ _).alloc (Nat.le_refl _) _).alloc (by simp) _).alloc (by simp; omega) _
  have q1 : Blk (((w.alloc (.cells #[.string ⟨#[]⟩, .slice none 0 0] 78)).alloc (.cells #[.string ⟨#[]⟩, .string ⟨#[]⟩, .int .i64 0] 87)).alloc (.cells #[.string ⟨#[]⟩, .slice none 0 0] 78)) w.heap.size 78 #[.string ⟨#[]⟩, .slice none 0 0] :=
    ((Blk.new w _ _).alloc _).alloc _
  have q2 : Blk (((w.alloc (.cells #[.string ⟨#[]⟩, .slice none 0 0] 78)).alloc (.cells #[.string ⟨#[]⟩, .string ⟨#[]⟩, .int .i64 0] 87)).alloc (.cells #[.string ⟨#[]⟩, .slice none 0 0] 78)) (w.heap.size + 1) 87 #[.string ⟨#[]⟩, .string ⟨#[]⟩, .int .i64 0] := by
    have h := (Blk.new (w.alloc (.cells #[.string ⟨#[]⟩, .slice none 0 0] 78)) 87 #[.string ⟨#[]⟩, .string ⟨#[]⟩, .int .i64 0]).alloc (.cells #[.string ⟨#[]⟩, .slice none 0 0] 78)
    simpa using h
  have HB3 := Lib.hid hb3
  have HQ1 := Lib.hid q1
  have HQ2 := Lib.hid q2
  clear hb3 q1 q2
  go_enter Tryz.func34, Tryz.ntmps34
  go_wp2_with fail
  refine bodyPost_ret (v := .tuple #[.agg #[.string ⟨#[]⟩, .slice none 0 0], .agg #[.string ⟨#[]⟩, .string ⟨#[]⟩, .int .i64 0], .bool false]) ?_ rfl ⟨HB3.out, .inr ⟨fun h => absurd h (by decide), _, _, _, _, _, _, _, rfl⟩⟩
  exact results_cells2s Tryz.results34 _ _ w.heap.size (w.heap.size + 1) _ _ _ _ _ _ rfl rfl HQ1.out HQ2.out Tryz.underlying78 rfl (by kernel_rfl) Tryz.underlying87 rfl (by kernel_rfl)
set_option maxRecDepth 100000 in
set_option maxHeartbeats 2000000 in
/-- opWriter.named of a number. -/
theorem named_num (x : Int) (s : ByteArray) (A : Option Addr) (len cap mb : Nat) (w : World) :
    Calls Tryz.prog 34 #[.pointer (some ⟨mb, 0, none⟩), .iface 108 (.int .i64 x)] w fun e w' => NmR w 2 s A len cap e w' := by
  have hb3 : Below w.heap.size w (((w.alloc (.cells #[.string ⟨#[]⟩, .slice none 0 0] 78)).alloc (.cells #[.string ⟨#[]⟩, .string ⟨#[]⟩, .int .i64 0] 87)).alloc (.cells #[.string ⟨#[]⟩, .slice none 0 0] 78)) :=
    (((Below.refl _ _).alloc (Nat.le_refl _) _).alloc (by simp) _).alloc (by simp; omega) _
  have q1 : Blk (((w.alloc (.cells #[.string ⟨#[]⟩, .slice none 0 0] 78)).alloc (.cells #[.string ⟨#[]⟩, .string ⟨#[]⟩, .int .i64 0] 87)).alloc (.cells #[.string ⟨#[]⟩, .slice none 0 0] 78)) w.heap.size 78 #[.string ⟨#[]⟩, .slice none 0 0] :=
    ((Blk.new w _ _).alloc _).alloc _
  have q2 : Blk (((w.alloc (.cells #[.string ⟨#[]⟩, .slice none 0 0] 78)).alloc (.cells #[.string ⟨#[]⟩, .string ⟨#[]⟩, .int .i64 0] 87)).alloc (.cells #[.string ⟨#[]⟩, .slice none 0 0] 78)) (w.heap.size + 1) 87 #[.string ⟨#[]⟩, .string ⟨#[]⟩, .int .i64 0] := by
    have h := (Blk.new (w.alloc (.cells #[.string ⟨#[]⟩, .slice none 0 0] 78)) 87 #[.string ⟨#[]⟩, .string ⟨#[]⟩, .int .i64 0]).alloc (.cells #[.string ⟨#[]⟩, .slice none 0 0] 78)
    simpa using h
  have HB3 := Lib.hid hb3
  have HQ1 := Lib.hid q1
  have HQ2 := Lib.hid q2
  clear hb3 q1 q2
  go_enter Tryz.func34, Tryz.ntmps34
  go_wp2_with fail
  refine bodyPost_ret (v := .tuple #[.agg #[.string ⟨#[]⟩, .slice none 0 0], .agg #[.string ⟨#[]⟩, .string ⟨#[]⟩, .int .i64 0], .bool false]) ?_ rfl ⟨HB3.out, .inr ⟨fun h => absurd h (by decide), _, _, _, _, _, _, _, rfl⟩⟩
  exact results_cells2s Tryz.results34 _ _ w.heap.size (w.heap.size + 1) _ _ _ _ _ _ rfl rfl HQ1.out HQ2.out Tryz.underlying78 rfl (by kernel_rfl) Tryz.underlying87 rfl (by kernel_rfl)
end Go.Proofs.YtohkpgpcipjpkaaGreatDoor.wr

/- opWriter.named at every node; opWriter.operandLevel. Condition: the node lies in memory, the map of operators in the writer's block. -/
namespace Go.Proofs.YtohkpgpcipjpkaaGreatDoor.wr
open Go.RowKit Go.Maps

/-- opWriter.named of a node, in a world in which the writer stands. -/
theorem named_any (k n : Int) (s : ByteArray) (f : Fr) (v : Value) (lo hi ob mb : Nat) (tv fv : Value) (w : World) (hv : NdV w lo hi k n s f v) (hs : s.size ≤ maxLen) (hq : Blk w mb 62 #[tv, fv, .map (some ob)]) (hm : op.OpM w ob) :
    ∃ A cap, (k = 3 → NdS w lo hi f A cap ∧ v = .iface 78 (.agg #[.string s, .slice A f.len cap])) ∧ Calls Tryz.prog 34 #[.pointer (some ⟨mb, 0, none⟩), v] w fun e w' => NmR w k s A f.len cap e w' := by
  rcases hv with ⟨rfl, rfl⟩ | ⟨rfl, rfl⟩ | ⟨rfl, A, cap, rfl, hn⟩
  · exact ⟨none, 0, (fun h => absurd h (by decide)), named_var n s none f.len 0 mb w⟩
  · exact ⟨none, 0, (fun h => absurd h (by decide)), named_num n s none f.len 0 mb w⟩
  · refine ⟨A, cap, fun _ => ⟨hn, rfl⟩, ?_⟩
    rcases op.at2_all s.data.toList with ⟨h, _⟩ | ⟨h, _⟩
    · exact named_yes s hs A f.len cap ob mb tv fv w hq hm h
    · exact named_no s hs A f.len cap ob mb tv fv w hq hm h

set_option maxRecDepth 100000 in
set_option maxHeartbeats 2000000 in
/-- opWriter.operandLevel. -/
theorem oplev_any (k n : Int) (s : ByteArray) (f : Fr) (v : Value) (lo hi ob mb : Nat) (tv fv : Value) (w : World) (hv : NdV w lo hi k n s f v) (hs : s.size ≤ maxLen) (hfl : f.len ≤ maxLen) (hq : Blk w mb 62 #[tv, fv, .map (some ob)]) (hm : op.OpM w ob) :
    Calls Tryz.prog 58 #[.pointer (some ⟨mb, 0, none⟩), v] w fun e w' => e = .returned (.int .i64 (olv k s f.len)) ∧ Below w.heap.size w w' := by
  obtain ⟨A, cap, -, C1⟩ := named_any k n s f v lo hi ob mb tv fv w hv hs hq hm
  obtain ⟨T0, x0, rfl⟩ := hv.iface
  have HV : Hid (olv k s f.len = if infB k s f.len = true then op.level s.data.toList else if soleB k s f.len = true then 4 else 0) := Lib.hid rfl
  have HI : Hid (infB k s f.len = (k == 3 && (f.len == 2 && decide (0 < op.level s.data.toList)))) := Lib.hid rfl
  have HS : Hid (soleB k s f.len = (k == 3 && (f.len == 0 && decide (0 < op.level s.data.toList)))) := Lib.hid rfl
  have H1 := Lib.hid C1
  unfold maxLen at hfl
  clear C1 hv hs hq hm
  generalize f.len = len at *
  go_enter Tryz.func58, Tryz.ntmps58
  go_wp2_with fail
  refine H1.out.mono ?_
  rintro e w2 ⟨hb, hr⟩
  have HB := Lib.hid hb
  have HB2 : Hid (∀ o1 o2, Below w.heap.size w ((w2.alloc o1).alloc o2)) := Lib.hid fun o1 o2 => (HB.out.alloc HB.out.size _).alloc (by have := HB.out.size; simp; omega) _
  rcases hr with ⟨rfl, hpos, a, rfl⟩ | ⟨hz, x1, x2, x3, x4, y1, y2, y3, rfl⟩
  · have hd := decide_eq_true hpos
    rw [hd] at HI HS
    clear hd hpos hb
    generalize op.level s.data.toList = lv at *
    by_cases h2 : len = 2
    · subst h2
      have HW : Hid (olv 3 s 2 = lv) := Lib.hid (by rw [HV.out, HI.out]; rfl)
      clear HV HI HS
      go_wp2_with fail
      go_ret
      rw [HW.out]; exact ⟨rfl, HB2.out _ _⟩
    · have t2 : ((len : Int) == 2) = false := by rw [beq_eq_false_iff_ne]; omega
      have hi0 : infB 3 s len = false := by rw [HI.out]; simp [h2]
      by_cases h0 : len = 0
      · subst h0
        have HW : Hid (olv 3 s 0 = 4) := Lib.hid (by rw [HV.out, hi0, HS.out]; rfl)
        clear HV HI HS hi0 h2
        go_wp2_with fail
        go_ret
        rw [HW.out]; exact ⟨rfl, HB2.out _ _⟩
      · have t0 : ((len : Int) == 0) = false := by rw [beq_eq_false_iff_ne]; omega
        have hs0 : soleB 3 s len = false := by rw [HS.out]; simp [h0]
        have HW : Hid (olv 3 s len = 0) := Lib.hid (by rw [HV.out, hi0, hs0]; rfl)
        clear HV HI HS hi0 hs0 h2 h0
        go_wp2_with fail
        go_ret
        rw [HW.out]; exact ⟨rfl, HB2.out _ _⟩
  · have hk : (k == 3) = false ∨ decide (0 < op.level s.data.toList) = false := by
      by_cases h3 : k = 3
      · right; rw [hz h3]; rfl
      · left; rw [beq_eq_false_iff_ne]; exact h3
    have HW : Hid (olv k s len = 0) := Lib.hid (by
      rw [HV.out, HI.out, HS.out]
      rcases hk with h | h <;> rw [h] <;> simp)
    clear HV HI HS hk hz hb
    go_wp2_with fail
    go_ret
    rw [HW.out]; exact ⟨rfl, HB2.out _ _⟩
end Go.Proofs.YtohkpgpcipjpkaaGreatDoor.wr

/- opWriter.writeOperand, given the contract of writeWritten. Condition: the node lies in memory below the writer and is well-formed; the tables in their places. -/
namespace Go.Proofs.YtohkpgpcipjpkaaGreatDoor.wr
open Go.RowKit

theorem TF.rows {mb : Nat} {w w1 w6 : World} {tv : Value} {n : Nat} {xs : List Value} (hm : mb < w.heap.size) (ho : w.ownsRow (mb + 1) 5 1 tv n xs) (h1 : Below w.heap.size w w1) (hg : w1.grownBy w6 tv.ownBlock) : TF mb w w6 := by
  refine ⟨(h1.mono (Nat.le_of_lt hm)).grown hg (Nat.le_trans (Nat.le_of_lt hm) h1.size) fun k hk => by have := (ho.lt k hk).1; omega, ?_⟩
  refine (TF.below h1 (Nat.le_of_lt hm)).2.grown hg fun k hk => ?_
  obtain ⟨c, fz, hc⟩ := row_kind ho k hk
  exact ⟨c, fz, (h1.block k (ho.lt k hk).2).trans hc⟩
/-- Two calls that make the row grow, and the store of the new row. -/
theorem TW.two {ob mb n4 : Nat} {bs bs' : List UInt8} {xs4 : List Value} {w w1 w4 w5 w6 : World} {tv v4 v6 : Value} (hq : Blk w mb 62 #[tv, fW mb, .map (some ob)]) (ho : w.ownsRow (mb + 1) 5 1 tv bs.length (Lib.byteCells bs)) (h1 : Below w.heap.size w w1) (hg : w1.grownBy w4 tv.ownBlock)
    (ho4 : w4.ownsRow (mb + 1) 5 1 v4 n4 xs4) (h5 : Below w4.heap.size w4 w5) (hg6 : w5.grownBy w6 v4.ownBlock) (ho6 : w6.ownsRow (mb + 1) 5 1 v6 bs'.length (Lib.byteCells bs')) :
    TW ob mb bs' (w6.setCell ⟨mb, 0, none⟩ v6) ∧ TF mb w (w6.setCell ⟨mb, 0, none⟩ v6) ∧ Blk w6 mb 62 #[tv, fW mb, .map (some ob)] := by
  have hm := hq.lt
  have hs4 : w.heap.size ≤ w4.heap.size := Nat.le_trans h1.size hg.size
  have t1 := TF.rows hm ho h1 hg
  have t2 := TF.rows (Nat.lt_of_lt_of_le hm hs4) ho4 h5 hg6
  have hne : some mb ≠ tv.ownBlock := fun e => by have := (ho.lt mb e.symm).1; omega
  have hne4 : some mb ≠ v4.ownBlock := fun e => by have := (ho4.lt mb e.symm).1; omega
  have hq6 : Blk w6 mb 62 #[tv, fW mb, .map (some ob)] := by
    refine hq.keep ?_
    rw [hg6.block mb (Nat.lt_of_lt_of_le (Nat.lt_of_lt_of_le hm hs4) h5.size) hne4, h5.block mb (Nat.lt_of_lt_of_le hm hs4), hg.block mb (Nat.lt_of_lt_of_le hm h1.size) hne, h1.block mb hm]
  refine ⟨⟨v6, ?_, ?_⟩, (t1.trans t2).set_ 0 _, hq6⟩
  · have h := hq6.set_ 0 v6
    simpa using h
  · refine ho6.kept (row := some mb) ⟨rfl, rfl, rfl, by simp [World.setCell], fun k _ hk => ?_⟩ (.inr fun e => ?_)
    · exact heap_setCell_other _ _ _ _ fun e => hk (by rw [e])
    · have := (ho6.lt mb e).1
      omega
theorem row_some {w : World} {base : Nat} {e : TypeId} {A : Option Addr} {n c : Nat} {xs : List Value} (h : w.ownsRow base e 1 (.slice A n c) n xs) (hn : 0 < n) : ∃ g, A = some ⟨g, 0, none⟩ := by
  rcases h.2 with ⟨_, h0⟩ | ⟨g', cap, cur, hv, _⟩
  · omega
  · simp only [Value.slice.injEq] at hv
    exact ⟨g', hv.1⟩
/-- An operand's text. -/
def opT (right : Bool) (k n : Int) (s : ByteArray) (f : Fr) (l : Int) : List UInt8 := if right = true then rigT k n s f l else lefT k n s f l
theorem byteCells_at (a b : List UInt8) (c : UInt8) : (Lib.byteCells (a ++ c :: b))[a.length]? = some (.int .u8 (c.toNat : Int)) := by
  unfold Lib.byteCells
  simp
theorem one_bytes (a : List UInt8) : ∀ v ∈ Lib.byteCells a, v.oneCell' = true := by
  unfold Lib.byteCells
  intro v hv
  simp only [List.mem_map] at hv
  obtain ⟨c, _, rfl⟩ := hv
  rfl
theorem ins_bytes (bs T : List UInt8) : (Lib.byteCells (bs ++ T)).take bs.length ++ Value.int .u8 40 :: (Lib.byteCells (bs ++ T)).drop bs.length = Lib.byteCells (bs ++ 40 :: T) := by
  unfold Lib.byteCells
  rw [List.map_append, List.take_left' (by simp), List.drop_left' (by simp)]
  simp

set_option maxRecDepth 100000 in
set_option maxHeartbeats 4000000 in
/-- opWriter.writeOperand where no brackets are needed. -/
theorem opnd_plain (s : ByteArray) (f : Fr) (h : OwC s f) (k n d l : Int) (right : Bool) (v : Value) (lo hi ob mb : Nat) (bs : List UInt8) (w : World) (hs : shapeT k n s f d = true) (hsz : s.size ≤ maxLen) (hv : NdV w lo hi k n s f v) (hh : hi ≤ mb) (hw : TW ob mb bs w) (hl : bs.length + (txT k n s f).length ≤ 1073741824) (ht : Pow10 ob mb w) (hnd : nodes f ≤ 1048576)
    (h1 : ¬ l < olv k s f.len) (h2 : right = true → plB (txT k n s f) = true) :
    Calls Tryz.prog 36 #[.pointer (some ⟨mb, 0, none⟩), v, .int .i64 l, .bool right] w fun e w' => e = .returned (.tuple #[]) ∧ TW ob mb (bs ++ txT k n s f) w' ∧ TF mb w w' := by
  have hm0 : mb < w.heap.size := by obtain ⟨_, hq, _⟩ := hw; exact hq.lt
  have C1 := h k n d v lo hi ob mb bs w hs hv hh hw hl ht hnd
  have hfl : f.len ≤ maxLen := by have := len_le_nodes f; unfold maxLen; omega
  have C2 := fun (w2 : World) (htf : TF mb w w2) (tv : Value) (hq : Blk w2 mb 62 #[tv, fW mb, .map (some ob)]) => oplev_any k n s f v lo hi ob mb tv (fW mb) w2 (hv.keep (fun p _ hp => htf.1.cell (by omega)) (Nat.le_refl _) (Nat.le_refl _)) hsz hfl hq (OpM_keep ht.2.2 htf.1 ht.2.1)
  have hpos := txT_ne hs
  obtain ⟨c, T', hT⟩ : ∃ c T', txT k n s f = c :: T' := by
    cases hx : txT k n s f with
    | nil => rw [hx] at hpos; simp at hpos
    | cons c T' => exact ⟨c, T', rfl⟩
  have C3 := fun (w3 : World) => follow_any c w3
  have hplc : right = true → plC c = true := fun hr => by have := h2 hr; rw [hT] at this; exact this
  obtain ⟨T0, x0, rfl⟩ := hv.iface
  have H1 := Lib.hid C1
  have H2 := Lib.hid C2
  have H3 := Lib.hid C3
  have HW0 := Lib.hid hw
  have HT := Lib.hid hT
  have d1 : decide (l < olv k s f.len) = false := decide_eq_false h1
  clear C1 C2 C3 h hs hsz hv hh ht hnd h1 h2 hT hfl hpos
  generalize txT k n s f = T at *
  generalize olv k s f.len = ol at *
  obtain ⟨tv0, hq0, ho0⟩ := hw
  obtain ⟨A0, c0, rfl, _, _⟩ := row_form ho0
  have p00 := hq0.cell 0
  simp only [List.getElem?_toArray, List.getElem?_cons_zero] at p00
  have hbl : bs.length ≤ 1073741824 := by omega
  clear hq0 ho0
  go_enter Tryz.func36, Tryz.ntmps36
  go_wp2_with fail
  refine H1.out.mono ?_
  rintro e w2 ⟨rfl, hw2, htf2⟩
  obtain ⟨tv2, hq2, ho2⟩ := hw2
  have C4 := H2.out w2 htf2 tv2 hq2
  have H4 := Lib.hid C4
  have HTF2 := Lib.hid htf2
  have HW2 : Hid (TW ob mb (bs ++ T) w2) := Lib.hid ⟨tv2, hq2, ho2⟩
  have hm2 := hq2.lt
  clear C4 htf2 hq2 ho2 p00
  go_wp2_with fail
  refine H4.out.mono ?_
  rintro e w3 ⟨rfl, hb3⟩
  have HW3 := Lib.hid (HW2.out.below hb3)
  have HTF3 := Lib.hid (HTF2.out.trans (TF.below hb3 (Nat.le_of_lt hm2)))
  clear hb3
  cases right
  · clear hplc
    go_wp2_with fail
    go_end0
    exact ⟨rfl, HW3.out, HTF3.out⟩
  · have hpc := hplc rfl
    obtain ⟨tv3, hq3, ho3⟩ := HW3.out
    obtain ⟨A3, c3, rfl, hc3, hc4⟩ := row_form ho3
    obtain ⟨g, rfl⟩ := row_some ho3 (by rw [HT.out]; simp only [List.length_append, List.length_cons]; omega)
    have p03 := hq3.cell 0
    simp only [List.getElem?_toArray, List.getElem?_cons_zero] at p03
    have hy := ho3.cells (g := g) rfl bs.length (.int .u8 (c.toNat : Int)) (by rw [HT.out]; exact byteCells_at bs T' c)
    have e : (⟨g, 0, none⟩ : Addr).add bs.length = ⟨g, bs.length, none⟩ := by unfold Addr.add; split <;> simp_all
    rw [e] at hy
    have hlt : bs.length < (bs ++ T).length := by rw [HT.out]; simp only [List.length_append, List.length_cons]; omega
    have C5 := H3.out w3
    rw [hpc] at C5
    have H5 := Lib.hid C5
    have hNl : (bs ++ T).length ≤ 1073741824 := by rw [List.length_append]; exact hl
    unfold maxLen at hc4
    generalize (bs ++ T).length = N at *
    clear hplc hpc C5 hq3 ho3 e
    go_wp2_with (first
      | (go_at_call 59; refine H5.out.mono ?_; rintro e w3 ⟨rfl, rfl⟩)
      | fail)
    go_end0
    exact ⟨rfl, HW3.out, HTF3.out⟩
end Go.Proofs.YtohkpgpcipjpkaaGreatDoor.wr

/- opWriter.writeOperand where brackets are needed; at every operand. Condition: the node lies in memory below the writer and is well-formed; the tables in their places. -/
namespace Go.Proofs.YtohkpgpcipjpkaaGreatDoor.wr
open Go.RowKit

set_option maxRecDepth 100000 in
set_option maxHeartbeats 8000000 in
/-- opWriter.writeOperand where brackets are needed. -/
theorem opnd_bra (s : ByteArray) (f : Fr) (h : OwC s f) (k n d l : Int) (right : Bool) (v : Value) (lo hi ob mb : Nat) (bs : List UInt8) (w : World) (hs : shapeT k n s f d = true) (hsz : s.size ≤ maxLen) (hv : NdV w lo hi k n s f v) (hh : hi ≤ mb) (hw : TW ob mb bs w) (hl : bs.length + (txT k n s f).length + 2 ≤ 1073741824) (ht : Pow10 ob mb w) (hnd : nodes f ≤ 1048576)
    (hc : l < olv k s f.len ∨ ¬ l < olv k s f.len ∧ right = true ∧ plB (txT k n s f) = false) :
    Calls Tryz.prog 36 #[.pointer (some ⟨mb, 0, none⟩), v, .int .i64 l, .bool right] w fun e w' => e = .returned (.tuple #[]) ∧ TW ob mb (bs ++ braB (txT k n s f)) w' ∧ TF mb w w' := by
  obtain ⟨i0, hi0, hz0, hz1, hz2⟩ := info_parts infoU8
  have hm0 : mb < w.heap.size := by obtain ⟨_, hq, _⟩ := hw; exact hq.lt
  have C1 := h k n d v lo hi ob mb bs w hs hv hh hw (by omega) ht hnd
  have hfl : f.len ≤ maxLen := by have := len_le_nodes f; unfold maxLen; omega
  have C2 := fun (w2 : World) (htf : TF mb w w2) (tv : Value) (hq : Blk w2 mb 62 #[tv, fW mb, .map (some ob)]) => oplev_any k n s f v lo hi ob mb tv (fW mb) w2 (hv.keep (fun p _ hp => htf.1.cell (by omega)) (Nat.le_refl _) (Nat.le_refl _)) hsz hfl hq (OpM_keep ht.2.2 htf.1 ht.2.1)
  have hpos := txT_ne hs
  obtain ⟨c, T', hT⟩ : ∃ c T', txT k n s f = c :: T' := by
    cases hx : txT k n s f with
    | nil => rw [hx] at hpos; simp at hpos
    | cons c T' => exact ⟨c, T', rfl⟩
  have C3 := fun (w3 : World) => follow_any c w3
  have hc2 : l < olv k s f.len ∨ ¬ l < olv k s f.len ∧ right = true ∧ plC c = false := by
    rcases hc with h | ⟨h1, h2, h3⟩
    · exact .inl h
    · rw [hT] at h3
      exact .inr ⟨h1, h2, h3⟩
  obtain ⟨T0, x0, rfl⟩ := hv.iface
  have H1 := Lib.hid C1
  have H2 := Lib.hid C2
  have H3 := Lib.hid C3
  have HT := Lib.hid hT
  clear C1 C2 C3 h hs hsz hv hh ht hnd hc hT hfl hpos
  generalize txT k n s f = T at *
  generalize olv k s f.len = ol at *
  obtain ⟨tv0, hq0, ho0⟩ := hw
  obtain ⟨A0, c0, rfl, _, _⟩ := row_form ho0
  have p00 := hq0.cell 0
  simp only [List.getElem?_toArray, List.getElem?_cons_zero] at p00
  have hbl : bs.length ≤ 1073741824 := by omega
  clear hq0 ho0
  go_enter Tryz.func36, Tryz.ntmps36
  go_wp2_with fail
  refine H1.out.mono ?_
  rintro e w2 ⟨rfl, hw2, htf2⟩
  obtain ⟨tv2, hq2, ho2⟩ := hw2
  have C4 := H2.out w2 htf2 tv2 hq2
  have H4 := Lib.hid C4
  have HTF2 := Lib.hid htf2
  have HW2 : Hid (TW ob mb (bs ++ T) w2) := Lib.hid ⟨tv2, hq2, ho2⟩
  have hm2 := hq2.lt
  clear C4 htf2 hq2 ho2 p00
  go_wp2_with fail
  refine H4.out.mono ?_
  rintro e w3 ⟨rfl, hb3⟩
  have HW3 := Lib.hid (HW2.out.below hb3)
  have HTF3 := Lib.hid (HTF2.out.trans (TF.below hb3 (Nat.le_of_lt hm2)))
  clear hb3
  obtain ⟨tv3, hq3, ho3⟩ := HW3.out
  obtain ⟨A3, c3, rfl, hc3, hc4⟩ := row_form ho3
  obtain ⟨g, rfl⟩ := row_some ho3 (by rw [HT.out]; simp only [List.length_append, List.length_cons]; omega)
  have p03 := hq3.cell 0
  have pf3 := hq3.frozen 0
  simp only [List.getElem?_toArray, List.getElem?_cons_zero] at p03
  have hm3 := hq3.lt
  have hgl := (ho3.lt g rfl).2
  have hgm := (ho3.lt g rfl).1
  have hlt : bs.length < (bs ++ T).length := by rw [HT.out]; simp only [List.length_append, List.length_cons]; omega
  have hNl : (bs ++ T).length + 2 ≤ 1073741824 := by rw [List.length_append]; omega
  have C6 := ins_any (mb + 1) (bs ++ T).length bs.length w3.heap.size (.slice (some ⟨g, 0, none⟩) (bs ++ T).length c3) (.int .u8 40) (Lib.byteCells (bs ++ T)) (w3.alloc (.cells #[.int .u8 40] 5)) rfl (one_bytes _) hlt (by omega) (by simp; omega) (fun e => by simp [Value.ownBlock] at e; omega) (ho3.alloc _) (Blk.new w3 _ _)
  rw [ins_bytes] at C6
  have hins : (bs ++ 40 :: T).length = (bs ++ T).length + 1 := by simp only [List.length_append, List.length_cons]; omega
  have hfin : (bs ++ braB T).length = (bs ++ T).length + 2 := by unfold braB; simp only [List.length_append, List.length_cons, List.length_nil]; omega
  have hfc : Lib.byteCells (bs ++ 40 :: T) ++ [.int .u8 41] = Lib.byteCells (bs ++ braB T) := by unfold Lib.byteCells braB; simp
  have H6 := Lib.hid C6
  have HFL := Lib.hid hfin
  have HFC := Lib.hid hfc
  have HQ3 := Lib.hid hq3
  have HO3 := Lib.hid ho3
  unfold maxLen at hc4
  rcases hc2 with hc2 | ⟨hc2, rfl, hpc⟩
  · have d1 : decide (l < ol) = true := decide_eq_true hc2
    generalize hN : (bs ++ T).length = N at *
    have HO3N : Hid (w3.ownsRow (mb + 1) 5 1 (.slice (some ⟨g, 0, none⟩) N c3) (bs ++ T).length (Lib.byteCells (bs ++ T))) := Lib.hid (by rw [hN]; exact HO3.out)
    have HQ3 : Hid (Blk w3 mb 62 #[.slice (some ⟨g, 0, none⟩) N c3, fW mb, .map (some ob)]) := HQ3
    clear hN hc2 hq3 ho3 C6 hins hfin hfc
    go_wp2_with fail
    refine H6.out.mono ?_
    rintro e w4 ⟨g4, cap4, rfl, ho4, hg4⟩
    have hs4 : w3.heap.size < w4.heap.size := by have := hg4.size; simp at this; omega
    have HO4 := Lib.hid ho4
    have HG4 := Lib.hid hg4
    have hq4 : Blk w4 mb 62 #[.slice (some ⟨g, 0, none⟩) N c3, fW mb, .map (some ob)] := HQ3.out.keep ((hg4.block mb (by simp; omega) (fun e => by simp [Value.ownBlock] at e; omega)).trans (((Below.refl w3.heap.size w3).alloc (Nat.le_refl _) _).block mb hm3))
    have yf4 := hq4.frozen 0
    have y04 := hq4.cell 0
    simp only [List.getElem?_toArray, List.getElem?_cons_zero] at y04
    clear ho4 hg4 hq4 p03 pf3
    go_wp2_with (at_builtin; go_must (refine wpList_append_lies _ rfl _ _ _ rfl (mb + 1) 5 i0 _ 1 1 Tryz.underlying56 hi0 hz0 hz1 hz2 rfl (by omega) _ (N + 1) _ rfl (HO4.out.alloc _) ⟨w4.heap.size, 0, none⟩ 1 1 [.int .u8 41] rfl rfl (World.news_of_block (cs := #[.int .u8 41]) (t := 5) (fr := (0, 0)) (Blk.new w4 5 #[.int .u8 41])) (by simp [Value.oneCell']) (by omega) (by unfold maxLen; omega) (by omega) (by simp; omega) (w4.heap.size + 1) (by simp) ?_); intro g6 cap6 w6 hown6 hgrow6 _ _; rw [HFC.out] at hown6; have hst6 := TW.two (bs' := bs ++ braB T) (ob := ob) HQ3.out HO3N.out ((Below.refl _ _).alloc (Nat.le_refl _) _) HG4.out HO4.out ((Below.refl _ _).alloc (Nat.le_refl _) _) hgrow6 (by rw [HFL.out]; exact hown6); have y6 := hst6.2.2.cell 0; have yf6 := hst6.2.2.frozen 0; simp only [List.getElem?_toArray, List.getElem?_cons_zero] at y6; have HS6 := Lib.hid (And.intro hst6.1 hst6.2.1); clear hown6 hgrow6 hst6; refine Hid.out ?_)
    refine Lib.hid ?_
    go_wp2_with fail
    go_end0
    exact ⟨rfl, HS6.out.1, HTF3.out.trans HS6.out.2⟩
  · have d1 : decide (l < ol) = false := decide_eq_false (by omega)
    have hy := ho3.cells (g := g) rfl bs.length (.int .u8 (c.toNat : Int)) (by rw [HT.out]; exact byteCells_at bs T' c)
    have e : (⟨g, 0, none⟩ : Addr).add bs.length = ⟨g, bs.length, none⟩ := by unfold Addr.add; split <;> simp_all
    rw [e] at hy
    have C5 := H3.out w3
    rw [hpc] at C5
    have H5 := Lib.hid C5
    generalize hN : (bs ++ T).length = N at *
    have HO3N : Hid (w3.ownsRow (mb + 1) 5 1 (.slice (some ⟨g, 0, none⟩) N c3) (bs ++ T).length (Lib.byteCells (bs ++ T))) := Lib.hid (by rw [hN]; exact HO3.out)
    clear hN hc2 hpc hq3 ho3 C6 C5 hins hfin hfc e
    go_wp2_with (first
      | (go_at_call 59; refine H5.out.mono ?_; rintro e w3 ⟨rfl, rfl⟩)
      | fail)
    refine H6.out.mono ?_
    rintro e w4 ⟨g4, cap4, rfl, ho4, hg4⟩
    have hs4 : w3.heap.size < w4.heap.size := by have := hg4.size; simp at this; omega
    have HO4 := Lib.hid ho4
    have HG4 := Lib.hid hg4
    have hq4 : Blk w4 mb 62 #[.slice (some ⟨g, 0, none⟩) N c3, fW mb, .map (some ob)] := HQ3.out.keep ((hg4.block mb (by simp; omega) (fun e => by simp [Value.ownBlock] at e; omega)).trans (((Below.refl w3.heap.size w3).alloc (Nat.le_refl _) _).block mb hm3))
    have yf4 := hq4.frozen 0
    have y04 := hq4.cell 0
    simp only [List.getElem?_toArray, List.getElem?_cons_zero] at y04
    clear ho4 hg4 hq4 p03 pf3
    go_wp2_with (at_builtin; go_must (refine wpList_append_lies _ rfl _ _ _ rfl (mb + 1) 5 i0 _ 1 1 Tryz.underlying56 hi0 hz0 hz1 hz2 rfl (by omega) _ (N + 1) _ rfl (HO4.out.alloc _) ⟨w4.heap.size, 0, none⟩ 1 1 [.int .u8 41] rfl rfl (World.news_of_block (cs := #[.int .u8 41]) (t := 5) (fr := (0, 0)) (Blk.new w4 5 #[.int .u8 41])) (by simp [Value.oneCell']) (by omega) (by unfold maxLen; omega) (by omega) (by simp; omega) (w4.heap.size + 1) (by simp) ?_); intro g6 cap6 w6 hown6 hgrow6 _ _; rw [HFC.out] at hown6; have hst6 := TW.two (bs' := bs ++ braB T) (ob := ob) HQ3.out HO3N.out ((Below.refl _ _).alloc (Nat.le_refl _) _) HG4.out HO4.out ((Below.refl _ _).alloc (Nat.le_refl _) _) hgrow6 (by rw [HFL.out]; exact hown6); have y6 := hst6.2.2.cell 0; have yf6 := hst6.2.2.frozen 0; simp only [List.getElem?_toArray, List.getElem?_cons_zero] at y6; have HS6 := Lib.hid (And.intro hst6.1 hst6.2.1); clear hown6 hgrow6 hst6; refine Hid.out ?_)
    refine Lib.hid ?_
    go_wp2_with fail
    go_end0
    exact ⟨rfl, HS6.out.1, HTF3.out.trans HS6.out.2⟩
end Go.Proofs.YtohkpgpcipjpkaaGreatDoor.wr

/- opWriter.writeWritten where it hands on to writeTerm; writeOperand at every operand. Condition: the node lies in memory below the writer and is well-formed; the tables in their places. -/
namespace Go.Proofs.YtohkpgpcipjpkaaGreatDoor.wr
open Go.RowKit

theorem opT_eq (right : Bool) (k n : Int) (s : ByteArray) (f : Fr) (l : Int) : opT right k n s f l = if l < olv k s f.len ∨ right = true ∧ plB (txT k n s f) = false then braB (txT k n s f) else txT k n s f := by
  unfold opT rigT lefT
  cases right <;> simp
/-- opWriter.writeOperand. -/
theorem opnd_any (s : ByteArray) (f : Fr) (h : OwC s f) (k n d l : Int) (right : Bool) (v : Value) (lo hi ob mb : Nat) (bs : List UInt8) (w : World) (hs : shapeT k n s f d = true) (hsz : s.size ≤ maxLen) (hv : NdV w lo hi k n s f v) (hh : hi ≤ mb) (hw : TW ob mb bs w) (hl : bs.length + (opT right k n s f l).length ≤ 1073741824) (ht : Pow10 ob mb w) (hnd : nodes f ≤ 1048576) :
    Calls Tryz.prog 36 #[.pointer (some ⟨mb, 0, none⟩), v, .int .i64 l, .bool right] w fun e w' => e = .returned (.tuple #[]) ∧ TW ob mb (bs ++ opT right k n s f l) w' ∧ TF mb w w' := by
  rw [opT_eq] at hl ⊢
  by_cases h1 : l < olv k s f.len
  · rw [if_pos (.inl h1)] at hl ⊢
    have hl : bs.length + (txT k n s f).length + 2 ≤ 1073741824 := by unfold braB at hl; simp only [List.length_cons, List.length_append, List.length_nil] at hl; omega
    exact opnd_bra s f h k n d l right v lo hi ob mb bs w hs hsz hv hh hw hl ht hnd (.inl h1)
  · by_cases h2 : right = true ∧ plB (txT k n s f) = false
    · rw [if_pos (.inr h2)] at hl ⊢
      have hl : bs.length + (txT k n s f).length + 2 ≤ 1073741824 := by unfold braB at hl; simp only [List.length_cons, List.length_append, List.length_nil] at hl; omega
      exact opnd_bra s f h k n d l right v lo hi ob mb bs w hs hsz hv hh hw hl ht hnd (.inr ⟨h1, h2⟩)
    · rw [if_neg (by rintro (h | h); exact h1 h; exact h2 h)] at hl ⊢
      refine opnd_plain s f h k n d l right v lo hi ob mb bs w hs hsz hv hh hw (by omega) ht hnd h1 fun hr => ?_
      cases hp : plB (txT k n s f)
      · exact absurd ⟨hr, hp⟩ h2
      · rfl

set_option maxRecDepth 100000 in
set_option maxHeartbeats 4000000 in
/-- opWriter.writeWritten of what is no operator with two operands. -/
theorem written_plain (s : ByteArray) (f : Fr) (h : ∀ s' f', f'.size < f.size → OwC s' f') (k n d : Int) (v : Value) (lo hi ob mb : Nat) (bs : List UInt8) (w : World) (hi0 : infB k s f.len = false) (hs : shapeT k n s f d = true) (hsz : s.size ≤ maxLen) (hv : NdV w lo hi k n s f v) (hh : hi ≤ mb) (hw : TW ob mb bs w) (hl : bs.length + (txT k n s f).length ≤ 1073741824) (ht : Pow10 ob mb w) (hnd : nodes f ≤ 1048576) :
    Calls Tryz.prog 21 #[.pointer (some ⟨mb, 0, none⟩), v] w fun e w' => e = .returned (.tuple #[]) ∧ TW ob mb (bs ++ txT k n s f) w' ∧ TF mb w w' := by
  have hm0 : mb < w.heap.size := by obtain ⟨_, hq, _⟩ := hw; exact hq.lt
  have hw' := hw
  obtain ⟨tv0, hq0, _⟩ := hw'
  obtain ⟨A, cap, -, C1⟩ := named_any k n s f v lo hi ob mb tv0 (fW mb) w hv hsz hq0 ht.2.2
  have C2 := fun (w2 : World) (hb : Below w.heap.size w w2) => wterm_of s f h k n d v lo hi ob mb bs w2 hi0 hs (hv.keep (fun p _ hp => hb.cell (by omega)) (Nat.le_refl _) (Nat.le_refl _)) hh (hw.below hb) hl (ht.on (hb.mono (Nat.le_of_lt hm0))) hnd
  have hfl : f.len ≤ 1048576 := by have := len_le_nodes f; omega
  obtain ⟨T0, x0, rfl⟩ := hv.iface
  have HI : Hid (infB k s f.len = false) := Lib.hid hi0
  have HIE : Hid (infB k s f.len = (k == 3 && (f.len == 2 && decide (0 < op.level s.data.toList)))) := Lib.hid rfl
  have H1 := Lib.hid C1
  have H2 := Lib.hid C2
  clear C1 C2 h hi0 hs hsz hv hh hw hl ht hnd hq0
  generalize txT k n s f = T at *
  generalize f.len = len at *
  go_enter Tryz.func21, Tryz.ntmps21
  go_wp2_with fail
  refine H1.out.mono ?_
  rintro e w2 ⟨hb, hr⟩
  have HB := Lib.hid hb
  have HB2 : Hid (∀ o1 o2, Below w.heap.size w ((w2.alloc o1).alloc o2)) := Lib.hid fun o1 o2 => (HB.out.alloc HB.out.size _).alloc (by have := HB.out.size; simp; omega) _
  rcases hr with ⟨rfl, hpos, a, rfl⟩ | ⟨hz, x1, x2, x3, x4, y1, y2, y3, rfl⟩
  · have h2 : len ≠ 2 := fun e => by
      have := HIE.out
      rw [HI.out, e, decide_eq_true hpos] at this
      simp at this
    have t2 : ((len : Int) != 2) = true := by rw [bne_iff_ne]; omega
    clear hpos hb h2
    go_wp2_with fail
    refine (H2.out _ (HB2.out _ _)).mono ?_
    rintro e w3 ⟨rfl, hw3, htf3⟩
    have HFN := Lib.hid (And.intro hw3 ((TF.below (HB2.out _ _) (Nat.le_of_lt hm0)).trans htf3))
    clear hw3 htf3
    go_wp2_with fail
    first
      | (go_end0; exact ⟨rfl, HFN.out⟩)
      | ((try simp only [Exit.inBlock, Exit.then]); refine bodyPost_ret (results_none rfl _ _ _) rfl ?_; exact ⟨rfl, HFN.out⟩)
  · clear hz hb
    go_wp2_with fail
    refine (H2.out _ (HB2.out _ _)).mono ?_
    rintro e w3 ⟨rfl, hw3, htf3⟩
    have HFN := Lib.hid (And.intro hw3 ((TF.below (HB2.out _ _) (Nat.le_of_lt hm0)).trans htf3))
    clear hw3 htf3
    go_wp2_with fail
    first
      | (go_end0; exact ⟨rfl, HFN.out⟩)
      | ((try simp only [Exit.inBlock, Exit.then]); refine bodyPost_ret (results_none rfl _ _ _) rfl ?_; exact ⟨rfl, HFN.out⟩)
end Go.Proofs.YtohkpgpcipjpkaaGreatDoor.wr

/- opWriter.writeWritten of an operator and its operands; at every node; impl.WriteTerm. Condition: the node lies in memory below the writer and is well-formed; the tables in their places. -/
namespace Go.Proofs.YtohkpgpcipjpkaaGreatDoor.wr
open Go.RowKit

theorem spB_pos {s : ByteArray} (h : 0 < s.data.toList.length) : 0 < (spB s.data.toList).length := by
  unfold spB
  split
  · simp
  · exact h
set_option maxRecDepth 100000 in
set_option maxHeartbeats 8000000 in
/-- opWriter.writeWritten of an operator and its operands. -/
theorem written_inf (n : Int) (s : ByteArray) (f : Fr) (hpf : pairB 3 s f.len = false) (hif : infB 3 s f.len = true) (h : ∀ s' f', f'.size < f.size → OwC s' f') (d : Int) (v : Value) (lo hi ob mb : Nat) (bs : List UInt8) (w : World) (hs : shapeT 3 n s f d = true) (hv : NdV w lo hi 3 n s f v) (hh : hi ≤ mb) (hw : TW ob mb bs w) (hl : bs.length + (txT 3 n s f).length ≤ 1073741824) (ht : Pow10 ob mb w) (hnd : nodes f ≤ 1048576) :
    Calls Tryz.prog 21 #[.pointer (some ⟨mb, 0, none⟩), v] w fun e w' => e = .returned (.tuple #[]) ∧ TW ob mb (bs ++ txT 3 n s f) w' ∧ TF mb w w' := by
  obtain ⟨i0, hi0, hz0, hz1, hz2⟩ := info_parts infoU8
  have hm0 : mb < w.heap.size := by obtain ⟨_, hq, _⟩ := hw; exact hq.lt
  obtain ⟨_, hlv, k1, n1, s1, kd1, k2, n2, s2, kd2, rfl⟩ := inf_kids hif
  have hlr := op.level_range s.data.toList
  have hs3 := shapeT_struct hs
  have hs6 : s.size ≤ 6 := nameB_size hs3.2.1
  have hspos : 0 < s.data.toList.length := List.length_pos_iff.2 (name_pos3 hs3.2.1)
  have hbp := spB_pos hspos
  have hbl := spB_len s.data.toList
  have hssz : s.data.toList.length = s.size := rfl
  have hG := txT_inf (n := n) (k1 := k1) (n1 := n1) (s1 := s1) (kd1 := kd1) (k2 := k2) (n2 := n2) (s2 := s2) (kd2 := kd2) hpf hif
  have hsk := shapeT_kids hs
  rw [shapeF_cons, shapeF_cons, Bool.and_eq_true, Bool.and_eq_true] at hsk
  have hz1' : kd1.size < (Fr.cons k1 n1 s1 kd1 (.cons k2 n2 s2 kd2 .nil)).size := by simp only [Fr.size]; omega
  have hz2' : kd2.size < (Fr.cons k1 n1 s1 kd1 (.cons k2 n2 s2 kd2 .nil)).size := by simp only [Fr.size]; omega
  have hnd1 : nodes kd1 ≤ 1048576 ∧ nodes kd2 ≤ 1048576 := by simp only [nodes] at hnd; omega
  have hsmall : ∀ {k n : Int} {s : ByteArray} {f : Fr} {d : Int}, shapeT k n s f d = true → s.size ≤ maxLen := fun {k n s f d} h => by
    have := (smF_shape (.cons k n s f .nil) d (by rw [shapeF_cons, h]; rfl)).1.1
    unfold maxLen; omega
  have hG' : txT 3 n s (.cons k1 n1 s1 kd1 (.cons k2 n2 s2 kd2 .nil)) = opT false k1 n1 s1 kd1 (lfl (op.level s.data.toList)) ++ (spB s.data.toList ++ opT true k2 n2 s2 kd2 (op.level s.data.toList - 1)) := hG
  rw [hG'] at hl ⊢
  simp only [List.length_append] at hl
  have hw' := hw
  obtain ⟨tv0, hq0, _⟩ := hw'
  obtain ⟨A, cap, hst, C1⟩ := named_any 3 n s _ v lo hi ob mb tv0 (fW mb) w hv (by unfold maxLen; omega) hq0 ht.2.2
  obtain ⟨hnds, rfl⟩ := hst rfl
  have hcap := hnds.2.1
  have hcap1 := hnds.1
  obtain ⟨b, rfl, hb1, hb2, hrow⟩ := hnds.2.2 (by simp [Fr.len])
  obtain ⟨v1, hc1, hv1⟩ := hrow.elem (i := 0) rfl
  obtain ⟨v2, hc2, hv2⟩ := hrow.elem (i := 1) rfl
  simp only [Nat.zero_add] at hc1 hc2
  have C2 := fun (w2 : World) (htf : TF mb w w2) (hw2 : TW ob mb bs w2) => opnd_any s1 kd1 (h s1 kd1 hz1') k1 n1 (d - 1) (lfl (op.level s.data.toList)) false v1 lo hi ob mb bs w2 hsk.1 (hsmall hsk.1) (hv1.keep (fun p _ hp => htf.1.cell (by omega)) (Nat.le_refl _) (Nat.le_refl _)) hh hw2 (by omega) (ht.on htf.1) hnd1.1
  have C3 := fun (w2 : World) (bs2 : List UInt8) (hb2 : bs2.length + (opT true k2 n2 s2 kd2 (op.level s.data.toList - 1)).length ≤ 1073741824) (htf : TF mb w w2) (hw2 : TW ob mb bs2 w2) => opnd_any s2 kd2 (h s2 kd2 hz2') k2 n2 (d - 1) (op.level s.data.toList - 1) true v2 lo hi ob mb bs2 w2 hsk.2.1 (hsmall hsk.2.1) (hv2.keep (fun p _ hp => htf.1.cell (by omega)) (Nat.le_refl _) (Nat.le_refl _)) hh hw2 (by omega) (ht.on htf.1) hnd1.2
  have C4 := fun (a b : ByteArray) (w2 : World) => op.left_any a b (op.level s.data.toList) w2
  have C5 := fun (a b : ByteArray) (w2 : World) => rightLv_any a b (op.level s.data.toList) (by omega) w2
  rw [lmin_lfl _ (by omega)] at C4
  obtain ⟨T1, x1, rfl⟩ := hv1.iface
  obtain ⟨T2, x2, rfl⟩ := hv2.iface
  have HW0 := Lib.hid hw
  have H1 := Lib.hid C1
  have H2 := Lib.hid C2
  have H3 := Lib.hid C3
  have H4 := Lib.hid C4
  have H5 := Lib.hid C5
  have hbm : b < mb := by omega
  have HC1 := Lib.hid hc1
  have HC2 := Lib.hid hc2
  have hln : (Fr.cons k1 n1 s1 kd1 (.cons k2 n2 s2 kd2 .nil)).len = 2 := rfl
  rw [hln] at H1
  have HLV := Lib.hid hlv
  unfold maxLen at hcap
  simp only [Fr.len] at hcap1
  clear C1 C2 C3 C4 C5 h hs hv hh hw ht hnd hq0 hpf hif hs3 hG hG' hsk hz1' hz2' hnd1 hnds hrow hv1 hv2 hst hc1 hc2 hln hsmall hs6 hspos hb1 hb2 hlv
  have hb0p : 0 < (⟨(spB s.data.toList).toArray⟩ : ByteArray).size := hbp
  have hb0l : (⟨(spB s.data.toList).toArray⟩ : ByteArray).size ≤ 2 + s.size := by show (spB s.data.toList).length ≤ _; omega
  have HBS : Hid (∀ b : ByteArray, b = ⟨(spB s.data.toList).toArray⟩ → b.data.toList = spB s.data.toList) := Lib.hid (by rintro b rfl; rfl)
  have hbl2 : (⟨(spB s.data.toList).toArray⟩ : ByteArray).size = (spB s.data.toList).length := rfl
  have HBL2 := Lib.hid hbl2
  clear hbl2
  generalize opT false k1 n1 s1 kd1 (lfl (op.level s.data.toList)) = TL at *
  generalize opT true k2 n2 s2 kd2 (op.level s.data.toList - 1) = TR at *
  go_enter Tryz.func21, Tryz.ntmps21
  go_wp2_with fail
  refine H1.out.mono ?_
  rintro e w2 ⟨hb, hr⟩
  rcases hr with ⟨-, -, a, rfl⟩ | ⟨hz, -⟩
  · generalize (⟨(spB s.data.toList).toArray⟩ : ByteArray) = b0 at *
    have hb3 : ∀ (lv : Int), Below w.heap.size w ((w2.alloc (.cells #[.string s, .slice (some ⟨b, 0, none⟩) (2 : Nat) cap] 78)).alloc (.cells #[.string a, .string b0, .int .i64 lv] 87)) := fun lv => (hb.alloc hb.size _).alloc (by have := hb.size; simp; omega) _
    have q4 : ∀ (lv : Int), Blk ((w2.alloc (.cells #[.string s, .slice (some ⟨b, 0, none⟩) (2 : Nat) cap] 78)).alloc (.cells #[.string a, .string b0, .int .i64 lv] 87)) w2.heap.size 78 #[.string s, .slice (some ⟨b, 0, none⟩) (2 : Nat) cap] := fun lv => (Blk.new w2 _ _).alloc _
    have q5 : ∀ (lv : Int), Blk ((w2.alloc (.cells #[.string s, .slice (some ⟨b, 0, none⟩) (2 : Nat) cap] 78)).alloc (.cells #[.string a, .string b0, .int .i64 lv] 87)) (w2.heap.size + 1) 87 #[.string a, .string b0, .int .i64 lv] := fun lv => by
      have h := Blk.new (w2.alloc (.cells #[.string s, .slice (some ⟨b, 0, none⟩) (2 : Nat) cap] 78)) 87 #[.string a, .string b0, .int .i64 lv]
      simpa using h
    have hw2s := hb.size
    generalize op.level s.data.toList = lv at *
    have HB3 := Lib.hid (hb3 lv)
    have HQ4 := Lib.hid (q4 lv)
    have HQ5 := Lib.hid (q5 lv)
    clear hb3 q4 q5 hb
    go_wp2_with fail
    generalize ((w2.alloc (.cells #[.string s, .slice (some ⟨b, 0, none⟩) (2 : Nat) cap] 78)).alloc (.cells #[.string a, .string b0, .int .i64 lv] 87)) = W3 at *
    have htf3 : TF mb w W3 := TF.below HB3.out (Nat.le_of_lt hm0)
    have HTF3 := Lib.hid htf3
    have HW3 := Lib.hid (HW0.out.below HB3.out)
    have hal4 := HQ4.out.lt
    have hal5 := HQ5.out.lt
    have hm3 : mb < W3.heap.size := Nat.lt_of_lt_of_le hm0 HB3.out.size
    have hn4 : w2.heap.size ≠ mb := by omega
    have hn5 : w2.heap.size + 1 ≠ mb := by omega
    have HS : Hid (∀ (x : World), TF mb W3 x → (x.cell? ⟨w2.heap.size, 0, none⟩ = some (.string s) ∧ x.cell? ⟨w2.heap.size, 1, none⟩ = some (.slice (some ⟨b, 0, none⟩) (2 : Nat) cap) ∧ x.cell? ⟨w2.heap.size + 1, 0, none⟩ = some (.string a) ∧ x.cell? ⟨w2.heap.size + 1, 1, none⟩ = some (.string b0) ∧ x.cell? ⟨w2.heap.size + 1, 2, none⟩ = some (.int .i64 lv)) ∧ x.cell? ⟨b, 0, none⟩ = some (.iface T1 x1) ∧ x.cell? ⟨b, 1, none⟩ = some (.iface T2 x2)) := Lib.hid fun x hx => by
      have p4 := hx.blk HQ4.out hn4 (by decide)
      have p5 := hx.blk HQ5.out hn5 (by decide)
      have t := HTF3.out.trans hx
      exact ⟨⟨p4.cell 0, p4.cell 1, p5.cell 0, p5.cell 1, p5.cell 2⟩, (t.1.cell (p := ⟨b, 0, none⟩) hbm).trans HC1.out, (t.1.cell (p := ⟨b, 1, none⟩) hbm).trans HC2.out⟩
    obtain ⟨⟨y0, y1, y2, y3, y4⟩, y5, y6⟩ := HS.out W3 (TF.refl _ _)
    clear htf3
    go_region_held3 (fun x => x.cell? ⟨w2.heap.size, 0, none⟩ = some (.string s) ∧ x.cell? ⟨w2.heap.size, 1, none⟩ = some (.slice (some ⟨b, 0, none⟩) (2 : Nat) cap) ∧ x.cell? ⟨w2.heap.size + 1, 0, none⟩ = some (.string a) ∧ x.cell? ⟨w2.heap.size + 1, 1, none⟩ = some (.string b0) ∧ x.cell? ⟨w2.heap.size + 1, 2, none⟩ = some (.int .i64 lv) ∧ x.cell? ⟨b, 0, none⟩ = some (.iface T1 x1) ∧ x.cell? ⟨b, 1, none⟩ = some (.iface T2 x2))
      (first | exact ⟨q0, q1, q2, q3, q4, q5, q6⟩ | exact ⟨z0, z1, z2, z3, z4, z5, z6⟩ | exact ⟨y0, y1, y2, y3, y4, y5, y6⟩)
      (first
        | (go_at_call 37
           refine (H4.out _ _ _).mono ?_
           rintro e w4 ⟨rfl, hb4⟩
           have hd4 : Below W3.heap.size W3 w4 := (Below.refl W3.heap.size W3).drew.trans hb4
           have htf4 : TF mb W3 w4 := TF.below hd4 (Nat.le_of_lt hm3)
           obtain ⟨⟨z0, z1, z2, z3, z4⟩, z5, z6⟩ := HS.out w4 htf4
           have HTF4 := Lib.hid htf4
           have HW4 := Lib.hid (HW3.out.below hd4)
           clear hb4 hd4 htf4)
        | (go_at_call 36
           refine (H2.out _ (HTF3.out.trans HTF4.out) HW4.out).mono ?_
           rintro e w5 ⟨rfl, hw5, htf5⟩
           obtain ⟨⟨q0, q1, q2, q3, q4⟩, q5, q6⟩ := HS.out w5 (HTF4.out.trans htf5)
           have HTF5 := Lib.hid (HTF4.out.trans htf5)
           have HW5 := Lib.hid hw5
           clear hw5 htf5))
    have hbsl : (bs ++ TL).length + b0.size ≤ 1073741824 := by rw [List.length_append, HBL2.out]; omega
    have hb0e : b0.data.toList = spB s.data.toList := HBS.out b0 rfl
    have HBE := Lib.hid hb0e
    generalize hB1 : bs ++ TL = B1 at *
    have HB1 := Lib.hid hB1
    have hm5 : mb < w5.heap.size := Nat.lt_of_lt_of_le hm3 HTF5.out.1.size
    have hl4 : w2.heap.size < w5.heap.size := Nat.lt_of_lt_of_le hal4 HTF5.out.1.size
    have hl5 : w2.heap.size + 1 < w5.heap.size := Nat.lt_of_lt_of_le hal5 HTF5.out.1.size
    obtain ⟨tv5, hq5, ho5⟩ := HW5.out
    obtain ⟨A5, c5, rfl, _, _⟩ := row_form ho5
    have p05 := hq5.cell 0
    have pf5 := hq5.frozen 0
    simp only [List.getElem?_toArray, List.getElem?_cons_zero] at p05
    have HO5 := Lib.hid ho5
    have HQ5' := Lib.hid hq5
    clear hq5 ho5 hB1 hb0e z0 z1 z2 z3 z4 z5 z6 y0 y1 y2 y3 y4 y5 y6
    go_wp2_with fail
    go_region_law
      (first
        | (refine step_append_str (w5.drew) (by rfl) _ _ _ _ (by rfl) (mb + 1) 5 i0 Tryz.underlying56 Tryz.underlying9 hi0 hz0 hz1 hz2 _ B1.length (Lib.byteCells B1) (by rfl) HO5.out.drew b0 (by rfl) hb0p (by unfold maxLen; omega) (by omega) (by show mb + 1 ≤ w5.heap.size; omega) ?_
           intro g6 cap6 w6 hown6 hgrow6
           have hst6 := TW.step (add := b0.data.toList) HQ5'.out HO5.out (Below.refl w5.heap.size w5).drew hgrow6 hown6
           have y6 := hst6.2.2.cell 0
           have yf6 := hst6.2.2.frozen 0
           simp only [List.getElem?_toArray, List.getElem?_cons_zero] at y6
           have HS6 := Lib.hid (And.intro hst6.1 hst6.2.1)
           clear hown6 hgrow6 hst6))
    all_goals
      have HX6 : Hid (TW ob mb (B1 ++ b0.data.toList) (w6.setCell ⟨mb, 0, none⟩ (.slice (some ⟨g6, 0, none⟩) (B1.length + b0.size) cap6)) ∧ TF mb w5 (w6.setCell ⟨mb, 0, none⟩ (.slice (some ⟨g6, 0, none⟩) (B1.length + b0.size) cap6))) := HS6
      clear HS6 y6 yf6 p05 pf5 q0 q1 q2 q3 q4 q5 q6
      generalize w6.setCell ⟨mb, 0, none⟩ (.slice (some ⟨g6, 0, none⟩) (B1.length + b0.size) cap6) = W6 at *
      have htf6 : TF mb W3 W6 := HTF5.out.trans HX6.out.2
      obtain ⟨⟨y0, y1, y2, y3, y4⟩, y5, y6⟩ := HS.out W6 htf6
      have HTF6 := Lib.hid htf6
      have hm6 : mb < W6.heap.size := Nat.lt_of_lt_of_le hm3 htf6.1.size
      have hk4 : w2.heap.size < W6.heap.size := Nat.lt_of_lt_of_le hal4 htf6.1.size
      have hk5 : w2.heap.size + 1 < W6.heap.size := Nat.lt_of_lt_of_le hal5 htf6.1.size
      have hb6l : (B1 ++ b0.data.toList).length + TR.length ≤ 1073741824 := by
        have h1 : b0.data.toList.length = b0.size := rfl
        rw [List.length_append, h1, HBL2.out, ← HB1.out, List.length_append]; omega
      have HL6 := Lib.hid hb6l
      clear htf6 hb6l
      go_wp2_with fail
      go_region_held3 (fun x => x.cell? ⟨w2.heap.size, 0, none⟩ = some (.string s) ∧ x.cell? ⟨w2.heap.size, 1, none⟩ = some (.slice (some ⟨b, 0, none⟩) (2 : Nat) cap) ∧ x.cell? ⟨w2.heap.size + 1, 0, none⟩ = some (.string a) ∧ x.cell? ⟨w2.heap.size + 1, 1, none⟩ = some (.string b0) ∧ x.cell? ⟨w2.heap.size + 1, 2, none⟩ = some (.int .i64 lv) ∧ x.cell? ⟨b, 0, none⟩ = some (.iface T1 x1) ∧ x.cell? ⟨b, 1, none⟩ = some (.iface T2 x2))
        (first | exact ⟨q0, q1, q2, q3, q4, q5, q6⟩ | exact ⟨z0, z1, z2, z3, z4, z5, z6⟩ | exact ⟨y0, y1, y2, y3, y4, y5, y6⟩)
        (first
          | (go_at_call 38
             refine (H5.out _ _ _).mono ?_
             rintro e w7 ⟨rfl, hb7⟩
             have hd7 : Below W6.heap.size W6 w7 := (Below.refl W6.heap.size W6).drew.trans hb7
             have htf7 : TF mb W6 w7 := TF.below hd7 (Nat.le_of_lt hm6)
             obtain ⟨⟨z0, z1, z2, z3, z4⟩, z5, z6⟩ := HS.out w7 (HTF6.out.trans htf7)
             have HTF7 := Lib.hid (HTF6.out.trans htf7)
             have HW7 := Lib.hid (HX6.out.1.below hd7)
             clear hb7 hd7 htf7)
          | (go_at_call 36
             refine (H3.out _ (B1 ++ b0.data.toList) HL6.out (HTF3.out.trans HTF7.out) HW7.out).mono ?_
             rintro e w8 ⟨rfl, hw8, htf8⟩
             obtain ⟨⟨q0, q1, q2, q3, q4⟩, q5, q6⟩ := HS.out w8 (HTF7.out.trans htf8)
             have HTF8 := Lib.hid (HTF7.out.trans htf8)
             have HW8 := Lib.hid hw8
             clear hw8 htf8))
      have HFN : Hid (TW ob mb (bs ++ (TL ++ (spB s.data.toList ++ TR))) w8 ∧ TF mb w w8) := Lib.hid ⟨by
        have e : bs ++ (TL ++ (spB s.data.toList ++ TR)) = B1 ++ b0.data.toList ++ TR := by rw [HBE.out, ← HB1.out]; simp
        rw [e]; exact HW8.out, HTF3.out.trans HTF8.out⟩
      go_wp2_with fail
      go_end0
      exact ⟨rfl, HFN.out⟩
  · exact absurd (hz rfl) (by have := HLV.out; omega)

theorem written_of (s : ByteArray) (f : Fr) (h : ∀ s' f', f'.size < f.size → OwC s' f') : OwC s f := by
  intro k n d v lo hi ob mb bs w hs hv hh hw hl ht hnd
  have hsz : s.size ≤ maxLen := by
    have := (smF_shape (.cons k n s f .nil) d (by rw [shapeF_cons, hs]; rfl)).1.1
    unfold maxLen; omega
  cases hi0 : infB k s f.len
  · exact written_plain s f h k n d v lo hi ob mb bs w hi0 hs hsz hv hh hw (by omega) ht hnd
  · obtain ⟨rfl, hlv, _⟩ := inf_kids hi0
    have hp : pairB 3 s f.len = false := by
      cases hp : pairB 3 s f.len
      · rfl
      · have hd := (pairB_len hp).2.2
        unfold dotB at hd
        rw [beq_iff_eq] at hd
        rw [hd] at hlv
        exact absurd hlv (by decide)
    exact written_inf n s f hp hi0 h d v lo hi ob mb bs w hs hv hh hw hl ht hnd
theorem ow_all (N : Nat) : ∀ (s : ByteArray) (f : Fr), f.size ≤ N → OwC s f := by
  induction N with
  | zero => exact fun s f hf => written_of s f fun s' f' h => by omega
  | succ N ih => exact fun s f hf => written_of s f fun s' f' h => ih s' f' (by omega)
end Go.Proofs.YtohkpgpcipjpkaaGreatDoor.wr

/- impl.newOpWriter, impl.WriteTerm. Condition: the term lies in memory, the tables of signs, of operators and of powers of ten in their variables. -/
namespace Go.Proofs.YtohkpgpcipjpkaaGreatDoor.wr
open Go.RowKit

set_option maxRecDepth 100000 in
set_option maxHeartbeats 2000000 in
/-- impl.newOpWriter. -/
theorem newW_any (w : World) (ho : op.OpTab w) :
    Calls Tryz.prog 20 #[] w fun e w' => ∃ mb, e = .returned (.pointer (some ⟨mb, 0, none⟩)) ∧ w.heap.size < mb ∧ Blk w' mb 62 #[.slice none 0 0, fW mb, .map (some w.heap.size)] ∧ op.OpM w' w.heap.size ∧ Below w.heap.size w w' := by
  have C1 := op.table2_any w ho
  have H1 := Lib.hid C1
  have hmf : ∀ (fn : Fn) (first cap : Array Value) (w : World), (Instr.makeFunc fn first cap).run Tryz.prog w = .ok (.func fn first cap) w := fun _ _ _ _ => rfl
  clear C1 ho
  go_enter Tryz.func20, Tryz.ntmps20
  go_wp2_with fail
  refine H1.out.mono ?_
  rintro e w2 ⟨rfl, hm, hb⟩
  have hl2 : w.heap.size < w2.heap.size := World.ownsMap.lt hm
  have HM := Lib.hid hm
  have HB := Lib.hid hb
  clear hm hb
  go_wp2_with fail
  go_ret
  refine ⟨w2.heap.size, rfl, hl2, ?_, ?_, ?_⟩
  · first
      | exact Blk.new w2 _ _
      | (have h := (Blk.new w2 62 #[.slice none 0 0, .nilFunc, .map (some w.heap.size)]).set_ 1 (fW w2.heap.size)
         simpa using h)
  · first
      | exact HM.out.alloc _
      | exact OpM_keep (HM.out.alloc _) (((Below.refl _ _).setCell (Nat.le_refl _) _).mono (Nat.le_refl _)) hl2
  · first
      | exact HB.out.alloc HB.out.size _
      | exact (HB.out.alloc HB.out.size _).setCell HB.out.size _

end Go.Proofs.YtohkpgpcipjpkaaGreatDoor.wr

/- impl.FormatAnswer. Condition: the query and the answer's values lie in memory, the tables of signs, of operators and of powers of ten in their variables. -/
namespace Go.Proofs.YtohkpgpcipjpkaaGreatDoor.wr
open Go.RowKit

set_option maxRecDepth 100000 in
set_option maxHeartbeats 8000000 in
/-- impl.FormatAnswer. -/
theorem implFA_any (f g : Fr) (A B : Option Addr) (cap capB lo hi lo2 hi2 : Nat) (w : World) (hk : KidsAt w lo hi f A cap) (hh : hi ≤ w.heap.size) (hnd : nodes f ≤ 1048576) (hk2 : KidsAt w lo2 hi2 g B capB) (hh2 : hi2 ≤ w.heap.size) (hng : nodes g ≤ 1048576) (ht : nv.Tab w) (ho : op.OpTab w) (hp : Lib.TabIs Tryz.prog w "internal/strconv.uint64pow10" .u64 Lib.pow10Tab) :
    Calls Tryz.prog 9 #[.slice A f.len cap, .agg #[.slice B g.len capB]] w fun e w' => e = .returned (.string ⟨(faB f g).toArray⟩) ∧ Below w.heap.size w w' := by
  obtain ⟨i0, hi0, hz0, hz1, hz2⟩ := info_parts infoU8
  have hlt0 := tab_lt ht
  have hb0 : Below w.heap.size w (w.alloc (.cells #[.slice B g.len capB] 31)) := (Below.refl _ _).alloc (Nat.le_refl _) _
  have hq0 := Blk.new w 31 #[.slice B g.len capB]
  have C1 := questionOf_any f A cap lo hi _ (hk.below hb0 hh) (Nat.le_trans hh hb0.size) hnd (tab_below ht hb0 hlt0) (ho.below hb0)
  have C2 := fun w1 (q0 : Value) (Av : Option Addr) (vn capV : Nat) (hb : Below w.heap.size w w1) => valuesOf_any q0 Av vn capV g B capB lo2 hi2 w1 (hk2.below hb hh2) (Nat.le_trans hh2 hb.size) hng (tab_below ht hb hlt0)
  have hl : f.len ≤ 1048576 := by have := len_le_nodes f; omega
  have hlg : g.len ≤ 1048576 := by have := len_le_nodes g; omega
  have hvl : (varsF [] f).length ≤ 1048576 := by have h1 := varsF_len f []; simp only [List.length_nil] at h1; omega
  have e0 : (w.alloc (.cells #[.slice B g.len capB] 31)).heap.size = w.heap.size + 1 := by simp
  have hs1 : goalsV f = false → faB f g = [] := fa_bad1
  have hs2 : ¬ (varsF [] f).length = g.len → faB f g = [] := fa_bad2
  have hs3 : allB g = false → faB f g = [] := fa_bad3
  have hs4 : goalsV f = true → (varsF [] f).length = g.len → allB g = true → faB f g = if (varsF [] f).length = 0 then [121, 101, 115] else anB 0 (varsF [] f) g := fa_good
  have hsm : goalsV f = true → (varsF [] f).length ≤ 720 := qv_small
  have hat : goalsV f = true → ∀ j, j < (varsF [] f).length → 0 ≤ (varsF [] f).getD j 0 ∧ (varsF [] f).getD j 0 ≤ 25 := fun h j hj => qv_at h hj
  have HLB := Lib.hid (fun h => anB_len g 0 (varsF [] f) h)
  have H1 := Lib.hid C1
  have H2 := Lib.hid C2
  have HS1 := Lib.hid hs1
  have HS2 := Lib.hid hs2
  have HS3 := Lib.hid hs3
  have HS4 := Lib.hid hs4
  have HSM := Lib.hid hsm
  have HAT := Lib.hid hat
  have HB0 := Lib.hid hb0
  have HQ0 := Lib.hid hq0
  have HE0 := Lib.hid e0
  have HO := Lib.hid ho
  have HP := Lib.hid (Lib.tabBelow_of_tabIs hp)
  clear C1 C2 hs1 hs2 hs3 hs4 hsm hat hk hh hnd hk2 hh2 hng hb0 hq0 e0 ht ho hp
  generalize faB f g = R at *
  generalize hn : f.len = len at *
  generalize hm : g.len = lem at *
  have HN := Lib.hid hn
  have HM := Lib.hid hm
  clear hn hm
  go_enter Tryz.func9, Tryz.ntmps9
  go_wp2_with fail
  refine H1.out.mono ?_
  rintro e w2 ⟨hb, hr⟩
  rw [HE0.out] at hb hr
  have hb2 : Below w.heap.size w w2 := HB0.out.trans (hb.mono (by omega))
  have hq2 := HQ0.out.below (by rw [HE0.out]; exact hb) HQ0.out.lt
  have hs2 := hb.size
  rcases hr with ⟨hok, rfl⟩ | ⟨hok, G, gcap, vo, hi3, rfl, hgl, ⟨hg1, hg2⟩, hoi⟩
  · have HR := Lib.hid (HS1.out hok)
    have HB2 : Hid (∀ o, Below w.heap.size w (w2.alloc o)) := Lib.hid fun o => hb2.alloc hb2.size o
    clear hok hb hb2 hq2
    go_wp2_with fail
    go_ret
    rw [HR.out]; exact ⟨rfl, HB2.out _⟩
  · obtain ⟨Av, capV, rfl, hvc, hvm, hvr⟩ := hoi.read
    rw [HN.out]
    have HGV := Lib.hid hok
    have HV2 : Hid (0 < (varsF [] f).length → ∃ gv, Av = some ⟨gv, 0, none⟩ ∧ gv < w2.heap.size ∧ ∀ j, j < (varsF [] f).length → w2.cell? ⟨gv, j, none⟩ = some (.int .i64 ((varsF [] f).getD j 0))) := Lib.hid fun hp => by
      obtain ⟨gv, e, _, hc⟩ := hvr hp
      exact ⟨gv, e, World.block_lt_of_cell? w2 _ (hc 0 hp).1, fun j hj => (hc j hj).1⟩
    have HB2 := Lib.hid hb2
    have a0 := (hq2.alloc (.cells #[.slice G len gcap, .slice Av (varsF [] f).length capV] 48)).cell 0
    simp only [List.getElem?_toArray, List.getElem?_cons_zero] at a0
    have hb23 : Below w2.heap.size w2 (w2.alloc (.cells #[.slice G len gcap, .slice Av (varsF [] f).length capV] 48)) := (Below.refl _ _).alloc (Nat.le_refl _) _
    have hq3 := Blk.new w2 48 #[.slice G len gcap, .slice Av (varsF [] f).length capV]
    have C3 := H2.out (w2.alloc (.cells #[.slice G len gcap, .slice Av (varsF [] f).length capV] 48)) (.slice G len gcap) Av (varsF [] f).length capV (hb2.trans (hb23.mono hb2.size))
    have e3 : (w2.alloc (.cells #[.slice G len gcap, .slice Av (varsF [] f).length capV] 48)).heap.size = w2.heap.size + 1 := by simp
    have hs720 := HSM.out hok
    have hat := HAT.out hok
    have hs4 := HS4.out hok
    have HAT2 := Lib.hid hat
    have HS5 := Lib.hid hs4
    clear hok hgl hvr hoi hb hb2 hq2 H1 H2 HS1 HSM HAT HS4 hat hs4
    generalize varsF [] f = vs at *
    generalize hvn : vs.length = vn at *
    have HVN := Lib.hid hvn
    clear hvn
    have H3 := Lib.hid C3
    have HB23 := Lib.hid hb23
    have HQ3 := Lib.hid hq3
    have HE3 := Lib.hid e3
    clear C3 hb23 hq3 e3
    go_wp2_with fail
    refine H3.out.mono ?_
    rintro e w3 ⟨hb, hr⟩
    have hb13 : Below w2.heap.size w2 w3 := HB23.out.trans (hb.mono HB23.out.size)
    have hb3 : Below w.heap.size w w3 := HB2.out.trans (hb13.mono HB2.out.size)
    have hq3 := HQ3.out.below hb HQ3.out.lt
    have hs3 := hb.size
    rw [HE3.out] at hs3 hr
    rcases hr with ⟨hve, hab, A3, cap3, rfl, hns⟩ | ⟨hbad, rfl⟩
    rotate_left
    · have HR : Hid (R = []) := Lib.hid (by
        by_cases h : vn = lem
        · exact HS3.out (hbad (by rw [h, HM.out]))
        · exact HS2.out h)
      have HB3 := Lib.hid hb3
      clear hbad hb hb13 hb3 hq3
      go_wp2_with fail
      go_ret
      rw [HR.out]; exact ⟨rfl, HB3.out⟩
    · rw [HM.out] at hve ⊢
      have HLB2 := Lib.hid (HLB.out hab)
      have HAB := Lib.hid hab
      have HR0 := Lib.hid (HS5.out hve hab)
      subst hve
      have HNS := Lib.hid hns
      have HB3 := Lib.hid hb3
      have HB13 := Lib.hid hb13
      have HQ33 := Lib.hid hq3
      clear hns hab hb hb3 hb13 hq3 a0 HS2 HS3 HS5 HLB
      by_cases h0 : vn = 0
      · subst h0
        have HR : Hid (R = [121, 101, 115]) := Lib.hid (by rw [HR0.out, if_pos rfl])
        go_wp2_with fail
        go_ret
        rw [HR.out]; exact ⟨rfl, HB3.out⟩
      · have HR : Hid (R = anB 0 vs g) := Lib.hid (by rw [HR0.out, if_neg h0])
        have hne : ((vn : Int) == 0) = false := by rw [beq_eq_false_iff_ne]; omega
        have C5 := newW_any w3 (HO.out.below HB3.out)
        have H5 := Lib.hid C5
        clear C5
        go_wp2_with fail
        refine H5.out.mono ?_
        rintro e w4 ⟨mb, rfl, hm, hqm, hom, hb4⟩
        have hbw4 := HB3.out.trans (hb4.mono HB3.out.size)
        have hq4 := HQ33.out.below hb4 HQ33.out.lt
        have b0 := hq4.cell 0
        have b1 := hq4.cell 1
        simp only [List.getElem?_toArray, List.getElem?_cons_zero, List.getElem?_cons_succ] at b0 b1
        have HPW : Hid (Pow10 w3.heap.size mb w4) := Lib.hid ⟨fun w' hb' => HP.out w' (hbw4.trans (hb'.mono (by have := HB3.out.size; omega))), hm, hom⟩
        have HTW : Hid (TW w3.heap.size mb [] w4) := Lib.hid ⟨_, hqm, World.ownsRow_nil _ _ _ _⟩
        have HBW := Lib.hid hbw4
        have HB4 := Lib.hid hb4
        have hmw : w.heap.size ≤ mb := by have := HB3.out.size; omega
        clear hqm hom hb4 hbw4 hq4 H5 H3 HP HO
        go_wp2_with fail
        generalize hob : w3.heap.size = ob at *
        go_loopw [33] (fun i wr => ∃ (j : Nat) (b2 : List UInt8), j ≤ vn ∧ i = .int .i64 j ∧ b2 ++ anB j (vs.drop j) (g.drop j) = anB 0 vs g ∧ TW ob mb b2 wr ∧ TF mb w4 wr) (fun i _ => vn - (intOf i).toNat)
        case atStart => exact ⟨0, [], Nat.zero_le _, rfl, rfl, HTW.out, TF.refl _ _⟩
        case round =>
          obtain ⟨j, b2, hj, rfl, hL, hw, htf⟩ := hrel
          have hbl : b2.length + (anB j (vs.drop j) (g.drop j)).length ≤ 3000000 := by have := congrArg List.length hL; have := HLB2.out; simp only [List.length_append] at *; omega
          by_cases hlt : j < vn
          · obtain ⟨kk, nn, s', kids, hd⟩ := Fr.drop_cons j g (by rw [HM.out]; exact hlt)
            obtain ⟨bv, rfl, hbv1, hbv2, hrow⟩ := HNS.out.2.2 (by rw [HM.out]; omega)
            obtain ⟨v, hcell, hnv⟩ := hrow.elem hd
            rw [Nat.zero_add] at hcell
            obtain ⟨gv, rfl, hgl, hcv⟩ := HV2.out (by omega)
            have hgm : gv < mb := by omega
            have kv := (htf.1.cell (p := ⟨gv, j, none⟩) hgm).trans ((((HB13.out.trans (HB4.out.mono (by rw [← hob]; exact HB13.out.size))).cell (p := ⟨gv, j, none⟩) hgl)).trans (hcv j hlt))
            have hbm : bv < mb := by omega
            have HC : Hid (∀ wx, TF mb w4 wx → wx.cell? ⟨bv, j, none⟩ = some v) := Lib.hid fun wx h => (h.1.cell (p := ⟨bv, j, none⟩) hbm).trans ((HB4.out.cell (p := ⟨bv, j, none⟩) (by show bv < ob; omega)).trans hcell)
            have hvt : validT kk nn s' kids = true := allB_elem g j hd HAB.out
            obtain ⟨hs9, hn9, hl9⟩ := av_two hvt
            have HND : Hid (∀ wx, TF mb w4 wx → NdV wx (w2.heap.size + 1) ob kk nn s' kids v) := Lib.hid fun wx h => hnv.keep (fun p _ hp => (h.1.cell (by omega)).trans (HB4.out.cell (by omega))) (Nat.le_refl _) (by omega)
            have hvr := HAT2.out j hlt
            have C6 := fun (b : List UInt8) (wx : World) (hw : TW ob mb b wx) (htf : TF mb w4 wx) (hl : b.length ≤ 3000001) => ow_all (Fr.size .nil) ByteArray.empty .nil (Nat.le_refl _) 1 (vs.getD j 0) 30 (.iface 63 (.int .i64 (vs.getD j 0))) 0 0 ob mb b wx (var_shape _ hvr) (.inl ⟨rfl, rfl⟩) (Nat.zero_le _) hw (by rw [txT_var]; have := letB_one (vs.getD j 0); omega) (HPW.out.on htf.1) (Nat.zero_le _)
            have C7 := fun (b : List UInt8) (wx : World) (hw : TW ob mb b wx) (htf : TF mb w4 wx) (hl : b.length ≤ 3000004) => ow_all kids.size s' kids (Nat.le_refl _) kk nn 30 v (w2.heap.size + 1) ob ob mb b wx hs9 (HND.out wx htf) (by omega) hw (by omega) (HPW.out.on htf.1) (by omega)
            simp only [txT_var] at C6
            obtain ⟨T3, z3, rfl⟩ := hnv.iface
            have hlv := letB_one (vs.getD j 0)
            rw [drop_int vs j (by rw [HVN.out]; exact hlt), hd] at hL hbl
            have H6 := Lib.hid C6
            have H7 := Lib.hid C7
            have HTF := Lib.hid htf
            clear C6 C7 hcell hnv hrow hcv hvt hs9 hn9 hvr hd hgl hbv1 hbv2 hgm hbm
            by_cases hj0 : j = 0
            · subst hj0
              have t0 : ¬ (((0 : Nat) : Int) > 0) := by omega
              rw [anB_zero] at hL hbl
              have hTl : (txT kk nn s' kids).length ≤ 4000 := hl9
              have HEX0 : Hid ((((b2 ++ letB (vs.getD 0 0)) ++ [61]) ++ txT kk nn s' kids) ++ anB (0 + 1) (vs.drop (0 + 1)) (g.drop (0 + 1)) = anB 0 vs g) := Lib.hid (by rw [← hL]; simp)
              clear hL hl9
              generalize vs.getD 0 0 = n0 at *
              generalize letB n0 = lv at *
              generalize txT kk nn s' kids = T at *
              have hbl2 : b2.length + T.length ≤ 2999998 := by simp only [List.length_append, List.length_cons] at hbl; omega
              clear hbl
              have HXa : Hid (TW ob mb b2 wr) := Lib.hid hw
              have HTa : Hid (TF mb w4 wr) := HTF
              have hl3 : b2.length ≤ 2999999 := by omega
              clear hw
              generalize hbq : b2 = b3 at *
              go_wp2_with fail
              refine (H6.out _ _ HXa.out HTa.out (by omega)).mono ?_
              rintro e w5 ⟨rfl, hw5, htf5⟩
              have HT5 := Lib.hid (HTa.out.trans htf5)
              have hl5 : (b3 ++ lv).length ≤ 3000000 := by simp only [List.length_append]; omega
              clear htf5
              generalize b3 ++ lv = b5 at *
              obtain ⟨tv, hq, ho⟩ := hw5
              obtain ⟨A0, c0, rfl, _, _⟩ := row_form ho
              have y0 := hq.cell 0
              have yf := hq.frozen 0
              simp only [List.getElem?_toArray, List.getElem?_cons_zero] at y0
              have hmw9 := hq.lt
              have HQW := Lib.hid hq
              have HOW := Lib.hid ho
              clear hq ho
              go_wp2_with (at_builtin; go_must (refine wpList_append_lies _ rfl _ _ _ rfl (mb + 1) 5 i0 _ 1 1 Tryz.underlying56 hi0 hz0 hz1 hz2 rfl (by omega) _ (b5).length (Lib.byteCells (b5)) rfl (HOW.out.alloc _) ⟨w5.heap.size, 0, none⟩ 1 1 [.int .u8 61] rfl rfl (World.news_of_block (cs := #[.int .u8 61]) (t := 5) (fr := (0, 0)) (Blk.new w5 5 #[.int .u8 61])) (by simp [Value.oneCell']) (by omega) (by unfold maxLen; omega) (by omega) (by simp; omega) (w5.heap.size + 1) (by simp) ?_); intro g9 cap9 w9 hown9 hgrow9 _ _; have hst9 := TW.step1 (c := 61) HQW.out HOW.out rfl hgrow9 hown9; have y9 := hst9.2.2.cell 0; have yf9 := hst9.2.2.frozen 0; simp only [List.getElem?_toArray, List.getElem?_cons_zero] at y9; have HS9 := Lib.hid (And.intro hst9.1 hst9.2.1); clear hown9 hgrow9 hst9; refine Hid.out ?_)
              refine Lib.hid ?_
              have HXb : Hid (TW ob mb (b5 ++ [61]) _) := Lib.hid HS9.out.1
              have HTb : Hid (TF mb w4 _) := Lib.hid (HT5.out.trans HS9.out.2)
              have hl6 : (b5 ++ [61]).length ≤ 3000001 := by simp only [List.length_append, List.length_cons, List.length_nil]; omega
              have kw := HC.out _ HTb.out
              clear y0 yf
              generalize b5 ++ [61] = b6 at *
              go_wp2_with fail
              refine (H7.out _ _ HXb.out HTb.out (by omega)).mono ?_
              rintro e w6 ⟨rfl, hw6, htf6⟩
              have HW6 := Lib.hid hw6
              have HTF6 := Lib.hid (HTb.out.trans htf6)
              clear hw6 htf6 y9 yf9
              go_wp2_with fail
              go_roundw
              case rel => exact ⟨0 + 1, _, by omega, by go_num, HEX0.out, HW6.out, HTF6.out⟩
              case measure => simp [intOf]; omega
            · have t0 : ((j : Nat) : Int) > 0 := by omega
              rw [anB_step j hj0] at hL hbl
              have hTl : (txT kk nn s' kids).length ≤ 4000 := hl9
              have HEX0 : Hid (((((b2 ++ [59]) ++ letB (vs.getD j 0)) ++ [61]) ++ txT kk nn s' kids) ++ anB (j + 1) (vs.drop (j + 1)) (g.drop (j + 1)) = anB 0 vs g) := Lib.hid (by rw [← hL]; simp)
              clear hL hl9
              generalize vs.getD j 0 = n0 at *
              generalize letB n0 = lv at *
              generalize txT kk nn s' kids = T at *
              have hbl2 : b2.length + T.length ≤ 2999998 := by simp only [List.length_append, List.length_cons] at hbl; omega
              clear hbl
              obtain ⟨tv, hq, ho⟩ := hw
              obtain ⟨A0, c0, rfl, _, _⟩ := row_form ho
              have y0 := hq.cell 0
              have yf := hq.frozen 0
              simp only [List.getElem?_toArray, List.getElem?_cons_zero] at y0
              have hmw9 := hq.lt
              have HQW := Lib.hid hq
              have HOW := Lib.hid ho
              clear hq ho
              clear htf
              go_wp2_with (at_builtin; go_must (refine wpList_append_lies _ rfl _ _ _ rfl (mb + 1) 5 i0 _ 1 1 Tryz.underlying56 hi0 hz0 hz1 hz2 rfl (by omega) _ (b2).length (Lib.byteCells (b2)) rfl (HOW.out.alloc _) ⟨wr.heap.size, 0, none⟩ 1 1 [.int .u8 59] rfl rfl (World.news_of_block (cs := #[.int .u8 59]) (t := 5) (fr := (0, 0)) (Blk.new wr 5 #[.int .u8 59])) (by simp [Value.oneCell']) (by omega) (by unfold maxLen; omega) (by omega) (by simp; omega) (wr.heap.size + 1) (by simp) ?_); intro g9 cap9 w9 hown9 hgrow9 _ _; have hst9 := TW.step1 (c := 59) HQW.out HOW.out rfl hgrow9 hown9; have y9 := hst9.2.2.cell 0; have yf9 := hst9.2.2.frozen 0; simp only [List.getElem?_toArray, List.getElem?_cons_zero] at y9; have HS9 := Lib.hid (And.intro hst9.1 hst9.2.1); clear hown9 hgrow9 hst9; refine Hid.out ?_)
              refine Lib.hid ?_
              have HXa : Hid (TW ob mb (b2 ++ [59]) _) := Lib.hid HS9.out.1
              have HTa : Hid (TF mb w4 _) := Lib.hid (HTF.out.trans HS9.out.2)
              have hl3 : (b2 ++ [59]).length ≤ 2999999 := by simp only [List.length_append, List.length_cons, List.length_nil]; omega
              have k37 := kv
              clear y0 yf
              generalize b2 ++ [59] = b3 at *
              go_wp2_with fail
              refine (H6.out _ _ HXa.out HTa.out (by omega)).mono ?_
              rintro e w5 ⟨rfl, hw5, htf5⟩
              clear y9 yf9 HQW HOW hmw9 HS9
              have HT5 := Lib.hid (HTa.out.trans htf5)
              have hl5 : (b3 ++ lv).length ≤ 3000000 := by simp only [List.length_append]; omega
              clear htf5
              generalize b3 ++ lv = b5 at *
              obtain ⟨tv, hq, ho⟩ := hw5
              obtain ⟨A0, c0, rfl, _, _⟩ := row_form ho
              have y0 := hq.cell 0
              have yf := hq.frozen 0
              simp only [List.getElem?_toArray, List.getElem?_cons_zero] at y0
              have hmw9 := hq.lt
              have HQW := Lib.hid hq
              have HOW := Lib.hid ho
              clear hq ho
              go_wp2_with (at_builtin; go_must (refine wpList_append_lies _ rfl _ _ _ rfl (mb + 1) 5 i0 _ 1 1 Tryz.underlying56 hi0 hz0 hz1 hz2 rfl (by omega) _ (b5).length (Lib.byteCells (b5)) rfl (HOW.out.alloc _) ⟨w5.heap.size, 0, none⟩ 1 1 [.int .u8 61] rfl rfl (World.news_of_block (cs := #[.int .u8 61]) (t := 5) (fr := (0, 0)) (Blk.new w5 5 #[.int .u8 61])) (by simp [Value.oneCell']) (by omega) (by unfold maxLen; omega) (by omega) (by simp; omega) (w5.heap.size + 1) (by simp) ?_); intro g9 cap9 w9 hown9 hgrow9 _ _; have hst9 := TW.step1 (c := 61) HQW.out HOW.out rfl hgrow9 hown9; have y9 := hst9.2.2.cell 0; have yf9 := hst9.2.2.frozen 0; simp only [List.getElem?_toArray, List.getElem?_cons_zero] at y9; have HS9 := Lib.hid (And.intro hst9.1 hst9.2.1); clear hown9 hgrow9 hst9; refine Hid.out ?_)
              refine Lib.hid ?_
              have HXb : Hid (TW ob mb (b5 ++ [61]) _) := Lib.hid HS9.out.1
              have HTb : Hid (TF mb w4 _) := Lib.hid (HT5.out.trans HS9.out.2)
              have hl6 : (b5 ++ [61]).length ≤ 3000001 := by simp only [List.length_append, List.length_cons, List.length_nil]; omega
              have kw := HC.out _ HTb.out
              clear y0 yf
              generalize b5 ++ [61] = b6 at *
              go_wp2_with fail
              refine (H7.out _ _ HXb.out HTb.out (by omega)).mono ?_
              rintro e w6 ⟨rfl, hw6, htf6⟩
              have HW6 := Lib.hid hw6
              have HTF6 := Lib.hid (HTb.out.trans htf6)
              clear hw6 htf6 y9 yf9
              go_wp2_with fail
              go_roundw
              case rel => exact ⟨j + 1, _, by omega, by go_num, HEX0.out, HW6.out, HTF6.out⟩
              case measure => simp [intOf]; omega
          · obtain rfl : j = vn := by omega
            have hLL : b2 = R := by
              rw [HR.out, ← hL, show vs.drop j = [] by rw [List.drop_eq_nil_iff]; rw [HVN.out]; exact Nat.le_refl _, anB_nil, List.append_nil]
            have HS : Hid (R = b2) := Lib.hid hLL.symm
            obtain ⟨tv, hq, hown⟩ := hw
            have y0 := hq.cell 0
            simp only [List.getElem?_toArray, List.getElem?_cons_zero] at y0
            have HB : Hid (Below w.heap.size w wr) := Lib.hid (HBW.out.trans (htf.1.mono hmw))
            clear hLL hL hbl htf hq
            by_cases hl0 : b2 = []
            · subst hl0
              rcases hown.2 with ⟨rfl, _⟩ | ⟨g, cap3, cur, rfl, _⟩
              · have hcv : (convert 56 9 (.slice none 0 0)).run Tryz.prog wr = .ok (.string ⟨#[]⟩) wr := by kernel_rfl
                clear hown
                go_wp2_with fail
                go_ret
                rw [HS.out]; exact ⟨rfl, HB.out⟩
              · have hcv : (convert 56 9 (.slice (some ⟨g, 0, none⟩) 0 cap3)).run Tryz.prog wr = .ok (.string ⟨#[]⟩) wr := run_convert_bytes_back (P := Tryz.prog) wr 56 9 5 ⟨g, 0, none⟩ cap3 [] Tryz.underlying56 Tryz.underlying5 Tryz.underlying9 (fun j hj => absurd hj (Nat.not_lt_zero _))
                clear hown
                go_wp2_with fail
                go_ret
                rw [HS.out]; exact ⟨rfl, HB.out⟩
            · obtain ⟨g, cap3, rfl, _, _⟩ := hown.form (List.length_pos_iff.2 hl0)
              have hcv := run_convert_bytes_back (P := Tryz.prog) wr 56 9 5 ⟨g, 0, none⟩ cap3 b2 Tryz.underlying56 Tryz.underlying5 Tryz.underlying9 (fun j hj => hown.cells (g := g) rfl j _ (by unfold Lib.byteCells; rw [List.getElem?_map, List.getElem?_eq_getElem hj]; rfl))
              clear hown hl0
              go_wp2_with fail
              go_ret
              rw [HS.out]; exact ⟨rfl, HB.out⟩
end Go.Proofs.YtohkpgpcipjpkaaGreatDoor.wr

/- The law FnExactFormatAnswer, walked. Condition: the arguments lie in memory, the tables of signs, of operators and of powers of ten in their variables. -/
namespace Go.Proofs.YtohkpgpcipjpkaaGreatDoor
open Go.RowKit

section
variable (w : World) (cs0 cs9 : Array Value) (b9 hx hy : Nat) (f g : Fr) (Ax Ay : Option Addr) (cx cy : Nat)
/-- The box of the answer argument; nothing that was there is written. -/
def J0 (wk : World) : Prop := Below w.heap.size w wk ∧ Blk wk w.heap.size 24 cs0
/-- .. and the copy of the first argument. -/
def J1 (wk : World) : Prop := J0 w cs0 wk ∧ KidsAt wk 0 hx f Ax cx ∧ hx ≤ wk.heap.size
/-- .. and the copy of the second. -/
def J2 (wk : World) : Prop := J1 w cs0 hx f Ax cx wk ∧ Blk wk b9 31 cs9 ∧ KidsAt wk 0 hy g Ay cy ∧ hy ≤ wk.heap.size
end
section
variable {w wk wl : World} {cs0 cs9 : Array Value} {b9 hx hy : Nat} {f g : Fr} {Ax Ay : Option Addr} {cx cy : Nat}
theorem J0.below (h : J0 w cs0 wk) (hb : Below wk.heap.size wk wl) : J0 w cs0 wl := ⟨h.1.trans (hb.mono h.1.size), h.2.below hb h.2.lt⟩
theorem J0.drew (h : J0 w cs0 wk) : J0 w cs0 wk.drew := h.below (Below.refl _ _).drew
theorem J1.below (h : J1 w cs0 hx f Ax cx wk) (hb : Below wk.heap.size wk wl) : J1 w cs0 hx f Ax cx wl := ⟨h.1.below hb, h.2.1.below hb h.2.2, Nat.le_trans h.2.2 hb.size⟩
theorem J2.below (h : J2 w cs0 cs9 b9 hx hy f g Ax Ay cx cy wk) (hb : Below wk.heap.size wk wl) : J2 w cs0 cs9 b9 hx hy f g Ax Ay cx cy wl := ⟨h.1.below hb, h.2.1.below hb h.2.1.lt, h.2.2.1.below hb h.2.2.2, Nat.le_trans h.2.2.2 hb.size⟩
theorem J2.drew (h : J2 w cs0 cs9 b9 hx hy f g Ax Ay cx cy wk) : J2 w cs0 cs9 b9 hx hy f g Ax Ay cx cy wk.drew := h.below (Below.refl _ _).drew
theorem cell_box {b : Nat} {t : TypeId} {v : Value} (h : Blk wk b t #[v]) : wk.cell? ⟨b, 0, none⟩ = some v := h.cell 0
theorem kids_zero {A : Option Addr} {c lo hi : Nat} (h : KidsAt wk lo hi f A c) : KidsAt wk 0 hi f A c := h.more (Nat.zero_le _) (Nat.le_refl _)
end

set_option maxRecDepth 100000 in
set_option maxHeartbeats 16000000 in
theorem lawFA_any (f : Fr) (A : Option Addr) (cap : Nat) (g : Fr) (B : Option Addr) (capB : Nat) (w : World) (hk : KidsAt w 0 w.heap.size f A cap) (hk2 : KidsAt w 0 w.heap.size g B capB) (ht : nv.Tab w) (hop : op.OpTab w) (hp : Lib.TabIs Tryz.prog w "internal/strconv.uint64pow10" .u64 Lib.pow10Tab) :
    Calls Tryz.prog 3 #[.slice A f.len cap, .agg #[.slice B g.len capB]] w fun e w' => e = .returned (.bool true) ∧ Below w.heap.size w w' := by
  have hlt := tab_lt ht
  have hr := szS_range f 1048576 (by omega)
  have C1 := fun w1 (hb : Below w.heap.size w w1) => szS_any f A cap 0 w.heap.size 1048576 w1 (hk.below hb (Nat.le_refl _)) hb.size (by omega) (by omega)
  generalize szS f 1048576 = r at *
  have r1 := hr.1
  have r2 := hr.2.1
  have hb1 : J0 w #[.slice B g.len capB] (w.alloc (.cells #[.slice B g.len capB] 24)) := ⟨(Below.refl _ _).alloc (Nat.le_refl _) _, Blk.new w _ _⟩
  have H1 := Lib.hid C1
  have HK := Lib.hid hk
  have HK2 := Lib.hid hk2
  have HT := Lib.hid ht
  have HO := Lib.hid hop
  have HPT := Lib.hid (Lib.tabBelow_of_tabIs hp)
  have HB1 := Lib.hid hb1
  clear C1 hk hk2 ht hop hp hb1
  by_cases hneg : r < 0
  · clear hr
    go_enter Tryz.func3, Tryz.ntmps3
    go_wp2_with fail
    refine (H1.out _ HB1.out.1).mono ?_
    rintro e w2 ⟨rfl, hb⟩
    have HB := Lib.hid (HB1.out.below hb)
    clear hb
    go_wp2_with fail
    go_ret
    exact ⟨rfl, HB.out.1⟩
  have hq := szS_range g r (by omega)
  have C2 := fun w1 (hb : Below w.heap.size w w1) => szAn_any g B capB 0 w.heap.size r w1 (HK2.out.below hb (Nat.le_refl _)) hb.size (by omega) (by omega)
  generalize szS g r = q at *
  have H2 := Lib.hid C2
  have q1 := hq.1
  have q2 := hq.2.1
  clear C2
  by_cases hneg2 : q < 0
  · clear hr hq
    go_enter Tryz.func3, Tryz.ntmps3
    go_wp2_with fail
    refine (H1.out _ HB1.out.1).mono ?_
    rintro e w2 ⟨rfl, hb⟩
    have hg2 := HB1.out.below hb
    have a0 := cell_box hg2.2
    have HB := Lib.hid hg2
    clear hb hg2
    go_wp2_with fail
    refine (H2.out _ HB.out.1).mono ?_
    rintro e w3 ⟨rfl, hb⟩
    have HB3 := Lib.hid (HB.out.below hb)
    clear hb
    go_wp2_with fail
    go_ret
    exact ⟨rfl, HB3.out.1⟩
  have hwt : f.len + wt f ≤ 1048576 := by have := hr.2.2 (by omega); omega
  have hwg : g.len + wt g ≤ 1048576 := by have := hq.2.2 (by omega); omega
  have hnd : nodes f ≤ 1048576 := by have := nodes_le_wt f; omega
  have hng : nodes g ≤ 1048576 := by have := nodes_le_wt g; omega
  have CT := fun w1 (hb : Below w.heap.size w w1) => toS_any f A cap 0 w.heap.size w1 (HK.out.below hb (Nat.le_refl _)) hb.size hwt
  have CA := fun w1 (hb : Below w.heap.size w w1) => toAn_any g B capB 0 w.heap.size w1 (HK2.out.below hb (Nat.le_refl _)) hb.size hwg
  have CS := fun w1 A1 cap1 lo hi (hk : KidsAt w1 lo hi f A1 cap1) hh A2 cap2 lo2 hi2 (hk2 : KidsAt w1 lo2 hi2 g A2 cap2) hh2 => wr.specFA_any f g A1 A2 cap1 cap2 lo hi lo2 hi2 w1 hk hh hnd hk2 hh2 hng
  have CI := fun w1 A1 cap1 lo hi (hk : KidsAt w1 lo hi f A1 cap1) hh A2 cap2 lo2 hi2 (hk2 : KidsAt w1 lo2 hi2 g A2 cap2) hh2 (hb : Below w.heap.size w w1) => wr.implFA_any f g A1 A2 cap1 cap2 lo hi lo2 hi2 w1 hk hh hnd hk2 hh2 hng (tab_below HT.out hb hlt) (HO.out.below hb) (HPT.out _ hb)
  have CE := fun w1 A1 cap1 lo hi A2 cap2 lo2 hi2 (hk : KidsAt w1 lo hi f A1 cap1) hh (hk2 : KidsAt w1 lo2 hi2 f A2 cap2) hh2 => eqS_any f f A1 A2 cap1 cap2 lo hi lo2 hi2 w1 hk hk2 hh hh2
  rw [eqF_refl] at CE
  have CEA := fun w1 A1 cap1 lo hi A2 cap2 lo2 hi2 (hk : KidsAt w1 lo hi g A1 cap1) hh (hk2 : KidsAt w1 lo2 hi2 g A2 cap2) hh2 => eqAn_any g g A1 A2 cap1 cap2 lo hi lo2 hi2 w1 hk hk2 hh hh2
  rw [eqF_refl] at CEA
  generalize hv : (⟨(wr.faB f g).toArray⟩ : ByteArray) = v at *
  have tv : (v.toList != v.toList) = false := by simp
  have HT' := Lib.hid CT
  have HA' := Lib.hid CA
  have HS := Lib.hid CS
  have HI := Lib.hid CI
  have HE := Lib.hid CE
  have HEA := Lib.hid CEA
  clear CT CA CS CI CE CEA hr hq hwt hwg hnd hng hv
  go_enter Tryz.func3, Tryz.ntmps3
  go_wp2_with fail
  refine (H1.out _ HB1.out.1).mono ?_
  rintro e w2 ⟨rfl, hb⟩
  have hg2 := HB1.out.below hb
  have a0 := cell_box hg2.2
  have HB2 := Lib.hid hg2
  clear hb hg2 H1 HB1
  go_wp2_with fail
  refine (H2.out _ HB2.out.1).mono ?_
  rintro e w3 ⟨rfl, hb⟩
  have hg3 := HB2.out.below hb
  clear a0
  have a0 := cell_box hg3.2
  have HB3 := Lib.hid hg3
  clear hb hg3 H2 HB2
  go_wp2_with fail
  go_region_held3 (fun w' => w'.cell? ⟨w.heap.size, 0, none⟩ = some (.slice B g.len capB))
    (first | exact cell_box HB6.out.2 | exact cell_box HB5.out.2 | exact cell_box HB4.out.2 | exact cell_box HB3.out.2 | exact cell_box HB3.out.drew.2)
    (first
      | (go_at_call 7
         refine (HT'.out _ HB3.out.drew.1).mono ?_
         rintro e w4 ⟨A4, cap4, rfl, hm⟩
         have hm4 := kids_of_made hm
         have HB4 := Lib.hid (HB3.out.drew.below hm4.2)
         have KA4 := Lib.hid hm4.1
         clear hm hm4)
      | (go_at_call 8
         refine (HA'.out _ HB4.out.1).mono ?_
         rintro e w5 ⟨A5, cap5, rfl, hm⟩
         have hm5 := kids_of_made hm
         have HB5 := Lib.hid (HB4.out.below hm5.2)
         have KA5 := Lib.hid (KA4.out.below hm5.2 (Nat.le_refl _))
         have KC5 := Lib.hid hm5.1
         have hle5 := hm5.2.size
         clear hm hm5)
      | (go_at_call 6
         refine (HS.out _ _ _ _ _ KA5.out hle5 _ _ _ _ KC5.out (Nat.le_refl _)).mono ?_
         rintro e w6 ⟨rfl, hb⟩
         have HB6 := Lib.hid (HB5.out.below hb)
         clear hb))
  clear a0 KA4 KA5 KC5 hle5 HB3 HB4 HB5
  go_wp2_with fail
  refine (HT'.out _ HB6.out.1).mono ?_
  rintro e w7 ⟨Ax, cx, rfl, hm⟩
  have hm7 := kids_of_made hm
  have hg7 := HB6.out.below hm7.2
  have HJ7 : Hid (J1 w #[.slice B g.len capB] w7.heap.size f Ax cx w7) := Lib.hid ⟨hg7, kids_zero hm7.1, Nat.le_refl _⟩
  have a0 := cell_box hg7.2
  clear hm hm7 hg7 HB6
  go_wp2_with fail
  refine (HA'.out _ HJ7.out.1.1).mono ?_
  rintro e w8 ⟨Ay, cy, rfl, hm⟩
  have hm8 := kids_of_made hm
  have hba : Below w8.heap.size w8 (w8.alloc (.cells #[.slice Ay g.len cy] 31)) := (Below.refl _ _).alloc (Nat.le_refl _) _
  have hq8 := Blk.new w8 31 #[.slice Ay g.len cy]
  have HJ8 : Hid (J2 w #[.slice B g.len capB] #[.slice Ay g.len cy] w8.heap.size w7.heap.size w8.heap.size f g Ax Ay cx cy (w8.alloc (.cells #[.slice Ay g.len cy] 31))) := Lib.hid ⟨(HJ7.out.below hm8.2).below hba, hq8, (kids_zero hm8.1).below hba (Nat.le_refl _), hba.size⟩
  have x0 := cell_box hq8
  clear hm hm8 hba hq8 a0 HJ7
  go_wp2_with fail
  refine (HI.out _ _ _ _ _ HJ8.out.1.2.1 HJ8.out.1.2.2 _ _ _ _ HJ8.out.2.2.1 HJ8.out.2.2.2 HJ8.out.1.1.1).mono ?_
  rintro e w9 ⟨rfl, hb⟩
  have HJ9 := Lib.hid (HJ8.out.below hb)
  clear hb x0 HJ8
  go_wp2_with fail
  refine (HT'.out _ HJ9.out.1.1.1).mono ?_
  rintro e v2 ⟨A3, cap3, rfl, hm⟩
  have hm2 := kids_of_made hm
  have HM2 := Lib.hid hm2.1
  have HST2 := Lib.hid (HJ9.out.below hm2.2)
  clear hm hm2 HJ9
  go_wp2_with fail
  refine (HE.out _ _ _ _ _ _ _ _ _ HST2.out.1.2.1 HST2.out.1.2.2 HM2.out (Nat.le_refl _)).mono ?_
  rintro e v3 ⟨rfl, hb⟩
  have hst := HST2.out.below hb
  have a0 := cell_box hst.1.1.2
  have x0 := cell_box hst.2.1
  have HST3 := Lib.hid hst
  clear hb hst HST2 HM2
  go_wp2_with fail
  go_region_held3 (fun w' => w'.cell? ⟨w8.heap.size, 0, none⟩ = some (.slice Ay g.len cy) ∧ w'.cell? ⟨w.heap.size, 0, none⟩ = some (.slice B g.len capB))
    (first | exact ⟨z0, z1⟩ | exact ⟨y0, y1⟩ | exact ⟨x0, a0⟩)
    (first
      | (go_at_call 8
         refine (HA'.out _ HST3.out.drew.1.1.1).mono ?_
         rintro e v4 ⟨A4, cap4, rfl, hm⟩
         have hm4 := kids_of_made hm
         have h4 := HST3.out.drew.below hm4.2
         have y1 := cell_box h4.1.1.2
         have y0 := cell_box h4.2.1
         have HM4 := Lib.hid hm4.1
         have HST4 := Lib.hid h4
         clear hm hm4 h4)
      | (go_at_call 11
         refine (HEA.out _ _ _ _ _ _ _ _ _ HST4.out.2.2.1 HST4.out.2.2.2 HM4.out (Nat.le_refl _)).mono ?_
         rintro e v5 ⟨rfl, hb⟩
         have h5 := HST4.out.below hb
         have z1 := cell_box h5.1.1.2
         have z0 := cell_box h5.2.1
         have HST5 := Lib.hid h5
         clear hb h5))
  clear a0 x0 y0 y1 z0 z1 HM4 HST4 HST3
  go_wp2_with fail
  go_ret
  exact ⟨rfl, HST5.out.1.1.1⟩
end Go.Proofs.YtohkpgpcipjpkaaGreatDoor
