/- The table of operators as a map whose entries read as text and level. Condition: the table of operators lies in its variable. -/
import Derived.Test.YtkgapidhoeegmaaDoorProg
import Derived.Test.YtkgapidhoeegmaaDoorZmWS46
import Derived.Test.YtkgapidhoeegmaaDoorZmWS44
import Derived.Test.YtkgapidhoeegmaaDoorZmWS47
import Derived.Test.YtkgapidhoeegmaaDoorZmWS45
import Derived.Shelf.Spec.SlicesInsert
import Derived.Lib.AppendZerosOnto
import Derived.Laws.NewBlocks
namespace Go.Proofs.YtkgapidhoeegmaaDoor.op
open Go.RowKit Go.WideMaps Go.Maps

/-- An operator reads as its name, its text and its level. -/
def opR2 : Value → Option (DataW Unit × List MemPlace)
  | .agg ⟨[.string a, .string b, .int .i64 l]⟩ => some (.agg [.lit (.string a.data.toList), .lit (.string b.data.toList), .lit (.int .i64 l)], [])
  | _ => none
theorem opR2_inv {v : Value} {s t : List UInt8} {l : Int} {ps : List MemPlace} (h : opR2 v = some (.agg [.lit (.string s), .lit (.string t), .lit (.int .i64 l)], ps)) : v = .agg #[.string ⟨s.toArray⟩, .string ⟨t.toArray⟩, .int .i64 l] := by
  unfold opR2 at h
  split at h
  · rename_i a b l'
    simp only [Option.some.injEq, Prod.mk.injEq, DataW.agg.injEq, List.cons.injEq, DataW.lit.injEq, Lit.string.injEq, Lit.int.injEq, true_and, and_true] at h
    obtain ⟨⟨h1, h2, rfl⟩, _⟩ := h
    rw [str_of h1, str_of h2]
  · cases h
def opE (r : List UInt8 × List UInt8 × Int) : DataW Unit := .agg [.lit (.string r.1), .lit (.string r.2.1), .lit (.int .i64 r.2.2)]
def opZ : DataW Unit := .agg [.lit (.string []), .lit (.string []), .lit (.int .i64 0)]
def opD2 (k : Nat) : DataW Unit := (tab.take k).foldl (fun D r => D.put (.string r.1) (opE r)) (.map [])
theorem opD2_succ (k : Nat) (h : k < 14) : opD2 (k + 1) = (opD2 k).put (.string (nm k).data.toList) (.agg [.lit (.string (nm k).data.toList), .lit (.string (tx k).data.toList), .lit (.int .i64 (lv k))]) := by
  have hl : k < tab.length := h
  have e : tab.take (k + 1) = tab.take k ++ [tab.getD k ([], [], 0)] := by
    rw [List.take_add_one, List.getElem?_eq_getElem hl]
    simp [List.getD, List.getElem?_eq_getElem hl]
  unfold opD2
  rw [e, List.foldl_append]
  rfl
theorem fold2_no (l : List UInt8) (z : DataW Unit) : ∀ (rs : List (List UInt8 × List UInt8 × Int)) (D : DataW Unit), (∀ r ∈ rs, r.1 ≠ l) →
    (rs.foldl (fun D r => D.put (.string r.1) (opE r)) D).atKey (.string l) z = D.atKey (.string l) z ∧
    has (rs.foldl (fun D r => D.put (.string r.1) (opE r)) D) (.string l) = has D (.string l)
  | [], D, _ => ⟨rfl, rfl⟩
  | r :: rs, D, h => by
    have h1 : r.1 ≠ l := h r (by simp)
    have hne : (Lit.string l) ≠ Lit.string r.1 := fun e => h1 (by injection e with e; exact e.symm)
    obtain ⟨h2, h3⟩ := fold2_no l z rs (D.put (.string r.1) (opE r)) fun x hx => h x (by simp [hx])
    exact ⟨h2.trans (atKey_put_other hne _ _), h3.trans (has_put_other hne _)⟩
theorem at2_yes : ∀ r ∈ tab, (opD2 14).atKey (.string r.1) opZ = opE r ∧ has (opD2 14) (.string r.1) = true := by
  intro r hr
  simp only [tab, List.mem_cons, List.not_mem_nil, or_false] at hr
  rcases hr with rfl | rfl | rfl | rfl | rfl | rfl | rfl | rfl | rfl | rfl | rfl | rfl | rfl | rfl <;> exact ⟨by kernel_rfl, by kernel_rfl⟩
/-- What the full table answers. -/
theorem at2_all (l : List UInt8) : (0 < level l ∧ (opD2 14).atKey (.string l) opZ = .agg [.lit (.string l), .lit (.string (wr.spB l)), .lit (.int .i64 (level l))] ∧ has (opD2 14) (.string l) = true) ∨
    (level l = 0 ∧ (opD2 14).atKey (.string l) opZ = .agg [.lit (.string []), .lit (.string []), .lit (.int .i64 0)] ∧ has (opD2 14) (.string l) = false) := by
  by_cases h : ∃ r ∈ tab, r.1 = l
  · obtain ⟨r, hr, rfl⟩ := h
    obtain ⟨h1, h2⟩ := at2_yes r hr
    have all : ∀ r ∈ tab, 0 < r.2.2 ∧ wr.spB r.1 = r.2.1 := by decide
    rw [level_at r hr, (all r hr).2]
    exact .inl ⟨(all r hr).1, h1, h2⟩
  · have hn : ∀ r ∈ tab, r.1 ≠ l := fun r hr e => h ⟨r, hr, e⟩
    have h1 := fold2_no l opZ tab (.map []) hn
    exact .inr ⟨level_no l hn, h1.1.trans rfl, h1.2.trans rfl⟩

set_option maxRecDepth 100000 in
/-- impl.operatorTable. -/
theorem table2_any (w : World) (ht : OpTab w) :
    Calls Tryd.prog 15 #[] w fun e w' => e = .returned (.map (some w.heap.size)) ∧ w'.ownsMap Tryd.prog 9 opR2 w.heap.size 14 (opD2 14) ∧ Below w.heap.size w w' := by
  have hm := make_hint 40 9 38
  have HM := fun kd n w => hm kd n Tryd.underlying40 w
  clear hm
  have hb0 : Below w.heap.size w (w.alloc (.map #[] 0)) := (Below.refl _ _).alloc (Nat.le_refl _) _
  have ht1 := ht.below hb0
  obtain ⟨tt, fr, htab⟩ := ht1
  have HT := Lib.hid htab
  have HB0 := Lib.hid hb0
  clear htab hb0 ht
  go_enter Tryd.func15, Tryd.ntmps15
  go_wp2_with (refine wpList_load_row rfl 63 _ rfl 0 rfl tt _ fr _ HT.out Tryd.underlying63 rfl (by kernel_rfl) ?_)
  go_loopw [6] (fun i wr => ∃ k : Nat, k ≤ 14 ∧ i = .int .i64 k ∧ wr.ownsMap Tryd.prog 9 opR2 w.heap.size k (opD2 k) ∧ Below w.heap.size w wr) (fun i _ => 14 - (intOf i).toNat)
  case atStart => exact ⟨0, Nat.zero_le _, rfl, World.ownsMap_made _ _ _ _, HB0.out⟩
  case round =>
    obtain ⟨k, hk, rfl, hown, hbw⟩ := hrel
    by_cases h14 : k < 14
    · have hx := fun w => index_op k h14 w
      have hkey := key_ok (nm k) (nm_size k)
      have hs := opD2_succ k h14
      have HS := Lib.hid hs
      have HB := Lib.hid hbw
      have hown1 := hown.alloc (.cells #[.string (nm k), .string (tx k), .int .i64 (lv k)] 38)
      have HO := Lib.hid hown1
      have him : (k : Int) < 14 := by omega
      clear hs hbw hown hown1
      generalize nm k = a at *
      generalize tx k = b at *
      generalize lv k = l at *
      go_wp2_with (first
        | (at_mapUpdate; refine wpList_mapUpdate_own _ rfl _ _ _ 40 rfl 9 38 law Tryd.underlying40 opR2 w.heap.size k _ rfl HO.out (by unfold maxLen; omega) _ _ _ rfl rfl hkey (.agg [.lit (.string a.data.toList), .lit (.string b.data.toList), .lit (.int .i64 l)]) [] rfl ?_; intro w1 hown2 hgrow1)
        | fail)
      have R1 := HS.out.symm ▸ hown2
      have R2 := (HB.out.alloc HB.out.size (.cells #[.string a, .string b, .int .i64 l] 38)).grown hgrow1 (by simpa using Nat.le_succ_of_le HB.out.size) (fun j hj => by cases hj; exact Nat.le_refl _)
      have H1 := Lib.hid R1
      have H2 := Lib.hid R2
      clear R1 R2 hown2 hgrow1 hkey hx
      go_wp2_with fail
      go_roundw
      case rel => exact ⟨k + 1, by omega, by go_num, H1.out, H2.out⟩
      case measure => simp [intOf]; omega
    · obtain rfl : k = 14 := by omega
      have HO := Lib.hid hown
      have HB := Lib.hid hbw
      clear hown hbw
      go_wp2_with fail
      go_ret
      exact ⟨rfl, HO.out, HB.out⟩
/-- The map of operators lies in block ob. -/
def OpM (w : World) (ob : Nat) : Prop := w.ownsMap Tryd.prog 9 opR2 ob 14 (opD2 14)
end Go.Proofs.YtkgapidhoeegmaaDoor.op

/- An opWriter in memory. Condition: the nodes lie in memory below the writer and are well-formed; the table of powers of ten in its variable. -/
namespace Go.Proofs.YtkgapidhoeegmaaDoor.wr
open Go.RowKit

/-- The function that writes parts: the writer's own. -/
def fW (mb : Nat) : Value := .func (.func 20) #[.pointer (some ⟨mb, 0, none⟩)] #[]
def TW (ob mb : Nat) (bs : List UInt8) (w : World) : Prop := ∃ tv, Blk w mb 54 #[tv, fW mb, .map (some ob)] ∧ w.ownsRow (mb + 1) 5 1 tv bs.length (Lib.byteCells bs)
theorem TW.below {ob mb : Nat} {bs : List UInt8} {w w' : World} (h : TW ob mb bs w) (hb : Below w.heap.size w w') : TW ob mb bs w' := by
  obtain ⟨tv, hq, ho⟩ := h
  exact ⟨tv, hq.below hb hq.lt, ho.kept (row := none) ⟨hb.os, hb.tape, hb.output, hb.size, fun k hk _ => hb.block k hk⟩ (by cases tv.ownBlock <;> simp)⟩
/-- One byte more. -/
theorem TW.step {ob mb g cap : Nat} {bs add : List UInt8} {w w1 w6 : World} {tv : Value} (hq : Blk w mb 54 #[tv, fW mb, .map (some ob)]) (ho : w.ownsRow (mb + 1) 5 1 tv bs.length (Lib.byteCells bs)) (h1 : Below w.heap.size w w1)
    (hg : w1.grownBy w6 tv.ownBlock) (ho6 : w6.ownsRow (mb + 1) 5 1 (.slice (some ⟨g, 0, none⟩) (bs.length + add.length) cap) (bs.length + add.length) (Lib.byteCells bs ++ Lib.byteCells add)) :
    TW ob mb (bs ++ add) (w6.setCell ⟨mb, 0, none⟩ (.slice (some ⟨g, 0, none⟩) (bs.length + add.length) cap)) ∧ TF mb w (w6.setCell ⟨mb, 0, none⟩ (.slice (some ⟨g, 0, none⟩) (bs.length + add.length) cap)) ∧ Blk w6 mb 54 #[tv, fW mb, .map (some ob)] := by
  have hmlt := hq.lt
  have hne : some mb ≠ tv.ownBlock := fun e => by have := (ho.lt mb e.symm).1; omega
  have hq1 := hq.below h1 hmlt
  have hq6 : Blk w6 mb 54 #[tv, fW mb, .map (some ob)] := hq1.keep (hg.block mb (Nat.lt_of_lt_of_le hmlt h1.size) hne)
  have h2 : TF mb w w6 := by
    refine ⟨(h1.mono (Nat.le_of_lt hmlt)).grown hg (Nat.le_trans (Nat.le_of_lt hmlt) h1.size) fun k hk => by have := (ho.lt k hk).1; omega, ?_⟩
    refine (TF.below h1 (Nat.le_of_lt hmlt)).2.grown hg fun k hk => ?_
    obtain ⟨c, fz, hc⟩ := row_kind ho k hk
    exact ⟨c, fz, (h1.block k (ho.lt k hk).2).trans hc⟩
  refine ⟨⟨.slice (some ⟨g, 0, none⟩) (bs.length + add.length) cap, ?_, ?_⟩, h2.set_ 0 _, hq6⟩
  · have h := hq6.set_ 0 (.slice (some ⟨g, 0, none⟩) (bs.length + add.length) cap)
    simpa using h
  · have e1 : (bs ++ add).length = bs.length + add.length := List.length_append
    have e2 : Lib.byteCells (bs ++ add) = Lib.byteCells bs ++ Lib.byteCells add := by simp [Lib.byteCells]
    rw [e1, e2]
    refine ho6.kept (row := some mb) ⟨rfl, rfl, rfl, by simp [World.setCell], fun k _ hk => ?_⟩ (.inr fun e => ?_)
    · exact heap_setCell_other _ _ _ _ fun e => hk (by rw [e])
    · have := (ho6.lt mb e).1
      omega
theorem TW.step1 {ob mb g cap : Nat} {bs : List UInt8} {c : UInt8} {x : Int} {w w6 : World} {tv : Value} (hq : Blk w mb 54 #[tv, fW mb, .map (some ob)]) (ho : w.ownsRow (mb + 1) 5 1 tv bs.length (Lib.byteCells bs)) (hc : (c.toNat : Int) = x)
    (hg : (w.alloc (.cells #[.int .u8 x] 5)).grownBy w6 tv.ownBlock) (ho6 : w6.ownsRow (mb + 1) 5 1 (.slice (some ⟨g, 0, none⟩) (bs.length + 1) cap) (bs.length + 1) (Lib.byteCells bs ++ [.int .u8 x])) :
    TW ob mb (bs ++ [c]) (w6.setCell ⟨mb, 0, none⟩ (.slice (some ⟨g, 0, none⟩) (bs.length + 1) cap)) ∧ TF mb w (w6.setCell ⟨mb, 0, none⟩ (.slice (some ⟨g, 0, none⟩) (bs.length + 1) cap)) ∧ Blk w6 mb 54 #[tv, fW mb, .map (some ob)] :=
  TW.step (add := [c]) hq ho ((Below.refl _ _).alloc (Nat.le_refl _) _) hg (by
    have e : Lib.byteCells [c] = [.int .u8 x] := by rw [← hc]; rfl
    rw [e]; exact ho6)
theorem TW.mid {ob mb : Nat} {bs : List UInt8} {w w1 w6 : World} {tv : Value} (hq : Blk w mb 54 #[tv, fW mb, .map (some ob)]) (ho : w.ownsRow (mb + 1) 5 1 tv bs.length (Lib.byteCells bs)) (h1 : Below w.heap.size w w1) (hg : w1.grownBy w6 tv.ownBlock) : TF mb w w6 := by
  have hmlt := hq.lt
  refine ⟨(h1.mono (Nat.le_of_lt hmlt)).grown hg (Nat.le_trans (Nat.le_of_lt hmlt) h1.size) fun k hk => by have := (ho.lt k hk).1; omega, ?_⟩
  refine (TF.below h1 (Nat.le_of_lt hmlt)).2.grown hg fun k hk => ?_
  obtain ⟨c, fz, hc⟩ := row_kind ho k hk
  exact ⟨c, fz, (h1.block k (ho.lt k hk).2).trans hc⟩
/-- The tables that a writer asks: powers of ten, and the map of operators. -/
def Pow10 (ob mb : Nat) (w : World) : Prop := Lib.TabBelow Tryd.prog mb w "internal/strconv.uint64pow10" .u64 Lib.pow10Tab ∧ ob < mb ∧ op.OpM w ob
theorem OpM_keep {w w' : World} {ob mb : Nat} (h : op.OpM w ob) (hb : Below mb w w') (ho : ob < mb) : op.OpM w' ob := by
  obtain ⟨es, clock, he, hr⟩ := h
  exact ⟨es, clock, (hb.block ob ho).trans he, hr⟩
theorem Pow10.on {w w' : World} {ob mb : Nat} (h : Pow10 ob mb w) (hb : Below mb w w') : Pow10 ob mb w' := ⟨h.1.on hb, h.2.1, OpM_keep h.2.2 hb h.2.1⟩
def OwC (s : ByteArray) (f : Fr) : Prop := ∀ (k n d : Int) (v : Value) (lo hi ob mb : Nat) (bs : List UInt8) (w : World), shapeT k n s f d = true → NdV w lo hi k n s f v → hi ≤ mb → TW ob mb bs w → bs.length + (txT k n s f).length ≤ 1073741824 → Pow10 ob mb w → nodes f ≤ 1048576 →
  Calls Tryd.prog 20 #[.pointer (some ⟨mb, 0, none⟩), v] w fun e w' => e = .returned (.tuple #[]) ∧ TW ob mb (bs ++ txT k n s f) w' ∧ TF mb w w'
def WtC (s : ByteArray) (f : Fr) : Prop := ∀ (k n d : Int) (v : Value) (lo hi ob mb : Nat) (bs : List UInt8) (w : World), infB k s f.len = false → shapeT k n s f d = true → NdV w lo hi k n s f v → hi ≤ mb → TW ob mb bs w → bs.length + (txT k n s f).length ≤ 1073741824 → Pow10 ob mb w → nodes f ≤ 1048576 →
  Calls Tryd.prog 26 #[.pointer (some ⟨mb, 0, none⟩), v] w fun e w' => e = .returned (.tuple #[]) ∧ TW ob mb (bs ++ txT k n s f) w' ∧ TF mb w w'
end Go.Proofs.YtkgapidhoeegmaaDoor.wr

/- slices.Insert of one byte within a row of bytes that the call owns. Condition: the byte lies in a block of its own. -/
namespace Go.Proofs.YtkgapidhoeegmaaDoor.wr
open Go.RowKit Go.Lib

theorem blk_setCells (g : Nat) (t : TypeId) : ∀ (vs : List Value) (o : Nat) (w : World) (cur : Array Value), Blk w g t cur → o + vs.length ≤ cur.size → ∃ cur' : Array Value, Blk (w.setCells g o vs) g t cur' ∧ cur'.toList = cur.toList.take o ++ (vs ++ cur.toList.drop (o + vs.length))
  | [], o, w, cur, h, _ => ⟨cur, h, by simp⟩
  | v :: r, o, w, cur, h, hl => by
    simp only [List.length_cons] at hl
    obtain ⟨cur', h1, h2⟩ := blk_setCells g t r (o + 1) (w.setCell ⟨g, o, none⟩ v) (cur.setIfInBounds o v) (h.set_ o v) (by simp; omega)
    refine ⟨cur', h1, ?_⟩
    rw [h2, Array.toList_setIfInBounds, List.take_succ_eq_append_getElem (by simp; omega), List.drop_set_of_lt (by omega)]
    simp [List.take_set_of_le, Nat.add_assoc, Nat.add_comm 1 r.length]
theorem grown_setCells (g : Nat) : ∀ (vs : List Value) (o : Nat) (w : World), w.grownBy (w.setCells g o vs) (some g)
  | [], o, w => ⟨rfl, rfl, rfl, Nat.le_refl _, fun _ _ _ => rfl⟩
  | v :: r, o, w => by
    have h := grown_setCells g r (o + 1) (w.setCell ⟨g, o, none⟩ v)
    have hs : (w.setCell ⟨g, o, none⟩ v).heap.size = w.heap.size := by simp [World.setCell]
    exact ⟨h.os, h.tape, h.output, by have := h.size; rw [hs] at this; exact this, fun k hk hn => (h.block k (by rw [hs]; exact hk) hn).trans (heap_setCell_other _ _ _ _ fun e => hn (by rw [e]))⟩
theorem grown_trans {a b c : World} {g : Option Nat} (h : a.grownBy b g) (k : b.grownBy c g) : a.grownBy c g :=
  ⟨k.os.trans h.os, k.tape.trans h.tape, k.output.trans h.output, Nat.le_trans h.size k.size, fun x hx hn => (k.block x (Nat.lt_of_lt_of_le hx h.size) hn).trans (h.block x hx hn)⟩
theorem ins_list {cur : List Value} {xs : List Value} {n i : Nat} {v : Value} (h : cur.take n = xs) (hl : xs.length = n) (hi : i < n) (L1 L2 : List Value)
    (h1 : L1 = cur.take (i + 1) ++ (xs.drop i ++ cur.drop (i + 1 + (xs.drop i).length))) (h2 : L2 = L1.take i ++ ([v] ++ L1.drop (i + 1))) : L2.take (n + 1) = xs.take i ++ v :: xs.drop i := by
  have hcl : n ≤ cur.length := by
    have := congrArg List.length h
    rw [List.length_take, hl] at this
    omega
  have a1 : L1.take i = xs.take i := by
    rw [h1, List.take_append_of_le_length (by rw [List.length_take]; omega), List.take_take, ← h, List.take_take]
    congr 1
    omega
  have a2 : L1.drop (i + 1) = xs.drop i ++ cur.drop (i + 1 + (xs.drop i).length) := by
    rw [h1, List.drop_append_of_le_length (by rw [List.length_take]; omega), List.drop_eq_nil_of_le (by rw [List.length_take]; omega), List.nil_append]
  rw [h2, a1, a2]
  have e : (xs.take i ++ ([v] ++ (xs.drop i ++ cur.drop (i + 1 + (xs.drop i).length)))) = (xs.take i ++ v :: xs.drop i) ++ cur.drop (i + 1 + (xs.drop i).length) := by simp
  rw [e, List.take_append_of_le_length (by simp only [List.length_append, List.length_take, List.length_cons, List.length_drop]; omega), List.take_of_length_le (by simp only [List.length_append, List.length_take, List.length_cons, List.length_drop]; omega)]

/-- What slices.Insert leaves: the row with one byte more. -/
def InsR (w : World) (base : Nat) (tv : Value) (n : Nat) (xs : List Value) (e : Ending) (w' : World) : Prop :=
  ∃ g cap, e = .returned (.slice (some ⟨g, 0, none⟩) (n + 1) cap) ∧ w'.ownsRow base 5 1 (.slice (some ⟨g, 0, none⟩) (n + 1) cap) (n + 1) xs ∧ w.grownBy w' tv.ownBlock

set_option maxHeartbeats 4000000 in
set_option maxRecDepth 100000 in
/-- slices.Insert where there is room. -/
theorem ins_room (base g n c i vb : Nat) (v : Value) (xs : List Value) (w : World) (hv1 : v.oneCell' = true) (hx1 : ∀ v ∈ xs, v.oneCell' = true) (hi : i < n) (hroom : n + 1 ≤ c) (hvb : vb ≠ g)
    (ho : w.ownsRow base 5 1 (.slice (some ⟨g, 0, none⟩) n c) n xs) (hq : Blk w vb 5 #[v]) :
    Calls Tryd.prog 54 #[.slice (some ⟨g, 0, none⟩) n c, .int .i64 i, .slice (some ⟨vb, 0, none⟩) 1 1] w fun e w' => InsR w base (.slice (some ⟨g, 0, none⟩) n c) n (xs.take i ++ v :: xs.drop i) e w' := by
  have hxl : xs.length = n := by have := ho.1; omega
  obtain ⟨cur, hg, hbg, hcm, hcs, htake⟩ : ∃ cur, Blk w g 5 cur ∧ base ≤ g ∧ c ≤ maxLen ∧ cur.size = c ∧ cur.toList.take n = xs := by
    rcases ho.2 with ⟨h, _⟩ | ⟨g', c', cur, h, hb, hg, h1, h2, h3, h4⟩
    · cases h
    · simp only [Value.slice.injEq, Option.some.injEq, Addr.mk.injEq, and_true] at h
      obtain ⟨rfl, _, rfl⟩ := h
      exact ⟨cur, hg, hb, h2, by omega, by rw [Nat.mul_one] at h4; exact h4⟩
  have hc63 : c ≤ 9223372036854775807 := hcm
  have hcs' : ∀ j u, xs[j]? = some u → w.cell? ⟨g, 0 + j, none⟩ = some u := fun j u hj => by
    rw [Nat.zero_add, hg.cell j, ← Array.getElem?_toList]
    rw [← htake, List.getElem?_take] at hj
    split at hj
    · exact hj
    · cases hj
  have hsp : ∀ j, j < n + 1 → (w.cell? ⟨g, 0 + j, none⟩).isSome = true := fun j hj => by
    rw [Nat.zero_add, hg.cell j, Array.getElem?_eq_getElem (by omega)]; rfl
  have hfz : ∀ j, w.frozen? ⟨g, 0 + j, none⟩ = false := fun j => hg.frozen _
  have hfin : Blk w g 5 cur → InsR w base (.slice (some ⟨g, 0, none⟩) n c) n (xs.take i ++ v :: xs.drop i) (.returned (.slice (some ⟨g, 0, none⟩) (n + 1) c)) ((w.drew.setCells g (i + 1) (xs.drop i)).setCells g i [v]) := fun hg => by
    obtain ⟨c1, b1, l1⟩ := blk_setCells g 5 (xs.drop i) (i + 1) w.drew cur hg (by rw [List.length_drop]; omega)
    have s1 : c1.size = c := by
      have := congrArg List.length l1
      simp only [Array.length_toList, List.length_append, List.length_take, List.length_drop] at this
      omega
    obtain ⟨c2, b2, l2⟩ := blk_setCells g 5 [v] i _ c1 b1 (by simp; omega)
    have s2 : c2.size = c := by
      have := congrArg List.length l2
      simp only [Array.length_toList, List.length_append, List.length_take, List.length_drop, List.length_cons, List.length_nil] at this
      omega
    refine ⟨g, c, rfl, ⟨by simp only [List.length_append, List.length_take, List.length_cons, List.length_drop]; omega, .inr ⟨g, c, c2, rfl, hbg, b2, hroom, hcm, by omega, ?_⟩⟩, ?_⟩
    · rw [Nat.mul_one]
      exact ins_list htake hxl hi c1.toList c2.toList l1 (by simpa using l2)
    · have h1 : w.grownBy w.drew (some g) := ⟨rfl, rfl, rfl, Nat.le_refl _, fun _ _ _ => rfl⟩
      exact grown_trans (grown_trans h1 (grown_setCells g _ _ _)) (grown_setCells g _ _ _)
  have HFIN := Lib.hid (hfin hg)
  have hz2 : ¬ ((i : Int) = (n : Int)) := by omega
  have hsz : (Tryd.prog.info? 5).map (·.size) = some 1 := by
    obtain ⟨i0, hi0, h0, h1, h2⟩ := info_parts infoU8
    rw [hi0]; simp [h1]
  have hsa : w.shape? vb = some (5, 1) := by
    unfold World.shape?
    rw [hq]
    rfl
  have hsb : w.shape? g = some (5, cur.size) := by
    unfold World.shape?
    rw [hg]
  have hov : ∀ lb cb, (callFunc 69 #[.slice (some ⟨vb, 0, none⟩) 1 1, .slice (some ⟨g, 0 + (i + 1), none⟩) lb cb]).run Tryd.prog w = .ok (.value (.bool false)) w := fun lb cb => by
    rw [run_callFunc_extern Tryd.func69 (by kernel_rfl) (by kernel_rfl) (by kernel_rfl) (e := Extern.SlicesOverlaps.overlaps #[22, 22] #[4]) (by kernel_rfl),
      Lib.run_overlaps_apart w 22 4 5 Tryd.underlying22 1 (fun w => by kernel_rfl) ⟨vb, 0, none⟩ ⟨g, 0 + (i + 1), none⟩ 1 1 lb cb hvb 5 5 1 cur.size hsa hsb (by omega) (hq.frozen 0) (hq.frozen 1)]
    rfl
  have hdl : (xs.drop i).length = n - i := by rw [List.length_drop, hxl]
  have hw1 : IntKind.i64.wrap ((i : Int) + 1) = (i : Int) + 1 := by rw [IntKind.wrap_i64]; omega
  have hb1 : (0 : Int) ≤ (i : Int) + 1 := by omega
  have hin : i ≤ n := by omega
  have htn : ((i : Int) + 1).toNat = i + 1 := by omega
  have hb2 : ¬ (c = i + 1) := by omega
  have hb3 : (i : Int) ≤ (n : Int) + 1 := by omega
  have hb4 : ¬ (c = i) := by omega
  have hcp1 : ∀ ty dc sc, (Builtin.copy_ #[22, 22] ty #[.slice (some ⟨g, i + 1, none⟩) (n - i) dc, .slice (some ⟨g, i, none⟩) (n + 1 - i) sc]).run Tryd.prog w.drew = .ok (goInt (xs.drop i).length) (w.drew.setCells g (i + 1) (xs.drop i)) := fun ty dc sc =>
    run_copy_cells w.drew _ _ ty 5 g (i + 1) (n - i) dc ⟨g, i, none⟩ (n + 1 - i) sc (xs.drop i) Tryd.underlying22 hsz (by rw [hdl]; simp only [Nat.min_def]; split <;> omega)
      (fun j u hj => by rw [Addr.add_lit]; have := hcs' (i + j) u (by rwa [List.getElem?_drop] at hj); rwa [Nat.zero_add] at this)
      (fun j hj => by have := hsp (i + 1 + j) (by omega); rwa [Nat.zero_add] at this) (fun j hj => by have := hfz (i + 1 + j); rwa [Nat.zero_add] at this) (fun u hu => hx1 u (List.mem_of_mem_drop hu))
  obtain ⟨W1, hW1⟩ : ∃ W1, W1 = w.drew.setCells g (i + 1) (xs.drop i) := ⟨_, rfl⟩
  have hsp1 : ∀ k, k < n + 1 → (W1.cell? ⟨g, k, none⟩).isSome = true := fun k hk => by
    rw [hW1]
    exact isSome_setCells g _ _ _ (fun j hj => by have := hsp (i + 1 + j) (by omega); rwa [Nat.zero_add] at this) _ (by have := hsp k hk; rwa [Nat.zero_add] at this)
  have hcp2 : ∀ (W : World), (∀ x, W.cell? x = W1.cell? x) → (∀ x, W.frozen? x = W1.frozen? x) → ∀ ty dc, (Builtin.copy_ #[22, 22] ty #[.slice (some ⟨g, i, none⟩) (n + 1 - i) dc, .slice (some ⟨vb, 0, none⟩) 1 1]).run Tryd.prog W = .ok (goInt 1) (W.setCells g i [v]) := fun W hWc hWf ty dc =>
    run_copy_cells W _ _ ty 5 g i (n + 1 - i) dc ⟨vb, 0, none⟩ 1 1 [v] Tryd.underlying22 hsz (by simp only [List.length_cons, List.length_nil, Nat.min_def]; split <;> omega)
      (fun j u hj => by
        rw [Addr.add_lit, hWc, hW1, World.cell?_setCells_out g _ _ _ _ (fun h _ => absurd h hvb)]
        cases j with
        | zero => exact (hq.cell 0).trans (by simpa using hj)
        | succ j => simp at hj)
      (fun j hj => by simp only [List.length_cons, List.length_nil] at hj; rw [hWc]; exact hsp1 _ (by omega)) (fun j hj => by rw [hWf, hW1, World.frozen?_setCells]; have := hfz (i + j); rwa [Nat.zero_add] at this) (fun u hu => by simp at hu; subst hu; exact hv1)
  rw [← hW1] at hcp1
  have HW := Lib.hid hW1
  clear hW1 hfin hsp1 hsz hsa hsb hcs' hsp hfz hdl ho hq hg htake hcs hxl
  simp only [Nat.zero_add] at hov
  go_enter Tryd.func54, Tryd.ntmps54
  go_wp2_with (simp only [hov])
  go_region_law (refine step_copy_runI rfl _ _ 22 22 rfl _ _ (by simp [Act.eval, Act.put]) (by simp [Act.eval, Act.put]) (hcp1 _ _ _) ?_)
  go_wp2_with (at_builtin; refine wpList_copy_runI _ rfl _ _ 22 22 rfl _ _ rfl rfl (hcp2 _ (fun _ => rfl) (fun _ => rfl) _ _) ?_)
  go_ret
  rw [HW.out]
  exact HFIN.out
end Go.Proofs.YtkgapidhoeegmaaDoor.wr

/- slices.Insert of one byte within a row of bytes that the call owns: where there is no room, and at every row. Condition: the byte lies in a block of its own. -/
namespace Go.Proofs.YtkgapidhoeegmaaDoor.wr
open Go.RowKit Go.Lib

set_option maxHeartbeats 4000000 in
set_option maxRecDepth 100000 in
/-- slices.Insert where there is no room. -/
theorem ins_grow (base g n c i vb : Nat) (v : Value) (xs : List Value) (w : World) (hv1 : v.oneCell' = true) (hx1 : ∀ v ∈ xs, v.oneCell' = true) (hi : i < n) (hnc : n ≤ c) (hroom : c < n + 1) (hbig : n ≤ 1073741824) (hbase : base ≤ w.heap.size)
    (ho : w.ownsRow base 5 1 (.slice (some ⟨g, 0, none⟩) n c) n xs) (hq : Blk w vb 5 #[v]) :
    Calls Tryd.prog 54 #[.slice (some ⟨g, 0, none⟩) n c, .int .i64 i, .slice (some ⟨vb, 0, none⟩) 1 1] w fun e w' => InsR w base (.slice (some ⟨g, 0, none⟩) n c) n (xs.take i ++ v :: xs.drop i) e w' := by
  have hxl : xs.length = n := by have := ho.1; omega
  obtain ⟨cur, hg, hbg, hcm, hcs, htake⟩ : ∃ cur, Blk w g 5 cur ∧ base ≤ g ∧ c ≤ maxLen ∧ cur.size = c ∧ cur.toList.take n = xs := by
    rcases ho.2 with ⟨h, _⟩ | ⟨g', c', cur, h, hb, hg, h1, h2, h3, h4⟩
    · cases h
    · simp only [Value.slice.injEq, Option.some.injEq, Addr.mk.injEq, and_true] at h
      obtain ⟨rfl, _, rfl⟩ := h
      exact ⟨cur, hg, hb, h2, by omega, by rw [Nat.mul_one] at h4; exact h4⟩
  have hc63 : c ≤ 9223372036854775807 := hcm
  have hcs' : ∀ j u, xs[j]? = some u → w.cell? ⟨g, j, none⟩ = some u := fun j u hj => by
    rw [hg.cell j, ← Array.getElem?_toList]
    rw [← htake, List.getElem?_take] at hj
    split at hj
    · exact hj
    · cases hj
  obtain ⟨i0, hi0, hz0, hzs, hzb⟩ := info_parts infoU8
  have hz2 : ¬ ((i : Int) = (n : Int)) := by omega
  have hz3 : (c : Int) < (n : Int) + 1 := by omega
  have hsz : (Tryd.prog.info? 5).map (·.size) = some 1 := by rw [hi0]; simp [hzs]
  have hbw : g < w.heap.size := hg.lt
  have hvw : vb < w.heap.size := hq.lt
  have hkk : (n : Int) + 1 - (i : Int) = ((n + 1 - i : Nat) : Int) := by omega
  have hik : i + (n + 1 - i) = n + 1 := by omega
  have hold : (Builtin.firstCells i0.size i (.slice (some ⟨g, 0, none⟩) i c)).run Tryd.prog w.drew = .ok (xs.take i).toArray w.drew := by
    rw [hzs]
    exact run_firstCells_some w.drew 1 i ⟨g, 0, none⟩ i c (xs.take i) (by rw [List.length_take]; omega) (fun j u hj => by
      rw [Addr.add_lit, Nat.zero_add]
      rw [List.getElem?_take] at hj
      split at hj
      · exact hcs' j u hj
      · cases hj)
  have hrz : ∀ ty, (Builtin.append_ #[22, 3] ty #[.slice (some ⟨g, 0, none⟩) i c, .int .i64 ((n : Int) + 1 - (i : Int))]).run Tryd.prog w =
      .ok (.slice (some ⟨w.heap.size, 0, none⟩) (n + 1) (grownCap w (n + 1) c 5)) (w.drew.alloc (.cells ((xs.take i).toArray ++ Builtin.zeroCells (Value.int .u8 0).cells (n + 1 - i) ++ Builtin.zeroCells (Value.int .u8 0).cells (grownCap w (n + 1) c 5 - (n + 1))) 5)) := fun ty => by
    have h := Lib.run_append_grow_zeros w 22 3 ty 5 i0 _ .i64 .i64 Tryd.underlying22 Tryd.underlying3 hi0 hz0 (some ⟨g, 0, none⟩) i c (xs.take i) hold (n + 1 - i) (by omega) (by omega) (by omega) (by omega) (by rw [hzb]; omega) (by rw [hzb, hik]; exact growslice_fits hroom (by omega))
    rw [hik] at h
    rw [hkk]
    exact h
  have hGn : n + 1 ≤ grownCap w (n + 1) c 5 := grownCap_ge w _ _ _
  have hGm : grownCap w (n + 1) c 5 ≤ maxLen := grownCap_le_maxLen w (n + 1) c 5 (by unfold maxLen; omega)
  generalize grownCap w (n + 1) c 5 = G at *
  have hRS : ((xs.take i).toArray ++ Builtin.zeroCells (Value.int .u8 0).cells (n + 1 - i) ++ Builtin.zeroCells (Value.int .u8 0).cells (G - (n + 1))).size = G := by
    simp [Builtin.zeroCells, Value.cells]
    omega
  have hRT : ((xs.take i).toArray ++ Builtin.zeroCells (Value.int .u8 0).cells (n + 1 - i) ++ Builtin.zeroCells (Value.int .u8 0).cells (G - (n + 1))).toList.take i = xs.take i := by
    simp only [Array.toList_append, List.append_assoc]
    rw [List.take_append_of_le_length (by simp; omega), List.take_of_length_le (by simp; omega)]
  generalize hROW : (xs.take i).toArray ++ Builtin.zeroCells (Value.int .u8 0).cells (n + 1 - i) ++ Builtin.zeroCells (Value.int .u8 0).cells (G - (n + 1)) = ROW at *
  have hfin : InsR w base (.slice (some ⟨g, 0, none⟩) n c) n (xs.take i ++ v :: xs.drop i) (.returned (.slice (some ⟨w.heap.size, 0, none⟩) (n + 1) G)) ((((w.alloc (.cells ROW 5)).drew.setCells w.heap.size i [v]).drew).setCells w.heap.size (i + 1) (xs.drop i)) := by
    obtain ⟨c1, b1, l1⟩ := blk_setCells w.heap.size 5 [v] i (w.alloc (.cells ROW 5)).drew ROW (Blk.new w _ _) (by simp; omega)
    have s1 : c1.size = G := by
      have := congrArg List.length l1
      simp only [Array.length_toList, List.length_append, List.length_take, List.length_drop, List.length_cons, List.length_nil] at this
      omega
    obtain ⟨c2, b2, l2⟩ := blk_setCells w.heap.size 5 (xs.drop i) (i + 1) ((w.alloc (.cells ROW 5)).drew.setCells w.heap.size i [v]).drew c1 b1 (by rw [List.length_drop]; omega)
    have s2 : c2.size = G := by
      have := congrArg List.length l2
      simp only [Array.length_toList, List.length_append, List.length_take, List.length_drop] at this
      omega
    refine ⟨w.heap.size, G, rfl, ⟨by simp only [List.length_append, List.length_take, List.length_cons, List.length_drop]; omega, .inr ⟨w.heap.size, G, c2, rfl, hbase, b2, hGn, hGm, by omega, ?_⟩⟩, ?_⟩
    · rw [Nat.mul_one, l2, l1]
      have e1 : (ROW.toList.take i ++ ([v] ++ ROW.toList.drop (i + [v].length))).take (i + 1) = xs.take i ++ [v] := by
        rw [hRT, ← List.append_assoc, List.take_append_of_le_length (by simp; omega), List.take_of_length_le (by simp; omega)]
      rw [e1, ← List.append_assoc, List.take_append_of_le_length (by simp; omega), List.take_of_length_le (by simp; omega)]
      simp
    · have hb : ∀ (x : World) (vs : List Value) (o : Nat), w.heap.size ≤ x.heap.size → (∀ k, k < w.heap.size → x.heap[k]? = w.heap[k]?) → x.os = w.os → x.tape = w.tape → x.output = w.output → w.grownBy (x.setCells w.heap.size o vs) (some g) := fun x vs o h1 h2 h3 h4 h5 => by
        have h := grown_setCells w.heap.size vs o x
        exact ⟨h.os.trans h3, h.tape.trans h4, h.output.trans h5, Nat.le_trans h1 h.size, fun k hk hn => (h.block k (Nat.lt_of_lt_of_le hk h1) (by simp; omega)).trans (h2 k hk)⟩
      have h1 := grown_setCells w.heap.size [v] i (w.alloc (.cells ROW 5)).drew
      have hb0 : Below w.heap.size w (w.alloc (.cells ROW 5)) := (Below.refl _ _).alloc (Nat.le_refl _) _
      exact hb _ _ _ (Nat.le_trans hb0.size h1.size) (fun k hk => (h1.block k (Nat.lt_of_lt_of_le hk hb0.size) (by simp; omega)).trans (hb0.block k hk)) (h1.os.trans hb0.os) (h1.tape.trans hb0.tape) (h1.output.trans hb0.output)
  have HFIN := Lib.hid hfin
  obtain ⟨W1, hW1⟩ : ∃ W1, W1 = w.drew.alloc (.cells ROW 5) := ⟨_, rfl⟩
  rw [← hW1] at hrz
  have hN : ∀ j, j < n + 1 → (W1.cell? ⟨w.heap.size, j, none⟩).isSome = true := fun j hj => by
    rw [hW1, World.cell?_alloc_at (w := w.drew) ROW _ w.heap.size j rfl, Array.getElem?_eq_getElem (by omega)]; rfl
  have hNf : ∀ j, W1.frozen? ⟨w.heap.size, j, none⟩ = false := fun j => by rw [hW1]; exact World.frozen?_alloc_at (w := w.drew) ROW _ w.heap.size j rfl
  have hOb : ∀ j u, w.cell? ⟨g, j, none⟩ = some u → W1.cell? ⟨g, j, none⟩ = some u := fun j u h => by rw [hW1, World.cell?_alloc_past (w := w.drew) _ g j hbw]; exact h
  have hOv : ∀ j u, w.cell? ⟨vb, j, none⟩ = some u → W1.cell? ⟨vb, j, none⟩ = some u := fun j u h => by rw [hW1, World.cell?_alloc_past (w := w.drew) _ vb j hvw]; exact h
  have hdl : (xs.drop i).length = n - i := by rw [List.length_drop, hxl]
  have hcpA : ∀ (W : World), (∀ x, W.cell? x = W1.cell? x) → (∀ x, W.frozen? x = W1.frozen? x) → ∀ ty dc, (Builtin.copy_ #[22, 22] ty #[.slice (some ⟨w.heap.size, i, none⟩) (n + 1 - i) dc, .slice (some ⟨vb, 0, none⟩) 1 1]).run Tryd.prog W = .ok (goInt 1) (W.setCells w.heap.size i [v]) := fun W hWc hWf ty dc =>
    run_copy_cells W _ _ ty 5 w.heap.size i (n + 1 - i) dc ⟨vb, 0, none⟩ 1 1 [v] Tryd.underlying22 hsz (by simp only [List.length_cons, List.length_nil, Nat.min_def]; split <;> omega)
      (fun j u hj => by
        rw [Addr.add_lit, hWc]
        cases j with
        | zero => exact hOv _ u ((hq.cell 0).trans (by simpa using hj))
        | succ j => simp at hj)
      (fun j hj => by simp only [List.length_cons, List.length_nil] at hj; rw [hWc]; exact hN _ (by omega)) (fun j hj => by rw [hWf]; exact hNf _) (fun u hu => by simp at hu; subst hu; exact hv1)
  have hbN : g ≠ w.heap.size := by omega
  have hcpB : ∀ (W : World), (∀ x, W.cell? x = (W1.setCells w.heap.size i [v]).cell? x) → (∀ x, W.frozen? x = (W1.setCells w.heap.size i [v]).frozen? x) → ∀ ty dc sc, (Builtin.copy_ #[22, 22] ty #[.slice (some ⟨w.heap.size, i + 1, none⟩) (n - i) dc, .slice (some ⟨g, i, none⟩) (n - i) sc]).run Tryd.prog W = .ok (goInt (xs.drop i).length) (W.setCells w.heap.size (i + 1) (xs.drop i)) := fun W hWc hWf ty dc sc =>
    run_copy_cells W _ _ ty 5 w.heap.size (i + 1) (n - i) dc ⟨g, i, none⟩ (n - i) sc (xs.drop i) Tryd.underlying22 hsz (by rw [hdl]; simp only [Nat.min_def]; split <;> omega)
      (fun j u hj => by
        rw [Addr.add_lit, hWc, World.cell?_setCells_out _ _ _ _ _ (fun h _ => absurd h hbN)]
        exact hOb _ u (hcs' (i + j) u (by rwa [List.getElem?_drop] at hj)))
      (fun j hj => by rw [hWc]; exact isSome_setCells _ _ _ _ (fun t ht => hN _ (by simp at ht; omega)) _ (hN _ (by omega)))
      (fun j hj => by rw [hWf, World.frozen?_setCells]; exact hNf _) (fun u hu => hx1 u (List.mem_of_mem_drop hu))
  subst hW1
  have hE1 : ∀ x, ((w.alloc (.cells ROW 5)).drew).cell? x = (w.drew.alloc (.cells ROW 5)).cell? x := fun x => rfl
  have hE2 : ∀ x, ((w.alloc (.cells ROW 5)).drew).frozen? x = (w.drew.alloc (.cells ROW 5)).frozen? x := fun x => rfl
  have hF1 : ∀ x, (((w.alloc (.cells ROW 5)).drew.setCells w.heap.size i [v]).drew).cell? x = ((w.drew.alloc (.cells ROW 5)).setCells w.heap.size i [v]).cell? x := fun x => rfl
  have hF2 : ∀ x, (((w.alloc (.cells ROW 5)).drew.setCells w.heap.size i [v]).drew).frozen? x = ((w.drew.alloc (.cells ROW 5)).setCells w.heap.size i [v]).frozen? x := fun x => rfl
  have hw1 : IntKind.i64.wrap ((i : Int) + 1) = (i : Int) + 1 := by rw [IntKind.wrap_i64]; omega
  have hb1 : (0 : Int) ≤ (i : Int) + 1 := by omega
  have hin : i ≤ n := by omega
  have htn : ((i : Int) + 1).toNat = i + 1 := by omega
  have hb3 : (i : Int) ≤ (n : Int) := by omega
  have hG63 : G ≤ 9223372036854775807 := hGm
  have hGi : ¬ (G = i) := by omega
  have hGim : ¬ (G = i + 1) := by omega
  have hci : ¬ (c = i) := by omega
  clear hkk hik hold hROW hRS hRT hfin hN hNf hOb hOv hdl hsz hcs' ho hq hg htake hcs hxl hGm
  go_enter Tryd.func54, Tryd.ntmps54
  go_wp2_with (first
    | (at_builtin; refine Lib.wpList_append_run _ rfl _ _ _ _ rfl _ _ rfl rfl _ _ (hrz _) ?_)
    | (at_builtin; refine wpList_copy_runI _ rfl _ _ 22 22 rfl _ _ rfl rfl (hcpA _ hE1 hE2 _ _) ?_)
    | (at_builtin; refine wpList_copy_runI _ rfl _ _ 22 22 rfl _ _ rfl rfl (hcpB _ (fun _ => rfl) (fun _ => rfl) _ _ _) ?_))
  go_region_law (refine step_copy_runI rfl _ _ 22 22 rfl (.slice (some ⟨w.heap.size, i + 1, none⟩) (n - i) (G - (i + 1))) (.slice (some ⟨g, i, none⟩) (n - i) (c - i)) (by simp [Act.eval, Act.put]) (by simp [Act.eval, Act.put]) (hcpB _ hF1 hF2 3 (G - (i + 1)) (c - i)) ?_)
  go_wp2_with fail
  go_ret
  exact HFIN.out

/-- slices.Insert of a byte ahead of byte i. -/
theorem ins_any (base n i vb : Nat) (tv v : Value) (xs : List Value) (w : World) (hv1 : v.oneCell' = true) (hx1 : ∀ v ∈ xs, v.oneCell' = true) (hi : i < n) (hbig : n ≤ 1073741824) (hbase : base ≤ w.heap.size) (hvb : some vb ≠ tv.ownBlock)
    (ho : w.ownsRow base 5 1 tv n xs) (hq : Blk w vb 5 #[v]) :
    Calls Tryd.prog 54 #[tv, .int .i64 i, .slice (some ⟨vb, 0, none⟩) 1 1] w fun e w' => InsR w base tv n (xs.take i ++ v :: xs.drop i) e w' := by
  have ho' := ho
  rcases ho.2 with ⟨_, h0⟩ | ⟨g, c, cur, rfl, hb, hg, h1, h2, h3, h4⟩
  · omega
  · by_cases hr : n + 1 ≤ c
    · exact ins_room base g n c i vb v xs w hv1 hx1 hi hr (fun e => hvb (by rw [e]; rfl)) ho' hq
    · exact ins_grow base g n c i vb v xs w hv1 hx1 hi h1 (by omega) hbig hbase ho' hq
end Go.Proofs.YtkgapidhoeegmaaDoor.wr

/- impl.termWriter.writeParts of an opWriter. Condition: the nodes lie in memory below the writer and are well-formed; the table of powers of ten in its variable. -/
namespace Go.Proofs.YtkgapidhoeegmaaDoor.wr
open Go.RowKit

set_option maxRecDepth 100000 in
set_option maxHeartbeats 4000000 in
/-- termWriter.writeParts. -/
theorem parts_of (F : Fr) (h : ∀ j k n s kids rest, F.drop j = .cons k n s kids rest → OwC s kids) (d : Int) (A : Option Addr) (cap lo hi ob mb : Nat) (bs : List UInt8) (w : World) (hs : shapeF F d = true) (hp : PR w lo hi mb F A cap) (hh : hi ≤ mb) (hw : TW ob mb bs w) (hl : bs.length + (remB 0 F).length ≤ 1073741824) (ht : Pow10 ob mb w) (hnd : nodes F ≤ 1048576) :
    Calls Tryd.prog 49 #[.pointer (some ⟨mb, 0, none⟩), .slice A F.len cap] w fun e w' => e = .returned (.tuple #[]) ∧ TW ob mb (bs ++ remB 0 F) w' ∧ TF mb w w' := by
  have hlen : F.len ≤ 1048576 := by have := len_le_nodes F; omega
  obtain ⟨i0, hi0, hz0, hz1, hz2⟩ := info_parts infoU8
  have HP := Lib.hid hp
  have HH := Lib.hid h
  have HS := Lib.hid hs
  have HHI := Lib.hid hh
  have HW := Lib.hid hw
  have HL := Lib.hid hl
  have HT := Lib.hid ht
  have HND := Lib.hid hnd
  clear h hs hp hh hw hl ht hnd
  generalize hn : F.len = len at *
  have HN := Lib.hid hn
  clear hn
  go_enter Tryd.func49, Tryd.ntmps49
  go_wp2_with fail
  go_loopw [8] (fun i wr => ∃ (j : Nat) (b2 : List UInt8), j ≤ len ∧ i = .int .i64 j ∧ TW ob mb b2 wr ∧ TF mb w wr ∧ b2 ++ remB j (F.drop j) = bs ++ remB 0 F) (fun i _ => len - (intOf i).toNat)
  case atStart => exact ⟨0, bs, Nat.zero_le _, rfl, HW.out, TF.refl _ _, rfl⟩
  case round =>
    obtain ⟨j, b2, hj, rfl, hw, htf, hb⟩ := hrel
    by_cases hlt : j < len
    · obtain ⟨kk, nn, ss, kids, hd⟩ := Fr.drop_cons j F (by rw [HN.out]; exact hlt)
      have hp := HP.out.keep HHI.out htf
      obtain ⟨g, rfl, hkp, hall⟩ := hp.2.2 (by rw [HN.out]; omega)
      obtain ⟨gv, hc, hv⟩ := hall j _ _ _ _ _ hd
      have hsh := shape_drop F j d hd HS.out
      have C := HH.out j _ _ _ _ _ hd
      rw [hd] at hb
      obtain ⟨tv, hq, ho⟩ := hw
      obtain ⟨A0, c0, rfl, hc1, hc2⟩ := row_form ho
      have y0 := hq.cell 0
      have y1 := hq.cell 1
      have yf := hq.frozen 0
      simp only [List.getElem?_toArray, List.getElem?_cons_zero, List.getElem?_cons_succ] at y0 y1
      unfold fW at y1
      have hmw := hq.lt
      have hndk : nodes kids ≤ 1048576 := Nat.le_trans (nodes_drop_elem j F hd) HND.out
      have HBB := Lib.hid hb
      have HTF := Lib.hid htf
      have HV := Lib.hid hv
      have HSH := Lib.hid hsh
      have HC := Lib.hid C
      have HO := Lib.hid ho
      have HQ := Lib.hid hq
      have HNK := Lib.hid hndk
      obtain ⟨T0, x0, rfl⟩ := hv.iface
      have hbl := congrArg List.length hb
      clear hb htf hv hsh C ho hq hall hkp hp hndk hd
      have hBL := HL.out
      by_cases hj0 : j = 0
      · subst hj0
        have hstep : b2 ++ (txT kk nn ss kids ++ remB 1 (F.drop 1)) = bs ++ remB 0 F := by have := HBB.out; rwa [remB_zero] at this
        have HST := Lib.hid hstep
        have hll : b2.length + (txT kk nn ss kids).length ≤ 1073741824 := by have := congrArg List.length hstep; simp only [List.length_append] at this; omega
        have C2 := HC.out kk nn d (.iface T0 x0) lo hi ob mb b2 wr HSH.out HV.out HHI.out ⟨_, HQ.out, HO.out⟩ hll (HT.out.on HTF.out.1) HNK.out
        have H2 := Lib.hid C2
        clear C2 hstep hbl hll
        go_wp2_with fail
        refine H2.out.mono ?_
        rintro e w3 ⟨rfl, hw3, htf3⟩
        have HW3 := Lib.hid hw3
        have HTF3 := Lib.hid (HTF.out.trans htf3)
        have HE3 : Hid ((b2 ++ txT kk nn ss kids) ++ remB (0 + 1) (F.drop (0 + 1)) = bs ++ remB 0 F) := Lib.hid (by rw [List.append_assoc]; exact HST.out)
        clear hw3 htf3
        go_wp2_with fail
        go_roundw
        case rel => exact ⟨0 + 1, _, by omega, by go_num, HW3.out, HTF3.out, HE3.out⟩
        case measure => simp [intOf]; omega
      · have hstep : b2 ++ 44 :: (txT kk nn ss kids ++ remB (j + 1) (F.drop (j + 1))) = bs ++ remB 0 F := by have := HBB.out; rwa [remB_step j hj0] at this
        have HST := Lib.hid hstep
        have hll : b2.length + 1 + (txT kk nn ss kids).length ≤ 1073741824 := by have := congrArg List.length hstep; simp only [List.length_append, List.length_cons] at this; omega
        have hjp : (0 : Int) < j := by omega
        clear hstep hbl
        go_wp2_with (at_builtin; go_must (refine wpList_append_lies _ rfl _ _ _ rfl (mb + 1) 5 i0 _ 1 1 Tryd.underlying22 hi0 hz0 hz1 hz2 rfl (by omega) _ (b2).length (Lib.byteCells (b2)) rfl (HO.out.alloc _) ⟨wr.heap.size, 0, none⟩ 1 1 [.int .u8 44] rfl rfl (World.news_of_block (cs := #[.int .u8 44]) (t := 5) (fr := (0, 0)) (Blk.new wr 5 #[.int .u8 44])) (by simp [Value.oneCell']) (by omega) (by unfold maxLen; omega) (by omega) (by simp; omega) (wr.heap.size + 1) (by simp) ?_); intro g9 cap9 w9 hown9 hgrow9 _ _; have hst9 := TW.step1 (c := 44) HQ.out HO.out rfl hgrow9 hown9; have y9 := hst9.2.2.cell 0; have yf9 := hst9.2.2.frozen 0; simp only [List.getElem?_toArray, List.getElem?_cons_zero] at y9; have HS9 := Lib.hid (And.intro hst9.1 hst9.2.1); clear hown9 hgrow9 hst9; refine Hid.out ?_)
        refine Lib.hid ?_
        have HTF9 := HTF.out.trans HS9.out.2
        obtain ⟨tv9, hq9, ho9⟩ := HS9.out.1
        have C2 := HC.out kk nn d (.iface T0 x0) lo hi ob mb (b2 ++ [44]) _ HSH.out (HV.out.keep (fun p _ hp => HS9.out.2.1.cell (by have := HHI.out; omega)) (Nat.le_refl _) (Nat.le_refl _)) HHI.out HS9.out.1 (by simp only [List.length_append, List.length_cons, List.length_nil]; omega) (HT.out.on HTF9.1) HNK.out
        have z1 := hq9.cell 1
        simp only [List.getElem?_toArray, List.getElem?_cons_zero, List.getElem?_cons_succ] at z1
        unfold fW at z1
        have H2 := Lib.hid C2
        have HTF10 := Lib.hid HTF9
        clear C2 HTF9 hq9 ho9
        go_wp2_with fail
        refine H2.out.mono ?_
        rintro e w3 ⟨rfl, hw3, htf3⟩
        have HW3 := Lib.hid hw3
        have HTF3 := Lib.hid (HTF10.out.trans htf3)
        have HE3 : Hid ((b2 ++ [44] ++ txT kk nn ss kids) ++ remB (j + 1) (F.drop (j + 1)) = bs ++ remB 0 F) := Lib.hid (by rw [← HST.out]; simp)
        clear hw3 htf3
        go_wp2_with fail
        go_roundw
        case rel => exact ⟨j + 1, _, by omega, by go_num, HW3.out, HTF3.out, HE3.out⟩
        case measure => simp [intOf]; omega
    · obtain rfl : j = len := by omega
      have hfin : b2 = bs ++ remB 0 F := by
        have h1 := Fr.drop_len F
        rw [HN.out] at h1
        rw [← hb, h1, remB_nil, List.append_nil]
      have HFN : Hid (TW ob mb (bs ++ remB 0 F) wr ∧ TF mb w wr) := Lib.hid (by rw [← hfin]; exact ⟨hw, htf⟩)
      clear hw htf hb hfin
      go_wp2_with fail
      go_end0
      exact ⟨rfl, HFN.out⟩
end Go.Proofs.YtkgapidhoeegmaaDoor.wr

/- impl.termWriter.writeList of an opWriter. Condition: the nodes lie in memory below the writer and are well-formed; the table of powers of ten in its variable. -/
namespace Go.Proofs.YtkgapidhoeegmaaDoor.wr
open Go.RowKit

set_option maxRecDepth 100000 in
set_option maxHeartbeats 4000000 in
/-- termWriter.writeList. -/
theorem wlist_of (k n d : Int) (s : ByteArray) (f : Fr) (hp : pairB k s f.len = true) (hs : shapeT k n s f d = true) (h : ∀ s' f', f'.size < f.size → OwC s' f') (A : Option Addr) (cap lo hi ob mb : Nat) (bs : List UInt8) (w : World) (hr : PR w lo hi mb (fronts k s f) A cap)
    (k' n' : Int) (s' : ByteArray) (f' : Fr) (htl : tails k n s f = .cons k' n' s' f' .nil) (v : Value) (hv : NdV w lo hi k' n' s' f' v) (hh : hi ≤ mb) (hw : TW ob mb bs w) (hl : bs.length + (txT k n s f).length ≤ 1073741824) (ht : Pow10 ob mb w) (hnf : nodes (fronts k s f) ≤ 1048576) (hnt : nodes f' ≤ 1048576) :
    Calls Tryd.prog 48 #[.pointer (some ⟨mb, 0, none⟩), .slice A (fronts k s f).len cap, v] w fun e w' => e = .returned (.tuple #[]) ∧ TW ob mb (bs ++ txT k n s f) w' ∧ TF mb w w' := by
  obtain ⟨i0, hi0, hz0, hz1, hz2⟩ := info_parts infoU8
  obtain ⟨a1, a2, a3⟩ := fr_facts f.size k n s f d (Nat.le_refl _) hs
  obtain ⟨b1, _, b3⟩ := a3 k' n' s' f' htl
  have hb3 := b3 hp
  have hT := txT_rem hp htl
  rw [hT] at hl ⊢
  simp only [List.length_cons, List.length_append, List.length_nil] at hl
  have hm0 : mb < w.heap.size := by obtain ⟨_, hq, _⟩ := hw; exact hq.lt
  have C1 := fun wx (htf : TF mb w wx) (hw : TW ob mb (bs ++ [91]) wx) => parts_of (fronts k s f) (fun j k n s kids rest hd => h s kids (a2 j k n s kids rest hd)) d A cap lo hi ob mb (bs ++ [91]) wx a1 (hr.keep hh htf) hh hw (by simp only [List.length_append, List.length_cons, List.length_nil]; omega) (ht.on htf.1) hnf
  have C2 := fun wx (htf : TF mb w wx) => emptyList_any k' n' s' f' v lo hi wx (hv.keep (fun p _ hp => htf.1.cell (by omega)) (Nat.le_refl _) (Nat.le_refl _))
  have C3 := fun wx b2 (htf : TF mb w wx) (hw : TW ob mb b2 wx) (hl : b2.length + (txT k' n' s' f').length ≤ 1073741824) => h s' f' hb3 k' n' d v lo hi ob mb b2 wx b1 (hv.keep (fun p _ hp => htf.1.cell (by omega)) (Nat.le_refl _) (Nat.le_refl _)) hh hw hl (ht.on htf.1) hnt
  have HE : Hid (endB k' n' s' f' = if nilB k' s' f'.len = true then [] else 124 :: txT k' n' s' f') := Lib.hid rfl
  obtain ⟨T0, x0, rfl⟩ := hv.iface
  have H1 := Lib.hid C1
  have H3 := Lib.hid C3
  generalize remB 0 (fronts k s f) = RB at *
  generalize (fronts k s f).len = fl at *
  clear C1 C3 hp hs h hr hh ht hnf hnt a1 a2 a3 b1 b3 hb3 hT htl hv
  obtain ⟨tv0, hq0, ho0⟩ := hw
  obtain ⟨A0, c0, rfl, _, _⟩ := row_form ho0
  have p00 := hq0.cell 0
  have p10 := hq0.cell 1
  have pf0 := hq0.frozen 0
  simp only [List.getElem?_toArray, List.getElem?_cons_zero, List.getElem?_cons_succ] at p00 p10
  unfold fW at p10
  have hm0 := hq0.lt
  have HO0 := Lib.hid ho0
  have HQ0 := Lib.hid hq0
  clear hq0 ho0
  go_enter Tryd.func48, Tryd.ntmps48
  go_wp2_with (at_builtin; go_must (refine wpList_append_lies _ rfl _ _ _ rfl (mb + 1) 5 i0 _ 1 1 Tryd.underlying22 hi0 hz0 hz1 hz2 rfl (by omega) _ (bs).length (Lib.byteCells (bs)) rfl (HO0.out.alloc _) ⟨w.heap.size, 0, none⟩ 1 1 [.int .u8 91] rfl rfl (World.news_of_block (cs := #[.int .u8 91]) (t := 5) (fr := (0, 0)) (Blk.new w 5 #[.int .u8 91])) (by simp [Value.oneCell']) (by omega) (by unfold maxLen; omega) (by omega) (by simp; omega) (w.heap.size + 1) (by simp) ?_); intro g1 cap1 w1 hown1 hgrow1 _ _; have hst1 := TW.step1 (c := 91) HQ0.out HO0.out rfl hgrow1 hown1; have y1 := hst1.2.2.cell 0; have yf1 := hst1.2.2.frozen 0; simp only [List.getElem?_toArray, List.getElem?_cons_zero] at y1; have HS1 := Lib.hid (And.intro hst1.1 hst1.2.1); clear hown1 hgrow1 hst1; refine Hid.out ?_)
  refine Lib.hid ?_
  have HTF1 := Lib.hid HS1.out.2
  have hA1 := HS1.out.1
  have C4 := H1.out _ HTF1.out hA1
  have H4 := Lib.hid C4
  clear C4 hA1
  go_wp2_with fail
  refine H4.out.mono ?_
  rintro e w2 ⟨rfl, hw2, htf2⟩
  have HW2 := Lib.hid hw2
  have HTF2 := Lib.hid (HTF1.out.trans htf2)
  have C5 := C2 w2 HTF2.out
  have H5 := Lib.hid C5
  clear hw2 htf2 C5 C2
  go_wp2_with fail
  refine H5.out.mono ?_
  rintro e w3 ⟨rfl, hb3⟩
  have hmb2 : mb ≤ w2.heap.size := Nat.le_trans (Nat.le_of_lt hm0) HTF2.out.1.size
  have HW3 := Lib.hid (HW2.out.below hb3)
  have HTF3 := Lib.hid (HTF2.out.trans (TF.below hb3 hmb2))
  clear hb3
  cases hnil : nilB k' s' f'.len
  · have HEE : Hid (endB k' n' s' f' = 124 :: txT k' n' s' f') := Lib.hid (by rw [HE.out, hnil]; rfl)
    rw [HEE.out] at hl
    simp only [List.length_cons] at hl
    have hz3 : (bs ++ [91] ++ RB).length + (txT k' n' s' f').length + 1 ≤ 1073741824 := by simp only [List.length_append, List.length_cons, List.length_nil]; omega
    have hw3 := HW3.out
    generalize hB3 : bs ++ [91] ++ RB = B3 at *
    have HB3 := Lib.hid hB3
    clear hB3
    clear hnil
    obtain ⟨tv3, hq3, ho3⟩ := hw3
    obtain ⟨A3, c3, rfl, _, _⟩ := row_form ho3
    have p03 := hq3.cell 0
    have p13 := hq3.cell 1
    have pf3 := hq3.frozen 0
    simp only [List.getElem?_toArray, List.getElem?_cons_zero, List.getElem?_cons_succ] at p03 p13
    unfold fW at p13
    have hm3 := hq3.lt
    have HO3 := Lib.hid ho3
    have HQ3 := Lib.hid hq3
    clear hq3 ho3
    go_wp2_with (at_builtin; go_must (refine wpList_append_lies _ rfl _ _ _ rfl (mb + 1) 5 i0 _ 1 1 Tryd.underlying22 hi0 hz0 hz1 hz2 rfl (by omega) _ (B3).length (Lib.byteCells (B3)) rfl (HO3.out.alloc _) ⟨w3.heap.size, 0, none⟩ 1 1 [.int .u8 124] rfl rfl (World.news_of_block (cs := #[.int .u8 124]) (t := 5) (fr := (0, 0)) (Blk.new w3 5 #[.int .u8 124])) (by simp [Value.oneCell']) (by omega) (by unfold maxLen; omega) (by omega) (by simp; omega) (w3.heap.size + 1) (by simp) ?_); intro g4 cap4 w4 hown4 hgrow4 _ _; have hst4 := TW.step1 (c := 124) HQ3.out HO3.out rfl hgrow4 hown4; have y4 := hst4.2.2.cell 0; have yf4 := hst4.2.2.frozen 0; simp only [List.getElem?_toArray, List.getElem?_cons_zero] at y4; have HS4 := Lib.hid (And.intro hst4.1 hst4.2.1); clear hown4 hgrow4 hst4; refine Hid.out ?_)
    refine Lib.hid ?_
    have HTF4 := Lib.hid (HTF3.out.trans HS4.out.2)
    obtain ⟨tv5, hq5, _⟩ := HS4.out.1
    have p15 := hq5.cell 1
    simp only [List.getElem?_toArray, List.getElem?_cons_zero, List.getElem?_cons_succ] at p15
    unfold fW at p15
    have C6 := H3.out _ _ HTF4.out HS4.out.1 (by simp only [List.length_append, List.length_cons, List.length_nil]; omega)
    have H6 := Lib.hid C6
    clear C6 hq5
    go_wp2_with fail
    refine H6.out.mono ?_
    rintro e w6 ⟨rfl, hw6, htf6⟩
    have HTF6 := Lib.hid (HTF4.out.trans htf6)
    have hz6 : (B3 ++ [124] ++ txT k' n' s' f').length ≤ 1073741824 := by simp only [List.length_append, List.length_cons, List.length_nil]; omega
    clear htf6
    generalize hB6 : B3 ++ [124] ++ txT k' n' s' f' = B6 at *
    have HB6 := Lib.hid hB6
    clear hB6
    obtain ⟨tv6, hq6, ho6⟩ := hw6
    obtain ⟨A6, c6, rfl, _, _⟩ := row_form ho6
    have p06 := hq6.cell 0
    have p16 := hq6.cell 1
    have pf6 := hq6.frozen 0
    simp only [List.getElem?_toArray, List.getElem?_cons_zero, List.getElem?_cons_succ] at p06 p16
    unfold fW at p16
    have hm6 := hq6.lt
    have HO6 := Lib.hid ho6
    have HQ6 := Lib.hid hq6
    clear hq6 ho6
    go_wp2_with (at_builtin; go_must (refine wpList_append_lies _ rfl _ _ _ rfl (mb + 1) 5 i0 _ 1 1 Tryd.underlying22 hi0 hz0 hz1 hz2 rfl (by omega) _ (B6).length (Lib.byteCells (B6)) rfl (HO6.out.alloc _) ⟨w6.heap.size, 0, none⟩ 1 1 [.int .u8 93] rfl rfl (World.news_of_block (cs := #[.int .u8 93]) (t := 5) (fr := (0, 0)) (Blk.new w6 5 #[.int .u8 93])) (by simp [Value.oneCell']) (by omega) (by unfold maxLen; omega) (by omega) (by simp; omega) (w6.heap.size + 1) (by simp) ?_); intro g7 cap7 w7 hown7 hgrow7 _ _; have hst7 := TW.step1 (c := 93) HQ6.out HO6.out rfl hgrow7 hown7; have y7 := hst7.2.2.cell 0; have yf7 := hst7.2.2.frozen 0; simp only [List.getElem?_toArray, List.getElem?_cons_zero] at y7; have HS7 := Lib.hid (And.intro hst7.1 hst7.2.1); clear hown7 hgrow7 hst7; refine Hid.out ?_)
    refine Lib.hid ?_
    have HFN : Hid (TW ob mb (bs ++ 91 :: (RB ++ (endB k' n' s' f' ++ [93]))) _ ∧ TF mb w _) := Lib.hid ⟨by
      have e : B6 ++ [93] = bs ++ 91 :: (RB ++ (endB k' n' s' f' ++ [93])) := by rw [← HB6.out, ← HB3.out, HEE.out]; simp
      rw [← e]; exact HS7.out.1, HTF6.out.trans HS7.out.2⟩
    go_wp2_with fail
    go_end0
    exact ⟨rfl, HFN.out⟩
  · have HEE : Hid (endB k' n' s' f' = []) := Lib.hid (by rw [HE.out, hnil]; rfl)
    have hz3 : (bs ++ [91] ++ RB).length ≤ 1073741824 := by simp only [List.length_append, List.length_cons, List.length_nil]; omega
    have hw3 := HW3.out
    generalize hB3 : bs ++ [91] ++ RB = B3 at *
    have HB3 := Lib.hid hB3
    clear hB3
    clear hnil
    obtain ⟨tv8, hq8, ho8⟩ := hw3
    obtain ⟨A8, c8, rfl, _, _⟩ := row_form ho8
    have p08 := hq8.cell 0
    have p18 := hq8.cell 1
    have pf8 := hq8.frozen 0
    simp only [List.getElem?_toArray, List.getElem?_cons_zero, List.getElem?_cons_succ] at p08 p18
    unfold fW at p18
    have hm8 := hq8.lt
    have HO8 := Lib.hid ho8
    have HQ8 := Lib.hid hq8
    clear hq8 ho8
    go_wp2_with (at_builtin; go_must (refine wpList_append_lies _ rfl _ _ _ rfl (mb + 1) 5 i0 _ 1 1 Tryd.underlying22 hi0 hz0 hz1 hz2 rfl (by omega) _ (B3).length (Lib.byteCells (B3)) rfl (HO8.out.alloc _) ⟨w3.heap.size, 0, none⟩ 1 1 [.int .u8 93] rfl rfl (World.news_of_block (cs := #[.int .u8 93]) (t := 5) (fr := (0, 0)) (Blk.new w3 5 #[.int .u8 93])) (by simp [Value.oneCell']) (by omega) (by unfold maxLen; omega) (by omega) (by simp; omega) (w3.heap.size + 1) (by simp) ?_); intro g9 cap9 w9 hown9 hgrow9 _ _; have hst9 := TW.step1 (c := 93) HQ8.out HO8.out rfl hgrow9 hown9; have y9 := hst9.2.2.cell 0; have yf9 := hst9.2.2.frozen 0; simp only [List.getElem?_toArray, List.getElem?_cons_zero] at y9; have HS9 := Lib.hid (And.intro hst9.1 hst9.2.1); clear hown9 hgrow9 hst9; refine Hid.out ?_)
    refine Lib.hid ?_
    have HFN : Hid (TW ob mb (bs ++ 91 :: (RB ++ (endB k' n' s' f' ++ [93]))) _ ∧ TF mb w _) := Lib.hid ⟨by
      have e : B3 ++ [93] = bs ++ 91 :: (RB ++ (endB k' n' s' f' ++ [93])) := by rw [← HB3.out, HEE.out]; simp
      rw [← e]; exact HS9.out.1, HTF3.out.trans HS9.out.2⟩
    go_wp2_with fail
    go_end0
    exact ⟨rfl, HFN.out⟩
end Go.Proofs.YtkgapidhoeegmaaDoor.wr
