/- The model's texts with operators: spec.l2Text at every term; spec.WriteTerm. Condition: the term lies in memory. -/
import Derived.Test.YtmgfndgmebignaaDoorProg
import Derived.Test.YtmgfndgmebignaaDoorZmWR49
import Derived.Test.YtmgfndgmebignaaDoorZmWR51
import Derived.Test.YtmgfndgmebignaaDoorImplV
import Derived.Laws.EntriesVeiled
import Derived.Test.YtmgfndgmebignaaDoorTo
import Derived.Test.YtmgfndgmebignaaDoorOpen
import Derived.Deep.RegionHeld3
namespace Go.Proofs.YtmgfndgmebignaaDoor.wr
open Go.RowKit

set_option maxRecDepth 100000 in
set_option maxHeartbeats 4000000 in
/-- spec.l2Text of a structure with arguments. -/
theorem txt_str (n : Int) (s : ByteArray) (f : Fr) (hpf : pairB 3 s f.len = false) (hif : infB 3 s f.len = false) (hpos : 0 < f.len) (h : ∀ s' f', f'.size < f.size → TxC s' f') (A : Option Addr) (cap lo hi : Nat) (d : Int) (w : World) (hk : KidsAt w lo hi f A cap) (hh : hi ≤ w.heap.size) (hs : shapeT 3 n s f d = true) (hnd : nodes f ≤ 1048576) :
    Calls Tryd.prog 11 #[.agg #[.int .i64 3, .int .i64 n, .string s, .slice A f.len cap]] w fun e w' => e = .returned (.string ⟨(txT 3 n s f).toArray⟩) ∧ Below w.heap.size w w' := by
  have hGl := (txT_shape hs).1
  have hG2 : (txT 3 n s f).length ≤ 67108864 := by omega
  have hG : txT 3 n s f = s.data.toList ++ (40 :: (remB 0 f ++ [41])) := by rw [txT_str hpf hif, argsB_rem, if_neg (by omega)]
  rw [hG] at hG2
  simp only [List.length_append, List.length_cons] at hG2
  have hsz : s.data.toList.length = s.size := rfl
  rw [hG]
  have hb0 : Below w.heap.size w (w.alloc (.cells #[.int .i64 3, .int .i64 n, .string s, .slice A f.len cap] 29)) := (Below.refl _ _).alloc (Nat.le_refl _) _
  have hq0 := Blk.new w 29 #[.int .i64 3, .int .i64 n, .string s, .slice A f.len cap]
  obtain ⟨x0, x1, x2, x3⟩ := cells4i hq0
  have C1 := fun w1 => pair_any 3 n s A f.len cap w1
  have C2 := fun w1 => infix_any 3 n s A f.len cap w1
  have C3 := fun w1 (hb : Below w.heap.size w w1) => args_of f (fun j k n s kids rest hd => h s kids (by have h1 := Fr.size_drop j f; rw [hd] at h1; simp only [Fr.size] at h1; omega)) (d - 1) A cap lo hi w1 (hk.below hb hh) (Nat.le_trans hh hb.size) (shapeT_kids hs) hnd (by omega)
  rw [hpf] at C1
  rw [hif] at C2
  have HQ := Lib.hid hq0
  have HB0 := Lib.hid hb0
  have H1 := Lib.hid C1
  have H2 := Lib.hid C2
  have H3 := Lib.hid C3
  have HSTR := Lib.hid (str_args s (remB 0 f))
  have t0 : (0 : Int) < (f.len : Int) := by omega
  have t1 : ¬ 9223372036854775807 < s.size + 1 := by omega
  have t2 : ¬ 9223372036854775807 < s.size + 1 + (remB 0 f).length := by omega
  have t3 : ¬ 9223372036854775807 < s.size + 1 + (remB 0 f).length + 1 := by omega
  clear h C1 C2 C3 hk hs hnd hb0 hq0 hh hpf hif hG hGl hsz hpos
  generalize remB 0 f = RB at *
  generalize f.len = len at *
  have back : ∀ w2, Below (w.alloc (.cells #[.int .i64 3, .int .i64 n, .string s, .slice A len cap] 29)).heap.size (w.alloc (.cells #[.int .i64 3, .int .i64 n, .string s, .slice A len cap] 29)) w2 → Below w.heap.size w w2 ∧ Blk w2 w.heap.size 29 #[.int .i64 3, .int .i64 n, .string s, .slice A len cap] := fun w2 hb => ⟨HB0.out.trans (hb.mono HB0.out.size), HQ.out.below hb HQ.out.lt⟩
  have HBK := Lib.hid back
  clear back
  go_enter Tryd.func11, Tryd.ntmps11
  go_wp2_with fail
  refine (H1.out _).mono ?_
  rintro e w2 ⟨rfl, hb⟩
  obtain ⟨hbw, hq⟩ := HBK.out w2 hb
  clear x0 x1 x2 x3 hb
  obtain ⟨x0, x1, x2, x3⟩ := cells4i hq
  have HB2 := Lib.hid hbw
  have HQ2 := Lib.hid hq
  have hs2 := hq.lt
  clear hq hbw
  go_wp2_with fail
  refine (H2.out _).mono ?_
  rintro e w3 ⟨rfl, hb⟩
  have HB3 := Lib.hid (HB2.out.trans (hb.mono HB2.out.size))
  have hq := HQ2.out.below hb hs2
  have HQ3 := Lib.hid hq
  have hs3 := hq.lt
  clear x0 x1 x2 x3 hb
  obtain ⟨x0, x1, x2, x3⟩ := cells4i hq
  clear hq
  go_wp2_with fail
  go_region_held3 (fun w' => w'.cell? ⟨w.heap.size, 0, none⟩ = some (.int .i64 3) ∧ w'.cell? ⟨w.heap.size, 1, none⟩ = some (.int .i64 n) ∧ w'.cell? ⟨w.heap.size, 2, none⟩ = some (.string s) ∧ w'.cell? ⟨w.heap.size, 3, none⟩ = some (.slice A len cap))
    (first | exact ⟨z0, z1, z2, z3⟩ | exact ⟨x0, x1, x2, x3⟩)
    (first
      | (go_at_call 26
         refine (H3.out _ HB3.out.drew).mono ?_
         rintro e w5 ⟨rfl, hb5⟩
         have hd5 : Below w3.heap.size w3 w5 := (Below.refl w3.heap.size w3).drew.trans hb5
         obtain ⟨z0, z1, z2, z3⟩ := cells4i (HQ3.out.below hd5 hs3)
         have HB5 := Lib.hid (HB3.out.trans (hd5.mono HB3.out.size))
         clear hb5 hd5))
  go_wp2_with fail
  go_ret
  exact ⟨congrArg Ending.returned HSTR.out, HB5.out⟩

set_option maxRecDepth 100000 in
set_option maxHeartbeats 4000000 in
/-- spec.l2Text of a list. -/
theorem txt_list (n : Int) (s : ByteArray) (f : Fr) (hpf : pairB 3 s f.len = true) (h : ∀ s' f', f'.size < f.size → TxC s' f') (A : Option Addr) (cap lo hi : Nat) (d : Int) (w : World) (hk : KidsAt w lo hi f A cap) (hh : hi ≤ w.heap.size) (hs : shapeT 3 n s f d = true) (hnd : nodes f ≤ 1048576) :
    Calls Tryd.prog 11 #[.agg #[.int .i64 3, .int .i64 n, .string s, .slice A f.len cap]] w fun e w' => e = .returned (.string ⟨(txT 3 n s f).toArray⟩) ∧ Below w.heap.size w w' := by
  have hb0 : Below w.heap.size w (w.alloc (.cells #[.int .i64 3, .int .i64 n, .string s, .slice A f.len cap] 29)) := (Below.refl _ _).alloc (Nat.le_refl _) _
  have hq0 := Blk.new w 29 #[.int .i64 3, .int .i64 n, .string s, .slice A f.len cap]
  obtain ⟨x0, x1, x2, x3⟩ := cells4i hq0
  have hlo : lo ≤ w.heap.size := by
    obtain ⟨b, o, _, h1, h2, _⟩ := hk.2.2 (by have := (pairB_len hpf).1; omega)
    omega
  have C1 := fun w1 => pair_any 3 n s A f.len cap w1
  have C3 := fun w1 (hb : Below w.heap.size w w1) => list_of s f h 3 n A cap lo hi d w1 (hk.below hb hh) (Nat.le_trans hh hb.size) (Nat.le_trans hlo hb.size) hpf hs hnd
  rw [hpf] at C1
  have HQ := Lib.hid hq0
  have HB0 := Lib.hid hb0
  have H1 := Lib.hid C1
  have H3 := Lib.hid C3
  clear h C1 C3 hk hs hnd hb0 hq0 hh hpf hlo
  generalize txT 3 n s f = T at *
  generalize f.len = len at *
  have back : ∀ w2, Below (w.alloc (.cells #[.int .i64 3, .int .i64 n, .string s, .slice A len cap] 29)).heap.size (w.alloc (.cells #[.int .i64 3, .int .i64 n, .string s, .slice A len cap] 29)) w2 → Below w.heap.size w w2 ∧ Blk w2 w.heap.size 29 #[.int .i64 3, .int .i64 n, .string s, .slice A len cap] := fun w2 hb => ⟨HB0.out.trans (hb.mono HB0.out.size), HQ.out.below hb HQ.out.lt⟩
  have HBK := Lib.hid back
  clear back
  go_enter Tryd.func11, Tryd.ntmps11
  go_wp2_with fail
  refine (H1.out _).mono ?_
  rintro e w2 ⟨rfl, hb⟩
  obtain ⟨hbw, hq⟩ := HBK.out w2 hb
  clear x0 x1 x2 x3 hb
  obtain ⟨x0, x1, x2, x3⟩ := cells4i hq
  have HB2 := Lib.hid hbw
  clear hq hbw
  go_wp2_with fail
  refine (H3.out _ HB2.out).mono ?_
  rintro e w3 ⟨rfl, hb⟩
  have HB3 := Lib.hid (HB2.out.trans (hb.mono HB2.out.size))
  clear hb
  go_wp2_with fail
  go_ret
  exact ⟨rfl, HB3.out⟩

theorem txt_of (s : ByteArray) (f : Fr) (h : ∀ s' f', f'.size < f.size → TxC s' f') : TxC s f := by
  intro k n A cap lo hi d w hk hh hs hnd
  rcases shapeT_kind3 hs with ⟨rfl, _⟩ | ⟨rfl, _⟩ | rfl
  · exact txt_leaf 1 n s f (.inl rfl) A cap lo hi d w hk hh hs hnd
  · exact txt_leaf 2 n s f (.inr (.inl rfl)) A cap lo hi d w hk hh hs hnd
  · cases hp : pairB 3 s f.len
    · cases hi1 : infB 3 s f.len
      · by_cases h0 : f.len = 0
        · have hf : f = .nil := by
            cases f with
            | nil => rfl
            | cons _ _ _ _ _ => simp [Fr.len] at h0
          exact txt_leaf 3 n s f (.inr (.inr ⟨rfl, hf⟩)) A cap lo hi d w hk hh hs hnd
        · exact txt_str n s f hp hi1 (by omega) h A cap lo hi d w hk hh hs hnd
      · exact txt_inf n s f hp hi1 h A cap lo hi d w hk hh hs hnd
    · exact txt_list n s f hp h A cap lo hi d w hk hh hs hnd
theorem tx_all (N : Nat) : ∀ (s : ByteArray) (f : Fr), f.size ≤ N → TxC s f := by
  induction N with
  | zero => exact fun s f hf => txt_of s f fun s' f' h => by omega
  | succ N ih => exact fun s f hf => txt_of s f fun s' f' h => ih s' f' (by omega)

/-- What both WriteTerm answer. -/
def wrB (k n : Int) (s : ByteArray) (f : Fr) : List UInt8 := if validT k n s f = true then txT k n s f else []
set_option maxRecDepth 100000 in
/-- spec.WriteTerm. -/
theorem specWr_any (k n : Int) (s : ByteArray) (f : Fr) (A : Option Addr) (cap lo hi : Nat) (w : World) (hk : KidsAt w lo hi f A cap) (hh : hi ≤ w.heap.size) (hf : Fits k n s) (hnd : nodes f ≤ 1048576) :
    Calls Tryd.prog 5 #[.agg #[.int .i64 k, .int .i64 n, .string s, .slice A f.len cap]] w fun e w' => e = .returned (.string ⟨(wrB k n s f).toArray⟩) ∧ Below w.heap.size w w' := by
  have hb0 : Below w.heap.size w (w.alloc (.cells #[.int .i64 k, .int .i64 n, .string s, .slice A f.len cap] 29)) := (Below.refl _ _).alloc (Nat.le_refl _) _
  have hq0 := Blk.new w 29 #[.int .i64 k, .int .i64 n, .string s, .slice A f.len cap]
  obtain ⟨x0, x1, x2, x3⟩ : _ := (⟨hq0.cell 0, hq0.cell 1, hq0.cell 2, hq0.cell 3⟩ : _ ∧ _ ∧ _ ∧ _)
  simp only [List.getElem?_toArray, List.getElem?_cons_zero, List.getElem?_cons_succ] at x0 x1 x2 x3
  have C1 := specValid_any k n s f A cap lo hi _ (hk.below hb0 hh) (Nat.le_trans hh hb0.size) hf hnd
  have C2 := fun w1 (hb : Below w.heap.size w w1) (hs : shapeT k n s f 30 = true) => tx_all f.size s f (Nat.le_refl _) k n A cap lo hi 30 w1 (hk.below hb hh) (Nat.le_trans hh hb.size) hs hnd
  have HE : Hid (wrB k n s f = if validT k n s f = true then txT k n s f else []) := Lib.hid rfl
  have H2 := Lib.hid C2
  have HB0 := Lib.hid hb0
  have HQ0 := Lib.hid hq0
  clear C2 hk hf hnd hb0 hq0 hh
  generalize f.len = len at *
  cases hv : validT k n s f
  · have HV : Hid (wrB k n s f = []) := Lib.hid (by rw [HE.out, hv]; rfl)
    rw [hv] at C1
    have H1 := Lib.hid C1
    clear C1 hv
    go_enter Tryd.func5, Tryd.ntmps5
    go_wp2_with fail
    refine H1.out.mono ?_
    rintro e w2 ⟨rfl, hb⟩
    have HB2 := Lib.hid (HB0.out.trans (hb.mono HB0.out.size))
    clear hb
    go_wp2_with fail
    go_ret
    rw [HV.out]; exact ⟨rfl, HB2.out⟩
  · have HV : Hid (wrB k n s f = txT k n s f) := Lib.hid (by rw [HE.out, hv]; rfl)
    have HS : Hid (shapeT k n s f 30 = true) := Lib.hid (by unfold validT at hv; rw [Bool.and_eq_true] at hv; exact hv.1)
    rw [hv] at C1
    have H1 := Lib.hid C1
    clear C1 hv
    go_enter Tryd.func5, Tryd.ntmps5
    go_wp2_with fail
    refine H1.out.mono ?_
    rintro e w2 ⟨rfl, hb⟩
    have hq := HQ0.out.below hb HQ0.out.lt
    have HB2 := Lib.hid (HB0.out.trans (hb.mono HB0.out.size))
    clear x0 x1 x2 x3 hb
    obtain ⟨x0, x1, x2, x3⟩ : _ := (⟨hq.cell 0, hq.cell 1, hq.cell 2, hq.cell 3⟩ : _ ∧ _ ∧ _ ∧ _)
    simp only [List.getElem?_toArray, List.getElem?_cons_zero, List.getElem?_cons_succ] at x0 x1 x2 x3
    clear hq
    go_wp2_with fail
    refine (H2.out w2 HB2.out HS.out).mono ?_
    rintro e w3 ⟨rfl, hb⟩
    have HB3 := Lib.hid (HB2.out.trans (hb.mono HB2.out.size))
    clear hb
    go_wp2_with fail
    go_ret
    rw [HV.out]; exact ⟨rfl, HB3.out⟩
end Go.Proofs.YtmgfndgmebignaaDoor.wr

/- impl.newOpWriter, impl.WriteTerm. Condition: the term lies in memory, the tables of signs, of operators and of powers of ten in their variables. -/
namespace Go.Proofs.YtmgfndgmebignaaDoor.wr
open Go.RowKit

set_option maxRecDepth 100000 in
set_option maxHeartbeats 2000000 in
/-- impl.newOpWriter. -/
theorem newW_any (w : World) (ho : op.OpTab w) :
    Calls Tryd.prog 14 #[] w fun e w' => ∃ mb, e = .returned (.pointer (some ⟨mb, 0, none⟩)) ∧ w.heap.size < mb ∧ Blk w' mb 48 #[.slice none 0 0, fW mb, .map (some w.heap.size)] ∧ op.OpM w' w.heap.size ∧ Below w.heap.size w w' := by
  have C1 := op.table2_any w ho
  have H1 := Lib.hid C1
  have hmf : ∀ (fn : Fn) (first cap : Array Value) (w : World), (Instr.makeFunc fn first cap).run Tryd.prog w = .ok (.func fn first cap) w := fun _ _ _ _ => rfl
  clear C1 ho
  go_enter Tryd.func14, Tryd.ntmps14
  go_wp2_with fail
  refine H1.out.mono ?_
  rintro e w2 ⟨rfl, hm, hb⟩
  have hl2 : w.heap.size < w2.heap.size := World.ownsMap.lt hm
  have HM := Lib.hid hm
  have HB := Lib.hid hb
  clear hm hb
  go_wp2_with fail
  go_ret
  refine ⟨w2.heap.size, rfl, hl2, ?_, ?_, ?_⟩
  · first
      | exact Blk.new w2 _ _
      | (have h := (Blk.new w2 48 #[.slice none 0 0, .nilFunc, .map (some w.heap.size)]).set_ 1 (fW w2.heap.size)
         simpa using h)
  · first
      | exact HM.out.alloc _
      | exact OpM_keep (HM.out.alloc _) (((Below.refl _ _).setCell (Nat.le_refl _) _).mono (Nat.le_refl _)) hl2
  · first
      | exact HB.out.alloc HB.out.size _
      | exact (HB.out.alloc HB.out.size _).setCell HB.out.size _

set_option maxRecDepth 100000 in
set_option maxHeartbeats 2000000 in
/-- impl.WriteTerm. -/
theorem implWr_any (k n : Int) (s : ByteArray) (f : Fr) (A : Option Addr) (cap lo hi : Nat) (w : World) (hk : KidsAt w lo hi f A cap) (hh : hi ≤ w.heap.size) (hf : Fits k n s) (hnd : nodes f ≤ 1048576) (ht : nv.Tab w) (ho : op.OpTab w) (hp : Lib.TabIs Tryd.prog w "internal/strconv.uint64pow10" .u64 Lib.pow10Tab) :
    Calls Tryd.prog 7 #[.agg #[.int .i64 k, .int .i64 n, .string s, .slice A f.len cap]] w fun e w' => e = .returned (.string ⟨(wrB k n s f).toArray⟩) ∧ Below w.heap.size w w' := by
  have hb0 : Below w.heap.size w (w.alloc (.cells #[.int .i64 k, .int .i64 n, .string s, .slice A f.len cap] 29)) := (Below.refl _ _).alloc (Nat.le_refl _) _
  have C1 := nodeOf_any k n s f A cap lo hi _ (hk.below hb0 hh) (Nat.le_trans hh hb0.size) hf hnd (ht.below hb0)
  have HE : Hid (wrB k n s f = if validT k n s f = true then txT k n s f else []) := Lib.hid rfl
  have H1 := Lib.hid C1
  have HB0 := Lib.hid hb0
  have HP := Lib.hid (Lib.tabBelow_of_tabIs hp)
  have HO := Lib.hid ho
  have HND := Lib.hid hnd
  clear C1 hk hf hnd ht hb0 hp hh ho
  go_enter Tryd.func7, Tryd.ntmps7
  go_wp2_with fail
  refine H1.out.mono ?_
  rintro e w2 ⟨hb, hr⟩
  have hb2 := HB0.out.trans (hb.mono HB0.out.size)
  rcases hr with ⟨hok, v, rfl, hv⟩ | ⟨hok, rfl⟩
  · have hs : shapeT k n s f 30 = true := by unfold validT at hok; rw [Bool.and_eq_true] at hok; exact hok.1
    have HV : Hid (wrB k n s f = txT k n s f) := Lib.hid (by rw [HE.out, hok]; rfl)
    have hl := (txT_shape hs).1
    have hlt : (txT k n s f).length ≤ 1073741824 := by have := HND.out; omega
    have hpos := txT_ne hs
    have C2 := newW_any w2 (HO.out.below hb2)
    have C3 := fun (mb : Nat) (W : World) (hm : w2.heap.size < mb) (hq : Blk W mb 48 #[.slice none 0 0, fW mb, .map (some w2.heap.size)]) (hom : op.OpM W w2.heap.size) (hb : Below w2.heap.size w2 W) =>
      ow_all f.size s f (Nat.le_refl _) k n 30 v _ w2.heap.size w2.heap.size mb [] W hs (hv.keep (fun p _ hp => hb.cell hp) (Nat.le_refl _) (Nat.le_refl _)) (Nat.le_of_lt hm) ⟨_, hq, World.ownsRow_nil _ _ _ _⟩ (by simpa using hlt) ⟨fun w' hb' => HP.out w' ((hb2.trans (hb.mono hb2.size)).trans (hb'.mono (by have := hb2.size; omega))), hm, hom⟩ HND.out
    obtain ⟨T0, x0, rfl⟩ := hv.iface
    have H2 := Lib.hid C2
    have H3 := Lib.hid C3
    have HB2 := Lib.hid hb2
    have HPOS := Lib.hid hpos
    clear hok hs hl hv hb hb2 C2 C3 H1 hpos
    go_wp2_with fail
    refine H2.out.mono ?_
    rintro e w3 ⟨mb, rfl, hm, hq, hom, hb3⟩
    have C4 := H3.out mb w3 hm hq hom hb3
    have H4 := Lib.hid C4
    have HB3 := Lib.hid (HB2.out.trans (hb3.mono HB2.out.size))
    have hmw : w.heap.size ≤ mb := by have := HB2.out.size; omega
    clear hm hq hom hb3 C4
    go_wp2_with fail
    refine H4.out.mono ?_
    rintro e w4 ⟨rfl, hw4, htf4⟩
    obtain ⟨tv, hq4, ho4⟩ := hw4
    rw [List.nil_append] at ho4
    have HFB : Hid (Below w.heap.size w w4) := Lib.hid (HB3.out.trans (htf4.1.mono hmw))
    have y0 := hq4.cell 0
    simp only [List.getElem?_toArray, List.getElem?_cons_zero] at y0
    clear hq4 htf4
    generalize txT k n s f = L at *
    rcases ho4.2 with ⟨rfl, h0⟩ | ⟨g, cap4, cur, rfl, _⟩
    · exact absurd h0 (by have := HPOS.out; omega)
    · have hcv := run_convert_bytes_back (P := Tryd.prog) w4 43 9 5 ⟨g, 0, none⟩ cap4 L Tryd.underlying43 Tryd.underlying5 Tryd.underlying9 (fun j hj => ho4.cells (g := g) rfl j _ (by simp [Lib.byteCells, hj]))
      clear ho4
      go_wp2_with fail
      go_ret
      rw [HV.out]; exact ⟨rfl, HFB.out⟩
  · have HV : Hid (wrB k n s f = []) := Lib.hid (by rw [HE.out, hok]; rfl)
    have HB2 := Lib.hid hb2
    clear hok hb hb2
    go_wp2_with fail
    go_ret
    rw [HV.out]; exact ⟨rfl, HB2.out⟩
end Go.Proofs.YtmgfndgmebignaaDoor.wr

/- What every law's walk shares. No condition. -/
namespace Go.Proofs.YtmgfndgmebignaaDoor
open Go.RowKit

theorem nodes_le_wt (f : Fr) : nodes f ≤ f.len + wt f := by
  induction f with
  | nil => exact Nat.le_refl _
  | cons k n s kids rest h1 h2 => simp only [nodes, Fr.len, wt]; omega
theorem kids_of_made {w w' : World} {f : Fr} {A : Option Addr} {cap : Nat} (h : Made w f A cap w') : KidsAt w' w.heap.size w'.heap.size f A cap ∧ Below w.heap.size w w' := by
  obtain ⟨L, ho, _, hL, hb⟩ := h
  exact ⟨ho.kids hL, hb⟩

end Go.Proofs.YtmgfndgmebignaaDoor

/- The law FnExactWriteTerm, walked. Condition: the argument lies in memory, the tables of signs, of operators and of powers of ten in their variables. -/
namespace Go.Proofs.YtmgfndgmebignaaDoor
open Go.RowKit

set_option maxRecDepth 100000 in
set_option maxHeartbeats 4000000 in
theorem lawWr_any (k n : Int) (s : ByteArray) (f : Fr) (A : Option Addr) (cap : Nat) (w : World) (hk : KidsAt w 0 w.heap.size f A cap) (hf : Fits k n s) (ht : nv.Tab w) (ho : op.OpTab w) (hp : Lib.TabIs Tryd.prog w "internal/strconv.uint64pow10" .u64 Lib.pow10Tab) :
    Calls Tryd.prog 3 #[.agg #[.int .i64 k, .int .i64 n, .string s, .slice A f.len cap]] w fun e w' => e = .returned (.bool true) ∧ Below w.heap.size w w' := by
  have hlt := tab_lt ht
  have C1 := fun w1 (hb : Below w.heap.size w w1) => szT_any s f k n A cap 0 w.heap.size 1048576 w1 (hk.below hb (Nat.le_refl _)) hb.size hf (by omega) (by omega)
  have hr := szT_range s f 1048576 (by omega)
  generalize szT s f 1048576 = r at *
  have H1 := Lib.hid C1
  have HK := Lib.hid hk
  have HT := Lib.hid ht
  have HO := Lib.hid ho
  have HPT := Lib.hid (Lib.tabBelow_of_tabIs hp)
  have HF := Lib.hid hf
  have r1 := hr.1
  have r2 := hr.2.1
  clear C1 hk ht hf hp ho
  have hb1 : ∀ o, Below w.heap.size w (w.alloc o) := fun o => (Below.refl _ _).alloc (Nat.le_refl _) _
  have HB1 := Lib.hid hb1
  clear hb1
  by_cases hneg : r < 0
  · clear hr
    go_enter Tryd.func3, Tryd.ntmps3
    go_wp2_with fail
    refine (H1.out _ (HB1.out _)).mono ?_
    rintro e w2 ⟨rfl, hb⟩
    have HB := Lib.hid hb
    clear hb
    go_wp2_with fail
    go_ret
    exact ⟨rfl, (HB1.out _).trans (HB.out.mono (by simp))⟩
  · have hwt : s.size + f.len + wt f ≤ 1048576 := by have := hr.2.2 (by omega); omega
    have hnd : nodes f ≤ 1048576 := by have := nodes_le_wt f; omega
    have CT := fun w1 (hb : Below w.heap.size w w1) => toT_any k n s f A cap 0 w.heap.size w1 (HK.out.below hb (Nat.le_refl _)) hb.size (by omega)
    have CS := fun w1 A1 cap1 lo hi (hk : KidsAt w1 lo hi f A1 cap1) hh => wr.specWr_any k n s f A1 cap1 lo hi w1 hk hh HF.out hnd
    have CI := fun w1 A1 cap1 lo hi (hk : KidsAt w1 lo hi f A1 cap1) hh (ht : nv.Tab w1) (ho : op.OpTab w1) (hp : Lib.TabIs Tryd.prog w1 "internal/strconv.uint64pow10" .u64 Lib.pow10Tab) => wr.implWr_any k n s f A1 cap1 lo hi w1 hk hh HF.out hnd ht ho hp
    have CE := fun w1 A1 cap1 lo hi A2 cap2 lo2 hi2 (hk : KidsAt w1 lo hi f A1 cap1) hh (hk2 : KidsAt w1 lo2 hi2 f A2 cap2) hh2 => eqT_any s f s f k n k n A1 A2 cap1 cap2 lo hi lo2 hi2 w1 hk hk2 hh hh2
    rw [eqT_refl] at CE
    generalize hv : (⟨(wr.wrB k n s f).toArray⟩ : ByteArray) = v at *
    have HT' := Lib.hid CT
    have HS := Lib.hid CS
    have HI := Lib.hid CI
    have HE := Lib.hid CE
    clear CT CS CI CE hr hwt hnd hv
    go_enter Tryd.func3, Tryd.ntmps3
    go_wp2_with fail
    refine (H1.out _ (HB1.out _)).mono ?_
    rintro e w2 ⟨rfl, hb⟩
    have hq := (Blk.new w 24 #[.int .i64 k, .int .i64 n, .string s, .slice A f.len cap]).below hb (by simp)
    have hb2 : Below w.heap.size w w2 := (HB1.out _).trans (hb.mono (by simp))
    have hsz2 : w.heap.size < w2.heap.size := by have := hb.size; simp at this; omega
    obtain ⟨a0, a1, a2, a3⟩ := cells4 hq
    have HQ := Lib.hid hq
    have HB2 := Lib.hid hb2
    clear hb hq hb2
    go_wp2_with fail
    refine (HT'.out _ HB2.out).mono ?_
    rintro e w3 ⟨A1, cap1, rfl, hm⟩
    have hm1 := kids_of_made hm
    have HM1 := Lib.hid hm1
    clear hm hm1 a0 a1 a2 a3
    go_wp2_with fail
    refine (HS.out _ _ _ _ _ HM1.out.1 (Nat.le_refl _)).mono ?_
    rintro e w4 ⟨rfl, hb4⟩
    have hb4' := HM1.out.2.trans (hb4.mono HM1.out.2.size)
    have hb4w : Below w.heap.size w w4 := HB2.out.trans (hb4'.mono (by omega))
    have hq4 := HQ.out.below hb4' hsz2
    obtain ⟨a0, a1, a2, a3⟩ := cells4 hq4
    have HQ4 := Lib.hid hq4
    have HB4 := Lib.hid hb4w
    have hsz4 : w.heap.size < w4.heap.size := by have := hb4'.size; omega
    clear hb4 hb4' hb4w hq4 HM1 HQ HB2
    go_wp2_with fail
    refine (HT'.out _ HB4.out).mono ?_
    rintro e w5 ⟨A2, cap2, rfl, hm⟩
    have hm2 := kids_of_made hm
    have hb5 : Below w.heap.size w w5 := HB4.out.trans (hm2.2.mono (by omega))
    have hq5 := HQ4.out.below hm2.2 hsz4
    have hsz5 : w.heap.size < w5.heap.size := by have := hm2.2.size; omega
    have HQ5 := Lib.hid hq5
    have HB5 := Lib.hid hb5
    have HK5 := Lib.hid hm2.1
    clear hm hm2 hb5 hq5 a0 a1 a2 a3 HQ4 HB4
    go_wp2_with fail
    refine (HI.out _ _ _ _ _ (HK5.out.below ((Below.refl _ _).alloc (Nat.le_refl _) _) (Nat.le_refl _)) (by simp) (tab_below HT.out (HB5.out.trans (((Below.refl _ _).alloc (Nat.le_refl _) _).mono (Nat.le_of_lt hsz5))) hlt) (HO.out.below (HB5.out.trans (((Below.refl _ _).alloc (Nat.le_refl _) _).mono (Nat.le_of_lt hsz5)))) (HPT.out _ (HB5.out.trans (((Below.refl _ _).alloc (Nat.le_refl _) _).mono (Nat.le_of_lt hsz5))))).mono ?_
    rintro e w6 ⟨rfl, hb6⟩
    have hq6 := (Blk.new w5 29 #[.int .i64 k, .int .i64 n, .string s, .slice A2 f.len cap2]).below hb6 (by simp)
    have hb56 : Below w5.heap.size w5 w6 := ((Below.refl _ _).alloc (Nat.le_refl _) _).trans (hb6.mono (by simp))
    have hp6 := HQ5.out.below hb56 hsz5
    have hk6 := HK5.out.below hb56 (Nat.le_refl _)
    have hbw6 : Below w.heap.size w w6 := HB5.out.trans (hb56.mono (by omega))
    have hsz6 : w5.heap.size < w6.heap.size := by have := hb6.size; simp at this; omega
    obtain ⟨a0, a1, a2, a3⟩ := cells4 hp6
    obtain ⟨x0, x1, x2, x3⟩ := cells4 hq6
    have HK6 := Lib.hid hk6
    have HB6 := Lib.hid hbw6
    have HQ6 := Lib.hid hq6
    have HP6 := Lib.hid hp6
    have HS6 := Lib.hid hb56.size
    clear hb6 hq6 hb56 hp6 hk6 hbw6
    have tv : (v.toList != v.toList) = false := by simp
    have hal := HS6.out
    go_wp2_with fail
    go_region_held3 (fun w' => w'.cell? ⟨w5.heap.size, 0, none⟩ = some (.int .i64 k) ∧ w'.cell? ⟨w5.heap.size, 1, none⟩ = some (.int .i64 n) ∧ w'.cell? ⟨w5.heap.size, 2, none⟩ = some (.string s) ∧ w'.cell? ⟨w5.heap.size, 3, none⟩ = some (.slice A2 f.len cap2) ∧
        w'.cell? ⟨w.heap.size, 0, none⟩ = some (.int .i64 k) ∧ w'.cell? ⟨w.heap.size, 1, none⟩ = some (.int .i64 n) ∧ w'.cell? ⟨w.heap.size, 2, none⟩ = some (.string s) ∧ w'.cell? ⟨w.heap.size, 3, none⟩ = some (.slice A f.len cap))
      (first | exact ⟨z0, z1, z2, z3, z4, z5, z6, z7⟩ | exact ⟨y0, y1, y2, y3, y4, y5, y6, y7⟩ | exact ⟨x0, x1, x2, x3, a0, a1, a2, a3⟩)
      (first
        | (go_at_call 6
           refine (HT'.out _ HB6.out.drew).mono ?_
           rintro e w7 ⟨A3, cap3, rfl, hm⟩
           have hm7 := kids_of_made hm
           have hd7 : Below w6.heap.size w6 w7 := (Below.refl w6.heap.size w6).drew.trans hm7.2
           obtain ⟨y0, y1, y2, y3⟩ := cells4 (HQ6.out.below hd7 hsz6)
           obtain ⟨y4, y5, y6, y7⟩ := cells4 (HP6.out.below hd7 (by omega))
           have hk7 := HK6.out.below hd7 HS6.out
           have hs7 : w6.heap.size ≤ w7.heap.size := hd7.size
           have hb7 : Below w.heap.size w w7 := HB6.out.trans (hd7.mono (by omega))
           have HM7 := Lib.hid hm7
           have HK7 := Lib.hid hk7
           have HB7 := Lib.hid hb7
           clear hm hm7 hk7 hb7 hd7)
        | (go_at_call 8
           refine (HE.out _ _ _ _ _ _ _ _ _ HK7.out (by omega) HM7.out.1 (Nat.le_refl _)).mono ?_
           rintro e w8 ⟨rfl, hb8⟩
           have HB8 := Lib.hid hb8
           have z0 := (hb8.cell (p := ⟨w5.heap.size, 0, none⟩) (by simp only; omega)).trans y0
           have z1 := (hb8.cell (p := ⟨w5.heap.size, 1, none⟩) (by simp only; omega)).trans y1
           have z2 := (hb8.cell (p := ⟨w5.heap.size, 2, none⟩) (by simp only; omega)).trans y2
           have z3 := (hb8.cell (p := ⟨w5.heap.size, 3, none⟩) (by simp only; omega)).trans y3
           have z4 := (hb8.cell (p := ⟨w.heap.size, 0, none⟩) (by simp only; omega)).trans y4
           have z5 := (hb8.cell (p := ⟨w.heap.size, 1, none⟩) (by simp only; omega)).trans y5
           have z6 := (hb8.cell (p := ⟨w.heap.size, 2, none⟩) (by simp only; omega)).trans y6
           have z7 := (hb8.cell (p := ⟨w.heap.size, 3, none⟩) (by simp only; omega)).trans y7
           clear hb8))
    go_wp2_with fail
    go_ret
    exact ⟨rfl, HB7.out.trans (HB8.out.mono HB7.out.size)⟩
end Go.Proofs.YtmgfndgmebignaaDoor
