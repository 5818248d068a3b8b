/- The model's texts with operators: spec.l2Text at every term; spec.WriteTerm. Condition: the term lies in memory. -/
import Derived.Test.YtohkpgpcipjpkaaGreatDoorProg
import Derived.Test.YtohkpgpcipjpkaaGreatDoorZmFA47
import Derived.Test.YtohkpgpcipjpkaaGreatDoorZmFA46
import Derived.Test.YtohkpgpcipjpkaaGreatDoorZmFA44
import Derived.Deep.RegionHeld3
import Derived.OwnWalk
import Derived.Test.YtohkpgpcipjpkaaGreatDoorTermOf
namespace Go.Proofs.YtohkpgpcipjpkaaGreatDoor.wr
open Go.RowKit

set_option maxRecDepth 100000 in
set_option maxHeartbeats 4000000 in
/-- spec.l2Text of a structure with arguments. -/
theorem txt_str (n : Int) (s : ByteArray) (f : Fr) (hpf : pairB 3 s f.len = false) (hif : infB 3 s f.len = false) (hpos : 0 < f.len) (h : ∀ s' f', f'.size < f.size → TxC s' f') (A : Option Addr) (cap lo hi : Nat) (d : Int) (w : World) (hk : KidsAt w lo hi f A cap) (hh : hi ≤ w.heap.size) (hs : shapeT 3 n s f d = true) (hnd : nodes f ≤ 1048576) :
    Calls Tryz.prog 27 #[.agg #[.int .i64 3, .int .i64 n, .string s, .slice A f.len cap]] w fun e w' => e = .returned (.string ⟨(txT 3 n s f).toArray⟩) ∧ Below w.heap.size w w' := by
  have hGl := (txT_shape hs).1
  have hG2 : (txT 3 n s f).length ≤ 67108864 := by omega
  have hG : txT 3 n s f = s.data.toList ++ (40 :: (remB 0 f ++ [41])) := by rw [txT_str hpf hif, argsB_rem, if_neg (by omega)]
  rw [hG] at hG2
  simp only [List.length_append, List.length_cons] at hG2
  have hsz : s.data.toList.length = s.size := rfl
  rw [hG]
  have hb0 : Below w.heap.size w (w.alloc (.cells #[.int .i64 3, .int .i64 n, .string s, .slice A f.len cap] 44)) := (Below.refl _ _).alloc (Nat.le_refl _) _
  have hq0 := Blk.new w 44 #[.int .i64 3, .int .i64 n, .string s, .slice A f.len cap]
  obtain ⟨x0, x1, x2, x3⟩ := cells4i hq0
  have C1 := fun w1 => pair_any 3 n s A f.len cap w1
  have C2 := fun w1 => infix_any 3 n s A f.len cap w1
  have C3 := fun w1 (hb : Below w.heap.size w w1) => args_of f (fun j k n s kids rest hd => h s kids (by have h1 := Fr.size_drop j f; rw [hd] at h1; simp only [Fr.size] at h1; omega)) (d - 1) A cap lo hi w1 (hk.below hb hh) (Nat.le_trans hh hb.size) (shapeT_kids hs) hnd (by omega)
  rw [hpf] at C1
  rw [hif] at C2
  have HQ := Lib.hid hq0
  have HB0 := Lib.hid hb0
  have H1 := Lib.hid C1
  have H2 := Lib.hid C2
  have H3 := Lib.hid C3
  have HSTR := Lib.hid (str_args s (remB 0 f))
  have t0 : (0 : Int) < (f.len : Int) := by omega
  have t1 : ¬ 9223372036854775807 < s.size + 1 := by omega
  have t2 : ¬ 9223372036854775807 < s.size + 1 + (remB 0 f).length := by omega
  have t3 : ¬ 9223372036854775807 < s.size + 1 + (remB 0 f).length + 1 := by omega
  clear h C1 C2 C3 hk hs hnd hb0 hq0 hh hpf hif hG hGl hsz hpos
  generalize remB 0 f = RB at *
  generalize f.len = len at *
  have back : ∀ w2, Below (w.alloc (.cells #[.int .i64 3, .int .i64 n, .string s, .slice A len cap] 44)).heap.size (w.alloc (.cells #[.int .i64 3, .int .i64 n, .string s, .slice A len cap] 44)) w2 → Below w.heap.size w w2 ∧ Blk w2 w.heap.size 44 #[.int .i64 3, .int .i64 n, .string s, .slice A len cap] := fun w2 hb => ⟨HB0.out.trans (hb.mono HB0.out.size), HQ.out.below hb HQ.out.lt⟩
  have HBK := Lib.hid back
  clear back
  go_enter Tryz.func27, Tryz.ntmps27
  go_wp2_with fail
  refine (H1.out _).mono ?_
  rintro e w2 ⟨rfl, hb⟩
  obtain ⟨hbw, hq⟩ := HBK.out w2 hb
  clear x0 x1 x2 x3 hb
  obtain ⟨x0, x1, x2, x3⟩ := cells4i hq
  have HB2 := Lib.hid hbw
  have HQ2 := Lib.hid hq
  have hs2 := hq.lt
  clear hq hbw
  go_wp2_with fail
  refine (H2.out _).mono ?_
  rintro e w3 ⟨rfl, hb⟩
  have HB3 := Lib.hid (HB2.out.trans (hb.mono HB2.out.size))
  have hq := HQ2.out.below hb hs2
  have HQ3 := Lib.hid hq
  have hs3 := hq.lt
  clear x0 x1 x2 x3 hb
  obtain ⟨x0, x1, x2, x3⟩ := cells4i hq
  clear hq
  go_wp2_with fail
  go_region_held3 (fun w' => w'.cell? ⟨w.heap.size, 0, none⟩ = some (.int .i64 3) ∧ w'.cell? ⟨w.heap.size, 1, none⟩ = some (.int .i64 n) ∧ w'.cell? ⟨w.heap.size, 2, none⟩ = some (.string s) ∧ w'.cell? ⟨w.heap.size, 3, none⟩ = some (.slice A len cap))
    (first | exact ⟨z0, z1, z2, z3⟩ | exact ⟨x0, x1, x2, x3⟩)
    (first
      | (go_at_call 50
         refine (H3.out _ HB3.out.drew).mono ?_
         rintro e w5 ⟨rfl, hb5⟩
         have hd5 : Below w3.heap.size w3 w5 := (Below.refl w3.heap.size w3).drew.trans hb5
         obtain ⟨z0, z1, z2, z3⟩ := cells4i (HQ3.out.below hd5 hs3)
         have HB5 := Lib.hid (HB3.out.trans (hd5.mono HB3.out.size))
         clear hb5 hd5))
  go_wp2_with fail
  go_ret
  exact ⟨congrArg Ending.returned HSTR.out, HB5.out⟩

set_option maxRecDepth 100000 in
set_option maxHeartbeats 4000000 in
/-- spec.l2Text of a list. -/
theorem txt_list (n : Int) (s : ByteArray) (f : Fr) (hpf : pairB 3 s f.len = true) (h : ∀ s' f', f'.size < f.size → TxC s' f') (A : Option Addr) (cap lo hi : Nat) (d : Int) (w : World) (hk : KidsAt w lo hi f A cap) (hh : hi ≤ w.heap.size) (hs : shapeT 3 n s f d = true) (hnd : nodes f ≤ 1048576) :
    Calls Tryz.prog 27 #[.agg #[.int .i64 3, .int .i64 n, .string s, .slice A f.len cap]] w fun e w' => e = .returned (.string ⟨(txT 3 n s f).toArray⟩) ∧ Below w.heap.size w w' := by
  have hb0 : Below w.heap.size w (w.alloc (.cells #[.int .i64 3, .int .i64 n, .string s, .slice A f.len cap] 44)) := (Below.refl _ _).alloc (Nat.le_refl _) _
  have hq0 := Blk.new w 44 #[.int .i64 3, .int .i64 n, .string s, .slice A f.len cap]
  obtain ⟨x0, x1, x2, x3⟩ := cells4i hq0
  have hlo : lo ≤ w.heap.size := by
    obtain ⟨b, o, _, h1, h2, _⟩ := hk.2.2 (by have := (pairB_len hpf).1; omega)
    omega
  have C1 := fun w1 => pair_any 3 n s A f.len cap w1
  have C3 := fun w1 (hb : Below w.heap.size w w1) => list_of s f h 3 n A cap lo hi d w1 (hk.below hb hh) (Nat.le_trans hh hb.size) (Nat.le_trans hlo hb.size) hpf hs hnd
  rw [hpf] at C1
  have HQ := Lib.hid hq0
  have HB0 := Lib.hid hb0
  have H1 := Lib.hid C1
  have H3 := Lib.hid C3
  clear h C1 C3 hk hs hnd hb0 hq0 hh hpf hlo
  generalize txT 3 n s f = T at *
  generalize f.len = len at *
  have back : ∀ w2, Below (w.alloc (.cells #[.int .i64 3, .int .i64 n, .string s, .slice A len cap] 44)).heap.size (w.alloc (.cells #[.int .i64 3, .int .i64 n, .string s, .slice A len cap] 44)) w2 → Below w.heap.size w w2 ∧ Blk w2 w.heap.size 44 #[.int .i64 3, .int .i64 n, .string s, .slice A len cap] := fun w2 hb => ⟨HB0.out.trans (hb.mono HB0.out.size), HQ.out.below hb HQ.out.lt⟩
  have HBK := Lib.hid back
  clear back
  go_enter Tryz.func27, Tryz.ntmps27
  go_wp2_with fail
  refine (H1.out _).mono ?_
  rintro e w2 ⟨rfl, hb⟩
  obtain ⟨hbw, hq⟩ := HBK.out w2 hb
  clear x0 x1 x2 x3 hb
  obtain ⟨x0, x1, x2, x3⟩ := cells4i hq
  have HB2 := Lib.hid hbw
  clear hq hbw
  go_wp2_with fail
  refine (H3.out _ HB2.out).mono ?_
  rintro e w3 ⟨rfl, hb⟩
  have HB3 := Lib.hid (HB2.out.trans (hb.mono HB2.out.size))
  clear hb
  go_wp2_with fail
  go_ret
  exact ⟨rfl, HB3.out⟩

theorem txt_of (s : ByteArray) (f : Fr) (h : ∀ s' f', f'.size < f.size → TxC s' f') : TxC s f := by
  intro k n A cap lo hi d w hk hh hs hnd
  rcases shapeT_kind3 hs with ⟨rfl, _⟩ | ⟨rfl, _⟩ | rfl
  · exact txt_leaf 1 n s f (.inl rfl) A cap lo hi d w hk hh hs hnd
  · exact txt_leaf 2 n s f (.inr (.inl rfl)) A cap lo hi d w hk hh hs hnd
  · cases hp : pairB 3 s f.len
    · cases hi1 : infB 3 s f.len
      · by_cases h0 : f.len = 0
        · have hf : f = .nil := by
            cases f with
            | nil => rfl
            | cons _ _ _ _ _ => simp [Fr.len] at h0
          exact txt_leaf 3 n s f (.inr (.inr ⟨rfl, hf⟩)) A cap lo hi d w hk hh hs hnd
        · exact txt_str n s f hp hi1 (by omega) h A cap lo hi d w hk hh hs hnd
      · exact txt_inf n s f hp hi1 h A cap lo hi d w hk hh hs hnd
    · exact txt_list n s f hp h A cap lo hi d w hk hh hs hnd
theorem tx_all (N : Nat) : ∀ (s : ByteArray) (f : Fr), f.size ≤ N → TxC s f := by
  induction N with
  | zero => exact fun s f hf => txt_of s f fun s' f' h => by omega
  | succ N ih => exact fun s f hf => txt_of s f fun s' f' h => ih s' f' (by omega)

/-- What both WriteTerm answer. -/
def wrB (k n : Int) (s : ByteArray) (f : Fr) : List UInt8 := if validT k n s f = true then txT k n s f else []
end Go.Proofs.YtohkpgpcipjpkaaGreatDoor.wr

/- spec.l6Text, spec.FormatAnswer. Condition: the query and the answer's values lie in memory. -/
namespace Go.Proofs.YtohkpgpcipjpkaaGreatDoor.wr
open Go.RowKit

set_option maxRecDepth 100000 in
set_option maxHeartbeats 8000000 in
/-- spec.l6Text. -/
theorem l6Text_any (vs : List Int) (g : Fr) (Av B : Option Addr) (capV capB lo hi : Nat) (w : World) (hv : 0 < vs.length → ∃ gv, Av = some ⟨gv, 0, none⟩ ∧ gv < w.heap.size ∧ ∀ j, j < vs.length → w.cell? ⟨gv, j, none⟩ = some (.int .i64 (vs.getD j 0))) (hr : ∀ j, j < vs.length → 0 ≤ vs.getD j 0 ∧ vs.getD j 0 ≤ 25) (hk : KidsAt w lo hi g B capB) (hh : hi ≤ w.heap.size) (hall : allB g = true) (hl : vs.length = g.len) (h7 : vs.length ≤ 720) :
    Calls Tryz.prog 16 #[.slice Av vs.length capV, .agg #[.slice B g.len capB]] w fun e w' => e = .returned (.string ⟨(anT vs g).toArray⟩) ∧ Below w.heap.size w w' := by
  have hlb := anB_len g 0 vs hall
  rw [← hl] at hlb
  rw [← hl]
  have HAT : Hid (anT vs g = if vs.length = 0 then [121, 101, 115] else anB 0 vs g) := Lib.hid rfl
  have hb0 : Below w.heap.size w (w.alloc (.cells #[.slice B vs.length capB] 31)) := (Below.refl _ _).alloc (Nat.le_refl _) _
  have hq0 := Blk.new w 31 #[.slice B vs.length capB]
  have HV := Lib.hid hv
  have HR := Lib.hid hr
  have HK := Lib.hid hk
  have HHI := Lib.hid hh
  have HALL := Lib.hid hall
  have HB0 := Lib.hid hb0
  have HQ0 := Lib.hid hq0
  have HL := Lib.hid hl
  clear hv hr hk hh hall hb0 hq0 hl
  generalize anT vs g = R at *
  generalize hn : vs.length = len at *
  have HN := Lib.hid hn
  clear hn
  by_cases h0 : len = 0
  · subst h0
    have HW : Hid (R = [121, 101, 115]) := Lib.hid (by rw [HAT.out, if_pos rfl])
    go_enter Tryz.func16, Tryz.ntmps16
    go_wp2_with fail
    go_ret
    rw [HW.out]; exact ⟨rfl, HB0.out⟩
  · have HW : Hid (R = anB 0 vs g) := Lib.hid (by rw [HAT.out, if_neg h0])
    have hne : ((len : Int) == 0) = false := by rw [beq_eq_false_iff_ne]; omega
    go_enter Tryz.func16, Tryz.ntmps16
    go_wp2_with fail
    generalize hw1 : w.alloc (.cells #[.slice B len capB] 31) = w1 at *
    clear hw1
    go_loopw [5, 6] (fun ov i wr => ∃ (j : Nat) (L : List UInt8), j ≤ len ∧ i = .int .i64 j ∧ ov = .string ⟨L.toArray⟩ ∧ L ++ anB j (vs.drop j) (g.drop j) = anB 0 vs g ∧ Below w1.heap.size w1 wr) (fun _ i _ => len - (intOf i).toNat)
    case atStart => exact ⟨0, [], Nat.zero_le _, rfl, rfl, rfl, Below.refl _ _⟩
    case round =>
      obtain ⟨j, L, hj, rfl, rfl, hL, hb⟩ := hrel
      have hLl : L.length + (anB j (vs.drop j) (g.drop j)).length ≤ 3000000 := by have := congrArg List.length hL; simp only [List.length_append] at this; omega
      have HLE := Lib.hid hL
      have HBR := Lib.hid hb
      clear hL
      by_cases hlt : j < len
      · obtain ⟨kk, nn, ss, kids, hd⟩ := Fr.drop_cons j g (by rw [← HL.out]; exact hlt)
        obtain ⟨b, o, rfl, hlb2, hbb, hrow⟩ := HK.out.2.2 (by rw [← HL.out]; omega)
        obtain ⟨hfit, A', cp, c0, c1, c2, c3, hkid⟩ := hrow.elem hd
        obtain ⟨gv, rfl, hgl, hcv⟩ := HV.out (by omega)
        have hlo : b < w.heap.size := Nat.lt_of_lt_of_le hbb HHI.out
        have HS : Hid (∀ x, Below w1.heap.size w1 x → x.cell? ⟨gv, j, none⟩ = some (.int .i64 (vs.getD j 0)) ∧ x.cell? ⟨w.heap.size, 0, none⟩ = some (.slice (some ⟨b, o, none⟩) len capB) ∧ x.cell? ⟨b, o + j * 4, none⟩ = some (.int .i64 kk) ∧ x.cell? ⟨b, o + j * 4 + 1, none⟩ = some (.int .i64 nn) ∧ x.cell? ⟨b, o + j * 4 + 2, none⟩ = some (.string ss) ∧ x.cell? ⟨b, o + j * 4 + 3, none⟩ = some (.slice A' kids.len cp)) := Lib.hid fun x hx => by
          have hwx := HB0.out.trans (hx.mono HB0.out.size)
          exact ⟨(hwx.cell (p := ⟨gv, j, none⟩) hgl).trans (hcv j hlt), (HQ0.out.below hx HQ0.out.lt).cell 0, (hwx.cell (p := ⟨b, o + j * 4, none⟩) hlo).trans c0, (hwx.cell (p := ⟨b, o + j * 4 + 1, none⟩) hlo).trans c1, (hwx.cell (p := ⟨b, o + j * 4 + 2, none⟩) hlo).trans c2, (hwx.cell (p := ⟨b, o + j * 4 + 3, none⟩) hlo).trans c3⟩
        have hvt : validT kk nn ss kids = true := allB_elem g j hd HALL.out
        obtain ⟨hs9, hn9, hl9⟩ := av_two hvt
        have hvr := HR.out j hlt
        have C2 := fun wx => letter_any2 (vs.getD j 0) hvr wx
        have C3 := fun wx (hx : Below w1.heap.size w1 wx) => tx_all kids.size ss kids (Nat.le_refl _) kk nn A' cp lo hi 30 wx (hkid.below (HB0.out.trans (hx.mono HB0.out.size)) HHI.out) (Nat.le_trans HHI.out (HB0.out.trans (hx.mono HB0.out.size)).size) hs9 (by omega)
        have hL2 := HLE.out
        rw [drop_int vs j (by rw [HN.out]; exact hlt), hd] at hL2
        have H2 := Lib.hid C2
        have H3 := Lib.hid C3
        have hlv := letB_one (vs.getD j 0)
        by_cases hj0 : j = 0
        · subst hj0
          have t0 : ¬ (((0 : Nat) : Int) > 0) := by omega
          rw [anB_zero] at hL2
          have HL2 := Lib.hid hL2
          have hTl : (txT kk nn ss kids).length ≤ 4000 := hl9
          clear C2 C3 c0 c1 c2 c3 hkid hrow hfit hd hlo hL2 hs9 hn9 hl9 hvr hvt hcv hgl hbb hlb2
          generalize txT kk nn ss kids = T at *
          simp only [Nat.zero_mul, Nat.add_zero] at HS
          generalize vs.getD 0 0 = v at *
          generalize letB v = lv at *
          have HSTR : Hid ((.string ((((⟨L.toArray⟩ : ByteArray) ++ ⟨lv.toArray⟩) ++ ⟨#[61]⟩) ++ ⟨T.toArray⟩) : Value) = .string ⟨(L ++ (lv ++ 61 :: T)).toArray⟩) := Lib.hid (by
            rw [show (⟨#[61]⟩ : ByteArray) = ⟨[61].toArray⟩ from rfl, ByteArray.mk_append_mk, ByteArray.mk_append_mk, ByteArray.mk_append_mk]
            simp)
          have HL3 : Hid ((L ++ (lv ++ 61 :: T)) ++ anB (0 + 1) (vs.drop (0 + 1)) (g.drop (0 + 1)) = anB 0 vs g) := Lib.hid (by rw [← HL2.out]; simp)
          have t1 : ¬ 9223372036854775807 < L.length + lv.length := by omega
          have t2 : ¬ 9223372036854775807 < L.length + lv.length + 1 := by omega
          have t3 : ¬ 9223372036854775807 < L.length + lv.length + 1 + T.length := by omega
          clear hb hlv
          go_wp2_with fail
          obtain ⟨x0, x1, x2, x3, x4, x5⟩ := HS.out _ HBR.out
          go_region_held3 (fun x => x.cell? ⟨gv, 0, none⟩ = some (.int .i64 v) ∧ x.cell? ⟨w.heap.size, 0, none⟩ = some (.slice (some ⟨b, o, none⟩) len capB) ∧ x.cell? ⟨b, o, none⟩ = some (.int .i64 kk) ∧ x.cell? ⟨b, o + 1, none⟩ = some (.int .i64 nn) ∧ x.cell? ⟨b, o + 2, none⟩ = some (.string ss) ∧ x.cell? ⟨b, o + 3, none⟩ = some (.slice A' kids.len cp))
            (first | exact HS.out _ HB4.out | exact HS.out _ HB3.out | exact HS.out _ HBR.out | exact HS.out _ HBR.out.drew)
            (first
              | (go_at_call 26
                 refine (H2.out _).mono ?_
                 rintro e w3 ⟨rfl, hb3⟩
                 have HB3 : Hid (Below w1.heap.size w1 w3) := Lib.hid (HBR.out.trans (((Below.refl _ _).drew.trans hb3).mono HBR.out.size))
                 clear hb3)
              | (go_at_call 27
                 refine (H3.out _ HB3.out).mono ?_
                 rintro e w4 ⟨rfl, hb4⟩
                 have HB4 : Hid (Below w1.heap.size w1 w4) := Lib.hid (HB3.out.trans (hb4.mono HB3.out.size))
                 clear hb4))
          go_wp2_with fail
          go_roundw
          case rel => exact ⟨0 + 1, L ++ (lv ++ 61 :: T), by omega, by go_num, HSTR.out, HL3.out, HB4.out⟩
          case measure => simp [intOf]; omega
        · have t0 : ((j : Nat) : Int) > 0 := by omega
          rw [anB_step j hj0] at hL2
          have HL2 := Lib.hid hL2
          have hTl : (txT kk nn ss kids).length ≤ 4000 := hl9
          clear C2 C3 c0 c1 c2 c3 hkid hrow hfit hd hlo hL2 hs9 hn9 hl9 hvr hvt hcv hgl hbb hlb2
          generalize txT kk nn ss kids = T at *
          generalize vs.getD j 0 = v at *
          generalize letB v = lv at *
          have HSTR : Hid ((.string (((((⟨L.toArray⟩ : ByteArray) ++ ⟨#[59]⟩) ++ ⟨lv.toArray⟩) ++ ⟨#[61]⟩) ++ ⟨T.toArray⟩) : Value) = .string ⟨(L ++ 59 :: (lv ++ 61 :: T)).toArray⟩) := Lib.hid (by
            rw [show (⟨#[59]⟩ : ByteArray) = ⟨[59].toArray⟩ from rfl, show (⟨#[61]⟩ : ByteArray) = ⟨[61].toArray⟩ from rfl, ByteArray.mk_append_mk, ByteArray.mk_append_mk, ByteArray.mk_append_mk, ByteArray.mk_append_mk]
            simp)
          have HL3 : Hid ((L ++ 59 :: (lv ++ 61 :: T)) ++ anB (j + 1) (vs.drop (j + 1)) (g.drop (j + 1)) = anB 0 vs g) := Lib.hid (by rw [← HL2.out]; simp)
          have t1 : ¬ 9223372036854775807 < L.length + 1 + lv.length := by omega
          have t2 : ¬ 9223372036854775807 < L.length + 1 + lv.length + 1 := by omega
          have t3 : ¬ 9223372036854775807 < L.length + 1 + lv.length + 1 + T.length := by omega
          clear hb hlv
          go_wp2_with fail
          obtain ⟨x0, x1, x2, x3, x4, x5⟩ := HS.out _ HBR.out
          go_region_held3 (fun x => x.cell? ⟨gv, j, none⟩ = some (.int .i64 v) ∧ x.cell? ⟨w.heap.size, 0, none⟩ = some (.slice (some ⟨b, o, none⟩) len capB) ∧ x.cell? ⟨b, o + j * 4, none⟩ = some (.int .i64 kk) ∧ x.cell? ⟨b, o + j * 4 + 1, none⟩ = some (.int .i64 nn) ∧ x.cell? ⟨b, o + j * 4 + 2, none⟩ = some (.string ss) ∧ x.cell? ⟨b, o + j * 4 + 3, none⟩ = some (.slice A' kids.len cp))
            (first | exact HS.out _ HB4.out | exact HS.out _ HB3.out | exact HS.out _ HBR.out | exact HS.out _ HBR.out.drew)
            (first
              | (go_at_call 26
                 refine (H2.out _).mono ?_
                 rintro e w3 ⟨rfl, hb3⟩
                 have HB3 : Hid (Below w1.heap.size w1 w3) := Lib.hid (HBR.out.trans (((Below.refl _ _).drew.trans hb3).mono HBR.out.size))
                 clear hb3)
              | (go_at_call 27
                 refine (H3.out _ HB3.out).mono ?_
                 rintro e w4 ⟨rfl, hb4⟩
                 have HB4 : Hid (Below w1.heap.size w1 w4) := Lib.hid (HB3.out.trans (hb4.mono HB3.out.size))
                 clear hb4))
          go_wp2_with fail
          go_roundw
          case rel => exact ⟨j + 1, L ++ 59 :: (lv ++ 61 :: T), by omega, by go_num, HSTR.out, HL3.out, HB4.out⟩
          case measure => simp [intOf]; omega
      · obtain rfl : j = len := by omega
        have hLL : L = R := by
          rw [HW.out, ← HLE.out, show vs.drop j = [] by rw [List.drop_eq_nil_iff]; rw [HN.out]; exact Nat.le_refl _, anB_nil, List.append_nil]
        have HLL := Lib.hid hLL
        have HB := Lib.hid (HB0.out.trans (hb.mono HB0.out.size))
        clear hb hLL hLl
        go_wp2_with fail
        go_ret
        rw [← HLL.out]; exact ⟨rfl, HB.out⟩

set_option maxRecDepth 100000 in
set_option maxHeartbeats 8000000 in
/-- spec.FormatAnswer. -/
theorem specFA_any (f g : Fr) (A B : Option Addr) (cap capB lo hi lo2 hi2 : Nat) (w : World) (hk : KidsAt w lo hi f A cap) (hh : hi ≤ w.heap.size) (hnd : nodes f ≤ 1048576) (hk2 : KidsAt w lo2 hi2 g B capB) (hh2 : hi2 ≤ w.heap.size) (hng : nodes g ≤ 1048576) :
    Calls Tryz.prog 6 #[.slice A f.len cap, .agg #[.slice B g.len capB]] w fun e w' => e = .returned (.string ⟨(faB f g).toArray⟩) ∧ Below w.heap.size w w' := by
  have hb0 : Below w.heap.size w (w.alloc (.cells #[.slice B g.len capB] 31)) := (Below.refl _ _).alloc (Nat.le_refl _) _
  have hq0 := Blk.new w 31 #[.slice B g.len capB]
  have C1 := specQVars_any f A cap lo hi _ (hk.below hb0 hh) (Nat.le_trans hh hb0.size) hnd
  have C2 := fun w1 (hb : Below w.heap.size w w1) => specQV_any f A cap lo hi w1 (hk.below hb hh) (Nat.le_trans hh hb.size) hnd
  have C3 := fun w1 (hb : Below w.heap.size w w1) => specAll_any g B capB lo2 hi2 w1 (hk2.below hb hh2) (Nat.le_trans hh2 hb.size) hng
  have hqv : goalsV f = true → qvF f = varsF [] f := fun h => by unfold qvF; rw [if_pos h]
  have hlg : g.len ≤ 1048576 := by have := len_le_nodes g; omega
  have e0 : (w.alloc (.cells #[.slice B g.len capB] 31)).heap.size = w.heap.size + 1 := by simp
  have hs1 : goalsV f = false → faB f g = [] := fa_bad1
  have hs2 : ¬ (varsF [] f).length = g.len → faB f g = [] := fa_bad2
  have hs3 : allV g = false → faB f g = [] := fun h => fa_bad3 (by rw [← allV_B]; exact h)
  have hs4 : goalsV f = true → (varsF [] f).length = g.len → allV g = true → faB f g = anT (varsF [] f) g := fun h1 h2 h3 => fa_good h1 h2 (by rw [← allV_B]; exact h3)
  have hvl : (qvF f).length ≤ 1048576 := by
    unfold qvF
    split
    · have h1 := varsF_len f []; simp only [List.length_nil] at h1; omega
    · exact Nat.zero_le _
  have C4 := fun (hg : goalsV f = true) (hl : (varsF [] f).length = g.len) (ha : allV g = true) (w1 : World) (hb : Below w.heap.size w w1) (Av : Option Addr) (capV : Nat) (hv : 0 < (varsF [] f).length → ∃ gv, Av = some ⟨gv, 0, none⟩ ∧ gv < w1.heap.size ∧ ∀ j, j < (varsF [] f).length → w1.cell? ⟨gv, j, none⟩ = some (.int .i64 ((varsF [] f).getD j 0))) =>
    l6Text_any (varsF [] f) g Av B capV capB lo2 hi2 w1 hv (fun j hj => qv_at hg hj) (hk2.below hb hh2) (Nat.le_trans hh2 hb.size) (by rw [← allV_B]; exact ha) hl (qv_small hg)
  have H1 := Lib.hid C1
  have H2 := Lib.hid C2
  have H3 := Lib.hid C3
  have H4 := Lib.hid C4
  have HS1 := Lib.hid hs1
  have HS2 := Lib.hid hs2
  have HS3 := Lib.hid hs3
  have HS4 := Lib.hid hs4
  have HQV := Lib.hid hqv
  have HB0 := Lib.hid hb0
  have HQ0 := Lib.hid hq0
  have HE0 := Lib.hid e0
  clear C1 C2 C3 C4 hs1 hs2 hs3 hs4 hqv hk hh hnd hk2 hh2 hng hb0 hq0 e0
  generalize faB f g = R at *
  generalize f.len = fl at *
  generalize hm : g.len = lem at *
  have HM := Lib.hid hm
  clear hm
  generalize hqn : (qvF f).length = vn at *
  have HVN := Lib.hid hqn
  clear hqn
  go_enter Tryz.func6, Tryz.ntmps6
  go_wp2_with fail
  refine H1.out.mono ?_
  rintro e w2 ⟨v, rfl, ho, hb⟩
  obtain ⟨Av, capV, rfl, hvc, hvm, hvr⟩ := ho.read
  rw [HE0.out] at hb ho
  have hb2 : Below w.heap.size w w2 := HB0.out.trans (hb.mono (by omega))
  have hq2 := HQ0.out.below (by rw [HE0.out]; exact hb) HQ0.out.lt
  have HB2 := Lib.hid hb2
  have HV2 := Lib.hid hvr
  have HQ2 := Lib.hid hq2
  clear hb ho hvr hb2 hq2 H1
  rw [HVN.out] at hvc HV2
  rw [HVN.out]
  go_wp2_with fail
  refine (H2.out w2 HB2.out).mono ?_
  rintro e w3 ⟨rfl, hb⟩
  have hb3 : Below w.heap.size w w3 := HB2.out.trans (hb.mono HB2.out.size)
  have hq3 := HQ2.out.below hb HQ2.out.lt
  have a0 := hq3.cell 0
  simp only [List.getElem?_toArray, List.getElem?_cons_zero] at a0
  have HB3 := Lib.hid hb3
  have HQ3 := Lib.hid hq3
  have HV3 : Hid (0 < vn → ∃ gv, Av = some ⟨gv, 0, none⟩ ∧ gv < w3.heap.size ∧ ∀ j, j < vn → w3.cell? ⟨gv, j, none⟩ = some (.int .i64 ((qvF f).getD j 0))) := Lib.hid fun hp => by
    obtain ⟨gv, e, _, hc⟩ := HV2.out hp
    have c0 := (hc 0 hp).1
    have hlt := World.block_lt_of_cell? w2 _ c0
    exact ⟨gv, e, Nat.lt_of_lt_of_le hlt hb.size, fun j hj => (hb.cell (p := ⟨gv, j, none⟩) hlt).trans (hc j hj).1⟩
  clear hb hb3 hq3 HV2 HQ2 H2
  cases hgv : goalsV f
  · have HR := Lib.hid (HS1.out hgv)
    clear hgv
    go_wp2_with fail
    go_ret
    rw [HR.out]; exact ⟨rfl, HB3.out⟩
  · have HGV := Lib.hid hgv
    have HVL : Hid (vn = (varsF [] f).length) := Lib.hid (by rw [← HVN.out, HQV.out hgv])
    rw [HQV.out hgv] at HV3
    clear hgv
    by_cases hne : vn = lem
    · subst hne
      have t0 : ((vn : Int) == (vn : Int)) = true := by simp
      have t1 : ((vn : Int) != (vn : Int)) = false := by simp
      go_wp2_with fail
      refine (H3.out w3 HB3.out).mono ?_
      rintro e w4 ⟨rfl, hb⟩
      have hb4 : Below w.heap.size w w4 := HB3.out.trans (hb.mono HB3.out.size)
      have hq4 := HQ3.out.below hb HQ3.out.lt
      have a4 := hq4.cell 0
      simp only [List.getElem?_toArray, List.getElem?_cons_zero] at a4
      have HB4 := Lib.hid hb4
      have HV4 : Hid (0 < vn → ∃ gv, Av = some ⟨gv, 0, none⟩ ∧ gv < w4.heap.size ∧ ∀ j, j < vn → w4.cell? ⟨gv, j, none⟩ = some (.int .i64 ((varsF [] f).getD j 0))) := Lib.hid fun hp => by
        obtain ⟨gv, e, hlt, hc⟩ := HV3.out hp
        exact ⟨gv, e, Nat.lt_of_lt_of_le hlt hb.size, fun j hj => (hb.cell (p := ⟨gv, j, none⟩) hlt).trans (hc j hj)⟩
      clear hb hb4 hq4 a0
      cases hav : allV g
      · have HR := Lib.hid (HS3.out hav)
        clear hav
        go_wp2_with fail
        go_ret
        rw [HR.out]; exact ⟨rfl, HB4.out⟩
      · have HR := Lib.hid (HS4.out HGV.out HVL.out.symm hav)
        have C5 := H4.out HGV.out HVL.out.symm hav w4 HB4.out Av capV (by rw [← HVL.out]; exact HV4.out)
        rw [← HVL.out] at C5
        have H5 := Lib.hid C5
        clear hav C5
        go_wp2_with fail
        refine H5.out.mono ?_
        rintro e w5 ⟨rfl, hb⟩
        have HB5 := Lib.hid (HB4.out.trans (hb.mono HB4.out.size))
        clear hb
        go_wp2_with fail
        go_ret
        rw [HR.out]; exact ⟨rfl, HB5.out⟩
    · have HR := Lib.hid (HS2.out (by rw [← HVL.out]; exact hne))
      have t0 : ((vn : Int) == (lem : Int)) = false := by rw [beq_eq_false_iff_ne]; omega
      have t1 : ((vn : Int) != (lem : Int)) = true := by rw [bne_iff_ne]; omega
      go_wp2_with fail
      go_ret
      rw [HR.out]; exact ⟨rfl, HB3.out⟩
end Go.Proofs.YtohkpgpcipjpkaaGreatDoor.wr

/- Clauses: impl.goalsOf, clauseOf, ClauseValid. Condition: the clause lies in memory, both tables in their variables. -/
namespace Go.Proofs.YtohkpgpcipjpkaaGreatDoor
open Go.RowKit

theorem infoG : (Tryz.prog.info? 75).map (fun i => (i.zero, i.size, i.bytes)) = some (some .nilIface, 1, 16) := by kernel_rfl

/-- The goals of the row f lie in block b from cell o on; what they lead to lies in blocks from lo to below hi. -/
def GlRow (w : World) (lo hi : Nat) : Fr → Nat → Nat → Prop
  | .nil, _, _ => True
  | .cons _ _ s kids rest, b, o => (∃ v A cap, w.cell? ⟨b, o, none⟩ = some v ∧ GIs (gk s kids.len) s A kids.len cap v ∧ NdS w lo hi kids A cap) ∧ GlRow w lo hi rest b (o + 1)
def GlS (w : World) (lo hi : Nat) (f : Fr) (A : Option Addr) (cap : Nat) : Prop :=
  f.len ≤ cap ∧ cap ≤ maxLen ∧ (0 < f.len → ∃ b, A = some ⟨b, 0, none⟩ ∧ lo ≤ b ∧ b < hi ∧ GlRow w lo hi f b 0)
section
variable {w w' : World} {lo hi lo' hi' : Nat}
theorem GlRow.keep (hk : ∀ p : Addr, lo ≤ p.block → p.block < hi → w'.cell? p = w.cell? p) (hL : lo' ≤ lo) (hH : hi ≤ hi') (f : Fr) :
    ∀ b o, (∀ j, j < f.len → w'.cell? ⟨b, o + j, none⟩ = w.cell? ⟨b, o + j, none⟩) → GlRow w lo hi f b o → GlRow w' lo' hi' f b o := by
  induction f with
  | nil => intro b o _ _; trivial
  | cons k n s kids rest _ ihr =>
    rintro b o hc ⟨⟨v, A, cap, hv, hg, hn⟩, hr⟩
    simp only [Fr.len] at hc
    refine ⟨⟨v, A, cap, (hc 0 (by omega)).trans hv, hg, hn.keep hk hL hH⟩, ihr b (o + 1) (fun j hj => ?_) hr⟩
    have := hc (j + 1) (by omega)
    rwa [show o + (j + 1) = o + 1 + j by omega] at this
theorem GlS.keep {f : Fr} {A : Option Addr} {cap : Nat} (h : GlS w lo hi f A cap) (hk : ∀ p : Addr, lo ≤ p.block → p.block < hi → w'.cell? p = w.cell? p) (hL : lo' ≤ lo) (hH : hi ≤ hi') : GlS w' lo' hi' f A cap :=
  ⟨h.1, h.2.1, fun hp => by
    obtain ⟨b', e, hl, hb, hrow⟩ := h.2.2 hp
    exact ⟨b', e, by omega, by omega, GlRow.keep hk hL hH f b' 0 (fun j _ => hk _ hl hb) hrow⟩⟩
/-- One goal more behind a row. -/
theorem GlRow.snoc (f : Fr) {k n : Int} {s : ByteArray} {kids : Fr} {v : Value} {A : Option Addr} {cap : Nat} (hg : GIs (gk s kids.len) s A kids.len cap v) (hn : NdS w lo hi kids A cap) :
    ∀ b o, GlRow w lo hi f b o → w.cell? ⟨b, o + f.len, none⟩ = some v → GlRow w lo hi (f.app (.cons k n s kids .nil)) b o := by
  induction f with
  | nil => intro b o _ hc; exact ⟨⟨v, A, cap, hc, hg, hn⟩, trivial⟩
  | cons k' n' s' kids' rest' _ ihr =>
    intro b o h hc
    refine ⟨h.1, ihr b (o + 1) h.2 ?_⟩
    rw [← hc]
    simp only [Fr.len]
    rw [show o + (rest'.len + 1) = o + 1 + rest'.len by omega]
end
/-- The loop's relation: j goals are made, in block g. -/
def GPart (w : World) (f : Fr) (g j : Nat) (wr : World) : Prop :=
  Below w.heap.size w wr ∧ (∃ cur, Blk wr g 75 cur ∧ cur.size = f.len) ∧ GlRow wr (g + 1) wr.heap.size (f.take j) g 0 ∧ w.heap.size ≤ g
theorem GPart.cell {w wr w2 : World} {f : Fr} {g j : Nat} (h : GPart w f g j wr) (hj : j < f.len) (hb : Below wr.heap.size wr w2) : (∃ v, w2.cell? ⟨g, j, none⟩ = some v) ∧ w2.frozen? ⟨g, j, none⟩ = false := by
  obtain ⟨_, ⟨cur, hblk, hs⟩, _⟩ := h
  have hb2 := hblk.below hb hblk.lt
  refine ⟨?_, hb2.frozen _⟩
  rw [hb2.cell]
  exact ⟨_, Array.getElem?_eq_getElem (by omega)⟩
theorem GPart.step {w wr w2 : World} {f : Fr} {g i lo : Nat} {k n : Int} {s : ByteArray} {kids rest : Fr} {v : Value} {A : Option Addr} {cap : Nat}
    (h : GPart w f g i wr) (hd : f.drop i = .cons k n s kids rest) (hi : i < f.len) (hb : Below wr.heap.size wr w2) (hlo : wr.heap.size ≤ lo) (hg : GIs (gk s kids.len) s A kids.len cap v) (hn : NdS w2 lo w2.heap.size kids A cap) :
    GPart w f g (i + 1) (w2.setCell ⟨g, i, none⟩ v) := by
  obtain ⟨hbw, ⟨cur, hblk, hs⟩, hrow, hgl⟩ := h
  have hlt := hblk.lt
  have b2 := hblk.below hb hlt
  have far : ∀ p : Addr, p.block ≠ g → (w2.setCell ⟨g, i, none⟩ v).cell? p = w2.cell? p := fun p hp => World.cell?_of_block (heap_setCell_other w2 ⟨g, i, none⟩ p.block v hp)
  have hsz : (w2.setCell ⟨g, i, none⟩ v).heap.size = w2.heap.size := by simp [World.setCell]
  have hlen : (f.take i).len = i := Fr.len_take i f (by omega)
  refine ⟨(hbw.trans (hb.mono hbw.size)).setCell hgl _, ⟨_, b2.set_ i v, by simpa using hs⟩, ?_, hgl⟩
  rw [Fr.take_succ i f hd, hsz]
  refine GlRow.snoc (f.take i) hg (hn.keep (fun p hp _ => far p (by omega)) (by omega) (Nat.le_refl _)) g 0 ?_ ?_
  · refine GlRow.keep (fun p hp hp' => ?_) (Nat.le_refl _) hb.size (f.take i) g 0 (fun j hj => ?_) hrow
    · rw [far p (by omega)]
      exact hb.cell hp'
    · rw [hlen] at hj
      rw [(b2.set_ i v).cell, hblk.cell]
      simp only [Array.getElem?_setIfInBounds]
      rw [if_neg (by omega)]
  · rw [hlen, (b2.set_ i v).cell]
    simp [Array.getElem?_setIfInBounds]
    omega
theorem GPart.start {w w1 : World} {f : Fr} {base : Nat} {xs : List Value} (hown : w1.ownsRow base 75 1 (.slice (some ⟨w.heap.size, 0, none⟩) f.len f.len) f.len xs) (hg : w.grownBy w1 none) : GPart w f w.heap.size 0 w1 := by
  rcases hown.2 with ⟨h', _⟩ | ⟨g', cap', cur, h', _, hb, _, _, hs, _⟩
  · simp at h'
  · simp only [Value.slice.injEq, Option.some.injEq, Addr.mk.injEq, and_true, true_and] at h'
    obtain ⟨rfl, rfl⟩ := h'
    exact ⟨(Below.refl _ _).grown hg (Nat.le_refl _) (fun k hk => by cases hk), ⟨cur, hb, by simpa using hs⟩, trivial, Nat.le_refl _⟩
theorem GIs.iface {t : Nat} {s : ByteArray} {A : Option Addr} {len cap : Nat} {v : Value} (h : GIs t s A len cap v) : ∃ T x, v = .iface T x := by
  rcases h with ⟨_, rfl⟩ | ⟨_, rfl⟩ | ⟨_, rfl⟩ <;> exact ⟨_, _, rfl⟩
/-- What impl.goalsOf leaves. -/
def GsOf (w : World) (f : Fr) (e : Ending) (w' : World) : Prop :=
  Below w.heap.size w w' ∧ ((goalsV f = false ∧ e = .returned (.tuple #[.slice none 0 0, .bool false])) ∨ (goalsV f = true ∧ ∃ A cap, e = .returned (.tuple #[.slice A f.len cap, .bool true]) ∧ GlS w' w.heap.size w'.heap.size f A cap))
theorem GPart.done {w wr : World} {f : Fr} {g : Nat} (h : GPart w f g f.len wr) (hl : f.len ≤ maxLen) : GlS wr w.heap.size wr.heap.size f (some ⟨g, 0, none⟩) f.len := by
  obtain ⟨hbw, ⟨cur, hblk, hs⟩, hrow, hgl⟩ := h
  rw [Fr.take_len] at hrow
  exact ⟨Nat.le_refl _, hl, fun _ => ⟨g, rfl, hgl, hblk.lt, GlRow.keep (fun _ _ _ => rfl) (by omega) (Nat.le_refl _) f g 0 (fun _ _ => rfl) hrow⟩⟩

set_option maxRecDepth 100000 in
set_option maxHeartbeats 2000000 in
/-- impl.goalsOf. -/
theorem goalsOf_any (f : Fr) (A : Option Addr) (cap lo hi : Nat) (w : World) (hk : KidsAt w lo hi f A cap) (hh : hi ≤ w.heap.size) (hnd : nodes f ≤ 1048576) (ht : nv.Tab w) (ho : op.OpTab w) :
    Calls Tryz.prog 28 #[.slice A f.len cap] w fun e w' => GsOf w f e w' := by
  have hl : f.len ≤ 1048576 := by have := len_le_nodes f; omega
  have HE : Hid (goalsV f = (decide (f.len ≤ 6) && allG f)) := Lib.hid rfl
  have HK := Lib.hid hk
  have HHI := Lib.hid hh
  have HND := Lib.hid hnd
  have HT := Lib.hid ht
  have HO := Lib.hid ho
  have hst := fun w1 base xs => GPart.start (w := w) (w1 := w1) (f := f) (base := base) (xs := xs)
  have HST := Lib.hid hst
  clear hk hh hnd ht ho hst
  generalize hn : f.len = len at *
  have HN := Lib.hid hn
  clear hn
  by_cases h6 : len ≤ 6
  · have t6 : ¬ ((len : Int) > 6) := by omega
    obtain ⟨i0, hi0, hz0, hz1, hz2⟩ := info_parts infoG
    go_enter Tryz.func28, Tryz.ntmps28
    go_wp2_with (at_make; go_must (refine wpList_make_full _ rfl _ _ 46 rfl w.heap.size 75 i0 _ 1 Tryz.underlying46 hi0 hz0 hz1 .i64 .i64 _ _ len rfl rfl rfl rfl (by rw [hz2]; omega) (by unfold maxLen; omega) (Nat.le_refl _) ?_); intro w1 hown hgrow)
    have hp0 := HST.out _ _ _ hown hgrow
    have HP0 := Lib.hid hp0
    clear hp0 hown hgrow HST hi0 hz0 hz1 hz2
    go_loopw [17] (fun i wr => ∃ (j : Nat), j ≤ len ∧ i = .int .i64 j ∧ allG (f.drop j) = allG f ∧ GPart w f w.heap.size j wr) (fun i _ => len - (intOf i).toNat)
    case atStart => exact ⟨0, Nat.zero_le _, rfl, rfl, HP0.out⟩
    case round =>
      obtain ⟨j, hj, rfl, hv, hpart⟩ := hrel
      have HPT := Lib.hid hpart
      by_cases hlt : j < len
      · have hltf : j < f.len := by rw [HN.out]; exact hlt
        obtain ⟨kk, nn, s, kids, hd⟩ := Fr.drop_cons j f hltf
        obtain ⟨b, o, rfl, hlb, hbb, hrow⟩ := HK.out.2.2 (by rw [HN.out]; omega)
        obtain ⟨hfit, A', cp, c0, c1, c2, c3, hkid⟩ := hrow.elem hd
        rw [hd] at hv
        have hv2 : (goalV kk nn s kids && allG (f.drop (j + 1))) = allG f := hv
        have hb := hpart.1
        have hlo : (⟨b, o, none⟩ : Addr).block < w.heap.size := Nat.lt_of_lt_of_le hbb HHI.out
        have k0 := (hb.cell (p := ⟨b, o + j * 4, none⟩) hlo).trans c0
        have k1 := (hb.cell (p := ⟨b, o + j * 4 + 1, none⟩) hlo).trans c1
        have k2 := (hb.cell (p := ⟨b, o + j * 4 + 2, none⟩) hlo).trans c2
        have k3 := (hb.cell (p := ⟨b, o + j * 4 + 3, none⟩) hlo).trans c3
        have hb1 : Below wr.heap.size wr (wr.alloc (.cells #[.int .i64 kk, .int .i64 nn, .string s, .slice A' kids.len cp] 44)) := (Below.refl _ _).alloc (Nat.le_refl _) _
        have hbw1 := hb.trans (hb1.mono hb.size)
        have C1 := goalOf_any kk nn s kids A' cp lo hi _ (hkid.below hbw1 HHI.out) (Nat.le_trans HHI.out hbw1.size) hfit (Nat.le_trans (nodes_drop_elem j f hd) HND.out) (HT.out.below hbw1) (HO.out.below hbw1)
        have cellsOf := fun w2 hb => HPT.out.cell (w2 := w2) hltf hb
        have stepOf := fun w2 l0 A cap v hb hlo hg hn => HPT.out.step (w2 := w2) (lo := l0) (A := A) (cap := cap) (v := v) hd hltf hb hlo hg hn
        have H1 := Lib.hid C1
        have HB := Lib.hid hb
        have HB1 := Lib.hid hb1
        have HEE := Lib.hid hv2
        have HC := Lib.hid cellsOf
        have HS := Lib.hid stepOf
        clear C1 hb hb1 hbw1 hv hv2 c0 c1 c2 c3 hkid hrow hfit hd hlo cellsOf stepOf hpart hltf
        go_wp2_with fail
        refine H1.out.mono ?_
        rintro e w2 ⟨hb2, hr⟩
        have hb12 : Below wr.heap.size wr w2 := HB1.out.trans (hb2.mono HB1.out.size)
        rcases hr with ⟨hok, rfl⟩ | ⟨hok, v, A3, cap3, rfl, hgi, hnds⟩
        · have HV : Hid (goalsV f = false) := Lib.hid (by rw [HE.out, ← HEE.out, hok]; simp)
          have HBW : Hid (Below w.heap.size w w2) := Lib.hid (HB.out.trans (hb12.mono HB.out.size))
          clear hok hb2 hb12 k0 k1 k2 k3
          go_wp2_with fail
          go_ret2
          exact ⟨HBW.out, .inl ⟨HV.out, rfl⟩⟩
        · obtain ⟨⟨v0, d0⟩, g0⟩ := HC.out w2 hb12
          have hstep := HS.out w2 _ A3 cap3 v hb12 HB1.out.size hgi hnds
          have HF : Hid (allG (f.drop (j + 1)) = allG f) := Lib.hid (by rw [← HEE.out, hok]; rfl)
          obtain ⟨T, x, rfl⟩ := hgi.iface
          have HSTEP := Lib.hid hstep
          clear hok hgi hnds hb2 hb12 hstep k0 k1 k2 k3
          go_wp2_with fail
          go_roundw
          case rel => exact ⟨j + 1, by omega, by go_num, HF.out, HSTEP.out⟩
          case measure => simp [intOf]; omega
      · obtain rfl : j = len := by omega
        have HV : Hid (goalsV f = true) := Lib.hid (by
          have h1 := Fr.drop_len f
          rw [HN.out] at h1
          rw [HE.out, ← hv, h1, decide_eq_true h6]; rfl)
        clear hpart hv
        go_wp2_with fail
        go_ret2
        have hfin := HPT.out
        rw [← HN.out] at hfin
        exact ⟨HPT.out.1, .inr ⟨HV.out, some ⟨w.heap.size, 0, none⟩, f.len, by rw [HN.out]; rfl, hfin.done (by rw [HN.out]; unfold maxLen; omega)⟩⟩
  · have t6 : (len : Int) > 6 := by omega
    have HV : Hid (goalsV f = false) := Lib.hid (by rw [HE.out, decide_eq_false h6]; rfl)
    go_enter Tryz.func28, Tryz.ntmps28
    go_wp2_with fail
    go_ret2
    exact ⟨Below.refl _ _, .inl ⟨HV.out, rfl⟩⟩
theorem results_cell_row3 {P : Program} {fn : Func} {p u : Tmp} {ty : TypeId} (h : fn.results = #[.cell p ty, .tmp u]) (tmps : Array Value) (w : World) (g : Nat) (t : TypeId) (cs : Array Value) (d : TypeDesc)
    (hp : tmps.getD p undef = .pointer (some ⟨g, 0, none⟩)) (hg : Blk w g t cs)
    (hu : P.underlying ty = some d) (hd : (match d with | .struct _ | .array _ _ => true | _ => false) = true) (hi : (P.info? ty).map (·.size) = some cs.size) :
    (results fn tmps).run P w = .ok (.tuple #[.agg cs, tmps.getD u undef]) w := results_cell_row2 h tmps w g t cs (0, 0) d hp hg hu hd hi

/-- What impl.clauseOf leaves. -/
def COf (w : World) (c : Cl) (e : Ending) (w' : World) : Prop :=
  Below w.heap.size w w' ∧ ((clauseV c = false ∧ e = .returned (.tuple #[.agg #[.string ⟨#[]⟩, .slice none 0 0, .slice none 0 0], .bool false])) ∨
    (clauseV c = true ∧ ∃ A cap G gcap, e = .returned (.tuple #[.agg #[.string c.s, .slice A c.kids.len cap, .slice G c.body.len gcap], .bool true]) ∧ NdS w' w.heap.size w'.heap.size c.kids A cap ∧ GlS w' w.heap.size w'.heap.size c.body G gcap))
theorem set3 {w : World} {g : Nat} {t : TypeId} {x0 x1 x2 : Value} (h : Blk w g t #[x0, x1, x2]) (a b c : Value) : Blk (((w.setCell ⟨g, 0, none⟩ a).setCell ⟨g, 1, none⟩ b).setCell ⟨g, 2, none⟩ c) g t #[a, b, c] := ((h.set_ 0 a).set_ 1 b).set_ 2 c

end Go.Proofs.YtohkpgpcipjpkaaGreatDoor

/- Goals in memory: their forms, elements of a row of goals. Condition: the goals lie in memory. -/
namespace Go.Proofs.YtohkpgpcipjpkaaGreatDoor
open Go.RowKit Go.ChangeShapes

@[go_sem] theorem mth_pf (d : Nat) (x : Value) (w : World) : (method (d + 3) 129 x "loop.example/prologserver/impl.form").run Tryz.prog w = .ok (130, x) w := by kernel_rfl
set_option maxRecDepth 100000 in
/-- plainGoal.form. -/
theorem formP_any (s : ByteArray) (A : Option Addr) (len cap : Nat) (w : World) :
    Calls Tryz.prog 130 #[.agg #[.string s, .slice A len cap]] w fun e w' => e = .returned (.agg #[.string s, .slice A len cap]) ∧ Below w.heap.size w w' := by
  have HB : ∀ o o', Hid (Below w.heap.size w ((w.alloc o).alloc o')) := fun o o' => Lib.hid (two_alloc w o o')
  have hq := Blk.new (w.alloc (.cells #[.string s, .slice A len cap] 129)) 78 #[.string s, .slice A len cap]
  rw [show (w.alloc (.cells #[.string s, .slice A len cap] 129)).heap.size = w.heap.size + 1 by simp] at hq
  have HQ := Lib.hid hq
  clear hq
  go_enter Tryz.func130, Tryz.ntmps130
  go_wp2_with fail
  refine bodyPost_ret (v := .agg #[.string s, .slice A len cap]) ?_ rfl ⟨rfl, (HB _ _).out⟩
  exact results_cell_row Tryz.results130 _ _ (w.heap.size + 1) _ _ _ _ rfl HQ.out Tryz.underlying78 rfl (by kernel_rfl)

theorem GlRow.at_ {w : World} {lo hi : Nat} : ∀ (f : Fr) (i b o : Nat), GlRow w lo hi f b o → GlRow w lo hi (f.drop i) b (o + i)
  | .nil, i, _, _, _ => by cases i <;> trivial
  | .cons _ _ _ _ _, 0, _, _, h => h
  | .cons _ _ _ _ rest, i + 1, b, o, h => by
    have := GlRow.at_ rest i b (o + 1) h.2
    rw [show o + 1 + i = o + (i + 1) by omega] at this
    exact this
theorem GlRow.elem {w : World} {lo hi i b o : Nat} {f rest kids : Fr} {k n : Int} {s : ByteArray} (h : GlRow w lo hi f b o) (hd : f.drop i = .cons k n s kids rest) :
    ∃ v A cap, w.cell? ⟨b, o + i, none⟩ = some v ∧ GIs (gk s kids.len) s A kids.len cap v ∧ NdS w lo hi kids A cap := by
  have := GlRow.at_ f i b o h
  rw [hd] at this
  exact this.1
theorem allG_elem {k n : Int} {s : ByteArray} {kids rest : Fr} : ∀ (f : Fr) (i : Nat), f.drop i = .cons k n s kids rest → allG f = true → goalV k n s kids = true
  | .nil, i, h, _ => by cases i <;> cases h
  | .cons _ _ _ _ _, 0, h, ha => by
    injection h with h1 h2 h3 h4 h5
    subst h1 h2 h3 h4
    exact (Bool.and_eq_true _ _ ▸ ha).1
  | .cons _ _ _ _ rest, i + 1, h, ha => allG_elem rest i h (Bool.and_eq_true _ _ ▸ ha).2
theorem valid_shape2 {k n : Int} {s : ByteArray} {f : Fr} (h : validT k n s f = true) : shapeT k n s f 30 = true ∧ nodes f ≤ 119 := by
  unfold validT at h
  rw [Bool.and_eq_true, decide_eq_true_iff] at h
  exact ⟨h.1, by omega⟩
/-- A goal in memory: whether it is plain, and what then. -/
theorem goal_plain {k n : Int} {s : ByteArray} {kids : Fr} (h : goalV k n s kids = true) (hg : gk s kids.len = 3) : plainK k s kids.len = true ∧ k = 3 ∧ n = 0 ∧ validT 3 0 s kids = true := by
  have hp : plainV k n s kids = true := by rw [plainV_goal, h, hg]; rfl
  unfold plainV at hp
  rw [Bool.and_eq_true] at hp
  have h3 := hp.2
  unfold plainK at h3
  rw [Bool.and_eq_true, beq_iff_eq] at h3
  obtain ⟨rfl, _⟩ := h3
  have hv := hp.1
  have hs := (valid_shape2 hv).1
  obtain ⟨rfl, _⟩ := shapeT_struct hs
  exact ⟨hp.2, rfl, rfl, hv⟩
theorem goal_other {k n : Int} {s : ByteArray} {kids : Fr} (h : goalV k n s kids = true) (hg : gk s kids.len ≠ 3) : plainK k s kids.len = false := by
  have hp : plainV k n s kids = false := by rw [plainV_goal, h]; simpa using hg
  have hv : validT k n s kids = true := by
    unfold goalV at h
    rw [Bool.and_eq_true] at h
    exact h.1
  unfold plainV at hp
  rw [hv] at hp
  exact hp

@[go_sem] theorem mth_bf (d : Nat) (x : Value) (w : World) : (method (d + 3) 128 x "loop.example/prologserver/impl.form").run Tryz.prog w = .ok (129, x) w := by kernel_rfl
@[go_sem] theorem mth_cf (d : Nat) (x : Value) (w : World) : (method (d + 3) 127 x "loop.example/prologserver/impl.form").run Tryz.prog w = .ok (128, x) w := by kernel_rfl
set_option maxRecDepth 100000 in
/-- builtinGoal.form. -/
theorem formB_any (s : ByteArray) (A : Option Addr) (len cap : Nat) (w : World) :
    Calls Tryz.prog 129 #[.agg #[.string s, .slice A len cap]] w fun e w' => e = .returned (.agg #[.string s, .slice A len cap]) ∧ Below w.heap.size w w' := by
  have HB : ∀ o o', Hid (Below w.heap.size w ((w.alloc o).alloc o')) := fun o o' => Lib.hid (two_alloc w o o')
  have hq := Blk.new (w.alloc (.cells #[.string s, .slice A len cap] 128)) 78 #[.string s, .slice A len cap]
  rw [show (w.alloc (.cells #[.string s, .slice A len cap] 128)).heap.size = w.heap.size + 1 by simp] at hq
  have HQ := Lib.hid hq
  clear hq
  go_enter Tryz.func129, Tryz.ntmps129
  go_wp2_with fail
  refine bodyPost_ret (v := .agg #[.string s, .slice A len cap]) ?_ rfl ⟨rfl, (HB _ _).out⟩
  exact results_cell_row Tryz.results129 _ _ (w.heap.size + 1) _ _ _ _ rfl HQ.out Tryz.underlying78 rfl (by kernel_rfl)
set_option maxRecDepth 100000 in
/-- cutGoal.form. -/
theorem formC_any (w : World) :
    Calls Tryz.prog 128 #[.agg #[]] w fun e w' => e = .returned (.agg #[.string ⟨#[33]⟩, .slice none 0 0]) ∧ Below w.heap.size w w' := by
  have HB : ∀ o o', Hid (Below w.heap.size w ((w.alloc o).alloc o')) := fun o o' => Lib.hid (two_alloc w o o')
  have hq := Blk.new (w.alloc (.cells #[] 127)) 78 #[.string ⟨#[33]⟩, .slice none 0 0]
  rw [show (w.alloc (.cells #[] 127)).heap.size = w.heap.size + 1 by simp] at hq
  have HQ := Lib.hid hq
  clear hq
  go_enter Tryz.func128, Tryz.ntmps128
  go_wp2_with fail
  refine bodyPost_ret (v := .agg #[.string ⟨#[33]⟩, .slice none 0 0]) ?_ rfl ⟨rfl, (HB _ _).out⟩
  exact results_cell_row Tryz.results128 _ _ (w.heap.size + 1) _ _ _ _ rfl HQ.out Tryz.underlying78 rfl (by kernel_rfl)
/-- The form of a goal, as a node. -/
theorem GIs.node {w : World} {lo hi : Nat} {k n : Int} {s : ByteArray} {kids : Fr} {v : Value} {A : Option Addr} {cap : Nat} (hv : goalV k n s kids = true) (hg : GIs (gk s kids.len) s A kids.len cap v) (hn : NdS w lo hi kids A cap) :
    k = 3 ∧ shapeT k n s kids 30 = true ∧ ((v = .iface 127 (.agg #[]) ∧ s = ⟨#[33]⟩ ∧ kids = .nil) ∨ v = .iface 128 (.agg #[.string s, .slice A kids.len cap]) ∨ v = .iface 129 (.agg #[.string s, .slice A kids.len cap])) := by
  have hval : validT k n s kids = true := by
    unfold goalV at hv
    rw [Bool.and_eq_true] at hv
    exact hv.1
  have hk : k = 3 := by
    by_cases h : k = 3
    · exact h
    · rw [goalV_other h] at hv; cases hv
  refine ⟨hk, (valid_shape2 hval).1, ?_⟩
  rcases hg with ⟨h, rfl⟩ | ⟨_, rfl⟩ | ⟨_, rfl⟩
  · refine .inl ⟨rfl, ?_⟩
    unfold gk at h
    have hc : cutB s kids.len = true := by
      by_cases hc : cutB s kids.len = true
      · exact hc
      · rw [if_neg hc] at h
        split at h
        · omega
        · split at h <;> omega
    unfold cutB at hc
    simp only [Bool.and_eq_true, beq_iff_eq] at hc
    refine ⟨?_, ?_⟩
    · have h1 := hc.1
      cases s
      rename_i d
      simp only at h1
      congr 1
      exact Array.toList_inj.1 (by simpa using h1)
    · cases kids with
      | nil => rfl
      | cons _ _ _ _ _ => simp [Fr.len] at hc
  · exact .inr (.inl rfl)
  · exact .inr (.inr rfl)
theorem nd_form {w : World} {lo hi : Nat} {n : Int} {s : ByteArray} {kids : Fr} {A : Option Addr} {cap : Nat} (hn : NdS w lo hi kids A cap) : NdV w lo hi 3 n s kids (.iface 78 (.agg #[.string s, .slice A kids.len cap])) := .inr (.inr ⟨rfl, A, cap, rfl, hn⟩)
theorem nd_cut (w : World) (lo hi : Nat) (n : Int) : NdV w lo hi 3 n ⟨#[33]⟩ .nil (.iface 78 (.agg #[.string ⟨#[33]⟩, .slice none 0 0])) := .inr (.inr ⟨rfl, none, 0, rfl, Nat.le_refl _, by unfold maxLen; omega, fun h => absurd h (Nat.lt_irrefl _)⟩)
end Go.Proofs.YtohkpgpcipjpkaaGreatDoor

/- Queries: impl.questionOf, QueryValid, QueryVars. Condition: the terms lie in memory, both tables in their variables. -/
namespace Go.Proofs.YtohkpgpcipjpkaaGreatDoor
open Go.RowKit Go.Maps Go.ChangeShapes

/-- What impl.questionOf leaves. -/
def QOf (w : World) (f : Fr) (e : Ending) (w' : World) : Prop :=
  Below w.heap.size w w' ∧ ((goalsV f = false ∧ e = .returned (.tuple #[.agg #[.slice none 0 0, .slice none 0 0], .bool false])) ∨
    (goalsV f = true ∧ ∃ A cap vo hi, e = .returned (.tuple #[.agg #[.slice A f.len cap, vo], .bool true]) ∧ GlS w' w.heap.size hi f A cap ∧ (w.heap.size ≤ hi ∧ hi ≤ w'.heap.size) ∧ OwnI w' hi vo (varsF [] f)))
theorem goalsV_all {f : Fr} (h : goalsV f = true) : allG f = true ∧ f.len ≤ 6 := by
  unfold goalsV at h
  simp only [Bool.and_eq_true, decide_eq_true_eq] at h
  exact ⟨h.2, h.1⟩
theorem results_cell_row22 {P : Program} {fn : Func} {p u : Tmp} {ty : TypeId} (h : fn.results = #[.cell p ty, .tmp u]) (tmps : Array Value) (w : World) (g : Nat) (t : TypeId) (cs : Array Value) (d : TypeDesc)
    (hp : tmps.getD p undef = .pointer (some ⟨g, 0, none⟩)) (hg : Blk w g t cs)
    (hu : P.underlying ty = some d) (hd : (match d with | .struct _ | .array _ _ => true | _ => false) = true) (hi : (P.info? ty).map (·.size) = some cs.size) :
    (results fn tmps).run P w = .ok (.tuple #[.agg cs, tmps.getD u undef]) w := results_cell_row2 h tmps w g t cs (0, 0) d hp hg hu hd hi
theorem set2 {w : World} {g : Nat} {t : TypeId} {x0 x1 : Value} (h : Blk w g t #[x0, x1]) (a b : Value) : Blk ((w.setCell ⟨g, 0, none⟩ a).setCell ⟨g, 1, none⟩ b) g t #[a, b] := (h.set_ 0 a).set_ 1 b
/-- The state of the loop: j goals are numbered. -/
def QSt (w2 : World) (f : Fr) (j : Nat) (wr : World) : Prop :=
  ∃ vo acc, Num wr (w2.heap.size + 2) (w2.heap.size + 1) w2.heap.size vo acc ∧ acc.length + nodes (f.drop j) ≤ nodes f ∧ varsF acc (f.drop j) = varsF [] f ∧ Below w2.heap.size w2 wr ∧ w2.heap.size + 2 ≤ wr.heap.size
theorem QSt.below {w2 wr wx : World} {f : Fr} {j : Nat} (h : QSt w2 f j wr) (hb : Below wr.heap.size wr wx) : QSt w2 f j wx := by
  obtain ⟨vo, acc, hN, h1, h2, h3, h4⟩ := h
  exact ⟨vo, acc, hN.below hb, h1, h2, h3.trans (hb.mono h3.size), Nat.le_trans h4 hb.size⟩
theorem QSt.step {w2 wr : World} {f : Fr} {j lo hi : Nat} {k n : Int} {s : ByteArray} {kids rest : Fr} {v : Value} (h : QSt w2 f j wr) (hd : f.drop j = .cons k n s kids rest) (hsh : shapeT k n s kids 30 = true) (hv : NdV wr lo hi k n s kids v) (hh : hi ≤ w2.heap.size) (hnd : nodes f ≤ 1048576) (hr : f.drop (j + 1) = rest) :
    ∃ vo acc, Num wr (w2.heap.size + 2) (w2.heap.size + 1) w2.heap.size vo acc ∧ Calls Tryz.prog 30 #[v, .func (.func 31) #[.pointer (some ⟨w2.heap.size + 1, 0, none⟩)] #[]] wr fun e w' => (∃ T x, e = .returned (.iface T x)) ∧ QSt w2 f (j + 1) w' := by
  obtain ⟨vo, acc, hN, h1, h2, h3, h4⟩ := h
  rw [hd] at h1 h2
  simp only [nodes] at h1
  have hlo := hN.2.2.1.lt
  refine ⟨vo, acc, hN, (nsT_any k n 30 s kids v lo hi _ _ _ vo acc wr hsh hv (by omega) hh hN h4 (by omega)).mono ?_⟩
  rintro e w' ⟨vo', v', rfl, hN', hw', hn', hnd'⟩
  obtain ⟨T, x, rfl⟩ := (hnd' _ (List.prefix_refl _)).iface
  refine ⟨⟨_, _, rfl⟩, ⟨vo', varsT acc k n kids, hN', ?_, ?_, h3.trans (hw'.below h3.size fun x hx => ?_), Nat.le_trans h4 hw'.size⟩⟩
  · rw [hr]
    have := varsT_len acc k n kids
    omega
  · rw [hr]; exact h2
  · simp only [List.mem_cons] at hx
    rcases hx with rfl | rfl | hx
    · omega
    · omega
    · have := (hlo x hx).1; omega

set_option maxRecDepth 100000 in
set_option maxHeartbeats 4000000 in
/-- impl.questionOf. -/
theorem questionOf_any (f : Fr) (A : Option Addr) (cap lo hi : Nat) (w : World) (hk : KidsAt w lo hi f A cap) (hh : hi ≤ w.heap.size) (hnd : nodes f ≤ 1048576) (ht : nv.Tab w) (ho : op.OpTab w) :
    Calls Tryz.prog 18 #[.slice A f.len cap] w fun e w' => QOf w f e w' := by
  have hl : f.len ≤ 1048576 := by have := len_le_nodes f; omega
  have hb0 : Below w.heap.size w (w.alloc (.cells #[.slice none 0 0, .slice none 0 0] 48)) := (Below.refl _ _).alloc (Nat.le_refl _) _
  have hq0 := Blk.new w 48 #[.slice none 0 0, .slice none 0 0]
  have C1 := goalsOf_any f A cap lo hi _ (hk.below hb0 hh) (Nat.le_trans hh hb0.size) hnd (ht.below hb0) (ho.below hb0)
  have hmf : ∀ (fn : Fn) (first cap : Array Value) (w : World), (Instr.makeFunc fn first cap).run Tryz.prog w = .ok (.func fn first cap) w := fun _ _ _ _ => rfl
  have e0 : (w.alloc (.cells #[.slice none 0 0, .slice none 0 0] 48)).heap.size = w.heap.size + 1 := by simp
  have HND := Lib.hid hnd
  have HB0 := Lib.hid hb0
  have HQ0 := Lib.hid hq0
  have H1 := Lib.hid C1
  clear C1 hk hnd ht ho hb0 hq0
  have HE0 := Lib.hid e0
  clear e0
  generalize hn : f.len = len at *
  have HN := Lib.hid hn
  clear hn
  go_enter Tryz.func18, Tryz.ntmps18
  go_wp2_with fail
  refine H1.out.mono ?_
  rintro e w2 ⟨hb, hr⟩
  have hq := HQ0.out.below hb HQ0.out.lt
  have x0 := hq.cell 0
  have x1 := hq.cell 1
  have f0 := hq.frozen 0
  have f1 := hq.frozen 1
  simp only [List.getElem?_toArray, List.getElem?_cons_zero, List.getElem?_cons_succ] at x0 x1
  have HB2 : Hid (Below w.heap.size w w2) := Lib.hid (HB0.out.trans (hb.mono HB0.out.size))
  have HQ := Lib.hid hq
  have hs2 : w.heap.size < w2.heap.size := hq.lt
  clear hb hq H1
  rcases hr with ⟨hok, rfl⟩ | ⟨hok, G, gcap, rfl, hgl⟩
  · have HV := Lib.hid hok
    clear hok
    go_wp2_with fail
    refine bodyPost_ret (v := .tuple #[.agg #[.slice none 0 0, .slice none 0 0], .bool false]) ?_ rfl ⟨?_, .inl ⟨HV.out, rfl⟩⟩
    · exact results_cell_row22 Tryz.results18 _ _ w.heap.size _ _ _ rfl (set2 HQ.out _ _) Tryz.underlying48 rfl (by kernel_rfl)
    · exact (HB2.out.setCell (Nat.le_refl _) _).setCell (Nat.le_refl _) _
  · have HV := Lib.hid hok
    have HALL := Lib.hid (goalsV_all hok).1
    have hl6 := (goalsV_all hok).2
    rw [HN.out] at hl6
    rw [HE0.out] at hgl
    have HGL := Lib.hid hgl
    clear hok hgl x0 x1 f0 f1
    rw [HN.out]
    go_wp2_with fail
    refine (newNum_any w2).mono ?_
    rintro e w4 ⟨rfl, hN, hb4, hs4⟩
    have hst : QSt w2 f 0 w4 := ⟨_, [], hN, by simp [Fr.drop], rfl, hb4, Nat.le_of_eq hs4.symm⟩
    have HST := Lib.hid hst
    clear hN hb4 hst
    go_wp2_with fail
    go_loopw [20] (fun i wr => ∃ (j : Nat), j ≤ len ∧ i = .int .i64 j ∧ QSt w2 f j wr) (fun i _ => len - (intOf i).toNat)
    case atStart => exact ⟨0, Nat.zero_le _, rfl, HST.out⟩
    case round =>
      obtain ⟨j, hj, rfl, hst⟩ := hrel
      by_cases hlt : j < len
      · obtain ⟨kk, nn, ss, kids, hd⟩ := Fr.drop_cons j f (by rw [HN.out]; exact hlt)
        obtain ⟨gb, rfl, hgb1, hgb2, hrow⟩ := HGL.out.2.2 (by rw [HN.out]; omega)
        obtain ⟨gv, A3, cp3, hcell, hgi, hnd⟩ := hrow.elem hd
        rw [Nat.zero_add] at hcell
        have hbw : Below w2.heap.size w2 wr := by obtain ⟨_, _, _, _, _, h, _⟩ := hst; exact h
        have k3 := (hbw.cell (p := ⟨gb, j, none⟩) hgb2).trans hcell
        have hgo := allG_elem f j hd HALL.out
        obtain ⟨rfl, hsh, hfm⟩ := GIs.node (w := w2) (lo := w.heap.size + 1) (hi := w2.heap.size) hgo hgi hnd
        have hnd3 : ∀ wx, Below wr.heap.size wr wx → NdS wx (w.heap.size + 1) w2.heap.size kids A3 cp3 := fun wx hb => hnd.keep (fun p _ hp => (hb.cell (Nat.lt_of_lt_of_le hp hbw.size)).trans (hbw.cell hp)) (Nat.le_refl _) (Nat.le_refl _)
        have HNX := Lib.hid hnd3
        have HSH := Lib.hid hsh
        have HD := Lib.hid hd
        have HSTR := Lib.hid hst
        have HGI := Lib.hid hgi
        clear hrow hcell hgi hnd hbw hgo hnd3 hsh hd hst
        rcases hfm with ⟨rfl, rfl, rfl⟩ | rfl | rfl
        · go_wp2_with fail
          refine (formC_any _).mono ?_
          rintro e w5 ⟨rfl, hb5⟩
          obtain ⟨vo, acc, _, C2⟩ := (HSTR.out.below hb5).step (lo := w.heap.size + 1) (hi := w2.heap.size) (n := nn) HD.out HSH.out (nd_cut w5 _ _ _) (Nat.le_refl _) HND.out rfl
          have H2 := Lib.hid C2
          clear hb5 C2 k3
          go_wp2_with fail
          refine H2.out.mono ?_
          rintro e w6 ⟨⟨T, x, rfl⟩, hst⟩
          have HS6 := Lib.hid hst
          clear hst
          go_wp2_with fail
          go_roundw
          case rel => exact ⟨j + 1, by omega, by go_num, HS6.out⟩
          case measure => simp [intOf]; omega
        · go_wp2_with fail
          refine (formB_any _ _ _ _ _).mono ?_
          rintro e w5 ⟨rfl, hb5⟩
          obtain ⟨vo, acc, _, C2⟩ := (HSTR.out.below hb5).step (lo := w.heap.size + 1) (hi := w2.heap.size) (n := nn) HD.out HSH.out (nd_form (HNX.out w5 hb5)) (Nat.le_refl _) HND.out rfl
          have H2 := Lib.hid C2
          clear hb5 C2 k3
          go_wp2_with fail
          refine H2.out.mono ?_
          rintro e w6 ⟨⟨T, x, rfl⟩, hst⟩
          have HS6 := Lib.hid hst
          clear hst
          go_wp2_with fail
          go_roundw
          case rel => exact ⟨j + 1, by omega, by go_num, HS6.out⟩
          case measure => simp [intOf]; omega
        · go_wp2_with fail
          refine (formP_any _ _ _ _ _).mono ?_
          rintro e w5 ⟨rfl, hb5⟩
          obtain ⟨vo, acc, _, C2⟩ := (HSTR.out.below hb5).step (lo := w.heap.size + 1) (hi := w2.heap.size) (n := nn) HD.out HSH.out (nd_form (HNX.out w5 hb5)) (Nat.le_refl _) HND.out rfl
          have H2 := Lib.hid C2
          clear hb5 C2 k3
          go_wp2_with fail
          refine H2.out.mono ?_
          rintro e w6 ⟨⟨T, x, rfl⟩, hst⟩
          have HS6 := Lib.hid hst
          clear hst
          go_wp2_with fail
          go_roundw
          case rel => exact ⟨j + 1, by omega, by go_num, HS6.out⟩
          case measure => simp [intOf]; omega
      · obtain rfl : j = len := by omega
        obtain ⟨vo, acc, hN, _, hva, hb, hs⟩ := hst
        have hacc : acc = varsF [] f := by
          have h1 := Fr.drop_len f
          rw [HN.out] at h1
          rw [← hva, h1]; rfl
        subst hacc
        have c1 := hN.1.cell 1
        simp only [List.getElem?_toArray, List.getElem?_cons_zero, List.getElem?_cons_succ] at c1
        have hq := HQ.out.below hb HQ.out.lt
        have x0 := hq.cell 0
        have x1 := hq.cell 1
        have f0 := hq.frozen 0
        have f1 := hq.frozen 1
        simp only [List.getElem?_toArray, List.getElem?_cons_zero, List.getElem?_cons_succ] at x0 x1
        have hfin : ∀ a b, QOf w f (.returned (.tuple #[.agg #[.slice G f.len gcap, vo], .bool true])) ((wr.setCell ⟨w.heap.size, 0, none⟩ a).setCell ⟨w.heap.size, 1, none⟩ b) := fun a b => by
          have far : ∀ p : Addr, w.heap.size + 1 ≤ p.block → ((wr.setCell ⟨w.heap.size, 0, none⟩ a).setCell ⟨w.heap.size, 1, none⟩ b).cell? p = wr.cell? p := fun p hp => by
            refine World.cell?_of_block ?_
            rw [heap_setCell_other _ _ _ _ (by show p.block ≠ w.heap.size; omega), heap_setCell_other _ _ _ _ (by show p.block ≠ w.heap.size; omega)]
          have hlo := hN.2.2.1.lt
          refine ⟨((HB2.out.trans (hb.mono HB2.out.size)).setCell (Nat.le_refl _) _).setCell (Nat.le_refl _) _, .inr ⟨HV.out, G, gcap, vo, w2.heap.size, rfl, ?_, ⟨HB2.out.size, by have := hs; simpa [World.setCell] using (by omega : w2.heap.size ≤ wr.heap.size)⟩, ?_⟩⟩
          · exact HGL.out.keep (fun p hl hh => (far p hl).trans (hb.cell hh)) (by omega) (Nat.le_refl _)
          · refine (hN.2.2.1.mono (by omega)).keep (L := [w.heap.size]) (((Wrote.refl _ _).set_ (.inl (by simp)) _).set_ (.inl (by simp)) _) fun x hx e => ?_
            have := (hlo x hx).1
            simp at e; omega
        have HF := Lib.hid hfin
        have HQ2 := Lib.hid hq
        obtain ⟨A4, cap4, rfl, _⟩ := hN.2.2.1.read
        clear hN hva hb hq hfin
        rw [HN.out] at HF
        go_wp2_with fail
        refine bodyPost_ret (v := .tuple #[.agg #[.slice G j gcap, .slice A4 (varsF [] f).length cap4], .bool true]) ?_ rfl (HF.out _ _)
        exact results_cell_row22 Tryz.results18 _ _ w.heap.size _ _ _ rfl (set2 HQ2.out _ _) Tryz.underlying48 rfl (by kernel_rfl)
end Go.Proofs.YtohkpgpcipjpkaaGreatDoor
