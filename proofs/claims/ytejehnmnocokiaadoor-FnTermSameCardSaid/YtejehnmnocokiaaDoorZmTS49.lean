/- impl.FormatTerm. Condition: the term lies in memory, the tables of signs and of powers of ten in their variables. -/
import Derived.Test.YtejehnmnocokiaaDoorProg
import Derived.Test.YtejehnmnocokiaaDoorZmTS46
import Derived.Test.YtejehnmnocokiaaDoorZmTS48
import Derived.Test.YtejehnmnocokiaaDoorImplV
import Derived.Laws.EntriesVeiled
namespace Go.Proofs.YtejehnmnocokiaaDoor
open Go.RowKit

theorem dec_ne (u : Nat) : Lib.decDigits u ≠ [] := by
  by_cases h : u < 10
  · rw [Lib.decDigits_one h]; simp
  · rw [Lib.decDigits.eq_def, dif_neg h]; simp
theorem itoa_ne (n : Int) : Lib.itoa n ≠ [] := by
  unfold Lib.itoa
  split
  · simp
  · exact dec_ne _
theorem txT_ne {k n : Int} {s : ByteArray} {f : Fr} {d : Int} (h : shapeT k n s f d = true) : 0 < (txT k n s f).length := by
  refine List.length_pos_iff.2 ?_
  rcases shapeT_kind3 h with ⟨rfl, _⟩ | ⟨rfl, _⟩ | rfl
  · rw [txT_var]; unfold letB; simp
  · rw [txT_int]; exact itoa_ne n
  · cases hp : pairB 3 s f.len
    · rw [txT_str hp]
      have := name_pos3 (shapeT_struct h).2.1
      simp [this]
    · obtain ⟨k1, n1, s1, kd1, k2, n2, s2, kd2, rfl, _, _⟩ := pair_yes n hp
      rw [txT_pair n hp]; simp

set_option maxRecDepth 100000 in
set_option maxHeartbeats 2000000 in
/-- impl.FormatTerm. -/
theorem implFm_any (k n : Int) (s : ByteArray) (f : Fr) (A : Option Addr) (cap lo hi : Nat) (w : World) (hk : KidsAt w lo hi f A cap) (hh : hi ≤ w.heap.size) (hf : Fits k n s) (hnd : nodes f ≤ 1048576) (ht : nv.Tab w) (hp : Lib.TabIs Tryd.prog w "internal/strconv.uint64pow10" .u64 Lib.pow10Tab) :
    Calls Tryd.prog 8 #[.agg #[.int .i64 k, .int .i64 n, .string s, .slice A f.len cap]] w fun e w' => e = .returned (.string ⟨(fmB k n s f).toArray⟩) ∧ Below w.heap.size w w' := by
  have hb0 : Below w.heap.size w (w.alloc (.cells #[.int .i64 k, .int .i64 n, .string s, .slice A f.len cap] 29)) := (Below.refl _ _).alloc (Nat.le_refl _) _
  have C1 := nodeOf_any k n s f A cap lo hi _ (hk.below hb0 hh) (Nat.le_trans hh hb0.size) hf hnd (ht.below hb0)
  have HE : Hid (fmB k n s f = if validT k n s f = true then txT k n s f else []) := Lib.hid rfl
  have H1 := Lib.hid C1
  have HB0 := Lib.hid hb0
  have HP := Lib.hid (Lib.tabBelow_of_tabIs hp)
  have HND := Lib.hid hnd
  have hmf : ∀ (fn : Fn) (first cap : Array Value) (w : World), (Instr.makeFunc fn first cap).run Tryd.prog w = .ok (.func fn first cap) w := fun _ _ _ _ => rfl
  clear C1 hk hf hnd ht hb0 hp hh
  go_enter Tryd.func8, Tryd.ntmps8
  go_wp2_with fail
  refine H1.out.mono ?_
  rintro e w2 ⟨hb, hr⟩
  have hb2 := HB0.out.trans (hb.mono HB0.out.size)
  rcases hr with ⟨hok, v, rfl, hv⟩ | ⟨hok, rfl⟩
  · have hs : shapeT k n s f 30 = true := by unfold validT at hok; rw [Bool.and_eq_true] at hok; exact hok.1
    have HV : Hid (fmB k n s f = txT k n s f) := Lib.hid (by rw [HE.out, hok]; rfl)
    have hl := (txT_shape hs).1
    have hlt : (txT k n s f).length ≤ 1073741824 := by have := HND.out; omega
    have hpos := txT_ne hs
    have C2 := fun W (hq : Blk W w2.heap.size 47 #[.slice none 0 0, fW w2.heap.size]) (hb : Below w2.heap.size w2 W) => tw_all f.size s f (Nat.le_refl _) k n 30 v _ w2.heap.size w2.heap.size [] W hs (hv.keep (fun p _ hp => hb.cell hp) (Nat.le_refl _) (Nat.le_refl _)) (Nat.le_refl _) ⟨_, hq, World.ownsRow_nil _ _ _ _⟩ (by simpa using hlt) (fun w' hb' => HP.out w' ((hb2.trans (hb.mono hb2.size)).trans (hb'.mono hb2.size))) HND.out
    obtain ⟨T0, x0, rfl⟩ := hv.iface
    have H2 := Lib.hid C2
    have HB2 := Lib.hid hb2
    have HPOS := Lib.hid hpos
    have hnew := Blk.new w2 47 #[.slice none 0 0, fW w2.heap.size]
    have hbn : Below w2.heap.size w2 (w2.alloc (.cells #[.slice none 0 0, fW w2.heap.size] 47)) := (Below.refl _ _).alloc (Nat.le_refl _) _
    have C3 := H2.out _ hnew hbn
    unfold fW at C3 hbn
    have H3 := Lib.hid C3
    have HBN := Lib.hid hbn
    clear hok hs hl hv hb hb2 C2 C3 hnew hbn H1 hpos
    go_wp2_with fail
    refine H3.out.mono ?_
    rintro e w3 ⟨rfl, hw3, htf3⟩
    obtain ⟨tv, hq3, ho3⟩ := hw3
    rw [List.nil_append] at ho3
    have HFB : Hid (Below w.heap.size w w3) := Lib.hid ((HB2.out.trans (HBN.out.mono HB2.out.size)).trans (htf3.1.mono HB2.out.size))
    have y0 := hq3.cell 0
    simp only [List.getElem?_toArray, List.getElem?_cons_zero] at y0
    clear hq3 htf3
    generalize txT k n s f = L at *
    rcases ho3.2 with ⟨rfl, h0⟩ | ⟨g, cap3, cur, rfl, _⟩
    · exact absurd h0 (by have := HPOS.out; omega)
    · have hcv := run_convert_bytes_back (P := Tryd.prog) w3 33 9 5 ⟨g, 0, none⟩ cap3 L Tryd.underlying33 Tryd.underlying5 Tryd.underlying9 (fun j hj => ho3.cells (g := g) rfl j _ (by simp [Lib.byteCells, hj]))
      clear ho3
      go_wp2_with fail
      go_ret
      rw [HV.out]; exact ⟨rfl, HFB.out⟩
  · have HV : Hid (fmB k n s f = []) := Lib.hid (by rw [HE.out, hok]; rfl)
    have HB2 := Lib.hid hb2
    clear hok hb hb2
    go_wp2_with fail
    go_ret
    rw [HV.out]; exact ⟨rfl, HB2.out⟩
end Go.Proofs.YtejehnmnocokiaaDoor
