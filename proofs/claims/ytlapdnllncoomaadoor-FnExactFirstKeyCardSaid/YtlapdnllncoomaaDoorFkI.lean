/- impl.FirstKey: firstKey of a structure in memory, FirstKey. Condition: the term lies in memory, the tables of signs and of powers of ten in their variables. -/
import Derived.Test.YtlapdnllncoomaaDoorProg
import Derived.Test.YtlapdnllncoomaaDoorFkS
import Derived.Test.YtlapdnllncoomaaDoorImplV
import Derived.Test.YtlapdnllncoomaaDoorSh
import Derived.Lib.AppendIntMem
import Derived.Deep.RegionHeld3
namespace Go.Proofs.YtlapdnllncoomaaDoor
open Go.RowKit

@[go_sem] theorem as_v_n2 (v : Value) (w : World) : (Instr.typeAssert (.iface 116 v) 55 102 true).run Tryd.prog w = .ok (.tuple #[.int .i64 0, .bool false]) w := by kernel_rfl
/-- strconv.Itoa. -/
theorem itoa_any (n : Int) (h : -999 ≤ n ∧ n ≤ 999) (w : World) (ht : Lib.TabIs Tryd.prog w "internal/strconv.uint64pow10" .u64 Lib.pow10Tab) :
    Calls Tryd.prog 59 #[.int .i64 n] w fun e w' => e = .returned (.string ⟨(Lib.itoa n).toArray⟩) ∧ Below w.heap.size w w' :=
  (Any.strconv_Itoa laysIT n (by omega) (by omega) w ht).mono fun e w' ⟨h1, k, os, h2⟩ => ⟨h1, by rw [h2]; exact Lib.below_grow _ w (Nat.le_refl _) k os⟩

set_option maxRecDepth 100000 in
set_option maxHeartbeats 2000000 in
/-- structure.firstKey. -/
theorem fkey_any (s : ByteArray) (f : Fr) (A : Option Addr) (cap lo hi : Nat) (d : Int) (w : World) (hk : NdS w lo hi f A cap) (hh : hi ≤ w.heap.size) (hs : shapeF f d = true)
    (hp : ∀ w1, Below w.heap.size w w1 → Lib.TabIs Tryd.prog w1 "internal/strconv.uint64pow10" .u64 Lib.pow10Tab) :
    Calls Tryd.prog 37 #[.agg #[.string s, .slice A f.len cap]] w fun e w' => e = .returned (.string ⟨(keyF f).toArray⟩) ∧ Below w.heap.size w w' := by
  have hb0 : Below w.heap.size w (w.alloc (.cells #[.string s, .slice A f.len cap] 60)) := (Below.refl _ _).alloc (Nat.le_refl _) _
  cases f with
  | nil =>
    have HB0 := Lib.hid hb0
    clear hb0 hk hh hs hp
    go_enter Tryd.func37, Tryd.ntmps37
    go_wp2_with fail
    go_ret
    exact ⟨rfl, HB0.out⟩
  | cons k1 n1 s1 kids rest =>
    obtain ⟨b, rfl, hl, hb, hrow⟩ := hk.2.2 (by simp [Fr.len])
    obtain ⟨v, c0, hv⟩ := NdRow.elem (i := 0) hrow rfl
    rw [Nat.zero_add] at c0
    have hlo : b < w.heap.size := by omega
    have k0 := (hb0.cell (p := ⟨b, 0, none⟩) hlo).trans c0
    have hf1 := first_of hs
    have HVV := keyF_cons k1 n1 s1 kids rest
    have hlen : (Fr.cons k1 n1 s1 kids rest).len = rest.len + 1 := rfl
    have hcap := hk.1
    have hcm := hk.2.1
    unfold maxLen at hcm
    rw [hlen] at hb0 hcap k0 ⊢
    have HB0 := Lib.hid hb0
    have HP := Lib.hid hp
    clear hk hh hs hrow hlen hb0 hl hb hp
    generalize rest.len = rl at *
    have t0 : ((rl : Int) + 1 == 0) = false := by simp; omega
    rcases hf1 with ⟨rfl, h1, h2⟩ | ⟨rfl, h1, h2⟩ | ⟨rfl, h1, h2⟩
    · have HV : Hid (keyF (.cons 1 n1 s1 kids rest) = []) := Lib.hid (by rw [HVV, if_pos rfl])
      clear HVV
      obtain rfl : v = .iface 116 (.int .i64 n1) := by
        rcases hv with ⟨_, h⟩ | ⟨h, _⟩ | ⟨h, _⟩
        · exact h
        · exact absurd h (by decide)
        · exact absurd h (by decide)
      go_enter Tryd.func37, Tryd.ntmps37
      go_wp2_with fail
      go_ret
      rw [HV.out]; exact ⟨rfl, HB0.out⟩
    · obtain rfl : v = .iface 102 (.int .i64 n1) := by
        rcases hv with ⟨h, _⟩ | ⟨_, h⟩ | ⟨h, _⟩
        · exact absurd h (by decide)
        · exact h
        · exact absurd h (by decide)
      have HV : Hid (keyF (.cons 2 n1 s1 kids rest) = Lib.itoa n1) := Lib.hid (by rw [HVV, if_neg (by omega), if_pos rfl])
      clear HVV
      have C1 := fun w1 ht => itoa_any n1 ⟨h1, h2⟩ w1 ht
      have H1 := Lib.hid C1
      clear C1 hv
      go_enter Tryd.func37, Tryd.ntmps37
      go_wp2_with fail
      refine (H1.out _ (HP.out _ HB0.out)).mono ?_
      rintro e w2 ⟨rfl, hb⟩
      have HB2 := Lib.hid (HB0.out.trans (hb.mono HB0.out.size))
      clear hb
      go_wp2_with fail
      go_ret
      rw [HV.out]; exact ⟨rfl, HB2.out⟩
    · obtain ⟨A', cap', rfl, hkl⟩ : ∃ A' cap', v = .iface 60 (.agg #[.string s1, .slice A' kids.len cap']) ∧ kids.len ≤ maxLen := by
        rcases hv with ⟨h, _⟩ | ⟨h, _⟩ | ⟨_, A', cap', h, hn⟩
        · exact absurd h (by decide)
        · exact absurd h (by decide)
        · exact ⟨A', cap', h, Nat.le_trans hn.1 hn.2.1⟩
      unfold maxLen at hkl
      have HV : Hid (keyF (.cons 3 n1 s1 kids rest) = s1.data.toList ++ (47 :: Lib.decDigits kids.len)) := Lib.hid (by rw [HVV, if_neg (by omega), if_neg (by omega)])
      clear HVV
      have C1 := fun w1 ht => itoa_any (kids.len : Int) ⟨by omega, by omega⟩ w1 ht
      rw [Lib.itoa_nonneg] at C1
      have hz := nameB_size h1
      have HS := Lib.hid (str_cons s1 (Lib.decDigits kids.len))
      have hdl : (Lib.decDigits kids.len).length ≤ 20 := by rw [Lib.decDigits_length]; exact Lib.nDigits_le20 _ (by omega)
      have H1 := Lib.hid C1
      have HBX := Lib.hid (fun o : Obj => HB0.out.alloc HB0.out.size o)
      generalize Lib.decDigits kids.len = l at *
      have t1 : ¬ 9223372036854775807 < s1.size + 1 := by omega
      have t2 : ¬ 9223372036854775807 < s1.size + 1 + l.length := by omega
      have hq1 : Blk ((w.alloc (.cells #[.string s, .slice (some ⟨b, 0, none⟩) (rl + 1) cap] 60)).alloc (.cells #[.string s1, .slice A' kids.len cap'] 60)) (w.heap.size + 1) 60 #[.string s1, .slice A' kids.len cap'] := by
        have h := Blk.new (w.alloc (.cells #[.string s, .slice (some ⟨b, 0, none⟩) (rl + 1) cap] 60)) 60 #[.string s1, .slice A' kids.len cap']
        simpa using h
      have HQ1 := Lib.hid hq1
      have HB1 := Lib.hid (HBX.out (.cells #[.string s1, .slice A' kids.len cap'] 60))
      have HKL : Hid (kids.len ≤ 4) := Lib.hid h2
      clear C1 h1 hv hq1 HBX
      generalize kids.len = kl at *
      go_enter Tryd.func37, Tryd.ntmps37
      go_wp2_with fail
      generalize (w.alloc (.cells #[.string s, .slice (some ⟨b, 0, none⟩) (rl + 1) cap] 60)).alloc (.cells #[.string s1, .slice A' kl cap'] 60) = W1 at *
      have x2 := HQ1.out.cell 0
      have x3 := HQ1.out.cell 1
      simp only [List.getElem?_toArray, List.getElem?_cons_zero, List.getElem?_cons_succ] at x2 x3
      go_region_held3 (fun w' => w'.cell? ⟨w.heap.size + 1, 0, none⟩ = some (.string s1) ∧ w'.cell? ⟨w.heap.size + 1, 1, none⟩ = some (.slice A' kl cap'))
        (first | exact ⟨y2, y3⟩ | exact ⟨x2, x3⟩)
        (first
          | (go_at_call 59
             refine (H1.out _ (HP.out _ HB1.out.drew)).mono ?_
             rintro e w2 ⟨rfl, hb⟩
             have hd : Below W1.heap.size W1 w2 := (Below.refl W1.heap.size W1).drew.trans hb
             have y2 := (HQ1.out.below hd HQ1.out.lt).cell 0
             have y3 := (HQ1.out.below hd HQ1.out.lt).cell 1
             simp only [List.getElem?_toArray, List.getElem?_cons_zero, List.getElem?_cons_succ] at y2 y3
             have HB2 := Lib.hid (HB1.out.trans (hd.mono HB1.out.size))
             clear hb hd))
      go_wp2_with fail
      go_ret
      rw [HV.out]
      exact ⟨congrArg _ HS.out, HB2.out⟩

set_option maxRecDepth 100000 in
set_option maxHeartbeats 1000000 in
/-- impl.FirstKey. -/
theorem implFK_any (k n : Int) (s : ByteArray) (f : Fr) (A : Option Addr) (cap lo hi : Nat) (w : World) (hk : KidsAt w lo hi f A cap) (hh : hi ≤ w.heap.size) (hf : Fits k n s) (hnd : nodes f ≤ 1048576) (ht : nv.Tab w) (hp : Lib.TabIs Tryd.prog w "internal/strconv.uint64pow10" .u64 Lib.pow10Tab) :
    Calls Tryd.prog 11 #[.agg #[.int .i64 k, .int .i64 n, .string s, .slice A f.len cap]] w fun e w' => e = .returned (.string ⟨(fkB k n s f).toArray⟩) ∧ Below w.heap.size w w' := by
  have hb0 : Below w.heap.size w (w.alloc (.cells #[.int .i64 k, .int .i64 n, .string s, .slice A f.len cap] 29)) := (Below.refl _ _).alloc (Nat.le_refl _) _
  have C1 := nodeOf_any k n s f A cap lo hi _ (hk.below hb0 hh) (Nat.le_trans hh hb0.size) hf hnd (ht.below hb0)
  have HE : Hid (fkB k n s f = if validT k n s f = true then keyF f else []) := Lib.hid rfl
  have H1 := Lib.hid C1
  have HB0 := Lib.hid hb0
  have HP := Lib.hid (Lib.tabBelow_of_tabIs hp)
  clear C1 hk hf hnd ht hb0 hp hh
  go_enter Tryd.func11, Tryd.ntmps11
  go_wp2_with fail
  refine H1.out.mono ?_
  rintro e w2 ⟨hb, hr⟩
  have HB2 := Lib.hid (HB0.out.trans (hb.mono HB0.out.size))
  clear H1
  rcases hr with ⟨hok, v, rfl, hv⟩ | ⟨hok, rfl⟩
  · have HV : Hid (fkB k n s f = keyF f) := Lib.hid (by rw [HE.out, hok]; rfl)
    have hsk : shapeF f 29 = true := by
      unfold validT shapeT at hok
      simp only [Bool.and_eq_true] at hok
      exact hok.1.2.2
    have hkind : (k = 1 ∨ k = 2) → f.len = 0 := fun h => by
      unfold validT shapeT ownB at hok
      simp only [Bool.and_eq_true, Bool.or_eq_true, decide_eq_true_eq, beq_iff_eq] at hok
      omega
    rcases hv with ⟨rfl, rfl⟩ | ⟨rfl, rfl⟩ | ⟨rfl, A2, cap2, rfl, hnds⟩
    · have HF : Hid (keyF f = []) := Lib.hid (by
        have := hkind (.inl rfl)
        cases f with
        | nil => rfl
        | cons _ _ _ _ _ => simp [Fr.len] at this)
      have C2 := fun w1 (hb : Below w.heap.size w w1) => fkey_any ByteArray.empty .nil none 0 0 0 29 w1 ⟨Nat.zero_le _, Nat.zero_le _, fun h => absurd h (by simp [Fr.len])⟩ (Nat.zero_le _) rfl (fun w2 hb2 => HP.out w2 (hb.trans (hb2.mono hb.size)))
      have H2 := Lib.hid C2
      have HBX := Lib.hid (fun o : Obj => HB2.out.alloc HB2.out.size o)
      clear hb hok hsk hkind C2
      go_wp2_with fail
      refine (H2.out _ (HBX.out _)).mono ?_
      rintro e w3 ⟨rfl, hb⟩
      have HB3 := Lib.hid ((HBX.out _).trans (hb.mono (HBX.out _).size))
      clear hb
      go_wp2_with fail
      go_ret
      rw [HV.out, HF.out]; exact ⟨rfl, HB3.out⟩
    · have HF : Hid (keyF f = []) := Lib.hid (by
        have := hkind (.inr rfl)
        cases f with
        | nil => rfl
        | cons _ _ _ _ _ => simp [Fr.len] at this)
      have C2 := fun w1 (hb : Below w.heap.size w w1) => fkey_any ByteArray.empty .nil none 0 0 0 29 w1 ⟨Nat.zero_le _, Nat.zero_le _, fun h => absurd h (by simp [Fr.len])⟩ (Nat.zero_le _) rfl (fun w2 hb2 => HP.out w2 (hb.trans (hb2.mono hb.size)))
      have H2 := Lib.hid C2
      have HBX := Lib.hid (fun o : Obj => HB2.out.alloc HB2.out.size o)
      clear hb hok hsk hkind C2
      go_wp2_with fail
      refine (H2.out _ (HBX.out _)).mono ?_
      rintro e w3 ⟨rfl, hb⟩
      have HB3 := Lib.hid ((HBX.out _).trans (hb.mono (HBX.out _).size))
      clear hb
      go_wp2_with fail
      go_ret
      rw [HV.out, HF.out]; exact ⟨rfl, HB3.out⟩
    · have hb3 : Below w2.heap.size w2 (w2.alloc (.cells #[.string s, .slice A2 f.len cap2] 60)) := (Below.refl _ _).alloc (Nat.le_refl _) _
      have C2 := fkey_any s f A2 cap2 _ _ 29 (w2.alloc (.cells #[.string s, .slice A2 f.len cap2] 60)) (hnds.keep (fun p _ hp => hb3.cell hp) (Nat.le_refl _) (Nat.le_refl _)) hb3.size hsk (fun w4 hb4 => HP.out w4 (HB2.out.trans ((hb3.trans (hb4.mono hb3.size)).mono HB2.out.size)))
      have H2 := Lib.hid C2
      have HB3 := Lib.hid (HB2.out.trans (hb3.mono HB2.out.size))
      clear hb hok hsk hkind C2 hnds hb3
      generalize f.len = fl at *
      go_wp2_with fail
      refine H2.out.mono ?_
      rintro e w4 ⟨rfl, hb⟩
      have HB4 := Lib.hid (HB3.out.trans (hb.mono HB3.out.size))
      clear hb
      go_wp2_with fail
      go_ret
      rw [HV.out]; exact ⟨rfl, HB4.out⟩
  · have HV : Hid (fkB k n s f = []) := Lib.hid (by rw [HE.out, hok]; rfl)
    clear hok hb
    go_wp2_with fail
    go_ret
    rw [HV.out]; exact ⟨rfl, HB2.out⟩
end Go.Proofs.YtlapdnllncoomaaDoor
