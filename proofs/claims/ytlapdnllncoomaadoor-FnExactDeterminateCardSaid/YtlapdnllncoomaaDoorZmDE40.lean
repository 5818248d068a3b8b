/- The model's FirstKey: spec.l7Key, FirstKey. Condition: the term lies in memory (and is well-formed, for l7Key). -/
import Derived.Test.YtlapdnllncoomaaDoorProg
import Derived.Test.YtlapdnllncoomaaDoorFk
import Derived.Test.YtlapdnllncoomaaDoorZmDE39
import Derived.Test.YtlapdnllncoomaaDoorSpecC
import Derived.Test.YtlapdnllncoomaaDoorImplV
import Derived.Deep.RegionHeld3
import Derived.Shelf.Strconv.Itoa3
import Derived.Lib.AppendIntMem
namespace Go.Proofs.YtlapdnllncoomaaDoor
open Go.RowKit

theorem str_key (s : ByteArray) (l : List UInt8) : (.string (s ++ ⟨#[47]⟩ ++ ⟨l.toArray⟩) : Value) = .string ⟨(s.data.toList ++ (47 :: l)).toArray⟩ := by
  have h := str_own s
  rw [show ((⟨#[47]⟩ : ByteArray)) = ⟨[(47 : UInt8)].toArray⟩ from rfl]
  rw [congrArg (fun x : ByteArray => (Value.string (x ++ ⟨[(47 : UInt8)].toArray⟩ ++ ⟨l.toArray⟩))) h]
  rw [ByteArray.mk_append_mk, ByteArray.mk_append_mk]
  simp
set_option maxRecDepth 100000 in
set_option maxHeartbeats 2000000 in
/-- spec.l7Key. -/
theorem l7Key_any (k n : Int) (s : ByteArray) (f : Fr) (A : Option Addr) (cap lo hi : Nat) (d : Int) (w : World) (hk : KidsAt w lo hi f A cap) (hh : hi ≤ w.heap.size) (hs : shapeF f d = true) :
    Calls Tryd.prog 34 #[.agg #[.int .i64 k, .int .i64 n, .string s, .slice A f.len cap]] w fun e w' => e = .returned (.string ⟨(keyF f).toArray⟩) ∧ Below w.heap.size w w' := by
  have hb0 : Below w.heap.size w (w.alloc (.cells #[.int .i64 k, .int .i64 n, .string s, .slice A f.len cap] 29)) := (Below.refl _ _).alloc (Nat.le_refl _) _
  cases f with
  | nil =>
    have HB0 := Lib.hid hb0
    clear hb0 hk hh hs
    go_enter Tryd.func34, Tryd.ntmps34
    go_wp2_with fail
    go_ret
    exact ⟨rfl, HB0.out⟩
  | cons k1 n1 s1 kids rest =>
    obtain ⟨b, o, rfl, hl, hb, hrow⟩ := hk.2.2 (by simp [Fr.len])
    obtain ⟨hfit, A', cap', c0, c1, c2, c3, hkid⟩ := RowAt.elem (i := 0) hrow rfl
    rw [Nat.zero_mul, Nat.add_zero] at c0 c1 c2 c3
    have hlo : b < w.heap.size := by omega
    have hf1 := first_of hs
    have HVV := keyF_cons k1 n1 s1 kids rest
    have hlen : (Fr.cons k1 n1 s1 kids rest).len = rest.len + 1 := rfl
    have hcap := hk.1
    have hcm := hk.2.1
    unfold maxLen at hcm
    rw [hlen] at hb0 hcap ⊢
    have hb1 : Below w.heap.size w ((w.alloc (.cells #[.int .i64 k, .int .i64 n, .string s, .slice (some ⟨b, o, none⟩) (rest.len + 1) cap] 29)).alloc (.cells #[.int .i64 k1, .int .i64 n1, .string s1, .slice A' kids.len cap'] 29)) := hb0.alloc hb0.size _
    have HB1 := Lib.hid hb1
    have hkl := Nat.le_trans hkid.1 hkid.2.1
    unfold maxLen at hkl
    clear hk hh hs hrow hkid hfit hlen hb0 hb1 hl hb
    generalize rest.len = rl at *
    rcases hf1 with ⟨rfl, h1, h2⟩ | ⟨rfl, h1, h2⟩ | ⟨rfl, h1, h2⟩
    · have HV : Hid (keyF (.cons 1 n1 s1 kids rest) = []) := Lib.hid (by rw [HVV, if_pos rfl])
      clear HVV
      go_enter Tryd.func34, Tryd.ntmps34
      go_wp2_with fail
      go_ret
      rw [HV.out]; exact ⟨rfl, HB1.out⟩
    · have HV : Hid (keyF (.cons 2 n1 s1 kids rest) = Lib.itoa n1) := Lib.hid (by rw [HVV, if_neg (by omega), if_pos rfl])
      clear HVV
      have C1 := fun w1 => dec_any n1 ⟨h1, h2⟩ w1
      have H1 := Lib.hid C1
      clear C1
      go_enter Tryd.func34, Tryd.ntmps34
      go_wp2_with fail
      refine (H1.out _).mono ?_
      rintro e w2 ⟨rfl, hb⟩
      have HB2 := Lib.hid (HB1.out.trans (hb.mono HB1.out.size))
      clear hb
      go_wp2_with fail
      go_ret
      rw [HV.out]; exact ⟨rfl, HB2.out⟩
    · have HV : Hid (keyF (.cons 3 n1 s1 kids rest) = s1.data.toList ++ (47 :: Lib.decDigits kids.len)) := Lib.hid (by rw [HVV, if_neg (by omega), if_neg (by omega)])
      clear HVV
      have C1 := fun w1 => dec18_any kids.len (by omega) w1
      have hz := nameB_size h1
      have HS := Lib.hid (str_key s1 (Lib.decDigits kids.len))
      have hdl : (Lib.decDigits kids.len).length ≤ 20 := by rw [Lib.decDigits_length]; exact Lib.nDigits_le20 _ (by omega)
      have H1 := Lib.hid C1
      generalize Lib.decDigits kids.len = l at *
      have hq1 : Blk ((w.alloc (.cells #[.int .i64 k, .int .i64 n, .string s, .slice (some ⟨b, o, none⟩) (rl + 1) cap] 29)).alloc (.cells #[.int .i64 3, .int .i64 n1, .string s1, .slice A' kids.len cap'] 29)) (w.heap.size + 1) 29 #[.int .i64 3, .int .i64 n1, .string s1, .slice A' kids.len cap'] := by
        have h := Blk.new (w.alloc (.cells #[.int .i64 k, .int .i64 n, .string s, .slice (some ⟨b, o, none⟩) (rl + 1) cap] 29)) 29 #[.int .i64 3, .int .i64 n1, .string s1, .slice A' kids.len cap']
        simpa using h
      have HQ1 := Lib.hid hq1
      have HKL : Hid (kids.len ≤ 4) := Lib.hid h2
      clear C1 h1 hq1
      have t1 : ¬ 9223372036854775807 < s1.size + 1 := by omega
      have t2 : ¬ 9223372036854775807 < s1.size + 1 + l.length := by omega
      generalize kids.len = kl at *
      go_enter Tryd.func34, Tryd.ntmps34
      go_wp2_with fail
      generalize (w.alloc (.cells #[.int .i64 k, .int .i64 n, .string s, .slice (some ⟨b, o, none⟩) (rl + 1) cap] 29)).alloc (.cells #[.int .i64 3, .int .i64 n1, .string s1, .slice A' kl cap'] 29) = W1 at *
      obtain ⟨x0, x1, x2, x3⟩ := cells4 HQ1.out
      clear x0 x1
      go_region_held3 (fun w' => w'.cell? ⟨w.heap.size + 1, 2, none⟩ = some (.string s1) ∧ w'.cell? ⟨w.heap.size + 1, 3, none⟩ = some (.slice A' kl cap'))
        (first | exact ⟨y2, y3⟩ | exact ⟨x2, x3⟩)
        (first
          | (go_at_call 57
             refine (H1.out _).mono ?_
             rintro e w2 ⟨rfl, hb⟩
             have hd : Below W1.heap.size W1 w2 := (Below.refl W1.heap.size W1).drew.trans hb
             obtain ⟨y0, y1, y2, y3⟩ := cells4 (HQ1.out.below hd HQ1.out.lt)
             clear y0 y1
             have HB2 := Lib.hid (HB1.out.trans (hd.mono HB1.out.size))
             clear hb hd))
      go_wp2_with fail
      go_ret
      rw [HV.out]
      exact ⟨congrArg _ HS.out, HB2.out⟩

set_option maxRecDepth 100000 in
set_option maxHeartbeats 1000000 in
/-- spec.FirstKey. -/
theorem specFK_any (k n : Int) (s : ByteArray) (f : Fr) (A : Option Addr) (cap lo hi : Nat) (w : World) (hk : KidsAt w lo hi f A cap) (hh : hi ≤ w.heap.size) (hf : Fits k n s) (hnd : nodes f ≤ 1048576) :
    Calls Tryd.prog 9 #[.agg #[.int .i64 k, .int .i64 n, .string s, .slice A f.len cap]] w fun e w' => e = .returned (.string ⟨(fkB k n s f).toArray⟩) ∧ Below w.heap.size w w' := by
  have hb0 : Below w.heap.size w (w.alloc (.cells #[.int .i64 k, .int .i64 n, .string s, .slice A f.len cap] 29)) := (Below.refl _ _).alloc (Nat.le_refl _) _
  have hq0 := Blk.new w 29 #[.int .i64 k, .int .i64 n, .string s, .slice A f.len cap]
  have C1 := specValid_any k n s f A cap lo hi _ (hk.below hb0 hh) (Nat.le_trans hh hb0.size) hf hnd
  have HE : Hid (fkB k n s f = if validT k n s f = true then keyF f else []) := Lib.hid rfl
  have C2 := fun w1 (hb : Below w.heap.size w w1) (hv : validT k n s f = true) => l7Key_any k n s f A cap lo hi 29 w1 (hk.below hb hh) (Nat.le_trans hh hb.size) (by
    unfold validT shapeT at hv
    simp only [Bool.and_eq_true] at hv
    exact hv.1.2.2)
  have H1 := Lib.hid C1
  have H2 := Lib.hid C2
  have HB0 := Lib.hid hb0
  have HQ0 := Lib.hid hq0
  clear C1 C2 hk hh hf hnd hb0 hq0
  generalize f.len = fl at *
  cases hv : validT k n s f
  · have HV : Hid (fkB k n s f = []) := Lib.hid (by rw [HE.out, hv]; rfl)
    rw [hv] at H1
    clear H2 HE hv
    go_enter Tryd.func9, Tryd.ntmps9
    go_wp2_with fail
    refine H1.out.mono ?_
    rintro e w2 ⟨rfl, hb⟩
    have HB2 := Lib.hid (HB0.out.trans (hb.mono HB0.out.size))
    clear hb
    go_wp2_with fail
    go_ret
    rw [HV.out]; exact ⟨rfl, HB2.out⟩
  · have HV : Hid (fkB k n s f = keyF f) := Lib.hid (by rw [HE.out, hv]; rfl)
    have H3 := Lib.hid (fun w1 hb => H2.out w1 hb hv)
    rw [hv] at H1
    clear H2 HE hv
    go_enter Tryd.func9, Tryd.ntmps9
    go_wp2_with fail
    refine H1.out.mono ?_
    rintro e w2 ⟨rfl, hb⟩
    have hq := HQ0.out.below hb HQ0.out.lt
    obtain ⟨a0, a1, a2, a3⟩ := cells4 hq
    have HB2 := Lib.hid (HB0.out.trans (hb.mono HB0.out.size))
    clear hb hq
    go_wp2_with fail
    refine (H3.out _ HB2.out).mono ?_
    rintro e w3 ⟨rfl, hb⟩
    have HB3 := Lib.hid (HB2.out.trans (hb.mono HB2.out.size))
    clear hb
    go_wp2_with fail
    go_ret
    rw [HV.out]; exact ⟨rfl, HB3.out⟩
end Go.Proofs.YtlapdnllncoomaaDoor

/- The layings of the numbers' texts (strconv) at this program: the numbers that its text has here. No condition. -/
namespace Go.Proofs.YtlapdnllncoomaaDoor
open Go.Proofs Go.Shelf
def laysIT_ren : Go.Shelf.Ren := ⟨fun | 171 => 59 | 243 => 72 | 246 => 78 | 283 => 84 | 284 => 85 | 285 => 86 | 286 => 87 | 129 => 94 | 317 => 93 | 318 => 95 | 319 => 96 | 320 => 97 | 337 => 99 | 338 => 100 | n => n, fun | 3 => 3 | 9 => 9 | 2 => 2 | 4 => 4 | 171 => 129 | 0 => 0 | 53 => 130 | 37 => 112 | 5 => 5 | 173 => 133 | 212 => 142 | 51 => 143 | 20 => 20 | 213 => 144 | 46 => 145 | 232 => 151 | 233 => 152 | n => n, fun | 17 => 1 | 18 => 3 | 19 => 4 | n => n⟩
theorem laysIT : Go.Proofs.LaysM.n171 Tryd.prog laysIT_ren := {
  mixed := by kernel_rfl
  f129 := Tryd.func94.trans (congrArg some (by kernel_rfl))
  f171 := Tryd.func59.trans (congrArg some (by kernel_rfl))
  f243 := Tryd.func72.trans (congrArg some (by kernel_rfl))
  f246 := Tryd.func78.trans (congrArg some (by kernel_rfl))
  f283 := Tryd.func84.trans (congrArg some (by kernel_rfl))
  f284 := Tryd.func85.trans (congrArg some (by kernel_rfl))
  f285 := Tryd.func86.trans (congrArg some (by kernel_rfl))
  f286 := Tryd.func87.trans (congrArg some (by kernel_rfl))
  f317 := Tryd.func93.trans (congrArg some (by kernel_rfl))
  f318 := Tryd.func95.trans (congrArg some (by kernel_rfl))
  f319 := Tryd.func96.trans (congrArg some (by kernel_rfl))
  f320 := Tryd.func97.trans (congrArg some (by kernel_rfl))
  f337 := Tryd.func99.trans (congrArg some (by kernel_rfl))
  f338 := Tryd.func100.trans (congrArg some (by kernel_rfl))
  t0 := Tryd.underlying0
  a0 := Tryd.isAgg0
  z0 := Tryd.sizeOf0
  v0 := Tryd.zeroValue0
  t2 := Tryd.underlying2
  a2 := Tryd.isAgg2
  z2 := Tryd.sizeOf2
  v2 := Tryd.zeroValue2
  t3 := Tryd.underlying3
  a3 := Tryd.isAgg3
  z3 := Tryd.sizeOf3
  v3 := Tryd.zeroValue3
  t4 := Tryd.underlying4
  a4 := Tryd.isAgg4
  z4 := Tryd.sizeOf4
  v4 := Tryd.zeroValue4
  t5 := Tryd.underlying5
  a5 := Tryd.isAgg5
  z5 := Tryd.sizeOf5
  v5 := Tryd.zeroValue5
  t9 := Tryd.underlying9
  a9 := Tryd.isAgg9
  z9 := Tryd.sizeOf9
  v9 := Tryd.zeroValue9
  t20 := Tryd.underlying20
  a20 := Tryd.isAgg20
  z20 := Tryd.sizeOf20
  v20 := Tryd.zeroValue20
  t37 := Tryd.underlying112
  a37 := Tryd.isAgg112
  z37 := Tryd.sizeOf112
  v37 := Tryd.zeroValue112
  t46 := Tryd.underlying145
  a46 := Tryd.isAgg145
  z46 := Tryd.sizeOf145
  v46 := Tryd.zeroValue145
  t51 := Tryd.underlying143
  a51 := Tryd.isAgg143
  z51 := Tryd.sizeOf143
  v51 := Tryd.zeroValue143
  t53 := Tryd.underlying130
  a53 := Tryd.isAgg130
  z53 := Tryd.sizeOf130
  v53 := Tryd.zeroValue130
  t171 := Tryd.underlying129
  a171 := Tryd.isAgg129
  z171 := Tryd.sizeOf129
  v171 := Tryd.zeroValue129
  t173 := Tryd.underlying133
  a173 := Tryd.isAgg133
  z173 := Tryd.sizeOf133
  v173 := Tryd.zeroValue133
  t212 := Tryd.underlying142
  a212 := Tryd.isAgg142
  z212 := Tryd.sizeOf142
  v212 := Tryd.zeroValue142
  t213 := Tryd.underlying144
  a213 := Tryd.isAgg144
  z213 := Tryd.sizeOf144
  t232 := Tryd.underlying151
  a232 := Tryd.isAgg151
  z232 := Tryd.sizeOf151
  v232 := Tryd.zeroValue151
  t233 := Tryd.underlying152
  a233 := Tryd.isAgg152
  z233 := Tryd.sizeOf152
  v233 := Tryd.zeroValue152
  g17 := by kernel_rfl
  g18 := by kernel_rfl
  g19 := by kernel_rfl
  i0 := by kernel_rfl
  i2 := by kernel_rfl
  i3 := by kernel_rfl
  i4 := by kernel_rfl
  i5 := by kernel_rfl
  i9 := by kernel_rfl
  i20 := by kernel_rfl
  i37 := by kernel_rfl
  i46 := by kernel_rfl
  i51 := by kernel_rfl
  i53 := by kernel_rfl
  i171 := by kernel_rfl
  i173 := by kernel_rfl
  i212 := by kernel_rfl
  i232 := by kernel_rfl
  i233 := by kernel_rfl
  m17 := by kernel_rfl
  m18 := by kernel_rfl
  m19 := by kernel_rfl }
end Go.Proofs.YtlapdnllncoomaaDoor

/- impl.FirstKey: firstKey of a structure in memory, FirstKey. Condition: the term lies in memory, the tables of signs and of powers of ten in their variables. -/
namespace Go.Proofs.YtlapdnllncoomaaDoor
open Go.RowKit

@[go_sem] theorem as_v_n2 (v : Value) (w : World) : (Instr.typeAssert (.iface 116 v) 55 102 true).run Tryd.prog w = .ok (.tuple #[.int .i64 0, .bool false]) w := by kernel_rfl
/-- strconv.Itoa. -/
theorem itoa_any (n : Int) (h : -999 ≤ n ∧ n ≤ 999) (w : World) (ht : Lib.TabIs Tryd.prog w "internal/strconv.uint64pow10" .u64 Lib.pow10Tab) :
    Calls Tryd.prog 59 #[.int .i64 n] w fun e w' => e = .returned (.string ⟨(Lib.itoa n).toArray⟩) ∧ Below w.heap.size w w' :=
  (Any.strconv_Itoa laysIT n (by omega) (by omega) w ht).mono fun e w' ⟨h1, k, os, h2⟩ => ⟨h1, by rw [h2]; exact Lib.below_grow _ w (Nat.le_refl _) k os⟩

set_option maxRecDepth 100000 in
set_option maxHeartbeats 2000000 in
/-- structure.firstKey. -/
theorem fkey_any (s : ByteArray) (f : Fr) (A : Option Addr) (cap lo hi : Nat) (d : Int) (w : World) (hk : NdS w lo hi f A cap) (hh : hi ≤ w.heap.size) (hs : shapeF f d = true)
    (hp : ∀ w1, Below w.heap.size w w1 → Lib.TabIs Tryd.prog w1 "internal/strconv.uint64pow10" .u64 Lib.pow10Tab) :
    Calls Tryd.prog 37 #[.agg #[.string s, .slice A f.len cap]] w fun e w' => e = .returned (.string ⟨(keyF f).toArray⟩) ∧ Below w.heap.size w w' := by
  have hb0 : Below w.heap.size w (w.alloc (.cells #[.string s, .slice A f.len cap] 60)) := (Below.refl _ _).alloc (Nat.le_refl _) _
  cases f with
  | nil =>
    have HB0 := Lib.hid hb0
    clear hb0 hk hh hs hp
    go_enter Tryd.func37, Tryd.ntmps37
    go_wp2_with fail
    go_ret
    exact ⟨rfl, HB0.out⟩
  | cons k1 n1 s1 kids rest =>
    obtain ⟨b, rfl, hl, hb, hrow⟩ := hk.2.2 (by simp [Fr.len])
    obtain ⟨v, c0, hv⟩ := NdRow.elem (i := 0) hrow rfl
    rw [Nat.zero_add] at c0
    have hlo : b < w.heap.size := by omega
    have k0 := (hb0.cell (p := ⟨b, 0, none⟩) hlo).trans c0
    have hf1 := first_of hs
    have HVV := keyF_cons k1 n1 s1 kids rest
    have hlen : (Fr.cons k1 n1 s1 kids rest).len = rest.len + 1 := rfl
    have hcap := hk.1
    have hcm := hk.2.1
    unfold maxLen at hcm
    rw [hlen] at hb0 hcap k0 ⊢
    have HB0 := Lib.hid hb0
    have HP := Lib.hid hp
    clear hk hh hs hrow hlen hb0 hl hb hp
    generalize rest.len = rl at *
    have t0 : ((rl : Int) + 1 == 0) = false := by simp; omega
    rcases hf1 with ⟨rfl, h1, h2⟩ | ⟨rfl, h1, h2⟩ | ⟨rfl, h1, h2⟩
    · have HV : Hid (keyF (.cons 1 n1 s1 kids rest) = []) := Lib.hid (by rw [HVV, if_pos rfl])
      clear HVV
      obtain rfl : v = .iface 116 (.int .i64 n1) := by
        rcases hv with ⟨_, h⟩ | ⟨h, _⟩ | ⟨h, _⟩
        · exact h
        · exact absurd h (by decide)
        · exact absurd h (by decide)
      go_enter Tryd.func37, Tryd.ntmps37
      go_wp2_with fail
      go_ret
      rw [HV.out]; exact ⟨rfl, HB0.out⟩
    · obtain rfl : v = .iface 102 (.int .i64 n1) := by
        rcases hv with ⟨h, _⟩ | ⟨_, h⟩ | ⟨h, _⟩
        · exact absurd h (by decide)
        · exact h
        · exact absurd h (by decide)
      have HV : Hid (keyF (.cons 2 n1 s1 kids rest) = Lib.itoa n1) := Lib.hid (by rw [HVV, if_neg (by omega), if_pos rfl])
      clear HVV
      have C1 := fun w1 ht => itoa_any n1 ⟨h1, h2⟩ w1 ht
      have H1 := Lib.hid C1
      clear C1 hv
      go_enter Tryd.func37, Tryd.ntmps37
      go_wp2_with fail
      refine (H1.out _ (HP.out _ HB0.out)).mono ?_
      rintro e w2 ⟨rfl, hb⟩
      have HB2 := Lib.hid (HB0.out.trans (hb.mono HB0.out.size))
      clear hb
      go_wp2_with fail
      go_ret
      rw [HV.out]; exact ⟨rfl, HB2.out⟩
    · obtain ⟨A', cap', rfl, hkl⟩ : ∃ A' cap', v = .iface 60 (.agg #[.string s1, .slice A' kids.len cap']) ∧ kids.len ≤ maxLen := by
        rcases hv with ⟨h, _⟩ | ⟨h, _⟩ | ⟨_, A', cap', h, hn⟩
        · exact absurd h (by decide)
        · exact absurd h (by decide)
        · exact ⟨A', cap', h, Nat.le_trans hn.1 hn.2.1⟩
      unfold maxLen at hkl
      have HV : Hid (keyF (.cons 3 n1 s1 kids rest) = s1.data.toList ++ (47 :: Lib.decDigits kids.len)) := Lib.hid (by rw [HVV, if_neg (by omega), if_neg (by omega)])
      clear HVV
      have C1 := fun w1 ht => itoa_any (kids.len : Int) ⟨by omega, by omega⟩ w1 ht
      rw [Lib.itoa_nonneg] at C1
      have hz := nameB_size h1
      have HS := Lib.hid (str_key s1 (Lib.decDigits kids.len))
      have hdl : (Lib.decDigits kids.len).length ≤ 20 := by rw [Lib.decDigits_length]; exact Lib.nDigits_le20 _ (by omega)
      have H1 := Lib.hid C1
      have HBX := Lib.hid (fun o : Obj => HB0.out.alloc HB0.out.size o)
      generalize Lib.decDigits kids.len = l at *
      have t1 : ¬ 9223372036854775807 < s1.size + 1 := by omega
      have t2 : ¬ 9223372036854775807 < s1.size + 1 + l.length := by omega
      have hq1 : Blk ((w.alloc (.cells #[.string s, .slice (some ⟨b, 0, none⟩) (rl + 1) cap] 60)).alloc (.cells #[.string s1, .slice A' kids.len cap'] 60)) (w.heap.size + 1) 60 #[.string s1, .slice A' kids.len cap'] := by
        have h := Blk.new (w.alloc (.cells #[.string s, .slice (some ⟨b, 0, none⟩) (rl + 1) cap] 60)) 60 #[.string s1, .slice A' kids.len cap']
        simpa using h
      have HQ1 := Lib.hid hq1
      have HB1 := Lib.hid (HBX.out (.cells #[.string s1, .slice A' kids.len cap'] 60))
      have HKL : Hid (kids.len ≤ 4) := Lib.hid h2
      clear C1 h1 hv hq1 HBX
      generalize kids.len = kl at *
      go_enter Tryd.func37, Tryd.ntmps37
      go_wp2_with fail
      generalize (w.alloc (.cells #[.string s, .slice (some ⟨b, 0, none⟩) (rl + 1) cap] 60)).alloc (.cells #[.string s1, .slice A' kl cap'] 60) = W1 at *
      have x2 := HQ1.out.cell 0
      have x3 := HQ1.out.cell 1
      simp only [List.getElem?_toArray, List.getElem?_cons_zero, List.getElem?_cons_succ] at x2 x3
      go_region_held3 (fun w' => w'.cell? ⟨w.heap.size + 1, 0, none⟩ = some (.string s1) ∧ w'.cell? ⟨w.heap.size + 1, 1, none⟩ = some (.slice A' kl cap'))
        (first | exact ⟨y2, y3⟩ | exact ⟨x2, x3⟩)
        (first
          | (go_at_call 59
             refine (H1.out _ (HP.out _ HB1.out.drew)).mono ?_
             rintro e w2 ⟨rfl, hb⟩
             have hd : Below W1.heap.size W1 w2 := (Below.refl W1.heap.size W1).drew.trans hb
             have y2 := (HQ1.out.below hd HQ1.out.lt).cell 0
             have y3 := (HQ1.out.below hd HQ1.out.lt).cell 1
             simp only [List.getElem?_toArray, List.getElem?_cons_zero, List.getElem?_cons_succ] at y2 y3
             have HB2 := Lib.hid (HB1.out.trans (hd.mono HB1.out.size))
             clear hb hd))
      go_wp2_with fail
      go_ret
      rw [HV.out]
      exact ⟨congrArg _ HS.out, HB2.out⟩

set_option maxRecDepth 100000 in
set_option maxHeartbeats 1000000 in
/-- impl.FirstKey. -/
theorem implFK_any (k n : Int) (s : ByteArray) (f : Fr) (A : Option Addr) (cap lo hi : Nat) (w : World) (hk : KidsAt w lo hi f A cap) (hh : hi ≤ w.heap.size) (hf : Fits k n s) (hnd : nodes f ≤ 1048576) (ht : nv.Tab w) (hp : Lib.TabIs Tryd.prog w "internal/strconv.uint64pow10" .u64 Lib.pow10Tab) :
    Calls Tryd.prog 11 #[.agg #[.int .i64 k, .int .i64 n, .string s, .slice A f.len cap]] w fun e w' => e = .returned (.string ⟨(fkB k n s f).toArray⟩) ∧ Below w.heap.size w w' := by
  have hb0 : Below w.heap.size w (w.alloc (.cells #[.int .i64 k, .int .i64 n, .string s, .slice A f.len cap] 29)) := (Below.refl _ _).alloc (Nat.le_refl _) _
  have C1 := nodeOf_any k n s f A cap lo hi _ (hk.below hb0 hh) (Nat.le_trans hh hb0.size) hf hnd (ht.below hb0)
  have HE : Hid (fkB k n s f = if validT k n s f = true then keyF f else []) := Lib.hid rfl
  have H1 := Lib.hid C1
  have HB0 := Lib.hid hb0
  have HP := Lib.hid (Lib.tabBelow_of_tabIs hp)
  clear C1 hk hf hnd ht hb0 hp hh
  go_enter Tryd.func11, Tryd.ntmps11
  go_wp2_with fail
  refine H1.out.mono ?_
  rintro e w2 ⟨hb, hr⟩
  have HB2 := Lib.hid (HB0.out.trans (hb.mono HB0.out.size))
  clear H1
  rcases hr with ⟨hok, v, rfl, hv⟩ | ⟨hok, rfl⟩
  · have HV : Hid (fkB k n s f = keyF f) := Lib.hid (by rw [HE.out, hok]; rfl)
    have hsk : shapeF f 29 = true := by
      unfold validT shapeT at hok
      simp only [Bool.and_eq_true] at hok
      exact hok.1.2.2
    have hkind : (k = 1 ∨ k = 2) → f.len = 0 := fun h => by
      unfold validT shapeT ownB at hok
      simp only [Bool.and_eq_true, Bool.or_eq_true, decide_eq_true_eq, beq_iff_eq] at hok
      omega
    rcases hv with ⟨rfl, rfl⟩ | ⟨rfl, rfl⟩ | ⟨rfl, A2, cap2, rfl, hnds⟩
    · have HF : Hid (keyF f = []) := Lib.hid (by
        have := hkind (.inl rfl)
        cases f with
        | nil => rfl
        | cons _ _ _ _ _ => simp [Fr.len] at this)
      have C2 := fun w1 (hb : Below w.heap.size w w1) => fkey_any ByteArray.empty .nil none 0 0 0 29 w1 ⟨Nat.zero_le _, Nat.zero_le _, fun h => absurd h (by simp [Fr.len])⟩ (Nat.zero_le _) rfl (fun w2 hb2 => HP.out w2 (hb.trans (hb2.mono hb.size)))
      have H2 := Lib.hid C2
      have HBX := Lib.hid (fun o : Obj => HB2.out.alloc HB2.out.size o)
      clear hb hok hsk hkind C2
      go_wp2_with fail
      refine (H2.out _ (HBX.out _)).mono ?_
      rintro e w3 ⟨rfl, hb⟩
      have HB3 := Lib.hid ((HBX.out _).trans (hb.mono (HBX.out _).size))
      clear hb
      go_wp2_with fail
      go_ret
      rw [HV.out, HF.out]; exact ⟨rfl, HB3.out⟩
    · have HF : Hid (keyF f = []) := Lib.hid (by
        have := hkind (.inr rfl)
        cases f with
        | nil => rfl
        | cons _ _ _ _ _ => simp [Fr.len] at this)
      have C2 := fun w1 (hb : Below w.heap.size w w1) => fkey_any ByteArray.empty .nil none 0 0 0 29 w1 ⟨Nat.zero_le _, Nat.zero_le _, fun h => absurd h (by simp [Fr.len])⟩ (Nat.zero_le _) rfl (fun w2 hb2 => HP.out w2 (hb.trans (hb2.mono hb.size)))
      have H2 := Lib.hid C2
      have HBX := Lib.hid (fun o : Obj => HB2.out.alloc HB2.out.size o)
      clear hb hok hsk hkind C2
      go_wp2_with fail
      refine (H2.out _ (HBX.out _)).mono ?_
      rintro e w3 ⟨rfl, hb⟩
      have HB3 := Lib.hid ((HBX.out _).trans (hb.mono (HBX.out _).size))
      clear hb
      go_wp2_with fail
      go_ret
      rw [HV.out, HF.out]; exact ⟨rfl, HB3.out⟩
    · have hb3 : Below w2.heap.size w2 (w2.alloc (.cells #[.string s, .slice A2 f.len cap2] 60)) := (Below.refl _ _).alloc (Nat.le_refl _) _
      have C2 := fkey_any s f A2 cap2 _ _ 29 (w2.alloc (.cells #[.string s, .slice A2 f.len cap2] 60)) (hnds.keep (fun p _ hp => hb3.cell hp) (Nat.le_refl _) (Nat.le_refl _)) hb3.size hsk (fun w4 hb4 => HP.out w4 (HB2.out.trans ((hb3.trans (hb4.mono hb3.size)).mono HB2.out.size)))
      have H2 := Lib.hid C2
      have HB3 := Lib.hid (HB2.out.trans (hb3.mono HB2.out.size))
      clear hb hok hsk hkind C2 hnds hb3
      generalize f.len = fl at *
      go_wp2_with fail
      refine H2.out.mono ?_
      rintro e w4 ⟨rfl, hb⟩
      have HB4 := Lib.hid (HB3.out.trans (hb.mono HB3.out.size))
      clear hb
      go_wp2_with fail
      go_ret
      rw [HV.out]; exact ⟨rfl, HB4.out⟩
  · have HV : Hid (fkB k n s f = []) := Lib.hid (by rw [HE.out, hok]; rfl)
    clear hok hb
    go_wp2_with fail
    go_ret
    rw [HV.out]; exact ⟨rfl, HB2.out⟩
end Go.Proofs.YtlapdnllncoomaaDoor
