/- The law FnExactFormatCode, walked. Condition: the argument lies in memory, the tables in their variables. -/
import Derived.Test.YtfdgmdijjifmiaaDoorProg
import Derived.Test.YtfdgmdijjifmiaaDoorInT
import Derived.Test.YtfdgmdijjifmiaaDoorInE
import Derived.Test.YtfdgmdijjifmiaaDoorFcS
import Derived.Test.YtfdgmdijjifmiaaDoorFcI
namespace Go.Proofs.YtfdgmdijjifmiaaDoor.ins
open Go.RowKit

theorem own_row {w : World} {base n cap : Nat} {A : Option Addr} {xs : List Ins} (h : OwnIn w base (.slice A n cap) xs) : n = xs.length ∧ InsS w w.heap.size xs A cap := by
  obtain ⟨A', cap', e, hr⟩ := h.read
  injection e with e1 e2 e3
  subst e1 e2 e3
  exact ⟨rfl, hr⟩

set_option maxRecDepth 100000 in
set_option maxHeartbeats 2000000 in
/-- The law. -/
theorem lawFc_any (xs : List Ins) (A : Option Addr) (cap : Nat) (W : World) (hk : InsS W W.heap.size xs A cap) (hok : ∀ y ∈ xs, y.ok) (ht : nv.Tab W) (hn : NotTab W) (hp : Lib.TabIs Tryd.prog W "internal/strconv.uint64pow10" .u64 Lib.pow10Tab) :
    Calls Tryd.prog 4 #[.slice A xs.length cap] W fun e w' => e = .returned (.bool true) ∧ Below W.heap.size W w' := by
  have C0 := szIn_any xs A cap W.heap.size 1048576 W hk (Nat.le_refl _) (by omega) (by omega)
  have hr := szIn_range xs 1048576 (by omega)
  have C1 := fun w1 (hb : Below W.heap.size W w1) (hl : xs.length ≤ 1048576) => toIn_any xs A cap W.heap.size w1 (hk.below hb (Nat.le_refl _)) hb.size hl hok
  have H0 := Lib.hid C0
  have H1 := Lib.hid C1
  have HOK := Lib.hid hok
  generalize szIn xs 1048576 = r at *
  have HR := Lib.hid hr
  have HT := Lib.hid (fun w1 (h : Below W.heap.size W w1) => nv_below ht h)
  have HNT := Lib.hid (fun w1 (h : Below W.heap.size W w1) => hn.below h)
  have HPT := Lib.hid (Lib.tabBelow_of_tabIs hp)
  clear C0 C1 hk hr hok ht hn hp
  by_cases hneg : r < 0
  · obtain rfl : r = -1 := by have := HR.out; omega
    clear H1 HR
    generalize xs.length = len at *
    go_enter Tryd.func4, Tryd.ntmps4
    go_wp2_with fail
    refine H0.out.mono ?_
    rintro e w2 ⟨rfl, hb⟩
    have HB := Lib.hid hb
    clear hb
    go_wp2_with fail
    go_ret
    exact ⟨rfl, HB.out⟩
  · have hl : xs.length ≤ 1048576 := by have := HR.out; omega
    have H1' := Lib.hid (fun w1 hb => H1.out w1 hb hl)
    have hw : wtIn xs ≤ 1048576 := by have := HR.out; omega
    have HS := Lib.hid (fun (w1 : World) (A : Option Addr) (cap hi : Nat) (h : InsS w1 hi xs A cap) (hh : hi ≤ w1.heap.size) => specFc_any xs A cap hi w1 h hh HOK.out hw hl)
    have HI := Lib.hid (fun (w1 : World) (A : Option Addr) (cap hi : Nat) (h : InsS w1 hi xs A cap) (hh : hi ≤ w1.heap.size) (hb : Below W.heap.size W w1) => implFc_any xs A cap hi w1 h hh HOK.out hw (HT.out w1 hb) (HNT.out w1 hb) (fun w2 h2 => HPT.out w2 (hb.trans (h2.mono hb.size))))
    have HE := Lib.hid (fun (w1 : World) (A B : Option Addr) (cap cap' hi hi' : Nat) h h' hh hh' => eqIn_any xs A B cap cap' hi hi' w1 h h' hh hh')
    clear H1 HR
    generalize (⟨(codeB xs).toArray⟩ : ByteArray) = v at *
    have t3 : (v.toList != v.toList) = false := by simp
    have t4 : (!(v.toList == v.toList)) = false := t3
    clear hw HNT HT HPT
    generalize hn : xs.length = len at *
    have HN := Lib.hid hn
    clear hn
    go_enter Tryd.func4, Tryd.ntmps4
    go_wp2_with fail
    refine H0.out.mono ?_
    rintro e w2 ⟨rfl, hb⟩
    have HB2 := Lib.hid hb
    clear hb
    go_wp2_with fail
    refine (H1'.out w2 HB2.out).mono ?_
    rintro e w3 ⟨A3, rfl, ho3, hb3⟩
    have HB3 := Lib.hid (HB2.out.trans (hb3.mono HB2.out.size))
    have C := HS.out w3 A3 len w3.heap.size (own_row ho3).2 (Nat.le_refl _)
    have H3 := Lib.hid C
    clear hb3 ho3 C
    go_wp2_with fail
    refine H3.out.mono ?_
    rintro e w4 ⟨rfl, hb4⟩
    have HB4 := Lib.hid (HB3.out.trans (hb4.mono HB3.out.size))
    clear hb4 H3
    go_wp2_with fail
    refine (H1'.out w4 HB4.out).mono ?_
    rintro e w5 ⟨A5, rfl, ho5, hb5⟩
    have HB5 := Lib.hid (HB4.out.trans (hb5.mono HB4.out.size))
    have HO5 := Lib.hid ho5
    have C := HI.out w5 A5 len w5.heap.size (own_row ho5).2 (Nat.le_refl _) HB5.out
    have H5 := Lib.hid C
    clear hb5 ho5 C
    go_wp2_with fail
    refine H5.out.mono ?_
    rintro e w6 ⟨rfl, hb6⟩
    have HB6 := Lib.hid (HB5.out.trans (hb6.mono HB5.out.size))
    have HO6 := Lib.hid (HO5.out.below hb6)
    clear hb6 H5 HO5
    go_wp2_with fail
    refine (H1'.out w6 HB6.out).mono ?_
    rintro e w7 ⟨A7, rfl, ho7, hb7⟩
    have HB7 := Lib.hid (HB6.out.trans (hb7.mono HB6.out.size))
    have hx := HO6.out.below hb7
    have C := HE.out w7 A5 A7 len len w7.heap.size w7.heap.size (own_row hx).2 (own_row ho7).2 (Nat.le_refl _) (Nat.le_refl _)
    have H7 := Lib.hid C
    clear hb7 ho7 hx C
    go_wp2_with fail
    refine H7.out.mono ?_
    rintro e w8 ⟨rfl, hb8⟩
    have HB8 := Lib.hid (HB7.out.trans (hb8.mono HB7.out.size))
    clear hb8 H7
    go_wp2_with fail
    go_ret
    exact ⟨rfl, HB8.out⟩
end Go.Proofs.YtfdgmdijjifmiaaDoor.ins
