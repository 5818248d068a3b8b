/- spec.l3Find, l3Apply. Condition: term and bindings lie in memory and are well-formed. -/
import Derived.Test.YtnkaafimnkigpaaDoorProg
import Derived.Test.YtnkaafimnkigpaaDoorBdZ
import Derived.Test.YtnkaafimnkigpaaDoorShS
import Derived.Test.YtnkaafimnkigpaaDoorRep
import Derived.Test.YtnkaafimnkigpaaDoorCopy
namespace Go.Proofs.YtnkaafimnkigpaaDoor
open Go.RowKit

/-- The first binding of v. -/
def fdB : List Int → Fr → Int → Option Nd
  | n0 :: ns, .cons k n s kids rest, v => if n0 = v then some ⟨k, n, s, kids⟩ else fdB ns rest v
  | [], _, _ => none
  | _ :: _, .nil, _ => none
theorem fdB_cons (n0 : Int) (ns : List Int) (k n : Int) (s : ByteArray) (kids rest : Fr) (v : Int) : fdB (n0 :: ns) (.cons k n s kids rest) v = if n0 = v then some ⟨k, n, s, kids⟩ else fdB ns rest v := rfl
theorem fdB_drop (j : Nat) : ∀ (ns : List Int) (g : Fr) (v : Int) {k n : Int} {s : ByteArray} {kids rest : Fr}, ns.length = g.len → g.drop j = .cons k n s kids rest → fdB (ns.drop j) (g.drop j) v = if ns.getD j 0 = v then some ⟨k, n, s, kids⟩ else fdB (ns.drop (j + 1)) (g.drop (j + 1)) v := by
  induction j with
  | zero =>
    intro ns g v k n s kids rest hl h
    cases g with
    | nil => cases h
    | cons k' n' s' kids' rest' =>
      injection h with h1 h2 h3 h4 h5
      subst h1 h2 h3 h4 h5
      cases ns with
      | nil => simp [Fr.len] at hl
      | cons n0 ns => exact fdB_cons n0 ns k' n' s' kids' rest' v
  | succ j ih =>
    intro ns g v k n s kids rest hl h
    cases g with
    | nil => cases h
    | cons k' n' s' kids' rest' =>
      cases ns with
      | nil => simp [Fr.len] at hl
      | cons n0 ns =>
        have := ih ns rest' v (by simpa [Fr.len] using hl) h
        simpa [Fr.drop] using this
/-- All terms of the row are valid. -/
def allB : Fr → Bool
  | .nil => true
  | .cons k n s kids rest => validT k n s kids && allB rest
theorem fdB_valid (g : Fr) : ∀ (ns : List Int) (v : Int) (m : Nd), allB g = true → fdB ns g v = some m → validT m.k m.n m.s m.f = true := by
  induction g with
  | nil => intro ns v m _ h; cases ns <;> cases h
  | cons k n s kids rest _ ih =>
    intro ns v m ha h
    unfold allB at ha
    rw [Bool.and_eq_true] at ha
    cases ns with
    | nil => cases h
    | cons n0 ns =>
      rw [fdB_cons] at h
      split at h
      · injection h with h; subst h; exact ha.1
      · exact ih ns v m ha.2 h
/-- What a variable is replaced by; the term, the row with all variables replaced. -/
def apO (ns : List Int) (g : Fr) (_ : Unit) (n : Int) : Nd := (fdB ns g n).getD ⟨1, n, ⟨#[]⟩, .nil⟩
def apT (ns : List Int) (g : Fr) (k n : Int) (s : ByteArray) (f : Fr) : Nd := rpT (fun (a : Unit) _ => a) (apO ns g) () k n s f
def apF (ns : List Int) (g : Fr) (f : Fr) : Fr := rpF (fun (a : Unit) _ => a) (apO ns g) () f
theorem apF_len (ns : List Int) (g f : Fr) : (apF ns g f).len = f.len := rpF_len _ _ f _
theorem apF_cons (ns : List Int) (g : Fr) (k n : Int) (s : ByteArray) (kids rest : Fr) : apF ns g (.cons k n s kids rest) = .cons (apT ns g k n s kids).k (apT ns g k n s kids).n (apT ns g k n s kids).s (apT ns g k n s kids).f (apF ns g rest) := rpF_cons _ _ _ _ _ _ _ _
theorem apF_drop (ns : List Int) (g : Fr) (f : Fr) : ∀ j, (apF ns g f).drop j = apF ns g (f.drop j) := by
  induction f with
  | nil => intro j; cases j <;> rfl
  | cons k n s kids rest _ ih =>
    intro j
    cases j with
    | zero => rfl
    | succ j => rw [apF_cons]; exact ih j
theorem validT_fits {k n : Int} {s : ByteArray} {f : Fr} (h : validT k n s f = true) : shapeT k n s f 30 = true ∧ Fits k n s ∧ 1 + nodes f ≤ 120 := by
  unfold validT at h
  rw [Bool.and_eq_true, decide_eq_true_iff] at h
  exact ⟨h.1, (shapeT_small h.1).1, h.2⟩
/-- Each replacement is a well-formed term, and no more than 120 nodes. -/
theorem apO_good {ns : List Int} {g : Fr} (ha : allB g = true) {n d : Int} {s : ByteArray} {f : Fr} (h : shapeT 1 n s f d = true) : validT (apO ns g () n).k (apO ns g () n).n (apO ns g () n).s (apO ns g () n).f = true := by
  unfold apO
  cases hf : fdB ns g n with
  | some m => exact fdB_valid g ns n m ha hf
  | none =>
    obtain ⟨_, _, hn⟩ := shapeT_var h
    show validT 1 n ⟨#[]⟩ .nil = true
    unfold validT shapeT ownB shapeF
    rw [decide_eq_true (show (0 : Int) ≤ n by omega), decide_eq_true (show n ≤ 25 by omega)]
    rfl
theorem apT_fits {ns : List Int} {g : Fr} (ha : allB g = true) {k n d : Int} {s : ByteArray} {f : Fr} (h : shapeT k n s f d = true) : Fits (apT ns g k n s f).k (apT ns g k n s f).n (apT ns g k n s f).s := by
  unfold apT rpT
  split
  · rename_i hk
    subst hk
    exact (validT_fits (apO_good ha h)).2.1
  · exact (shapeT_small h).1

/-- What l3Find hands back: a term of the row, or none. -/
def FindRes (w : World) (lo hi : Nat) (r : Option Nd) (e : Ending) : Prop :=
  (∃ m A c, r = some m ∧ Fits m.k m.n m.s ∧ KidsAt w lo hi m.f A c ∧ e = .returned (.tuple #[.agg #[.int .i64 m.k, .int .i64 m.n, .string m.s, .slice A m.f.len c], .bool true])) ∨
      (r = none ∧ e = .returned (.tuple #[.agg #[.int .i64 0, .int .i64 0, .string ⟨#[]⟩, .slice none 0 0], .bool false]))

set_option maxRecDepth 100000 in
set_option maxHeartbeats 2000000 in
/-- spec.l3Find. -/
theorem find_any (ns : List Int) (g : Fr) (B : Option Addr) (cap lo hi : Nat) (v : Int) (w : World) (hk : BdS w lo hi ns g B cap) (hh : hi ≤ w.heap.size) :
    Calls Tryd.prog 84 #[.slice B g.len cap, .int .i64 v] w fun e w' => Below w.heap.size w w' ∧ FindRes w lo hi (fdB ns g v) e := by
  have HK := Lib.hid hk
  have HHI := Lib.hid hh
  have hl := hk.2.1
  have hm := hk.2.2.1
  unfold maxLen at hm
  have HNS := Lib.hid hk.1
  clear hk hh
  generalize hn : g.len = len at *
  have HN := Lib.hid hn
  clear hn
  generalize hr : fdB ns g v = r
  have HR : Hid (fdB (ns.drop 0) (g.drop 0) v = r) := Lib.hid hr
  clear hr
  have hst : RC w w.heap.size (w.alloc (.cells #[.int .i64 0, .int .i64 0, .string ⟨#[]⟩, .slice none 0 0] 31)) := ⟨Blk.new w _ _, Nat.le_refl _, (Below.refl _ _).alloc (Nat.le_refl _) _⟩
  have HST := Lib.hid hst
  clear hst
  go_enter Tryd.func84, Tryd.ntmps84
  go_wp2_with fail
  go_loopw [6] (fun i wr => ∃ (j : Nat), j ≤ len ∧ i = .int .i64 j ∧ fdB (ns.drop j) (g.drop j) v = r ∧ RC w w.heap.size wr) (fun i _ => len - (intOf i).toNat)
  case atStart => exact ⟨0, Nat.zero_le _, rfl, HR.out, HST.out⟩
  case round =>
    obtain ⟨j, hj, rfl, hv, hp⟩ := hrel
    by_cases hlt : j < len
    · obtain ⟨kk, nn, s, kids, hd⟩ := Fr.drop_cons j g (by rw [HN.out]; exact hlt)
      obtain ⟨b, o, rfl, hlb, hbb, hrow⟩ := HK.out.2.2.2 (by rw [HN.out]; omega)
      obtain ⟨hi0, hfit, A', cap', c0, c1, c2, c3, c4, hkid⟩ := BdAt.elem j ns g b o hrow hd
      rw [fdB_drop j ns g v (HNS.out.trans HN.out.symm) hd] at hv
      have hlo : (⟨b, o, none⟩ : Addr).block < w.heap.size := Nat.lt_of_lt_of_le hbb HHI.out
      have hb := hp.2.2
      have k0 := (hb.cell (p := ⟨b, o + j * 5, none⟩) hlo).trans c0
      have k1 := (hb.cell (p := ⟨b, o + j * 5 + 1, none⟩) hlo).trans c1
      have k2 := (hb.cell (p := ⟨b, o + j * 5 + 2, none⟩) hlo).trans c2
      have k3 := (hb.cell (p := ⟨b, o + j * 5 + 3, none⟩) hlo).trans c3
      have k4 := (hb.cell (p := ⟨b, o + j * 5 + 4, none⟩) hlo).trans c4
      obtain ⟨d0, d1, d2, d3⟩ := cells4i hp.1
      obtain ⟨f0, f1, f2, f3⟩ := frozen4 hp.1
      have HP := Lib.hid hp
      have HKID := Lib.hid (And.intro hfit hkid)
      have hlo2 := hp.1.lt
      generalize ns.getD j 0 = n0 at *
      clear hp c0 c1 c2 c3 c4 hkid hfit hrow hd hb
      by_cases he : n0 = v
      · subst he
        have HV : Hid (r = some ⟨kk, nn, s, kids⟩) := Lib.hid (by rw [← hv, if_pos rfl])
        have t0 : (n0 == n0) = true := by simp
        clear hv
        go_wp2_with fail
        refine bodyPost_ret (v := .tuple #[.agg #[.int .i64 kk, .int .i64 nn, .string s, .slice A' kids.len cap'], .bool true]) ?_ rfl ⟨below4 HP.out.2.2 HP.out.2.1 _ _ _ _, .inl ⟨⟨kk, nn, s, kids⟩, A', cap', HV.out, HKID.out.1, HKID.out.2, rfl⟩⟩
        exact results_cell_row2 Tryd.results84 _ _ w.heap.size _ _ _ _ rfl (set4 HP.out.1 _ _ _ _) Tryd.underlying31 rfl (by kernel_rfl)
      · have HE : Hid (fdB (ns.drop (j + 1)) (g.drop (j + 1)) v = r) := Lib.hid (by rw [← hv, if_neg he])
        have t0 : (n0 == v) = false := by rw [beq_eq_false_iff_ne]; exact he
        clear hv he
        go_wp2_with fail
        go_roundw
        case rel => exact ⟨j + 1, by omega, by go_num, HE.out, HP.out⟩
        case measure => simp [intOf]; omega
    · obtain rfl : j = len := by omega
      have HV : Hid (r = none) := Lib.hid (by
        have h1 := Fr.drop_len g
        rw [HN.out] at h1
        rw [← hv, h1]
        cases ns.drop j <;> rfl)
      obtain ⟨d0, d1, d2, d3⟩ := cells4i hp.1
      obtain ⟨f0, f1, f2, f3⟩ := frozen4 hp.1
      have HP := Lib.hid hp
      clear hp hv
      go_wp2_with fail
      refine bodyPost_ret (v := .tuple #[.agg #[.int .i64 0, .int .i64 0, .string ⟨#[]⟩, .slice none 0 0], .bool false]) ?_ rfl ⟨below4 HP.out.2.2 HP.out.2.1 _ _ _ _, .inr ⟨HV.out, rfl⟩⟩
      exact results_cell_row2 Tryd.results84 _ _ w.heap.size _ _ _ _ rfl (set4 HP.out.1 _ _ _ _) Tryd.underlying31 rfl (by kernel_rfl)
end Go.Proofs.YtnkaafimnkigpaaDoor
