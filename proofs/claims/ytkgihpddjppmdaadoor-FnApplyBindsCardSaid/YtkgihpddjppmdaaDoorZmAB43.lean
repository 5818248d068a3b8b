/- spec.l3Find, l3Apply. Condition: term and bindings lie in memory and are well-formed. -/
import Derived.Test.YtkgihpddjppmdaaDoorProg
import Derived.Test.YtkgihpddjppmdaaDoorZmAB41
import Derived.Test.YtkgihpddjppmdaaDoorZmAB42
import Derived.Test.YtkgihpddjppmdaaDoorCopy
namespace Go.Proofs.YtkgihpddjppmdaaDoor
open Go.RowKit

/-- The first binding of v. -/
def fdB : List Int → Fr → Int → Option Nd
  | n0 :: ns, .cons k n s kids rest, v => if n0 = v then some ⟨k, n, s, kids⟩ else fdB ns rest v
  | [], _, _ => none
  | _ :: _, .nil, _ => none
theorem fdB_cons (n0 : Int) (ns : List Int) (k n : Int) (s : ByteArray) (kids rest : Fr) (v : Int) : fdB (n0 :: ns) (.cons k n s kids rest) v = if n0 = v then some ⟨k, n, s, kids⟩ else fdB ns rest v := rfl
theorem fdB_drop (j : Nat) : ∀ (ns : List Int) (g : Fr) (v : Int) {k n : Int} {s : ByteArray} {kids rest : Fr}, ns.length = g.len → g.drop j = .cons k n s kids rest → fdB (ns.drop j) (g.drop j) v = if ns.getD j 0 = v then some ⟨k, n, s, kids⟩ else fdB (ns.drop (j + 1)) (g.drop (j + 1)) v := by
  induction j with
  | zero =>
    intro ns g v k n s kids rest hl h
    cases g with
    | nil => cases h
    | cons k' n' s' kids' rest' =>
      injection h with h1 h2 h3 h4 h5
      subst h1 h2 h3 h4 h5
      cases ns with
      | nil => simp [Fr.len] at hl
      | cons n0 ns => exact fdB_cons n0 ns k' n' s' kids' rest' v
  | succ j ih =>
    intro ns g v k n s kids rest hl h
    cases g with
    | nil => cases h
    | cons k' n' s' kids' rest' =>
      cases ns with
      | nil => simp [Fr.len] at hl
      | cons n0 ns =>
        have := ih ns rest' v (by simpa [Fr.len] using hl) h
        simpa [Fr.drop] using this
/-- All terms of the row are valid. -/
def allB : Fr → Bool
  | .nil => true
  | .cons k n s kids rest => validT k n s kids && allB rest
theorem fdB_valid (g : Fr) : ∀ (ns : List Int) (v : Int) (m : Nd), allB g = true → fdB ns g v = some m → validT m.k m.n m.s m.f = true := by
  induction g with
  | nil => intro ns v m _ h; cases ns <;> cases h
  | cons k n s kids rest _ ih =>
    intro ns v m ha h
    unfold allB at ha
    rw [Bool.and_eq_true] at ha
    cases ns with
    | nil => cases h
    | cons n0 ns =>
      rw [fdB_cons] at h
      split at h
      · injection h with h; subst h; exact ha.1
      · exact ih ns v m ha.2 h
/-- What a variable is replaced by; the term, the row with all variables replaced. -/
def apO (ns : List Int) (g : Fr) (_ : Unit) (n : Int) : Nd := (fdB ns g n).getD ⟨1, n, ⟨#[]⟩, .nil⟩
def apT (ns : List Int) (g : Fr) (k n : Int) (s : ByteArray) (f : Fr) : Nd := rpT (fun (a : Unit) _ => a) (apO ns g) () k n s f
def apF (ns : List Int) (g : Fr) (f : Fr) : Fr := rpF (fun (a : Unit) _ => a) (apO ns g) () f
theorem apF_len (ns : List Int) (g f : Fr) : (apF ns g f).len = f.len := rpF_len _ _ f _
theorem apF_cons (ns : List Int) (g : Fr) (k n : Int) (s : ByteArray) (kids rest : Fr) : apF ns g (.cons k n s kids rest) = .cons (apT ns g k n s kids).k (apT ns g k n s kids).n (apT ns g k n s kids).s (apT ns g k n s kids).f (apF ns g rest) := rpF_cons _ _ _ _ _ _ _ _
theorem apF_drop (ns : List Int) (g : Fr) (f : Fr) : ∀ j, (apF ns g f).drop j = apF ns g (f.drop j) := by
  induction f with
  | nil => intro j; cases j <;> rfl
  | cons k n s kids rest _ ih =>
    intro j
    cases j with
    | zero => rfl
    | succ j => rw [apF_cons]; exact ih j
theorem validT_fits {k n : Int} {s : ByteArray} {f : Fr} (h : validT k n s f = true) : shapeT k n s f 30 = true ∧ Fits k n s ∧ 1 + nodes f ≤ 120 := by
  unfold validT at h
  rw [Bool.and_eq_true, decide_eq_true_iff] at h
  exact ⟨h.1, (shapeT_small h.1).1, h.2⟩
/-- Each replacement is a well-formed term, and no more than 120 nodes. -/
theorem apO_good {ns : List Int} {g : Fr} (ha : allB g = true) {n d : Int} {s : ByteArray} {f : Fr} (h : shapeT 1 n s f d = true) : validT (apO ns g () n).k (apO ns g () n).n (apO ns g () n).s (apO ns g () n).f = true := by
  unfold apO
  cases hf : fdB ns g n with
  | some m => exact fdB_valid g ns n m ha hf
  | none =>
    obtain ⟨_, _, hn⟩ := shapeT_var h
    show validT 1 n ⟨#[]⟩ .nil = true
    unfold validT shapeT ownB shapeF
    rw [decide_eq_true (show (0 : Int) ≤ n by omega), decide_eq_true (show n ≤ 25 by omega)]
    rfl
theorem apT_fits {ns : List Int} {g : Fr} (ha : allB g = true) {k n d : Int} {s : ByteArray} {f : Fr} (h : shapeT k n s f d = true) : Fits (apT ns g k n s f).k (apT ns g k n s f).n (apT ns g k n s f).s := by
  unfold apT rpT
  split
  · rename_i hk
    subst hk
    exact (validT_fits (apO_good ha h)).2.1
  · exact (shapeT_small h).1

/-- What l3Find hands back: a term of the row, or none. -/
def FindRes (w : World) (lo hi : Nat) (r : Option Nd) (e : Ending) : Prop :=
  (∃ m A c, r = some m ∧ Fits m.k m.n m.s ∧ KidsAt w lo hi m.f A c ∧ e = .returned (.tuple #[.agg #[.int .i64 m.k, .int .i64 m.n, .string m.s, .slice A m.f.len c], .bool true])) ∨
      (r = none ∧ e = .returned (.tuple #[.agg #[.int .i64 0, .int .i64 0, .string ⟨#[]⟩, .slice none 0 0], .bool false]))

set_option maxRecDepth 100000 in
set_option maxHeartbeats 2000000 in
/-- spec.l3Find. -/
theorem find_any (ns : List Int) (g : Fr) (B : Option Addr) (cap lo hi : Nat) (v : Int) (w : World) (hk : BdS w lo hi ns g B cap) (hh : hi ≤ w.heap.size) :
    Calls Tryd.prog 36 #[.slice B g.len cap, .int .i64 v] w fun e w' => Below w.heap.size w w' ∧ FindRes w lo hi (fdB ns g v) e := by
  have HK := Lib.hid hk
  have HHI := Lib.hid hh
  have hl := hk.2.1
  have hm := hk.2.2.1
  unfold maxLen at hm
  have HNS := Lib.hid hk.1
  clear hk hh
  generalize hn : g.len = len at *
  have HN := Lib.hid hn
  clear hn
  generalize hr : fdB ns g v = r
  have HR : Hid (fdB (ns.drop 0) (g.drop 0) v = r) := Lib.hid hr
  clear hr
  have hst : RC w w.heap.size (w.alloc (.cells #[.int .i64 0, .int .i64 0, .string ⟨#[]⟩, .slice none 0 0] 25)) := ⟨Blk.new w _ _, Nat.le_refl _, (Below.refl _ _).alloc (Nat.le_refl _) _⟩
  have HST := Lib.hid hst
  clear hst
  go_enter Tryd.func36, Tryd.ntmps36
  go_wp2_with fail
  go_loopw [6] (fun i wr => ∃ (j : Nat), j ≤ len ∧ i = .int .i64 j ∧ fdB (ns.drop j) (g.drop j) v = r ∧ RC w w.heap.size wr) (fun i _ => len - (intOf i).toNat)
  case atStart => exact ⟨0, Nat.zero_le _, rfl, HR.out, HST.out⟩
  case round =>
    obtain ⟨j, hj, rfl, hv, hp⟩ := hrel
    by_cases hlt : j < len
    · obtain ⟨kk, nn, s, kids, hd⟩ := Fr.drop_cons j g (by rw [HN.out]; exact hlt)
      obtain ⟨b, o, rfl, hlb, hbb, hrow⟩ := HK.out.2.2.2 (by rw [HN.out]; omega)
      obtain ⟨hi0, hfit, A', cap', c0, c1, c2, c3, c4, hkid⟩ := BdAt.elem j ns g b o hrow hd
      rw [fdB_drop j ns g v (HNS.out.trans HN.out.symm) hd] at hv
      have hlo : (⟨b, o, none⟩ : Addr).block < w.heap.size := Nat.lt_of_lt_of_le hbb HHI.out
      have hb := hp.2.2
      have k0 := (hb.cell (p := ⟨b, o + j * 5, none⟩) hlo).trans c0
      have k1 := (hb.cell (p := ⟨b, o + j * 5 + 1, none⟩) hlo).trans c1
      have k2 := (hb.cell (p := ⟨b, o + j * 5 + 2, none⟩) hlo).trans c2
      have k3 := (hb.cell (p := ⟨b, o + j * 5 + 3, none⟩) hlo).trans c3
      have k4 := (hb.cell (p := ⟨b, o + j * 5 + 4, none⟩) hlo).trans c4
      obtain ⟨d0, d1, d2, d3⟩ := cells4i hp.1
      obtain ⟨f0, f1, f2, f3⟩ := frozen4 hp.1
      have HP := Lib.hid hp
      have HKID := Lib.hid (And.intro hfit hkid)
      have hlo2 := hp.1.lt
      generalize ns.getD j 0 = n0 at *
      clear hp c0 c1 c2 c3 c4 hkid hfit hrow hd hb
      by_cases he : n0 = v
      · subst he
        have HV : Hid (r = some ⟨kk, nn, s, kids⟩) := Lib.hid (by rw [← hv, if_pos rfl])
        have t0 : (n0 == n0) = true := by simp
        clear hv
        go_wp2_with fail
        refine bodyPost_ret (v := .tuple #[.agg #[.int .i64 kk, .int .i64 nn, .string s, .slice A' kids.len cap'], .bool true]) ?_ rfl ⟨below4 HP.out.2.2 HP.out.2.1 _ _ _ _, .inl ⟨⟨kk, nn, s, kids⟩, A', cap', HV.out, HKID.out.1, HKID.out.2, rfl⟩⟩
        exact results_cell_row2 Tryd.results36 _ _ w.heap.size _ _ _ _ rfl (set4 HP.out.1 _ _ _ _) Tryd.underlying25 rfl (by kernel_rfl)
      · have HE : Hid (fdB (ns.drop (j + 1)) (g.drop (j + 1)) v = r) := Lib.hid (by rw [← hv, if_neg he])
        have t0 : (n0 == v) = false := by rw [beq_eq_false_iff_ne]; exact he
        clear hv he
        go_wp2_with fail
        go_roundw
        case rel => exact ⟨j + 1, by omega, by go_num, HE.out, HP.out⟩
        case measure => simp [intOf]; omega
    · obtain rfl : j = len := by omega
      have HV : Hid (r = none) := Lib.hid (by
        have h1 := Fr.drop_len g
        rw [HN.out] at h1
        rw [← hv, h1]
        cases ns.drop j <;> rfl)
      obtain ⟨d0, d1, d2, d3⟩ := cells4i hp.1
      obtain ⟨f0, f1, f2, f3⟩ := frozen4 hp.1
      have HP := Lib.hid hp
      clear hp hv
      go_wp2_with fail
      refine bodyPost_ret (v := .tuple #[.agg #[.int .i64 0, .int .i64 0, .string ⟨#[]⟩, .slice none 0 0], .bool false]) ?_ rfl ⟨below4 HP.out.2.2 HP.out.2.1 _ _ _ _, .inr ⟨HV.out, rfl⟩⟩
      exact results_cell_row2 Tryd.results36 _ _ w.heap.size _ _ _ _ rfl (set4 HP.out.1 _ _ _ _) Tryd.underlying25 rfl (by kernel_rfl)
end Go.Proofs.YtkgihpddjppmdaaDoor

/- spec.l3Apply. Condition: term and bindings lie in memory and are well-formed. -/
namespace Go.Proofs.YtkgihpddjppmdaaDoor
open Go.RowKit

def ApS (s : ByteArray) (f : Fr) : Prop := ∀ (k n d : Int) (A : Option Addr) (cap lo hi : Nat) (ns : List Int) (g : Fr) (B : Option Addr) (capB lo2 hi2 : Nat) (w : World), KidsAt w lo hi f A cap → hi ≤ w.heap.size → shapeT k n s f d = true → nodes f ≤ 1048576 → BdS w lo2 hi2 ns g B capB → hi2 ≤ w.heap.size → allB g = true →
  Calls Tryd.prog 20 #[.agg #[.int .i64 k, .int .i64 n, .string s, .slice A f.len cap], .slice B g.len capB] w fun e w' => MadeT w (apT ns g k n s f).k (apT ns g k n s f).n (apT ns g k n s f).s (apT ns g k n s f).f e w'

theorem apT_var {ns : List Int} {g : Fr} {n : Int} {s : ByteArray} {f : Fr} : apT ns g 1 n s f = (fdB ns g n).getD ⟨1, n, ⟨#[]⟩, .nil⟩ := by
  unfold apT rpT apO
  rw [if_pos rfl]
theorem apT_other {ns : List Int} {g : Fr} {k n : Int} {s : ByteArray} {f : Fr} (h : k ≠ 1) : apT ns g k n s f = ⟨k, n, s, apF ns g f⟩ := by
  unfold apT rpT apF
  rw [if_neg h]
/-- The result's box is written, the copy lies behind it. -/
theorem made_rc {w w3 wk : World} {H : Nat} {f : Fr} {A : Option Addr} {cap : Nat} (h : RC w H w3) (hm : Made w3 f A cap wk) (x0 x1 x2 x3 : Value) : Made w f A cap ((((wk.setCell ⟨H, 0, none⟩ x0).setCell ⟨H, 1, none⟩ x1).setCell ⟨H, 2, none⟩ x2).setCell ⟨H, 3, none⟩ x3) := by
  have hl := h.1.lt
  have hb := made_below hm
  obtain ⟨L, h1, h2, h3, _⟩ := hm
  exact made_set4 ⟨L, h1, h2, h3⟩ (h.below hb).2.2 h.2.1 hl _ _ _ _

set_option maxRecDepth 100000 in
set_option maxHeartbeats 8000000 in
/-- A variable. -/
theorem apS_var (n d : Int) (s : ByteArray) (f : Fr) (A : Option Addr) (cap : Nat) (ns : List Int) (g : Fr) (B : Option Addr) (capB lo2 hi2 : Nat) (w : World) (hf : shapeT 1 n s f d = true) (hK : BdS w lo2 hi2 ns g B capB) (hh2 : hi2 ≤ w.heap.size) (ha : allB g = true) :
    Calls Tryd.prog 20 #[.agg #[.int .i64 1, .int .i64 n, .string s, .slice A f.len cap], .slice B g.len capB] w fun e w' => MadeT w (apT ns g 1 n s f).k (apT ns g 1 n s f).n (apT ns g 1 n s f).s (apT ns g 1 n s f).f e w' := by
  obtain ⟨rfl, rfl, hn⟩ := shapeT_var hf
  rw [apT_var]
  have hgood := fun m h => fdB_valid g ns n m ha h
  have C1 := fun w1 (hb : Below w.heap.size w w1) => find_any ns g B capB lo2 hi2 n w1 (hK.below hb hh2) (Nat.le_trans hh2 hb.size)
  have C2 := fun (m : Nd) w1 A1 c1 lo hi (hk : KidsAt w1 lo hi m.f A1 c1) hh hf hn => cpT_any m.s m.f m.k m.n A1 c1 lo hi w1 hk hh hf hn
  have q0 : RC w (w.heap.size + 1) ((w.alloc (.cells #[.int .i64 1, .int .i64 n, .string ⟨#[]⟩, .slice A Fr.nil.len cap] 25)).alloc (.cells #[.int .i64 0, .int .i64 0, .string ⟨#[]⟩, .slice none 0 0] 25)) ∧ Blk ((w.alloc (.cells #[.int .i64 1, .int .i64 n, .string ⟨#[]⟩, .slice A Fr.nil.len cap] 25)).alloc (.cells #[.int .i64 0, .int .i64 0, .string ⟨#[]⟩, .slice none 0 0] 25)) w.heap.size 25 #[.int .i64 1, .int .i64 n, .string ⟨#[]⟩, .slice A Fr.nil.len cap] := by
    refine ⟨⟨?_, by omega, two_alloc w _ _⟩, (Blk.new w _ _).alloc _⟩
    have h := Blk.new (w.alloc (.cells #[.int .i64 1, .int .i64 n, .string ⟨#[]⟩, .slice A Fr.nil.len cap] 25)) 25 #[.int .i64 0, .int .i64 0, .string ⟨#[]⟩, .slice none 0 0]
    simpa using h
  generalize hr : fdB ns g n = r at *
  generalize hx : (r.getD ⟨1, n, ⟨#[]⟩, .nil⟩ : Nd) = x at *
  have HX := Lib.hid hx
  have HG := Lib.hid hgood
  have H1 := Lib.hid C1
  have H2 := Lib.hid C2
  have HQ := Lib.hid q0
  have HHI : Hid (hi2 ≤ ((w.alloc (.cells #[.int .i64 1, .int .i64 n, .string ⟨#[]⟩, .slice A Fr.nil.len cap] 25)).alloc (.cells #[.int .i64 0, .int .i64 0, .string ⟨#[]⟩, .slice none 0 0] 25)).heap.size) := Lib.hid (Nat.le_trans hh2 (two_alloc w _ _).size)
  have e0 : (Fr.nil.len : Int) = 0 := rfl
  obtain ⟨k0, k1, k2, k3⟩ := x
  clear C1 C2 hf hK hh2 ha q0 hr hx hgood
  simp only
  go_enter Tryd.func20, Tryd.ntmps20
  go_wp2_with fail
  generalize (w.alloc (.cells #[.int .i64 1, .int .i64 n, .string ⟨#[]⟩, .slice A Fr.nil.len cap] 25)).alloc (.cells #[.int .i64 0, .int .i64 0, .string ⟨#[]⟩, .slice none 0 0] 25) = w1 at *
  refine (H1.out _ HQ.out.1.2.2).mono ?_
  rintro e w2 ⟨hb, hr⟩
  have q2 : RC w (w.heap.size + 1) w2 ∧ Blk w2 w.heap.size 25 #[.int .i64 1, .int .i64 n, .string ⟨#[]⟩, .slice A Fr.nil.len cap] := ⟨HQ.out.1.below hb, HQ.out.2.below hb HQ.out.2.lt⟩
  have HQ2 := Lib.hid q2
  rcases hr with ⟨m, Am, cm, rfl, hfm, hkm, rfl⟩ | ⟨rfl, rfl⟩
  · obtain rfl : m = ⟨k0, k1, k2, k3⟩ := HX.out
    have hg := validT_fits (HG.out _ rfl)
    have hba : Below w2.heap.size w2 (w2.alloc (.cells #[.int .i64 k0, .int .i64 k1, .string k2, .slice Am k3.len cm] 25)) := (Below.refl _ _).alloc (Nat.le_refl _) _
    have HKM := Lib.hid hkm
    have hhi := hb
    have C2 := H2.out ⟨k0, k1, k2, k3⟩ (w2.alloc (.cells #[.int .i64 k0, .int .i64 k1, .string k2, .slice Am k3.len cm] 25)) Am cm lo2 hi2 ((hkm.below hb HHI.out).below hba (Nat.le_trans HHI.out hb.size)) (Nat.le_trans (Nat.le_trans HHI.out hb.size) hba.size) hfm (by have := hg.2.2; show nodes k3 ≤ 1048576; simp only at this; omega)
    simp only at C2
    have q3 := q2.1.below hba
    have HQ3 := Lib.hid q3
    have H3 := Lib.hid C2
    clear hb hkm hfm hg hba hhi C2 q2 q3 H1 H2 HQ HKM HX HG
    go_wp2_with fail
    refine H3.out.mono ?_
    rintro e w4 ⟨A4, c4, rfl, hm⟩
    have q4 := HQ3.out.below (made_below hm)
    obtain ⟨d0, d1, d2, d3⟩ := cells4i q4.1
    obtain ⟨f0, f1, f2, f3⟩ := frozen4 q4.1
    have HM := Lib.hid (made_rc HQ3.out hm (.int .i64 k0) (.int .i64 k1) (.string k2) (.slice A4 k3.len c4))
    have HQ4 := Lib.hid q4
    clear hm q4 H3
    go_wp2_with fail
    refine bodyPost_ret (v := .agg #[.int .i64 k0, .int .i64 k1, .string k2, .slice A4 k3.len c4]) ?_ rfl ⟨A4, c4, rfl, HM.out⟩
    exact results_cell_row Tryd.results20 _ _ (w.heap.size + 1) _ _ _ _ rfl (set4 HQ4.out.1 _ _ _ _) Tryd.underlying25 rfl (by kernel_rfl)
  · have hx := HX.out
    injection hx with h1 h2 h3 h4
    subst h1 h2 h3 h4
    have hba : Below w2.heap.size w2 ((w2.alloc (.cells #[.int .i64 0, .int .i64 0, .string ⟨#[]⟩, .slice none 0 0] 25)).alloc (.cells #[.int .i64 1, .int .i64 n, .string ⟨#[]⟩, .slice none 0 0] 25)) := two_alloc w2 _ _
    have q3 := q2.1.below hba
    have p3 := q2.2.below hba q2.2.lt
    have p2 := q2.2.alloc (.cells #[.int .i64 0, .int .i64 0, .string ⟨#[]⟩, .slice none 0 0] 25)
    have o3 : Blk ((w2.alloc (.cells #[.int .i64 0, .int .i64 0, .string ⟨#[]⟩, .slice none 0 0] 25)).alloc (.cells #[.int .i64 1, .int .i64 n, .string ⟨#[]⟩, .slice none 0 0] 25)) (w2.heap.size + 1) 25 #[.int .i64 1, .int .i64 n, .string ⟨#[]⟩, .slice none 0 0] := by
      have h := Blk.new (w2.alloc (.cells #[.int .i64 0, .int .i64 0, .string ⟨#[]⟩, .slice none 0 0] 25)) 25 #[.int .i64 1, .int .i64 n, .string ⟨#[]⟩, .slice none 0 0]
      simpa using h
    obtain ⟨a0, a1, a2, a3⟩ := cells4i p2
    obtain ⟨b0, b1, b2, b3⟩ := cells4i p3
    obtain ⟨c0, c1, c2, c3⟩ := cells4i o3
    obtain ⟨d0, d1, d2, d3⟩ := cells4i q3.1
    obtain ⟨f0, f1, f2, f3⟩ := frozen4 q3.1
    have HQ3 := Lib.hid q3
    have HM : Hid (MadeT w 1 n ⟨#[]⟩ .nil (.returned (.agg #[.int .i64 1, .int .i64 n, .string ⟨#[]⟩, .slice none 0 0])) (((((((w2.alloc (.cells #[.int .i64 0, .int .i64 0, .string ⟨#[]⟩, .slice none 0 0] 25)).alloc (.cells #[.int .i64 1, .int .i64 n, .string ⟨#[]⟩, .slice none 0 0] 25)).setCell ⟨w.heap.size + 1, 0, none⟩ (.int .i64 1)).setCell ⟨w.heap.size + 1, 1, none⟩ (.int .i64 n)).setCell ⟨w.heap.size + 1, 2, none⟩ (.string ⟨#[]⟩)).setCell ⟨w.heap.size + 1, 3, none⟩ (.slice none 0 0)))) := Lib.hid ⟨none, 0, rfl, made_nil (below4 q3.2.2 q3.2.1 _ _ _ _)⟩
    clear hb hba q2 q3 p2 p3 o3 H1 H2 HQ HX HG
    go_wp2_with fail
    go_loop [8] (fun i => i = .int .i64 0) (fun _ => 0)
    case atStart => rfl
    case round =>
      subst hrel
      go_wp2_with fail
      refine bodyPost_ret (v := .agg #[.int .i64 1, .int .i64 n, .string ⟨#[]⟩, .slice none 0 0]) ?_ rfl HM.out
      exact results_cell_row Tryd.results20 _ _ (w.heap.size + 1) _ _ _ _ rfl (set4 HQ3.out.1 _ _ _ _) Tryd.underlying25 rfl (by kernel_rfl)
set_option maxRecDepth 100000 in
set_option maxHeartbeats 8000000 in
theorem apS_of (s : ByteArray) (f : Fr) (h : ∀ i k n s kids rest, f.drop i = .cons k n s kids rest → ApS s kids) : ApS s f := by
  intro k n d A cap lo hi ns g B capB lo2 hi2 w hk hh hf hnd hKB hh2 ha
  by_cases hk1 : k = 1
  · subst hk1
    exact apS_var n d s f A cap ns g B capB lo2 hi2 w hf hKB hh2 ha
  rw [apT_other hk1]
  have t1 : (k == 1) = false := by rw [beq_eq_false_iff_ne]; exact hk1
  have HKB := Lib.hid hKB
  have HHB := Lib.hid hh2
  have HA := Lib.hid ha
  clear hKB hh2 ha hk1
  simp only
  have HK := Lib.hid hk
  have HH := Lib.hid h
  have HHI := Lib.hid hh
  have HND := Lib.hid hnd
  have hl := hk.1
  have hm := hk.2.1
  have hl2 : f.len ≤ 1048576 := by have := len_le_nodes f; omega
  have hst : RnP w k n n s f.len (apF ns g f) A cap w.heap.size 0 (.slice none 0 0) (((w.alloc (.cells #[.int .i64 k, .int .i64 n, .string s, .slice A f.len cap] 25)).alloc (.cells #[.int .i64 0, .int .i64 0, .string ⟨#[]⟩, .slice none 0 0] 25)).alloc (.cells #[.int .i64 k, .int .i64 n, .string s, .slice none 0 0] 25)) := by
    refine ⟨((Blk.new w _ _).alloc _).alloc _, ?_, ?_, RowP.nil _ _, (two_alloc w _ _).alloc (by simp; omega) _, by simp, Nat.le_refl _⟩
    · have h := (Blk.new (w.alloc (.cells #[.int .i64 k, .int .i64 n, .string s, .slice A f.len cap] 25)) 25 #[.int .i64 0, .int .i64 0, .string ⟨#[]⟩, .slice none 0 0]).alloc (.cells #[.int .i64 k, .int .i64 n, .string s, .slice none 0 0] 25)
      simpa using h
    · have h := Blk.new ((w.alloc (.cells #[.int .i64 k, .int .i64 n, .string s, .slice A f.len cap] 25)).alloc (.cells #[.int .i64 0, .int .i64 0, .string ⟨#[]⟩, .slice none 0 0] 25)) 25 #[.int .i64 k, .int .i64 n, .string s, .slice none 0 0]
      simpa using h
  unfold maxLen at hm
  have HSF := Lib.hid (shapeT_kids hf)
  clear hk h hh hnd hf
  obtain ⟨i0, hi0, hz0, hz1, hz2⟩ := info_parts infoT
  generalize hn : f.len = len at *
  have HN := Lib.hid hn
  have HST := Lib.hid hst
  clear hn hst
  go_enter Tryd.func20, Tryd.ntmps20
  go_wp2_with fail
  go_loopw [8] (fun i wr => ∃ (j : Nat) (v : Value), j ≤ len ∧ i = .int .i64 j ∧ shapeF (f.drop j) (d - 1) = true ∧ RnP w k n n s len (apF ns g f) A cap w.heap.size j v wr) (fun i _ => len - (intOf i).toNat)
  case atStart => exact ⟨0, .slice none 0 0, Nat.zero_le _, rfl, HSF.out, HST.out⟩
  case round =>
    obtain ⟨j, v, hj, rfl, hsh, hp⟩ := hrel
    have HP := Lib.hid hp
    obtain ⟨b0, b1, b2, hr, hb, hs, hH⟩ := hp
    have a3 := b0.cell 3
    simp only [List.getElem?_toArray, List.getElem?_cons_zero, List.getElem?_cons_succ] at a3
    by_cases hlt : j < len
    · obtain ⟨kk, nn, s', kids, hd⟩ := Fr.drop_cons j f (by rw [HN.out]; exact hlt)
      obtain ⟨b, o, rfl, hlb, hbb, hrow⟩ := HK.out.2.2 (by rw [HN.out]; omega)
      obtain ⟨hfit, A', cap', c0, c1, c2, c3, hkid⟩ := hrow.elem hd
      rw [hd, shapeF_cons, Bool.and_eq_true] at hsh
      have hlo : (⟨b, o, none⟩ : Addr).block < w.heap.size := Nat.lt_of_lt_of_le hbb HHI.out
      have k0 := (hb.cell (p := ⟨b, o + j * 4, none⟩) hlo).trans c0
      have k1 := (hb.cell (p := ⟨b, o + j * 4 + 1, none⟩) hlo).trans c1
      have k2 := (hb.cell (p := ⟨b, o + j * 4 + 2, none⟩) hlo).trans c2
      have k3 := (hb.cell (p := ⟨b, o + j * 4 + 3, none⟩) hlo).trans c3
      obtain ⟨xs, L, hown, hD, hN, hL, hv⟩ := hr
      rw [Fr.len_take j (apF ns g f) (by rw [apF_len, HN.out]; omega)] at hown
      have hvl := hown.lt
      have x3 := b2.cell 3
      have xf := b2.frozen 3
      simp only [List.getElem?_toArray, List.getElem?_cons_zero, List.getElem?_cons_succ] at x3
      have hsz : w.heap.size + 1 + 1 < wr.heap.size := by omega
      have C2 : ∀ w1, Below wr.heap.size wr w1 → Calls Tryd.prog 20 #[.agg #[.int .i64 kk, .int .i64 nn, .string s', .slice A' kids.len cap'], .slice B g.len capB] w1 fun e w' => MadeT w1 (apT ns g kk nn s' kids).k (apT ns g kk nn s' kids).n (apT ns g kk nn s' kids).s (apT ns g kk nn s' kids).f e w' := fun w1 hb1 => by
        have hb2 := hb.trans (hb1.mono hb.size)
        refine HH.out _ _ _ _ _ _ hd kk nn (d - 1) A' cap' lo hi ns g B capB lo2 hi2 w1 (hkid.below hb2 HHI.out) (Nat.le_trans HHI.out hb2.size) hsh.1 ?_ (HKB.out.below hb2 HHB.out) (Nat.le_trans HHB.out hb2.size) HA.out
        have := nodes_elem j f hd
        have := HND.out
        omega
      have hfm := apT_fits (ns := ns) HA.out hsh.1
      have hap : (apF ns g f).drop j = .cons (apT ns g kk nn s' kids).k (apT ns g kk nn s' kids).n (apT ns g kk nn s' kids).s (apT ns g kk nn s' kids).f (apF ns g (f.drop (j + 1))) := by rw [apF_drop, hd, apF_cons]
      generalize apT ns g kk nn s' kids = mm at *
      obtain ⟨mk, mn, ms, mf⟩ := mm
      have STEP := fun (A2 : Option Addr) (cap2 : Nat) (w1 w2 w4 : World) (g4 cap4 : Nat) hm hb2 hg ho hat => HP.out.step (w1 := w1) (w2 := w2) (w4 := w4) (A' := A2) (cap' := cap2) (g := g4) (cap4 := cap4) hap (by rw [apF_len, HN.out]; exact hlt) hD hN hL hv hvl hfm hm hb2 hg ho hat
      have HS2 := Lib.hid hsh.2
      have H2 := Lib.hid C2
      have HSTEP := Lib.hid STEP
      have HOWN := Lib.hid hown
      have hne : some (w.heap.size + 1 + 1) ≠ v.ownBlock := fun e => by have := (hvl _ e.symm).1; omega
      have keep : ∀ w2, Below wr.heap.size wr w2 → w2.ownsRow (w.heap.size + 1 + 1 + 1) 25 4 v j xs := fun w2 hb2 =>
        hown.kept (row := none) ⟨hb2.os, hb2.tape, hb2.output, hb2.size, fun k hk _ => hb2.block k hk⟩ (by
          cases h : v.ownBlock with
          | none => exact .inl rfl
          | some g => exact .inr (by simp))
      have HNE := Lib.hid hne
      have HKEEP := Lib.hid keep
      have HB2 := Lib.hid b2
      have hHs : w.heap.size ≤ wr.heap.size := by omega
      have ij0 : (0 : Int) ≤ (j : Int) := Int.natCast_nonneg _
      have ij1 : (j : Int) < (len : Int) := by omega
      clear C2 STEP hown hD hN hL hv hvl hb hH b0 b1 b2 hrow hkid hd c0 c1 c2 c3 hfit hlo hne keep hsh hap hfm
      go_wp2_with fail
      go_region_law (first
        | (refine step_append_lies _ (by rfl) _ _ _ (by rfl) (w.heap.size + 1 + 1 + 1) 25 i0 _ 4 56 Tryd.underlying23 hi0 hz0 hz1 hz2 rfl (by omega) v j xs (by rfl) (HO2.out.alloc _)
             ⟨w2.heap.size, 0, none⟩ 1 1 [.int .i64 mk, .int .i64 mn, .string ms, .slice A2 mf.len cap2] (by rfl) (by rfl) (World.news_of_block (cs := #[.int .i64 mk, .int .i64 mn, .string ms, .slice A2 mf.len cap2]) (fr := (0, 0)) (heap_alloc_new w2 _)) (by simp [Value.oneCell'])
             (by omega) (by unfold maxLen; omega) (by omega) (by simp; omega) (w2.heap.size + 1) (by simp) ?_
           intro g4 cap4 w4 hown4 hgrow hat hlt4
           have q4 := (HQ2.out.alloc (.cells #[.int .i64 mk, .int .i64 mn, .string ms, .slice A2 mf.len cap2] 25)).keep (hgrow.block _ (by simp; omega) HNE.out)
           have z3 := q4.cell 3
           have zf := q4.frozen 3
           simp only [List.getElem?_toArray, List.getElem?_cons_zero, List.getElem?_cons_succ] at z3
           clear q4
           have HOWN4 := Lib.hid hown4
           have HGROW := Lib.hid hgrow
           have HAT := Lib.hid hat
           clear hown4 hgrow hat)
        | (go_simp
           go_at_call 20
           refine (H2.out _ (Below.refl _ _).drew).mono ?_
           rintro e w2 ⟨A2, cap2, rfl, hm2⟩
           have hd2 : Below wr.heap.size wr w2 := (Below.refl wr.heap.size wr).drew.trans (by obtain ⟨L, _, _, _, h⟩ := hm2; exact h)
           have y3 := (hd2.cell (p := ⟨w.heap.size + 1 + 1, 3, none⟩) hsz).trans x3
           have hs2 : wr.heap.size ≤ w2.heap.size := hd2.size
           have HO2 := Lib.hid (HKEEP.out w2 hd2)
           have HQ2 := Lib.hid (HB2.out.below hd2 hsz)
           have y4 := (HQ2.out.alloc (.cells #[.int .i64 mk, .int .i64 mn, .string ms, .slice A2 mf.len cap2] 25)).cell 3
           simp only [List.getElem?_toArray, List.getElem?_cons_zero, List.getElem?_cons_succ] at y4
           have HM := Lib.hid hm2
           clear hm2 hd2))
      all_goals
        go_wp2_with fail
        go_roundw
        case rel => exact ⟨j + 1, _, by omega, by go_num, HS2.out, HSTEP.out A2 cap2 w2 _ w4 g4 cap4 (drew_made HM.out) ((Below.refl _ _).alloc (Nat.le_refl _) _) HGROW.out HOWN4.out (by rw [show (w2.alloc (.cells #[.int .i64 mk, .int .i64 mn, .string ms, .slice A2 mf.len cap2] 25)).heap.size = w2.heap.size + 1 by simp]; exact HAT.out)⟩
        case measure => simp [intOf]; omega
    · obtain rfl : j = len := by omega
      have x0 := b2.cell 0
      have x1 := b2.cell 1
      have x2 := b2.cell 2
      have x3 := b2.cell 3
      have d0 := b1.cell 0
      have d1 := b1.cell 1
      have d2 := b1.cell 2
      have d3 := b1.cell 3
      have g0 := b1.frozen 0
      have g1 := b1.frozen 1
      have g2 := b1.frozen 2
      have g3 := b1.frozen 3
      simp only [List.getElem?_toArray, List.getElem?_cons_zero, List.getElem?_cons_succ] at x0 x1 x2 x3 d0 d1 d2 d3
      rw [← HN.out, ← apF_len ns g f, Fr.take_len] at hr
      obtain ⟨A2, cap2, rfl⟩ := hr.form
      have HB1 := Lib.hid b1
      have HR := Lib.hid hr
      have HB := Lib.hid hb
      clear b0 b1 b2 hr hb HP hsh
      go_wp2_with fail
      have e1 := (((HB1.out.set_ 0 (.int .i64 k)).set_ 1 (.int .i64 n)).set_ 2 (.string s)).set_ 3 (.slice A2 (apF ns g f).len cap2)
      have hr2 := (((HR.out.set_ (p := ⟨w.heap.size + 1, 0, none⟩) (by simp) (.int .i64 k)).set_ (p := ⟨w.heap.size + 1, 1, none⟩) (by simp) (.int .i64 n)).set_ (p := ⟨w.heap.size + 1, 2, none⟩) (by simp) (.string s)).set_ (p := ⟨w.heap.size + 1, 3, none⟩) (by simp) (.slice A2 (apF ns g f).len cap2)
      refine bodyPost_ret (v := .agg #[.int .i64 k, .int .i64 n, .string s, .slice A2 (apF ns g f).len cap2]) ?_ rfl ⟨A2, cap2, rfl, hr2.done ?_ (by omega)⟩
      · exact results_cell_row Tryd.results20 _ _ (w.heap.size + 1) _ _ _ _ rfl e1 Tryd.underlying25 rfl (by kernel_rfl)
      · exact (((HB.out.setCell (p := ⟨w.heap.size + 1, 0, none⟩) (by simp) _).setCell (p := ⟨w.heap.size + 1, 1, none⟩) (by simp) _).setCell (p := ⟨w.heap.size + 1, 2, none⟩) (by simp) _).setCell (p := ⟨w.heap.size + 1, 3, none⟩) (by simp) _
theorem ap_all (N : Nat) : ∀ (s : ByteArray) (f : Fr), f.size ≤ N → ApS s f := by
  induction N with
  | zero =>
    intro s f hf
    refine apS_of s f fun i k n s kids rest hd => ?_
    have h1 := Fr.size_drop i f
    rw [hd] at h1
    simp only [Fr.size] at h1
    omega
  | succ N ih =>
    intro s f hf
    refine apS_of s f fun i k n s kids rest hd => ih s kids ?_
    have h1 := Fr.size_drop i f
    rw [hd] at h1
    simp only [Fr.size] at h1
    omega
/-- spec.l3Apply. -/
theorem apS_any (s : ByteArray) (f : Fr) : ApS s f := ap_all f.size s f (Nat.le_refl _)
end Go.Proofs.YtkgihpddjppmdaaDoor
