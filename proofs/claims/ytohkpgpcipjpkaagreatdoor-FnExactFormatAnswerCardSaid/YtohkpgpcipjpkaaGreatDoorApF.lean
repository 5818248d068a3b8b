/- spec.l3Find, l3Apply. Condition: term and bindings lie in memory and are well-formed. -/
import Derived.Test.YtohkpgpcipjpkaaGreatDoorProg
import Derived.Test.YtohkpgpcipjpkaaGreatDoorBdZ
import Derived.Test.YtohkpgpcipjpkaaGreatDoorShS
import Derived.Test.YtohkpgpcipjpkaaGreatDoorRep
import Derived.Test.YtohkpgpcipjpkaaGreatDoorCopy
namespace Go.Proofs.YtohkpgpcipjpkaaGreatDoor
open Go.RowKit

/-- The first binding of v. -/
def fdB : List Int → Fr → Int → Option Nd
  | n0 :: ns, .cons k n s kids rest, v => if n0 = v then some ⟨k, n, s, kids⟩ else fdB ns rest v
  | [], _, _ => none
  | _ :: _, .nil, _ => none
theorem fdB_cons (n0 : Int) (ns : List Int) (k n : Int) (s : ByteArray) (kids rest : Fr) (v : Int) : fdB (n0 :: ns) (.cons k n s kids rest) v = if n0 = v then some ⟨k, n, s, kids⟩ else fdB ns rest v := rfl
theorem fdB_drop (j : Nat) : ∀ (ns : List Int) (g : Fr) (v : Int) {k n : Int} {s : ByteArray} {kids rest : Fr}, ns.length = g.len → g.drop j = .cons k n s kids rest → fdB (ns.drop j) (g.drop j) v = if ns.getD j 0 = v then some ⟨k, n, s, kids⟩ else fdB (ns.drop (j + 1)) (g.drop (j + 1)) v := by
  induction j with
  | zero =>
    intro ns g v k n s kids rest hl h
    cases g with
    | nil => cases h
    | cons k' n' s' kids' rest' =>
      injection h with h1 h2 h3 h4 h5
      subst h1 h2 h3 h4 h5
      cases ns with
      | nil => simp [Fr.len] at hl
      | cons n0 ns => exact fdB_cons n0 ns k' n' s' kids' rest' v
  | succ j ih =>
    intro ns g v k n s kids rest hl h
    cases g with
    | nil => cases h
    | cons k' n' s' kids' rest' =>
      cases ns with
      | nil => simp [Fr.len] at hl
      | cons n0 ns =>
        have := ih ns rest' v (by simpa [Fr.len] using hl) h
        simpa [Fr.drop] using this
/-- All terms of the row are valid. -/
def allB : Fr → Bool
  | .nil => true
  | .cons k n s kids rest => validT k n s kids && allB rest
theorem fdB_valid (g : Fr) : ∀ (ns : List Int) (v : Int) (m : Nd), allB g = true → fdB ns g v = some m → validT m.k m.n m.s m.f = true := by
  induction g with
  | nil => intro ns v m _ h; cases ns <;> cases h
  | cons k n s kids rest _ ih =>
    intro ns v m ha h
    unfold allB at ha
    rw [Bool.and_eq_true] at ha
    cases ns with
    | nil => cases h
    | cons n0 ns =>
      rw [fdB_cons] at h
      split at h
      · injection h with h; subst h; exact ha.1
      · exact ih ns v m ha.2 h
/-- What a variable is replaced by; the term, the row with all variables replaced. -/
def apO (ns : List Int) (g : Fr) (_ : Unit) (n : Int) : Nd := (fdB ns g n).getD ⟨1, n, ⟨#[]⟩, .nil⟩
def apT (ns : List Int) (g : Fr) (k n : Int) (s : ByteArray) (f : Fr) : Nd := rpT (fun (a : Unit) _ => a) (apO ns g) () k n s f
def apF (ns : List Int) (g : Fr) (f : Fr) : Fr := rpF (fun (a : Unit) _ => a) (apO ns g) () f
theorem apF_len (ns : List Int) (g f : Fr) : (apF ns g f).len = f.len := rpF_len _ _ f _
theorem apF_cons (ns : List Int) (g : Fr) (k n : Int) (s : ByteArray) (kids rest : Fr) : apF ns g (.cons k n s kids rest) = .cons (apT ns g k n s kids).k (apT ns g k n s kids).n (apT ns g k n s kids).s (apT ns g k n s kids).f (apF ns g rest) := rpF_cons _ _ _ _ _ _ _ _
theorem apF_drop (ns : List Int) (g : Fr) (f : Fr) : ∀ j, (apF ns g f).drop j = apF ns g (f.drop j) := by
  induction f with
  | nil => intro j; cases j <;> rfl
  | cons k n s kids rest _ ih =>
    intro j
    cases j with
    | zero => rfl
    | succ j => rw [apF_cons]; exact ih j
theorem validT_fits {k n : Int} {s : ByteArray} {f : Fr} (h : validT k n s f = true) : shapeT k n s f 30 = true ∧ Fits k n s ∧ 1 + nodes f ≤ 120 := by
  unfold validT at h
  rw [Bool.and_eq_true, decide_eq_true_iff] at h
  exact ⟨h.1, (shapeT_small h.1).1, h.2⟩
/-- Each replacement is a well-formed term, and no more than 120 nodes. -/
theorem apO_good {ns : List Int} {g : Fr} (ha : allB g = true) {n d : Int} {s : ByteArray} {f : Fr} (h : shapeT 1 n s f d = true) : validT (apO ns g () n).k (apO ns g () n).n (apO ns g () n).s (apO ns g () n).f = true := by
  unfold apO
  cases hf : fdB ns g n with
  | some m => exact fdB_valid g ns n m ha hf
  | none =>
    obtain ⟨_, _, hn⟩ := shapeT_var h
    show validT 1 n ⟨#[]⟩ .nil = true
    unfold validT shapeT ownB shapeF
    rw [decide_eq_true (show (0 : Int) ≤ n by omega), decide_eq_true (show n ≤ 25 by omega)]
    rfl
theorem apT_fits {ns : List Int} {g : Fr} (ha : allB g = true) {k n d : Int} {s : ByteArray} {f : Fr} (h : shapeT k n s f d = true) : Fits (apT ns g k n s f).k (apT ns g k n s f).n (apT ns g k n s f).s := by
  unfold apT rpT
  split
  · rename_i hk
    subst hk
    exact (validT_fits (apO_good ha h)).2.1
  · exact (shapeT_small h).1

/-- What l3Find hands back: a term of the row, or none. -/
def FindRes (w : World) (lo hi : Nat) (r : Option Nd) (e : Ending) : Prop :=
  (∃ m A c, r = some m ∧ Fits m.k m.n m.s ∧ KidsAt w lo hi m.f A c ∧ e = .returned (.tuple #[.agg #[.int .i64 m.k, .int .i64 m.n, .string m.s, .slice A m.f.len c], .bool true])) ∨
      (r = none ∧ e = .returned (.tuple #[.agg #[.int .i64 0, .int .i64 0, .string ⟨#[]⟩, .slice none 0 0], .bool false]))

end Go.Proofs.YtohkpgpcipjpkaaGreatDoor
