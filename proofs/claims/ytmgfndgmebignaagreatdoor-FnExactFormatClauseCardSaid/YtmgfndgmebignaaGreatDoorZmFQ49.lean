/- The texts of clauses and programs, as plain data; spec.l4Text, FormatClause, FormatProgram. Condition: the clauses lie in memory. -/
import Derived.Test.YtmgfndgmebignaaGreatDoorProg
import Derived.Test.YtmgfndgmebignaaGreatDoorZmFQ47
import Derived.Test.YtmgfndgmebignaaGreatDoorZmFQ48
import Derived.OwnWalk
import Derived.Test.YtmgfndgmebignaaGreatDoorTermOf
import Derived.Test.YtmgfndgmebignaaGreatDoorImplV
import Derived.Laws.EntriesVeiled
import Derived.Test.YtmgfndgmebignaaGreatDoorCl
import Derived.Maps.OwnRows
import Derived.Maps.GroupsBeside
import Derived.Maps.Views
import Derived.DeepKeys4
import Derived.ChangeKeys
namespace Go.Proofs.YtmgfndgmebignaaGreatDoor.wr
open Go.RowKit

/-- What is still to be written of a body, from goal j on. -/
def bdB (j : Nat) (f : Fr) : List UInt8 := if j = 0 then (match txs f with | [] => [] | t :: ts => 58 :: 45 :: (t ++ ts.flatMap (fun x => 44 :: x))) else (txs f).flatMap (fun x => 44 :: x)
theorem bdB_zero (k n : Int) (s : ByteArray) (kids rest : Fr) : bdB 0 (.cons k n s kids rest) = 58 :: 45 :: (txT k n s kids ++ bdB 1 rest) := by
  unfold bdB
  rw [if_pos rfl, if_neg (by decide), txs_cons]
theorem bdB_step (j : Nat) (hj : j ≠ 0) (k n : Int) (s : ByteArray) (kids rest : Fr) : bdB j (.cons k n s kids rest) = 44 :: (txT k n s kids ++ bdB (j + 1) rest) := by
  unfold bdB
  rw [if_neg hj, if_neg (by omega), txs_cons, List.flatMap_cons]
  rfl
theorem bdB_nil (j : Nat) : bdB j .nil = [] := by unfold bdB; split <;> rfl
/-- The text of a clause. -/
def clT (c : Cl) : List UInt8 := txT c.k c.n c.s c.kids ++ (bdB 0 c.body ++ [46])
def fcB (c : Cl) : List UInt8 := if clauseV c = true then clT c else []
/-- The text of a program. -/
def pgT (cs : List Cl) : List UInt8 := cs.flatMap fun c => clT c ++ [10]
def fpB (cs : List Cl) : List UInt8 := if progV cs = true then pgT cs else []
theorem goal_valid {k n : Int} {s : ByteArray} {kids : Fr} (h : goalV k n s kids = true) : validT k n s kids = true := by
  unfold goalV at h
  rw [Bool.and_eq_true] at h
  exact h.1
theorem plain_valid {k n : Int} {s : ByteArray} {kids : Fr} (h : plainV k n s kids = true) : validT k n s kids = true := by
  unfold plainV at h
  rw [Bool.and_eq_true] at h
  exact h.1
theorem valid_two {k n : Int} {s : ByteArray} {f : Fr} (h : validT k n s f = true) : shapeT k n s f 30 = true ∧ nodes f ≤ 119 ∧ (txT k n s f).length ≤ 4000 := by
  unfold validT at h
  rw [Bool.and_eq_true, decide_eq_true_iff] at h
  have := (txT_shape h.1).1
  exact ⟨h.1, by omega, by omega⟩
theorem goal_at {k n : Int} {s : ByteArray} {kids rest : Fr} : ∀ (f : Fr) (i : Nat), f.drop i = .cons k n s kids rest → allG f = true → goalV k n s kids = true
  | .nil, i, h, _ => by cases i <;> cases h
  | .cons _ _ _ _ _, 0, h, ha => by
    injection h with h1 h2 h3 h4 h5
    subst h1 h2 h3 h4
    exact (Bool.and_eq_true _ _ ▸ ha).1
  | .cons _ _ _ _ rest, i + 1, h, ha => goal_at rest i h (Bool.and_eq_true _ _ ▸ ha).2
theorem bdB_len (f : Fr) : ∀ j, allG f = true → (bdB j f).length ≤ 4002 * f.len := by
  induction f with
  | nil => intro j _; rw [bdB_nil]; simp
  | cons k n s kids rest _ ih =>
    intro j h
    have hb := Bool.and_eq_true _ _ ▸ h
    have h1 := (valid_two (goal_valid hb.1)).2.2
    have h2 := ih (j + 1) hb.2
    simp only [Fr.len]
    by_cases hj : j = 0
    · subst hj
      rw [bdB_zero]
      simp only [List.length_cons, List.length_append]
      rw [Nat.zero_add] at h2
      omega
    · rw [bdB_step j hj]
      simp only [List.length_cons, List.length_append]
      omega
theorem clause_two {c : Cl} (h : clauseV c = true) : validT c.k c.n c.s c.kids = true ∧ allG c.body = true ∧ c.body.len ≤ 6 := by
  unfold clauseV goalsV at h
  simp only [Bool.and_eq_true, decide_eq_true_eq] at h
  exact ⟨plain_valid h.1, h.2.2, h.2.1⟩
theorem clT_len {c : Cl} (h : clauseV c = true) : (clT c).length ≤ 30000 := by
  obtain ⟨h1, h2, h3⟩ := clause_two h
  have a := (valid_two h1).2.2
  have b := bdB_len c.body 0 h2
  unfold clT
  simp only [List.length_append, List.length_cons, List.length_nil]
  omega

set_option maxRecDepth 100000 in
set_option maxHeartbeats 4000000 in
/-- spec.l4Text. -/
theorem l4Text_any (c : Cl) (hv : clauseV c = true) (A B : Option Addr) (cap capB lo hi : Nat) (w : World) (hk : KidsAt w lo hi c.kids A cap) (hkb : KidsAt w lo hi c.body B capB) (hh : hi ≤ w.heap.size) :
    Calls Tryz.prog 34 #[.agg #[.int .i64 c.k, .int .i64 c.n, .string c.s, .slice A c.kids.len cap, .slice B c.body.len capB]] w fun e w' => e = .returned (.string ⟨(clT c).toArray⟩) ∧ Below w.heap.size w w' := by
  obtain ⟨h1, h2, h3⟩ := clause_two hv
  obtain ⟨hs1, hn1, hl1⟩ := valid_two h1
  have hlb := bdB_len c.body 0 h2
  have HCT : Hid (clT c = txT c.k c.n c.s c.kids ++ (bdB 0 c.body ++ [46])) := Lib.hid rfl
  have hb0 : Below w.heap.size w (w.alloc (.cells #[.int .i64 c.k, .int .i64 c.n, .string c.s, .slice A c.kids.len cap, .slice B c.body.len capB] 33)) := (Below.refl _ _).alloc (Nat.le_refl _) _
  have hq0 := Blk.new w 33 #[.int .i64 c.k, .int .i64 c.n, .string c.s, .slice A c.kids.len cap, .slice B c.body.len capB]
  have x0 := hq0.cell 0
  have x1 := hq0.cell 1
  have x2 := hq0.cell 2
  have x3 := hq0.cell 3
  simp only [List.getElem?_toArray, List.getElem?_cons_zero, List.getElem?_cons_succ] at x0 x1 x2 x3
  have C1 := tx_all c.kids.size c.s c.kids (Nat.le_refl _) c.k c.n A cap lo hi 30 _ (hk.below hb0 hh) (Nat.le_trans hh hb0.size) hs1 (by omega)
  have HB := Lib.hid hkb
  have HHI := Lib.hid hh
  have HALL := Lib.hid h2
  have HQ0 := Lib.hid hq0
  have HB0 := Lib.hid hb0
  have H1 := Lib.hid C1
  clear C1 hk hkb hh h1 h2 hs1 hn1 hb0 hq0 hv
  generalize txT c.k c.n c.s c.kids = T at *
  generalize clT c = R at *
  generalize c.k = k at *
  generalize c.n = n at *
  generalize c.s = s at *
  generalize c.kids.len = kl at *
  generalize c.body = f at *
  generalize hn : f.len = len at *
  have HN := Lib.hid hn
  clear hn
  go_enter Tryz.func34, Tryz.ntmps34
  go_wp2_with fail
  refine H1.out.mono ?_
  rintro e w2 ⟨rfl, hb⟩
  have HQ2 := Lib.hid (HQ0.out.below hb HQ0.out.lt)
  have HB2 := Lib.hid (HB0.out.trans (hb.mono HB0.out.size))
  clear hb x0 x1 x2 x3
  go_wp2_with fail
  go_loopw [3, 4] (fun ov i wr => ∃ (j : Nat) (L : List UInt8), j ≤ len ∧ i = .int .i64 j ∧ ov = .string ⟨L.toArray⟩ ∧ L ++ bdB j (f.drop j) = T ++ bdB 0 f ∧ Below w2.heap.size w2 wr) (fun _ i _ => len - (intOf i).toNat)
  case atStart => exact ⟨0, T, Nat.zero_le _, rfl, rfl, rfl, Below.refl _ _⟩
  case round =>
    obtain ⟨j, L, hj, rfl, rfl, hL, hb⟩ := hrel
    have hbw := HB2.out.trans (hb.mono HB2.out.size)
    have hq := HQ2.out.below hb HQ2.out.lt
    have x4 := hq.cell 4
    simp only [List.getElem?_toArray, List.getElem?_cons_zero, List.getElem?_cons_succ] at x4
    have HLE := Lib.hid hL
    have HBR := Lib.hid hb
    have HBW := Lib.hid hbw
    have hLl : L.length + (bdB j (f.drop j)).length ≤ 29000 := by have := congrArg List.length hL; simp only [List.length_append] at this; omega
    clear hL hq
    by_cases hlt : j < len
    · obtain ⟨kk, nn, ss, kids, hd⟩ := Fr.drop_cons j f (by rw [HN.out]; exact hlt)
      obtain ⟨b, o, rfl, hlb, hbb, hrow⟩ := HB.out.2.2 (by rw [HN.out]; omega)
      obtain ⟨hfit, A', cp, c0, c1, c2, c3, hkid⟩ := hrow.elem hd
      have hlo : (⟨b, o, none⟩ : Addr).block < w.heap.size := Nat.lt_of_lt_of_le hbb HHI.out
      have k0 := (hbw.cell (p := ⟨b, o + j * 4, none⟩) hlo).trans c0
      have k1 := (hbw.cell (p := ⟨b, o + j * 4 + 1, none⟩) hlo).trans c1
      have k2 := (hbw.cell (p := ⟨b, o + j * 4 + 2, none⟩) hlo).trans c2
      have k3 := (hbw.cell (p := ⟨b, o + j * 4 + 3, none⟩) hlo).trans c3
      obtain ⟨hs9, hn9, hl9⟩ := valid_two (goal_valid (goal_at f j hd HALL.out))
      have C3 := tx_all kids.size ss kids (Nat.le_refl _) kk nn A' cp lo hi 30 wr (hkid.below hbw HHI.out) (Nat.le_trans HHI.out hbw.size) hs9 (by omega)
      have hL2 := HLE.out
      have H3 := Lib.hid C3
      by_cases hj0 : j = 0
      · subst hj0
        have t0 : (((0 : Nat) : Int) == 0) = true := rfl
        rw [hd, bdB_zero] at hL2
        have HL2 := Lib.hid hL2
        clear C3 c0 c1 c2 c3 hkid hrow hfit hd hlo hL2 hb hbw hs9 hn9
        generalize txT kk nn ss kids = T3 at *
        have HSTR : Hid ((.string ((⟨L.toArray⟩ ++ ⟨#[58, 45]⟩) ++ ⟨T3.toArray⟩) : Value) = .string ⟨(L ++ 58 :: 45 :: T3).toArray⟩) := Lib.hid (by
          rw [show (⟨#[58, 45]⟩ : ByteArray) = ⟨[58, 45].toArray⟩ from rfl, ByteArray.mk_append_mk, ByteArray.mk_append_mk]
          simp)
        have HL3 : Hid ((L ++ 58 :: 45 :: T3) ++ bdB (0 + 1) (f.drop (0 + 1)) = T ++ bdB 0 f) := Lib.hid (by rw [← HL2.out]; simp)
        simp only [Nat.zero_mul, Nat.add_zero] at k0 k1 k2 k3
        go_wp2_with fail
        refine H3.out.mono ?_
        rintro e w3 ⟨rfl, hb3⟩
        have HB3 := Lib.hid (HBR.out.trans (hb3.mono HBR.out.size))
        clear hb3
        go_wp2_with fail
        go_roundw
        case rel => exact ⟨0 + 1, L ++ 58 :: 45 :: T3, by omega, by go_num, HSTR.out, HL3.out, HB3.out⟩
        case measure => simp [intOf]; omega
      · have t0 : ((j : Int) == 0) = false := by rw [beq_eq_false_iff_ne]; omega
        rw [hd, bdB_step j hj0] at hL2
        have HL2 := Lib.hid hL2
        clear C3 c0 c1 c2 c3 hkid hrow hfit hd hlo hL2 hb hbw hs9 hn9 hj0
        generalize txT kk nn ss kids = T3 at *
        have HSTR : Hid ((.string ((⟨L.toArray⟩ ++ ⟨#[44]⟩) ++ ⟨T3.toArray⟩) : Value) = .string ⟨(L ++ 44 :: T3).toArray⟩) := Lib.hid (by
          rw [show (⟨#[44]⟩ : ByteArray) = ⟨[44].toArray⟩ from rfl, ByteArray.mk_append_mk, ByteArray.mk_append_mk]
          simp)
        have HL3 : Hid ((L ++ 44 :: T3) ++ bdB (j + 1) (f.drop (j + 1)) = T ++ bdB 0 f) := Lib.hid (by rw [← HL2.out]; simp)
        go_wp2_with fail
        refine H3.out.mono ?_
        rintro e w3 ⟨rfl, hb3⟩
        have HB3 := Lib.hid (HBR.out.trans (hb3.mono HBR.out.size))
        clear hb3
        go_wp2_with fail
        go_roundw
        case rel => exact ⟨j + 1, L ++ 44 :: T3, by omega, by go_num, HSTR.out, HL3.out, HB3.out⟩
        case measure => simp [intOf]; omega
    · obtain rfl : j = len := by omega
      have hLL : L ++ [46] = R := by
        have h1 := Fr.drop_len f
        rw [HN.out] at h1
        have h2 := HLE.out
        rw [h1, bdB_nil, List.append_nil] at h2
        rw [HCT.out, h2, List.append_assoc]
      have HLL := Lib.hid hLL
      have HSTR : Hid ((.string (⟨L.toArray⟩ ++ ⟨#[46]⟩) : Value) = .string ⟨(L ++ [46]).toArray⟩) := Lib.hid (str_app L [46])
      clear hb hbw hLL
      go_wp2_with fail
      go_ret
      rw [← HLL.out]
      exact ⟨congrArg Ending.returned HSTR.out, HBW.out⟩
end Go.Proofs.YtmgfndgmebignaaGreatDoor.wr

/- Clauses: impl.goalsOf, clauseOf, ClauseValid. Condition: the clause lies in memory, both tables in their variables. -/
namespace Go.Proofs.YtmgfndgmebignaaGreatDoor
open Go.RowKit

theorem infoG : (Tryz.prog.info? 119).map (fun i => (i.zero, i.size, i.bytes)) = some (some .nilIface, 1, 16) := by kernel_rfl

/-- The goals of the row f lie in block b from cell o on; what they lead to lies in blocks from lo to below hi. -/
def GlRow (w : World) (lo hi : Nat) : Fr → Nat → Nat → Prop
  | .nil, _, _ => True
  | .cons _ _ s kids rest, b, o => (∃ v A cap, w.cell? ⟨b, o, none⟩ = some v ∧ GIs (gk s kids.len) s A kids.len cap v ∧ NdS w lo hi kids A cap) ∧ GlRow w lo hi rest b (o + 1)
def GlS (w : World) (lo hi : Nat) (f : Fr) (A : Option Addr) (cap : Nat) : Prop :=
  f.len ≤ cap ∧ cap ≤ maxLen ∧ (0 < f.len → ∃ b, A = some ⟨b, 0, none⟩ ∧ lo ≤ b ∧ b < hi ∧ GlRow w lo hi f b 0)
section
variable {w w' : World} {lo hi lo' hi' : Nat}
theorem GlRow.keep (hk : ∀ p : Addr, lo ≤ p.block → p.block < hi → w'.cell? p = w.cell? p) (hL : lo' ≤ lo) (hH : hi ≤ hi') (f : Fr) :
    ∀ b o, (∀ j, j < f.len → w'.cell? ⟨b, o + j, none⟩ = w.cell? ⟨b, o + j, none⟩) → GlRow w lo hi f b o → GlRow w' lo' hi' f b o := by
  induction f with
  | nil => intro b o _ _; trivial
  | cons k n s kids rest _ ihr =>
    rintro b o hc ⟨⟨v, A, cap, hv, hg, hn⟩, hr⟩
    simp only [Fr.len] at hc
    refine ⟨⟨v, A, cap, (hc 0 (by omega)).trans hv, hg, hn.keep hk hL hH⟩, ihr b (o + 1) (fun j hj => ?_) hr⟩
    have := hc (j + 1) (by omega)
    rwa [show o + (j + 1) = o + 1 + j by omega] at this
theorem GlS.keep {f : Fr} {A : Option Addr} {cap : Nat} (h : GlS w lo hi f A cap) (hk : ∀ p : Addr, lo ≤ p.block → p.block < hi → w'.cell? p = w.cell? p) (hL : lo' ≤ lo) (hH : hi ≤ hi') : GlS w' lo' hi' f A cap :=
  ⟨h.1, h.2.1, fun hp => by
    obtain ⟨b', e, hl, hb, hrow⟩ := h.2.2 hp
    exact ⟨b', e, by omega, by omega, GlRow.keep hk hL hH f b' 0 (fun j _ => hk _ hl hb) hrow⟩⟩
/-- One goal more behind a row. -/
theorem GlRow.snoc (f : Fr) {k n : Int} {s : ByteArray} {kids : Fr} {v : Value} {A : Option Addr} {cap : Nat} (hg : GIs (gk s kids.len) s A kids.len cap v) (hn : NdS w lo hi kids A cap) :
    ∀ b o, GlRow w lo hi f b o → w.cell? ⟨b, o + f.len, none⟩ = some v → GlRow w lo hi (f.app (.cons k n s kids .nil)) b o := by
  induction f with
  | nil => intro b o _ hc; exact ⟨⟨v, A, cap, hc, hg, hn⟩, trivial⟩
  | cons k' n' s' kids' rest' _ ihr =>
    intro b o h hc
    refine ⟨h.1, ihr b (o + 1) h.2 ?_⟩
    rw [← hc]
    simp only [Fr.len]
    rw [show o + (rest'.len + 1) = o + 1 + rest'.len by omega]
end
/-- The loop's relation: j goals are made, in block g. -/
def GPart (w : World) (f : Fr) (g j : Nat) (wr : World) : Prop :=
  Below w.heap.size w wr ∧ (∃ cur, Blk wr g 119 cur ∧ cur.size = f.len) ∧ GlRow wr (g + 1) wr.heap.size (f.take j) g 0 ∧ w.heap.size ≤ g
theorem GPart.cell {w wr w2 : World} {f : Fr} {g j : Nat} (h : GPart w f g j wr) (hj : j < f.len) (hb : Below wr.heap.size wr w2) : (∃ v, w2.cell? ⟨g, j, none⟩ = some v) ∧ w2.frozen? ⟨g, j, none⟩ = false := by
  obtain ⟨_, ⟨cur, hblk, hs⟩, _⟩ := h
  have hb2 := hblk.below hb hblk.lt
  refine ⟨?_, hb2.frozen _⟩
  rw [hb2.cell]
  exact ⟨_, Array.getElem?_eq_getElem (by omega)⟩
theorem GPart.step {w wr w2 : World} {f : Fr} {g i lo : Nat} {k n : Int} {s : ByteArray} {kids rest : Fr} {v : Value} {A : Option Addr} {cap : Nat}
    (h : GPart w f g i wr) (hd : f.drop i = .cons k n s kids rest) (hi : i < f.len) (hb : Below wr.heap.size wr w2) (hlo : wr.heap.size ≤ lo) (hg : GIs (gk s kids.len) s A kids.len cap v) (hn : NdS w2 lo w2.heap.size kids A cap) :
    GPart w f g (i + 1) (w2.setCell ⟨g, i, none⟩ v) := by
  obtain ⟨hbw, ⟨cur, hblk, hs⟩, hrow, hgl⟩ := h
  have hlt := hblk.lt
  have b2 := hblk.below hb hlt
  have far : ∀ p : Addr, p.block ≠ g → (w2.setCell ⟨g, i, none⟩ v).cell? p = w2.cell? p := fun p hp => World.cell?_of_block (heap_setCell_other w2 ⟨g, i, none⟩ p.block v hp)
  have hsz : (w2.setCell ⟨g, i, none⟩ v).heap.size = w2.heap.size := by simp [World.setCell]
  have hlen : (f.take i).len = i := Fr.len_take i f (by omega)
  refine ⟨(hbw.trans (hb.mono hbw.size)).setCell hgl _, ⟨_, b2.set_ i v, by simpa using hs⟩, ?_, hgl⟩
  rw [Fr.take_succ i f hd, hsz]
  refine GlRow.snoc (f.take i) hg (hn.keep (fun p hp _ => far p (by omega)) (by omega) (Nat.le_refl _)) g 0 ?_ ?_
  · refine GlRow.keep (fun p hp hp' => ?_) (Nat.le_refl _) hb.size (f.take i) g 0 (fun j hj => ?_) hrow
    · rw [far p (by omega)]
      exact hb.cell hp'
    · rw [hlen] at hj
      rw [(b2.set_ i v).cell, hblk.cell]
      simp only [Array.getElem?_setIfInBounds]
      rw [if_neg (by omega)]
  · rw [hlen, (b2.set_ i v).cell]
    simp [Array.getElem?_setIfInBounds]
    omega
theorem GPart.start {w w1 : World} {f : Fr} {base : Nat} {xs : List Value} (hown : w1.ownsRow base 119 1 (.slice (some ⟨w.heap.size, 0, none⟩) f.len f.len) f.len xs) (hg : w.grownBy w1 none) : GPart w f w.heap.size 0 w1 := by
  rcases hown.2 with ⟨h', _⟩ | ⟨g', cap', cur, h', _, hb, _, _, hs, _⟩
  · simp at h'
  · simp only [Value.slice.injEq, Option.some.injEq, Addr.mk.injEq, and_true, true_and] at h'
    obtain ⟨rfl, rfl⟩ := h'
    exact ⟨(Below.refl _ _).grown hg (Nat.le_refl _) (fun k hk => by cases hk), ⟨cur, hb, by simpa using hs⟩, trivial, Nat.le_refl _⟩
theorem GIs.iface {t : Nat} {s : ByteArray} {A : Option Addr} {len cap : Nat} {v : Value} (h : GIs t s A len cap v) : ∃ T x, v = .iface T x := by
  rcases h with ⟨_, rfl⟩ | ⟨_, rfl⟩ | ⟨_, rfl⟩ <;> exact ⟨_, _, rfl⟩
/-- What impl.goalsOf leaves. -/
def GsOf (w : World) (f : Fr) (e : Ending) (w' : World) : Prop :=
  Below w.heap.size w w' ∧ ((goalsV f = false ∧ e = .returned (.tuple #[.slice none 0 0, .bool false])) ∨ (goalsV f = true ∧ ∃ A cap, e = .returned (.tuple #[.slice A f.len cap, .bool true]) ∧ GlS w' w.heap.size w'.heap.size f A cap))
theorem GPart.done {w wr : World} {f : Fr} {g : Nat} (h : GPart w f g f.len wr) (hl : f.len ≤ maxLen) : GlS wr w.heap.size wr.heap.size f (some ⟨g, 0, none⟩) f.len := by
  obtain ⟨hbw, ⟨cur, hblk, hs⟩, hrow, hgl⟩ := h
  rw [Fr.take_len] at hrow
  exact ⟨Nat.le_refl _, hl, fun _ => ⟨g, rfl, hgl, hblk.lt, GlRow.keep (fun _ _ _ => rfl) (by omega) (Nat.le_refl _) f g 0 (fun _ _ => rfl) hrow⟩⟩

set_option maxRecDepth 100000 in
set_option maxHeartbeats 2000000 in
/-- impl.goalsOf. -/
theorem goalsOf_any (f : Fr) (A : Option Addr) (cap lo hi : Nat) (w : World) (hk : KidsAt w lo hi f A cap) (hh : hi ≤ w.heap.size) (hnd : nodes f ≤ 1048576) (ht : nv.Tab w) (ho : op.OpTab w) :
    Calls Tryz.prog 62 #[.slice A f.len cap] w fun e w' => GsOf w f e w' := by
  have hl : f.len ≤ 1048576 := by have := len_le_nodes f; omega
  have HE : Hid (goalsV f = (decide (f.len ≤ 6) && allG f)) := Lib.hid rfl
  have HK := Lib.hid hk
  have HHI := Lib.hid hh
  have HND := Lib.hid hnd
  have HT := Lib.hid ht
  have HO := Lib.hid ho
  have hst := fun w1 base xs => GPart.start (w := w) (w1 := w1) (f := f) (base := base) (xs := xs)
  have HST := Lib.hid hst
  clear hk hh hnd ht ho hst
  generalize hn : f.len = len at *
  have HN := Lib.hid hn
  clear hn
  by_cases h6 : len ≤ 6
  · have t6 : ¬ ((len : Int) > 6) := by omega
    obtain ⟨i0, hi0, hz0, hz1, hz2⟩ := info_parts infoG
    go_enter Tryz.func62, Tryz.ntmps62
    go_wp2_with (at_make; go_must (refine wpList_make_full _ rfl _ _ 63 rfl w.heap.size 119 i0 _ 1 Tryz.underlying63 hi0 hz0 hz1 .i64 .i64 _ _ len rfl rfl rfl rfl (by rw [hz2]; omega) (by unfold maxLen; omega) (Nat.le_refl _) ?_); intro w1 hown hgrow)
    have hp0 := HST.out _ _ _ hown hgrow
    have HP0 := Lib.hid hp0
    clear hp0 hown hgrow HST hi0 hz0 hz1 hz2
    go_loopw [17] (fun i wr => ∃ (j : Nat), j ≤ len ∧ i = .int .i64 j ∧ allG (f.drop j) = allG f ∧ GPart w f w.heap.size j wr) (fun i _ => len - (intOf i).toNat)
    case atStart => exact ⟨0, Nat.zero_le _, rfl, rfl, HP0.out⟩
    case round =>
      obtain ⟨j, hj, rfl, hv, hpart⟩ := hrel
      have HPT := Lib.hid hpart
      by_cases hlt : j < len
      · have hltf : j < f.len := by rw [HN.out]; exact hlt
        obtain ⟨kk, nn, s, kids, hd⟩ := Fr.drop_cons j f hltf
        obtain ⟨b, o, rfl, hlb, hbb, hrow⟩ := HK.out.2.2 (by rw [HN.out]; omega)
        obtain ⟨hfit, A', cp, c0, c1, c2, c3, hkid⟩ := hrow.elem hd
        rw [hd] at hv
        have hv2 : (goalV kk nn s kids && allG (f.drop (j + 1))) = allG f := hv
        have hb := hpart.1
        have hlo : (⟨b, o, none⟩ : Addr).block < w.heap.size := Nat.lt_of_lt_of_le hbb HHI.out
        have k0 := (hb.cell (p := ⟨b, o + j * 4, none⟩) hlo).trans c0
        have k1 := (hb.cell (p := ⟨b, o + j * 4 + 1, none⟩) hlo).trans c1
        have k2 := (hb.cell (p := ⟨b, o + j * 4 + 2, none⟩) hlo).trans c2
        have k3 := (hb.cell (p := ⟨b, o + j * 4 + 3, none⟩) hlo).trans c3
        have hb1 : Below wr.heap.size wr (wr.alloc (.cells #[.int .i64 kk, .int .i64 nn, .string s, .slice A' kids.len cp] 31)) := (Below.refl _ _).alloc (Nat.le_refl _) _
        have hbw1 := hb.trans (hb1.mono hb.size)
        have C1 := goalOf_any kk nn s kids A' cp lo hi _ (hkid.below hbw1 HHI.out) (Nat.le_trans HHI.out hbw1.size) hfit (Nat.le_trans (nodes_drop_elem j f hd) HND.out) (HT.out.below hbw1) (HO.out.below hbw1)
        have cellsOf := fun w2 hb => HPT.out.cell (w2 := w2) hltf hb
        have stepOf := fun w2 l0 A cap v hb hlo hg hn => HPT.out.step (w2 := w2) (lo := l0) (A := A) (cap := cap) (v := v) hd hltf hb hlo hg hn
        have H1 := Lib.hid C1
        have HB := Lib.hid hb
        have HB1 := Lib.hid hb1
        have HEE := Lib.hid hv2
        have HC := Lib.hid cellsOf
        have HS := Lib.hid stepOf
        clear C1 hb hb1 hbw1 hv hv2 c0 c1 c2 c3 hkid hrow hfit hd hlo cellsOf stepOf hpart hltf
        go_wp2_with fail
        refine H1.out.mono ?_
        rintro e w2 ⟨hb2, hr⟩
        have hb12 : Below wr.heap.size wr w2 := HB1.out.trans (hb2.mono HB1.out.size)
        rcases hr with ⟨hok, rfl⟩ | ⟨hok, v, A3, cap3, rfl, hgi, hnds⟩
        · have HV : Hid (goalsV f = false) := Lib.hid (by rw [HE.out, ← HEE.out, hok]; simp)
          have HBW : Hid (Below w.heap.size w w2) := Lib.hid (HB.out.trans (hb12.mono HB.out.size))
          clear hok hb2 hb12 k0 k1 k2 k3
          go_wp2_with fail
          go_ret2
          exact ⟨HBW.out, .inl ⟨HV.out, rfl⟩⟩
        · obtain ⟨⟨v0, d0⟩, g0⟩ := HC.out w2 hb12
          have hstep := HS.out w2 _ A3 cap3 v hb12 HB1.out.size hgi hnds
          have HF : Hid (allG (f.drop (j + 1)) = allG f) := Lib.hid (by rw [← HEE.out, hok]; rfl)
          obtain ⟨T, x, rfl⟩ := hgi.iface
          have HSTEP := Lib.hid hstep
          clear hok hgi hnds hb2 hb12 hstep k0 k1 k2 k3
          go_wp2_with fail
          go_roundw
          case rel => exact ⟨j + 1, by omega, by go_num, HF.out, HSTEP.out⟩
          case measure => simp [intOf]; omega
      · obtain rfl : j = len := by omega
        have HV : Hid (goalsV f = true) := Lib.hid (by
          have h1 := Fr.drop_len f
          rw [HN.out] at h1
          rw [HE.out, ← hv, h1, decide_eq_true h6]; rfl)
        clear hpart hv
        go_wp2_with fail
        go_ret2
        have hfin := HPT.out
        rw [← HN.out] at hfin
        exact ⟨HPT.out.1, .inr ⟨HV.out, some ⟨w.heap.size, 0, none⟩, f.len, by rw [HN.out]; rfl, hfin.done (by rw [HN.out]; unfold maxLen; omega)⟩⟩
  · have t6 : (len : Int) > 6 := by omega
    have HV : Hid (goalsV f = false) := Lib.hid (by rw [HE.out, decide_eq_false h6]; rfl)
    go_enter Tryz.func62, Tryz.ntmps62
    go_wp2_with fail
    go_ret2
    exact ⟨Below.refl _ _, .inl ⟨HV.out, rfl⟩⟩
theorem results_cell_row3 {P : Program} {fn : Func} {p u : Tmp} {ty : TypeId} (h : fn.results = #[.cell p ty, .tmp u]) (tmps : Array Value) (w : World) (g : Nat) (t : TypeId) (cs : Array Value) (d : TypeDesc)
    (hp : tmps.getD p undef = .pointer (some ⟨g, 0, none⟩)) (hg : Blk w g t cs)
    (hu : P.underlying ty = some d) (hd : (match d with | .struct _ | .array _ _ => true | _ => false) = true) (hi : (P.info? ty).map (·.size) = some cs.size) :
    (results fn tmps).run P w = .ok (.tuple #[.agg cs, tmps.getD u undef]) w := results_cell_row2 h tmps w g t cs (0, 0) d hp hg hu hd hi

/-- What impl.clauseOf leaves. -/
def COf (w : World) (c : Cl) (e : Ending) (w' : World) : Prop :=
  Below w.heap.size w w' ∧ ((clauseV c = false ∧ e = .returned (.tuple #[.agg #[.string ⟨#[]⟩, .slice none 0 0, .slice none 0 0], .bool false])) ∨
    (clauseV c = true ∧ ∃ A cap G gcap, e = .returned (.tuple #[.agg #[.string c.s, .slice A c.kids.len cap, .slice G c.body.len gcap], .bool true]) ∧ NdS w' w.heap.size w'.heap.size c.kids A cap ∧ GlS w' w.heap.size w'.heap.size c.body G gcap))
theorem set3 {w : World} {g : Nat} {t : TypeId} {x0 x1 x2 : Value} (h : Blk w g t #[x0, x1, x2]) (a b c : Value) : Blk (((w.setCell ⟨g, 0, none⟩ a).setCell ⟨g, 1, none⟩ b).setCell ⟨g, 2, none⟩ c) g t #[a, b, c] := ((h.set_ 0 a).set_ 1 b).set_ 2 c

set_option maxRecDepth 100000 in
set_option maxHeartbeats 2000000 in
/-- impl.clauseOf. -/
theorem clauseOf_any (c : Cl) (A B : Option Addr) (cap capB lo hi : Nat) (w : World) (hk : KidsAt w lo hi c.kids A cap) (hkb : KidsAt w lo hi c.body B capB) (hh : hi ≤ w.heap.size) (hf : Fits c.k c.n c.s) (hnd : nodes c.kids ≤ 1048576) (hndb : nodes c.body ≤ 1048576) (ht : nv.Tab w) (ho : op.OpTab w) :
    Calls Tryz.prog 37 #[.agg #[.int .i64 c.k, .int .i64 c.n, .string c.s, .slice A c.kids.len cap, .slice B c.body.len capB]] w fun e w' => COf w c e w' := by
  obtain ⟨k, n, s, f, g⟩ := c
  simp only at *
  have HE : Hid (clauseV ⟨k, n, s, f, g⟩ = (plainV k n s f && goalsV g)) := Lib.hid rfl
  have hb0 : Below w.heap.size w ((w.alloc (.cells #[.int .i64 k, .int .i64 n, .string s, .slice A f.len cap, .slice B g.len capB] 33)).alloc (.cells #[.string ⟨#[]⟩, .slice none 0 0, .slice none 0 0] 65)) := two_alloc w _ _
  have hq0 : Blk ((w.alloc (.cells #[.int .i64 k, .int .i64 n, .string s, .slice A f.len cap, .slice B g.len capB] 33)).alloc (.cells #[.string ⟨#[]⟩, .slice none 0 0, .slice none 0 0] 65)) w.heap.size 33 #[.int .i64 k, .int .i64 n, .string s, .slice A f.len cap, .slice B g.len capB] := (Blk.new w _ _).alloc _
  have hq1 : Blk ((w.alloc (.cells #[.int .i64 k, .int .i64 n, .string s, .slice A f.len cap, .slice B g.len capB] 33)).alloc (.cells #[.string ⟨#[]⟩, .slice none 0 0, .slice none 0 0] 65)) (w.heap.size + 1) 65 #[.string ⟨#[]⟩, .slice none 0 0, .slice none 0 0] := by
    have h := Blk.new (w.alloc (.cells #[.int .i64 k, .int .i64 n, .string s, .slice A f.len cap, .slice B g.len capB] 33)) 65 #[.string ⟨#[]⟩, .slice none 0 0, .slice none 0 0]
    simpa using h
  have e9 : ((w.alloc (.cells #[.int .i64 k, .int .i64 n, .string s, .slice A f.len cap, .slice B g.len capB] 33)).alloc (.cells #[.string ⟨#[]⟩, .slice none 0 0, .slice none 0 0] 65)).heap.size = w.heap.size + 1 + 1 := by simp
  have C1 := plainOf_any k n s f A cap lo hi _ (hk.below hb0 hh) (Nat.le_trans hh hb0.size) hf hnd (ht.below hb0) (ho.below hb0)
  have C2 := fun w1 (hb : Below w.heap.size w w1) => goalsOf_any g B capB lo hi w1 (hkb.below hb hh) (Nat.le_trans hh hb.size) hndb (ht.below hb) (ho.below hb)
  unfold POf at C1
  rw [e9] at C1
  generalize plainV k n s f = v1 at *
  have H1 := Lib.hid C1
  have H2 := Lib.hid C2
  have HB0 := Lib.hid hb0
  have HQ0 := Lib.hid hq0
  have HQ1 := Lib.hid hq1
  have HS0 := Lib.hid e9
  clear C1 C2 hk hkb hf hnd hndb ht ho hb0 hq0 hq1 e9
  go_enter Tryz.func37, Tryz.ntmps37
  go_wp2_with fail
  refine H1.out.mono ?_
  rintro e w2 ⟨hb, hr⟩
  rw [← HS0.out] at hb
  have hq0 := HQ0.out.below hb HQ0.out.lt
  have hq1 := HQ1.out.below hb HQ1.out.lt
  have hbw := HB0.out.trans (hb.mono HB0.out.size)
  have hw2 : w.heap.size + 1 < w2.heap.size := by have := hb.size; rw [HS0.out] at this; exact this
  have hw1 : w.heap.size < w2.heap.size := by omega
  have a4 := hq0.cell 4
  have r0 := hq1.cell 0
  have r1 := hq1.cell 1
  have r2 := hq1.cell 2
  have f0 := hq1.frozen 0
  have f1 := hq1.frozen 1
  have f2 := hq1.frozen 2
  simp only [List.getElem?_toArray, List.getElem?_cons_zero, List.getElem?_cons_succ] at a4 r0 r1 r2
  have HBW := Lib.hid hbw
  have HR1 := Lib.hid hq1
  clear hb hq0 hq1 hbw
  rcases hr with ⟨hok, s', A', len', cap', rfl⟩ | ⟨hok, A2, cap2, rfl, hnds⟩
  · have HV : Hid (clauseV ⟨k, n, s, f, g⟩ = false) := Lib.hid (by rw [HE.out, hok]; rfl)
    clear hok
    go_wp2_with fail
    refine bodyPost_ret (v := .tuple #[.agg #[.string ⟨#[]⟩, .slice none 0 0, .slice none 0 0], .bool false]) ?_ rfl ⟨?_, .inl ⟨HV.out, rfl⟩⟩
    · exact results_cell_row3 Tryz.results37 _ _ (w.heap.size + 1) _ _ _ rfl ((set3 HR1.out _ _ _).alloc _) Tryz.underlying65 rfl (by kernel_rfl)
    · exact (((HBW.out.setCell (by simp) _).setCell (by simp) _).setCell (by simp) _).alloc (by simpa [World.setCell] using HBW.out.size) _
  · subst hok
    have hb2 : Below w.heap.size w (w2.alloc (.cells #[.string s, .slice A2 f.len cap2] 62)) := HBW.out.alloc HBW.out.size _
    have C2 := H2.out _ hb2
    have hp := Blk.new w2 62 #[.string s, .slice A2 f.len cap2]
    have hr := HR1.out.alloc (.cells #[.string s, .slice A2 f.len cap2] 62)
    have hnd2 : NdS (w2.alloc (.cells #[.string s, .slice A2 f.len cap2] 62)) (w.heap.size + 1 + 1) w2.heap.size f A2 cap2 := hnds.keep (fun p _ hp => World.cell?_of_block (Below.heap_alloc _ _ _ hp)) (Nat.le_refl _) (Nat.le_refl _)
    have H3 := Lib.hid C2
    have HB2 := Lib.hid hb2
    have HP := Lib.hid hp
    have HR := Lib.hid hr
    have HND2 := Lib.hid hnd2
    clear C2 hb2 hp hr hnd2 hnds r0 r1 r2 f0 f1 f2
    go_wp2_with fail
    refine H3.out.mono ?_
    rintro e w3 ⟨hb, hr⟩
    have hp3 := HP.out.below hb HP.out.lt
    have hr3 := HR.out.below hb HR.out.lt
    have hb3 := HB2.out.trans (hb.mono HB2.out.size)
    have hs3 := hb.size
    have e8 : (w2.alloc (.cells #[.string s, .slice A2 f.len cap2] 62)).heap.size = w2.heap.size + 1 := by simp
    rw [e8] at hs3
    have hnd3 : NdS w3 (w.heap.size + 1 + 1) w3.heap.size f A2 cap2 := HND2.out.keep (fun p _ hp => hb.cell (by rw [e8]; omega)) (Nat.le_refl _) (by omega)
    have p0 := hp3.cell 0
    have p1 := hp3.cell 1
    have r0 := hr3.cell 0
    have r1 := hr3.cell 1
    have r2 := hr3.cell 2
    have f0 := hr3.frozen 0
    have f1 := hr3.frozen 1
    have f2 := hr3.frozen 2
    simp only [List.getElem?_toArray, List.getElem?_cons_zero, List.getElem?_cons_succ] at p0 p1 r0 r1 r2
    have HB3 := Lib.hid hb3
    have HR3 := Lib.hid hr3
    have HND3 := Lib.hid hnd3
    clear hp3 hr3 hb3 hnd3 hb a4
    rcases hr with ⟨hok, rfl⟩ | ⟨hok, G, gcap, rfl, hgl⟩
    · have HV : Hid (clauseV ⟨k, n, s, f, g⟩ = false) := Lib.hid (by rw [HE.out, hok]; rfl)
      clear hok e8
      go_wp2_with fail
      refine bodyPost_ret (v := .tuple #[.agg #[.string ⟨#[]⟩, .slice none 0 0, .slice none 0 0], .bool false]) ?_ rfl ⟨?_, .inl ⟨HV.out, rfl⟩⟩
      · exact results_cell_row3 Tryz.results37 _ _ (w.heap.size + 1) _ _ _ rfl (set3 HR3.out _ _ _) Tryz.underlying65 rfl (by kernel_rfl)
      · exact ((HB3.out.setCell (by simp) _).setCell (by simp) _).setCell (by simp) _
    · have HV : Hid (clauseV ⟨k, n, s, f, g⟩ = true) := Lib.hid (by rw [HE.out, hok]; rfl)
      rw [e8] at hgl
      have hfin : ∀ a b d : Value, COf w ⟨k, n, s, f, g⟩ (.returned (.tuple #[.agg #[.string s, .slice A2 f.len cap2, .slice G g.len gcap], .bool true])) (((w3.setCell ⟨w.heap.size + 1, 0, none⟩ a).setCell ⟨w.heap.size + 1, 1, none⟩ b).setCell ⟨w.heap.size + 1, 2, none⟩ d) := fun a b d => by
        have far : ∀ p : Addr, w.heap.size + 1 + 1 ≤ p.block → (((w3.setCell ⟨w.heap.size + 1, 0, none⟩ a).setCell ⟨w.heap.size + 1, 1, none⟩ b).setCell ⟨w.heap.size + 1, 2, none⟩ d).cell? p = w3.cell? p := fun p hp => by
          refine World.cell?_of_block ?_
          rw [heap_setCell_other _ _ _ _ (by show p.block ≠ w.heap.size + 1; omega), heap_setCell_other _ _ _ _ (by show p.block ≠ w.heap.size + 1; omega), heap_setCell_other _ _ _ _ (by show p.block ≠ w.heap.size + 1; omega)]
        have hsz : (((w3.setCell ⟨w.heap.size + 1, 0, none⟩ a).setCell ⟨w.heap.size + 1, 1, none⟩ b).setCell ⟨w.heap.size + 1, 2, none⟩ d).heap.size = w3.heap.size := by simp [World.setCell]
        exact ⟨((HB3.out.setCell (by simp) _).setCell (by simp) _).setCell (by simp) _, .inr ⟨HV.out, A2, cap2, G, gcap, rfl, HND3.out.keep (fun p hl _ => far p hl) (by omega) (by rw [hsz]; exact Nat.le_refl _), hgl.keep (fun p hl _ => far p (by omega)) (by omega) (by rw [hsz]; exact Nat.le_refl _)⟩⟩
      have HF := Lib.hid hfin
      clear hfin hgl hok e8
      generalize f.len = fl at *
      generalize g.len = gl at *
      go_wp2_with fail
      refine bodyPost_ret (v := .tuple #[.agg #[.string s, .slice A2 fl cap2, .slice G gl gcap], .bool true]) ?_ rfl (HF.out _ _ _)
      exact results_cell_row3 Tryz.results37 _ _ (w.heap.size + 1) _ _ _ rfl (set3 HR3.out _ _ _) Tryz.underlying65 rfl (by kernel_rfl)

end Go.Proofs.YtmgfndgmebignaaGreatDoor

/- Goals in memory: their forms, elements of a row of goals. Condition: the goals lie in memory. -/
namespace Go.Proofs.YtmgfndgmebignaaGreatDoor
open Go.RowKit Go.ChangeShapes

@[go_sem] theorem mth_pf (d : Nat) (x : Value) (w : World) : (method (d + 3) 62 x "loop.example/prologserver/impl.form").run Tryz.prog w = .ok (65, x) w := by kernel_rfl
set_option maxRecDepth 100000 in
/-- plainGoal.form. -/
theorem formP_any (s : ByteArray) (A : Option Addr) (len cap : Nat) (w : World) :
    Calls Tryz.prog 65 #[.agg #[.string s, .slice A len cap]] w fun e w' => e = .returned (.agg #[.string s, .slice A len cap]) ∧ Below w.heap.size w w' := by
  have HB : ∀ o o', Hid (Below w.heap.size w ((w.alloc o).alloc o')) := fun o o' => Lib.hid (two_alloc w o o')
  have hq := Blk.new (w.alloc (.cells #[.string s, .slice A len cap] 62)) 116 #[.string s, .slice A len cap]
  rw [show (w.alloc (.cells #[.string s, .slice A len cap] 62)).heap.size = w.heap.size + 1 by simp] at hq
  have HQ := Lib.hid hq
  clear hq
  go_enter Tryz.func65, Tryz.ntmps65
  go_wp2_with fail
  refine bodyPost_ret (v := .agg #[.string s, .slice A len cap]) ?_ rfl ⟨rfl, (HB _ _).out⟩
  exact results_cell_row Tryz.results65 _ _ (w.heap.size + 1) _ _ _ _ rfl HQ.out Tryz.underlying116 rfl (by kernel_rfl)

theorem GlRow.at_ {w : World} {lo hi : Nat} : ∀ (f : Fr) (i b o : Nat), GlRow w lo hi f b o → GlRow w lo hi (f.drop i) b (o + i)
  | .nil, i, _, _, _ => by cases i <;> trivial
  | .cons _ _ _ _ _, 0, _, _, h => h
  | .cons _ _ _ _ rest, i + 1, b, o, h => by
    have := GlRow.at_ rest i b (o + 1) h.2
    rw [show o + 1 + i = o + (i + 1) by omega] at this
    exact this
theorem GlRow.elem {w : World} {lo hi i b o : Nat} {f rest kids : Fr} {k n : Int} {s : ByteArray} (h : GlRow w lo hi f b o) (hd : f.drop i = .cons k n s kids rest) :
    ∃ v A cap, w.cell? ⟨b, o + i, none⟩ = some v ∧ GIs (gk s kids.len) s A kids.len cap v ∧ NdS w lo hi kids A cap := by
  have := GlRow.at_ f i b o h
  rw [hd] at this
  exact this.1
theorem allG_elem {k n : Int} {s : ByteArray} {kids rest : Fr} : ∀ (f : Fr) (i : Nat), f.drop i = .cons k n s kids rest → allG f = true → goalV k n s kids = true
  | .nil, i, h, _ => by cases i <;> cases h
  | .cons _ _ _ _ _, 0, h, ha => by
    injection h with h1 h2 h3 h4 h5
    subst h1 h2 h3 h4
    exact (Bool.and_eq_true _ _ ▸ ha).1
  | .cons _ _ _ _ rest, i + 1, h, ha => allG_elem rest i h (Bool.and_eq_true _ _ ▸ ha).2
theorem valid_shape2 {k n : Int} {s : ByteArray} {f : Fr} (h : validT k n s f = true) : shapeT k n s f 30 = true ∧ nodes f ≤ 119 := by
  unfold validT at h
  rw [Bool.and_eq_true, decide_eq_true_iff] at h
  exact ⟨h.1, by omega⟩
/-- A goal in memory: whether it is plain, and what then. -/
theorem goal_plain {k n : Int} {s : ByteArray} {kids : Fr} (h : goalV k n s kids = true) (hg : gk s kids.len = 3) : plainK k s kids.len = true ∧ k = 3 ∧ n = 0 ∧ validT 3 0 s kids = true := by
  have hp : plainV k n s kids = true := by rw [plainV_goal, h, hg]; rfl
  unfold plainV at hp
  rw [Bool.and_eq_true] at hp
  have h3 := hp.2
  unfold plainK at h3
  rw [Bool.and_eq_true, beq_iff_eq] at h3
  obtain ⟨rfl, _⟩ := h3
  have hv := hp.1
  have hs := (valid_shape2 hv).1
  obtain ⟨rfl, _⟩ := shapeT_struct hs
  exact ⟨hp.2, rfl, rfl, hv⟩
theorem goal_other {k n : Int} {s : ByteArray} {kids : Fr} (h : goalV k n s kids = true) (hg : gk s kids.len ≠ 3) : plainK k s kids.len = false := by
  have hp : plainV k n s kids = false := by rw [plainV_goal, h]; simpa using hg
  have hv : validT k n s kids = true := by
    unfold goalV at h
    rw [Bool.and_eq_true] at h
    exact h.1
  unfold plainV at hp
  rw [hv] at hp
  exact hp

@[go_sem] theorem mth_bf (d : Nat) (x : Value) (w : World) : (method (d + 3) 188 x "loop.example/prologserver/impl.form").run Tryz.prog w = .ok (209, x) w := by kernel_rfl
@[go_sem] theorem mth_cf (d : Nat) (x : Value) (w : World) : (method (d + 3) 187 x "loop.example/prologserver/impl.form").run Tryz.prog w = .ok (208, x) w := by kernel_rfl
set_option maxRecDepth 100000 in
/-- builtinGoal.form. -/
theorem formB_any (s : ByteArray) (A : Option Addr) (len cap : Nat) (w : World) :
    Calls Tryz.prog 209 #[.agg #[.string s, .slice A len cap]] w fun e w' => e = .returned (.agg #[.string s, .slice A len cap]) ∧ Below w.heap.size w w' := by
  have HB : ∀ o o', Hid (Below w.heap.size w ((w.alloc o).alloc o')) := fun o o' => Lib.hid (two_alloc w o o')
  have hq := Blk.new (w.alloc (.cells #[.string s, .slice A len cap] 188)) 116 #[.string s, .slice A len cap]
  rw [show (w.alloc (.cells #[.string s, .slice A len cap] 188)).heap.size = w.heap.size + 1 by simp] at hq
  have HQ := Lib.hid hq
  clear hq
  go_enter Tryz.func209, Tryz.ntmps209
  go_wp2_with fail
  refine bodyPost_ret (v := .agg #[.string s, .slice A len cap]) ?_ rfl ⟨rfl, (HB _ _).out⟩
  exact results_cell_row Tryz.results209 _ _ (w.heap.size + 1) _ _ _ _ rfl HQ.out Tryz.underlying116 rfl (by kernel_rfl)
set_option maxRecDepth 100000 in
/-- cutGoal.form. -/
theorem formC_any (w : World) :
    Calls Tryz.prog 208 #[.agg #[]] w fun e w' => e = .returned (.agg #[.string ⟨#[33]⟩, .slice none 0 0]) ∧ Below w.heap.size w w' := by
  have HB : ∀ o o', Hid (Below w.heap.size w ((w.alloc o).alloc o')) := fun o o' => Lib.hid (two_alloc w o o')
  have hq := Blk.new (w.alloc (.cells #[] 187)) 116 #[.string ⟨#[33]⟩, .slice none 0 0]
  rw [show (w.alloc (.cells #[] 187)).heap.size = w.heap.size + 1 by simp] at hq
  have HQ := Lib.hid hq
  clear hq
  go_enter Tryz.func208, Tryz.ntmps208
  go_wp2_with fail
  refine bodyPost_ret (v := .agg #[.string ⟨#[33]⟩, .slice none 0 0]) ?_ rfl ⟨rfl, (HB _ _).out⟩
  exact results_cell_row Tryz.results208 _ _ (w.heap.size + 1) _ _ _ _ rfl HQ.out Tryz.underlying116 rfl (by kernel_rfl)
/-- The form of a goal, as a node. -/
theorem GIs.node {w : World} {lo hi : Nat} {k n : Int} {s : ByteArray} {kids : Fr} {v : Value} {A : Option Addr} {cap : Nat} (hv : goalV k n s kids = true) (hg : GIs (gk s kids.len) s A kids.len cap v) (hn : NdS w lo hi kids A cap) :
    k = 3 ∧ shapeT k n s kids 30 = true ∧ ((v = .iface 187 (.agg #[]) ∧ s = ⟨#[33]⟩ ∧ kids = .nil) ∨ v = .iface 188 (.agg #[.string s, .slice A kids.len cap]) ∨ v = .iface 62 (.agg #[.string s, .slice A kids.len cap])) := by
  have hval : validT k n s kids = true := by
    unfold goalV at hv
    rw [Bool.and_eq_true] at hv
    exact hv.1
  have hk : k = 3 := by
    by_cases h : k = 3
    · exact h
    · rw [goalV_other h] at hv; cases hv
  refine ⟨hk, (valid_shape2 hval).1, ?_⟩
  rcases hg with ⟨h, rfl⟩ | ⟨_, rfl⟩ | ⟨_, rfl⟩
  · refine .inl ⟨rfl, ?_⟩
    unfold gk at h
    have hc : cutB s kids.len = true := by
      by_cases hc : cutB s kids.len = true
      · exact hc
      · rw [if_neg hc] at h
        split at h
        · omega
        · split at h <;> omega
    unfold cutB at hc
    simp only [Bool.and_eq_true, beq_iff_eq] at hc
    refine ⟨?_, ?_⟩
    · have h1 := hc.1
      cases s
      rename_i d
      simp only at h1
      congr 1
      exact Array.toList_inj.1 (by simpa using h1)
    · cases kids with
      | nil => rfl
      | cons _ _ _ _ _ => simp [Fr.len] at hc
  · exact .inr (.inl rfl)
  · exact .inr (.inr rfl)
theorem nd_form {w : World} {lo hi : Nat} {n : Int} {s : ByteArray} {kids : Fr} {A : Option Addr} {cap : Nat} (hn : NdS w lo hi kids A cap) : NdV w lo hi 3 n s kids (.iface 116 (.agg #[.string s, .slice A kids.len cap])) := .inr (.inr ⟨rfl, A, cap, rfl, hn⟩)
theorem nd_cut (w : World) (lo hi : Nat) (n : Int) : NdV w lo hi 3 n ⟨#[33]⟩ .nil (.iface 116 (.agg #[.string ⟨#[33]⟩, .slice none 0 0])) := .inr (.inr ⟨rfl, none, 0, rfl, Nat.le_refl _, by unfold maxLen; omega, fun h => absurd h (Nat.lt_irrefl _)⟩)
end Go.Proofs.YtmgfndgmebignaaGreatDoor

/- opWriter.writeClause. Condition: the clause lies in memory below the writer and is valid; the tables in their places. -/
namespace Go.Proofs.YtmgfndgmebignaaGreatDoor.wr
open Go.RowKit

/-- The text ahead of goal j. -/
def bfB (j : Nat) : ByteArray := if j = 0 then ⟨#[58, 45]⟩ else ⟨#[44]⟩
theorem bfB_size (j : Nat) : 0 < (bfB j).size ∧ (bfB j).size ≤ 2 := by unfold bfB; split <;> decide
theorem bfB_next (j : Nat) : bfB (j + 1) = ⟨#[44]⟩ := by unfold bfB; rw [if_neg (by omega)]
theorem bdB_bf (j : Nat) (k n : Int) (s : ByteArray) (kids rest : Fr) : bdB j (.cons k n s kids rest) = (bfB j).data.toList ++ (txT k n s kids ++ bdB (j + 1) rest) := by
  unfold bfB
  by_cases h : j = 0
  · subst h; rw [bdB_zero, if_pos rfl]; rfl
  · rw [bdB_step j h, if_neg h]; rfl
theorem own_some {w : World} {base : Nat} {e : TypeId} {v : Value} {n : Nat} {xs : List Value} (h : w.ownsRow base e 1 v n xs) (hn : 0 < n) : ∃ g c, v = .slice (some ⟨g, 0, none⟩) n c := by
  rcases h.2 with ⟨_, h0⟩ | ⟨g', cap, cur, hv, _⟩
  · omega
  · exact ⟨g', cap, hv⟩

set_option maxRecDepth 100000 in
set_option maxHeartbeats 8000000 in
/-- opWriter.writeClause. -/
theorem wclause_any (c : Cl) (hv : clauseV c = true) (A G : Option Addr) (cap gcap lo hi ob mb : Nat) (bs : List UInt8) (w : World) (hk : NdS w lo hi c.kids A cap) (hg : GlS w lo hi c.body G gcap) (hh : hi ≤ mb) (hw : TW ob mb bs w) (hl : bs.length + (clT c).length ≤ 1073741824) (ht : Pow10 ob mb w) :
    Calls Tryz.prog 39 #[.pointer (some ⟨mb, 0, none⟩), .agg #[.string c.s, .slice A c.kids.len cap, .slice G c.body.len gcap]] w fun e w' => e = .returned (.tuple #[]) ∧ TW ob mb (bs ++ clT c) w' ∧ TF mb w w' := by
  obtain ⟨i0, hi0, hz0, hz1, hz2⟩ := info_parts infoU8
  have hm0 : mb < w.heap.size := by obtain ⟨_, hq, _⟩ := hw; exact hq.lt
  obtain ⟨h1, h2, h3⟩ := clause_two hv
  obtain ⟨hs1, hn1, hl1⟩ := valid_two h1
  have hk3 : c.k = 3 := by
    unfold clauseV plainV plainK at hv
    simp only [Bool.and_eq_true, beq_iff_eq] at hv
    exact hv.1.2.1
  have hlb := bdB_len c.body 0 h2
  have HCT : Hid (clT c = txT c.k c.n c.s c.kids ++ (bdB 0 c.body ++ [46])) := Lib.hid rfl
  have hll : bs.length + ((txT c.k c.n c.s c.kids).length + ((bdB 0 c.body).length + 1)) ≤ 1073741824 := by rw [HCT.out] at hl; simpa using hl
  have hb0 : Below w.heap.size w (w.alloc (.cells #[.string c.s, .slice A c.kids.len cap, .slice G c.body.len gcap] 65)) := (Below.refl _ _).alloc (Nat.le_refl _) _
  have hq0 := Blk.new w 65 #[.string c.s, .slice A c.kids.len cap, .slice G c.body.len gcap]
  have x0 := hq0.cell 0
  have x1 := hq0.cell 1
  have x2 := hq0.cell 2
  simp only [List.getElem?_toArray, List.getElem?_cons_zero, List.getElem?_cons_succ] at x0 x1 x2
  have C1 := fun (w2 : World) (hb : Below w.heap.size w w2) => ow_all c.kids.size c.s c.kids (Nat.le_refl _) c.k c.n 30 _ lo hi ob mb bs w2 hs1 (by rw [hk3]; exact nd_form (hk.keep (fun p _ hp => hb.cell (by omega)) (Nat.le_refl _) (Nat.le_refl _))) hh (hw.below hb) (by omega) (ht.on (hb.mono (Nat.le_of_lt hm0))) (by omega)
  have HG := Lib.hid hg
  have HHI := Lib.hid hh
  have HALL := Lib.hid h2
  have HT := Lib.hid ht
  have HB0 := Lib.hid hb0
  have HQ0 := Lib.hid hq0
  have H1 := Lib.hid C1
  clear C1 hk hg hh h1 h2 hs1 hn1 hb0 hq0 hv hw ht hl hk3
  generalize txT c.k c.n c.s c.kids = T at *
  generalize clT c = R at *
  generalize c.s = s at *
  generalize c.kids.len = kl at *
  generalize c.body = f at *
  generalize hn : f.len = len at *
  have HN := Lib.hid hn
  clear hn
  go_enter Tryz.func39, Tryz.ntmps39
  go_wp2_with fail
  refine (formP_any _ _ _ _ _).mono ?_
  rintro e w2 ⟨rfl, hb⟩
  have hb2 := HB0.out.trans (hb.mono HB0.out.size)
  have hq2 := HQ0.out.below hb HQ0.out.lt
  have C2 := H1.out w2 hb2
  have H2 := Lib.hid C2
  have HB2 := Lib.hid hb2
  have HQ2 := Lib.hid hq2
  clear hb hb2 hq2 x0 x1 x2 C2
  go_wp2_with fail
  refine H2.out.mono ?_
  rintro e w3 ⟨rfl, hw3, htf3⟩
  have hn0 : w.heap.size ≠ mb := by omega
  have hq3 := htf3.blk HQ2.out hn0 (by decide)
  have x2 := hq3.cell 2
  simp only [List.getElem?_toArray, List.getElem?_cons_zero, List.getElem?_cons_succ] at x2
  have HW3 := Lib.hid hw3
  have HTF3 := Lib.hid ((TF.below HB2.out (Nat.le_of_lt hm0)).trans htf3)
  clear hw3 htf3 hq3
  go_wp2_with fail
  go_loopw [4, 16] (fun bv i wr => ∃ (j : Nat) (b2 : List UInt8), j ≤ len ∧ i = .int .i64 j ∧ bv = .string (bfB j) ∧ TW ob mb b2 wr ∧ TF mb w wr ∧ b2 ++ bdB j (f.drop j) = (bs ++ T) ++ bdB 0 f) (fun _ i _ => len - (intOf i).toNat)
  case atStart => exact ⟨0, bs ++ T, Nat.zero_le _, rfl, rfl, HW3.out, HTF3.out, rfl⟩
  case round =>
    obtain ⟨j, b2, hj, rfl, rfl, hw, htf, hb⟩ := hrel
    have hb2l : b2.length + (bdB j (f.drop j)).length + 1 ≤ 1073741824 := by have := congrArg List.length hb; simp only [List.length_append] at this; omega
    obtain ⟨tv, hq, ho⟩ := hw
    obtain ⟨A0, c0, rfl, _, _⟩ := row_form ho
    have y0 := hq.cell 0
    have yf := hq.frozen 0
    simp only [List.getElem?_toArray, List.getElem?_cons_zero] at y0
    have hmw := hq.lt
    have HTF := Lib.hid htf
    have HBB := Lib.hid hb
    have HQ := Lib.hid hq
    have HO := Lib.hid ho
    clear hb htf hq ho
    by_cases hlt : j < len
    · obtain ⟨kk, nn, ss, kids, hd⟩ := Fr.drop_cons j f (by rw [HN.out]; exact hlt)
      obtain ⟨gb, rfl, hgb1, hgb2, hrow⟩ := HG.out.2.2 (by rw [HN.out]; omega)
      obtain ⟨gv, A3, cp3, hcell, hgi, hnd⟩ := hrow.elem hd
      rw [Nat.zero_add] at hcell
      have hgbm : gb < mb := Nat.lt_of_lt_of_le hgb2 HHI.out
      have k3 := (HTF.out.1.cell (p := ⟨gb, j, none⟩) hgbm).trans hcell
      have hgo := allG_elem f j hd HALL.out
      obtain ⟨rfl, hsh, hfm⟩ := GIs.node (w := w) (lo := lo) (hi := hi) hgo hgi hnd
      have hvt := valid_two (goal_valid hgo)
      have hb3 := HBB.out
      rw [hd, bdB_bf] at hb3
      have hb3l : b2.length + ((bfB j).size + ((txT 3 nn ss kids).length + (bdB (j + 1) (f.drop (j + 1))).length)) + 1 ≤ 1073741824 := by
        rw [hd, bdB_bf] at hb2l
        have h1 : (bfB j).data.toList.length = (bfB j).size := rfl
        simp only [List.length_append, h1] at hb2l
        omega
      have hbp := (bfB_size j).1
      have hbq := (bfB_size j).2
      have HB3 := Lib.hid hb3
      have HND := Lib.hid hnd
      have C3 := fun (vn : Value) (wx : World) (hnv : NdV wx lo hi 3 nn ss kids vn) (htf : TF mb w wx) (hw : TW ob mb (b2 ++ (bfB j).data.toList) wx) => ow_all kids.size ss kids (Nat.le_refl _) 3 nn 30 vn lo hi ob mb (b2 ++ (bfB j).data.toList) wx hsh hnv HHI.out hw (by have h1 : (bfB j).data.toList.length = (bfB j).size := rfl; rw [List.length_append, h1]; omega) (HT.out.on htf.1) (by omega)
      have H3 := Lib.hid C3
      have HBN := Lib.hid (bfB_next j)
      have HEX : Hid (((b2 ++ (bfB j).data.toList) ++ txT 3 nn ss kids) ++ bdB (j + 1) (f.drop (j + 1)) = (bs ++ T) ++ bdB 0 f) := Lib.hid (by rw [← HB3.out]; simp)
      clear C3 hb3 hd hgo hgi hcell hrow hsh hnd hvt hb2l
      generalize hbf : bfB j = bf at *
      clear hbf
      go_wp2_with (first
        | (at_builtin; go_must (refine Lib.wpList_append_own_string _ rfl _ _ _ _ rfl (mb + 1) 5 i0 Tryz.underlying71 Tryz.underlying9 hi0 hz0 hz1 hz2 _ b2.length (Lib.byteCells b2) rfl HO.out bf rfl (by unfold maxLen; omega) (by omega) (by omega) ?_); intro v9 w9 hown9 hgrow9 _; obtain ⟨g9, cap9, rfl⟩ := own_some hown9 (by omega); have hst9 := TW.step (add := bf.data.toList) HQ.out HO.out (Below.refl _ _) hgrow9 hown9; have y9 := hst9.2.2.cell 0; have yf9 := hst9.2.2.frozen 0; simp only [List.getElem?_toArray, List.getElem?_cons_zero] at y9; have HS9 := Lib.hid (And.intro hst9.1 hst9.2.1); clear hown9 hgrow9 hst9; refine Hid.out ?_)
        | fail)
      refine Lib.hid ?_
      have HTF9 := Lib.hid (HTF.out.trans HS9.out.2)
      have HX9 : Hid (TW ob mb (b2 ++ bf.data.toList) (w9.setCell ⟨mb, 0, none⟩ (.slice (some ⟨g9, 0, none⟩) (b2.length + bf.size) cap9))) := Lib.hid HS9.out.1
      clear y0 yf
      rcases hfm with ⟨rfl, rfl, rfl⟩ | rfl | rfl
      · go_wp2_with fail
        refine (formC_any _).mono ?_
        rintro e w5 ⟨rfl, hb5⟩
        have htf5 := HTF9.out.trans (TF.below hb5 (Nat.le_of_lt (by obtain ⟨_, hq, _⟩ := HX9.out; exact hq.lt)))
        have C4 := H3.out _ w5 (nd_cut w5 _ _ _) htf5 (HX9.out.below hb5)
        have H4 := Lib.hid C4
        have HTF5 := Lib.hid htf5
        clear hb5 htf5 C4
        go_wp2_with fail
        refine H4.out.mono ?_
        rintro e w6 ⟨rfl, hw6, htf6⟩
        have HW6 := Lib.hid hw6
        have HTF6 := Lib.hid (HTF5.out.trans htf6)
        clear hw6 htf6
        go_wp2_with fail
        go_roundw
        case rel => exact ⟨j + 1, _, by omega, by go_num, by rw [HBN.out], HW6.out, HTF6.out, HEX.out⟩
        case measure => simp [intOf]; omega
      · go_wp2_with fail
        refine (formB_any _ _ _ _ _).mono ?_
        rintro e w5 ⟨rfl, hb5⟩
        have htf5 := HTF9.out.trans (TF.below hb5 (Nat.le_of_lt (by obtain ⟨_, hq, _⟩ := HX9.out; exact hq.lt)))
        have C4 := H3.out _ w5 (nd_form (HND.out.keep (fun p _ hp => htf5.1.cell (by have := HHI.out; omega)) (Nat.le_refl _) (Nat.le_refl _))) htf5 (HX9.out.below hb5)
        have H4 := Lib.hid C4
        have HTF5 := Lib.hid htf5
        clear hb5 htf5 C4
        go_wp2_with fail
        refine H4.out.mono ?_
        rintro e w6 ⟨rfl, hw6, htf6⟩
        have HW6 := Lib.hid hw6
        have HTF6 := Lib.hid (HTF5.out.trans htf6)
        clear hw6 htf6
        go_wp2_with fail
        go_roundw
        case rel => exact ⟨j + 1, _, by omega, by go_num, by rw [HBN.out], HW6.out, HTF6.out, HEX.out⟩
        case measure => simp [intOf]; omega
      · go_wp2_with fail
        refine (formP_any _ _ _ _ _).mono ?_
        rintro e w5 ⟨rfl, hb5⟩
        have htf5 := HTF9.out.trans (TF.below hb5 (Nat.le_of_lt (by obtain ⟨_, hq, _⟩ := HX9.out; exact hq.lt)))
        have C4 := H3.out _ w5 (nd_form (HND.out.keep (fun p _ hp => htf5.1.cell (by have := HHI.out; omega)) (Nat.le_refl _) (Nat.le_refl _))) htf5 (HX9.out.below hb5)
        have H4 := Lib.hid C4
        have HTF5 := Lib.hid htf5
        clear hb5 htf5 C4
        go_wp2_with fail
        refine H4.out.mono ?_
        rintro e w6 ⟨rfl, hw6, htf6⟩
        have HW6 := Lib.hid hw6
        have HTF6 := Lib.hid (HTF5.out.trans htf6)
        clear hw6 htf6
        go_wp2_with fail
        go_roundw
        case rel => exact ⟨j + 1, _, by omega, by go_num, by rw [HBN.out], HW6.out, HTF6.out, HEX.out⟩
        case measure => simp [intOf]; omega
    · obtain rfl : j = len := by omega
      have hfin : b2 ++ [46] = bs ++ R := by
        have h1 := Fr.drop_len f
        rw [HN.out] at h1
        have h2 := HBB.out
        rw [h1, bdB_nil, List.append_nil] at h2
        rw [HCT.out, h2]
        simp
      have HFN := Lib.hid hfin
      clear hfin
      go_wp2_with (at_builtin; go_must (refine wpList_append_lies _ rfl _ _ _ rfl (mb + 1) 5 i0 _ 1 1 Tryz.underlying71 hi0 hz0 hz1 hz2 rfl (by omega) _ (b2).length (Lib.byteCells (b2)) rfl (HO.out.alloc _) ⟨wr.heap.size, 0, none⟩ 1 1 [.int .u8 46] rfl rfl (World.news_of_block (cs := #[.int .u8 46]) (t := 5) (fr := (0, 0)) (Blk.new wr 5 #[.int .u8 46])) (by simp [Value.oneCell']) (by omega) (by unfold maxLen; omega) (by omega) (by simp; omega) (wr.heap.size + 1) (by simp) ?_); intro g9 cap9 w9 hown9 hgrow9 _ _; have hst9 := TW.step1 (c := 46) HQ.out HO.out rfl hgrow9 hown9; have y9 := hst9.2.2.cell 0; have yf9 := hst9.2.2.frozen 0; simp only [List.getElem?_toArray, List.getElem?_cons_zero] at y9; have HS9 := Lib.hid (And.intro hst9.1 hst9.2.1); clear hown9 hgrow9 hst9; refine Hid.out ?_)
      refine Lib.hid ?_
      have HEND : Hid (TW ob mb (bs ++ R) _ ∧ TF mb w _) := Lib.hid ⟨by rw [← HFN.out]; exact HS9.out.1, HTF.out.trans HS9.out.2⟩
      go_wp2_with fail
      go_end0
      exact ⟨rfl, HEND.out⟩
end Go.Proofs.YtmgfndgmebignaaGreatDoor.wr

/- spec.FormatClause, FormatProgram. Condition: the clauses lie in memory. -/
namespace Go.Proofs.YtmgfndgmebignaaGreatDoor.wr
open Go.RowKit

set_option maxRecDepth 100000 in
set_option maxHeartbeats 2000000 in
/-- spec.FormatClause. -/
theorem specFC_any (c : Cl) (A B : Option Addr) (cap capB lo hi : Nat) (w : World) (hk : KidsAt w lo hi c.kids A cap) (hkb : KidsAt w lo hi c.body B capB) (hh : hi ≤ w.heap.size) (hf : Fits c.k c.n c.s) (hnd : nodes c.kids ≤ 1048576) (hndb : nodes c.body ≤ 1048576) :
    Calls Tryz.prog 9 #[.agg #[.int .i64 c.k, .int .i64 c.n, .string c.s, .slice A c.kids.len cap, .slice B c.body.len capB]] w fun e w' => e = .returned (.string ⟨(fcB c).toArray⟩) ∧ Below w.heap.size w w' := by
  have hb0 : Below w.heap.size w (w.alloc (.cells #[.int .i64 c.k, .int .i64 c.n, .string c.s, .slice A c.kids.len cap, .slice B c.body.len capB] 33)) := (Below.refl _ _).alloc (Nat.le_refl _) _
  have hq0 := Blk.new w 33 #[.int .i64 c.k, .int .i64 c.n, .string c.s, .slice A c.kids.len cap, .slice B c.body.len capB]
  have C1 := specCV_any c A B cap capB lo hi _ (hk.below hb0 hh) (hkb.below hb0 hh) (Nat.le_trans hh hb0.size) hf hnd hndb
  have C2 := fun w1 (hb : Below w.heap.size w w1) (hv : clauseV c = true) => l4Text_any c hv A B cap capB lo hi w1 (hk.below hb hh) (hkb.below hb hh) (Nat.le_trans hh hb.size)
  have HE : Hid (fcB c = if clauseV c = true then clT c else []) := Lib.hid rfl
  have H1 := Lib.hid C1
  have H2 := Lib.hid C2
  have HB0 := Lib.hid hb0
  have HQ0 := Lib.hid hq0
  clear C1 C2 hk hkb hf hnd hndb hb0 hq0 hh
  generalize clT c = T at *
  generalize fcB c = R at *
  generalize clauseV c = cv at *
  generalize c.k = k at *
  generalize c.n = n at *
  generalize c.s = s at *
  generalize c.kids.len = kl at *
  generalize c.body.len = bl at *
  have back : ∀ w2, Below (w.alloc (.cells #[.int .i64 k, .int .i64 n, .string s, .slice A kl cap, .slice B bl capB] 33)).heap.size (w.alloc (.cells #[.int .i64 k, .int .i64 n, .string s, .slice A kl cap, .slice B bl capB] 33)) w2 → Below w.heap.size w w2 ∧ Blk w2 w.heap.size 33 #[.int .i64 k, .int .i64 n, .string s, .slice A kl cap, .slice B bl capB] := fun w2 hb => ⟨HB0.out.trans (hb.mono HB0.out.size), HQ0.out.below hb HQ0.out.lt⟩
  have HBK := Lib.hid back
  have x0 := HQ0.out.cell 0
  have x1 := HQ0.out.cell 1
  have x2 := HQ0.out.cell 2
  have x3 := HQ0.out.cell 3
  have x4 := HQ0.out.cell 4
  simp only [List.getElem?_toArray, List.getElem?_cons_zero, List.getElem?_cons_succ] at x0 x1 x2 x3 x4
  clear back
  cases cv
  · have HV : Hid (R = []) := Lib.hid (by rw [HE.out]; rfl)
    go_enter Tryz.func9, Tryz.ntmps9
    go_wp2_with fail
    refine H1.out.mono ?_
    rintro e w2 ⟨rfl, hb⟩
    obtain ⟨hbw, -⟩ := HBK.out w2 hb
    have HB2 := Lib.hid hbw
    clear hb hbw x0 x1 x2 x3 x4
    go_wp2_with fail
    go_ret
    rw [HV.out]; exact ⟨rfl, HB2.out⟩
  · have HV : Hid (R = T) := Lib.hid (by rw [HE.out]; rfl)
    go_enter Tryz.func9, Tryz.ntmps9
    go_wp2_with fail
    refine H1.out.mono ?_
    rintro e w2 ⟨rfl, hb⟩
    obtain ⟨hbw, hq⟩ := HBK.out w2 hb
    have HB2 := Lib.hid hbw
    clear hb hbw x0 x1 x2 x3 x4
    have x0 := hq.cell 0
    have x1 := hq.cell 1
    have x2 := hq.cell 2
    have x3 := hq.cell 3
    have x4 := hq.cell 4
    simp only [List.getElem?_toArray, List.getElem?_cons_zero, List.getElem?_cons_succ] at x0 x1 x2 x3 x4
    clear hq
    go_wp2_with fail
    refine (H2.out w2 HB2.out (by trivial)).mono ?_
    rintro e w3 ⟨rfl, hb⟩
    have HB3 := Lib.hid (HB2.out.trans (hb.mono HB2.out.size))
    clear hb
    go_wp2_with fail
    go_ret
    rw [HV.out]; exact ⟨rfl, HB3.out⟩

theorem allC_at {c : Cl} {rest : List Cl} : ∀ (cs : List Cl) (i : Nat), cs.drop i = c :: rest → allC cs = true → clauseV c = true
  | [], i, h, _ => by simp at h
  | c' :: cs, 0, h, ha => by
    injection h with h1 h2
    subst h1
    exact (Bool.and_eq_true _ _ ▸ ha).1
  | c' :: cs, i + 1, h, ha => allC_at cs i (by simpa using h) (Bool.and_eq_true _ _ ▸ ha).2
theorem pgT_cons (c : Cl) (cs : List Cl) : pgT (c :: cs) = clT c ++ 10 :: pgT cs := by unfold pgT; simp
theorem pgT_len : ∀ cs : List Cl, allC cs = true → (pgT cs).length ≤ 30001 * cs.length
  | [], _ => Nat.le_refl _
  | c :: cs, h => by
    have hb := Bool.and_eq_true _ _ ▸ h
    have h1 := clT_len hb.1
    have h2 := pgT_len cs hb.2
    rw [pgT_cons]
    simp only [List.length_append, List.length_cons]
    omega
theorem prog_two {cs : List Cl} (h : progV cs = true) : allC cs = true ∧ cs.length ≤ 20 := by
  unfold progV at h
  simp only [Bool.and_eq_true, decide_eq_true_eq] at h
  exact ⟨h.2, h.1⟩

set_option maxRecDepth 100000 in
set_option maxHeartbeats 4000000 in
/-- spec.FormatProgram. -/
theorem specFP_any (cs : List Cl) (A : Option Addr) (cap lo hi : Nat) (w : World) (hk : ClS w lo hi cs A cap) (hh : hi ≤ w.heap.size) (hnd : cs.length + wtCs cs ≤ 1048576) :
    Calls Tryz.prog 14 #[.slice A cs.length cap] w fun e w' => e = .returned (.string ⟨(fpB cs).toArray⟩) ∧ Below w.heap.size w w' := by
  have C1 := fun w1 (hb : Below w.heap.size w w1) => specPV_any cs A cap lo hi w1 (hk.below hb hh) (Nat.le_trans hh hb.size) hnd
  have HE : Hid (fpB cs = if progV cs = true then pgT cs else []) := Lib.hid rfl
  have hcl : cs.length ≤ 1048576 := by omega
  have HK := Lib.hid hk
  have HHI := Lib.hid hh
  have H1 := Lib.hid C1
  have HPV : Hid (progV cs = true → allC cs = true ∧ cs.length ≤ 20) := Lib.hid prog_two
  clear C1 hk hh hnd
  generalize fpB cs = R at *
  generalize hpv : progV cs = pv at *
  generalize hn : cs.length = len at *
  have HN := Lib.hid hn
  clear hn hpv
  cases pv
  · have HV : Hid (R = []) := Lib.hid (by rw [HE.out]; rfl)
    by_cases h0 : 0 < len
    · go_enter Tryz.func14, Tryz.ntmps14
      go_wp2_with fail
      go_loopw [3, 4] (fun ov i wr => ov = .string ⟨#[]⟩ ∧ i = .int .i64 ((0 : Nat) : Int) ∧ wr = w) (fun _ _ _ => 0)
      case atStart => exact ⟨rfl, rfl, rfl⟩
      case round =>
        obtain ⟨rfl, rfl, rfl⟩ := hrel
        have C2 := H1.out _ (Below.refl _ _)
        have H2 := Lib.hid C2
        clear C2
        go_wp2_with (first | (go_at_call 41; refine H2.out.mono ?_; rintro e w3 ⟨rfl, hb3⟩; have HB3 := Lib.hid hb3; clear hb3) | fail)
        go_ret
        rw [HV.out]; exact ⟨rfl, HB3.out⟩
    · have HBR := Lib.hid (Below.refl w.heap.size w)
      obtain rfl : len = 0 := by omega
      go_enter Tryz.func14, Tryz.ntmps14
      go_wp2_with fail
      go_loopw [3, 4] (fun ov i wr => ov = .string ⟨#[]⟩ ∧ i = .int .i64 ((0 : Nat) : Int) ∧ wr = w) (fun _ _ _ => 0)
      case atStart => exact ⟨rfl, rfl, rfl⟩
      case round =>
        obtain ⟨rfl, rfl, rfl⟩ := hrel
        go_wp2_with fail
        go_ret
        rw [HV.out]; exact ⟨rfl, HBR.out⟩
  · have HV : Hid (R = pgT cs) := Lib.hid (by rw [HE.out]; rfl)
    obtain ⟨hall, h20⟩ := HPV.out rfl
    have hpl := pgT_len cs hall
    rw [HN.out] at hpl
    have hpl2 : (pgT cs).length ≤ 700000 := by omega
    have HALL := Lib.hid hall
    have HPL := Lib.hid hpl2
    clear hall hpl hpl2
    go_enter Tryz.func14, Tryz.ntmps14
    go_wp2_with fail
    go_loopw [3, 4] (fun ov i wr => ∃ (j : Nat) (L : List UInt8), j ≤ len ∧ i = .int .i64 j ∧ ov = .string ⟨L.toArray⟩ ∧ L ++ pgT (cs.drop j) = pgT cs ∧ Below w.heap.size w wr) (fun _ i _ => len - (intOf i).toNat)
    case atStart => exact ⟨0, [], Nat.zero_le _, rfl, rfl, rfl, Below.refl _ _⟩
    case round =>
      obtain ⟨j, L, hj, rfl, rfl, hL, hb⟩ := hrel
      have HLE := Lib.hid hL
      have HB := Lib.hid hb
      have hLl : L.length ≤ 700000 := by have := congrArg List.length hL; have := HPL.out; simp only [List.length_append] at *; omega
      clear hL
      by_cases hlt : j < len
      · obtain ⟨c, hd⟩ := drop_cl cs j (by rw [HN.out]; exact hlt)
        obtain ⟨b, o, rfl, hlb, hbb, hrow⟩ := HK.out.2.2 (by rw [HN.out]; omega)
        obtain ⟨hfit, A', cp, B', cpB, c0, c1, c2, c3, c4, hk1, hk2⟩ := ClAt.elem j cs b o hrow hd
        have hlo : (⟨b, o, none⟩ : Addr).block < w.heap.size := Nat.lt_of_lt_of_le hbb HHI.out
        have K : ∀ wx, Below w.heap.size w wx → wx.cell? ⟨b, o + j * 5, none⟩ = some (.int .i64 c.k) ∧ wx.cell? ⟨b, o + j * 5 + 1, none⟩ = some (.int .i64 c.n) ∧ wx.cell? ⟨b, o + j * 5 + 2, none⟩ = some (.string c.s) ∧ wx.cell? ⟨b, o + j * 5 + 3, none⟩ = some (.slice A' c.kids.len cp) ∧ wx.cell? ⟨b, o + j * 5 + 4, none⟩ = some (.slice B' c.body.len cpB) := fun wx hb =>
          ⟨(hb.cell (p := ⟨b, o + j * 5, none⟩) hlo).trans c0, (hb.cell (p := ⟨b, o + j * 5 + 1, none⟩) hlo).trans c1, (hb.cell (p := ⟨b, o + j * 5 + 2, none⟩) hlo).trans c2, (hb.cell (p := ⟨b, o + j * 5 + 3, none⟩) hlo).trans c3, (hb.cell (p := ⟨b, o + j * 5 + 4, none⟩) hlo).trans c4⟩
        have hcv := allC_at cs j hd HALL.out
        have C3 := fun wx (hb : Below w.heap.size w wx) => l4Text_any c hcv A' B' cp cpB lo hi wx (hk1.below hb HHI.out) (hk2.below hb HHI.out) (Nat.le_trans HHI.out hb.size)
        have C2 := H1.out _ hb
        have hL2 := HLE.out
        rw [hd, pgT_cons] at hL2
        have HL2 := Lib.hid hL2
        have hTl := clT_len hcv
        have H2 := Lib.hid C2
        have H3 := Lib.hid C3
        have HK2 := Lib.hid K
        clear C2 C3 K c0 c1 c2 c3 c4 hk1 hk2 hrow hfit hd hlo hL2 hb hcv
        generalize clT c = T at *
        generalize c.k = k at *
        generalize c.n = n at *
        generalize c.s = s at *
        generalize c.kids.len = kl at *
        generalize c.body.len = bl at *
        have HSTR : Hid ((.string ((⟨L.toArray⟩ ++ ⟨T.toArray⟩) ++ ⟨#[10]⟩) : Value) = .string ⟨(L ++ (T ++ [10])).toArray⟩) := Lib.hid (by
          rw [show (⟨#[10]⟩ : ByteArray) = ⟨[10].toArray⟩ from rfl, ByteArray.mk_append_mk, ByteArray.mk_append_mk]
          simp)
        have HL3 : Hid ((L ++ (T ++ [10])) ++ pgT (cs.drop (j + 1)) = pgT cs) := Lib.hid (by rw [← HL2.out]; simp)
        go_wp2_with (first
          | (go_at_call 41; (with_reducible refine H2.out.mono ?_); rintro e w3 ⟨rfl, hb3⟩; have hb3w := HB.out.trans (hb3.mono HB.out.size); obtain ⟨k0, k1, k2, k3, k4⟩ := HK2.out w3 hb3w; have HB3 := Lib.hid hb3w; clear hb3 hb3w)
          | (go_at_call 34; (with_reducible refine (H3.out _ HB3.out).mono ?_); rintro e w4 ⟨rfl, hb4⟩; have HB4 := Lib.hid (HB3.out.trans (hb4.mono HB3.out.size)); clear hb4)
          | fail)
        go_roundw
        case rel => exact ⟨j + 1, L ++ (T ++ [10]), by omega, by go_num, HSTR.out, HL3.out, HB4.out⟩
        case measure => simp [intOf]; omega
      · obtain rfl : j = len := by omega
        have hLL : L = pgT cs := by
          have h1 : cs.drop j = [] := by rw [List.drop_eq_nil_iff]; rw [HN.out]; exact Nat.le_refl _
          rw [← HLE.out, h1]
          unfold pgT
          simp
        have HLL := Lib.hid hLL
        clear hb hLL hLl
        go_wp2_with fail
        go_ret
        rw [HV.out, ← HLL.out]; exact ⟨rfl, HB.out⟩
end Go.Proofs.YtmgfndgmebignaaGreatDoor.wr

/- impl.newOpWriter, impl.WriteTerm. Condition: the term lies in memory, the tables of signs, of operators and of powers of ten in their variables. -/
namespace Go.Proofs.YtmgfndgmebignaaGreatDoor.wr
open Go.RowKit

set_option maxRecDepth 100000 in
set_option maxHeartbeats 2000000 in
/-- impl.newOpWriter. -/
theorem newW_any (w : World) (ho : op.OpTab w) :
    Calls Tryz.prog 38 #[] w fun e w' => ∃ mb, e = .returned (.pointer (some ⟨mb, 0, none⟩)) ∧ w.heap.size < mb ∧ Blk w' mb 77 #[.slice none 0 0, fW mb, .map (some w.heap.size)] ∧ op.OpM w' w.heap.size ∧ Below w.heap.size w w' := by
  have C1 := op.table2_any w ho
  have H1 := Lib.hid C1
  have hmf : ∀ (fn : Fn) (first cap : Array Value) (w : World), (Instr.makeFunc fn first cap).run Tryz.prog w = .ok (.func fn first cap) w := fun _ _ _ _ => rfl
  clear C1 ho
  go_enter Tryz.func38, Tryz.ntmps38
  go_wp2_with fail
  refine H1.out.mono ?_
  rintro e w2 ⟨rfl, hm, hb⟩
  have hl2 : w.heap.size < w2.heap.size := World.ownsMap.lt hm
  have HM := Lib.hid hm
  have HB := Lib.hid hb
  clear hm hb
  go_wp2_with fail
  go_ret
  refine ⟨w2.heap.size, rfl, hl2, ?_, ?_, ?_⟩
  · first
      | exact Blk.new w2 _ _
      | (have h := (Blk.new w2 77 #[.slice none 0 0, .nilFunc, .map (some w.heap.size)]).set_ 1 (fW w2.heap.size)
         simpa using h)
  · first
      | exact HM.out.alloc _
      | exact OpM_keep (HM.out.alloc _) (((Below.refl _ _).setCell (Nat.le_refl _) _).mono (Nat.le_refl _)) hl2
  · first
      | exact HB.out.alloc HB.out.size _
      | exact (HB.out.alloc HB.out.size _).setCell HB.out.size _

end Go.Proofs.YtmgfndgmebignaaGreatDoor.wr

/- The keys of the clauses' index: a name and a number of arguments; which clauses stand at a key. No condition. -/
namespace Go.Proofs.YtmgfndgmebignaaGreatDoor
open Go.RowKit Go.WideMaps Go.Maps Go.ChangeShapes
open Classical

theorem laidOutK : laidOutB Tryz.prog = true := by kernel_rfl
theorem rowK : (122 : TypeId) < Tryz.prog.types.size := of_decide_eq_true (by kernel_rfl)
theorem typeK : Tryz.prog.keyType 122 = true := by kernel_rfl
theorem cellsK : Tryz.prog.cellsOf 122 = 2 := by kernel_rfl
set_option maxRecDepth 100000 in
theorem lawK : Keyed Tryz.prog 122 := Keyed.of_law (deep_law_laid laidOutK (m := 3) (by omega) rowK (by kernel_rfl) (by kernel_rfl))
/-- A key that is a struct of a string and a number, in whatever program. -/
theorem key_struct {P : Program} {k ks ki : TypeId} {f0 f1 : Field} (hu : P.underlying k = some (.struct #[f0, f1])) (ht : P.keyType k = true) (hc : P.cellsOf k = 2) (h0 : f0.type = ks) (h1 : f1.type = ki) (o0 : f0.offset = 0) (o1 : f1.offset = 1) (n0 : f0.name ≠ "_") (n1 : f1.name ≠ "_")
    (us : P.underlying ks = some .string) (ui : P.underlying ki = some (.int .i64)) (cs : P.cellsOf ks = 1) (ci : P.cellsOf ki = 1) (d : Nat) (hd : P.types.size = d + 1) (s : ByteArray) (a : Int) (hs : s.size ≤ maxLen) (hw : (Lit.int .i64 a).wf = true) :
    keyOf P k (.agg #[.string s, .int .i64 a]) = some (.string (keyBytes [.string s.data.toList, .int .i64 a])) := by
  unfold keyOf
  simp [hu, ht, Value.formed, hc, hd, Program.keyLits, h0, h1, o0, o1, n0, n1, us, ui, cs, ci, Value.cells, hs, hw]
/-- The key of a name and a number of arguments. -/
def pk (s : ByteArray) (a : Nat) : Lit := .string (keyBytes [.string s.data.toList, .int .i64 (a : Int)])
set_option maxRecDepth 100000 in
theorem sizeK : Tryz.prog.types.size = (Tryz.prog.types.size - 1) + 1 := by
  exact (Nat.sub_add_cancel (Nat.succ_le_of_lt (Nat.lt_of_le_of_lt (Nat.zero_le _) rowK))).symm
set_option maxRecDepth 100000 in
theorem pk_key (s : ByteArray) (a : Nat) (hs : s.size ≤ maxLen) (ha : a ≤ maxLen) : keyOf Tryz.prog 122 (.agg #[.string s, .int .i64 (a : Int)]) = some (pk s a) :=
  key_struct Tryz.underlying122 typeK cellsK rfl rfl rfl rfl (by decide) (by decide) Tryz.underlying9 Tryz.underlying3 (by kernel_rfl) (by kernel_rfl) _ sizeK s a hs (by unfold maxLen at ha; exact WalkArith.wf_i64 (by omega))
theorem pk_inj {s s' : ByteArray} {a a' : Nat} (hs : s.size ≤ maxLen) (ha : a ≤ maxLen) (hs' : s'.size ≤ maxLen) (ha' : a' ≤ maxLen) (h : pk s a = pk s' a') : s = s' ∧ a = a' := by
  have h1 := lawK.inj (pk_key s a hs ha) ((pk_key s' a' hs' ha').trans (by rw [h]))
  simp at h1
  exact ⟨h1.1, by omega⟩

/-- The clauses at a key, counted from i on. -/
noncomputable def idxF : List Cl → Int → Lit → List Int
  | [], _, _ => []
  | c :: cs, i, l => if pk c.s c.kids.len = l then i :: idxF cs (i + 1) l else idxF cs (i + 1) l
theorem idxF_snoc (l : Lit) (c : Cl) : ∀ (cs : List Cl) (i : Int), idxF (cs ++ [c]) i l = idxF cs i l ++ (if pk c.s c.kids.len = l then [i + cs.length] else [])
  | [], i => by
    simp only [List.nil_append, idxF]
    split <;> simp
  | c' :: cs, i => by
    have ih := idxF_snoc l c cs (i + 1)
    have e : i + 1 + (cs.length : Int) = i + ((c' :: cs).length : Nat) := by simp only [List.length_cons]; omega
    rw [e] at ih
    simp only [List.cons_append, idxF, ih]
    split <;> rfl
theorem idxF_len (l : Lit) : ∀ (cs : List Cl) (i : Int), (idxF cs i l).length ≤ cs.length
  | [], _ => Nat.le_refl _
  | c :: cs, i => by
    have := idxF_len l cs (i + 1)
    unfold idxF
    split
    · simp only [List.length_cons]; omega
    · simp only [List.length_cons]; omega
/-- The index D gives the numbers zs at the key l. -/
def HoldsD (D : DataW Unit) (l : Lit) (zs : List Int) : Prop := (zs = [] ∧ D.atKey l .nil = .nil) ∨ (zs ≠ [] ∧ D.atKey l .nil = .slice (lits .i64 zs) [])
theorem lits_inj : ∀ (a b : List Int), (lits .i64 a : List (DataW Unit)) = lits .i64 b → a = b := by
  intro a b h
  have h' := congrArg (List.map fun d : DataW Unit => match d with | .lit (.int _ n) => n | _ => 0) h
  have e : ∀ x : List Int, (lits .i64 x : List (DataW Unit)).map (fun d : DataW Unit => match d with | .lit (.int _ n) => n | _ => 0) = x := by
    intro x
    unfold lits
    rw [List.map_map]
    exact (List.map_congr_left (fun _ _ => rfl)).trans (List.map_id x)
  rw [e, e] at h'
  exact h'
/-- What the look-up hands over is what the index holds. -/
theorem HoldsD.eq {w : World} {base : Nat} {e : TypeId} {v : Value} {zs zs' : List Int} {D : DataW Unit} {l : Lit} (h : HoldsD D l zs) (hat : D.atKey l .nil = rowDatum .i64 v zs') (ho : w.ownsInts base e .i64 v zs') : zs' = zs := by
  rcases ho.datum (H := Unit) with ⟨h1, h2⟩ | h1
  · rw [h1] at hat
    rcases h with ⟨rfl, _⟩ | ⟨_, h3⟩
    · exact h2
    · rw [hat] at h3; cases h3
  · rw [h1] at hat
    rcases h with ⟨_, h3⟩ | ⟨_, h3⟩
    · rw [hat] at h3; cases h3
    · rw [hat] at h3
      injection h3 with h4 _
      exact lits_inj _ _ h4
theorem HoldsD.step {w : World} {base : Nat} {e : TypeId} {v' : Value} {D : DataW Unit} {cs : List Cl} {c : Cl} (hD : ∀ l, HoldsD D l (idxF cs 0 l)) (hM : IsMap D) (ho : w.ownsInts base e .i64 v' (idxF cs 0 (pk c.s c.kids.len) ++ [(cs.length : Int)])) :
    ∀ l, HoldsD (D.put (pk c.s c.kids.len) (rowDatum .i64 v' (idxF cs 0 (pk c.s c.kids.len) ++ [(cs.length : Int)]))) l (idxF (cs ++ [c]) 0 l) := by
  intro l
  rw [idxF_snoc]
  rw [ho.datum_pos (H := Unit) (by simp)]
  by_cases h : pk c.s c.kids.len = l
  · subst h
    rw [if_pos rfl, Int.zero_add]
    refine .inr ⟨by simp, ?_⟩
    exact atKey_put_same hM (by trivial) _ _
  · rw [if_neg h, List.append_nil]
    rcases hD l with ⟨h1, h2⟩ | ⟨h1, h2⟩
    · exact .inl ⟨h1, by rw [atKey_put_other (fun e => h e.symm), h2]⟩
    · exact .inr ⟨h1, by rw [atKey_put_other (fun e => h e.symm), h2]⟩
end Go.Proofs.YtmgfndgmebignaaGreatDoor
