/- Clauses: impl.goalsOf, clauseOf, ClauseValid. Condition: the clause lies in memory, both tables in their variables. -/
import Derived.Test.YtnkaafimnkigpaaDoorProg
import Derived.Test.YtnkaafimnkigpaaDoorZmAG40
import Derived.OwnWalk
import Derived.Test.YtnkaafimnkigpaaDoorTermOf
namespace Go.Proofs.YtnkaafimnkigpaaDoor
open Go.RowKit

theorem infoG : (Tryd.prog.info? 95).map (fun i => (i.zero, i.size, i.bytes)) = some (some .nilIface, 1, 16) := by kernel_rfl

/-- The goals of the row f lie in block b from cell o on; what they lead to lies in blocks from lo to below hi. -/
def GlRow (w : World) (lo hi : Nat) : Fr → Nat → Nat → Prop
  | .nil, _, _ => True
  | .cons _ _ s kids rest, b, o => (∃ v A cap, w.cell? ⟨b, o, none⟩ = some v ∧ GIs (gk s kids.len) s A kids.len cap v ∧ NdS w lo hi kids A cap) ∧ GlRow w lo hi rest b (o + 1)
def GlS (w : World) (lo hi : Nat) (f : Fr) (A : Option Addr) (cap : Nat) : Prop :=
  f.len ≤ cap ∧ cap ≤ maxLen ∧ (0 < f.len → ∃ b, A = some ⟨b, 0, none⟩ ∧ lo ≤ b ∧ b < hi ∧ GlRow w lo hi f b 0)
section
variable {w w' : World} {lo hi lo' hi' : Nat}
theorem GlRow.keep (hk : ∀ p : Addr, lo ≤ p.block → p.block < hi → w'.cell? p = w.cell? p) (hL : lo' ≤ lo) (hH : hi ≤ hi') (f : Fr) :
    ∀ b o, (∀ j, j < f.len → w'.cell? ⟨b, o + j, none⟩ = w.cell? ⟨b, o + j, none⟩) → GlRow w lo hi f b o → GlRow w' lo' hi' f b o := by
  induction f with
  | nil => intro b o _ _; trivial
  | cons k n s kids rest _ ihr =>
    rintro b o hc ⟨⟨v, A, cap, hv, hg, hn⟩, hr⟩
    simp only [Fr.len] at hc
    refine ⟨⟨v, A, cap, (hc 0 (by omega)).trans hv, hg, hn.keep hk hL hH⟩, ihr b (o + 1) (fun j hj => ?_) hr⟩
    have := hc (j + 1) (by omega)
    rwa [show o + (j + 1) = o + 1 + j by omega] at this
theorem GlS.keep {f : Fr} {A : Option Addr} {cap : Nat} (h : GlS w lo hi f A cap) (hk : ∀ p : Addr, lo ≤ p.block → p.block < hi → w'.cell? p = w.cell? p) (hL : lo' ≤ lo) (hH : hi ≤ hi') : GlS w' lo' hi' f A cap :=
  ⟨h.1, h.2.1, fun hp => by
    obtain ⟨b', e, hl, hb, hrow⟩ := h.2.2 hp
    exact ⟨b', e, by omega, by omega, GlRow.keep hk hL hH f b' 0 (fun j _ => hk _ hl hb) hrow⟩⟩
/-- One goal more behind a row. -/
theorem GlRow.snoc (f : Fr) {k n : Int} {s : ByteArray} {kids : Fr} {v : Value} {A : Option Addr} {cap : Nat} (hg : GIs (gk s kids.len) s A kids.len cap v) (hn : NdS w lo hi kids A cap) :
    ∀ b o, GlRow w lo hi f b o → w.cell? ⟨b, o + f.len, none⟩ = some v → GlRow w lo hi (f.app (.cons k n s kids .nil)) b o := by
  induction f with
  | nil => intro b o _ hc; exact ⟨⟨v, A, cap, hc, hg, hn⟩, trivial⟩
  | cons k' n' s' kids' rest' _ ihr =>
    intro b o h hc
    refine ⟨h.1, ihr b (o + 1) h.2 ?_⟩
    rw [← hc]
    simp only [Fr.len]
    rw [show o + (rest'.len + 1) = o + 1 + rest'.len by omega]
end
/-- The loop's relation: j goals are made, in block g. -/
def GPart (w : World) (f : Fr) (g j : Nat) (wr : World) : Prop :=
  Below w.heap.size w wr ∧ (∃ cur, Blk wr g 95 cur ∧ cur.size = f.len) ∧ GlRow wr (g + 1) wr.heap.size (f.take j) g 0 ∧ w.heap.size ≤ g
theorem GPart.cell {w wr w2 : World} {f : Fr} {g j : Nat} (h : GPart w f g j wr) (hj : j < f.len) (hb : Below wr.heap.size wr w2) : (∃ v, w2.cell? ⟨g, j, none⟩ = some v) ∧ w2.frozen? ⟨g, j, none⟩ = false := by
  obtain ⟨_, ⟨cur, hblk, hs⟩, _⟩ := h
  have hb2 := hblk.below hb hblk.lt
  refine ⟨?_, hb2.frozen _⟩
  rw [hb2.cell]
  exact ⟨_, Array.getElem?_eq_getElem (by omega)⟩
theorem GPart.step {w wr w2 : World} {f : Fr} {g i lo : Nat} {k n : Int} {s : ByteArray} {kids rest : Fr} {v : Value} {A : Option Addr} {cap : Nat}
    (h : GPart w f g i wr) (hd : f.drop i = .cons k n s kids rest) (hi : i < f.len) (hb : Below wr.heap.size wr w2) (hlo : wr.heap.size ≤ lo) (hg : GIs (gk s kids.len) s A kids.len cap v) (hn : NdS w2 lo w2.heap.size kids A cap) :
    GPart w f g (i + 1) (w2.setCell ⟨g, i, none⟩ v) := by
  obtain ⟨hbw, ⟨cur, hblk, hs⟩, hrow, hgl⟩ := h
  have hlt := hblk.lt
  have b2 := hblk.below hb hlt
  have far : ∀ p : Addr, p.block ≠ g → (w2.setCell ⟨g, i, none⟩ v).cell? p = w2.cell? p := fun p hp => World.cell?_of_block (heap_setCell_other w2 ⟨g, i, none⟩ p.block v hp)
  have hsz : (w2.setCell ⟨g, i, none⟩ v).heap.size = w2.heap.size := by simp [World.setCell]
  have hlen : (f.take i).len = i := Fr.len_take i f (by omega)
  refine ⟨(hbw.trans (hb.mono hbw.size)).setCell hgl _, ⟨_, b2.set_ i v, by simpa using hs⟩, ?_, hgl⟩
  rw [Fr.take_succ i f hd, hsz]
  refine GlRow.snoc (f.take i) hg (hn.keep (fun p hp _ => far p (by omega)) (by omega) (Nat.le_refl _)) g 0 ?_ ?_
  · refine GlRow.keep (fun p hp hp' => ?_) (Nat.le_refl _) hb.size (f.take i) g 0 (fun j hj => ?_) hrow
    · rw [far p (by omega)]
      exact hb.cell hp'
    · rw [hlen] at hj
      rw [(b2.set_ i v).cell, hblk.cell]
      simp only [Array.getElem?_setIfInBounds]
      rw [if_neg (by omega)]
  · rw [hlen, (b2.set_ i v).cell]
    simp [Array.getElem?_setIfInBounds]
    omega
theorem GPart.start {w w1 : World} {f : Fr} {base : Nat} {xs : List Value} (hown : w1.ownsRow base 95 1 (.slice (some ⟨w.heap.size, 0, none⟩) f.len f.len) f.len xs) (hg : w.grownBy w1 none) : GPart w f w.heap.size 0 w1 := by
  rcases hown.2 with ⟨h', _⟩ | ⟨g', cap', cur, h', _, hb, _, _, hs, _⟩
  · simp at h'
  · simp only [Value.slice.injEq, Option.some.injEq, Addr.mk.injEq, and_true, true_and] at h'
    obtain ⟨rfl, rfl⟩ := h'
    exact ⟨(Below.refl _ _).grown hg (Nat.le_refl _) (fun k hk => by cases hk), ⟨cur, hb, by simpa using hs⟩, trivial, Nat.le_refl _⟩
theorem GIs.iface {t : Nat} {s : ByteArray} {A : Option Addr} {len cap : Nat} {v : Value} (h : GIs t s A len cap v) : ∃ T x, v = .iface T x := by
  rcases h with ⟨_, rfl⟩ | ⟨_, rfl⟩ | ⟨_, rfl⟩ <;> exact ⟨_, _, rfl⟩
/-- What impl.goalsOf leaves. -/
def GsOf (w : World) (f : Fr) (e : Ending) (w' : World) : Prop :=
  Below w.heap.size w w' ∧ ((goalsV f = false ∧ e = .returned (.tuple #[.slice none 0 0, .bool false])) ∨ (goalsV f = true ∧ ∃ A cap, e = .returned (.tuple #[.slice A f.len cap, .bool true]) ∧ GlS w' w.heap.size w'.heap.size f A cap))
theorem GPart.done {w wr : World} {f : Fr} {g : Nat} (h : GPart w f g f.len wr) (hl : f.len ≤ maxLen) : GlS wr w.heap.size wr.heap.size f (some ⟨g, 0, none⟩) f.len := by
  obtain ⟨hbw, ⟨cur, hblk, hs⟩, hrow, hgl⟩ := h
  rw [Fr.take_len] at hrow
  exact ⟨Nat.le_refl _, hl, fun _ => ⟨g, rfl, hgl, hblk.lt, GlRow.keep (fun _ _ _ => rfl) (by omega) (Nat.le_refl _) f g 0 (fun _ _ => rfl) hrow⟩⟩

set_option maxRecDepth 100000 in
set_option maxHeartbeats 2000000 in
/-- impl.goalsOf. -/
theorem goalsOf_any (f : Fr) (A : Option Addr) (cap lo hi : Nat) (w : World) (hk : KidsAt w lo hi f A cap) (hh : hi ≤ w.heap.size) (hnd : nodes f ≤ 1048576) (ht : nv.Tab w) (ho : op.OpTab w) :
    Calls Tryd.prog 68 #[.slice A f.len cap] w fun e w' => GsOf w f e w' := by
  have hl : f.len ≤ 1048576 := by have := len_le_nodes f; omega
  have HE : Hid (goalsV f = (decide (f.len ≤ 6) && allG f)) := Lib.hid rfl
  have HK := Lib.hid hk
  have HHI := Lib.hid hh
  have HND := Lib.hid hnd
  have HT := Lib.hid ht
  have HO := Lib.hid ho
  have hst := fun w1 base xs => GPart.start (w := w) (w1 := w1) (f := f) (base := base) (xs := xs)
  have HST := Lib.hid hst
  clear hk hh hnd ht ho hst
  generalize hn : f.len = len at *
  have HN := Lib.hid hn
  clear hn
  by_cases h6 : len ≤ 6
  · have t6 : ¬ ((len : Int) > 6) := by omega
    obtain ⟨i0, hi0, hz0, hz1, hz2⟩ := info_parts infoG
    go_enter Tryd.func68, Tryd.ntmps68
    go_wp2_with (at_make; go_must (refine wpList_make_full _ rfl _ _ 84 rfl w.heap.size 95 i0 _ 1 Tryd.underlying84 hi0 hz0 hz1 .i64 .i64 _ _ len rfl rfl rfl rfl (by rw [hz2]; omega) (by unfold maxLen; omega) (Nat.le_refl _) ?_); intro w1 hown hgrow)
    have hp0 := HST.out _ _ _ hown hgrow
    have HP0 := Lib.hid hp0
    clear hp0 hown hgrow HST hi0 hz0 hz1 hz2
    go_loopw [17] (fun i wr => ∃ (j : Nat), j ≤ len ∧ i = .int .i64 j ∧ allG (f.drop j) = allG f ∧ GPart w f w.heap.size j wr) (fun i _ => len - (intOf i).toNat)
    case atStart => exact ⟨0, Nat.zero_le _, rfl, rfl, HP0.out⟩
    case round =>
      obtain ⟨j, hj, rfl, hv, hpart⟩ := hrel
      have HPT := Lib.hid hpart
      by_cases hlt : j < len
      · have hltf : j < f.len := by rw [HN.out]; exact hlt
        obtain ⟨kk, nn, s, kids, hd⟩ := Fr.drop_cons j f hltf
        obtain ⟨b, o, rfl, hlb, hbb, hrow⟩ := HK.out.2.2 (by rw [HN.out]; omega)
        obtain ⟨hfit, A', cp, c0, c1, c2, c3, hkid⟩ := hrow.elem hd
        rw [hd] at hv
        have hv2 : (goalV kk nn s kids && allG (f.drop (j + 1))) = allG f := hv
        have hb := hpart.1
        have hlo : (⟨b, o, none⟩ : Addr).block < w.heap.size := Nat.lt_of_lt_of_le hbb HHI.out
        have k0 := (hb.cell (p := ⟨b, o + j * 4, none⟩) hlo).trans c0
        have k1 := (hb.cell (p := ⟨b, o + j * 4 + 1, none⟩) hlo).trans c1
        have k2 := (hb.cell (p := ⟨b, o + j * 4 + 2, none⟩) hlo).trans c2
        have k3 := (hb.cell (p := ⟨b, o + j * 4 + 3, none⟩) hlo).trans c3
        have hb1 : Below wr.heap.size wr (wr.alloc (.cells #[.int .i64 kk, .int .i64 nn, .string s, .slice A' kids.len cp] 31)) := (Below.refl _ _).alloc (Nat.le_refl _) _
        have hbw1 := hb.trans (hb1.mono hb.size)
        have C1 := goalOf_any kk nn s kids A' cp lo hi _ (hkid.below hbw1 HHI.out) (Nat.le_trans HHI.out hbw1.size) hfit (Nat.le_trans (nodes_drop_elem j f hd) HND.out) (HT.out.below hbw1) (HO.out.below hbw1)
        have cellsOf := fun w2 hb => HPT.out.cell (w2 := w2) hltf hb
        have stepOf := fun w2 l0 A cap v hb hlo hg hn => HPT.out.step (w2 := w2) (lo := l0) (A := A) (cap := cap) (v := v) hd hltf hb hlo hg hn
        have H1 := Lib.hid C1
        have HB := Lib.hid hb
        have HB1 := Lib.hid hb1
        have HEE := Lib.hid hv2
        have HC := Lib.hid cellsOf
        have HS := Lib.hid stepOf
        clear C1 hb hb1 hbw1 hv hv2 c0 c1 c2 c3 hkid hrow hfit hd hlo cellsOf stepOf hpart hltf
        go_wp2_with fail
        refine H1.out.mono ?_
        rintro e w2 ⟨hb2, hr⟩
        have hb12 : Below wr.heap.size wr w2 := HB1.out.trans (hb2.mono HB1.out.size)
        rcases hr with ⟨hok, rfl⟩ | ⟨hok, v, A3, cap3, rfl, hgi, hnds⟩
        · have HV : Hid (goalsV f = false) := Lib.hid (by rw [HE.out, ← HEE.out, hok]; simp)
          have HBW : Hid (Below w.heap.size w w2) := Lib.hid (HB.out.trans (hb12.mono HB.out.size))
          clear hok hb2 hb12 k0 k1 k2 k3
          go_wp2_with fail
          go_ret2
          exact ⟨HBW.out, .inl ⟨HV.out, rfl⟩⟩
        · obtain ⟨⟨v0, d0⟩, g0⟩ := HC.out w2 hb12
          have hstep := HS.out w2 _ A3 cap3 v hb12 HB1.out.size hgi hnds
          have HF : Hid (allG (f.drop (j + 1)) = allG f) := Lib.hid (by rw [← HEE.out, hok]; rfl)
          obtain ⟨T, x, rfl⟩ := hgi.iface
          have HSTEP := Lib.hid hstep
          clear hok hgi hnds hb2 hb12 hstep k0 k1 k2 k3
          go_wp2_with fail
          go_roundw
          case rel => exact ⟨j + 1, by omega, by go_num, HF.out, HSTEP.out⟩
          case measure => simp [intOf]; omega
      · obtain rfl : j = len := by omega
        have HV : Hid (goalsV f = true) := Lib.hid (by
          have h1 := Fr.drop_len f
          rw [HN.out] at h1
          rw [HE.out, ← hv, h1, decide_eq_true h6]; rfl)
        clear hpart hv
        go_wp2_with fail
        go_ret2
        have hfin := HPT.out
        rw [← HN.out] at hfin
        exact ⟨HPT.out.1, .inr ⟨HV.out, some ⟨w.heap.size, 0, none⟩, f.len, by rw [HN.out]; rfl, hfin.done (by rw [HN.out]; unfold maxLen; omega)⟩⟩
  · have t6 : (len : Int) > 6 := by omega
    have HV : Hid (goalsV f = false) := Lib.hid (by rw [HE.out, decide_eq_false h6]; rfl)
    go_enter Tryd.func68, Tryd.ntmps68
    go_wp2_with fail
    go_ret2
    exact ⟨Below.refl _ _, .inl ⟨HV.out, rfl⟩⟩
theorem results_cell_row3 {P : Program} {fn : Func} {p u : Tmp} {ty : TypeId} (h : fn.results = #[.cell p ty, .tmp u]) (tmps : Array Value) (w : World) (g : Nat) (t : TypeId) (cs : Array Value) (d : TypeDesc)
    (hp : tmps.getD p undef = .pointer (some ⟨g, 0, none⟩)) (hg : Blk w g t cs)
    (hu : P.underlying ty = some d) (hd : (match d with | .struct _ | .array _ _ => true | _ => false) = true) (hi : (P.info? ty).map (·.size) = some cs.size) :
    (results fn tmps).run P w = .ok (.tuple #[.agg cs, tmps.getD u undef]) w := results_cell_row2 h tmps w g t cs (0, 0) d hp hg hu hd hi

/-- What impl.clauseOf leaves. -/
def COf (w : World) (c : Cl) (e : Ending) (w' : World) : Prop :=
  Below w.heap.size w w' ∧ ((clauseV c = false ∧ e = .returned (.tuple #[.agg #[.string ⟨#[]⟩, .slice none 0 0, .slice none 0 0], .bool false])) ∨
    (clauseV c = true ∧ ∃ A cap G gcap, e = .returned (.tuple #[.agg #[.string c.s, .slice A c.kids.len cap, .slice G c.body.len gcap], .bool true]) ∧ NdS w' w.heap.size w'.heap.size c.kids A cap ∧ GlS w' w.heap.size w'.heap.size c.body G gcap))
theorem set3 {w : World} {g : Nat} {t : TypeId} {x0 x1 x2 : Value} (h : Blk w g t #[x0, x1, x2]) (a b c : Value) : Blk (((w.setCell ⟨g, 0, none⟩ a).setCell ⟨g, 1, none⟩ b).setCell ⟨g, 2, none⟩ c) g t #[a, b, c] := ((h.set_ 0 a).set_ 1 b).set_ 2 c

end Go.Proofs.YtnkaafimnkigpaaDoor

/- Goals in memory: their forms, elements of a row of goals. Condition: the goals lie in memory. -/
namespace Go.Proofs.YtnkaafimnkigpaaDoor
open Go.RowKit Go.ChangeShapes

@[go_sem] theorem mth_pf (d : Nat) (x : Value) (w : World) : (method (d + 3) 196 x "loop.example/prologserver/impl.form").run Tryd.prog w = .ok (154, x) w := by kernel_rfl
set_option maxRecDepth 100000 in
/-- plainGoal.form. -/
theorem formP_any (s : ByteArray) (A : Option Addr) (len cap : Nat) (w : World) :
    Calls Tryd.prog 154 #[.agg #[.string s, .slice A len cap]] w fun e w' => e = .returned (.agg #[.string s, .slice A len cap]) ∧ Below w.heap.size w w' := by
  have HB : ∀ o o', Hid (Below w.heap.size w ((w.alloc o).alloc o')) := fun o o' => Lib.hid (two_alloc w o o')
  have hq := Blk.new (w.alloc (.cells #[.string s, .slice A len cap] 196)) 98 #[.string s, .slice A len cap]
  rw [show (w.alloc (.cells #[.string s, .slice A len cap] 196)).heap.size = w.heap.size + 1 by simp] at hq
  have HQ := Lib.hid hq
  clear hq
  go_enter Tryd.func154, Tryd.ntmps154
  go_wp2_with fail
  refine bodyPost_ret (v := .agg #[.string s, .slice A len cap]) ?_ rfl ⟨rfl, (HB _ _).out⟩
  exact results_cell_row Tryd.results154 _ _ (w.heap.size + 1) _ _ _ _ rfl HQ.out Tryd.underlying98 rfl (by kernel_rfl)

theorem GlRow.at_ {w : World} {lo hi : Nat} : ∀ (f : Fr) (i b o : Nat), GlRow w lo hi f b o → GlRow w lo hi (f.drop i) b (o + i)
  | .nil, i, _, _, _ => by cases i <;> trivial
  | .cons _ _ _ _ _, 0, _, _, h => h
  | .cons _ _ _ _ rest, i + 1, b, o, h => by
    have := GlRow.at_ rest i b (o + 1) h.2
    rw [show o + 1 + i = o + (i + 1) by omega] at this
    exact this
theorem GlRow.elem {w : World} {lo hi i b o : Nat} {f rest kids : Fr} {k n : Int} {s : ByteArray} (h : GlRow w lo hi f b o) (hd : f.drop i = .cons k n s kids rest) :
    ∃ v A cap, w.cell? ⟨b, o + i, none⟩ = some v ∧ GIs (gk s kids.len) s A kids.len cap v ∧ NdS w lo hi kids A cap := by
  have := GlRow.at_ f i b o h
  rw [hd] at this
  exact this.1
theorem allG_elem {k n : Int} {s : ByteArray} {kids rest : Fr} : ∀ (f : Fr) (i : Nat), f.drop i = .cons k n s kids rest → allG f = true → goalV k n s kids = true
  | .nil, i, h, _ => by cases i <;> cases h
  | .cons _ _ _ _ _, 0, h, ha => by
    injection h with h1 h2 h3 h4 h5
    subst h1 h2 h3 h4
    exact (Bool.and_eq_true _ _ ▸ ha).1
  | .cons _ _ _ _ rest, i + 1, h, ha => allG_elem rest i h (Bool.and_eq_true _ _ ▸ ha).2
theorem valid_shape2 {k n : Int} {s : ByteArray} {f : Fr} (h : validT k n s f = true) : shapeT k n s f 30 = true ∧ nodes f ≤ 119 := by
  unfold validT at h
  rw [Bool.and_eq_true, decide_eq_true_iff] at h
  exact ⟨h.1, by omega⟩
/-- A goal in memory: whether it is plain, and what then. -/
theorem goal_plain {k n : Int} {s : ByteArray} {kids : Fr} (h : goalV k n s kids = true) (hg : gk s kids.len = 3) : plainK k s kids.len = true ∧ k = 3 ∧ n = 0 ∧ validT 3 0 s kids = true := by
  have hp : plainV k n s kids = true := by rw [plainV_goal, h, hg]; rfl
  unfold plainV at hp
  rw [Bool.and_eq_true] at hp
  have h3 := hp.2
  unfold plainK at h3
  rw [Bool.and_eq_true, beq_iff_eq] at h3
  obtain ⟨rfl, _⟩ := h3
  have hv := hp.1
  have hs := (valid_shape2 hv).1
  obtain ⟨rfl, _⟩ := shapeT_struct hs
  exact ⟨hp.2, rfl, rfl, hv⟩
theorem goal_other {k n : Int} {s : ByteArray} {kids : Fr} (h : goalV k n s kids = true) (hg : gk s kids.len ≠ 3) : plainK k s kids.len = false := by
  have hp : plainV k n s kids = false := by rw [plainV_goal, h]; simpa using hg
  have hv : validT k n s kids = true := by
    unfold goalV at h
    rw [Bool.and_eq_true] at h
    exact h.1
  unfold plainV at hp
  rw [hv] at hp
  exact hp

@[go_sem] theorem mth_bf (d : Nat) (x : Value) (w : World) : (method (d + 3) 194 x "loop.example/prologserver/impl.form").run Tryd.prog w = .ok (153, x) w := by kernel_rfl
@[go_sem] theorem mth_cf (d : Nat) (x : Value) (w : World) : (method (d + 3) 193 x "loop.example/prologserver/impl.form").run Tryd.prog w = .ok (152, x) w := by kernel_rfl
set_option maxRecDepth 100000 in
/-- builtinGoal.form. -/
theorem formB_any (s : ByteArray) (A : Option Addr) (len cap : Nat) (w : World) :
    Calls Tryd.prog 153 #[.agg #[.string s, .slice A len cap]] w fun e w' => e = .returned (.agg #[.string s, .slice A len cap]) ∧ Below w.heap.size w w' := by
  have HB : ∀ o o', Hid (Below w.heap.size w ((w.alloc o).alloc o')) := fun o o' => Lib.hid (two_alloc w o o')
  have hq := Blk.new (w.alloc (.cells #[.string s, .slice A len cap] 194)) 98 #[.string s, .slice A len cap]
  rw [show (w.alloc (.cells #[.string s, .slice A len cap] 194)).heap.size = w.heap.size + 1 by simp] at hq
  have HQ := Lib.hid hq
  clear hq
  go_enter Tryd.func153, Tryd.ntmps153
  go_wp2_with fail
  refine bodyPost_ret (v := .agg #[.string s, .slice A len cap]) ?_ rfl ⟨rfl, (HB _ _).out⟩
  exact results_cell_row Tryd.results153 _ _ (w.heap.size + 1) _ _ _ _ rfl HQ.out Tryd.underlying98 rfl (by kernel_rfl)
set_option maxRecDepth 100000 in
/-- cutGoal.form. -/
theorem formC_any (w : World) :
    Calls Tryd.prog 152 #[.agg #[]] w fun e w' => e = .returned (.agg #[.string ⟨#[33]⟩, .slice none 0 0]) ∧ Below w.heap.size w w' := by
  have HB : ∀ o o', Hid (Below w.heap.size w ((w.alloc o).alloc o')) := fun o o' => Lib.hid (two_alloc w o o')
  have hq := Blk.new (w.alloc (.cells #[] 193)) 98 #[.string ⟨#[33]⟩, .slice none 0 0]
  rw [show (w.alloc (.cells #[] 193)).heap.size = w.heap.size + 1 by simp] at hq
  have HQ := Lib.hid hq
  clear hq
  go_enter Tryd.func152, Tryd.ntmps152
  go_wp2_with fail
  refine bodyPost_ret (v := .agg #[.string ⟨#[33]⟩, .slice none 0 0]) ?_ rfl ⟨rfl, (HB _ _).out⟩
  exact results_cell_row Tryd.results152 _ _ (w.heap.size + 1) _ _ _ _ rfl HQ.out Tryd.underlying98 rfl (by kernel_rfl)
/-- The form of a goal, as a node. -/
theorem GIs.node {w : World} {lo hi : Nat} {k n : Int} {s : ByteArray} {kids : Fr} {v : Value} {A : Option Addr} {cap : Nat} (hv : goalV k n s kids = true) (hg : GIs (gk s kids.len) s A kids.len cap v) (hn : NdS w lo hi kids A cap) :
    k = 3 ∧ shapeT k n s kids 30 = true ∧ ((v = .iface 193 (.agg #[]) ∧ s = ⟨#[33]⟩ ∧ kids = .nil) ∨ v = .iface 194 (.agg #[.string s, .slice A kids.len cap]) ∨ v = .iface 196 (.agg #[.string s, .slice A kids.len cap])) := by
  have hval : validT k n s kids = true := by
    unfold goalV at hv
    rw [Bool.and_eq_true] at hv
    exact hv.1
  have hk : k = 3 := by
    by_cases h : k = 3
    · exact h
    · rw [goalV_other h] at hv; cases hv
  refine ⟨hk, (valid_shape2 hval).1, ?_⟩
  rcases hg with ⟨h, rfl⟩ | ⟨_, rfl⟩ | ⟨_, rfl⟩
  · refine .inl ⟨rfl, ?_⟩
    unfold gk at h
    have hc : cutB s kids.len = true := by
      by_cases hc : cutB s kids.len = true
      · exact hc
      · rw [if_neg hc] at h
        split at h
        · omega
        · split at h <;> omega
    unfold cutB at hc
    simp only [Bool.and_eq_true, beq_iff_eq] at hc
    refine ⟨?_, ?_⟩
    · have h1 := hc.1
      cases s
      rename_i d
      simp only at h1
      congr 1
      exact Array.toList_inj.1 (by simpa using h1)
    · cases kids with
      | nil => rfl
      | cons _ _ _ _ _ => simp [Fr.len] at hc
  · exact .inr (.inl rfl)
  · exact .inr (.inr rfl)
theorem nd_form {w : World} {lo hi : Nat} {n : Int} {s : ByteArray} {kids : Fr} {A : Option Addr} {cap : Nat} (hn : NdS w lo hi kids A cap) : NdV w lo hi 3 n s kids (.iface 98 (.agg #[.string s, .slice A kids.len cap])) := .inr (.inr ⟨rfl, A, cap, rfl, hn⟩)
theorem nd_cut (w : World) (lo hi : Nat) (n : Int) : NdV w lo hi 3 n ⟨#[33]⟩ .nil (.iface 98 (.agg #[.string ⟨#[33]⟩, .slice none 0 0])) := .inr (.inr ⟨rfl, none, 0, rfl, Nat.le_refl _, by unfold maxLen; omega, fun h => absurd h (Nat.lt_irrefl _)⟩)
end Go.Proofs.YtnkaafimnkigpaaDoor
