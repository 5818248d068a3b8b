/- Clauses: impl.goalsOf, clauseOf, ClauseValid. Condition: the clause lies in memory, both tables in their variables. -/
import Derived.Test.YtlapdnllncoomaaDoorProg
import Derived.Test.YtlapdnllncoomaaDoorCvS
import Derived.OwnWalk
namespace Go.Proofs.YtlapdnllncoomaaDoor
open Go.RowKit

theorem infoG : (Tryd.prog.info? 94).map (fun i => (i.zero, i.size, i.bytes)) = some (some .nilIface, 1, 16) := by kernel_rfl

/-- The goals of the row f lie in block b from cell o on; what they lead to lies in blocks from lo to below hi. -/
def GlRow (w : World) (lo hi : Nat) : Fr → Nat → Nat → Prop
  | .nil, _, _ => True
  | .cons _ _ s kids rest, b, o => (∃ v A cap, w.cell? ⟨b, o, none⟩ = some v ∧ GIs (gk s kids.len) s A kids.len cap v ∧ NdS w lo hi kids A cap) ∧ GlRow w lo hi rest b (o + 1)
def GlS (w : World) (lo hi : Nat) (f : Fr) (A : Option Addr) (cap : Nat) : Prop :=
  f.len ≤ cap ∧ cap ≤ maxLen ∧ (0 < f.len → ∃ b, A = some ⟨b, 0, none⟩ ∧ lo ≤ b ∧ b < hi ∧ GlRow w lo hi f b 0)
section
variable {w w' : World} {lo hi lo' hi' : Nat}
theorem GlRow.keep (hk : ∀ p : Addr, lo ≤ p.block → p.block < hi → w'.cell? p = w.cell? p) (hL : lo' ≤ lo) (hH : hi ≤ hi') (f : Fr) :
    ∀ b o, (∀ j, j < f.len → w'.cell? ⟨b, o + j, none⟩ = w.cell? ⟨b, o + j, none⟩) → GlRow w lo hi f b o → GlRow w' lo' hi' f b o := by
  induction f with
  | nil => intro b o _ _; trivial
  | cons k n s kids rest _ ihr =>
    rintro b o hc ⟨⟨v, A, cap, hv, hg, hn⟩, hr⟩
    simp only [Fr.len] at hc
    refine ⟨⟨v, A, cap, (hc 0 (by omega)).trans hv, hg, hn.keep hk hL hH⟩, ihr b (o + 1) (fun j hj => ?_) hr⟩
    have := hc (j + 1) (by omega)
    rwa [show o + (j + 1) = o + 1 + j by omega] at this
theorem GlS.keep {f : Fr} {A : Option Addr} {cap : Nat} (h : GlS w lo hi f A cap) (hk : ∀ p : Addr, lo ≤ p.block → p.block < hi → w'.cell? p = w.cell? p) (hL : lo' ≤ lo) (hH : hi ≤ hi') : GlS w' lo' hi' f A cap :=
  ⟨h.1, h.2.1, fun hp => by
    obtain ⟨b', e, hl, hb, hrow⟩ := h.2.2 hp
    exact ⟨b', e, by omega, by omega, GlRow.keep hk hL hH f b' 0 (fun j _ => hk _ hl hb) hrow⟩⟩
/-- One goal more behind a row. -/
theorem GlRow.snoc (f : Fr) {k n : Int} {s : ByteArray} {kids : Fr} {v : Value} {A : Option Addr} {cap : Nat} (hg : GIs (gk s kids.len) s A kids.len cap v) (hn : NdS w lo hi kids A cap) :
    ∀ b o, GlRow w lo hi f b o → w.cell? ⟨b, o + f.len, none⟩ = some v → GlRow w lo hi (f.app (.cons k n s kids .nil)) b o := by
  induction f with
  | nil => intro b o _ hc; exact ⟨⟨v, A, cap, hc, hg, hn⟩, trivial⟩
  | cons k' n' s' kids' rest' _ ihr =>
    intro b o h hc
    refine ⟨h.1, ihr b (o + 1) h.2 ?_⟩
    rw [← hc]
    simp only [Fr.len]
    rw [show o + (rest'.len + 1) = o + 1 + rest'.len by omega]
end
/-- The loop's relation: j goals are made, in block g. -/
def GPart (w : World) (f : Fr) (g j : Nat) (wr : World) : Prop :=
  Below w.heap.size w wr ∧ (∃ cur, Blk wr g 94 cur ∧ cur.size = f.len) ∧ GlRow wr (g + 1) wr.heap.size (f.take j) g 0 ∧ w.heap.size ≤ g
theorem GPart.cell {w wr w2 : World} {f : Fr} {g j : Nat} (h : GPart w f g j wr) (hj : j < f.len) (hb : Below wr.heap.size wr w2) : (∃ v, w2.cell? ⟨g, j, none⟩ = some v) ∧ w2.frozen? ⟨g, j, none⟩ = false := by
  obtain ⟨_, ⟨cur, hblk, hs⟩, _⟩ := h
  have hb2 := hblk.below hb hblk.lt
  refine ⟨?_, hb2.frozen _⟩
  rw [hb2.cell]
  exact ⟨_, Array.getElem?_eq_getElem (by omega)⟩
theorem GPart.step {w wr w2 : World} {f : Fr} {g i lo : Nat} {k n : Int} {s : ByteArray} {kids rest : Fr} {v : Value} {A : Option Addr} {cap : Nat}
    (h : GPart w f g i wr) (hd : f.drop i = .cons k n s kids rest) (hi : i < f.len) (hb : Below wr.heap.size wr w2) (hlo : wr.heap.size ≤ lo) (hg : GIs (gk s kids.len) s A kids.len cap v) (hn : NdS w2 lo w2.heap.size kids A cap) :
    GPart w f g (i + 1) (w2.setCell ⟨g, i, none⟩ v) := by
  obtain ⟨hbw, ⟨cur, hblk, hs⟩, hrow, hgl⟩ := h
  have hlt := hblk.lt
  have b2 := hblk.below hb hlt
  have far : ∀ p : Addr, p.block ≠ g → (w2.setCell ⟨g, i, none⟩ v).cell? p = w2.cell? p := fun p hp => World.cell?_of_block (heap_setCell_other w2 ⟨g, i, none⟩ p.block v hp)
  have hsz : (w2.setCell ⟨g, i, none⟩ v).heap.size = w2.heap.size := by simp [World.setCell]
  have hlen : (f.take i).len = i := Fr.len_take i f (by omega)
  refine ⟨(hbw.trans (hb.mono hbw.size)).setCell hgl _, ⟨_, b2.set_ i v, by simpa using hs⟩, ?_, hgl⟩
  rw [Fr.take_succ i f hd, hsz]
  refine GlRow.snoc (f.take i) hg (hn.keep (fun p hp _ => far p (by omega)) (by omega) (Nat.le_refl _)) g 0 ?_ ?_
  · refine GlRow.keep (fun p hp hp' => ?_) (Nat.le_refl _) hb.size (f.take i) g 0 (fun j hj => ?_) hrow
    · rw [far p (by omega)]
      exact hb.cell hp'
    · rw [hlen] at hj
      rw [(b2.set_ i v).cell, hblk.cell]
      simp only [Array.getElem?_setIfInBounds]
      rw [if_neg (by omega)]
  · rw [hlen, (b2.set_ i v).cell]
    simp [Array.getElem?_setIfInBounds]
    omega
theorem GPart.start {w w1 : World} {f : Fr} {base : Nat} {xs : List Value} (hown : w1.ownsRow base 94 1 (.slice (some ⟨w.heap.size, 0, none⟩) f.len f.len) f.len xs) (hg : w.grownBy w1 none) : GPart w f w.heap.size 0 w1 := by
  rcases hown.2 with ⟨h', _⟩ | ⟨g', cap', cur, h', _, hb, _, _, hs, _⟩
  · simp at h'
  · simp only [Value.slice.injEq, Option.some.injEq, Addr.mk.injEq, and_true, true_and] at h'
    obtain ⟨rfl, rfl⟩ := h'
    exact ⟨(Below.refl _ _).grown hg (Nat.le_refl _) (fun k hk => by cases hk), ⟨cur, hb, by simpa using hs⟩, trivial, Nat.le_refl _⟩
theorem GIs.iface {t : Nat} {s : ByteArray} {A : Option Addr} {len cap : Nat} {v : Value} (h : GIs t s A len cap v) : ∃ T x, v = .iface T x := by
  rcases h with ⟨_, rfl⟩ | ⟨_, rfl⟩ | ⟨_, rfl⟩ <;> exact ⟨_, _, rfl⟩
/-- What impl.goalsOf leaves. -/
def GsOf (w : World) (f : Fr) (e : Ending) (w' : World) : Prop :=
  Below w.heap.size w w' ∧ ((goalsV f = false ∧ e = .returned (.tuple #[.slice none 0 0, .bool false])) ∨ (goalsV f = true ∧ ∃ A cap, e = .returned (.tuple #[.slice A f.len cap, .bool true]) ∧ GlS w' w.heap.size w'.heap.size f A cap))
theorem GPart.done {w wr : World} {f : Fr} {g : Nat} (h : GPart w f g f.len wr) (hl : f.len ≤ maxLen) : GlS wr w.heap.size wr.heap.size f (some ⟨g, 0, none⟩) f.len := by
  obtain ⟨hbw, ⟨cur, hblk, hs⟩, hrow, hgl⟩ := h
  rw [Fr.take_len] at hrow
  exact ⟨Nat.le_refl _, hl, fun _ => ⟨g, rfl, hgl, hblk.lt, GlRow.keep (fun _ _ _ => rfl) (by omega) (Nat.le_refl _) f g 0 (fun _ _ => rfl) hrow⟩⟩

set_option maxRecDepth 100000 in
set_option maxHeartbeats 2000000 in
/-- impl.goalsOf. -/
theorem goalsOf_any (f : Fr) (A : Option Addr) (cap lo hi : Nat) (w : World) (hk : KidsAt w lo hi f A cap) (hh : hi ≤ w.heap.size) (hnd : nodes f ≤ 1048576) (ht : nv.Tab w) (ho : op.OpTab w) :
    Calls Tryd.prog 75 #[.slice A f.len cap] w fun e w' => GsOf w f e w' := by
  have hl : f.len ≤ 1048576 := by have := len_le_nodes f; omega
  have HE : Hid (goalsV f = (decide (f.len ≤ 6) && allG f)) := Lib.hid rfl
  have HK := Lib.hid hk
  have HHI := Lib.hid hh
  have HND := Lib.hid hnd
  have HT := Lib.hid ht
  have HO := Lib.hid ho
  have hst := fun w1 base xs => GPart.start (w := w) (w1 := w1) (f := f) (base := base) (xs := xs)
  have HST := Lib.hid hst
  clear hk hh hnd ht ho hst
  generalize hn : f.len = len at *
  have HN := Lib.hid hn
  clear hn
  by_cases h6 : len ≤ 6
  · have t6 : ¬ ((len : Int) > 6) := by omega
    obtain ⟨i0, hi0, hz0, hz1, hz2⟩ := info_parts infoG
    go_enter Tryd.func75, Tryd.ntmps75
    go_wp2_with (at_make; go_must (refine wpList_make_full _ rfl _ _ 89 rfl w.heap.size 94 i0 _ 1 Tryd.underlying89 hi0 hz0 hz1 .i64 .i64 _ _ len rfl rfl rfl rfl (by rw [hz2]; omega) (by unfold maxLen; omega) (Nat.le_refl _) ?_); intro w1 hown hgrow)
    have hp0 := HST.out _ _ _ hown hgrow
    have HP0 := Lib.hid hp0
    clear hp0 hown hgrow HST hi0 hz0 hz1 hz2
    go_loopw [17] (fun i wr => ∃ (j : Nat), j ≤ len ∧ i = .int .i64 j ∧ allG (f.drop j) = allG f ∧ GPart w f w.heap.size j wr) (fun i _ => len - (intOf i).toNat)
    case atStart => exact ⟨0, Nat.zero_le _, rfl, rfl, HP0.out⟩
    case round =>
      obtain ⟨j, hj, rfl, hv, hpart⟩ := hrel
      have HPT := Lib.hid hpart
      by_cases hlt : j < len
      · have hltf : j < f.len := by rw [HN.out]; exact hlt
        obtain ⟨kk, nn, s, kids, hd⟩ := Fr.drop_cons j f hltf
        obtain ⟨b, o, rfl, hlb, hbb, hrow⟩ := HK.out.2.2 (by rw [HN.out]; omega)
        obtain ⟨hfit, A', cp, c0, c1, c2, c3, hkid⟩ := hrow.elem hd
        rw [hd] at hv
        have hv2 : (goalV kk nn s kids && allG (f.drop (j + 1))) = allG f := hv
        have hb := hpart.1
        have hlo : (⟨b, o, none⟩ : Addr).block < w.heap.size := Nat.lt_of_lt_of_le hbb HHI.out
        have k0 := (hb.cell (p := ⟨b, o + j * 4, none⟩) hlo).trans c0
        have k1 := (hb.cell (p := ⟨b, o + j * 4 + 1, none⟩) hlo).trans c1
        have k2 := (hb.cell (p := ⟨b, o + j * 4 + 2, none⟩) hlo).trans c2
        have k3 := (hb.cell (p := ⟨b, o + j * 4 + 3, none⟩) hlo).trans c3
        have hb1 : Below wr.heap.size wr (wr.alloc (.cells #[.int .i64 kk, .int .i64 nn, .string s, .slice A' kids.len cp] 29)) := (Below.refl _ _).alloc (Nat.le_refl _) _
        have hbw1 := hb.trans (hb1.mono hb.size)
        have C1 := goalOf_any kk nn s kids A' cp lo hi _ (hkid.below hbw1 HHI.out) (Nat.le_trans HHI.out hbw1.size) hfit (Nat.le_trans (nodes_drop_elem j f hd) HND.out) (HT.out.below hbw1) (HO.out.below hbw1)
        have cellsOf := fun w2 hb => HPT.out.cell (w2 := w2) hltf hb
        have stepOf := fun w2 l0 A cap v hb hlo hg hn => HPT.out.step (w2 := w2) (lo := l0) (A := A) (cap := cap) (v := v) hd hltf hb hlo hg hn
        have H1 := Lib.hid C1
        have HB := Lib.hid hb
        have HB1 := Lib.hid hb1
        have HEE := Lib.hid hv2
        have HC := Lib.hid cellsOf
        have HS := Lib.hid stepOf
        clear C1 hb hb1 hbw1 hv hv2 c0 c1 c2 c3 hkid hrow hfit hd hlo cellsOf stepOf hpart hltf
        go_wp2_with fail
        refine H1.out.mono ?_
        rintro e w2 ⟨hb2, hr⟩
        have hb12 : Below wr.heap.size wr w2 := HB1.out.trans (hb2.mono HB1.out.size)
        rcases hr with ⟨hok, rfl⟩ | ⟨hok, v, A3, cap3, rfl, hgi, hnds⟩
        · have HV : Hid (goalsV f = false) := Lib.hid (by rw [HE.out, ← HEE.out, hok]; simp)
          have HBW : Hid (Below w.heap.size w w2) := Lib.hid (HB.out.trans (hb12.mono HB.out.size))
          clear hok hb2 hb12 k0 k1 k2 k3
          go_wp2_with fail
          go_ret2
          exact ⟨HBW.out, .inl ⟨HV.out, rfl⟩⟩
        · obtain ⟨⟨v0, d0⟩, g0⟩ := HC.out w2 hb12
          have hstep := HS.out w2 _ A3 cap3 v hb12 HB1.out.size hgi hnds
          have HF : Hid (allG (f.drop (j + 1)) = allG f) := Lib.hid (by rw [← HEE.out, hok]; rfl)
          obtain ⟨T, x, rfl⟩ := hgi.iface
          have HSTEP := Lib.hid hstep
          clear hok hgi hnds hb2 hb12 hstep k0 k1 k2 k3
          go_wp2_with fail
          go_roundw
          case rel => exact ⟨j + 1, by omega, by go_num, HF.out, HSTEP.out⟩
          case measure => simp [intOf]; omega
      · obtain rfl : j = len := by omega
        have HV : Hid (goalsV f = true) := Lib.hid (by
          have h1 := Fr.drop_len f
          rw [HN.out] at h1
          rw [HE.out, ← hv, h1, decide_eq_true h6]; rfl)
        clear hpart hv
        go_wp2_with fail
        go_ret2
        have hfin := HPT.out
        rw [← HN.out] at hfin
        exact ⟨HPT.out.1, .inr ⟨HV.out, some ⟨w.heap.size, 0, none⟩, f.len, by rw [HN.out]; rfl, hfin.done (by rw [HN.out]; unfold maxLen; omega)⟩⟩
  · have t6 : (len : Int) > 6 := by omega
    have HV : Hid (goalsV f = false) := Lib.hid (by rw [HE.out, decide_eq_false h6]; rfl)
    go_enter Tryd.func75, Tryd.ntmps75
    go_wp2_with fail
    go_ret2
    exact ⟨Below.refl _ _, .inl ⟨HV.out, rfl⟩⟩
theorem results_cell_row3 {P : Program} {fn : Func} {p u : Tmp} {ty : TypeId} (h : fn.results = #[.cell p ty, .tmp u]) (tmps : Array Value) (w : World) (g : Nat) (t : TypeId) (cs : Array Value) (d : TypeDesc)
    (hp : tmps.getD p undef = .pointer (some ⟨g, 0, none⟩)) (hg : Blk w g t cs)
    (hu : P.underlying ty = some d) (hd : (match d with | .struct _ | .array _ _ => true | _ => false) = true) (hi : (P.info? ty).map (·.size) = some cs.size) :
    (results fn tmps).run P w = .ok (.tuple #[.agg cs, tmps.getD u undef]) w := results_cell_row2 h tmps w g t cs (0, 0) d hp hg hu hd hi

/-- What impl.clauseOf leaves. -/
def COf (w : World) (c : Cl) (e : Ending) (w' : World) : Prop :=
  Below w.heap.size w w' ∧ ((clauseV c = false ∧ e = .returned (.tuple #[.agg #[.string ⟨#[]⟩, .slice none 0 0, .slice none 0 0], .bool false])) ∨
    (clauseV c = true ∧ ∃ A cap G gcap, e = .returned (.tuple #[.agg #[.string c.s, .slice A c.kids.len cap, .slice G c.body.len gcap], .bool true]) ∧ NdS w' w.heap.size w'.heap.size c.kids A cap ∧ GlS w' w.heap.size w'.heap.size c.body G gcap))
theorem set3 {w : World} {g : Nat} {t : TypeId} {x0 x1 x2 : Value} (h : Blk w g t #[x0, x1, x2]) (a b c : Value) : Blk (((w.setCell ⟨g, 0, none⟩ a).setCell ⟨g, 1, none⟩ b).setCell ⟨g, 2, none⟩ c) g t #[a, b, c] := ((h.set_ 0 a).set_ 1 b).set_ 2 c

set_option maxRecDepth 100000 in
set_option maxHeartbeats 2000000 in
/-- impl.clauseOf. -/
theorem clauseOf_any (c : Cl) (A B : Option Addr) (cap capB lo hi : Nat) (w : World) (hk : KidsAt w lo hi c.kids A cap) (hkb : KidsAt w lo hi c.body B capB) (hh : hi ≤ w.heap.size) (hf : Fits c.k c.n c.s) (hnd : nodes c.kids ≤ 1048576) (hndb : nodes c.body ≤ 1048576) (ht : nv.Tab w) (ho : op.OpTab w) :
    Calls Tryd.prog 66 #[.agg #[.int .i64 c.k, .int .i64 c.n, .string c.s, .slice A c.kids.len cap, .slice B c.body.len capB]] w fun e w' => COf w c e w' := by
  obtain ⟨k, n, s, f, g⟩ := c
  simp only at *
  have HE : Hid (clauseV ⟨k, n, s, f, g⟩ = (plainV k n s f && goalsV g)) := Lib.hid rfl
  have hb0 : Below w.heap.size w ((w.alloc (.cells #[.int .i64 k, .int .i64 n, .string s, .slice A f.len cap, .slice B g.len capB] 68)).alloc (.cells #[.string ⟨#[]⟩, .slice none 0 0, .slice none 0 0] 91)) := two_alloc w _ _
  have hq0 : Blk ((w.alloc (.cells #[.int .i64 k, .int .i64 n, .string s, .slice A f.len cap, .slice B g.len capB] 68)).alloc (.cells #[.string ⟨#[]⟩, .slice none 0 0, .slice none 0 0] 91)) w.heap.size 68 #[.int .i64 k, .int .i64 n, .string s, .slice A f.len cap, .slice B g.len capB] := (Blk.new w _ _).alloc _
  have hq1 : Blk ((w.alloc (.cells #[.int .i64 k, .int .i64 n, .string s, .slice A f.len cap, .slice B g.len capB] 68)).alloc (.cells #[.string ⟨#[]⟩, .slice none 0 0, .slice none 0 0] 91)) (w.heap.size + 1) 91 #[.string ⟨#[]⟩, .slice none 0 0, .slice none 0 0] := by
    have h := Blk.new (w.alloc (.cells #[.int .i64 k, .int .i64 n, .string s, .slice A f.len cap, .slice B g.len capB] 68)) 91 #[.string ⟨#[]⟩, .slice none 0 0, .slice none 0 0]
    simpa using h
  have e9 : ((w.alloc (.cells #[.int .i64 k, .int .i64 n, .string s, .slice A f.len cap, .slice B g.len capB] 68)).alloc (.cells #[.string ⟨#[]⟩, .slice none 0 0, .slice none 0 0] 91)).heap.size = w.heap.size + 1 + 1 := by simp
  have C1 := plainOf_any k n s f A cap lo hi _ (hk.below hb0 hh) (Nat.le_trans hh hb0.size) hf hnd (ht.below hb0) (ho.below hb0)
  have C2 := fun w1 (hb : Below w.heap.size w w1) => goalsOf_any g B capB lo hi w1 (hkb.below hb hh) (Nat.le_trans hh hb.size) hndb (ht.below hb) (ho.below hb)
  unfold POf at C1
  rw [e9] at C1
  generalize plainV k n s f = v1 at *
  have H1 := Lib.hid C1
  have H2 := Lib.hid C2
  have HB0 := Lib.hid hb0
  have HQ0 := Lib.hid hq0
  have HQ1 := Lib.hid hq1
  have HS0 := Lib.hid e9
  clear C1 C2 hk hkb hf hnd hndb ht ho hb0 hq0 hq1 e9
  go_enter Tryd.func66, Tryd.ntmps66
  go_wp2_with fail
  refine H1.out.mono ?_
  rintro e w2 ⟨hb, hr⟩
  rw [← HS0.out] at hb
  have hq0 := HQ0.out.below hb HQ0.out.lt
  have hq1 := HQ1.out.below hb HQ1.out.lt
  have hbw := HB0.out.trans (hb.mono HB0.out.size)
  have hw2 : w.heap.size + 1 < w2.heap.size := by have := hb.size; rw [HS0.out] at this; exact this
  have hw1 : w.heap.size < w2.heap.size := by omega
  have a4 := hq0.cell 4
  have r0 := hq1.cell 0
  have r1 := hq1.cell 1
  have r2 := hq1.cell 2
  have f0 := hq1.frozen 0
  have f1 := hq1.frozen 1
  have f2 := hq1.frozen 2
  simp only [List.getElem?_toArray, List.getElem?_cons_zero, List.getElem?_cons_succ] at a4 r0 r1 r2
  have HBW := Lib.hid hbw
  have HR1 := Lib.hid hq1
  clear hb hq0 hq1 hbw
  rcases hr with ⟨hok, s', A', len', cap', rfl⟩ | ⟨hok, A2, cap2, rfl, hnds⟩
  · have HV : Hid (clauseV ⟨k, n, s, f, g⟩ = false) := Lib.hid (by rw [HE.out, hok]; rfl)
    clear hok
    go_wp2_with fail
    refine bodyPost_ret (v := .tuple #[.agg #[.string ⟨#[]⟩, .slice none 0 0, .slice none 0 0], .bool false]) ?_ rfl ⟨?_, .inl ⟨HV.out, rfl⟩⟩
    · exact results_cell_row3 Tryd.results66 _ _ (w.heap.size + 1) _ _ _ rfl ((set3 HR1.out _ _ _).alloc _) Tryd.underlying91 rfl (by kernel_rfl)
    · exact (((HBW.out.setCell (by simp) _).setCell (by simp) _).setCell (by simp) _).alloc (by simpa [World.setCell] using HBW.out.size) _
  · subst hok
    have hb2 : Below w.heap.size w (w2.alloc (.cells #[.string s, .slice A2 f.len cap2] 74)) := HBW.out.alloc HBW.out.size _
    have C2 := H2.out _ hb2
    have hp := Blk.new w2 74 #[.string s, .slice A2 f.len cap2]
    have hr := HR1.out.alloc (.cells #[.string s, .slice A2 f.len cap2] 74)
    have hnd2 : NdS (w2.alloc (.cells #[.string s, .slice A2 f.len cap2] 74)) (w.heap.size + 1 + 1) w2.heap.size f A2 cap2 := hnds.keep (fun p _ hp => World.cell?_of_block (Below.heap_alloc _ _ _ hp)) (Nat.le_refl _) (Nat.le_refl _)
    have H3 := Lib.hid C2
    have HB2 := Lib.hid hb2
    have HP := Lib.hid hp
    have HR := Lib.hid hr
    have HND2 := Lib.hid hnd2
    clear C2 hb2 hp hr hnd2 hnds r0 r1 r2 f0 f1 f2
    go_wp2_with fail
    refine H3.out.mono ?_
    rintro e w3 ⟨hb, hr⟩
    have hp3 := HP.out.below hb HP.out.lt
    have hr3 := HR.out.below hb HR.out.lt
    have hb3 := HB2.out.trans (hb.mono HB2.out.size)
    have hs3 := hb.size
    have e8 : (w2.alloc (.cells #[.string s, .slice A2 f.len cap2] 74)).heap.size = w2.heap.size + 1 := by simp
    rw [e8] at hs3
    have hnd3 : NdS w3 (w.heap.size + 1 + 1) w3.heap.size f A2 cap2 := HND2.out.keep (fun p _ hp => hb.cell (by rw [e8]; omega)) (Nat.le_refl _) (by omega)
    have p0 := hp3.cell 0
    have p1 := hp3.cell 1
    have r0 := hr3.cell 0
    have r1 := hr3.cell 1
    have r2 := hr3.cell 2
    have f0 := hr3.frozen 0
    have f1 := hr3.frozen 1
    have f2 := hr3.frozen 2
    simp only [List.getElem?_toArray, List.getElem?_cons_zero, List.getElem?_cons_succ] at p0 p1 r0 r1 r2
    have HB3 := Lib.hid hb3
    have HR3 := Lib.hid hr3
    have HND3 := Lib.hid hnd3
    clear hp3 hr3 hb3 hnd3 hb a4
    rcases hr with ⟨hok, rfl⟩ | ⟨hok, G, gcap, rfl, hgl⟩
    · have HV : Hid (clauseV ⟨k, n, s, f, g⟩ = false) := Lib.hid (by rw [HE.out, hok]; rfl)
      clear hok e8
      go_wp2_with fail
      refine bodyPost_ret (v := .tuple #[.agg #[.string ⟨#[]⟩, .slice none 0 0, .slice none 0 0], .bool false]) ?_ rfl ⟨?_, .inl ⟨HV.out, rfl⟩⟩
      · exact results_cell_row3 Tryd.results66 _ _ (w.heap.size + 1) _ _ _ rfl (set3 HR3.out _ _ _) Tryd.underlying91 rfl (by kernel_rfl)
      · exact ((HB3.out.setCell (by simp) _).setCell (by simp) _).setCell (by simp) _
    · have HV : Hid (clauseV ⟨k, n, s, f, g⟩ = true) := Lib.hid (by rw [HE.out, hok]; rfl)
      rw [e8] at hgl
      have hfin : ∀ a b d : Value, COf w ⟨k, n, s, f, g⟩ (.returned (.tuple #[.agg #[.string s, .slice A2 f.len cap2, .slice G g.len gcap], .bool true])) (((w3.setCell ⟨w.heap.size + 1, 0, none⟩ a).setCell ⟨w.heap.size + 1, 1, none⟩ b).setCell ⟨w.heap.size + 1, 2, none⟩ d) := fun a b d => by
        have far : ∀ p : Addr, w.heap.size + 1 + 1 ≤ p.block → (((w3.setCell ⟨w.heap.size + 1, 0, none⟩ a).setCell ⟨w.heap.size + 1, 1, none⟩ b).setCell ⟨w.heap.size + 1, 2, none⟩ d).cell? p = w3.cell? p := fun p hp => by
          refine World.cell?_of_block ?_
          rw [heap_setCell_other _ _ _ _ (by show p.block ≠ w.heap.size + 1; omega), heap_setCell_other _ _ _ _ (by show p.block ≠ w.heap.size + 1; omega), heap_setCell_other _ _ _ _ (by show p.block ≠ w.heap.size + 1; omega)]
        have hsz : (((w3.setCell ⟨w.heap.size + 1, 0, none⟩ a).setCell ⟨w.heap.size + 1, 1, none⟩ b).setCell ⟨w.heap.size + 1, 2, none⟩ d).heap.size = w3.heap.size := by simp [World.setCell]
        exact ⟨((HB3.out.setCell (by simp) _).setCell (by simp) _).setCell (by simp) _, .inr ⟨HV.out, A2, cap2, G, gcap, rfl, HND3.out.keep (fun p hl _ => far p hl) (by omega) (by rw [hsz]; exact Nat.le_refl _), hgl.keep (fun p hl _ => far p (by omega)) (by omega) (by rw [hsz]; exact Nat.le_refl _)⟩⟩
      have HF := Lib.hid hfin
      clear hfin hgl hok e8
      generalize f.len = fl at *
      generalize g.len = gl at *
      go_wp2_with fail
      refine bodyPost_ret (v := .tuple #[.agg #[.string s, .slice A2 fl cap2, .slice G gl gcap], .bool true]) ?_ rfl (HF.out _ _ _)
      exact results_cell_row3 Tryd.results66 _ _ (w.heap.size + 1) _ _ _ rfl (set3 HR3.out _ _ _) Tryd.underlying91 rfl (by kernel_rfl)

end Go.Proofs.YtlapdnllncoomaaDoor
