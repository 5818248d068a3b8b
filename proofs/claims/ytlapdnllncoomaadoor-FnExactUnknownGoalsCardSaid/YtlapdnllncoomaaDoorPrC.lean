/- impl.programOf: what the row of its clauses holds, beside the index. Condition: none of its own. -/
import Derived.Test.YtlapdnllncoomaaDoorProg
import Derived.Test.YtlapdnllncoomaaDoorPrO
namespace Go.Proofs.YtlapdnllncoomaaDoor
open Go.RowKit Go.WideMaps Go.Maps Go.ChangeShapes

/-- Clause i of the row in block R; what it leads to lies in blocks of which No holds. -/
def CtAt (w : World) (No : Nat → Prop) (R i : Nat) (c : Cl) : Prop :=
  ∃ (A : Option Addr) (cap : Nat) (G : Option Addr) (gcap lo hi : Nat), w.cell? ⟨R, i * 3, none⟩ = some (.string c.s) ∧ w.cell? ⟨R, i * 3 + 1, none⟩ = some (.slice A c.kids.len cap) ∧ w.cell? ⟨R, i * 3 + 2, none⟩ = some (.slice G c.body.len gcap) ∧
    (∀ b, lo ≤ b → b < hi → No b) ∧ NdS w lo hi c.kids A cap ∧ GlS w lo hi c.body G gcap
def Cts (w : World) (No : Nat → Prop) (R : Nat) : List Cl → Nat → Prop
  | [], _ => True
  | c :: cs, i => CtAt w No R i c ∧ Cts w No R cs (i + 1)
theorem CtAt.keep {w w' : World} {No No' : Nat → Prop} {R i : Nat} {c : Cl} (h : CtAt w No R i c) (hk : ∀ p : Addr, No p.block → w'.cell? p = w.cell? p) (hN : ∀ b, No b → No' b)
    (hR : ∀ j, i * 3 ≤ j → j < i * 3 + 3 → w'.cell? ⟨R, j, none⟩ = w.cell? ⟨R, j, none⟩) : CtAt w' No' R i c := by
  obtain ⟨A, cap, G, gcap, lo, hi, h0, h1, h2, h3, h4, h5⟩ := h
  exact ⟨A, cap, G, gcap, lo, hi, (hR _ (by omega) (by omega)).trans h0, (hR _ (by omega) (by omega)).trans h1, (hR _ (by omega) (by omega)).trans h2, fun b h h' => hN b (h3 b h h'),
    h4.keep (fun p hl hh => hk p (h3 _ hl hh)) (Nat.le_refl _) (Nat.le_refl _), h5.keep (fun p hl hh => hk p (h3 _ hl hh)) (Nat.le_refl _) (Nat.le_refl _)⟩
theorem Cts.keep {w w' : World} {No No' : Nat → Prop} {R : Nat} (hk : ∀ p : Addr, No p.block → w'.cell? p = w.cell? p) (hN : ∀ b, No b → No' b) : ∀ (cs : List Cl) (i : Nat), (∀ j, j < (i + cs.length) * 3 → w'.cell? ⟨R, j, none⟩ = w.cell? ⟨R, j, none⟩) → Cts w No R cs i → Cts w' No' R cs i
  | [], _, _, _ => trivial
  | c :: cs, i, hR, h => ⟨h.1.keep hk hN fun j _ hj => hR j (by simp only [List.length_cons]; omega), Cts.keep hk hN cs (i + 1) (fun j hj => hR j (by simp only [List.length_cons]; omega)) h.2⟩
theorem Cts.snoc {w : World} {No : Nat → Prop} {R n : Nat} {c : Cl} (hc : CtAt w No R n c) : ∀ (cs : List Cl) (i : Nat), i + cs.length = n → Cts w No R cs i → Cts w No R (cs ++ [c]) i
  | [], i, h, _ => by
    obtain rfl : i = n := by simpa using h
    exact ⟨hc, trivial⟩
  | c' :: cs, i, h, hcs => ⟨hcs.1, Cts.snoc hc cs (i + 1) (by simp only [List.length_cons] at h; omega) hcs.2⟩
theorem Cts.get {w : World} {No : Nat → Prop} {R : Nat} {c : Cl} {rest : List Cl} : ∀ (cs : List Cl) (i j : Nat), cs.drop j = c :: rest → Cts w No R cs i → CtAt w No R (i + j) c
  | [], _, _, h, _ => by simp at h
  | c' :: cs, i, 0, h, hcs => by
    simp at h
    obtain ⟨rfl, _⟩ := h
    exact hcs.1
  | c' :: cs, i, j + 1, h, hcs => by
    have := Cts.get cs (i + 1) j (by simpa using h) hcs.2
    rwa [show i + 1 + j = i + (j + 1) by omega] at this

section
variable {P : Program} {k e : TypeId} {base b n : Nat} {q : IntKind} {D : DataW Unit} {w w4 w5 : World} {key v v' : Value} {kl : Lit}
/-- What the look-up hands over avoids what the groups avoid. -/
theorem at_shuns {t E : TypeId} (h : w.ownsGroups P k base e q b n D) (K : Keyed P k) (ht : P.underlying t = some (.map k E)) (hz : (zeroValue E).run P w = .ok (.slice none 0 0) w) (hkey : keyOf P k key = some kl)
    (hrun : (Instr.lookup t (.map (some b)) key false).run P w = .ok v w) {No : Nat → Prop} (hs : w.Shuns b No) : ∀ g, v.ownBlock = some g → ¬ No g := by
  obtain ⟨es, clock, hb, F, _⟩ := h
  intro g hg
  rcases Maps.fit_look false K ht hz hb F hkey with ⟨r, _⟩ | ⟨x, y, hx, _, r, _⟩
  · have e1 : v = .slice none 0 0 := by
      have := hrun.symm.trans r
      simpa using this
    subst e1
    cases hg
  · have e1 : v = x.val := by
      have := hrun.symm.trans r
      simpa using this
    subst e1
    exact hs es clock hb x hx g hg
/-- Behind the store they avoid it still. -/
theorem back_shuns {t E : TypeId} {zs : List Int} (h : w.ownsGroups P k base e q b n D) (K : Keyed P k) (ht : P.underlying t = some (.map k E)) (hn : n < maxLen) (hkey : keyOf P k key = some kl) (hu : w.ownsInts base e q v zs)
    (hg : w.grownBy w4 v.ownBlock) (hrun : (Instr.mapUpdate t (.map (some b)) key v').run P w4 = .ok () w5) {No : Nat → Prop} (hs : w.Shuns b No) (hno : ∀ g, v'.ownBlock = some g → ¬ No g) : w5.Shuns b No := by
  obtain ⟨es, clock, hb, F, hsz, _, hbb, _⟩ := h
  have hlt : b < w.heap.size := (Array.getElem?_eq_some_iff.1 hb).1
  have hne : some b ≠ v.ownBlock := fun e1 => Nat.lt_irrefl _ (Nat.lt_of_lt_of_le hbb (hu.1.lt b e1.symm).1)
  obtain ⟨es2, clock2, hb2, who⟩ := stored_who K ht ((hg.block b hlt hne).trans hb) F (Nat.lt_of_le_of_lt hsz hn) hkey hrun
  intro es3 clock3 hb3 y hy g hyg
  have e3 : es3 = es2 := by
    have := hb3.symm.trans hb2
    simp at this
    exact this.1
  subst e3
  rcases who y hy with h1 | h1
  · exact hs es clock hb y h1.1 g hyg
  · exact hno g (h1.2 ▸ hyg)
end

/-- j clauses stand in the row. -/
def PgC (w : World) (cs : List Cl) (M j : Nat) (wr : World) : Prop :=
  ∃ No : Nat → Prop, wr.Shuns M No ∧ (∀ g, No g → M + 1 < g ∧ g < wr.heap.size) ∧ Cts wr No (w.heap.size + 1) (cs.take j) 0
def PgX (w : World) (cs : List Cl) (M j i : Nat) (wr : World) : Prop := PgP w cs M j wr ∧ PgC w cs M i wr
theorem PgX.next {w wr x : World} {cs : List Cl} {M j i : Nat} (h : PgX w cs M j i wr) (hb : Below wr.heap.size wr x) : PgX w cs M j i x := by
  obtain ⟨hp, No, h1, h2, h3⟩ := h
  have hM := hp.2.2.1
  have hR := hp.2.1
  exact ⟨hp.next hb, No, h1.kept (grown_of_below hb) (by omega) (by simp), fun g hg => ⟨(h2 g hg).1, Nat.lt_of_lt_of_le (h2 g hg).2 hb.size⟩,
    Cts.keep (fun p hp => hb.cell (h2 _ hp).2) (fun _ h => h) _ 0 (fun j _ => hb.cell (p := ⟨w.heap.size + 1, j, none⟩) (show w.heap.size + 1 < wr.heap.size by omega)) h3⟩
theorem grown3 (w2 : World) (R i0 i1 i2 : Nat) (a b c : Value) : w2.grownBy (((w2.setCell ⟨R, i0, none⟩ a).setCell ⟨R, i1, none⟩ b).setCell ⟨R, i2, none⟩ c) (some R) :=
  grownBy_set (grownBy_set (grownBy_set (show w2.grownBy w2 (some R) from ⟨rfl, rfl, rfl, Nat.le_refl _, fun _ _ _ => rfl⟩) (.inr rfl) _) (.inr rfl) _) (.inr rfl) _
set_option maxHeartbeats 1000000 in
/-- The store of clause j into the row. -/
theorem PgX.store {w wr w2 : World} {cs : List Cl} {M j : Nat} {c : Cl} {rest : List Cl} {A G : Option Addr} {cap gcap lo : Nat} (h : PgX w cs M j j wr) (hd : cs.drop j = c :: rest) (hj : j < cs.length) (hb : Below wr.heap.size wr w2) (hlo : wr.heap.size ≤ lo)
    (hn : NdS w2 lo w2.heap.size c.kids A cap) (hg : GlS w2 lo w2.heap.size c.body G gcap) :
    PgX w cs M j (j + 1) (((w2.setCell ⟨w.heap.size + 1, j * 3, none⟩ (.string c.s)).setCell ⟨w.heap.size + 1, j * 3 + 1, none⟩ (.slice A c.kids.len cap)).setCell ⟨w.heap.size + 1, j * 3 + 2, none⟩ (.slice G c.body.len gcap)) := by
  obtain ⟨hp, No, h1, h2, h3⟩ := h
  have hp2 := hp.next hb
  have hM := hp.2.2.1
  have hR := hp.2.1
  refine ⟨hp2.store _ _ _ _ _ _, ?_⟩
  obtain ⟨_, _, _, _, ⟨cur, h5, h6⟩, _⟩ := hp2
  obtain ⟨_, _, _, _, _, _, D, hD, _⟩ := hp
  have hgr := grown3 w2 (w.heap.size + 1) (j * 3) (j * 3 + 1) (j * 3 + 2) (.string c.s) (.slice A c.kids.len cap) (.slice G c.body.len gcap)
  have q := ((h5.set_ (j * 3) (.string c.s)).set_ (j * 3 + 1) (.slice A c.kids.len cap)).set_ (j * 3 + 2) (.slice G c.body.len gcap)
  have hsz := hb.size
  have hs3 := hgr.size
  have far : ∀ p : Addr, p.block ≠ w.heap.size + 1 → p.block < w2.heap.size → (((w2.setCell ⟨w.heap.size + 1, j * 3, none⟩ (.string c.s)).setCell ⟨w.heap.size + 1, j * 3 + 1, none⟩ (.slice A c.kids.len cap)).setCell ⟨w.heap.size + 1, j * 3 + 2, none⟩ (.slice G c.body.len gcap)).cell? p = w2.cell? p := fun p hne hlt =>
    World.cell?_of_block (hgr.block p.block hlt (by simpa using hne))
  have hlen : (cs.take j).length = j := by simp; omega
  generalize (((w2.setCell ⟨w.heap.size + 1, j * 3, none⟩ (.string c.s)).setCell ⟨w.heap.size + 1, j * 3 + 1, none⟩ (.slice A c.kids.len cap)).setCell ⟨w.heap.size + 1, j * 3 + 2, none⟩ (.slice G c.body.len gcap)) = w3 at *
  refine ⟨fun g => No g ∨ (wr.heap.size ≤ g ∧ g < w2.heap.size), ?_, ?_, ?_⟩
  · exact ((h1.reno hD fun g hg => hg.imp_right (·.1)).kept (grown_of_below hb) (by omega) (by simp)).kept hgr (by omega) (by simp; omega)
  · rintro g (hg | hg)
    · have := h2 g hg
      exact ⟨this.1, by omega⟩
    · exact ⟨by omega, by omega⟩
  · rw [take_cl cs j hd]
    refine Cts.snoc (n := j) ?_ _ _ (by rw [hlen]; omega) (Cts.keep (w := wr) (No := No) (fun p hp => ?_) (fun _ h => .inl h) _ 0 (fun i hi => ?_) h3)
    · refine ⟨A, cap, G, gcap, lo, w2.heap.size, ?_, ?_, ?_, fun b h h' => .inr ⟨by omega, h'⟩, hn.keep (fun p hl hh => far p (by omega) hh) (Nat.le_refl _) (Nat.le_refl _), hg.keep (fun p hl hh => far p (by omega) hh) (Nat.le_refl _) (Nat.le_refl _)⟩
      · rw [q.cell]
        simp [Array.getElem?_setIfInBounds]
        omega
      · rw [q.cell]
        simp [Array.getElem?_setIfInBounds]
        omega
      · rw [q.cell]
        simp [Array.getElem?_setIfInBounds]
        omega
    · have := h2 _ hp
      rw [far p (by omega) (by omega), hb.cell this.2]
    · rw [hlen] at hi
      rw [q.cell]
      simp only [Array.getElem?_setIfInBounds]
      rw [if_neg (by omega), if_neg (by omega), if_neg (by omega), ← h5.cell]
      exact hb.cell (p := ⟨w.heap.size + 1, i, none⟩) (show w.heap.size + 1 < wr.heap.size by omega)
/-- The index has clause j, too. -/
theorem PgC.back {w x w4 w5 : World} {cs : List Cl} {M i : Nat} {v v' : Value} (h : PgC w cs M i x) (hR : w.heap.size + 1 < M) (hM : M < x.heap.size) (hv : ∀ g, v.ownBlock = some g → M + 1 ≤ g) (hsv : ∀ No : Nat → Prop, x.Shuns M No → ∀ g, v.ownBlock = some g → ¬ No g)
    (hg4 : x.grownBy w4 v.ownBlock) (hg5 : w4.grownBy w5 (some M)) (hloc : v'.ownBlock = v.ownBlock ∨ ∃ g, v'.ownBlock = some g ∧ x.heap.size ≤ g)
    (hs5 : ∀ No : Nat → Prop, x.Shuns M No → (∀ g, v'.ownBlock = some g → ¬ No g) → w5.Shuns M No) : PgC w cs M i w5 := by
  obtain ⟨No, h1, h2, h3⟩ := h
  have hsz : x.heap.size ≤ w5.heap.size := Nat.le_trans hg4.size hg5.size
  have blk : ∀ b, b < x.heap.size → v.ownBlock ≠ some b → b ≠ M → w5.heap[b]? = x.heap[b]? := fun b hb hn hm =>
    (hg5.block b (Nat.lt_of_lt_of_le hb hg4.size) (by simpa using hm)).trans (hg4.block b hb fun e => hn e.symm)
  refine ⟨No, hs5 No h1 fun g hg hN => ?_, fun g hg => ⟨(h2 g hg).1, by have := (h2 g hg).2; omega⟩, Cts.keep (fun p hp => ?_) (fun _ h => h) _ 0 (fun j _ => ?_) h3⟩
  · rcases hloc with e | ⟨g', e, hg'⟩
    · exact hsv No h1 g (e ▸ hg) hN
    · rw [e] at hg
      cases hg
      have := (h2 g hN).2
      omega
  · have := h2 _ hp
    exact World.cell?_of_block (blk p.block this.2 (fun e => hsv No h1 _ e hp) (by omega))
  · refine World.cell?_of_block (a := ⟨w.heap.size + 1, j, none⟩) (blk (w.heap.size + 1) (by omega) (fun e => ?_) (by omega))
    have := hv _ e
    omega
theorem PgX.step {w wr x w4 : World} {cs : List Cl} {M j : Nat} {c : Cl} {rest : List Cl} {D : DataW Unit} {v v' : Value} {zs : List Int} (h : PgX w cs M j (j + 1) wr) (hd : cs.drop j = c :: rest) (hj : j < cs.length) (hx : Below wr.heap.size wr x)
    (hD : wr.ownsGroups Tryd.prog 88 (M + 1) 3 .i64 M j D) (hjl : j < maxLen) (hM : IsMap D) (hH : ∀ l, HoldsD D l (idxF (cs.take j) 0 l)) (hkey : keyOf Tryd.prog 88 (.agg #[.string c.s, .int .i64 (c.kids.len : Int)]) = some (pk c.s c.kids.len))
    (hrun : (Instr.lookup 71 (.map (some M)) (.agg #[.string c.s, .int .i64 (c.kids.len : Int)]) false).run Tryd.prog x = .ok v x)
    (hat : D.atKey (pk c.s c.kids.len) .nil = rowDatum .i64 v zs) (hoi : x.ownsInts (M + 1) 3 .i64 v zs) (hd1 : IxDone x M j D (.agg #[.string c.s, .int .i64 (c.kids.len : Int)]) (pk c.s c.kids.len) v zs j v' w4) :
    ∃ w5, (Instr.mapUpdate 71 (.map (some M)) (.agg #[.string c.s, .int .i64 (c.kids.len : Int)]) v').run Tryd.prog w4 = .ok () w5 ∧ w4.grownBy w5 (some M) ∧ PgX w cs M (j + 1) (j + 1) w5 := by
  obtain ⟨hg4, w5, hrun5, hg5, ho5, hoi4, hloc⟩ := hd1
  have hn := h.next hx
  refine ⟨w5, hrun5, hg5, h.1.step hd hj hx hM hH hat hoi hg4 hg5 ho5 hoi4, hn.2.back hn.1.2.1 (by have := hn.1.2.2.1; omega) (fun g hg => (hoi.1.lt g hg).1) (fun No hs => at_shuns (groups_below hD hx) lawK Tryd.underlying71 (zeroIx _) hkey hrun hs) hg4 hg5 hloc fun No hs hno => back_shuns (groups_below hD hx) lawK Tryd.underlying71 hjl hkey hoi hg4 hrun5 hs hno⟩
/-- What stands in the row in the end. -/
theorem PgC.done {w wr : World} {cs : List Cl} {M : Nat} (h : PgC w cs M cs.length wr) (hR : w.heap.size + 1 < M) : Cts wr (fun g => w.heap.size + 1 < g ∧ g < wr.heap.size) (w.heap.size + 1) cs 0 := by
  obtain ⟨No, _, h2, h3⟩ := h
  rw [List.take_length] at h3
  exact Cts.keep (fun _ _ => rfl) (fun b hb => by have := h2 b hb; exact ⟨by omega, this.2⟩) cs 0 (fun _ _ => rfl) h3
end Go.Proofs.YtlapdnllncoomaaDoor
