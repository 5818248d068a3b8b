/- The index of keys while it is made: states and their steps. No condition. -/
import Derived.Test.YtlapdnllncoomaaDoorProg
import Derived.Test.YtlapdnllncoomaaDoorZmDE39
import Derived.Test.YtlapdnllncoomaaDoorZmDE45
namespace Go.Proofs.YtlapdnllncoomaaDoor
open Go.RowKit Go.WideMaps Go.Maps Go.ChangeShapes

theorem groups_shun {w : World} {base b n : Nat} {D : DataW Unit} (h : w.ownsGroups Tryd.prog 88 base 3 .i64 b n D) : w.Shuns b (fun g => w.heap.size ≤ g) :=
  World.Shuns.reno (No := fun _ => False) (fun _ _ _ _ _ _ _ h => h) h (fun _ hg => .inr hg)
theorem groups3_below {w x : World} {base b n : Nat} {D : DataW Unit} (h : w.ownsGroups Tryd.prog 109 base 3 .i64 b n D) (hb : Below w.heap.size w x) : x.ownsGroups Tryd.prog 109 base 3 .i64 b n D :=
  h.kept (grown_of_below hb) (by simp) fun es clock _ y _ => by cases y.val.ownBlock <;> simp
set_option maxRecDepth 100000 in
set_option maxHeartbeats 4000000 in
/-- program.clausesFor, and where the row lies. -/
theorem cfor2_any (cs : List Cl) (R : Option Addr) (M lo B : Nat) (s : ByteArray) (A : Option Addr) (len cap : Nat) (w : World) (h : PgAt w cs R M lo) (hsh : w.Shuns M (fun g => B ≤ g)) (hwf : ∀ c ∈ cs, WfC c) (hcl : cs.length ≤ 1048576) (hs : s.size ≤ maxLen) (hl : len ≤ maxLen) :
    Calls Tryd.prog 51 #[.agg #[.slice R cs.length cs.length, .map (some M)], .agg #[.string s, .slice A len cap]] w fun e w' => ∃ v, e = .returned v ∧ (w'.ownsInts (M + 1) 3 .i64 v (forF cs 0 s len) ∧ ∀ g, v.ownBlock = some g → g < B) ∧ Below w.heap.size w w' := by
  obtain ⟨hlo, hM, D, hD, hH, r, rfl, hr1, hr2, hct⟩ := h
  have hix : idxF cs 0 (pk s len) = forF cs 0 s len := forF_idx s len hs hl cs 0 hwf
  have hkey := pk_key s len hs hl
  have HSH := Lib.hid hsh
  have HMW := Lib.hid hM
  clear hct hwf hr1 hr2 hlo hsh
  generalize hn : cs.length = cl at *
  clear hn
  have hb2 : Below w.heap.size w ((w.alloc (.cells #[.slice (some ⟨r, 0, none⟩) cl cl, .map (some M)] 73)).alloc (.cells #[.string s, .slice A len cap] 74)) := two_alloc w _ _
  have hq1 : Blk ((w.alloc (.cells #[.slice (some ⟨r, 0, none⟩) cl cl, .map (some M)] 73)).alloc (.cells #[.string s, .slice A len cap] 74)) w.heap.size 73 #[.slice (some ⟨r, 0, none⟩) cl cl, .map (some M)] := (Blk.new w _ _).alloc _
  have hq2 : Blk ((w.alloc (.cells #[.slice (some ⟨r, 0, none⟩) cl cl, .map (some M)] 73)).alloc (.cells #[.string s, .slice A len cap] 74)) (w.heap.size + 1) 74 #[.string s, .slice A len cap] := by
    have h := Blk.new (w.alloc (.cells #[.slice (some ⟨r, 0, none⟩) cl cl, .map (some M)] 73)) 74 #[.string s, .slice A len cap]
    simpa using h
  have HD := Lib.hid hD
  have HH := Lib.hid hH
  have HIX := Lib.hid hix
  have HKK := Lib.hid hkey
  have HCL := Lib.hid hcl
  have HB2 := Lib.hid hb2
  have HQ1 := Lib.hid hq1
  have HQ2 := Lib.hid hq2
  clear hD hH hix hkey hcl hb2 hq1 hq2 hM hs hl
  go_enter Tryd.func51, Tryd.ntmps51
  go_wp2_with fail
  generalize ((w.alloc (.cells #[.slice (some ⟨r, 0, none⟩) cl cl, .map (some M)] 73)).alloc (.cells #[.string s, .slice A len cap] 74)) = W0 at *
  have hgr := fun x (hb : Below W0.heap.size W0 x) => groups_below HD.out (HB2.out.trans (hb.mono HB2.out.size))
  have hs0 : W0.cell? ⟨w.heap.size, 1, none⟩ = some (.map (some M)) ∧ W0.cell? ⟨w.heap.size + 1, 0, none⟩ = some (.string s) ∧ W0.cell? ⟨w.heap.size + 1, 1, none⟩ = some (.slice A len cap) := ⟨HQ1.out.cell 1, HQ2.out.cell 0, HQ2.out.cell 1⟩
  have hsc : ∀ x, Below W0.heap.size W0 x → x.cell? ⟨w.heap.size, 1, none⟩ = some (.map (some M)) ∧ x.cell? ⟨w.heap.size + 1, 0, none⟩ = some (.string s) ∧ x.cell? ⟨w.heap.size + 1, 1, none⟩ = some (.slice A len cap) := fun x hb =>
    ⟨(HQ1.out.below hb HQ1.out.lt).cell 1, (HQ2.out.below hb HQ2.out.lt).cell 0, (HQ2.out.below hb HQ2.out.lt).cell 1⟩
  have hfin : ∀ x v zs, Below W0.heap.size W0 x → (Instr.lookup 71 (.map (some M)) (.agg #[.string s, .int .i64 (len : Int)]) false).run Tryd.prog x = .ok v x → D.atKey (pk s len) .nil = rowDatum .i64 v zs → x.ownsInts (M + 1) 3 .i64 v zs → (x.ownsInts (M + 1) 3 .i64 v (forF cs 0 s len) ∧ ∀ g, v.ownBlock = some g → g < B) ∧ Below w.heap.size w x := fun x v zs hb hrun hat hoi => by
    have hz := (HH.out (pk s len)).eq hat hoi
    have hbx := HB2.out.trans (hb.mono HB2.out.size)
    have hs := at_shuns (groups_below HD.out hbx) lawK Tryd.underlying71 (zeroIx _) HKK.out hrun (HSH.out.kept (grown_of_below hbx) HMW.out (by simp))
    rw [← HIX.out, ← hz]
    exact ⟨⟨hoi, fun g hg => Nat.lt_of_not_le (hs g hg)⟩, hbx⟩
  have HGR := Lib.hid hgr
  have HSC := Lib.hid hsc
  have HFIN := Lib.hid hfin
  clear hgr hsc hfin
  obtain ⟨y0, y1, y2⟩ := id hs0
  go_region_held3 (fun x => x.cell? ⟨w.heap.size, 1, none⟩ = some (.map (some M)) ∧ x.cell? ⟨w.heap.size + 1, 0, none⟩ = some (.string s) ∧ x.cell? ⟨w.heap.size + 1, 1, none⟩ = some (.slice A len cap))
    (first | exact hs0 | exact HSC.out _ (by repeat (first | exact HX1.out | exact Below.refl _ _ | apply Below.drew | apply bl_alloc)))
    (first
      | (go_at_call 67
         refine (pred_any s A len cap _).mono ?_
         rintro e w6 ⟨rfl, hb6⟩
         have hx1 : Below W0.heap.size W0 w6 := bl_step (by repeat (first | exact Below.refl _ _ | apply Below.drew | apply bl_alloc)) hb6
         obtain ⟨v, zs, hrun, hat, hoi, hzl, hbk⟩ := (HGR.out w6 hx1).at lawK Tryd.underlying71 (zeroIx _) (by unfold maxLen; have := HCL.out; omega) HKK.out
         have HDONE := Lib.hid (HFIN.out w6 v zs hx1 hrun hat hoi)
         have HX1 := Lib.hid hx1
         clear hx1 hb6 hat hoi hzl hbk))
  go_wp2_with fail
  go_ret
  exact ⟨v, rfl, HDONE.out⟩

theorem ba_beq (s t : ByteArray) : (s == t) = (s.data == t.data) := by cases s; cases t; rfl
theorem ba_self (s : ByteArray) : (s == s) = true := by rw [ba_beq]; simp
theorem ba_mk (s t : List UInt8) : ((⟨s.toArray⟩ : ByteArray) == ⟨t.toArray⟩) = (s == t) := by rw [ba_beq]; simp
/-- Two structs of this type that differ in the last string alone. -/
theorem eq_str (d : Nat) (a b : ByteArray) (w : World) : (Op.equalIn (d + 1) 9 (.string a) (.string b)).run Tryd.prog w = .ok (a == b) w := by
  simp [Op.equalIn, run_underlying Tryd.underlying9]
theorem eq_intS (d : Nat) (a : Int) (w : World) : (Op.equalIn (d + 1) 3 (.int .i64 a) (.int .i64 a)).run Tryd.prog w = .ok true w := by
  simp [Op.equalIn, run_underlying Tryd.underlying3]
theorem part_p0 (s : ByteArray) (a : Int) (w : World) : (part 9 #[.string s, .int .i64 a] 0).run Tryd.prog w = .ok (.string s) w := by kernel_rfl
theorem part_p1 (s : ByteArray) (a : Int) (w : World) : (part 3 #[.string s, .int .i64 a] 1).run Tryd.prog w = .ok (.int .i64 a) w := by kernel_rfl
theorem part_k0 (s : ByteArray) (a : Int) (t : ByteArray) (w : World) : (part 88 #[.string s, .int .i64 a, .string t] 0).run Tryd.prog w = .ok (.agg #[.string s, .int .i64 a]) w := by kernel_rfl
theorem part_k1 (s : ByteArray) (a : Int) (t : ByteArray) (w : World) : (part 9 #[.string s, .int .i64 a, .string t] 2).run Tryd.prog w = .ok (.string t) w := by kernel_rfl
theorem eq_pred (d : Nat) (s : ByteArray) (a : Int) (w : World) : (Op.equalIn (d + 1 + 1) 88 (.agg #[.string s, .int .i64 a]) (.agg #[.string s, .int .i64 a])).run Tryd.prog w = .ok true w := by
  have hs : Tryd.prog.stoodInHeld 88 = false := by kernel_rfl
  rw [Op.equalIn]
  simp [run_underlying Tryd.underlying88, hs, part_p0, part_p1, eq_str, eq_intS, ba_self]
theorem eq_kp3 (s t t' : ByteArray) (a : Int) (w : World) : (Op.equal 109 (.agg #[.string s, .int .i64 a, .string t]) (.agg #[.string s, .int .i64 a, .string t'])).run Tryd.prog w = .ok (t == t') w := by
  have hs : Tryd.prog.stoodInHeld 109 = false := by kernel_rfl
  have e : ∀ x y, Op.equal 109 x y = Op.equalIn (9997 + 1 + 1 + 1) 109 x y := fun _ _ => rfl
  rw [e]
  generalize 9997 = d at *
  rw [Op.equalIn]
  cases h : (t == t') <;> simp [run_underlying Tryd.underlying109, hs, part_k0, part_k1, eq_pred, eq_str, h]
@[go_sem] theorem kp3_eq (s t t' : ByteArray) (a : Int) (w : World) : (binOp .eql 109 (.agg #[.string s, .int .i64 a, .string t]) (.agg #[.string s, .int .i64 a, .string t'])).run Tryd.prog w = .ok (.bool (t == t')) w := by
  simp only [binOp]
  simp [eq_kp3]

/-- One place is being filled: ys stand there. -/
def NyP (W0 : World) (M MF pb : Nat) (D : DataW Unit) (s : ByteArray) (len : Nat) (key : List UInt8) (v : Value) (zs ys : List Int) (nm : Nat) (wx : World) : Prop :=
  Below W0.heap.size W0 wx ∧ MF < pb ∧ Blk wx pb 109 #[.string s, .int .i64 (len : Int), .string ⟨key.toArray⟩] ∧ wx.ownsInts (M + 1) 3 .i64 v zs ∧
    ∃ (n : Nat) (D' : DataW Unit), n ≤ nm ∧ wx.ownsGroups Tryd.prog 109 (MF + 1) 3 .i64 MF n D' ∧ IsMap D' ∧ KyD D D' (kk s len key) ys
theorem NyP.below {W0 wx x : World} {M MF pb : Nat} {D : DataW Unit} {s : ByteArray} {len : Nat} {key : List UInt8} {v : Value} {zs ys : List Int} {nm : Nat} (h : NyP W0 M MF pb D s len key v zs ys nm wx) (hb : Below wx.heap.size wx x) : NyP W0 M MF pb D s len key v zs ys nm x := by
  obtain ⟨h1, h2, h3, h4, n, D', h5, h6, h7, h8⟩ := h
  exact ⟨h1.trans (hb.mono h1.size), h2, h3.below hb h3.lt, h4.kept (grown_of_below hb) (by cases v.ownBlock <;> simp), n, D', h5, groups3_below h6 hb, h7, h8⟩
set_option maxHeartbeats 1000000 in
theorem ny_step {W0 x wE w6 w9 : World} {M MF pb : Nat} {D D' : DataW Unit} {s : ByteArray} {len : Nat} {key : List UInt8} {v u v' : Value} {zs ys us : List Int} {n nm : Nat} {z : Int}
    (h1 : Below W0.heap.size W0 x) (hMF : W0.heap.size = MF) (hvb : ∀ g, v.ownBlock = some g → g < W0.heap.size) (h2 : MF < pb) (h3 : Blk x pb 109 #[.string s, .int .i64 (len : Int), .string ⟨key.toArray⟩]) (h4 : x.ownsInts (M + 1) 3 .i64 v zs)
    (h5 : n ≤ nm) (h7 : IsMap D') (h8 : KyD D D' (kk s len key) ys)
    (hE : x.grownBy wE (some MF)) (hat : D'.atKey (kk s len key) .nil = rowDatum .i64 u us) (hoE : wE.ownsInts (MF + 1) 3 .i64 u us) (hg : wE.grownBy w6 u.ownBlock) (ho6 : w6.ownsInts (MF + 1) 3 .i64 v' (us ++ [z])) (hg9 : w6.grownBy w9 (some MF))
    (ho9 : w9.ownsGroups Tryd.prog 109 (MF + 1) 3 .i64 MF (n + 1) (D'.put (kk s len key) (rowDatum .i64 v' (us ++ [z])))) : NyP W0 M MF pb D s len key v zs (ys ++ [z]) (nm + 1) w9 := by
  have hus : us = ys := h8.2.1.eq hat hoE
  subst hus
  have hub : ∀ g, u.ownBlock = some g → MF + 1 ≤ g ∧ ∃ c, Blk wE g 3 c := fun g hg => by
    refine ⟨(hoE.1.lt g hg).1, ?_⟩
    rcases hoE.1.2 with ⟨rfl, _⟩ | ⟨g', cap, cur, rfl, _, hh, _⟩
    · simp [Value.ownBlock] at hg
    · simp [Value.ownBlock] at hg
      subst hg
      exact ⟨cur, hh⟩
  have keep : ∀ g t c, Blk x g t c → t ≠ 3 → g ≠ MF → Blk w9 g t c := fun g t c hb ht hgm => by
    have hbE : Blk wE g t c := hb.keep (hE.block g hb.lt (by simpa using hgm))
    refine (hbE.keep (hg.block g hbE.lt fun e => ?_)).keep (hg9.block g (Nat.lt_of_lt_of_le hbE.lt hg.size) (by simpa using hgm))
    obtain ⟨_, c', hc'⟩ := hub g e.symm
    have h2 := hbE.symm.trans hc'
    simp at h2
    exact ht h2.2
  have hbel : Below W0.heap.size W0 w9 :=
    ((h1.grown hE h1.size (fun k hk => by cases hk; omega)).grown hg (Nat.le_trans h1.size hE.size) (fun k hk => by have := (hub k hk).1; omega)).grown hg9 (Nat.le_trans h1.size (Nat.le_trans hE.size hg.size)) (fun k hk => by cases hk; omega)
  have hv : w9.ownsInts (M + 1) 3 .i64 v zs := by
    have hne : ∀ row : Option Nat, (∀ g, row = some g → W0.heap.size ≤ g) → v.ownBlock = none ∨ v.ownBlock ≠ row := fun row hr => by
      cases h0 : v.ownBlock with
      | none => exact .inl rfl
      | some g => exact .inr fun e1 => by have := hvb g h0; have := hr g e1.symm; omega
    exact ((h4.kept hE (hne _ fun g hg => by cases hg; omega)).kept hg (hne _ fun g hg => by have := (hub g hg).1; omega)).kept hg9 (hne _ fun g hg => by cases hg; omega)
  exact ⟨hbel, h2, keep _ _ _ h3 (by decide) (by omega), hv, n + 1, _, by omega, ho9, h7.put _ _, h8.step h7 ho6⟩
end Go.Proofs.YtlapdnllncoomaaDoor
