/- A program in memory: program.clausesFor; impl.programWith. Condition: the clauses and the goal lie in memory, both tables in their variables. -/
import Derived.Test.YtlapdnllncoomaaDoorProg
import Derived.Test.YtlapdnllncoomaaDoorPrW
import Derived.Test.YtlapdnllncoomaaDoorCfS
namespace Go.Proofs.YtlapdnllncoomaaDoor
open Go.RowKit Go.WideMaps Go.Maps Go.ChangeShapes

/-- A program in memory: its row of clauses in block r, its index in block M. -/
def PgAt (w : World) (cs : List Cl) (R : Option Addr) (M lo : Nat) : Prop :=
  lo ≤ M ∧ M < w.heap.size ∧ ∃ D : DataW Unit, w.ownsGroups Tryd.prog 88 (M + 1) 3 .i64 M cs.length D ∧ (∀ l, HoldsD D l (idxF cs 0 l)) ∧ ∃ r, R = some ⟨r, 0, none⟩ ∧ lo ≤ r ∧ r < w.heap.size ∧ Cts w (fun g => lo ≤ g ∧ g < w.heap.size) r cs 0
theorem PgAt.below {w x : World} {cs : List Cl} {R : Option Addr} {M lo : Nat} (h : PgAt w cs R M lo) (hb : Below w.heap.size w x) : PgAt x cs R M lo := by
  obtain ⟨h1, h2, D, hD, hH, r, rfl, hr1, hr2, hct⟩ := h
  exact ⟨h1, Nat.lt_of_lt_of_le h2 hb.size, D, groups_below hD hb, hH, r, rfl, hr1, Nat.lt_of_lt_of_le hr2 hb.size,
    Cts.keep (fun p hp => hb.cell hp.2) (fun g hg => ⟨hg.1, Nat.lt_of_lt_of_le hg.2 hb.size⟩) cs 0 (fun j _ => hb.cell (p := ⟨r, j, none⟩) hr2) hct⟩
theorem PgAt.mono {w : World} {cs : List Cl} {R : Option Addr} {M lo lo' : Nat} (h : PgAt w cs R M lo) (hl : lo' ≤ lo) : PgAt w cs R M lo' := by
  obtain ⟨h1, h2, D, hD, hH, r, rfl, hr1, hr2, hct⟩ := h
  exact ⟨by omega, h2, D, hD, hH, r, rfl, by omega, hr2, Cts.keep (fun _ _ => rfl) (fun g hg => ⟨by omega, hg.2⟩) cs 0 (fun _ _ => rfl) hct⟩

set_option maxRecDepth 100000 in
set_option maxHeartbeats 4000000 in
/-- program.clausesFor. -/
theorem cfor_any (cs : List Cl) (R : Option Addr) (M lo : Nat) (s : ByteArray) (A : Option Addr) (len cap : Nat) (w : World) (h : PgAt w cs R M lo) (hwf : ∀ c ∈ cs, WfC c) (hcl : cs.length ≤ 1048576) (hs : s.size ≤ maxLen) (hl : len ≤ maxLen) :
    Calls Tryd.prog 51 #[.agg #[.slice R cs.length cs.length, .map (some M)], .agg #[.string s, .slice A len cap]] w fun e w' => ∃ v, e = .returned v ∧ w'.ownsInts (M + 1) 3 .i64 v (forF cs 0 s len) ∧ Below w.heap.size w w' := by
  obtain ⟨hlo, hM, D, hD, hH, r, rfl, hr1, hr2, hct⟩ := h
  have hix : idxF cs 0 (pk s len) = forF cs 0 s len := forF_idx s len hs hl cs 0 hwf
  have hkey := pk_key s len hs hl
  clear hct hwf hr1 hr2 hlo
  generalize hn : cs.length = cl at *
  clear hn
  have hb2 : Below w.heap.size w ((w.alloc (.cells #[.slice (some ⟨r, 0, none⟩) cl cl, .map (some M)] 73)).alloc (.cells #[.string s, .slice A len cap] 74)) := two_alloc w _ _
  have hq1 : Blk ((w.alloc (.cells #[.slice (some ⟨r, 0, none⟩) cl cl, .map (some M)] 73)).alloc (.cells #[.string s, .slice A len cap] 74)) w.heap.size 73 #[.slice (some ⟨r, 0, none⟩) cl cl, .map (some M)] := (Blk.new w _ _).alloc _
  have hq2 : Blk ((w.alloc (.cells #[.slice (some ⟨r, 0, none⟩) cl cl, .map (some M)] 73)).alloc (.cells #[.string s, .slice A len cap] 74)) (w.heap.size + 1) 74 #[.string s, .slice A len cap] := by
    have h := Blk.new (w.alloc (.cells #[.slice (some ⟨r, 0, none⟩) cl cl, .map (some M)] 73)) 74 #[.string s, .slice A len cap]
    simpa using h
  have HD := Lib.hid hD
  have HH := Lib.hid hH
  have HIX := Lib.hid hix
  have HKK := Lib.hid hkey
  have HCL := Lib.hid hcl
  have HB2 := Lib.hid hb2
  have HQ1 := Lib.hid hq1
  have HQ2 := Lib.hid hq2
  clear hD hH hix hkey hcl hb2 hq1 hq2 hM hs hl
  go_enter Tryd.func51, Tryd.ntmps51
  go_wp2_with fail
  generalize ((w.alloc (.cells #[.slice (some ⟨r, 0, none⟩) cl cl, .map (some M)] 73)).alloc (.cells #[.string s, .slice A len cap] 74)) = W0 at *
  have hgr := fun x (hb : Below W0.heap.size W0 x) => groups_below HD.out (HB2.out.trans (hb.mono HB2.out.size))
  have hs0 : W0.cell? ⟨w.heap.size, 1, none⟩ = some (.map (some M)) ∧ W0.cell? ⟨w.heap.size + 1, 0, none⟩ = some (.string s) ∧ W0.cell? ⟨w.heap.size + 1, 1, none⟩ = some (.slice A len cap) := ⟨HQ1.out.cell 1, HQ2.out.cell 0, HQ2.out.cell 1⟩
  have hsc : ∀ x, Below W0.heap.size W0 x → x.cell? ⟨w.heap.size, 1, none⟩ = some (.map (some M)) ∧ x.cell? ⟨w.heap.size + 1, 0, none⟩ = some (.string s) ∧ x.cell? ⟨w.heap.size + 1, 1, none⟩ = some (.slice A len cap) := fun x hb =>
    ⟨(HQ1.out.below hb HQ1.out.lt).cell 1, (HQ2.out.below hb HQ2.out.lt).cell 0, (HQ2.out.below hb HQ2.out.lt).cell 1⟩
  have hfin : ∀ x v zs, Below W0.heap.size W0 x → D.atKey (pk s len) .nil = rowDatum .i64 v zs → x.ownsInts (M + 1) 3 .i64 v zs → x.ownsInts (M + 1) 3 .i64 v (forF cs 0 s len) ∧ Below w.heap.size w x := fun x v zs hb hat hoi => by
    have hz := (HH.out (pk s len)).eq hat hoi
    rw [← HIX.out, ← hz]
    exact ⟨hoi, HB2.out.trans (hb.mono HB2.out.size)⟩
  have HGR := Lib.hid hgr
  have HSC := Lib.hid hsc
  have HFIN := Lib.hid hfin
  clear hgr hsc hfin
  obtain ⟨y0, y1, y2⟩ := id hs0
  go_region_held3 (fun x => x.cell? ⟨w.heap.size, 1, none⟩ = some (.map (some M)) ∧ x.cell? ⟨w.heap.size + 1, 0, none⟩ = some (.string s) ∧ x.cell? ⟨w.heap.size + 1, 1, none⟩ = some (.slice A len cap))
    (first | exact hs0 | exact HSC.out _ (by repeat (first | exact HX1.out | exact Below.refl _ _ | apply Below.drew | apply bl_alloc)))
    (first
      | (go_at_call 67
         refine (pred_any s A len cap _).mono ?_
         rintro e w6 ⟨rfl, hb6⟩
         have hx1 : Below W0.heap.size W0 w6 := bl_step (by repeat (first | exact Below.refl _ _ | apply Below.drew | apply bl_alloc)) hb6
         obtain ⟨v, zs, hrun, hat, hoi, hzl, hbk⟩ := (HGR.out w6 hx1).at lawK Tryd.underlying71 (zeroIx _) (by unfold maxLen; have := HCL.out; omega) HKK.out
         have HDONE := Lib.hid (HFIN.out w6 v zs hx1 hat hoi)
         have HX1 := Lib.hid hx1
         clear hx1 hb6 hat hoi hzl hbk))
  go_wp2_with fail
  go_ret
  exact ⟨v, rfl, HDONE.out⟩

theorem results_cells2t {P : Program} {fn : Func} {p q u : Tmp} {ty ty' : TypeId} (h : fn.results = #[.cell p ty, .cell q ty', .tmp u]) (tmps : Array Value) (w : World) (g g' : Nat) (t t' : TypeId) (cs cs' : Array Value) (d d' : TypeDesc)
    (hp : tmps.getD p undef = .pointer (some ⟨g, 0, none⟩)) (hq : tmps.getD q undef = .pointer (some ⟨g', 0, none⟩)) (hg : Blk w g t cs) (hg' : Blk w g' t' cs')
    (hu : P.underlying ty = some d) (hd : (match d with | .struct _ | .array _ _ => true | _ => false) = true) (hi : (P.info? ty).map (·.size) = some cs.size)
    (hu' : P.underlying ty' = some d') (hd' : (match d' with | .struct _ | .array _ _ => true | _ => false) = true) (hi' : (P.info? ty').map (·.size) = some cs'.size) :
    (results fn tmps).run P w = .ok (.tuple #[.agg cs, .agg cs', tmps.getD u undef]) w := by
  have hp' : tmps[p]?.getD undef = .pointer (some ⟨g, 0, none⟩) := by simpa using hp
  have hq' : tmps[q]?.getD undef = .pointer (some ⟨g', 0, none⟩) := by simpa using hq
  simp [results, h, hp', hq', asAddr, run_loadVar_row w g t ty cs (0, 0) d hg hu hd hi, run_loadVar_row w g' t' ty' cs' (0, 0) d' hg' hu' hd' hi']

/-- What impl.programWith leaves. -/
def PWr (w : World) (cs : List Cl) (k n : Int) (s : ByteArray) (f : Fr) (e : Ending) (w' : World) : Prop :=
  Below w.heap.size w w' ∧ (((progV cs && plainV k n s f) = false ∧ ∃ R l c m s' A len cap, e = .returned (.tuple #[.agg #[.slice R l c, .map m], .agg #[.string s', .slice A len cap], .bool false])) ∨
    ((progV cs && plainV k n s f) = true ∧ ∃ R M A cap, e = .returned (.tuple #[.agg #[.slice R cs.length cs.length, .map (some M)], .agg #[.string s, .slice A f.len cap], .bool true]) ∧ NdS w' w.heap.size w'.heap.size f A cap ∧ PgAt w' cs R M w.heap.size))
end Go.Proofs.YtlapdnllncoomaaDoor
