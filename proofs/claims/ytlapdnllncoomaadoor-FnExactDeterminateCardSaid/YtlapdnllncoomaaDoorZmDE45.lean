/- A program in memory: program.clausesFor; impl.programWith. Condition: the clauses and the goal lie in memory, both tables in their variables. -/
import Derived.Test.YtlapdnllncoomaaDoorProg
import Derived.Test.YtlapdnllncoomaaDoorZmDE44
import Derived.Test.YtlapdnllncoomaaDoorCfS
import Derived.Test.YtlapdnllncoomaaDoorZmDE40
import Derived.Deep.RegionLaw
import Derived.Maps.GroupsBeside
import Derived.WideKeyEntry
import Derived.Below
namespace Go.Proofs.YtlapdnllncoomaaDoor
open Go.RowKit Go.WideMaps Go.Maps Go.ChangeShapes

/-- A program in memory: its row of clauses in block r, its index in block M. -/
def PgAt (w : World) (cs : List Cl) (R : Option Addr) (M lo : Nat) : Prop :=
  lo ≤ M ∧ M < w.heap.size ∧ ∃ D : DataW Unit, w.ownsGroups Tryd.prog 88 (M + 1) 3 .i64 M cs.length D ∧ (∀ l, HoldsD D l (idxF cs 0 l)) ∧ ∃ r, R = some ⟨r, 0, none⟩ ∧ lo ≤ r ∧ r < w.heap.size ∧ Cts w (fun g => lo ≤ g ∧ g < w.heap.size) r cs 0
theorem PgAt.below {w x : World} {cs : List Cl} {R : Option Addr} {M lo : Nat} (h : PgAt w cs R M lo) (hb : Below w.heap.size w x) : PgAt x cs R M lo := by
  obtain ⟨h1, h2, D, hD, hH, r, rfl, hr1, hr2, hct⟩ := h
  exact ⟨h1, Nat.lt_of_lt_of_le h2 hb.size, D, groups_below hD hb, hH, r, rfl, hr1, Nat.lt_of_lt_of_le hr2 hb.size,
    Cts.keep (fun p hp => hb.cell hp.2) (fun g hg => ⟨hg.1, Nat.lt_of_lt_of_le hg.2 hb.size⟩) cs 0 (fun j _ => hb.cell (p := ⟨r, j, none⟩) hr2) hct⟩
theorem PgAt.mono {w : World} {cs : List Cl} {R : Option Addr} {M lo lo' : Nat} (h : PgAt w cs R M lo) (hl : lo' ≤ lo) : PgAt w cs R M lo' := by
  obtain ⟨h1, h2, D, hD, hH, r, rfl, hr1, hr2, hct⟩ := h
  exact ⟨by omega, h2, D, hD, hH, r, rfl, by omega, hr2, Cts.keep (fun _ _ => rfl) (fun g hg => ⟨by omega, hg.2⟩) cs 0 (fun _ _ => rfl) hct⟩

set_option maxRecDepth 100000 in
set_option maxHeartbeats 4000000 in
/-- program.clausesFor. -/
theorem cfor_any (cs : List Cl) (R : Option Addr) (M lo : Nat) (s : ByteArray) (A : Option Addr) (len cap : Nat) (w : World) (h : PgAt w cs R M lo) (hwf : ∀ c ∈ cs, WfC c) (hcl : cs.length ≤ 1048576) (hs : s.size ≤ maxLen) (hl : len ≤ maxLen) :
    Calls Tryd.prog 51 #[.agg #[.slice R cs.length cs.length, .map (some M)], .agg #[.string s, .slice A len cap]] w fun e w' => ∃ v, e = .returned v ∧ w'.ownsInts (M + 1) 3 .i64 v (forF cs 0 s len) ∧ Below w.heap.size w w' := by
  obtain ⟨hlo, hM, D, hD, hH, r, rfl, hr1, hr2, hct⟩ := h
  have hix : idxF cs 0 (pk s len) = forF cs 0 s len := forF_idx s len hs hl cs 0 hwf
  have hkey := pk_key s len hs hl
  clear hct hwf hr1 hr2 hlo
  generalize hn : cs.length = cl at *
  clear hn
  have hb2 : Below w.heap.size w ((w.alloc (.cells #[.slice (some ⟨r, 0, none⟩) cl cl, .map (some M)] 73)).alloc (.cells #[.string s, .slice A len cap] 74)) := two_alloc w _ _
  have hq1 : Blk ((w.alloc (.cells #[.slice (some ⟨r, 0, none⟩) cl cl, .map (some M)] 73)).alloc (.cells #[.string s, .slice A len cap] 74)) w.heap.size 73 #[.slice (some ⟨r, 0, none⟩) cl cl, .map (some M)] := (Blk.new w _ _).alloc _
  have hq2 : Blk ((w.alloc (.cells #[.slice (some ⟨r, 0, none⟩) cl cl, .map (some M)] 73)).alloc (.cells #[.string s, .slice A len cap] 74)) (w.heap.size + 1) 74 #[.string s, .slice A len cap] := by
    have h := Blk.new (w.alloc (.cells #[.slice (some ⟨r, 0, none⟩) cl cl, .map (some M)] 73)) 74 #[.string s, .slice A len cap]
    simpa using h
  have HD := Lib.hid hD
  have HH := Lib.hid hH
  have HIX := Lib.hid hix
  have HKK := Lib.hid hkey
  have HCL := Lib.hid hcl
  have HB2 := Lib.hid hb2
  have HQ1 := Lib.hid hq1
  have HQ2 := Lib.hid hq2
  clear hD hH hix hkey hcl hb2 hq1 hq2 hM hs hl
  go_enter Tryd.func51, Tryd.ntmps51
  go_wp2_with fail
  generalize ((w.alloc (.cells #[.slice (some ⟨r, 0, none⟩) cl cl, .map (some M)] 73)).alloc (.cells #[.string s, .slice A len cap] 74)) = W0 at *
  have hgr := fun x (hb : Below W0.heap.size W0 x) => groups_below HD.out (HB2.out.trans (hb.mono HB2.out.size))
  have hs0 : W0.cell? ⟨w.heap.size, 1, none⟩ = some (.map (some M)) ∧ W0.cell? ⟨w.heap.size + 1, 0, none⟩ = some (.string s) ∧ W0.cell? ⟨w.heap.size + 1, 1, none⟩ = some (.slice A len cap) := ⟨HQ1.out.cell 1, HQ2.out.cell 0, HQ2.out.cell 1⟩
  have hsc : ∀ x, Below W0.heap.size W0 x → x.cell? ⟨w.heap.size, 1, none⟩ = some (.map (some M)) ∧ x.cell? ⟨w.heap.size + 1, 0, none⟩ = some (.string s) ∧ x.cell? ⟨w.heap.size + 1, 1, none⟩ = some (.slice A len cap) := fun x hb =>
    ⟨(HQ1.out.below hb HQ1.out.lt).cell 1, (HQ2.out.below hb HQ2.out.lt).cell 0, (HQ2.out.below hb HQ2.out.lt).cell 1⟩
  have hfin : ∀ x v zs, Below W0.heap.size W0 x → D.atKey (pk s len) .nil = rowDatum .i64 v zs → x.ownsInts (M + 1) 3 .i64 v zs → x.ownsInts (M + 1) 3 .i64 v (forF cs 0 s len) ∧ Below w.heap.size w x := fun x v zs hb hat hoi => by
    have hz := (HH.out (pk s len)).eq hat hoi
    rw [← HIX.out, ← hz]
    exact ⟨hoi, HB2.out.trans (hb.mono HB2.out.size)⟩
  have HGR := Lib.hid hgr
  have HSC := Lib.hid hsc
  have HFIN := Lib.hid hfin
  clear hgr hsc hfin
  obtain ⟨y0, y1, y2⟩ := id hs0
  go_region_held3 (fun x => x.cell? ⟨w.heap.size, 1, none⟩ = some (.map (some M)) ∧ x.cell? ⟨w.heap.size + 1, 0, none⟩ = some (.string s) ∧ x.cell? ⟨w.heap.size + 1, 1, none⟩ = some (.slice A len cap))
    (first | exact hs0 | exact HSC.out _ (by repeat (first | exact HX1.out | exact Below.refl _ _ | apply Below.drew | apply bl_alloc)))
    (first
      | (go_at_call 67
         refine (pred_any s A len cap _).mono ?_
         rintro e w6 ⟨rfl, hb6⟩
         have hx1 : Below W0.heap.size W0 w6 := bl_step (by repeat (first | exact Below.refl _ _ | apply Below.drew | apply bl_alloc)) hb6
         obtain ⟨v, zs, hrun, hat, hoi, hzl, hbk⟩ := (HGR.out w6 hx1).at lawK Tryd.underlying71 (zeroIx _) (by unfold maxLen; have := HCL.out; omega) HKK.out
         have HDONE := Lib.hid (HFIN.out w6 v zs hx1 hat hoi)
         have HX1 := Lib.hid hx1
         clear hx1 hb6 hat hoi hzl hbk))
  go_wp2_with fail
  go_ret
  exact ⟨v, rfl, HDONE.out⟩

theorem results_cells2t {P : Program} {fn : Func} {p q u : Tmp} {ty ty' : TypeId} (h : fn.results = #[.cell p ty, .cell q ty', .tmp u]) (tmps : Array Value) (w : World) (g g' : Nat) (t t' : TypeId) (cs cs' : Array Value) (d d' : TypeDesc)
    (hp : tmps.getD p undef = .pointer (some ⟨g, 0, none⟩)) (hq : tmps.getD q undef = .pointer (some ⟨g', 0, none⟩)) (hg : Blk w g t cs) (hg' : Blk w g' t' cs')
    (hu : P.underlying ty = some d) (hd : (match d with | .struct _ | .array _ _ => true | _ => false) = true) (hi : (P.info? ty).map (·.size) = some cs.size)
    (hu' : P.underlying ty' = some d') (hd' : (match d' with | .struct _ | .array _ _ => true | _ => false) = true) (hi' : (P.info? ty').map (·.size) = some cs'.size) :
    (results fn tmps).run P w = .ok (.tuple #[.agg cs, .agg cs', tmps.getD u undef]) w := by
  have hp' : tmps[p]?.getD undef = .pointer (some ⟨g, 0, none⟩) := by simpa using hp
  have hq' : tmps[q]?.getD undef = .pointer (some ⟨g', 0, none⟩) := by simpa using hq
  simp [results, h, hp', hq', asAddr, run_loadVar_row w g t ty cs (0, 0) d hg hu hd hi, run_loadVar_row w g' t' ty' cs' (0, 0) d' hg' hu' hd' hi']

/-- What impl.programWith leaves. -/
def PWr (w : World) (cs : List Cl) (k n : Int) (s : ByteArray) (f : Fr) (e : Ending) (w' : World) : Prop :=
  Below w.heap.size w w' ∧ (((progV cs && plainV k n s f) = false ∧ ∃ R l c m s' A len cap, e = .returned (.tuple #[.agg #[.slice R l c, .map m], .agg #[.string s', .slice A len cap], .bool false])) ∨
    ((progV cs && plainV k n s f) = true ∧ ∃ R M A cap, e = .returned (.tuple #[.agg #[.slice R cs.length cs.length, .map (some M)], .agg #[.string s, .slice A f.len cap], .bool true]) ∧ NdS w' w.heap.size w'.heap.size f A cap ∧ PgAt w' cs R M w.heap.size))
end Go.Proofs.YtlapdnllncoomaaDoor

/- plainGoal.keyed; the keys of the index of keys. Condition: the goal's arguments lie in memory and are well-formed, the table of powers of ten in its variable. -/
namespace Go.Proofs.YtlapdnllncoomaaDoor
open Go.RowKit Go.WideMaps Go.Maps Go.ChangeShapes

set_option maxRecDepth 100000 in
set_option maxHeartbeats 2000000 in
/-- plainGoal.keyed. -/
theorem keyed_any (s : ByteArray) (f : Fr) (A : Option Addr) (cap lo hi : Nat) (d : Int) (w : World) (hk : NdS w lo hi f A cap) (hh : hi ≤ w.heap.size) (hs : shapeF f d = true)
    (hp : ∀ w1, Below w.heap.size w w1 → Lib.TabIs Tryd.prog w1 "internal/strconv.uint64pow10" .u64 Lib.pow10Tab) :
    Calls Tryd.prog 65 #[.agg #[.string s, .slice A f.len cap]] w fun e w' => e = .returned (.agg #[.string s, .int .i64 (f.len : Int), .string ⟨(keyF f).toArray⟩]) ∧ Below w.heap.size w w' := by
  have hb0 : Below w.heap.size w ((w.alloc (.cells #[.string s, .slice A f.len cap] 74)).alloc (.cells #[.string ⟨#[]⟩, .int .i64 0, .string ⟨#[]⟩] 109)) := two_alloc w _ _
  have hq1 : Blk ((w.alloc (.cells #[.string s, .slice A f.len cap] 74)).alloc (.cells #[.string ⟨#[]⟩, .int .i64 0, .string ⟨#[]⟩] 109)) w.heap.size 74 #[.string s, .slice A f.len cap] := (Blk.new w _ _).alloc _
  have hq2 : Blk ((w.alloc (.cells #[.string s, .slice A f.len cap] 74)).alloc (.cells #[.string ⟨#[]⟩, .int .i64 0, .string ⟨#[]⟩] 109)) (w.heap.size + 1) 109 #[.string ⟨#[]⟩, .int .i64 0, .string ⟨#[]⟩] := by
    have h := Blk.new (w.alloc (.cells #[.string s, .slice A f.len cap] 74)) 109 #[.string ⟨#[]⟩, .int .i64 0, .string ⟨#[]⟩]
    simpa using h
  have C2 := fun w1 (hb : Below w.heap.size w w1) => fkey_any s f A cap lo hi d w1 (hk.keep (fun p _ hp => hb.cell (by omega)) (Nat.le_refl _) (Nat.le_refl _)) (Nat.le_trans hh hb.size) hs (fun w2 hb2 => hp w2 (hb.trans (hb2.mono hb.size)))
  have C1 := fun w1 => pred_any s A f.len cap w1
  have H1 := Lib.hid C1
  have H2 := Lib.hid C2
  have HB0 := Lib.hid hb0
  have HQ1 := Lib.hid hq1
  have HQ2 := Lib.hid hq2
  clear C1 C2 hb0 hq1 hq2 hk hh hs hp
  generalize f.len = fl at *
  generalize (⟨(keyF f).toArray⟩ : ByteArray) = key at *
  go_enter Tryd.func65, Tryd.ntmps65
  go_wp2_with fail
  generalize (w.alloc (.cells #[.string s, .slice A fl cap] 74)).alloc (.cells #[.string ⟨#[]⟩, .int .i64 0, .string ⟨#[]⟩] 109) = W0 at *
  have x0 := HQ1.out.cell 0
  have x1 := HQ1.out.cell 1
  simp only [List.getElem?_toArray, List.getElem?_cons_zero, List.getElem?_cons_succ] at x0 x1
  go_region_law (first
    | (go_simp
       go_at_call 67
       refine (H1.out _).mono ?_
       rintro e w3 ⟨rfl, hb⟩
       have hd3 : Below W0.heap.size W0 w3 := bl_step (by repeat (first | exact Below.refl _ _ | apply Below.drew | apply bl_alloc)) hb
       have y0 := (HQ1.out.below hd3 HQ1.out.lt).cell 0
       have y1 := (HQ1.out.below hd3 HQ1.out.lt).cell 1
       simp only [List.getElem?_toArray, List.getElem?_cons_zero, List.getElem?_cons_succ] at y0 y1
       have HD3 := Lib.hid hd3
       have HW3 := Lib.hid (HB0.out.trans (hd3.mono HB0.out.size))
       clear hb hd3)
    | (go_simp
       go_at_call 37
       refine (H2.out _ HW3.out).mono ?_
       rintro e w4 ⟨rfl, hb⟩
       have hd4 : Below W0.heap.size W0 w4 := bl_step HD3.out hb
       have hq4 := HQ2.out.below hd4 HQ2.out.lt
       have z0 := hq4.cell 0
       have z1 := hq4.cell 1
       have z2 := hq4.cell 2
       have f0 := hq4.frozen 0
       have f1 := hq4.frozen 1
       have f2 := hq4.frozen 2
       have hz4 : w.heap.size + 1 < w4.heap.size := hq4.lt
       simp only [List.getElem?_toArray, List.getElem?_cons_zero, List.getElem?_cons_succ] at z0 z1 z2
       have HQ4 := Lib.hid hq4
       have HW4 := Lib.hid (HB0.out.trans (hd4.mono HB0.out.size))
       clear hb hd4 hq4))
  all_goals
    go_wp2_with fail
    refine bodyPost_ret (v := .agg #[.string s, .int .i64 (fl : Int), .string key]) ?_ rfl ⟨rfl, ?_⟩
    · exact results_cell_row Tryd.results65 _ _ (w.heap.size + 1) _ _ _ _ rfl (((HQ4.out.set_ 0 _).set_ 1 _).set_ 2 _) Tryd.underlying109 rfl (by kernel_rfl)
    · exact ((HW4.out.setCell (by simp) _).setCell (by simp) _).setCell (by simp) _
end Go.Proofs.YtlapdnllncoomaaDoor

/- 'm[k] = append(m[k], x)' whose key is evaluated once: the entry, and the store at the entry, of a map of rows of integers. Of no program; no condition. -/
namespace Go.Proofs.YtlapdnllncoomaaDoor
open Go.Maps Go.WideElems Go.MapKept Go.RowKit
open Go.ChangeMaps (setBlock heap_setBlock_same heap_setBlock_other modify_eq_set)

section
variable {P : Program} {t k e : TypeId} {w : World} {b : Nat} {es : Array MapEntry} {clock : Nat} {key : Value} {kl : Lit}
theorem same_key {i j : Nat} {x y : MapEntry} (hn : (es.toList.map (·.key)).Nodup) (hi : es.toList[i]? = some x) (hj : es.toList[j]? = some y) (h : x.key = y.key) : i = j := by
  refine (List.getElem?_inj (l := es.toList.map (·.key)) ?_ hn).1 ?_
  · rw [List.length_map]
    exact (List.getElem?_eq_some_iff.1 hi).1
  · rw [List.getElem?_map, List.getElem?_map, hi, hj]
    simp [h]
theorem entry_run (K : Keyed P k) (ht : P.underlying t = some (.map k e)) {z : Value} (hz : ∀ u : World, (zeroValue e).run P u = .ok z u) (hb : w.heap[b]? = some (.map es clock)) (hks : ∀ x ∈ es.toList, ∃ l, keyOf P k x.key = some l) (S : Stamped es clock) (hkey : keyOf P k key = some kl) :
    ∃ (v0 : Value) (st : Nat) (es1 : Array MapEntry) (clock1 : Nat), (Instr.mapEntry t (.map (some b)) key).run P w = .ok (.tuple #[v0, goInt st]) (setBlock w b (.map es1 clock1)) ∧ (Instr.lookup t (.map (some b)) key false).run P w = .ok v0 w ∧
      ∀ (u u2 : World) (val : Value), u.heap[b]? = some (.map es clock) → u2.heap[b]? = some (.map es1 clock1) → ∃ es' clock', (Instr.entryStore t (.map (some b)) (goInt st) val).run P u2 = .ok () (setBlock u2 b (.map es' clock')) ∧
        (Instr.mapUpdate t (.map (some b)) key val).run P u = .ok () (setBlock u b (.map es' clock')) := by
  obtain ⟨s1, s2, s3⟩ := S
  rcases K.find w hkey es.toList hks with ⟨h1, h2⟩ | ⟨j, e0, h1, h2, h3⟩
  · refine ⟨z, clock, es.push ⟨key, z, clock⟩, clock + 1, ?_, ?_, fun u u2 val hu hw2 => ⟨es.push ⟨key, val, clock⟩, clock + 1, ?_, ?_⟩⟩
    · simp [Instr.mapEntry, run_underlying ht, MapKept.run_getObj_map hb, K.check w false hkey, h1, hz, MapKept.run_setObj_map _ hb, Result.andThen, setBlock]
    · simp [Instr.lookup, run_underlying ht, MapKept.run_getObj_map hb, K.check w _ hkey, h1, hz, Result.andThen]
    · have hidx : (es.push ⟨key, z, clock⟩).findIdx? (fun e => ((e.born : Nat) : Int) == ((clock : Nat) : Int)) = some es.size := by
        rw [findIdx_arr]
        have := findIdx_born (l := (es.push ⟨key, z, clock⟩).toList) (j := es.size) (e0 := ⟨key, z, clock⟩) (by
          simp only [Array.toList_push, List.map_append, List.map_cons, List.map_nil]
          refine List.nodup_append.2 ⟨s2, by simp, fun a ha c hc e1 => ?_⟩
          simp only [List.mem_singleton] at hc
          obtain ⟨x, hx, rfl⟩ := List.mem_map.1 ha
          have := s1 x hx
          omega) (by simp)
        exact this
      have hmod : (es.push ⟨key, z, clock⟩).modify es.size (fun e => { e with val := val }) = es.push ⟨key, val, clock⟩ := by
        apply Array.ext'
        rw [Array.toList_modify, Array.toList_push, Array.toList_push, ← Array.length_toList, modify_last]
      simp [Instr.entryStore, MapKept.run_getObj_map hw2, asInt, asIntOf, goInt, hidx, hmod, MapKept.run_setObj_map _ hw2, Result.andThen, setBlock]
    · rcases K.find u hkey es.toList hks with ⟨g1, _⟩ | ⟨j', e1, _, g2, g3⟩
      · simp [Instr.mapUpdate, run_underlying ht, MapKept.run_getObj_map hu, K.check u false hkey, g1, MapKept.run_setObj_map _ hu, Result.andThen, setBlock]
      · exact absurd g3 (h2 e1 (List.mem_of_getElem? g2))
  · have hj : es[j]? = some e0 := by simpa using h2
    have hsame : es.modify j (fun e => { e with key := key }) = es := by
      apply Array.ext'
      rw [Array.toList_modify, modify_eq_set _ _ _ _ h2]
      have : ({ e0 with key := key } : MapEntry) = e0 := by rw [← h3]
      rw [this]
      exact set_self _ _ _ h2
    refine ⟨e0.val, e0.born, es, clock, ?_, ?_, fun u u2 val hu hw2 => ⟨es.modify j (fun e' => { e' with key := key, val := val }), clock, ?_, ?_⟩⟩
    · simp [Instr.mapEntry, run_underlying ht, MapKept.run_getObj_map hb, K.check w false hkey, h1, hj, h3, K.stays w hkey, hsame, MapKept.run_setObj_map _ hb, Result.andThen, setBlock]
    · simp [Instr.lookup, run_underlying ht, MapKept.run_getObj_map hb, K.check w _ hkey, h1, Result.andThen]
    · have hidx : es.findIdx? (fun e => ((e.born : Nat) : Int) == ((e0.born : Nat) : Int)) = some j := by
        rw [findIdx_arr]
        exact findIdx_born s2 h2
      have hmod : es.modify j (fun e => { e with val := val }) = es.modify j (fun e' => { e' with key := key, val := val }) := by
        apply Array.ext'
        rw [Array.toList_modify, Array.toList_modify, modify_eq_set _ _ _ _ h2, modify_eq_set _ _ _ _ h2, ← h3]
      simp [Instr.entryStore, MapKept.run_getObj_map hw2, asInt, asIntOf, goInt, hidx, hmod, MapKept.run_setObj_map _ hw2, Result.andThen, setBlock]
    · rcases K.find u hkey es.toList hks with ⟨_, g2⟩ | ⟨j', e1, g1, g2, g3⟩
      · exact absurd h3 (g2 e0 (List.mem_of_getElem? h2))
      · obtain rfl : j' = j := same_key s3 g2 h2 (g3.trans h3.symm)
        obtain rfl : e1 = e0 := Option.some.inj (g2.symm.trans h2)
        simp [Instr.mapUpdate, run_underlying ht, MapKept.run_getObj_map hu, K.check u false hkey, g1, hj, h3, K.stays u hkey, MapKept.run_setObj_map _ hu, Result.andThen, setBlock]
end

section
variable {H : Type} {P : Program} {k : TypeId} {w : World} {base : Nat} {e : TypeId} {q : IntKind} {b n : Nat} {D : DataW H}
theorem grown_setBlock {w w' : World} {b : Nat} {es : Array MapEntry} {clock : Nat} {row : Option Nat} (hg : w.grownBy w' row) (hb : w'.heap[b]? = some (.map es clock)) (o : Obj) (hr : row = some b) : w.grownBy (setBlock w' b o) row := by
  refine ⟨hg.os, hg.tape, hg.output, ?_, fun j hj hne => ?_⟩
  · rw [show (setBlock w' b o).heap.size = w'.heap.size by simp [setBlock]]
    exact hg.size
  · rw [heap_setBlock_other hb o (fun e => hne (by rw [hr, e]))]
    exact hg.block j hj hne
/-- The entry at a key, and the way back through the store at the entry. -/
theorem groups_entry {t E : TypeId} {key : Value} {kl : Lit} (h : w.ownsGroups P k base e q b n D) (K : Keyed P k) (ht : P.underlying t = some (.map k E)) (hz : ∀ u : World, (zeroValue E).run P u = .ok (.slice none 0 0) u) (hn : n < maxLen) (hkey : keyOf P k key = some kl) :
    ∃ (v : Value) (zs : List Int) (st : Nat) (wE : World), (Instr.mapEntry t (.map (some b)) key).run P w = .ok (.tuple #[v, goInt st]) wE ∧ w.grownBy wE (some b) ∧ wE.heap.size = w.heap.size ∧ D.atKey kl .nil = rowDatum q v zs ∧ wE.ownsInts base e q v zs ∧ zs.length ≤ n ∧
      ∀ (w1 : World) (v' : Value) (zs' : List Int), wE.grownBy w1 v.ownBlock → w1.ownsInts base e q v' zs' → zs'.length ≤ n + 1 → (v'.ownBlock = v.ownBlock ∨ ∃ g, v'.ownBlock = some g ∧ wE.heap.size ≤ g) →
        ∃ w2, (Instr.entryStore t (.map (some b)) (goInt st) v').run P w1 = .ok () w2 ∧ w2.ownsGroups P k base e q b (n + 1) (D.put kl (rowDatum q v' zs')) ∧ w1.grownBy w2 (some b) := by
  obtain ⟨v, zs, hrun, hat, hoi, hzl, hback⟩ := h.at K ht (hz w) hn hkey
  obtain ⟨es, clock, hb, F, hs, rfl, hbb, hlen, hap⟩ := h
  obtain ⟨v0, st, es1, clock1, hE, hL, hS⟩ := entry_run (key := key) K ht hz hb F.keys F.stamped hkey
  obtain rfl : v0 = v := by
    have := hL.symm.trans hrun
    simpa using this
  have hlt : b < w.heap.size := (Array.getElem?_eq_some_iff.1 hb).1
  have hgE : w.grownBy (setBlock w b (.map es1 clock1)) (some b) := grown_setBlock (show w.grownBy w (some b) from ⟨rfl, rfl, rfl, Nat.le_refl _, fun _ _ _ => rfl⟩) hb _ rfl
  have hsE : (setBlock w b (.map es1 clock1)).heap.size = w.heap.size := by simp [setBlock]
  have hvb : ∀ g, v0.ownBlock = some g → g ≠ b := fun g hg => by have := (hoi.1.lt g hg).1; omega
  have hoE : (setBlock w b (.map es1 clock1)).ownsInts base e q v0 zs := hoi.kept hgE (by
    cases h0 : v0.ownBlock with
    | none => exact .inl rfl
    | some g => exact .inr fun e1 => hvb g h0 (by simpa using e1))
  refine ⟨v0, zs, st, _, hE, hgE, hsE, hat, hoE, hzl, fun w1 v' zs' hg ho hl hloc => ?_⟩
  have hb1 : w1.heap[b]? = some (.map es1 clock1) := (hg.block b (by rw [hsE]; exact hlt) (fun e1 => hvb b e1.symm rfl)).trans (heap_setBlock_same hb _)
  have hu : (setBlock w1 b (.map es clock)).heap[b]? = some (.map es clock) := heap_setBlock_same hb1 _
  have hv'b : ∀ g, v'.ownBlock = some g → g ≠ b := fun g hg' => by have := (ho.1.lt g hg').1; omega
  have hg1 : w1.grownBy (setBlock w1 b (.map es clock)) (some b) := grown_setBlock (show w1.grownBy w1 (some b) from ⟨rfl, rfl, rfl, Nat.le_refl _, fun _ _ _ => rfl⟩) hb1 _ rfl
  have hou : (setBlock w1 b (.map es clock)).ownsInts base e q v' zs' := ho.kept hg1 (by
    cases h0 : v'.ownBlock with
    | none => exact .inl rfl
    | some g => exact .inr fun e1 => hv'b g h0 (by simpa using e1))
  have hgu : w.grownBy (setBlock w1 b (.map es clock)) v0.ownBlock := by
    refine ⟨hg.os.trans hgE.os, hg.tape.trans hgE.tape, hg.output.trans hgE.output, Nat.le_trans hgE.size (Nat.le_trans hg.size hg1.size), fun j hj hne => ?_⟩
    by_cases hjb : j = b
    · rw [hjb, hu, hb]
    · rw [heap_setBlock_other hb1 _ hjb, hg.block j (by rw [hsE]; exact hj) hne, heap_setBlock_other hb _ hjb]
  obtain ⟨w2, hrun2, hown2, hgr2⟩ := hback _ v' zs' hgu hou hl (hloc.imp_right fun ⟨g, h1, h2⟩ => ⟨g, h1, by rw [hsE] at h2; exact h2⟩)
  obtain ⟨es', clock', hst, hup⟩ := hS (setBlock w1 b (.map es clock)) w1 v' hu hb1
  obtain rfl : w2 = setBlock (setBlock w1 b (.map es clock)) b (.map es' clock') := by
    have := hrun2.symm.trans hup
    simpa using this
  have hss : setBlock (setBlock w1 b (.map es clock)) b (.map es' clock') = setBlock w1 b (.map es' clock') := by
    simp [setBlock]
  rw [hss] at hown2
  exact ⟨_, hst, hown2, grown_setBlock (show w1.grownBy w1 (some b) from ⟨rfl, rfl, rfl, Nat.le_refl _, fun _ _ _ => rfl⟩) hb1 _ rfl⟩
end

/-- The entry at the operation. -/
theorem wpList_mapEntry_run {P : Program} (w : World) {ops : Array Oper} {rest : List Oper} {o : Oper} {a : Act} {Q : Exit → Act → World → Prop}
    (hg : o.guard = none) (m x : Operand) (t : TypeId) (hop : o.op = Op.mapEntry t m x) (mv key v : Value) (hm : a.eval m = mv) (hx : a.eval x = key) (wE : World)
    (hrun : (Instr.mapEntry t mv key).run P w = .ok v wE) (hK : wpList P ops Q rest (a.put o.dst v) wE) : wpList P ops Q (o :: rest) a w := by
  refine wpList_plain hg fun K' hK' => ?_
  unfold Oper.wp
  simp [execOp, hop, hm, hx, hrun, Result.andThen]
  exact hK' _ _ hK
/-- The store at the entry at the operation. -/
theorem wpList_entryStore_run {P : Program} (w : World) {ops : Array Oper} {rest : List Oper} {o : Oper} {a : Act} {Q : Exit → Act → World → Prop}
    (hg : o.guard = none) (m s x : Operand) (t : TypeId) (hop : o.op = Op.entryStore t m s x) (mv sv v : Value) (hm : a.eval m = mv) (hs : a.eval s = sv) (hx : a.eval x = v) (w2 : World)
    (hrun : (Instr.entryStore t mv sv v).run P w = .ok () w2) (hK : wpList P ops Q rest (a.put o.dst undef) w2) : wpList P ops Q (o :: rest) a w := by
  refine wpList_plain hg fun K' hK' => ?_
  unfold Oper.wp
  simp [execOp, hop, hm, hs, hx, hrun, Result.andThen]
  exact hK' _ _ hK
end Go.Proofs.YtlapdnllncoomaaDoor
