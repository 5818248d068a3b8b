/- impl.splitList: the elements with which a node begins as a list, and what follows. Condition: the node lies in memory. -/
import Derived.Test.YtohkpgpcipjpkaaGreatDoorProg
import Derived.Test.YtohkpgpcipjpkaaGreatDoorPair
import Derived.Test.YtohkpgpcipjpkaaGreatDoorAs
import Derived.Test.YtohkpgpcipjpkaaGreatDoorZmFA47
import Derived.Deep.AppendLies
import Derived.Shelf.Strconv.AppendIntPublic10
import Derived.Test.YtohkpgpcipjpkaaGreatDoorTxQ
import Derived.Lib.AppendIntMem
import Derived.Lib.AppendStr
import Derived.Lib.OthersKept
import Derived.Deep.RegionHeld3
import Derived.Test.YtohkpgpcipjpkaaGreatDoorZmFA44
namespace Go.Proofs.YtohkpgpcipjpkaaGreatDoor
open Go.RowKit

/-- The values xs are the nodes of the row f. -/
def NDesc (w : World) (lo hi : Nat) : Fr → List Value → Prop
  | .nil, xs => xs = []
  | .cons k n s kids rest, xs => ∃ x ys, xs = x :: ys ∧ NdV w lo hi k n s kids x ∧ NDesc w lo hi rest ys
section
variable {w w' : World} {lo hi : Nat}
theorem NDesc.len (f : Fr) : ∀ xs, NDesc w lo hi f xs → xs.length = f.len := by
  induction f with
  | nil => rintro xs rfl; rfl
  | cons k n s kids rest _ ih =>
    rintro xs ⟨x, ys, rfl, _, h⟩
    simp only [List.length_cons, Fr.len, ih ys h]
theorem NDesc.snoc (f : Fr) {k n : Int} {s : ByteArray} {kids : Fr} {x : Value} (hx : NdV w lo hi k n s kids x) : ∀ xs, NDesc w lo hi f xs → NDesc w lo hi (f.app (.cons k n s kids .nil)) (xs ++ [x]) := by
  induction f with
  | nil => rintro xs rfl; exact ⟨x, [], rfl, hx, rfl⟩
  | cons k' n' s' kids' rest _ ih =>
    rintro xs ⟨y, ys, rfl, hy, h⟩
    exact ⟨y, _, rfl, hy, ih ys h⟩
theorem NDesc.row {lo' hi' g : Nat} (hk : ∀ p : Addr, lo ≤ p.block → p.block < hi → w'.cell? p = w.cell? p) (hL : lo' ≤ lo) (hH : hi ≤ hi') (f : Fr) : ∀ xs o, NDesc w lo hi f xs → (∀ j u, xs[j]? = some u → w'.cell? ⟨g, o + j, none⟩ = some u) → NdRow w' lo' hi' f g o := by
  induction f with
  | nil => intro xs o _ _; trivial
  | cons k n s kids rest _ ih =>
    rintro xs o ⟨x, ys, rfl, hx, h⟩ hc
    refine ⟨⟨x, hc 0 x rfl, ?_⟩, ih ys (o + 1) h fun j u hu => ?_⟩
    · rcases hx.keep hk hL hH with h | h | ⟨h1, A, cap, h2, h3⟩
      · exact .inl h
      · exact .inr (.inl h)
      · exact .inr (.inr ⟨h1, A, cap, h2, h3.1, h3.2.1, h3.2.2⟩)
    · have := hc (j + 1) u (by simpa using hu)
      rwa [show o + (j + 1) = o + 1 + j by omega] at this
end

/-- What splitList answers. -/
def SplitRes (w : World) (F T : Fr) (e : Ending) (w' : World) : Prop :=
  Below w.heap.size w w' ∧ ∃ A cap v', e = .returned (.tuple #[.slice A F.len cap, v']) ∧ NdS w' 0 w'.heap.size F A cap ∧ ∃ k n s f, T = .cons k n s f .nil ∧ NdV w' 0 w'.heap.size k n s f v'
/-- The loop's relation. -/
def SpP (w : World) (lo hi : Nat) (F T : Fr) (k n : Int) (s : ByteArray) (f : Fr) (x : Value) (acc : Fr) (v : Value) (wr : World) : Prop :=
  NdV w lo hi k n s f x ∧ (∃ xs, wr.ownsRow w.heap.size 65 1 v acc.len xs ∧ NDesc w lo hi acc xs) ∧ acc.app (fronts k s f) = F ∧ tails k n s f = T ∧ Below w.heap.size w wr
/-- What splitList answers, by the blocks: the row is new, the nodes are the old ones. -/
def SplitR2 (w : World) (lo hi : Nat) (F T : Fr) (e : Ending) (w' : World) : Prop :=
  Below w.heap.size w w' ∧ ∃ v v', e = .returned (.tuple #[v, v']) ∧ (∃ xs, w'.ownsRow w.heap.size 65 1 v F.len xs ∧ NDesc w lo hi F xs) ∧ ∃ k n s f, T = .cons k n s f .nil ∧ NdV w lo hi k n s f v'
theorem SpP.fin {w wr : World} {lo hi : Nat} {F T : Fr} {k n : Int} {s : ByteArray} {f : Fr} {x : Value} {acc : Fr} {v : Value} (h : SpP w lo hi F T k n s f x acc v wr) (hp : pairB k s f.len = false) (o : Obj) :
    SplitR2 w lo hi F T (.returned (.tuple #[v, x])) (wr.alloc o) := by
  obtain ⟨hx, ⟨xs, ho, hD⟩, hF, hT, hb⟩ := h
  rw [(pair_no n hp).1, app_nil] at hF
  rw [(pair_no n hp).2] at hT
  subst hF hT
  exact ⟨hb.alloc hb.size o, v, x, rfl, ⟨xs, ho.alloc o, hD⟩, k, n, s, f, rfl, hx⟩
theorem SplitR2.res {w w' : World} {lo hi : Nat} {F T : Fr} {e : Ending} (h : SplitR2 w lo hi F T e w') (hh : hi ≤ w.heap.size) : SplitRes w F T e w' := by
  obtain ⟨hb2, v, x, rfl, ⟨xs, ho2, hD⟩, k, n, s, f, rfl, hx⟩ := h
  have hk : ∀ p : Addr, lo ≤ p.block → p.block < hi → w'.cell? p = w.cell? p := fun p _ hp => hb2.cell (by omega)
  refine ⟨hb2, ?_⟩
  rcases ho2.2 with ⟨rfl, h0⟩ | ⟨g, cap, cur, rfl, hbg, hg, hnc, hcm, hcs, htake⟩
  · have hnil : F = .nil := by
      cases F with
      | nil => rfl
      | cons _ _ _ _ _ => simp [Fr.len] at h0
    subst hnil
    exact ⟨none, 0, x, rfl, ⟨Nat.le_refl _, Nat.zero_le _, fun h => absurd h (Nat.lt_irrefl 0)⟩, k, n, s, f, rfl, hx.keep hk (Nat.zero_le _) (Nat.le_trans hh hb2.size)⟩
  · refine ⟨_, cap, x, rfl, ⟨hnc, hcm, fun _ => ⟨g, rfl, Nat.zero_le _, Blk.lt hg, ?_⟩⟩, k, n, s, f, rfl, hx.keep hk (Nat.zero_le _) (Nat.le_trans hh hb2.size)⟩
    refine NDesc.row hk (Nat.zero_le _) (Nat.le_trans hh hb2.size) F xs 0 hD fun j u hu => ?_
    have h3 := (World.ownsRow.cells ho2 (g := g) rfl) j u hu
    have e : (⟨g, 0, none⟩ : Addr).add j = ⟨g, 0 + j, none⟩ := by unfold Addr.add; split <;> simp_all
    rwa [e] at h3

set_option maxRecDepth 100000 in
set_option maxHeartbeats 8000000 in
/-- impl.splitList, by the blocks. -/
theorem split2_any (k n : Int) (s : ByteArray) (f : Fr) (v : Value) (lo hi : Nat) (w : World) (hv : NdV w lo hi k n s f v) (hh : hi ≤ w.heap.size) (hnd : nodes f ≤ 1048576) :
    Calls Tryz.prog 55 #[v] w fun e w' => SplitR2 w lo hi (fronts k s f) (tails k n s f) e w' := by
  have hst : SpP w lo hi (fronts k s f) (tails k n s f) k n s f v .nil (.slice none 0 0) w := ⟨hv, ⟨[], World.ownsRow_nil w _ _ _, rfl⟩, rfl, rfl, Below.refl _ _⟩
  have HST := Lib.hid hst
  have HND := Lib.hid hnd
  have HHI := Lib.hid hh
  obtain ⟨i0, hi0, hz0, hz1, hz2⟩ := info_parts infoN
  clear hst hnd hh
  obtain ⟨T0, x0, rfl⟩ := hv.iface
  clear hv
  go_enter Tryz.func55, Tryz.ntmps55
  go_wp2_with fail
  go_loopw [4, 0] (fun u x wr => ∃ (k' n' : Int) (s' : ByteArray) (f' acc : Fr) (v x' : Value), v = u ∧ x' = x ∧ SpP w lo hi (fronts k s f) (tails k n s f) k' n' s' f' x' acc v wr) (fun u _ _ => (fronts k s f).len - lenOf u)
  case atStart => exact ⟨_, _, _, _, _, _, _, rfl, rfl, HST.out⟩
  case round =>
    obtain ⟨k', n', s', f', acc, v, x', rfl, rfl, hp⟩ := hrel
    cases hpb : pairB k' s' f'.len
    · have HR := Lib.hid fun o => hp.fin hpb o
      obtain ⟨hx, -, -, -, -⟩ := hp
      rcases hx with ⟨rfl, rfl⟩ | ⟨rfl, rfl⟩ | ⟨rfl, A, cap, rfl, hk⟩
      · clear hpb
        go_wp2_with fail
        go_ret2
        exact HR.out _
      · clear hpb
        go_wp2_with fail
        go_ret2
        exact HR.out _
      · clear hk
        generalize f'.len = len at *
        cases h2 : dotB s'
        · have t1 : (s'.toList == [46]) = false := by rw [ByteArray.toList_eq]; exact h2
          have t2 : (!(s'.toList == [46])) = true := by rw [t1]; rfl
          have t3 : (s'.toList != [46]) = true := t2
          clear h2 hpb
          go_wp2_with fail
          go_ret2
          exact HR.out _
        · have t1 : (s'.toList == [46]) = true := by rw [ByteArray.toList_eq]; exact h2
          have t3 : (s'.toList != [46]) = false := by show (!(s'.toList == [46])) = false; rw [t1]; rfl
          have h3 : ¬ len = 2 := fun e => by subst e; simp [pairB, h2] at hpb
          have t4 : ((len : Int) != 2) = true := by simp; omega
          clear h2 hpb h3
          go_wp2_with fail
          go_ret2
          exact HR.out _
    · obtain ⟨hl2, rfl, hdot⟩ := pairB_len hpb
      obtain ⟨k1, n1, s1, kd1, k2, n2, s2, kd2, rfl, hfr, htl⟩ := pair_yes n' hpb
      obtain ⟨hx, ⟨xs, hown, hD⟩, hF, hT, hb⟩ := hp
      rcases hx with ⟨h, _⟩ | ⟨h, _⟩ | ⟨_, A, cap, rfl, hk⟩
      · omega
      · omega
      obtain ⟨b, rfl, hlb, hbb, hrow⟩ := hk.2.2 (by simp [Fr.len])
      obtain ⟨y1, d0, hv1⟩ := hrow.elem (i := 0) rfl
      obtain ⟨y2, d1, hv2⟩ := hrow.elem (i := 1) rfl
      simp only [Nat.add_zero, Nat.zero_add] at d0 d1
      have hHI := HHI.out
      have hlo : b < w.heap.size := by omega
      have c0 := (hb.cell (p := ⟨b, 0, none⟩) hlo).trans d0
      have hcap := hk.2.1
      have hcl := hk.1
      have t1 : (s'.toList == [46]) = true := by rw [ByteArray.toList_eq]; exact hdot
      have t3 : (s'.toList != [46]) = false := by show (!(s'.toList == [46])) = false; rw [t1]; rfl
      have hvl := hown.lt
      have hacc : acc.len < 1048577 := by
        have h1 := congrArg Fr.len hF
        have h2 := len_le_nodes (fronts k s f)
        rw [Fr.len_app] at h1
        have h3 := fronts_nodes k s f
        have := HND.out
        omega
      have hmeas : (fronts k s f).len - (acc.len + 1) < (fronts k s f).len - lenOf v := by
        have h1 := congrArg Fr.len hF
        rw [Fr.len_app, hfr] at h1
        simp only [Fr.len] at h1
        have hlv : lenOf v = acc.len := by
          rcases hown.2 with ⟨rfl, h0⟩ | ⟨g, cap', cur, rfl, _⟩
          · simp only [lenOf]; omega
          · rfl
        rw [hlv]
        omega
      obtain ⟨T1, z1, rfl⟩ := hv1.iface
      have hbs := hb.size
      have STEP : ∀ w6 g cap4, (((wr.alloc (.cells #[.string s', .slice (some ⟨b, 0, none⟩) (Fr.cons k1 n1 s1 kd1 (.cons k2 n2 s2 kd2 .nil)).len cap] 78)).alloc (.cells #[.iface T1 z1] 65)).grownBy w6 v.ownBlock) → w6.ownsRow w.heap.size 65 1 (.slice (some ⟨g, 0, none⟩) (acc.len + 1) cap4) (acc.len + 1) (xs ++ [.iface T1 z1]) →
          SpP w lo hi (fronts k s f) (tails k n s f) k2 n2 s2 kd2 y2 (acc.app (.cons k1 n1 s1 kd1 .nil)) (.slice (some ⟨g, 0, none⟩) (acc.len + 1) cap4) w6 ∧ w6.cell? ⟨b, 1, none⟩ = some y2 ∧ w6.cell? ⟨wr.heap.size, 1, none⟩ = some (.slice (some ⟨b, 0, none⟩) (Fr.cons k1 n1 s1 kd1 (.cons k2 n2 s2 kd2 .nil)).len cap) := fun w6 g cap4 hg ho => by
        have hb5 := (hb.alloc hb.size (.cells #[.string s', .slice (some ⟨b, 0, none⟩) (Fr.cons k1 n1 s1 kd1 (.cons k2 n2 s2 kd2 .nil)).len cap] 78)).alloc (by simp; omega) (.cells #[.iface T1 z1] 65)
        have hb6 : Below w.heap.size w w6 := hb5.grown hg hb5.size fun g hg => (hvl g hg).1
        have hq := ((Blk.new wr 78 #[.string s', .slice (some ⟨b, 0, none⟩) (Fr.cons k1 n1 s1 kd1 (.cons k2 n2 s2 kd2 .nil)).len cap]).alloc (.cells #[.iface T1 z1] 65)).keep (hg.block wr.heap.size (by simp; omega) fun e => by have := (hvl _ e.symm).2; omega)
        refine ⟨⟨hv2, ⟨_, ?_, NDesc.snoc acc hv1 xs hD⟩, ?_, ?_, hb6⟩, (hb6.cell (p := ⟨b, 1, none⟩) hlo).trans d1, hq.cell 1⟩
        · rw [Fr.len_app]; exact ho
        · rw [app_assoc]; rw [hfr] at hF; exact hF
        · rw [← hT, htl]
      have hnew := Blk.new (wr.alloc (.cells #[.string s', .slice (some ⟨b, 0, none⟩) 2 cap] 78)) 65 #[.iface T1 z1]
      rw [show (wr.alloc (.cells #[.string s', .slice (some ⟨b, 0, none⟩) 2 cap] 78)).heap.size = wr.heap.size + 1 by simp] at hnew
      have HNEW := Lib.hid hnew
      clear hnew
      have HSTEP := Lib.hid STEP
      have HM := Lib.hid hmeas
      have HOWN := Lib.hid hown
      have hbw : b < wr.heap.size := by omega
      simp only [Fr.len, Nat.zero_add, Nat.reduceAdd] at HSTEP hcl
      clear hpb hdot hfr htl hF hT hb hk hrow d0 d1 hv1 hv2 hown hD hmeas STEP hl2 hvl
      unfold maxLen at hcap
      simp only [Fr.len, Nat.zero_add, Nat.reduceAdd]
      go_wp2_with (at_builtin; go_must (refine wpList_append_lies _ rfl _ _ _ rfl w.heap.size 65 i0 _ 1 16 Tryz.underlying51 hi0 hz0 hz1 hz2 rfl (by omega) v acc.len xs rfl ((HOWN.out.alloc _).alloc _) ⟨wr.heap.size + 1, 0, none⟩ 1 1 [.iface T1 z1] rfl rfl (World.news_of_block (cs := #[.iface T1 z1]) (t := 65) (fr := (0, 0)) HNEW.out) (by simp [Value.oneCell']) (by omega) (by unfold maxLen; omega) (by omega) (by simp; omega) (wr.heap.size + 1 + 1) (by simp) ?_); intro g cap4 w6 hown6 hgrow hat hlt6; obtain ⟨hsp, e1, x1⟩ := HSTEP.out w6 g cap4 hgrow hown6; have HSP := Lib.hid hsp; clear hsp hown6 hgrow hat)
      go_roundw
      case rel => exact ⟨_, _, _, _, _, _, _, rfl, rfl, HSP.out⟩
      case measure => exact HM.out
/-- impl.splitList. -/
theorem split_any (k n : Int) (s : ByteArray) (f : Fr) (v : Value) (lo hi : Nat) (w : World) (hv : NdV w lo hi k n s f v) (hh : hi ≤ w.heap.size) (hnd : nodes f ≤ 1048576) :
    Calls Tryz.prog 55 #[v] w fun e w' => SplitRes w (fronts k s f) (tails k n s f) e w' :=
  (split2_any k n s f v lo hi w hv hh hnd).mono fun _ _ h => h.res hh
end Go.Proofs.YtohkpgpcipjpkaaGreatDoor

/- The layings of the numbers' texts (strconv) at this program: the numbers that its text has here. No condition. -/
namespace Go.Proofs.YtohkpgpcipjpkaaGreatDoor
open Go.Proofs Go.Shelf
def laysAI_ren : Go.Shelf.Ren := ⟨fun | 176 => 54 | 249 => 73 | 288 => 88 | 283 => 93 | 284 => 94 | 285 => 95 | 286 => 96 | 129 => 100 | 317 => 99 | 318 => 101 | 319 => 102 | 320 => 103 | 337 => 105 | 338 => 106 | n => n, fun | 37 => 56 | 2 => 2 | 3 => 3 | 53 => 132 | 4 => 4 | 9 => 9 | 171 => 137 | 0 => 0 | 173 => 140 | 212 => 145 | 51 => 146 | 5 => 5 | 20 => 20 | 213 => 147 | 46 => 148 | 232 => 153 | 233 => 154 | n => n, fun | 17 => 1 | 18 => 3 | 19 => 4 | n => n⟩
theorem laysAI : Go.Proofs.LaysM.n176 Tryz.prog laysAI_ren := {
  mixed := by kernel_rfl
  f129 := Tryz.func100.trans (congrArg some (by kernel_rfl))
  f176 := Tryz.func54.trans (congrArg some (by kernel_rfl))
  f249 := Tryz.func73.trans (congrArg some (by kernel_rfl))
  f283 := Tryz.func93.trans (congrArg some (by kernel_rfl))
  f284 := Tryz.func94.trans (congrArg some (by kernel_rfl))
  f285 := Tryz.func95.trans (congrArg some (by kernel_rfl))
  f286 := Tryz.func96.trans (congrArg some (by kernel_rfl))
  f288 := Tryz.func88.trans (congrArg some (by kernel_rfl))
  f317 := Tryz.func99.trans (congrArg some (by kernel_rfl))
  f318 := Tryz.func101.trans (congrArg some (by kernel_rfl))
  f319 := Tryz.func102.trans (congrArg some (by kernel_rfl))
  f320 := Tryz.func103.trans (congrArg some (by kernel_rfl))
  f337 := Tryz.func105.trans (congrArg some (by kernel_rfl))
  f338 := Tryz.func106.trans (congrArg some (by kernel_rfl))
  t0 := Tryz.underlying0
  a0 := Tryz.isAgg0
  z0 := Tryz.sizeOf0
  v0 := Tryz.zeroValue0
  t2 := Tryz.underlying2
  a2 := Tryz.isAgg2
  z2 := Tryz.sizeOf2
  v2 := Tryz.zeroValue2
  t3 := Tryz.underlying3
  a3 := Tryz.isAgg3
  z3 := Tryz.sizeOf3
  v3 := Tryz.zeroValue3
  t4 := Tryz.underlying4
  a4 := Tryz.isAgg4
  z4 := Tryz.sizeOf4
  v4 := Tryz.zeroValue4
  t5 := Tryz.underlying5
  a5 := Tryz.isAgg5
  z5 := Tryz.sizeOf5
  v5 := Tryz.zeroValue5
  t9 := Tryz.underlying9
  a9 := Tryz.isAgg9
  z9 := Tryz.sizeOf9
  v9 := Tryz.zeroValue9
  t20 := Tryz.underlying20
  a20 := Tryz.isAgg20
  z20 := Tryz.sizeOf20
  v20 := Tryz.zeroValue20
  t37 := Tryz.underlying56
  a37 := Tryz.isAgg56
  z37 := Tryz.sizeOf56
  v37 := Tryz.zeroValue56
  t46 := Tryz.underlying148
  a46 := Tryz.isAgg148
  z46 := Tryz.sizeOf148
  v46 := Tryz.zeroValue148
  t51 := Tryz.underlying146
  a51 := Tryz.isAgg146
  z51 := Tryz.sizeOf146
  v51 := Tryz.zeroValue146
  t53 := Tryz.underlying132
  a53 := Tryz.isAgg132
  z53 := Tryz.sizeOf132
  v53 := Tryz.zeroValue132
  t171 := Tryz.underlying137
  a171 := Tryz.isAgg137
  z171 := Tryz.sizeOf137
  v171 := Tryz.zeroValue137
  t173 := Tryz.underlying140
  a173 := Tryz.isAgg140
  z173 := Tryz.sizeOf140
  v173 := Tryz.zeroValue140
  t212 := Tryz.underlying145
  a212 := Tryz.isAgg145
  z212 := Tryz.sizeOf145
  v212 := Tryz.zeroValue145
  t213 := Tryz.underlying147
  a213 := Tryz.isAgg147
  z213 := Tryz.sizeOf147
  t232 := Tryz.underlying153
  a232 := Tryz.isAgg153
  z232 := Tryz.sizeOf153
  v232 := Tryz.zeroValue153
  t233 := Tryz.underlying154
  a233 := Tryz.isAgg154
  z233 := Tryz.sizeOf154
  v233 := Tryz.zeroValue154
  g17 := by kernel_rfl
  g18 := by kernel_rfl
  g19 := by kernel_rfl
  i0 := by kernel_rfl
  i2 := by kernel_rfl
  i3 := by kernel_rfl
  i4 := by kernel_rfl
  i5 := by kernel_rfl
  i9 := by kernel_rfl
  i20 := by kernel_rfl
  i37 := by kernel_rfl
  i46 := by kernel_rfl
  i51 := by kernel_rfl
  i53 := by kernel_rfl
  i171 := by kernel_rfl
  i173 := by kernel_rfl
  i212 := by kernel_rfl
  i232 := by kernel_rfl
  i233 := by kernel_rfl
  m17 := by kernel_rfl
  m18 := by kernel_rfl
  m19 := by kernel_rfl }
end Go.Proofs.YtohkpgpcipjpkaaGreatDoor

/- A writer of texts in memory: its text is a row of bytes that it owns; what writing leaves as it was. Condition: none of its own. -/
namespace Go.Proofs.YtohkpgpcipjpkaaGreatDoor
open Go.RowKit

theorem infoU8 : (Tryz.prog.info? 5).map (fun i => (i.zero, i.size, i.bytes)) = some (some (.int .u8 0), 1, 1) := by kernel_rfl
/-- What lies below block mb, and all blocks but mb that are no rows of bytes, stand. -/
def TF (mb : Nat) (w w' : World) : Prop := Below mb w w' ∧ Lib.OthersKept 5 (some mb) w w'
theorem TF.refl (mb : Nat) (w : World) : TF mb w w := ⟨Below.refl _ _, Lib.OthersKept.refl _ _ _⟩
theorem TF.trans {mb : Nat} {a b c : World} (h : TF mb a b) (k : TF mb b c) : TF mb a c := ⟨h.1.trans k.1, h.2.trans k.2⟩
theorem TF.below {mb : Nat} {w w' : World} (h : Below w.heap.size w w') (hm : mb ≤ w.heap.size) : TF mb w w' :=
  ⟨h.mono hm, fun k o hk _ _ => by
    have hlt : k < w.heap.size := (Array.getElem?_eq_some_iff.1 hk).1
    rw [h.block k hlt]; exact hk⟩
theorem TF.appInt {mb : Nat} {w w' : World} (h : Below (mb + 1) w w') (k : Lib.OthersKept 5 none w w') : TF mb w w' :=
  ⟨h.mono (Nat.le_succ _), fun i o hi _ ho => k i o hi (by simp) ho⟩
theorem TF.set_ {mb : Nat} {w w' : World} (h : TF mb w w') (i : Nat) (v : Value) : TF mb w (w'.setCell ⟨mb, i, none⟩ v) := ⟨h.1.setCell (Nat.le_refl _) _, h.2.setCell _ rfl _⟩

/-- The function that writes parts: the writer's own. -/
def fW (mb : Nat) : Value := .func (.func 35) #[.pointer (some ⟨mb, 0, none⟩)] #[]
def TW (mb : Nat) (bs : List UInt8) (w : World) : Prop := ∃ tv, Blk w mb 59 #[tv, fW mb] ∧ w.ownsRow (mb + 1) 5 1 tv bs.length (Lib.byteCells bs)
theorem TW.below {mb : Nat} {bs : List UInt8} {w w' : World} (h : TW mb bs w) (hb : Below w.heap.size w w') : TW mb bs w' := by
  obtain ⟨tv, hq, ho⟩ := h
  exact ⟨tv, hq.below hb hq.lt, ho.kept (row := none) ⟨hb.os, hb.tape, hb.output, hb.size, fun k hk _ => hb.block k hk⟩ (by cases tv.ownBlock <;> simp)⟩
theorem row_form {w : World} {base : Nat} {e : TypeId} {v : Value} {n : Nat} {xs : List Value} (h : w.ownsRow base e 1 v n xs) : ∃ A c, v = .slice A n c ∧ n ≤ c ∧ c ≤ maxLen := by
  rcases h.2 with ⟨rfl, h0⟩ | ⟨g, cap, cur, rfl, _, _, h1, h2, _⟩
  · exact ⟨none, 0, by rw [h0], by omega, Nat.zero_le _⟩
  · exact ⟨_, cap, rfl, h1, h2⟩
theorem row_kind {w : World} {base : Nat} {e : TypeId} {v : Value} {n : Nat} {xs : List Value} (h : w.ownsRow base e 1 v n xs) : ∀ g, v.ownBlock = some g → ∃ c fz, w.heap[g]? = some (.cells c e fz) := by
  intro g hg
  rcases h.2 with ⟨rfl, _⟩ | ⟨g', cap, cur, rfl, _, hb, _⟩
  · cases hg
  · obtain rfl : g' = g := by simpa [Value.ownBlock] using hg
    exact ⟨_, _, hb⟩
/-- One byte more. -/
theorem TW.step {mb g cap : Nat} {bs add : List UInt8} {w w1 w6 : World} {tv : Value} (hq : Blk w mb 59 #[tv, fW mb]) (ho : w.ownsRow (mb + 1) 5 1 tv bs.length (Lib.byteCells bs)) (h1 : Below w.heap.size w w1)
    (hg : w1.grownBy w6 tv.ownBlock) (ho6 : w6.ownsRow (mb + 1) 5 1 (.slice (some ⟨g, 0, none⟩) (bs.length + add.length) cap) (bs.length + add.length) (Lib.byteCells bs ++ Lib.byteCells add)) :
    TW mb (bs ++ add) (w6.setCell ⟨mb, 0, none⟩ (.slice (some ⟨g, 0, none⟩) (bs.length + add.length) cap)) ∧ TF mb w (w6.setCell ⟨mb, 0, none⟩ (.slice (some ⟨g, 0, none⟩) (bs.length + add.length) cap)) ∧ Blk w6 mb 59 #[tv, fW mb] := by
  have hmlt := hq.lt
  have hne : some mb ≠ tv.ownBlock := fun e => by have := (ho.lt mb e.symm).1; omega
  have hq1 := hq.below h1 hmlt
  have hq6 : Blk w6 mb 59 #[tv, fW mb] := hq1.keep (hg.block mb (Nat.lt_of_lt_of_le hmlt h1.size) hne)
  have h2 : TF mb w w6 := by
    refine ⟨(h1.mono (Nat.le_of_lt hmlt)).grown hg (Nat.le_trans (Nat.le_of_lt hmlt) h1.size) fun k hk => by have := (ho.lt k hk).1; omega, ?_⟩
    refine (TF.below h1 (Nat.le_of_lt hmlt)).2.grown hg fun k hk => ?_
    obtain ⟨c, fz, hc⟩ := row_kind ho k hk
    exact ⟨c, fz, (h1.block k (ho.lt k hk).2).trans hc⟩
  refine ⟨⟨.slice (some ⟨g, 0, none⟩) (bs.length + add.length) cap, ?_, ?_⟩, h2.set_ 0 _, hq6⟩
  · have h := hq6.set_ 0 (.slice (some ⟨g, 0, none⟩) (bs.length + add.length) cap)
    simpa using h
  · have e1 : (bs ++ add).length = bs.length + add.length := List.length_append
    have e2 : Lib.byteCells (bs ++ add) = Lib.byteCells bs ++ Lib.byteCells add := by simp [Lib.byteCells]
    rw [e1, e2]
    refine ho6.kept (row := some mb) ⟨rfl, rfl, rfl, by simp [World.setCell], fun k _ hk => ?_⟩ (.inr fun e => ?_)
    · exact heap_setCell_other _ _ _ _ fun e => hk (by rw [e])
    · have := (ho6.lt mb e).1
      omega

section
variable {P : Program} (w : World)
/-- 'append' of a string's bytes at a step of a region that draws its order. -/
theorem step_append_str {ops : Array Oper} {o : Oper} {a : Act} {K : Act → World → Prop} {Q : Exit → Act → World → Prop} {E : Prop} (hgd : o.guard = none) (sl x : Operand) (t u : TypeId)
    (ho : o.op = .call { callee := .builtin .append, args := #[sl, x], argTypes := #[t, u] })
    (base : Nat) (e : TypeId) (i : TypeInfo) (ht : P.underlying t = some (.slice e)) (hu : P.underlying u = some .string) (hi : P.info? e = some i) (hz : i.zero = some (.int .u8 0))
    (hsize : i.size = 1) (hby : i.bytes = 1)
    (v : Value) (n : Nat) (xs : List Value) (hs : a.eval sl = v) (hown : w.ownsRow base e 1 v n xs) (s : ByteArray) (hx : a.eval x = .string s)
    (h0 : 0 < s.size) (h63 : n + s.size ≤ maxLen) (hbytes : n + s.size ≤ 140737488355328) (hbase : base ≤ w.heap.size)
    (h : ∀ g cap w', w'.ownsRow base e 1 (.slice (some ⟨g, 0, none⟩) (n + s.size) cap) (n + s.size) (xs ++ Lib.strCells s) → w.grownBy w' v.ownBlock → K (a.put o.dst (.slice (some ⟨g, 0, none⟩) (n + s.size) cap)) w') :
    if Region.wanted o (yielded ops a.tmps) = true then Oper.wp P o a w K Q else E := by
  have hw : Region.wanted o (yielded ops a.tmps) = true := by simp [Region.wanted, hgd]
  rw [if_pos hw]
  obtain ⟨v', w', hr, h2, h3, _⟩ := Lib.run_append_own_string (P := P) w base t u o.type e i ht hu hi hz hsize hby v n xs hown s h63 hbytes hbase
  unfold Oper.wp execOp
  simp only [ho, resolve, invoke, builtin, Sem.run_bind, Sem.run_pure, Result.andThen_ok, List.map_toArray, List.map_cons, List.map_nil, hs, hx, hr]
  rcases h2.2 with ⟨rfl, he⟩ | ⟨g, cap, cur, rfl, _⟩
  · omega
  · exact h g cap w' h2 h3
end
end Go.Proofs.YtohkpgpcipjpkaaGreatDoor

/- impl.termWriter: writeTerm, writeList, writeParts. Condition: the nodes lie in memory below the writer and are well-formed; the table of powers of ten in its variable. -/
namespace Go.Proofs.YtohkpgpcipjpkaaGreatDoor
open Go.RowKit

theorem TW.step1 {mb g cap : Nat} {bs : List UInt8} {c : UInt8} {x : Int} {w w6 : World} {tv : Value} (hq : Blk w mb 59 #[tv, fW mb]) (ho : w.ownsRow (mb + 1) 5 1 tv bs.length (Lib.byteCells bs)) (hc : (c.toNat : Int) = x)
    (hg : (w.alloc (.cells #[.int .u8 x] 5)).grownBy w6 tv.ownBlock) (ho6 : w6.ownsRow (mb + 1) 5 1 (.slice (some ⟨g, 0, none⟩) (bs.length + 1) cap) (bs.length + 1) (Lib.byteCells bs ++ [.int .u8 x])) :
    TW mb (bs ++ [c]) (w6.setCell ⟨mb, 0, none⟩ (.slice (some ⟨g, 0, none⟩) (bs.length + 1) cap)) ∧ TF mb w (w6.setCell ⟨mb, 0, none⟩ (.slice (some ⟨g, 0, none⟩) (bs.length + 1) cap)) ∧ Blk w6 mb 59 #[tv, fW mb] :=
  TW.step (add := [c]) hq ho ((Below.refl _ _).alloc (Nat.le_refl _) _) hg (by
    have e : Lib.byteCells [c] = [.int .u8 x] := by rw [← hc]; rfl
    rw [e]; exact ho6)
/-- Blocks that a writer leaves: below it, and rows of nodes. -/
def Kp (mb : Nat) (w : World) (g : Nat) : Prop := g < mb ∨ (g ≠ mb ∧ ∃ cs fr, w.heap[g]? = some (.cells cs 65 fr))
theorem Kp.keep {mb g : Nat} {w w' : World} (h : Kp mb w g) (ht : TF mb w w') : Kp mb w' g ∧ ∀ j, w'.cell? ⟨g, j, none⟩ = w.cell? ⟨g, j, none⟩ := by
  rcases h with h | ⟨h, cs, fr, hb⟩
  · exact ⟨.inl h, fun j => ht.1.cell (p := ⟨g, j, none⟩) h⟩
  · have h2 := ht.2 g _ hb (by simpa using h) (fun c fz e => by injection e with _ e2 _; exact absurd e2 (by decide))
    exact ⟨.inr ⟨h, cs, fr, h2⟩, fun j => World.cell?_of_block (h2.trans hb.symm)⟩
/-- A row of nodes that is written. -/
def PR (w : World) (lo hi mb : Nat) (F : Fr) (A : Option Addr) (cap : Nat) : Prop :=
  F.len ≤ cap ∧ cap ≤ maxLen ∧ (0 < F.len → ∃ g, A = some ⟨g, 0, none⟩ ∧ Kp mb w g ∧ ∀ j k n s kids rest, F.drop j = .cons k n s kids rest → ∃ v, w.cell? ⟨g, j, none⟩ = some v ∧ NdV w lo hi k n s kids v)
theorem PR.keep {w w' : World} {lo hi mb : Nat} {F : Fr} {A : Option Addr} {cap : Nat} (h : PR w lo hi mb F A cap) (hh : hi ≤ mb) (ht : TF mb w w') : PR w' lo hi mb F A cap := by
  refine ⟨h.1, h.2.1, fun hp => ?_⟩
  obtain ⟨g, e, hk, hall⟩ := h.2.2 hp
  refine ⟨g, e, (hk.keep ht).1, fun j k n s kids rest hd => ?_⟩
  obtain ⟨v, hc, hv⟩ := hall j k n s kids rest hd
  exact ⟨v, ((hk.keep ht).2 j).trans hc, hv.keep (fun p _ hp => ht.1.cell (by omega)) (Nat.le_refl _) (Nat.le_refl _)⟩
theorem PR.old {w : World} {lo hi mb : Nat} {f : Fr} {A : Option Addr} {cap : Nat} (h : NdS w lo hi f A cap) (hh : hi ≤ mb) : PR w lo hi mb f A cap := by
  refine ⟨h.1, h.2.1, fun hp => ?_⟩
  obtain ⟨b, e, hl, hb, hrow⟩ := h.2.2 hp
  refine ⟨b, e, .inl (by omega), fun j k n s kids rest hd => ?_⟩
  obtain ⟨v, hc, hv⟩ := hrow.elem hd
  rw [Nat.zero_add] at hc
  exact ⟨v, hc, hv⟩
theorem ndesc_at {w : World} {lo hi : Nat} : ∀ (F : Fr) (xs : List Value), NDesc w lo hi F xs → ∀ j k n s kids rest, F.drop j = .cons k n s kids rest → ∃ v, xs[j]? = some v ∧ NdV w lo hi k n s kids v
  | .nil, xs, _, j, k, n, s, kids, rest, hd => by cases j <;> cases hd
  | .cons k' n' s' kids' rest', xs, h, 0, k, n, s, kids, rest, hd => by
    obtain ⟨x, ys, rfl, hx, _⟩ := h
    injection hd with h1 h2 h3 h4 h5
    subst h1 h2 h3 h4
    exact ⟨x, rfl, hx⟩
  | .cons k' n' s' kids' rest', xs, h, j + 1, k, n, s, kids, rest, hd => by
    obtain ⟨x, ys, rfl, _, h2⟩ := h
    obtain ⟨v, hv, hn⟩ := ndesc_at rest' ys h2 j k n s kids rest hd
    exact ⟨v, by simpa using hv, hn⟩
theorem PR.new {w w' : World} {lo hi mb : Nat} {F : Fr} {v : Value} {xs : List Value} (h : w'.ownsRow w.heap.size 65 1 v F.len xs) (hD : NDesc w lo hi F xs) (hb : Below w.heap.size w w') (hh : hi ≤ mb) (hm : mb < w.heap.size) : ∃ A cap, v = .slice A F.len cap ∧ PR w' lo hi mb F A cap := by
  rcases h.2 with ⟨rfl, h0⟩ | ⟨g, cap, cur, rfl, hbg, hg, hnc, hcm, hcs, htake⟩
  · exact ⟨none, 0, by rw [h0], by omega, Nat.zero_le _, fun hp => by omega⟩
  · refine ⟨some ⟨g, 0, none⟩, cap, rfl, hnc, hcm, fun _ => ⟨g, rfl, .inr ⟨by omega, _, _, hg⟩, fun j k n s kids rest hd => ?_⟩⟩
    obtain ⟨u, hu, hn⟩ := ndesc_at F xs hD j k n s kids rest hd
    refine ⟨u, ?_, hn.keep (fun p _ hp => hb.cell (by omega)) (Nat.le_refl _) (Nat.le_refl _)⟩
    have h3 := World.ownsRow.cells h (g := g) rfl j u hu
    have e : (⟨g, 0, none⟩ : Addr).add j = ⟨g, j, none⟩ := by unfold Addr.add; split <;> simp_all
    rwa [e] at h3
/-- What is still to be written of a row, from element j on. -/
def remB (j : Nat) (f : Fr) : List UInt8 := if j = 0 then (match txs f with | [] => [] | t :: ts => t ++ ts.flatMap (fun x => 44 :: x)) else (txs f).flatMap (fun x => 44 :: x)
theorem remB_zero (k n : Int) (s : ByteArray) (kids rest : Fr) : remB 0 (.cons k n s kids rest) = txT k n s kids ++ remB 1 rest := by
  unfold remB
  rw [if_pos rfl, if_neg (by decide), txs_cons]
theorem remB_step (j : Nat) (hj : j ≠ 0) (k n : Int) (s : ByteArray) (kids rest : Fr) : remB j (.cons k n s kids rest) = 44 :: (txT k n s kids ++ remB (j + 1) rest) := by
  unfold remB
  rw [if_neg hj, if_neg (by omega), txs_cons, List.flatMap_cons]
  rfl
theorem remB_nil (j : Nat) : remB j .nil = [] := by unfold remB; split <;> rfl
theorem moreB_rem (f : Fr) (h : f.len ≠ 0) : moreB 0 f = 40 :: remB 0 f := by
  cases f with
  | nil => exact absurd rfl h
  | cons k n s kids rest => rfl
theorem fr_facts (N : Nat) : ∀ (k n : Int) (s : ByteArray) (f : Fr) (d : Int), f.size ≤ N → shapeT k n s f d = true → shapeF (fronts k s f) d = true ∧ (∀ j k' n' s' kids rest, (fronts k s f).drop j = .cons k' n' s' kids rest → kids.size < f.size) ∧ ∀ k' n' s' f', tails k n s f = .cons k' n' s' f' .nil → shapeT k' n' s' f' d = true ∧ f'.size ≤ f.size ∧ (pairB k s f.len = true → f'.size < f.size) := by
  induction N with
  | zero =>
    intro k n s f d hf hs
    have hp : pairB k s f.len = false := by
      cases f with
      | nil => unfold pairB; simp [Fr.len]
      | cons _ _ _ _ _ => simp [Fr.size] at hf
    rw [(pair_no n hp).1, (pair_no n hp).2]
    refine ⟨rfl, fun j _ _ _ _ _ h => by (cases j <;> cases h), fun k' n' s' f' h => ?_⟩
    simp only [Fr.cons.injEq, and_true] at h
    obtain ⟨rfl, rfl, rfl, rfl⟩ := h
    exact ⟨hs, Nat.le_refl _, fun e => by rw [hp] at e; cases e⟩
  | succ N ih =>
    intro k n s f d hf hs
    cases hp : pairB k s f.len
    · rw [(pair_no n hp).1, (pair_no n hp).2]
      refine ⟨rfl, fun j _ _ _ _ _ h => by (cases j <;> cases h), fun k' n' s' f' h => ?_⟩
      simp only [Fr.cons.injEq, and_true] at h
      obtain ⟨rfl, rfl, rfl, rfl⟩ := h
      exact ⟨hs, Nat.le_refl _, fun e => by cases e⟩
    · obtain ⟨k1, n1, s1, kd1, k2, n2, s2, kd2, rfl, hfr, htl⟩ := pair_yes n hp
      have hk := shapeT_kids hs
      rw [shapeF_cons, shapeF_cons, Bool.and_eq_true, Bool.and_eq_true] at hk
      have up : ∀ {k n : Int} {s : ByteArray} {f : Fr}, shapeT k n s f (d - 1) = true → shapeT k n s f d = true := fun {k n s f} h => by
        have := shapeF_mono (.cons k n s f .nil) (d - 1) d (by omega) (by rw [shapeF_cons, h]; rfl)
        rw [shapeF_cons, Bool.and_eq_true] at this
        exact this.1
      simp only [Fr.size] at hf
      obtain ⟨a1, a2, a3⟩ := ih k2 n2 s2 kd2 d (by omega) (up hk.2.1)
      rw [hfr, htl]
      refine ⟨by rw [shapeF_cons, up hk.1, a1]; rfl, fun j k' n' s' kids rest h => ?_, fun k' n' s' f' h => ?_⟩
      · cases j with
        | zero =>
          injection h with h1 h2 h3 h4 h5
          subst h4
          simp only [Fr.size]; omega
        | succ j =>
          have := a2 j k' n' s' kids rest h
          simp only [Fr.size]; omega
      · obtain ⟨b1, b2, _⟩ := a3 k' n' s' f' h
        exact ⟨b1, by simp only [Fr.size]; omega, fun _ => by simp only [Fr.size]; omega⟩

abbrev Pow10 (mb : Nat) (w : World) : Prop := Lib.TabBelow Tryz.prog mb w "internal/strconv.uint64pow10" .u64 Lib.pow10Tab
def TwC (s : ByteArray) (f : Fr) : Prop := ∀ (k n d : Int) (v : Value) (lo hi mb : Nat) (bs : List UInt8) (w : World), shapeT k n s f d = true → NdV w lo hi k n s f v → hi ≤ mb → TW mb bs w → bs.length + (txT k n s f).length ≤ 1073741824 → Pow10 mb w → nodes f ≤ 1048576 →
  Calls Tryz.prog 35 #[.pointer (some ⟨mb, 0, none⟩), v] w fun e w' => e = .returned (.tuple #[]) ∧ TW mb (bs ++ txT k n s f) w' ∧ TF mb w w'

set_option maxRecDepth 100000 in
set_option maxHeartbeats 4000000 in
/-- termWriter.writeParts. -/
theorem parts_of (F : Fr) (h : ∀ j k n s kids rest, F.drop j = .cons k n s kids rest → TwC s kids) (d : Int) (A : Option Addr) (cap lo hi mb : Nat) (bs : List UInt8) (w : World) (hs : shapeF F d = true) (hp : PR w lo hi mb F A cap) (hh : hi ≤ mb) (hw : TW mb bs w) (hl : bs.length + (remB 0 F).length ≤ 1073741824) (ht : Pow10 mb w) (hnd : nodes F ≤ 1048576) :
    Calls Tryz.prog 57 #[.pointer (some ⟨mb, 0, none⟩), .slice A F.len cap] w fun e w' => e = .returned (.tuple #[]) ∧ TW mb (bs ++ remB 0 F) w' ∧ TF mb w w' := by
  have hlen : F.len ≤ 1048576 := by have := len_le_nodes F; omega
  obtain ⟨i0, hi0, hz0, hz1, hz2⟩ := info_parts infoU8
  have HP := Lib.hid hp
  have HH := Lib.hid h
  have HS := Lib.hid hs
  have HHI := Lib.hid hh
  have HW := Lib.hid hw
  have HL := Lib.hid hl
  have HT := Lib.hid ht
  have HND := Lib.hid hnd
  clear h hs hp hh hw hl ht hnd
  generalize hn : F.len = len at *
  have HN := Lib.hid hn
  clear hn
  go_enter Tryz.func57, Tryz.ntmps57
  go_wp2_with fail
  go_loopw [8] (fun i wr => ∃ (j : Nat) (b2 : List UInt8), j ≤ len ∧ i = .int .i64 j ∧ TW mb b2 wr ∧ TF mb w wr ∧ b2 ++ remB j (F.drop j) = bs ++ remB 0 F) (fun i _ => len - (intOf i).toNat)
  case atStart => exact ⟨0, bs, Nat.zero_le _, rfl, HW.out, TF.refl _ _, rfl⟩
  case round =>
    obtain ⟨j, b2, hj, rfl, hw, htf, hb⟩ := hrel
    by_cases hlt : j < len
    · obtain ⟨kk, nn, ss, kids, hd⟩ := Fr.drop_cons j F (by rw [HN.out]; exact hlt)
      have hp := HP.out.keep HHI.out htf
      obtain ⟨g, rfl, hkp, hall⟩ := hp.2.2 (by rw [HN.out]; omega)
      obtain ⟨gv, hc, hv⟩ := hall j _ _ _ _ _ hd
      have hsh := shape_drop F j d hd HS.out
      have C := HH.out j _ _ _ _ _ hd
      rw [hd] at hb
      obtain ⟨tv, hq, ho⟩ := hw
      obtain ⟨A0, c0, rfl, hc1, hc2⟩ := row_form ho
      have y0 := hq.cell 0
      have y1 := hq.cell 1
      have yf := hq.frozen 0
      simp only [List.getElem?_toArray, List.getElem?_cons_zero, List.getElem?_cons_succ] at y0 y1
      unfold fW at y1
      have hmw := hq.lt
      have hndk : nodes kids ≤ 1048576 := Nat.le_trans (nodes_drop_elem j F hd) HND.out
      have HBB := Lib.hid hb
      have HTF := Lib.hid htf
      have HV := Lib.hid hv
      have HSH := Lib.hid hsh
      have HC := Lib.hid C
      have HO := Lib.hid ho
      have HQ := Lib.hid hq
      have HNK := Lib.hid hndk
      obtain ⟨T0, x0, rfl⟩ := hv.iface
      have hbl := congrArg List.length hb
      clear hb htf hv hsh C ho hq hall hkp hp hndk hd
      have hBL := HL.out
      by_cases hj0 : j = 0
      · subst hj0
        have hstep : b2 ++ (txT kk nn ss kids ++ remB 1 (F.drop 1)) = bs ++ remB 0 F := by have := HBB.out; rwa [remB_zero] at this
        have HST := Lib.hid hstep
        have hll : b2.length + (txT kk nn ss kids).length ≤ 1073741824 := by have := congrArg List.length hstep; simp only [List.length_append] at this; omega
        have C2 := HC.out kk nn d (.iface T0 x0) lo hi mb b2 wr HSH.out HV.out HHI.out ⟨_, HQ.out, HO.out⟩ hll (HT.out.on HTF.out.1) HNK.out
        have H2 := Lib.hid C2
        clear C2 hstep hbl hll
        go_wp2_with fail
        refine H2.out.mono ?_
        rintro e w3 ⟨rfl, hw3, htf3⟩
        have HW3 := Lib.hid hw3
        have HTF3 := Lib.hid (HTF.out.trans htf3)
        have HE3 : Hid ((b2 ++ txT kk nn ss kids) ++ remB (0 + 1) (F.drop (0 + 1)) = bs ++ remB 0 F) := Lib.hid (by rw [List.append_assoc]; exact HST.out)
        clear hw3 htf3
        go_wp2_with fail
        go_roundw
        case rel => exact ⟨0 + 1, _, by omega, by go_num, HW3.out, HTF3.out, HE3.out⟩
        case measure => simp [intOf]; omega
      · have hstep : b2 ++ 44 :: (txT kk nn ss kids ++ remB (j + 1) (F.drop (j + 1))) = bs ++ remB 0 F := by have := HBB.out; rwa [remB_step j hj0] at this
        have HST := Lib.hid hstep
        have hll : b2.length + 1 + (txT kk nn ss kids).length ≤ 1073741824 := by have := congrArg List.length hstep; simp only [List.length_append, List.length_cons] at this; omega
        have hjp : (0 : Int) < j := by omega
        clear hstep hbl
        go_wp2_with (at_builtin; go_must (refine wpList_append_lies _ rfl _ _ _ rfl (mb + 1) 5 i0 _ 1 1 Tryz.underlying56 hi0 hz0 hz1 hz2 rfl (by omega) _ (b2).length (Lib.byteCells (b2)) rfl (HO.out.alloc _) ⟨wr.heap.size, 0, none⟩ 1 1 [.int .u8 44] rfl rfl (World.news_of_block (cs := #[.int .u8 44]) (t := 5) (fr := (0, 0)) (Blk.new wr 5 #[.int .u8 44])) (by simp [Value.oneCell']) (by omega) (by unfold maxLen; omega) (by omega) (by simp; omega) (wr.heap.size + 1) (by simp) ?_); intro g9 cap9 w9 hown9 hgrow9 _ _; have hst9 := TW.step1 (c := 44) HQ.out HO.out rfl hgrow9 hown9; have y9 := hst9.2.2.cell 0; have yf9 := hst9.2.2.frozen 0; simp only [List.getElem?_toArray, List.getElem?_cons_zero] at y9; have HS9 := Lib.hid (And.intro hst9.1 hst9.2.1); clear hown9 hgrow9 hst9; refine Hid.out ?_)
        refine Lib.hid ?_
        have HTF9 := HTF.out.trans HS9.out.2
        obtain ⟨tv9, hq9, ho9⟩ := HS9.out.1
        have C2 := HC.out kk nn d (.iface T0 x0) lo hi mb (b2 ++ [44]) _ HSH.out (HV.out.keep (fun p _ hp => HS9.out.2.1.cell (by have := HHI.out; omega)) (Nat.le_refl _) (Nat.le_refl _)) HHI.out HS9.out.1 (by simp only [List.length_append, List.length_cons, List.length_nil]; omega) (HT.out.on HTF9.1) HNK.out
        have z1 := hq9.cell 1
        simp only [List.getElem?_toArray, List.getElem?_cons_zero, List.getElem?_cons_succ] at z1
        unfold fW at z1
        have H2 := Lib.hid C2
        have HTF10 := Lib.hid HTF9
        clear C2 HTF9 hq9 ho9
        go_wp2_with fail
        refine H2.out.mono ?_
        rintro e w3 ⟨rfl, hw3, htf3⟩
        have HW3 := Lib.hid hw3
        have HTF3 := Lib.hid (HTF10.out.trans htf3)
        have HE3 : Hid ((b2 ++ [44] ++ txT kk nn ss kids) ++ remB (j + 1) (F.drop (j + 1)) = bs ++ remB 0 F) := Lib.hid (by rw [← HST.out]; simp)
        clear hw3 htf3
        go_wp2_with fail
        go_roundw
        case rel => exact ⟨j + 1, _, by omega, by go_num, HW3.out, HTF3.out, HE3.out⟩
        case measure => simp [intOf]; omega
    · obtain rfl : j = len := by omega
      have hfin : b2 = bs ++ remB 0 F := by
        have h1 := Fr.drop_len F
        rw [HN.out] at h1
        rw [← hb, h1, remB_nil, List.append_nil]
      have HFN : Hid (TW mb (bs ++ remB 0 F) wr ∧ TF mb w wr) := Lib.hid (by rw [← hfin]; exact ⟨hw, htf⟩)
      clear hw htf hb hfin
      go_wp2_with fail
      go_end0
      exact ⟨rfl, HFN.out⟩
end Go.Proofs.YtohkpgpcipjpkaaGreatDoor

/- impl.termWriter: writeList, writeTerm. Condition: the nodes lie in memory below the writer and are well-formed; the table of powers of ten in its variable. -/
namespace Go.Proofs.YtohkpgpcipjpkaaGreatDoor
open Go.RowKit

theorem txT_rem {k n : Int} {s : ByteArray} {f : Fr} (hp : pairB k s f.len = true) {k' n' : Int} {s' : ByteArray} {f' : Fr} (ht : tails k n s f = .cons k' n' s' f' .nil) : txT k n s f = 91 :: (remB 0 (fronts k s f) ++ (endB k' n' s' f' ++ [93])) := by
  obtain ⟨k1, n1, s1, kd1, r, hf, hx⟩ := txT_list hp ht
  rw [hx, hf, remB_zero]
  unfold remB
  rw [if_neg (by decide)]
  simp
set_option maxRecDepth 100000 in
set_option maxHeartbeats 4000000 in
/-- termWriter.writeList. -/
theorem wlist_of (k n d : Int) (s : ByteArray) (f : Fr) (hp : pairB k s f.len = true) (hs : shapeT k n s f d = true) (h : ∀ s' f', f'.size < f.size → TwC s' f') (A : Option Addr) (cap lo hi mb : Nat) (bs : List UInt8) (w : World) (hr : PR w lo hi mb (fronts k s f) A cap)
    (k' n' : Int) (s' : ByteArray) (f' : Fr) (htl : tails k n s f = .cons k' n' s' f' .nil) (v : Value) (hv : NdV w lo hi k' n' s' f' v) (hh : hi ≤ mb) (hw : TW mb bs w) (hl : bs.length + (txT k n s f).length ≤ 1073741824) (ht : Pow10 mb w) (hnf : nodes (fronts k s f) ≤ 1048576) (hnt : nodes f' ≤ 1048576) :
    Calls Tryz.prog 56 #[.pointer (some ⟨mb, 0, none⟩), .slice A (fronts k s f).len cap, v] w fun e w' => e = .returned (.tuple #[]) ∧ TW mb (bs ++ txT k n s f) w' ∧ TF mb w w' := by
  obtain ⟨i0, hi0, hz0, hz1, hz2⟩ := info_parts infoU8
  obtain ⟨a1, a2, a3⟩ := fr_facts f.size k n s f d (Nat.le_refl _) hs
  obtain ⟨b1, _, b3⟩ := a3 k' n' s' f' htl
  have hb3 := b3 hp
  have hT := txT_rem hp htl
  rw [hT] at hl ⊢
  simp only [List.length_cons, List.length_append, List.length_nil] at hl
  have hm0 : mb < w.heap.size := by obtain ⟨_, hq, _⟩ := hw; exact hq.lt
  have C1 := fun wx (htf : TF mb w wx) (hw : TW mb (bs ++ [91]) wx) => parts_of (fronts k s f) (fun j k n s kids rest hd => h s kids (a2 j k n s kids rest hd)) d A cap lo hi mb (bs ++ [91]) wx a1 (hr.keep hh htf) hh hw (by simp only [List.length_append, List.length_cons, List.length_nil]; omega) (ht.on htf.1) hnf
  have C2 := fun wx (htf : TF mb w wx) => emptyList_any k' n' s' f' v lo hi wx (hv.keep (fun p _ hp => htf.1.cell (by omega)) (Nat.le_refl _) (Nat.le_refl _))
  have C3 := fun wx b2 (htf : TF mb w wx) (hw : TW mb b2 wx) (hl : b2.length + (txT k' n' s' f').length ≤ 1073741824) => h s' f' hb3 k' n' d v lo hi mb b2 wx b1 (hv.keep (fun p _ hp => htf.1.cell (by omega)) (Nat.le_refl _) (Nat.le_refl _)) hh hw hl (ht.on htf.1) hnt
  have HE : Hid (endB k' n' s' f' = if nilB k' s' f'.len = true then [] else 124 :: txT k' n' s' f') := Lib.hid rfl
  obtain ⟨T0, x0, rfl⟩ := hv.iface
  have H1 := Lib.hid C1
  have H3 := Lib.hid C3
  generalize remB 0 (fronts k s f) = RB at *
  generalize (fronts k s f).len = fl at *
  clear C1 C3 hp hs h hr hh ht hnf hnt a1 a2 a3 b1 b3 hb3 hT htl hv
  obtain ⟨tv0, hq0, ho0⟩ := hw
  obtain ⟨A0, c0, rfl, _, _⟩ := row_form ho0
  have p00 := hq0.cell 0
  have p10 := hq0.cell 1
  have pf0 := hq0.frozen 0
  simp only [List.getElem?_toArray, List.getElem?_cons_zero, List.getElem?_cons_succ] at p00 p10
  unfold fW at p10
  have hm0 := hq0.lt
  have HO0 := Lib.hid ho0
  have HQ0 := Lib.hid hq0
  clear hq0 ho0
  go_enter Tryz.func56, Tryz.ntmps56
  go_wp2_with (at_builtin; go_must (refine wpList_append_lies _ rfl _ _ _ rfl (mb + 1) 5 i0 _ 1 1 Tryz.underlying56 hi0 hz0 hz1 hz2 rfl (by omega) _ (bs).length (Lib.byteCells (bs)) rfl (HO0.out.alloc _) ⟨w.heap.size, 0, none⟩ 1 1 [.int .u8 91] rfl rfl (World.news_of_block (cs := #[.int .u8 91]) (t := 5) (fr := (0, 0)) (Blk.new w 5 #[.int .u8 91])) (by simp [Value.oneCell']) (by omega) (by unfold maxLen; omega) (by omega) (by simp; omega) (w.heap.size + 1) (by simp) ?_); intro g1 cap1 w1 hown1 hgrow1 _ _; have hst1 := TW.step1 (c := 91) HQ0.out HO0.out rfl hgrow1 hown1; have y1 := hst1.2.2.cell 0; have yf1 := hst1.2.2.frozen 0; simp only [List.getElem?_toArray, List.getElem?_cons_zero] at y1; have HS1 := Lib.hid (And.intro hst1.1 hst1.2.1); clear hown1 hgrow1 hst1; refine Hid.out ?_)
  refine Lib.hid ?_
  have HTF1 := Lib.hid HS1.out.2
  have hA1 := HS1.out.1
  have C4 := H1.out _ HTF1.out hA1
  have H4 := Lib.hid C4
  clear C4 hA1
  go_wp2_with fail
  refine H4.out.mono ?_
  rintro e w2 ⟨rfl, hw2, htf2⟩
  have HW2 := Lib.hid hw2
  have HTF2 := Lib.hid (HTF1.out.trans htf2)
  have C5 := C2 w2 HTF2.out
  have H5 := Lib.hid C5
  clear hw2 htf2 C5 C2
  go_wp2_with fail
  refine H5.out.mono ?_
  rintro e w3 ⟨rfl, hb3⟩
  have hmb2 : mb ≤ w2.heap.size := Nat.le_trans (Nat.le_of_lt hm0) HTF2.out.1.size
  have HW3 := Lib.hid (HW2.out.below hb3)
  have HTF3 := Lib.hid (HTF2.out.trans (TF.below hb3 hmb2))
  clear hb3
  cases hnil : nilB k' s' f'.len
  · have HEE : Hid (endB k' n' s' f' = 124 :: txT k' n' s' f') := Lib.hid (by rw [HE.out, hnil]; rfl)
    rw [HEE.out] at hl
    simp only [List.length_cons] at hl
    have hz3 : (bs ++ [91] ++ RB).length + (txT k' n' s' f').length + 1 ≤ 1073741824 := by simp only [List.length_append, List.length_cons, List.length_nil]; omega
    have hw3 := HW3.out
    generalize hB3 : bs ++ [91] ++ RB = B3 at *
    have HB3 := Lib.hid hB3
    clear hB3
    clear hnil
    obtain ⟨tv3, hq3, ho3⟩ := hw3
    obtain ⟨A3, c3, rfl, _, _⟩ := row_form ho3
    have p03 := hq3.cell 0
    have p13 := hq3.cell 1
    have pf3 := hq3.frozen 0
    simp only [List.getElem?_toArray, List.getElem?_cons_zero, List.getElem?_cons_succ] at p03 p13
    unfold fW at p13
    have hm3 := hq3.lt
    have HO3 := Lib.hid ho3
    have HQ3 := Lib.hid hq3
    clear hq3 ho3
    go_wp2_with (at_builtin; go_must (refine wpList_append_lies _ rfl _ _ _ rfl (mb + 1) 5 i0 _ 1 1 Tryz.underlying56 hi0 hz0 hz1 hz2 rfl (by omega) _ (B3).length (Lib.byteCells (B3)) rfl (HO3.out.alloc _) ⟨w3.heap.size, 0, none⟩ 1 1 [.int .u8 124] rfl rfl (World.news_of_block (cs := #[.int .u8 124]) (t := 5) (fr := (0, 0)) (Blk.new w3 5 #[.int .u8 124])) (by simp [Value.oneCell']) (by omega) (by unfold maxLen; omega) (by omega) (by simp; omega) (w3.heap.size + 1) (by simp) ?_); intro g4 cap4 w4 hown4 hgrow4 _ _; have hst4 := TW.step1 (c := 124) HQ3.out HO3.out rfl hgrow4 hown4; have y4 := hst4.2.2.cell 0; have yf4 := hst4.2.2.frozen 0; simp only [List.getElem?_toArray, List.getElem?_cons_zero] at y4; have HS4 := Lib.hid (And.intro hst4.1 hst4.2.1); clear hown4 hgrow4 hst4; refine Hid.out ?_)
    refine Lib.hid ?_
    have HTF4 := Lib.hid (HTF3.out.trans HS4.out.2)
    obtain ⟨tv5, hq5, _⟩ := HS4.out.1
    have p15 := hq5.cell 1
    simp only [List.getElem?_toArray, List.getElem?_cons_zero, List.getElem?_cons_succ] at p15
    unfold fW at p15
    have C6 := H3.out _ _ HTF4.out HS4.out.1 (by simp only [List.length_append, List.length_cons, List.length_nil]; omega)
    have H6 := Lib.hid C6
    clear C6 hq5
    go_wp2_with fail
    refine H6.out.mono ?_
    rintro e w6 ⟨rfl, hw6, htf6⟩
    have HTF6 := Lib.hid (HTF4.out.trans htf6)
    have hz6 : (B3 ++ [124] ++ txT k' n' s' f').length ≤ 1073741824 := by simp only [List.length_append, List.length_cons, List.length_nil]; omega
    clear htf6
    generalize hB6 : B3 ++ [124] ++ txT k' n' s' f' = B6 at *
    have HB6 := Lib.hid hB6
    clear hB6
    obtain ⟨tv6, hq6, ho6⟩ := hw6
    obtain ⟨A6, c6, rfl, _, _⟩ := row_form ho6
    have p06 := hq6.cell 0
    have p16 := hq6.cell 1
    have pf6 := hq6.frozen 0
    simp only [List.getElem?_toArray, List.getElem?_cons_zero, List.getElem?_cons_succ] at p06 p16
    unfold fW at p16
    have hm6 := hq6.lt
    have HO6 := Lib.hid ho6
    have HQ6 := Lib.hid hq6
    clear hq6 ho6
    go_wp2_with (at_builtin; go_must (refine wpList_append_lies _ rfl _ _ _ rfl (mb + 1) 5 i0 _ 1 1 Tryz.underlying56 hi0 hz0 hz1 hz2 rfl (by omega) _ (B6).length (Lib.byteCells (B6)) rfl (HO6.out.alloc _) ⟨w6.heap.size, 0, none⟩ 1 1 [.int .u8 93] rfl rfl (World.news_of_block (cs := #[.int .u8 93]) (t := 5) (fr := (0, 0)) (Blk.new w6 5 #[.int .u8 93])) (by simp [Value.oneCell']) (by omega) (by unfold maxLen; omega) (by omega) (by simp; omega) (w6.heap.size + 1) (by simp) ?_); intro g7 cap7 w7 hown7 hgrow7 _ _; have hst7 := TW.step1 (c := 93) HQ6.out HO6.out rfl hgrow7 hown7; have y7 := hst7.2.2.cell 0; have yf7 := hst7.2.2.frozen 0; simp only [List.getElem?_toArray, List.getElem?_cons_zero] at y7; have HS7 := Lib.hid (And.intro hst7.1 hst7.2.1); clear hown7 hgrow7 hst7; refine Hid.out ?_)
    refine Lib.hid ?_
    have HFN : Hid (TW mb (bs ++ 91 :: (RB ++ (endB k' n' s' f' ++ [93]))) _ ∧ TF mb w _) := Lib.hid ⟨by
      have e : B6 ++ [93] = bs ++ 91 :: (RB ++ (endB k' n' s' f' ++ [93])) := by rw [← HB6.out, ← HB3.out, HEE.out]; simp
      rw [← e]; exact HS7.out.1, HTF6.out.trans HS7.out.2⟩
    go_wp2_with fail
    go_end0
    exact ⟨rfl, HFN.out⟩
  · have HEE : Hid (endB k' n' s' f' = []) := Lib.hid (by rw [HE.out, hnil]; rfl)
    have hz3 : (bs ++ [91] ++ RB).length ≤ 1073741824 := by simp only [List.length_append, List.length_cons, List.length_nil]; omega
    have hw3 := HW3.out
    generalize hB3 : bs ++ [91] ++ RB = B3 at *
    have HB3 := Lib.hid hB3
    clear hB3
    clear hnil
    obtain ⟨tv8, hq8, ho8⟩ := hw3
    obtain ⟨A8, c8, rfl, _, _⟩ := row_form ho8
    have p08 := hq8.cell 0
    have p18 := hq8.cell 1
    have pf8 := hq8.frozen 0
    simp only [List.getElem?_toArray, List.getElem?_cons_zero, List.getElem?_cons_succ] at p08 p18
    unfold fW at p18
    have hm8 := hq8.lt
    have HO8 := Lib.hid ho8
    have HQ8 := Lib.hid hq8
    clear hq8 ho8
    go_wp2_with (at_builtin; go_must (refine wpList_append_lies _ rfl _ _ _ rfl (mb + 1) 5 i0 _ 1 1 Tryz.underlying56 hi0 hz0 hz1 hz2 rfl (by omega) _ (B3).length (Lib.byteCells (B3)) rfl (HO8.out.alloc _) ⟨w3.heap.size, 0, none⟩ 1 1 [.int .u8 93] rfl rfl (World.news_of_block (cs := #[.int .u8 93]) (t := 5) (fr := (0, 0)) (Blk.new w3 5 #[.int .u8 93])) (by simp [Value.oneCell']) (by omega) (by unfold maxLen; omega) (by omega) (by simp; omega) (w3.heap.size + 1) (by simp) ?_); intro g9 cap9 w9 hown9 hgrow9 _ _; have hst9 := TW.step1 (c := 93) HQ8.out HO8.out rfl hgrow9 hown9; have y9 := hst9.2.2.cell 0; have yf9 := hst9.2.2.frozen 0; simp only [List.getElem?_toArray, List.getElem?_cons_zero] at y9; have HS9 := Lib.hid (And.intro hst9.1 hst9.2.1); clear hown9 hgrow9 hst9; refine Hid.out ?_)
    refine Lib.hid ?_
    have HFN : Hid (TW mb (bs ++ 91 :: (RB ++ (endB k' n' s' f' ++ [93]))) _ ∧ TF mb w _) := Lib.hid ⟨by
      have e : B3 ++ [93] = bs ++ 91 :: (RB ++ (endB k' n' s' f' ++ [93])) := by rw [← HB3.out, HEE.out]; simp
      rw [← e]; exact HS9.out.1, HTF3.out.trans HS9.out.2⟩
    go_wp2_with fail
    go_end0
    exact ⟨rfl, HFN.out⟩
end Go.Proofs.YtohkpgpcipjpkaaGreatDoor
