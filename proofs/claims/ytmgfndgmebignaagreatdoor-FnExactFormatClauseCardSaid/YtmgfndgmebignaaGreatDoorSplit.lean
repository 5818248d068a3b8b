/- impl.splitList: the elements with which a node begins as a list, and what follows. Condition: the node lies in memory. -/
import Derived.Test.YtmgfndgmebignaaGreatDoorProg
import Derived.Test.YtmgfndgmebignaaGreatDoorPair
import Derived.Test.YtmgfndgmebignaaGreatDoorAs
import Derived.Test.YtmgfndgmebignaaGreatDoorSpecL
import Derived.Deep.AppendLies
namespace Go.Proofs.YtmgfndgmebignaaGreatDoor
open Go.RowKit

/-- The values xs are the nodes of the row f. -/
def NDesc (w : World) (lo hi : Nat) : Fr → List Value → Prop
  | .nil, xs => xs = []
  | .cons k n s kids rest, xs => ∃ x ys, xs = x :: ys ∧ NdV w lo hi k n s kids x ∧ NDesc w lo hi rest ys
section
variable {w w' : World} {lo hi : Nat}
theorem NDesc.len (f : Fr) : ∀ xs, NDesc w lo hi f xs → xs.length = f.len := by
  induction f with
  | nil => rintro xs rfl; rfl
  | cons k n s kids rest _ ih =>
    rintro xs ⟨x, ys, rfl, _, h⟩
    simp only [List.length_cons, Fr.len, ih ys h]
theorem NDesc.snoc (f : Fr) {k n : Int} {s : ByteArray} {kids : Fr} {x : Value} (hx : NdV w lo hi k n s kids x) : ∀ xs, NDesc w lo hi f xs → NDesc w lo hi (f.app (.cons k n s kids .nil)) (xs ++ [x]) := by
  induction f with
  | nil => rintro xs rfl; exact ⟨x, [], rfl, hx, rfl⟩
  | cons k' n' s' kids' rest _ ih =>
    rintro xs ⟨y, ys, rfl, hy, h⟩
    exact ⟨y, _, rfl, hy, ih ys h⟩
theorem NDesc.row {lo' hi' g : Nat} (hk : ∀ p : Addr, lo ≤ p.block → p.block < hi → w'.cell? p = w.cell? p) (hL : lo' ≤ lo) (hH : hi ≤ hi') (f : Fr) : ∀ xs o, NDesc w lo hi f xs → (∀ j u, xs[j]? = some u → w'.cell? ⟨g, o + j, none⟩ = some u) → NdRow w' lo' hi' f g o := by
  induction f with
  | nil => intro xs o _ _; trivial
  | cons k n s kids rest _ ih =>
    rintro xs o ⟨x, ys, rfl, hx, h⟩ hc
    refine ⟨⟨x, hc 0 x rfl, ?_⟩, ih ys (o + 1) h fun j u hu => ?_⟩
    · rcases hx.keep hk hL hH with h | h | ⟨h1, A, cap, h2, h3⟩
      · exact .inl h
      · exact .inr (.inl h)
      · exact .inr (.inr ⟨h1, A, cap, h2, h3.1, h3.2.1, h3.2.2⟩)
    · have := hc (j + 1) u (by simpa using hu)
      rwa [show o + (j + 1) = o + 1 + j by omega] at this
end

/-- What splitList answers. -/
def SplitRes (w : World) (F T : Fr) (e : Ending) (w' : World) : Prop :=
  Below w.heap.size w w' ∧ ∃ A cap v', e = .returned (.tuple #[.slice A F.len cap, v']) ∧ NdS w' 0 w'.heap.size F A cap ∧ ∃ k n s f, T = .cons k n s f .nil ∧ NdV w' 0 w'.heap.size k n s f v'
/-- The loop's relation. -/
def SpP (w : World) (lo hi : Nat) (F T : Fr) (k n : Int) (s : ByteArray) (f : Fr) (x : Value) (acc : Fr) (v : Value) (wr : World) : Prop :=
  NdV w lo hi k n s f x ∧ (∃ xs, wr.ownsRow w.heap.size 105 1 v acc.len xs ∧ NDesc w lo hi acc xs) ∧ acc.app (fronts k s f) = F ∧ tails k n s f = T ∧ Below w.heap.size w wr
/-- What splitList answers, by the blocks: the row is new, the nodes are the old ones. -/
def SplitR2 (w : World) (lo hi : Nat) (F T : Fr) (e : Ending) (w' : World) : Prop :=
  Below w.heap.size w w' ∧ ∃ v v', e = .returned (.tuple #[v, v']) ∧ (∃ xs, w'.ownsRow w.heap.size 105 1 v F.len xs ∧ NDesc w lo hi F xs) ∧ ∃ k n s f, T = .cons k n s f .nil ∧ NdV w lo hi k n s f v'
theorem SpP.fin {w wr : World} {lo hi : Nat} {F T : Fr} {k n : Int} {s : ByteArray} {f : Fr} {x : Value} {acc : Fr} {v : Value} (h : SpP w lo hi F T k n s f x acc v wr) (hp : pairB k s f.len = false) (o : Obj) :
    SplitR2 w lo hi F T (.returned (.tuple #[v, x])) (wr.alloc o) := by
  obtain ⟨hx, ⟨xs, ho, hD⟩, hF, hT, hb⟩ := h
  rw [(pair_no n hp).1, app_nil] at hF
  rw [(pair_no n hp).2] at hT
  subst hF hT
  exact ⟨hb.alloc hb.size o, v, x, rfl, ⟨xs, ho.alloc o, hD⟩, k, n, s, f, rfl, hx⟩
theorem SplitR2.res {w w' : World} {lo hi : Nat} {F T : Fr} {e : Ending} (h : SplitR2 w lo hi F T e w') (hh : hi ≤ w.heap.size) : SplitRes w F T e w' := by
  obtain ⟨hb2, v, x, rfl, ⟨xs, ho2, hD⟩, k, n, s, f, rfl, hx⟩ := h
  have hk : ∀ p : Addr, lo ≤ p.block → p.block < hi → w'.cell? p = w.cell? p := fun p _ hp => hb2.cell (by omega)
  refine ⟨hb2, ?_⟩
  rcases ho2.2 with ⟨rfl, h0⟩ | ⟨g, cap, cur, rfl, hbg, hg, hnc, hcm, hcs, htake⟩
  · have hnil : F = .nil := by
      cases F with
      | nil => rfl
      | cons _ _ _ _ _ => simp [Fr.len] at h0
    subst hnil
    exact ⟨none, 0, x, rfl, ⟨Nat.le_refl _, Nat.zero_le _, fun h => absurd h (Nat.lt_irrefl 0)⟩, k, n, s, f, rfl, hx.keep hk (Nat.zero_le _) (Nat.le_trans hh hb2.size)⟩
  · refine ⟨_, cap, x, rfl, ⟨hnc, hcm, fun _ => ⟨g, rfl, Nat.zero_le _, Blk.lt hg, ?_⟩⟩, k, n, s, f, rfl, hx.keep hk (Nat.zero_le _) (Nat.le_trans hh hb2.size)⟩
    refine NDesc.row hk (Nat.zero_le _) (Nat.le_trans hh hb2.size) F xs 0 hD fun j u hu => ?_
    have h3 := (World.ownsRow.cells ho2 (g := g) rfl) j u hu
    have e : (⟨g, 0, none⟩ : Addr).add j = ⟨g, 0 + j, none⟩ := by unfold Addr.add; split <;> simp_all
    rwa [e] at h3

set_option maxRecDepth 100000 in
set_option maxHeartbeats 8000000 in
/-- impl.splitList, by the blocks. -/
theorem split2_any (k n : Int) (s : ByteArray) (f : Fr) (v : Value) (lo hi : Nat) (w : World) (hv : NdV w lo hi k n s f v) (hh : hi ≤ w.heap.size) (hnd : nodes f ≤ 1048576) :
    Calls Tryz.prog 116 #[v] w fun e w' => SplitR2 w lo hi (fronts k s f) (tails k n s f) e w' := by
  have hst : SpP w lo hi (fronts k s f) (tails k n s f) k n s f v .nil (.slice none 0 0) w := ⟨hv, ⟨[], World.ownsRow_nil w _ _ _, rfl⟩, rfl, rfl, Below.refl _ _⟩
  have HST := Lib.hid hst
  have HND := Lib.hid hnd
  have HHI := Lib.hid hh
  obtain ⟨i0, hi0, hz0, hz1, hz2⟩ := info_parts infoN
  clear hst hnd hh
  obtain ⟨T0, x0, rfl⟩ := hv.iface
  clear hv
  go_enter Tryz.func116, Tryz.ntmps116
  go_wp2_with fail
  go_loopw [4, 0] (fun u x wr => ∃ (k' n' : Int) (s' : ByteArray) (f' acc : Fr) (v x' : Value), v = u ∧ x' = x ∧ SpP w lo hi (fronts k s f) (tails k n s f) k' n' s' f' x' acc v wr) (fun u _ _ => (fronts k s f).len - lenOf u)
  case atStart => exact ⟨_, _, _, _, _, _, _, rfl, rfl, HST.out⟩
  case round =>
    obtain ⟨k', n', s', f', acc, v, x', rfl, rfl, hp⟩ := hrel
    cases hpb : pairB k' s' f'.len
    · have HR := Lib.hid fun o => hp.fin hpb o
      obtain ⟨hx, -, -, -, -⟩ := hp
      rcases hx with ⟨rfl, rfl⟩ | ⟨rfl, rfl⟩ | ⟨rfl, A, cap, rfl, hk⟩
      · clear hpb
        go_wp2_with fail
        go_ret2
        exact HR.out _
      · clear hpb
        go_wp2_with fail
        go_ret2
        exact HR.out _
      · clear hk
        generalize f'.len = len at *
        cases h2 : dotB s'
        · have t1 : (s'.toList == [46]) = false := by rw [ByteArray.toList_eq]; exact h2
          have t2 : (!(s'.toList == [46])) = true := by rw [t1]; rfl
          have t3 : (s'.toList != [46]) = true := t2
          clear h2 hpb
          go_wp2_with fail
          go_ret2
          exact HR.out _
        · have t1 : (s'.toList == [46]) = true := by rw [ByteArray.toList_eq]; exact h2
          have t3 : (s'.toList != [46]) = false := by show (!(s'.toList == [46])) = false; rw [t1]; rfl
          have h3 : ¬ len = 2 := fun e => by subst e; simp [pairB, h2] at hpb
          have t4 : ((len : Int) != 2) = true := by simp; omega
          clear h2 hpb h3
          go_wp2_with fail
          go_ret2
          exact HR.out _
    · obtain ⟨hl2, rfl, hdot⟩ := pairB_len hpb
      obtain ⟨k1, n1, s1, kd1, k2, n2, s2, kd2, rfl, hfr, htl⟩ := pair_yes n' hpb
      obtain ⟨hx, ⟨xs, hown, hD⟩, hF, hT, hb⟩ := hp
      rcases hx with ⟨h, _⟩ | ⟨h, _⟩ | ⟨_, A, cap, rfl, hk⟩
      · omega
      · omega
      obtain ⟨b, rfl, hlb, hbb, hrow⟩ := hk.2.2 (by simp [Fr.len])
      obtain ⟨y1, d0, hv1⟩ := hrow.elem (i := 0) rfl
      obtain ⟨y2, d1, hv2⟩ := hrow.elem (i := 1) rfl
      simp only [Nat.add_zero, Nat.zero_add] at d0 d1
      have hHI := HHI.out
      have hlo : b < w.heap.size := by omega
      have c0 := (hb.cell (p := ⟨b, 0, none⟩) hlo).trans d0
      have hcap := hk.2.1
      have hcl := hk.1
      have t1 : (s'.toList == [46]) = true := by rw [ByteArray.toList_eq]; exact hdot
      have t3 : (s'.toList != [46]) = false := by show (!(s'.toList == [46])) = false; rw [t1]; rfl
      have hvl := hown.lt
      have hacc : acc.len < 1048577 := by
        have h1 := congrArg Fr.len hF
        have h2 := len_le_nodes (fronts k s f)
        rw [Fr.len_app] at h1
        have h3 := fronts_nodes k s f
        have := HND.out
        omega
      have hmeas : (fronts k s f).len - (acc.len + 1) < (fronts k s f).len - lenOf v := by
        have h1 := congrArg Fr.len hF
        rw [Fr.len_app, hfr] at h1
        simp only [Fr.len] at h1
        have hlv : lenOf v = acc.len := by
          rcases hown.2 with ⟨rfl, h0⟩ | ⟨g, cap', cur, rfl, _⟩
          · simp only [lenOf]; omega
          · rfl
        rw [hlv]
        omega
      obtain ⟨T1, z1, rfl⟩ := hv1.iface
      have hbs := hb.size
      have STEP : ∀ w6 g cap4, (((wr.alloc (.cells #[.string s', .slice (some ⟨b, 0, none⟩) (Fr.cons k1 n1 s1 kd1 (.cons k2 n2 s2 kd2 .nil)).len cap] 116)).alloc (.cells #[.iface T1 z1] 105)).grownBy w6 v.ownBlock) → w6.ownsRow w.heap.size 105 1 (.slice (some ⟨g, 0, none⟩) (acc.len + 1) cap4) (acc.len + 1) (xs ++ [.iface T1 z1]) →
          SpP w lo hi (fronts k s f) (tails k n s f) k2 n2 s2 kd2 y2 (acc.app (.cons k1 n1 s1 kd1 .nil)) (.slice (some ⟨g, 0, none⟩) (acc.len + 1) cap4) w6 ∧ w6.cell? ⟨b, 1, none⟩ = some y2 ∧ w6.cell? ⟨wr.heap.size, 1, none⟩ = some (.slice (some ⟨b, 0, none⟩) (Fr.cons k1 n1 s1 kd1 (.cons k2 n2 s2 kd2 .nil)).len cap) := fun w6 g cap4 hg ho => by
        have hb5 := (hb.alloc hb.size (.cells #[.string s', .slice (some ⟨b, 0, none⟩) (Fr.cons k1 n1 s1 kd1 (.cons k2 n2 s2 kd2 .nil)).len cap] 116)).alloc (by simp; omega) (.cells #[.iface T1 z1] 105)
        have hb6 : Below w.heap.size w w6 := hb5.grown hg hb5.size fun g hg => (hvl g hg).1
        have hq := ((Blk.new wr 116 #[.string s', .slice (some ⟨b, 0, none⟩) (Fr.cons k1 n1 s1 kd1 (.cons k2 n2 s2 kd2 .nil)).len cap]).alloc (.cells #[.iface T1 z1] 105)).keep (hg.block wr.heap.size (by simp; omega) fun e => by have := (hvl _ e.symm).2; omega)
        refine ⟨⟨hv2, ⟨_, ?_, NDesc.snoc acc hv1 xs hD⟩, ?_, ?_, hb6⟩, (hb6.cell (p := ⟨b, 1, none⟩) hlo).trans d1, hq.cell 1⟩
        · rw [Fr.len_app]; exact ho
        · rw [app_assoc]; rw [hfr] at hF; exact hF
        · rw [← hT, htl]
      have hnew := Blk.new (wr.alloc (.cells #[.string s', .slice (some ⟨b, 0, none⟩) 2 cap] 116)) 105 #[.iface T1 z1]
      rw [show (wr.alloc (.cells #[.string s', .slice (some ⟨b, 0, none⟩) 2 cap] 116)).heap.size = wr.heap.size + 1 by simp] at hnew
      have HNEW := Lib.hid hnew
      clear hnew
      have HSTEP := Lib.hid STEP
      have HM := Lib.hid hmeas
      have HOWN := Lib.hid hown
      have hbw : b < wr.heap.size := by omega
      simp only [Fr.len, Nat.zero_add, Nat.reduceAdd] at HSTEP hcl
      clear hpb hdot hfr htl hF hT hb hk hrow d0 d1 hv1 hv2 hown hD hmeas STEP hl2 hvl
      unfold maxLen at hcap
      simp only [Fr.len, Nat.zero_add, Nat.reduceAdd]
      go_wp2_with (at_builtin; go_must (refine wpList_append_lies _ rfl _ _ _ rfl w.heap.size 105 i0 _ 1 16 Tryz.underlying60 hi0 hz0 hz1 hz2 rfl (by omega) v acc.len xs rfl ((HOWN.out.alloc _).alloc _) ⟨wr.heap.size + 1, 0, none⟩ 1 1 [.iface T1 z1] rfl rfl (World.news_of_block (cs := #[.iface T1 z1]) (t := 105) (fr := (0, 0)) HNEW.out) (by simp [Value.oneCell']) (by omega) (by unfold maxLen; omega) (by omega) (by simp; omega) (wr.heap.size + 1 + 1) (by simp) ?_); intro g cap4 w6 hown6 hgrow hat hlt6; obtain ⟨hsp, e1, x1⟩ := HSTEP.out w6 g cap4 hgrow hown6; have HSP := Lib.hid hsp; clear hsp hown6 hgrow hat)
      go_roundw
      case rel => exact ⟨_, _, _, _, _, _, _, rfl, rfl, HSP.out⟩
      case measure => exact HM.out
/-- impl.splitList. -/
theorem split_any (k n : Int) (s : ByteArray) (f : Fr) (v : Value) (lo hi : Nat) (w : World) (hv : NdV w lo hi k n s f v) (hh : hi ≤ w.heap.size) (hnd : nodes f ≤ 1048576) :
    Calls Tryz.prog 116 #[v] w fun e w' => SplitRes w (fronts k s f) (tails k n s f) e w' :=
  (split2_any k n s f v lo hi w hv hh hnd).mono fun _ _ h => h.res hh
end Go.Proofs.YtmgfndgmebignaaGreatDoor
