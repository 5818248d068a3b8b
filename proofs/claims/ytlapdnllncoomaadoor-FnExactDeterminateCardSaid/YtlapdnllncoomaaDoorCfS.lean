/- Which clauses stand for a goal: the model's l4For, ClausesFor. Condition: the clauses and the goal lie in memory. -/
import Derived.Test.YtlapdnllncoomaaDoorProg
import Derived.Test.YtlapdnllncoomaaDoorCvS
import Derived.Test.YtlapdnllncoomaaDoorPk
import Derived.Test.YtlapdnllncoomaaDoorInts
import Derived.Deep.AppendLies
import Derived.Deep.QuietTactic
import Derived.BigQuiet
namespace Go.Proofs.YtlapdnllncoomaaDoor
open Go.RowKit

/-- The clauses whose heads have the name s and len arguments, counted from i on. -/
def forF : List Cl → Int → ByteArray → Nat → List Int
  | [], _, _, _ => []
  | c :: cs, i, s, len => if (c.s.data.toList == s.data.toList) = true ∧ c.kids.len = len then i :: forF cs (i + 1) s len else forF cs (i + 1) s len
theorem forF_len (s : ByteArray) (len : Nat) : ∀ (cs : List Cl) (i : Int), (forF cs i s len).length ≤ cs.length
  | [], _ => Nat.le_refl _
  | c :: cs, i => by
    have := forF_len s len cs (i + 1)
    unfold forF
    split
    · simp only [List.length_cons]; omega
    · simp only [List.length_cons]; omega
def WfC (c : Cl) : Prop := c.s.size ≤ maxLen ∧ c.kids.len ≤ maxLen
theorem forF_idx (s : ByteArray) (len : Nat) (hs : s.size ≤ maxLen) (hl : len ≤ maxLen) : ∀ (cs : List Cl) (i : Int), (∀ c ∈ cs, WfC c) → idxF cs i (pk s len) = forF cs i s len
  | [], _, _ => rfl
  | c :: cs, i, h => by
    have ih := forF_idx s len hs hl cs (i + 1) fun x hx => h x (by simp [hx])
    have hc := h c (by simp)
    unfold idxF forF
    rw [ih]
    by_cases he : (c.s.data.toList == s.data.toList) = true ∧ c.kids.len = len
    · rw [if_pos he, if_pos]
      rw [beq_iff_eq] at he
      have hb : c.s = s := ByteArray.ext (Array.toList_inj.1 he.1)
      rw [hb, he.2]
    · rw [if_neg he, if_neg]
      intro hp
      obtain ⟨h1, h2⟩ := pk_inj hc.1 hc.2 hs hl hp
      exact he ⟨by rw [h1, beq_self_eq_true], h2⟩
theorem ClAt.wf {w : World} {lo hi : Nat} : ∀ (cs : List Cl) (b o : Nat), ClAt w lo hi cs b o → ∀ c ∈ cs, WfC c
  | [], _, _, _, c, hc => by simp at hc
  | c0 :: cs, b, o, h, c, hc => by
    obtain ⟨hf, ⟨A, cap, B, capB, _, hk, _⟩, hr⟩ := h
    rcases List.mem_cons.1 hc with rfl | hc
    · exact ⟨hf.2.2, Nat.le_trans hk.1 hk.2.1⟩
    · exact ClAt.wf cs b (o + 5) hr c hc
theorem ClS.wf {w : World} {lo hi : Nat} {cs : List Cl} {A : Option Addr} {cap : Nat} (h : ClS w lo hi cs A cap) : ∀ c ∈ cs, WfC c := by
  cases cs with
  | nil => intro c hc; simp at hc
  | cons c0 cs =>
    obtain ⟨b, o, _, _, _, hr⟩ := h.2.2 (by simp)
    exact hr.wf _ b o

theorem infoIn : (Tryd.prog.info? 3).map (fun i => (i.zero, i.size, i.bytes)) = some (some (.int .i64 0), 1, 8) := by kernel_rfl

set_option maxRecDepth 100000 in
set_option maxHeartbeats 2000000 in
/-- spec.l4For. -/
theorem for_any (cs : List Cl) (A : Option Addr) (cap lo hi : Nat) (k n : Int) (s : ByteArray) (B : Option Addr) (len capB : Nat) (w : World) (hk : ClS w lo hi cs A cap) (hh : hi ≤ w.heap.size) (hl : cs.length ≤ 1048576) :
    Calls Tryd.prog 48 #[.slice A cs.length cap, .agg #[.int .i64 k, .int .i64 n, .string s, .slice B len capB]] w fun e w' => ∃ v, e = .returned v ∧ OwnI w' w.heap.size v (forF cs 0 s len) ∧ Below w.heap.size w w' := by
  have hb0 : Below w.heap.size w (w.alloc (.cells #[.int .i64 k, .int .i64 n, .string s, .slice B len capB] 29)) := (Below.refl _ _).alloc (Nat.le_refl _) _
  have hq0 := Blk.new w 29 #[.int .i64 k, .int .i64 n, .string s, .slice B len capB]
  have hb1 := hb0.alloc hb0.size (.cells #[] 3)
  have hq1 := hq0.alloc (.cells #[] 3)
  have ho1 := OwnI.empty (base := w.heap.size + 1) (w.alloc (.cells #[.int .i64 k, .int .i64 n, .string s, .slice B len capB] 29)) (by simp)
  rw [show (w.alloc (.cells #[.int .i64 k, .int .i64 n, .string s, .slice B len capB] 29)).heap.size = w.heap.size + 1 by simp] at ho1
  have HK := Lib.hid hk
  have HHI := Lib.hid hh
  have HB1 := Lib.hid hb1
  have HQ1 := Lib.hid hq1
  have HO1 := Lib.hid ho1
  have hsl := ByteArray.toList_eq s
  have HSL := Lib.hid hsl
  clear hk hh hb0 hq0 hb1 hq1 ho1 hsl
  generalize hn : cs.length = n' at *
  have HN := Lib.hid hn
  clear hn
  obtain ⟨i0, hi0, hz0, hz1, hz2⟩ := info_parts infoIn
  go_enter Tryd.func48, Tryd.ntmps48
  go_wp2_with fail
  go_loopw [6, 5] (fun i o wr => ∃ (j : Nat) (a : List Int) (v' : Value), j ≤ n' ∧ i = .int .i64 j ∧ v' = o ∧ OwnI wr (w.heap.size + 1) v' a ∧ a ++ forF (cs.drop j) j s len = forF cs 0 s len ∧ a.length ≤ j ∧ Below w.heap.size w wr ∧ Blk wr w.heap.size 29 #[.int .i64 k, .int .i64 n, .string s, .slice B len capB]) (fun i _ _ => n' - (intOf i).toNat)
  case atStart => exact ⟨0, [], _, Nat.zero_le _, rfl, rfl, HO1.out, rfl, Nat.le_refl _, HB1.out, HQ1.out⟩
  case round =>
    obtain ⟨j, a, v', hj, rfl, rfl, hoa, hva, hla, hbw, hq⟩ := hrel
    by_cases hlt : j < n'
    · obtain ⟨c, hd⟩ := drop_cl cs j (by rw [HN.out]; exact hlt)
      obtain ⟨b, o, rfl, hlb, hbb, hrow⟩ := HK.out.2.2 (by rw [HN.out]; omega)
      obtain ⟨hfit, A', cap', B', capB', c0, c1, c2, c3, c4, hkid, hbd⟩ := ClAt.elem j cs b o hrow hd
      have hlo : (⟨b, o, none⟩ : Addr).block < w.heap.size := Nat.lt_of_lt_of_le hbb HHI.out
      have k2 := (hbw.cell (p := ⟨b, o + j * 5 + 2, none⟩) hlo).trans c2
      have k3 := (hbw.cell (p := ⟨b, o + j * 5 + 3, none⟩) hlo).trans c3
      have a2 := hq.cell 2
      have a3 := hq.cell 3
      simp only [List.getElem?_toArray, List.getElem?_cons_zero, List.getElem?_cons_succ] at a2 a3
      rw [hd] at hva
      have hcl := ByteArray.toList_eq c.s
      have hva2 : a ++ (if (c.s.data.toList == s.data.toList) = true ∧ c.kids.len = len then (j : Int) :: forF (cs.drop (j + 1)) ((j : Int) + 1) s len else forF (cs.drop (j + 1)) ((j : Int) + 1) s len) = forF cs 0 s len := hva
      have HVA := Lib.hid hva2
      have HBW := Lib.hid hbw
      have HQ := Lib.hid hq
      have HOA := Lib.hid hoa
      clear c0 c1 c2 c3 c4 hkid hbd hrow hd hfit hlo hva hva2 hbw hq hoa
      obtain ⟨ck, cn, csx, ckids, cbody⟩ := c
      simp only at *
      generalize ckids.len = kl at *
      generalize hR : forF (cs.drop (j + 1)) ((j : Int) + 1) s len = R at *
      have HRX := Lib.hid hR
      clear hR
      by_cases hm : (csx.data.toList == s.data.toList) = true ∧ kl = len
      · obtain ⟨hm1, hm2⟩ := hm
        subst hm2
        have t1 : (csx.toList == s.toList) = true := by rw [hcl, HSL.out]; exact hm1
        have t2 : ((kl : Int) == (kl : Int)) = true := by simp
        have HV : Hid ((a ++ [(j : Int)]) ++ R = forF cs 0 s kl) := Lib.hid (by rw [← HVA.out, if_pos ⟨hm1, rfl⟩]; simp)
        obtain ⟨A0, cap0, hform, hc0, hm0, hr0⟩ := HOA.out.read
        subst hform
        clear hm1 hcl hr0
        unfold maxLen at hm0
        have hal : a.length ≤ 1048576 := by omega
        have hws := HBW.out.size
        have hlt0 := HOA.out.lt
        have STEP : ∀ m w6 g cap4, ((wr.drewN m).alloc (.cells #[.int .i64 (j : Int)] 3)).grownBy w6 (Value.ownBlock (.slice A0 a.length cap0)) → w6.ownsRow (w.heap.size + 1) 3 1 (.slice (some ⟨g, 0, none⟩) (a.length + 1) cap4) (a.length + 1) (a.map (Value.int .i64) ++ [.int .i64 (j : Int)]) →
            OwnI w6 (w.heap.size + 1) (.slice (some ⟨g, 0, none⟩) (a.length + 1) cap4) (a ++ [(j : Int)]) ∧ Below w.heap.size w w6 ∧ Blk w6 w.heap.size 29 #[.int .i64 k, .int .i64 n, .string s, .slice B kl capB] := fun m w6 g cap4 hg ho => by
          have hbd : Below w.heap.size w ((wr.drewN m).alloc (.cells #[.int .i64 (j : Int)] 3)) := (HBW.out.trans (c := wr.drewN m) ⟨rfl, rfl, rfl, Nat.le_refl _, fun _ _ => rfl⟩).alloc HBW.out.size _
          have hqd : Blk ((wr.drewN m).alloc (.cells #[.int .i64 (j : Int)] 3)) w.heap.size 29 #[.int .i64 k, .int .i64 n, .string s, .slice B kl capB] := Blk.alloc (w := wr.drewN m) HQ.out _
          refine ⟨by unfold OwnI; simpa using ho, hbd.grown hg hbd.size (fun i hi => ?_), hqd.keep (hg.block _ hqd.lt fun e => ?_)⟩
          · have := (hlt0 i (by unfold ownV; rw [hi]; simp)).1
            omega
          · have := (hlt0 w.heap.size (by unfold ownV; rw [← e]; simp)).1
            omega
        have HSTEP := Lib.hid STEP
        have HOR : Hid (∀ m, ((wr.drewN m).alloc (.cells #[.int .i64 (j : Int)] 3)).ownsRow (w.heap.size + 1) 3 1 (.slice A0 a.length cap0) a.length (a.map (Value.int .i64))) := Lib.hid fun m => OwnI.below (w := wr.drewN m) HOA.out ((Below.refl _ _).alloc (Nat.le_refl _) _)
        have HNEW : Hid (∀ m, Blk ((wr.drewN m).alloc (.cells #[.int .i64 (j : Int)] 3)) wr.heap.size 3 #[.int .i64 (j : Int)]) := Lib.hid fun m => Blk.new (wr.drewN m) _ _
        clear STEP hlt0
        go_wp2_with fail
        go_quiet (fail)
        go_wp2_with (at_builtin; go_must (refine wpList_append_lies _ rfl _ _ _ rfl (w.heap.size + 1) 3 i0 _ 1 8 Tryd.underlying35 hi0 hz0 hz1 hz2 rfl (by omega) (.slice A0 a.length cap0) a.length (a.map (Value.int .i64)) rfl (HOR.out _) ⟨wr.heap.size, 0, none⟩ 1 1 [.int .i64 (j : Int)] rfl rfl (World.news_of_block (cs := #[.int .i64 (j : Int)]) (t := 3) (fr := (0, 0)) (HNEW.out _)) (by simp [Value.oneCell']) (by omega) (by unfold maxLen; omega) (by omega) (by simp; omega) (wr.heap.size + 1) (by simp) ?_); intro g cap4 w6 hown6 hgrow hat hlt6; have HS := Lib.hid (HSTEP.out _ w6 g cap4 hgrow hown6); clear hown6 hgrow hat)
        go_roundw
        case rel => exact ⟨j + 1, _, _, by omega, by go_num, rfl, HS.out.1, by rw [show ((j + 1 : Nat) : Int) = (j : Int) + 1 by omega, HRX.out]; exact HV.out, by simp; omega, HS.out.2.1, HS.out.2.2⟩
        case measure => simp [intOf]; omega
      · have HV : Hid (a ++ R = forF cs 0 s len) := Lib.hid (by rw [← HVA.out, if_neg hm])
        have hway : (csx.toList == s.toList) = false ∨ ((csx.toList == s.toList) = true ∧ ((kl : Int) == (len : Int)) = false) := by
          rw [hcl, HSL.out]
          cases h1 : (csx.data.toList == s.data.toList)
          · exact .inl rfl
          · exact .inr ⟨rfl, by rw [beq_eq_false_iff_ne]; exact fun h => hm ⟨h1, by omega⟩⟩
        clear hm hcl
        rcases hway with t1 | ⟨t1, t2⟩
        all_goals
          go_wp2_with fail
          go_quiet (fail)
          go_wp2_with fail
          go_roundw
          case rel => exact ⟨j + 1, a, v', by omega, by go_num, rfl, HOA.out.below ⟨rfl, rfl, rfl, Nat.le_refl _, fun _ _ => rfl⟩, by rw [show ((j + 1 : Nat) : Int) = (j : Int) + 1 by omega, HRX.out]; exact HV.out, by omega, HBW.out.trans ⟨rfl, rfl, rfl, Nat.le_refl _, fun _ _ => rfl⟩, HQ.out⟩
          case measure => simp [intOf]; omega
    · obtain rfl : j = n' := by omega
      have HV : Hid (a = forF cs 0 s len) := Lib.hid (by
        rw [← hva, List.drop_eq_nil_of_le (by rw [HN.out]; exact Nat.le_refl _)]; simp [forF])
      have HO := Lib.hid (hoa.mono (Nat.le_succ _))
      have HBW := Lib.hid hbw
      clear hva hoa hbw hq
      go_wp2_with fail
      go_ret
      rw [← HV.out]
      exact ⟨_, rfl, HO.out, HBW.out⟩

/-- What ClausesFor answers. -/
noncomputable def clF (cs : List Cl) (k n : Int) (s : ByteArray) (f : Fr) : List Int := if (progV cs && plainV k n s f) = true then forF cs 0 s f.len else []
theorem clF_len (cs : List Cl) (k n : Int) (s : ByteArray) (f : Fr) : (clF cs k n s f).length ≤ cs.length := by
  unfold clF
  split
  · exact forF_len _ _ _ _
  · exact Nat.zero_le _

set_option maxRecDepth 100000 in
set_option maxHeartbeats 2000000 in
/-- spec.ClausesFor. -/
theorem specCF_any (cs : List Cl) (A : Option Addr) (cap lo hi : Nat) (k n : Int) (s : ByteArray) (f : Fr) (B : Option Addr) (capB lo' hi' : Nat) (w : World) (hk : ClS w lo hi cs A cap) (hh : hi ≤ w.heap.size) (hnd : cs.length + wtCs cs ≤ 1048576)
    (hkb : KidsAt w lo' hi' f B capB) (hh' : hi' ≤ w.heap.size) (hf : Fits k n s) (hndb : nodes f ≤ 1048576) :
    Calls Tryd.prog 25 #[.slice A cs.length cap, .agg #[.int .i64 k, .int .i64 n, .string s, .slice B f.len capB]] w fun e w' => ∃ v, e = .returned v ∧ OwnI w' w.heap.size v (clF cs k n s f) ∧ Below w.heap.size w w' := by
  have hb0 : Below w.heap.size w (w.alloc (.cells #[.int .i64 k, .int .i64 n, .string s, .slice B f.len capB] 29)) := (Below.refl _ _).alloc (Nat.le_refl _) _
  have hq0 := Blk.new w 29 #[.int .i64 k, .int .i64 n, .string s, .slice B f.len capB]
  have C1 := specPV_any cs A cap lo hi _ (hk.below hb0 hh) (Nat.le_trans hh hb0.size) hnd
  have C2 := fun w1 (hb : Below w.heap.size w w1) => specValid_any k n s f B capB lo' hi' w1 (hkb.below hb hh') (Nat.le_trans hh' hb.size) hf hndb
  have C3 := fun w1 => plain_any k n s B f.len capB w1 hf.2.2
  have C4 := fun w1 (hb : Below w.heap.size w w1) => for_any cs A cap lo hi k n s B f.len capB w1 (hk.below hb hh) (Nat.le_trans hh hb.size) (by omega)
  have HE : Hid (clF cs k n s f = if (progV cs && plainV k n s f) = true then forF cs 0 s f.len else []) := Lib.hid rfl
  have HE2 : Hid (plainV k n s f = (validT k n s f && plainK k s f.len)) := Lib.hid rfl
  generalize progV cs = v1 at *
  generalize validT k n s f = v2 at *
  generalize plainK k s f.len = v3 at *
  have H1 := Lib.hid C1
  have H2 := Lib.hid C2
  have H3 := Lib.hid C3
  have H4 := Lib.hid C4
  have HB0 := Lib.hid hb0
  have HQ0 := Lib.hid hq0
  clear C1 C2 C3 C4 hk hh hnd hkb hh' hf hndb hb0 hq0
  generalize f.len = fl at *
  generalize cs.length = cl at *
  have hemp : ∀ x, Below w.heap.size w x → clF cs k n s f = [] → OwnI (x.alloc (.cells #[] 3)) w.heap.size (.slice (some ⟨x.heap.size, 0, none⟩) 0 0) (clF cs k n s f) ∧ Below w.heap.size w (x.alloc (.cells #[] 3)) := fun x hb e => by
    rw [e]
    exact ⟨OwnI.empty x hb.size, hb.alloc hb.size _⟩
  have HEMP := Lib.hid hemp
  clear hemp
  cases v1
  · have HV : Hid (clF cs k n s f = []) := Lib.hid (by rw [HE.out]; rfl)
    go_enter Tryd.func25, Tryd.ntmps25
    go_wp2_with fail
    refine H1.out.mono ?_
    rintro e w2 ⟨rfl, hb⟩
    have HB := Lib.hid (HB0.out.trans (hb.mono HB0.out.size))
    clear hb
    go_wp2_with fail
    go_ret
    exact ⟨_, rfl, HEMP.out _ HB.out HV.out⟩
  · go_enter Tryd.func25, Tryd.ntmps25
    go_wp2_with fail
    refine H1.out.mono ?_
    rintro e w2 ⟨rfl, hb⟩
    have hq := HQ0.out.below hb HQ0.out.lt
    obtain ⟨a0, a1, a2, a3⟩ := cells4 hq
    have HQ := Lib.hid hq
    have HB := Lib.hid (HB0.out.trans (hb.mono HB0.out.size))
    clear hb hq
    go_wp2_with fail
    refine (H2.out _ HB.out).mono ?_
    rintro e w3 ⟨rfl, hb⟩
    have hq := HQ.out.below hb HQ.out.lt
    clear a0 a1 a2 a3
    obtain ⟨a0, a1, a2, a3⟩ := cells4 hq
    have HQ3 := Lib.hid hq
    have HB3 := Lib.hid (HB.out.trans (hb.mono HB.out.size))
    clear hb hq
    cases v2
    · have HV : Hid (clF cs k n s f = []) := Lib.hid (by rw [HE.out, HE2.out]; rfl)
      go_wp2_with fail
      go_ret
      exact ⟨_, rfl, HEMP.out _ HB3.out HV.out⟩
    · go_wp2_with fail
      refine (H3.out _).mono ?_
      rintro e w4 ⟨rfl, hb⟩
      have hq := HQ3.out.below hb HQ3.out.lt
      clear a0 a1 a2 a3
      obtain ⟨a0, a1, a2, a3⟩ := cells4 hq
      have HB4 := Lib.hid (HB3.out.trans (hb.mono HB3.out.size))
      clear hb hq
      cases v3
      · have HV : Hid (clF cs k n s f = []) := Lib.hid (by rw [HE.out, HE2.out]; rfl)
        go_wp2_with fail
        go_ret
        exact ⟨_, rfl, HEMP.out _ HB4.out HV.out⟩
      · have HV : Hid (clF cs k n s f = forF cs 0 s fl) := Lib.hid (by rw [HE.out, HE2.out]; rfl)
        go_wp2_with fail
        refine (H4.out _ HB4.out).mono ?_
        rintro e w5 ⟨v, rfl, ho, hb⟩
        have HO := Lib.hid (ho.mono HB4.out.size)
        have HB5 := Lib.hid (HB4.out.trans (hb.mono HB4.out.size))
        clear ho hb
        go_wp2_with fail
        go_ret
        rw [HV.out]
        exact ⟨v, rfl, HO.out, HB5.out⟩
end Go.Proofs.YtlapdnllncoomaaDoor
