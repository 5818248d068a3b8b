/- impl's node maker: makeNode and makeStructure. Condition: the term lies in memory, the maker's count in a block of its own, the table of signs in its variable. -/
import Derived.Test.YtihmgodiiohdnaaGreatDoorProg
import Derived.Test.YtihmgodiiohdnaaGreatDoorNode
import Derived.Test.YtihmgodiiohdnaaGreatDoorSpecC
import Derived.Test.YtihmgodiiohdnaaGreatDoorNvProof
import Derived.OwnWalk
namespace Go.Proofs.YtihmgodiiohdnaaGreatDoor
open Go.RowKit

theorem infoN : (Tryz.prog.info? 115).map (fun i => (i.zero, i.size, i.bytes)) = some (some .nilIface, 1, 16) := by kernel_rfl

theorem tab_ne {w : World} {mb : Nat} {t : TypeId} {v : Value} (h : nv.Tab w) (hb : Blk w mb t #[v]) : 2 ≠ mb := by
  rintro rfl
  obtain ⟨t', fr, hf⟩ := h
  unfold Blk at hb
  rw [hf] at hb
  injection hb with hb
  injection hb with hb
  have := congrArg Array.size hb
  simp [nv.signV, nv.signB, nv.signs] at this
theorem tab_grown {w w1 : World} {mb : Nat} (h : nv.Tab w) (hg : w.grownBy w1 (some mb)) (hn : 2 ≠ mb) : nv.Tab w1 := by
  obtain ⟨t, fr, hf⟩ := h
  exact ⟨t, fr, (hg.block _ (Array.getElem?_eq_some_iff.1 hf).1 (by simpa using hn)).trans hf⟩
theorem kids_grown {w w1 : World} {f : Fr} {A : Option Addr} {cap lo hi mb : Nat} (h : KidsAt w lo hi f A cap) (hg : w.grownBy w1 (some mb)) (hh : hi ≤ w.heap.size) (hm : hi ≤ mb) : KidsAt w1 lo hi f A cap :=
  h.keep fun p _ hp => cell_grownBy hg (by omega) (by omega)

def okS (n : Int) (s : ByteArray) (kids : Fr) (d l : Int) : Bool := (n == 0) && (nv.nameB s.data.toList && (decide (kids.len ≤ 4) && okF kids (d + 1) l))
theorem okT_three (n : Int) (s : ByteArray) (kids : Fr) (d left : Int) (hd : d ≤ 30) : okT 3 n s kids d left = okS n s kids d (left - 1) := by
  unfold okT okS okF shapeT ownB
  rw [show (31 : Int) - (d + 1) = 31 - d - 1 by omega, decide_eq_true (show 1 ≤ 31 - d by omega), Bool.eq_iff_iff]
  simp only [Bool.and_eq_true, Bool.or_eq_true, decide_eq_true_eq, beq_iff_eq]
  constructor
  · rintro ⟨⟨_, ((⟨h, _⟩ | ⟨h, _⟩) | ⟨_, ⟨⟨h1, h2⟩, h3⟩⟩), h4⟩, h5⟩
    · omega
    · omega
    · exact ⟨h1, h2, h3, h4, by omega⟩
  · rintro ⟨h1, h2, h3, h4, h5⟩
    exact ⟨⟨trivial, .inr ⟨trivial, ⟨⟨h1, h2⟩, h3⟩⟩, h4⟩, by omega⟩

def MkT (s : ByteArray) (f : Fr) : Prop := ∀ (k n d left : Int) (A : Option Addr) (cap lo hi mb : Nat) (w : World), KidsAt w lo hi f A cap → hi ≤ w.heap.size → Fits k n s → nodes f ≤ 1048576 → hi ≤ mb → nv.Tab w →
  Blk w mb 152 #[.int .i64 left] → 0 ≤ left → left ≤ 120 → 1 ≤ d → d ≤ 31 →
  Calls Tryz.prog 87 #[.pointer (some ⟨mb, 0, none⟩), .agg #[.int .i64 k, .int .i64 n, .string s, .slice A f.len cap], .int .i64 d] w fun e w' => MkRes w mb (okT k n s f d left) (left - (nodes f + 1)) k n s f e w'
def MkS (s : ByteArray) (f : Fr) : Prop := ∀ (n d l : Int) (A : Option Addr) (cap lo hi mb : Nat) (w : World), KidsAt w lo hi f A cap → hi ≤ w.heap.size → Fits 3 n s → nodes f ≤ 1048576 → hi ≤ mb → nv.Tab w →
  Blk w mb 152 #[.int .i64 l] → 0 ≤ l → l ≤ 120 → 1 ≤ d → d ≤ 30 →
  Calls Tryz.prog 102 #[.pointer (some ⟨mb, 0, none⟩), .agg #[.int .i64 3, .int .i64 n, .string s, .slice A f.len cap], .int .i64 d] w fun e w' => MkRes w mb (okS n s f d l) (l - nodes f) 3 n s f e w'

/-- budget.take. -/
theorem take_no (d left : Int) (mb : Nat) (w : World) (hq : Blk w mb 152 #[.int .i64 left]) (h : 30 < d ∨ left = 0) :
    Calls Tryz.prog 101 #[.pointer (some ⟨mb, 0, none⟩), .int .i64 d] w fun e w' => e = .returned (.bool false) ∧ w' = w := by
  have hc := hq.cell 0
  simp only [List.getElem?_toArray, List.getElem?_cons_zero] at hc
  clear hq
  by_cases c1 : 30 < d
  · clear h
    go_enter Tryz.func101, Tryz.ntmps101
    go_wp2_with fail
    go_ret
    exact ⟨rfl, rfl⟩
  · obtain rfl : left = 0 := by omega
    clear h
    go_enter Tryz.func101, Tryz.ntmps101
    go_wp2_with fail
    go_ret
    exact ⟨rfl, rfl⟩
theorem take_yes (d left : Int) (mb : Nat) (w : World) (hq : Blk w mb 152 #[.int .i64 left]) (h0 : 0 < left) (h1 : left ≤ 120) (hd : d ≤ 30) :
    Calls Tryz.prog 101 #[.pointer (some ⟨mb, 0, none⟩), .int .i64 d] w fun e w' => e = .returned (.bool true) ∧ w.grownBy w' (some mb) ∧ w'.heap.size = w.heap.size ∧ Blk w' mb 152 #[.int .i64 (left - 1)] := by
  have hc := hq.cell 0
  have hfz := hq.frozen 0
  simp only [List.getElem?_toArray, List.getElem?_cons_zero] at hc
  have c1 : ¬ 30 < d := by omega
  have t0 : (left == 0) = false := by rw [beq_eq_false_iff_ne]; omega
  have R : Hid (w.grownBy (w.setCell ⟨mb, 0, none⟩ (.int .i64 (left - 1))) (some mb) ∧ (w.setCell ⟨mb, 0, none⟩ (.int .i64 (left - 1))).heap.size = w.heap.size ∧ Blk (w.setCell ⟨mb, 0, none⟩ (.int .i64 (left - 1))) mb 152 #[.int .i64 (left - 1)]) := Lib.hid ⟨grownBy_set (World.grownBy.refl w _) (.inr rfl) _, by simp [World.setCell], by
    have h := hq.set_ 0 (.int .i64 (left - 1))
    simpa using h⟩
  clear hq
  go_enter Tryz.func101, Tryz.ntmps101
  go_wp2_with fail
  go_ret
  exact ⟨rfl, R.out⟩

set_option maxRecDepth 100000 in
set_option maxHeartbeats 4000000 in
theorem mkT_of (s : ByteArray) (f : Fr) (h : MkS s f) : MkT s f := by
  intro k n d left A cap lo hi mb w hk hh hf hnd hmb ht hblk hl0 hl1 hd0 hd1
  have hl := hk.1
  have hm := hk.2.1
  have hmlt := hblk.lt
  have hne := tab_ne ht hblk
  unfold maxLen at hm
  have hmne : w.heap.size ≠ mb := by omega
  have hq0 : ∀ (o : Obj), Blk (w.alloc o) mb 152 #[.int .i64 left] := fun o => hblk.alloc o
  have hg0 : ∀ (o : Obj), w.grownBy (w.alloc o) (some mb) := fun o => World.grownBy_alloc w o _
  -- what take leaves
  have hbx : ∀ w2, (w.alloc (.cells #[.int .i64 k, .int .i64 n, .string s, .slice A f.len cap] 30)).grownBy w2 (some mb) → w.grownBy w2 (some mb) ∧ w2.cell? ⟨w.heap.size, 0, none⟩ = some (.int .i64 k) ∧ w2.cell? ⟨w.heap.size, 1, none⟩ = some (.int .i64 n) ∧ w2.cell? ⟨w.heap.size, 2, none⟩ = some (.string s) ∧ w2.cell? ⟨w.heap.size, 3, none⟩ = some (.slice A f.len cap) := fun w2 h2 => by
    have b := (Blk.new w 30 #[.int .i64 k, .int .i64 n, .string s, .slice A f.len cap]).grown h2 hmne
    exact ⟨grownBy_trans (hg0 _) h2, b.cell 0, b.cell 1, b.cell 2, b.cell 3⟩
  have HBX := Lib.hid hbx
  have HQ0 := Lib.hid hq0
  have HG0 := Lib.hid hg0
  have HK := Lib.hid hk
  have HT := Lib.hid ht
  have HS := Lib.hid h
  have HF := Lib.hid hf
  have HNE := Lib.hid hne
  clear hbx hq0 hg0 hk ht hblk h hf hne
  by_cases c1 : 30 < d
  · have HV : Hid (okT k n s f d left = false) := Lib.hid (by unfold okT shapeT; rw [decide_eq_false (show ¬ (1 : Int) ≤ 31 - d by omega)]; rfl)
    go_enter Tryz.func87, Tryz.ntmps87
    go_wp2_with fail
    refine (take_no d _ mb _ (HQ0.out _) (.inl c1)).mono ?_
    rintro e w2 ⟨rfl, rfl⟩
    go_wp2_with fail
    go_ret2
    exact ⟨HG0.out _, .inr ⟨HV.out, rfl, _, HQ0.out _⟩⟩
  · by_cases c2 : left = 0
    · subst c2
      have HV : Hid (okT k n s f d 0 = false) := Lib.hid (by unfold okT; rw [decide_eq_false (show ¬ (nodes f : Int) + 1 ≤ 0 by omega)]; simp)
      go_enter Tryz.func87, Tryz.ntmps87
      go_wp2_with fail
      refine (take_no d _ mb _ (HQ0.out _) (.inr rfl)).mono ?_
      rintro e w2 ⟨rfl, rfl⟩
      go_wp2_with fail
      go_ret2
      exact ⟨HG0.out _, .inr ⟨HV.out, rfl, _, HQ0.out _⟩⟩
    · have t0 : (left == 0) = false := by rw [beq_eq_false_iff_ne]; exact c2
      by_cases c3 : k = 3
      · subst c3
        have HV := Lib.hid (okT_three n s f d left (by omega))
        have C1 := fun w1 (hg : w.grownBy w1 (some mb)) (hq : Blk w1 mb 152 #[.int .i64 (left - 1)]) => HS.out n d (left - 1) A cap lo hi mb w1 (kids_grown HK.out hg hh hmb) (Nat.le_trans hh hg.size) HF.out hnd hmb (tab_grown HT.out hg HNE.out) hq (by omega) (by omega) hd0 (by omega)
        have H1 := Lib.hid C1
        clear C1
        go_enter Tryz.func87, Tryz.ntmps87
        go_wp2_with fail
        refine (take_yes d left mb _ (HQ0.out _) (by omega) (by omega) (by omega)).mono ?_
        rintro e w2 ⟨rfl, hg2, _, hq2⟩
        obtain ⟨hg2, x0, x1, x2, x3⟩ := HBX.out _ hg2
        have HG2 := Lib.hid hg2
        have HQ2 := Lib.hid hq2
        clear hg2 hq2
        go_wp2_with fail
        refine (H1.out _ HG2.out HQ2.out).mono ?_
        rintro e w3 ⟨hg, hr⟩
        have hgg := grownBy_trans HG2.out hg
        have hsz := HG2.out.size
        rcases hr with ⟨hok, v, rfl, hv, hq⟩ | ⟨hok, rfl, l', hq⟩
        · have hv2 := hv.keep (w' := w3) (fun _ _ _ => rfl) hsz (Nat.le_refl _)
          have R : Hid (MkRes w mb (okT 3 n s f d left) (left - (nodes f + 1)) 3 n s f (.returned (.tuple #[v, .bool true])) w3) :=
            Lib.hid ⟨hgg, .inl ⟨by rw [HV.out]; exact hok, v, rfl, hv2, by rw [show left - ((nodes f : Int) + 1) = left - 1 - nodes f by omega]; exact hq⟩⟩
          clear hv hv2 hq hg hgg hsz hok
          go_wp2_with fail
          go_ret2
          exact R.out
        · have R : Hid (MkRes w mb (okT 3 n s f d left) (left - (nodes f + 1)) 3 n s f (.returned (.tuple #[.nilIface, .bool false])) w3) :=
            Lib.hid ⟨hgg, .inr ⟨by rw [HV.out]; exact hok, rfl, l', hq⟩⟩
          clear hq hg hgg hsz hok
          go_wp2_with fail
          go_ret2
          exact R.out
      · have t3 : (k == 3) = false := by rw [beq_eq_false_iff_ne]; exact c3
        have HNK : Hid (∀ (b : Bool), ((k == 1 && (decide (0 ≤ n) && decide (n ≤ 25) && noName s && (f.len == 0))) || (k == 2 && (decide (-999 ≤ n) && decide (n ≤ 999) && noName s && (f.len == 0)))) = false → okT k n s f d left = false) := Lib.hid (by
          intro _ hb
          unfold okT shapeT ownB
          rw [hb, t3]; simp)
        cases hc : noName s
        · have HV : Hid (okT k n s f d left = false) := Lib.hid (HNK.out true (by rw [hc]; simp))
          have e1 := empty_no hc
          have e2 : (!s.toList.isEmpty) = true := by rw [e1]; rfl
          clear hc
          go_enter Tryz.func87, Tryz.ntmps87
          go_wp2_with fail
          refine (take_yes d left mb _ (HQ0.out _) (by omega) (by omega) (by omega)).mono ?_
          rintro e w2 ⟨rfl, hg2, _, hq2⟩
          obtain ⟨hg2, x0, x1, x2, x3⟩ := HBX.out _ hg2
          have HG2 := Lib.hid hg2
          have HQ2 := Lib.hid hq2
          clear hg2 hq2
          go_wp2_with fail
          go_ret2
          exact ⟨HG2.out, .inr ⟨HV.out, rfl, _, HQ2.out⟩⟩
        · have e1 := empty_yes hc
          have e2 : (!s.toList.isEmpty) = false := by rw [e1]; rfl
          by_cases hlen : 0 < f.len
          · have HV : Hid (okT k n s f d left = false) := Lib.hid (HNK.out true (by rw [show (f.len == 0) = false by rw [beq_eq_false_iff_ne]; omega]; simp))
            clear hc
            go_enter Tryz.func87, Tryz.ntmps87
            go_wp2_with fail
            refine (take_yes d left mb _ (HQ0.out _) (by omega) (by omega) (by omega)).mono ?_
            rintro e w2 ⟨rfl, hg2, _, hq2⟩
            obtain ⟨hg2, x0, x1, x2, x3⟩ := HBX.out _ hg2
            have HG2 := Lib.hid hg2
            have HQ2 := Lib.hid hq2
            clear hg2 hq2
            go_wp2_with fail
            go_ret2
            exact ⟨HG2.out, .inr ⟨HV.out, rfl, _, HQ2.out⟩⟩
          · have hz : f.len = 0 := by omega
            have hn0 := nodes_len f hz
            have hsh := shapeF_len f hz (31 - d - 1)
            have HOK : Hid (∀ b, (k == 1 && (decide (0 ≤ n) && decide (n ≤ 25))) = b ∨ (k == 2 && (decide (-999 ≤ n) && decide (n ≤ 999))) = b → b = true → okT k n s f d left = true) := Lib.hid (by
              intro b hb he
              subst he
              unfold okT shapeT ownB
              rw [hsh, hn0, hz, hc, decide_eq_true (show (1 : Int) ≤ 31 - d by omega), decide_eq_true (show ((0 : Nat) : Int) + 1 ≤ left by omega)]
              rcases hb with hb | hb
              · simp only [Bool.and_eq_true] at hb; rw [hb.1, hb.2.1, hb.2.2]; rfl
              · simp only [Bool.and_eq_true] at hb; rw [hb.1, hb.2.1, hb.2.2]; simp)
            have HL : Hid (left - ((nodes f : Int) + 1) = left - 1) := Lib.hid (by rw [hn0]; omega)
            rw [hz] at HBX ⊢
            clear hsh hn0 hlen hl hm hnd
            by_cases k1 : k = 1
            · subst k1
              clear c3
              by_cases r : 0 ≤ n ∧ n ≤ 25
              · obtain ⟨r1, r2⟩ := r
                have HV : Hid (okT 1 n s f d left = true) := Lib.hid (HOK.out _ (.inl rfl) (by rw [decide_eq_true r1, decide_eq_true r2]; rfl))
                have d2 : decide (n ≤ 25) = true := decide_eq_true r2
                clear hc hz
                go_enter Tryz.func87, Tryz.ntmps87
                go_wp2_with fail
                refine (take_yes d left mb _ (HQ0.out _) (by omega) (by omega) (by omega)).mono ?_
                rintro e w2 ⟨rfl, hg2, _, hq2⟩
                obtain ⟨hg2, x0, x1, x2, x3⟩ := HBX.out _ hg2
                have HG2 := Lib.hid hg2
                have HQ2 := Lib.hid hq2
                clear hg2 hq2
                go_wp2_with fail
                go_ret2
                refine ⟨HG2.out, .inl ⟨HV.out, _, rfl, .inl ⟨rfl, rfl⟩, ?_⟩⟩
                rw [HL.out]; exact HQ2.out
              · have HV : Hid (okT 1 n s f d left = false) := Lib.hid (HNK.out true (by
                  have : (decide (0 ≤ n) && decide (n ≤ 25)) = false := by
                    rw [← Bool.not_eq_true, Bool.and_eq_true, decide_eq_true_iff, decide_eq_true_iff]; exact r
                  rw [this]; simp))
                rcases (show n < 0 ∨ (0 ≤ n ∧ 25 < n) by omega) with r1 | ⟨r1, r2⟩
                · clear hc hz
                  go_enter Tryz.func87, Tryz.ntmps87
                  go_wp2_with fail
                  refine (take_yes d left mb _ (HQ0.out _) (by omega) (by omega) (by omega)).mono ?_
                  rintro e w2 ⟨rfl, hg2, _, hq2⟩
                  obtain ⟨hg2, x0, x1, x2, x3⟩ := HBX.out _ hg2
                  have HG2 := Lib.hid hg2
                  have HQ2 := Lib.hid hq2
                  clear hg2 hq2
                  go_wp2_with fail
                  go_ret2
                  exact ⟨HG2.out, .inr ⟨HV.out, rfl, _, HQ2.out⟩⟩
                · have d2 : decide (n ≤ 25) = false := decide_eq_false (by omega)
                  clear hc hz
                  go_enter Tryz.func87, Tryz.ntmps87
                  go_wp2_with fail
                  refine (take_yes d left mb _ (HQ0.out _) (by omega) (by omega) (by omega)).mono ?_
                  rintro e w2 ⟨rfl, hg2, _, hq2⟩
                  obtain ⟨hg2, x0, x1, x2, x3⟩ := HBX.out _ hg2
                  have HG2 := Lib.hid hg2
                  have HQ2 := Lib.hid hq2
                  clear hg2 hq2
                  go_wp2_with fail
                  go_ret2
                  exact ⟨HG2.out, .inr ⟨HV.out, rfl, _, HQ2.out⟩⟩
            · have t1 : (k == 1) = false := by rw [beq_eq_false_iff_ne]; exact k1
              by_cases k2 : k = 2
              · subst k2
                clear c3 k1
                by_cases r : -999 ≤ n ∧ n ≤ 999
                · obtain ⟨r1, r2⟩ := r
                  have HV : Hid (okT 2 n s f d left = true) := Lib.hid (HOK.out _ (.inr rfl) (by rw [decide_eq_true r1, decide_eq_true r2]; rfl))
                  have d2 : decide (n ≤ 999) = true := decide_eq_true r2
                  clear hc hz
                  go_enter Tryz.func87, Tryz.ntmps87
                  go_wp2_with fail
                  refine (take_yes d left mb _ (HQ0.out _) (by omega) (by omega) (by omega)).mono ?_
                  rintro e w2 ⟨rfl, hg2, _, hq2⟩
                  obtain ⟨hg2, x0, x1, x2, x3⟩ := HBX.out _ hg2
                  have HG2 := Lib.hid hg2
                  have HQ2 := Lib.hid hq2
                  clear hg2 hq2
                  go_wp2_with fail
                  go_ret2
                  refine ⟨HG2.out, .inl ⟨HV.out, _, rfl, .inr (.inl ⟨rfl, rfl⟩), ?_⟩⟩
                  rw [HL.out]; exact HQ2.out
                · have HV : Hid (okT 2 n s f d left = false) := Lib.hid (HNK.out true (by
                    have : (decide (-999 ≤ n) && decide (n ≤ 999)) = false := by
                      rw [← Bool.not_eq_true, Bool.and_eq_true, decide_eq_true_iff, decide_eq_true_iff]; exact r
                    rw [this]; simp))
                  rcases (show n < -999 ∨ (-999 ≤ n ∧ 999 < n) by omega) with r1 | ⟨r1, r2⟩
                  · clear hc hz
                    go_enter Tryz.func87, Tryz.ntmps87
                    go_wp2_with fail
                    refine (take_yes d left mb _ (HQ0.out _) (by omega) (by omega) (by omega)).mono ?_
                    rintro e w2 ⟨rfl, hg2, _, hq2⟩
                    obtain ⟨hg2, x0, x1, x2, x3⟩ := HBX.out _ hg2
                    have HG2 := Lib.hid hg2
                    have HQ2 := Lib.hid hq2
                    clear hg2 hq2
                    go_wp2_with fail
                    go_ret2
                    exact ⟨HG2.out, .inr ⟨HV.out, rfl, _, HQ2.out⟩⟩
                  · have d2 : decide (n ≤ 999) = false := decide_eq_false (by omega)
                    clear hc hz
                    go_enter Tryz.func87, Tryz.ntmps87
                    go_wp2_with fail
                    refine (take_yes d left mb _ (HQ0.out _) (by omega) (by omega) (by omega)).mono ?_
                    rintro e w2 ⟨rfl, hg2, _, hq2⟩
                    obtain ⟨hg2, x0, x1, x2, x3⟩ := HBX.out _ hg2
                    have HG2 := Lib.hid hg2
                    have HQ2 := Lib.hid hq2
                    clear hg2 hq2
                    go_wp2_with fail
                    go_ret2
                    exact ⟨HG2.out, .inr ⟨HV.out, rfl, _, HQ2.out⟩⟩
              · have t2 : (k == 2) = false := by rw [beq_eq_false_iff_ne]; exact k2
                have HV : Hid (okT k n s f d left = false) := Lib.hid (HNK.out true (by rw [t1, t2]; rfl))
                clear hc hz k1 k2 c3
                go_enter Tryz.func87, Tryz.ntmps87
                go_wp2_with fail
                refine (take_yes d left mb _ (HQ0.out _) (by omega) (by omega) (by omega)).mono ?_
                rintro e w2 ⟨rfl, hg2, _, hq2⟩
                obtain ⟨hg2, x0, x1, x2, x3⟩ := HBX.out _ hg2
                have HG2 := Lib.hid hg2
                have HQ2 := Lib.hid hq2
                clear hg2 hq2
                go_wp2_with fail
                go_ret2
                exact ⟨HG2.out, .inr ⟨HV.out, rfl, _, HQ2.out⟩⟩

theorem okF_range (f : Fr) (d l : Int) (h : okF f d l = true) : (nodes f : Int) ≤ l := by
  unfold okF at h
  rw [Bool.and_eq_true, decide_eq_true_iff] at h
  exact h.2
theorem okT_range (k n : Int) (s : ByteArray) (f : Fr) (d l : Int) (h : okT k n s f d l = true) : (nodes f : Int) + 1 ≤ l := by
  unfold okT at h
  rw [Bool.and_eq_true, decide_eq_true_iff] at h
  exact h.2
theorem MPart.fin {w wr : World} {f : Fr} {mb g : Nat} {l : Int} (h : MPart w f mb g f.len l wr) (hl : f.len ≤ maxLen) (lo : Nat) (hlo : lo ≤ w.heap.size) : NdS wr lo wr.heap.size f (some ⟨g, 0, none⟩) f.len := by
  obtain ⟨hg, hmb, ⟨cur, hblk, hs⟩, hrow, hgl, hml⟩ := h
  rw [Fr.take_len] at hrow
  exact ⟨Nat.le_refl _, hl, fun _ => ⟨g, rfl, by omega, hblk.lt, NdRow.keep (fun _ _ _ => rfl) (by omega) (Nat.le_refl _) f g 0 (fun _ _ => rfl) hrow⟩⟩

set_option maxRecDepth 100000 in
set_option maxHeartbeats 4000000 in
theorem mkS_of (s : ByteArray) (f : Fr) (h : ∀ i k n s kids rest, f.drop i = .cons k n s kids rest → MkT s kids) : MkS s f := by
  intro n d l A cap lo hi mb w hk hh hf hnd hmb ht hblk hl0 hl1 hd0 hd1
  have hl := hk.1
  have hm := hk.2.1
  have hmlt := hblk.lt
  have hne := tab_ne ht hblk
  have hs := hf.2.2
  unfold maxLen at hm
  have hq0 : ∀ (o : Obj), Blk (w.alloc o) mb 152 #[.int .i64 l] := fun o => hblk.alloc o
  have hg0 : ∀ (o : Obj), w.grownBy (w.alloc o) (some mb) := fun o => World.grownBy_alloc w o _
  have C1 := fun (o : Obj) => nv.impl_any s (w.alloc o) hs (tab_grown ht (hg0 o) hne)
  have HQ0 := Lib.hid hq0
  have HG0 := Lib.hid hg0
  have HK := Lib.hid hk
  have HT := Lib.hid ht
  have HH := Lib.hid h
  have HNE := Lib.hid hne
  have HND := Lib.hid hnd
  clear hq0 hg0 hk ht hblk h hf hne hs hnd
  by_cases c1 : n = 0
  · subst c1
    have HE : Hid (okS 0 s f d l = (nv.nameB s.data.toList && (decide (f.len ≤ 4) && okF f (d + 1) l))) := Lib.hid rfl
    generalize nv.nameB s.data.toList = t at *
    have H1 := Lib.hid C1
    clear C1
    cases t
    · have HV : Hid (okS 0 s f d l = false) := Lib.hid (by rw [HE.out]; rfl)
      go_enter Tryz.func102, Tryz.ntmps102
      go_wp2_with fail
      refine (H1.out _).mono ?_
      rintro e w2 ⟨rfl, rfl⟩
      go_wp2_with fail
      go_ret2
      exact ⟨HG0.out _, .inr ⟨HV.out, rfl, _, HQ0.out _⟩⟩
    · by_cases c2 : 4 < f.len
      · have HV : Hid (okS 0 s f d l = false) := Lib.hid (by rw [HE.out, decide_eq_false (show ¬ f.len ≤ 4 by omega)]; rfl)
        go_enter Tryz.func102, Tryz.ntmps102
        go_wp2_with fail
        refine (H1.out _).mono ?_
        rintro e w2 ⟨rfl, rfl⟩
        go_wp2_with fail
        go_ret2
        exact ⟨HG0.out _, .inr ⟨HV.out, rfl, _, HQ0.out _⟩⟩
      · have HV : Hid (okS 0 s f d l = okF f (d + 1) l) := Lib.hid (by rw [HE.out, decide_eq_true (show f.len ≤ 4 by omega)]; simp)
        have hv0 : okF f (d + 1) l = okF f (d + 1) l := rfl
        generalize hv : okF f (d + 1) l = v at *
        have HV0 := Lib.hid hv
        have hbx := fun i => (Blk.new w 30 #[.int .i64 3, .int .i64 0, .string s, .slice A f.len cap]).cell i
        have hbx2 := hbx 2
        have hbx3 := hbx 3
        simp only [List.getElem?_toArray, List.getElem?_cons_zero, List.getElem?_cons_succ] at hbx2 hbx3
        have hg1 := HG0.out (.cells #[.int .i64 3, .int .i64 0, .string s, .slice A f.len cap] 30)
        have hq1 := HQ0.out (.cells #[.int .i64 3, .int .i64 0, .string s, .slice A f.len cap] 30)
        have hsz1 : (w.alloc (.cells #[.int .i64 3, .int .i64 0, .string s, .slice A f.len cap] 30)).heap.size = w.heap.size + 1 := by simp
        clear hv hv0 HE hbx
        obtain ⟨i0, hi0, hz0, hz1, hz2⟩ := info_parts infoN
        go_enter Tryz.func102, Tryz.ntmps102
        go_wp2_with fail
        refine (H1.out _).mono ?_
        rintro e w2 ⟨rfl, rfl⟩
        generalize hw1 : w.alloc (.cells #[.int .i64 3, .int .i64 0, .string s, .slice A f.len cap] 30) = w1 at *
        have hst := fun w2 base xs => MPart.start (w := w1) (w1 := w1) (w2 := w2) (f := f) (mb := mb) (base := base) (xs := xs) (l := l) (World.grownBy.refl w1 _) hq1 (by omega)
        have hfin := fun wr l => MPart.fin (w := w1) (wr := wr) (f := f) (mb := mb) (g := w1.heap.size) (l := l)
        have HST := Lib.hid hst
        have HFIN := Lib.hid hfin
        have HG1 := Lib.hid hg1
        have HSZ := Lib.hid hsz1
        have HTAB := Lib.hid (tab_grown HT.out hg1 HNE.out)
        have HK1 := Lib.hid (kids_grown HK.out hg1 hh hmb)
        clear hw1 hst hfin hg1 hsz1 hq1 H1
        have hfl : f.len ≤ 4 := by omega
        generalize hn : f.len = len at *
        have HN := Lib.hid hn
        clear hn
        go_wp2_with (at_make; go_must (refine wpList_make_full _ rfl _ _ 51 rfl w1.heap.size 115 i0 _ 1 Tryz.underlying51 hi0 hz0 hz1 .i64 .i64 _ _ len rfl rfl rfl rfl (by rw [hz2]; omega) (by unfold maxLen; omega) (Nat.le_refl _) ?_); intro w2 hown hgrow; have hcb3 := hgrow.cell hbx3 (by simp))
        have hp0 := HST.out _ _ _ hown hgrow
        have HP0 := Lib.hid hp0
        clear hp0 hown hgrow hcb3 HST hi0 hz0 hz1 hz2
        go_loopw [35] (fun i wr => ∃ (j : Nat) (l' : Int), j ≤ len ∧ i = .int .i64 j ∧ okF (f.drop j) (d + 1) l' = v ∧ l' - nodes (f.drop j) = l - nodes f ∧ 0 ≤ l' ∧ l' ≤ 120 ∧ MPart w1 f mb w1.heap.size j l' wr) (fun i _ => len - (intOf i).toNat)
        case atStart => exact ⟨0, l, Nat.zero_le _, rfl, HV0.out, rfl, hl0, hl1, HP0.out⟩
        case round =>
          obtain ⟨j, l', hj, rfl, hv, hcnt, hl0', hl1', hpart⟩ := hrel
          have hgr := hpart.1
          have hsz1 := HSZ.out
          have hcr2 := (cell_grownBy hgr (p := ⟨w.heap.size, 2, none⟩) (by simp only; omega) (by simp only; omega)).trans hbx2
          have hcr3 := (cell_grownBy hgr (p := ⟨w.heap.size, 3, none⟩) (by simp only; omega) (by simp only; omega)).trans hbx3
          have HPT := Lib.hid hpart
          clear hpart
          by_cases hlt : j < len
          · have hltf : j < f.len := by rw [HN.out]; exact hlt
            obtain ⟨kk, nn, s', kids, hd'⟩ := Fr.drop_cons j f hltf
            obtain ⟨b, o, rfl, hlb, hbb, hrow⟩ := HK1.out.2.2 (by rw [HN.out]; omega)
            obtain ⟨hfit, A', cap', c0, c1, c2, c3, hkid⟩ := hrow.elem hd'
            have hne := nodes_elem j f hd'
            have hndf := HND.out
            rw [hd', okF_cons] at hv
            rw [hd'] at hcnt
            simp only [nodes] at hcnt
            have hlo : (⟨b, o, none⟩ : Addr).block < w1.heap.size := by simp only; omega
            have hno : (⟨b, o, none⟩ : Addr).block ≠ mb := by simp only; omega
            have k0 := (cell_grownBy hgr (p := ⟨b, o + j * 4, none⟩) hlo hno).trans c0
            have k1 := (cell_grownBy hgr (p := ⟨b, o + j * 4 + 1, none⟩) hlo hno).trans c1
            have k2 := (cell_grownBy hgr (p := ⟨b, o + j * 4 + 2, none⟩) hlo hno).trans c2
            have k3 := (cell_grownBy hgr (p := ⟨b, o + j * 4 + 3, none⟩) hlo hno).trans c3
            have C1 := fun (ob : Obj) => HH.out _ _ _ _ _ _ hd' kk nn (d + 1) l' A' cap' lo hi mb (wr.alloc ob) (kids_grown hkid (grownBy_alloc' hgr ob) (by omega) hmb) (by have := (grownBy_alloc' hgr ob).size; omega) hfit (by omega) hmb (tab_grown HTAB.out (grownBy_alloc' hgr ob) HNE.out) (HPT.out.2.1.alloc ob) hl0' hl1' (by omega) (by omega)
            have cellsOf : ∀ (ob : Obj) w3, (wr.alloc ob).grownBy w3 (some mb) → (∃ u, w3.cell? ⟨w1.heap.size, j, none⟩ = some u) ∧ w3.frozen? ⟨w1.heap.size, j, none⟩ = false := fun ob w3 h3 => by
              obtain ⟨_, _, ⟨cur, hb, hs⟩, _, _, hml⟩ := HPT.out
              have b3 := (hb.alloc ob).grown h3 (by omega)
              refine ⟨?_, b3.frozen _⟩
              rw [b3.cell]
              exact ⟨_, Array.getElem?_eq_getElem (by omega)⟩
            have stepOf := fun (ob : Obj) w3 v l2 (h2 : (wr.alloc ob).grownBy w3 (some mb)) (hv : NdV w3 (wr.alloc ob).heap.size w3.heap.size kk nn s' kids v) (hm : Blk w3 mb 152 #[.int .i64 l2]) =>
              HPT.out.step hd' hltf (World.grownBy_alloc wr ob (some mb)) h2 hv hm
            have HR : Hid (okT kk nn s' kids (d + 1) l' = true → (nodes kids : Int) + 1 ≤ l') := Lib.hid (okT_range kk nn s' kids (d + 1) l')
            generalize okT kk nn s' kids (d + 1) l' = t at *
            have H1 := Lib.hid C1
            have HC := Lib.hid cellsOf
            have HS := Lib.hid stepOf
            have HE := Lib.hid hv
            have HCN := Lib.hid hcnt
            have HGR := Lib.hid hgr
            clear C1 hv c0 c1 c2 c3 hkid hrow hfit hd' hlo hno hne hndf cellsOf stepOf hltf hbx2 hbx3 hcnt hgr hsz1 hcr2
            go_wp2_with fail
            refine (H1.out _).mono ?_
            rintro e w3 ⟨hg3, hr⟩
            obtain ⟨⟨u0, d0⟩, f0⟩ := HC.out _ _ hg3
            rcases hr with ⟨hok, vv, rfl, hnv, hq⟩ | ⟨hok, rfl, l2, hq⟩
            · subst hok
              have hstep := HS.out _ _ _ _ hg3 hnv hq
              obtain ⟨T, x, rfl⟩ := hnv.iface
              have HST := Lib.hid hstep
              have HF : Hid (okF (f.drop (j + 1)) (d + 1) (l' - (nodes kids + 1)) = v) := Lib.hid (by rw [← HE.out]; rfl)
              have hr1 := HR.out rfl
              have hcn := HCN.out
              have HF2 : Hid (l' - ((nodes kids : Int) + 1) - nodes (f.drop (j + 1)) = l - nodes f) := Lib.hid (by omega)
              clear hq hnv hstep hg3 k0 k1 k2 k3 hcr3 hcn
              go_wp2_with fail
              go_roundw
              case rel => exact ⟨j + 1, l' - (nodes kids + 1), by omega, by go_num, HF.out, HF2.out, by omega, by omega, HST.out⟩
              case measure => simp [intOf]; omega
            · subst hok
              have HF : Hid (v = false) := Lib.hid (by rw [← HE.out]; rfl)
              have hgg := grownBy_trans HG1.out (grownBy_trans (grownBy_alloc' HGR.out _) hg3)
              have HGG := Lib.hid hgg
              have HQ := Lib.hid hq
              clear hq hgg hg3 k0 k1 k2 k3 hcr3
              go_wp2_with fail
              go_ret2
              exact ⟨HGG.out, .inr ⟨by rw [HV.out, HF.out], rfl, l2, HQ.out⟩⟩
          · obtain rfl : j = len := by omega
            have h1 := Fr.drop_len f
            rw [HN.out] at h1
            rw [h1] at hv hcnt
            have HE : Hid (v = true) := Lib.hid (by rw [← hv]; exact okF_nil _ _ hl0')
            have hl' : l' = l - nodes f := by
              have : nodes .nil = 0 := rfl
              rw [this] at hcnt; omega
            have HNS := Lib.hid (HFIN.out wr l' HPT.out (by unfold maxLen; omega) w.heap.size (by omega))
            have HQ := Lib.hid HPT.out.2.1
            have HGG := Lib.hid (grownBy_trans HG1.out hgr)
            have HL := Lib.hid hl'
            clear hv hcnt hl' hgr h1 hbx2 hbx3 hcr3 hsz1
            go_wp2_with fail
            go_ret2
            refine ⟨HGG.out, .inl ⟨by rw [HV.out, HE.out], _, rfl, .inr (.inr ⟨rfl, _, _, ?_, HNS.out⟩), by rw [← HL.out]; exact HQ.out⟩⟩
            rw [HN.out]; rfl
  · have HV : Hid (okS n s f d l = false) := Lib.hid (by unfold okS; rw [show (n == 0) = false by rw [beq_eq_false_iff_ne]; exact c1]; rfl)
    have t1 : (n != 0) = true := by simpa using c1
    clear C1 c1
    go_enter Tryz.func102, Tryz.ntmps102
    go_wp2_with fail
    go_ret2
    exact ⟨HG0.out _, .inr ⟨HV.out, rfl, _, HQ0.out _⟩⟩
theorem mk_all (N : Nat) : ∀ (s : ByteArray) (f : Fr), f.size ≤ N → MkT s f := by
  induction N with
  | zero =>
    intro s f hf
    refine mkT_of s f (mkS_of s f fun i k n s kids rest hd => ?_)
    have h1 := Fr.size_drop i f
    rw [hd] at h1
    simp only [Fr.size] at h1
    omega
  | succ N ih =>
    intro s f hf
    refine mkT_of s f (mkS_of s f fun i k n s kids rest hd => ih s kids ?_)
    have h1 := Fr.size_drop i f
    rw [hd] at h1
    simp only [Fr.size] at h1
    omega
/-- impl's makeNode. -/
theorem mkT_any (s : ByteArray) (f : Fr) : MkT s f := mk_all f.size s f (Nat.le_refl _)
end Go.Proofs.YtihmgodiiohdnaaGreatDoor
