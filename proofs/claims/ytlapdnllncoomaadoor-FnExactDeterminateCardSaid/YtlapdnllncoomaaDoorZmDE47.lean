/- impl.newKeyIndex. Condition: the program lies in memory, its clauses are well-formed; the table of powers of ten in its variable. -/
import Derived.Test.YtlapdnllncoomaaDoorProg
import Derived.Test.YtlapdnllncoomaaDoorZmDE46
import Derived.Deep.AppendLies
namespace Go.Proofs.YtlapdnllncoomaaDoor
open Go.RowKit Go.WideMaps Go.Maps Go.ChangeShapes

/-- j clauses are indexed. -/
def NkP (W0 : World) (cs : List Cl) (MF j : Nat) (wr : World) : Prop :=
  Below W0.heap.size W0 wr ∧ MF + 1 ≤ wr.heap.size ∧ ∃ (n : Nat) (D : DataW Unit), n ≤ 20 * j ∧ wr.ownsGroups Tryd.prog 109 (MF + 1) 3 .i64 MF n D ∧ IsMap D ∧ KxD D cs (cs.take j)
theorem clause_get {cs : List Cl} {j : Nat} {c : Cl} {rest : List Cl} (h : cs.drop j = c :: rest) : cs[j]? = some c := by
  rw [← List.head?_drop, h]
  rfl
theorem drop_get {cs : List Cl} {j : Nat} {c : Cl} (h : cs[j]? = some c) : ∃ rest, cs.drop j = c :: rest := by
  rw [← List.head?_drop] at h
  cases hd : cs.drop j with
  | nil => rw [hd] at h; cases h
  | cons x r =>
    rw [hd] at h
    obtain rfl : x = c := by simpa using h
    exact ⟨r, rfl⟩

theorem nds_hi {w : World} {lo hi B : Nat} {f : Fr} {A : Option Addr} {cap : Nat} (h : NdS w lo hi f A cap) (hn : ∀ b, lo ≤ b → b < hi → b < B) : ∃ lo' hi', hi' ≤ B ∧ NdS w lo' hi' f A cap := by
  by_cases h0 : 0 < f.len
  · obtain ⟨b, _, h1, h2, _⟩ := h.2.2 h0
    exact ⟨lo, hi, by have := hn (hi - 1) (by omega) (by omega); omega, h⟩
  · exact ⟨0, 0, Nat.zero_le _, h.1, h.2.1, fun hp => absurd hp h0⟩
theorem filter_take {zs : List Int} {m : Nat} {z : Int} (p : Int → Bool) (h : zs[m]? = some z) : (zs.take (m + 1)).filter p = (zs.take m).filter p ++ (if p z = true then [z] else []) := by
  rw [List.take_add_one, h, List.filter_append]
  congr 1
  by_cases hp : p z = true
  · rw [if_pos hp]; simp [hp]
  · rw [if_neg hp]; simp [hp]
theorem ixB_of {cs : List Cl} {jz : Nat} {cz : Cl} (key : List UInt8) (h : cs[jz]? = some cz) : ixB cs key (jz : Int) = ((keyF cz.kids).isEmpty || (keyF cz.kids == key)) := by
  unfold ixB
  rw [kdAt_of h]
theorem ba_mk2 (s t : List UInt8) : ((⟨s.toArray⟩ : ByteArray).toList == (⟨t.toArray⟩ : ByteArray).toList) = (s == t) := by rw [ByteArray.toList_eq, ByteArray.toList_eq]
theorem ba_empty (l : List UInt8) : ((⟨l.toArray⟩ : ByteArray).toList == []) = l.isEmpty := by
  rw [ByteArray.toList_eq, beq_nil]

set_option maxRecDepth 100000 in
set_option maxHeartbeats 16000000 in
/-- impl.newKeyIndex. -/
theorem newKey_any (cs : List Cl) (R : Option Addr) (M lo : Nat) (w : World) (h : PgAt w cs R M lo) (hwf : ∀ c ∈ cs, WfK c) (hcl : cs.length ≤ 20)
    (hp : ∀ w1, Below w.heap.size w w1 → Lib.TabIs Tryd.prog w1 "internal/strconv.uint64pow10" .u64 Lib.pow10Tab) :
    Calls Tryd.prog 44 #[.agg #[.slice R cs.length cs.length, .map (some M)]] w fun e w' => ∃ (MF n : Nat) (D : DataW Unit), e = .returned (.agg #[.slice R cs.length cs.length, .map (some M), .map (some MF)]) ∧ w.heap.size ≤ MF ∧ MF < w'.heap.size ∧ n ≤ 400 ∧
      w'.ownsGroups Tryd.prog 109 (MF + 1) 3 .i64 MF n D ∧ IsMap D ∧ KxD D cs cs ∧ Below w.heap.size w w' := by
  have hmm := @run_makeMap Tryd.prog
  have hwc : ∀ c ∈ cs, WfC c := fun c hc => (hwf c hc).1
  have hpg0 := h
  obtain ⟨hlo, hM, Dx, hDx, _, r, rfl, hr1, hr2, hct⟩ := h
  have hb2 : Below w.heap.size w ((w.alloc (.cells #[.slice (some ⟨r, 0, none⟩) cs.length cs.length, .map (some M)] 73)).alloc (.cells #[.slice none 0 0, .map none, .map none] 79)) := two_alloc w _ _
  have hq1 : Blk ((w.alloc (.cells #[.slice (some ⟨r, 0, none⟩) cs.length cs.length, .map (some M)] 73)).alloc (.cells #[.slice none 0 0, .map none, .map none] 79)) w.heap.size 73 #[.slice (some ⟨r, 0, none⟩) cs.length cs.length, .map (some M)] := (Blk.new w _ _).alloc _
  have hq2 : Blk ((w.alloc (.cells #[.slice (some ⟨r, 0, none⟩) cs.length cs.length, .map (some M)] 73)).alloc (.cells #[.slice none 0 0, .map none, .map none] 79)) (w.heap.size + 1) 79 #[.slice none 0 0, .map none, .map none] := by
    have h := Blk.new (w.alloc (.cells #[.slice (some ⟨r, 0, none⟩) cs.length cs.length, .map (some M)] 73)) 79 #[.slice none 0 0, .map none, .map none]
    simpa using h
  have hs2 : ((w.alloc (.cells #[.slice (some ⟨r, 0, none⟩) cs.length cs.length, .map (some M)] 73)).alloc (.cells #[.slice none 0 0, .map none, .map none] 79)).heap.size = w.heap.size + 2 := by simp
  have hsh := groups_shun hDx
  have HPG := Lib.hid (hpg0.below hb2)
  have HSH : Hid (((w.alloc (.cells #[.slice (some ⟨r, 0, none⟩) cs.length cs.length, .map (some M)] 73)).alloc (.cells #[.slice none 0 0, .map none, .map none] 79)).Shuns M (fun g => w.heap.size ≤ g)) := Lib.hid (hsh.kept (grown_of_below hb2) hM (by simp))
  have HCT := Lib.hid (Cts.keep (fun p hp => hb2.cell hp.2) (fun g hg => hg) cs 0 (fun j _ => hb2.cell (p := ⟨r, j, none⟩) hr2) hct)
  have HB2 := Lib.hid hb2
  have HQ1 := Lib.hid hq1
  have HQ2 := Lib.hid hq2
  have HWF := Lib.hid hwf
  have HWC := Lib.hid hwc
  have HP := Lib.hid hp
  have HMW := Lib.hid hM
  have HRW := Lib.hid hr2
  clear hlo hDx hr1 hct hb2 hq1 hq2 hsh hpg0 hwf hwc hp hM
  generalize hn : cs.length = len at *
  have HN := Lib.hid hn
  clear hn
  obtain ⟨i0, hi0, hz0, hz1, hz2⟩ := info_parts infoIx
  go_enter Tryd.func44, Tryd.ntmps44
  go_wp2_with fail
  generalize hW0 : ((w.alloc (.cells #[.slice (some ⟨r, 0, none⟩) len len, .map (some M)] 73)).alloc (.cells #[.slice none 0 0, .map none, .map none] 79)) = W0 at *
  clear hW0 hmm
  have HST : Hid (NkP W0 cs W0.heap.size 0 (W0.alloc (.map #[] 0))) := Lib.hid ⟨(Below.refl _ _).alloc (Nat.le_refl _) _, by simp, 0, .map [], Nat.le_refl _, World.ownsGroups_made _ _ _ _ _, ⟨[], rfl⟩, KxD.start cs⟩
  rw [hs2] at HST
  generalize hMF : w.heap.size + 2 = MF at *
  have HMF := Lib.hid hMF
  have HS2 := Lib.hid hs2
  have HL20 := Lib.hid hcl
  clear hMF hs2
  go_loopw [16] (fun i wr => ∃ (j : Nat), j ≤ len ∧ i = .int .i64 j ∧ NkP W0 cs MF j wr) (fun i _ => len - (intOf i).toNat)
  case atStart => exact ⟨0, Nat.zero_le _, rfl, HST.out⟩
  case round =>
    obtain ⟨j, hj, rfl, hrel⟩ := hrel
    by_cases hlt : j < len
    · obtain ⟨c, hd⟩ := drop_cl cs j (by rw [HN.out]; exact hlt)
      obtain ⟨hbw, hsz, n, D, hn20, hG, hIM, hK⟩ := hrel
      obtain ⟨A', cp, G, gcap, lo2, hi2, e0, e1, e2, hno, hnd, _⟩ := Cts.get cs 0 j hd HCT.out
      rw [Nat.zero_add] at e0 e1 e2
      have hrlt : r < W0.heap.size := by have := HRW.out; have := HS2.out; have := HMF.out; omega
      have k0 := (hbw.cell (p := ⟨r, j * 3, none⟩) hrlt).trans e0
      have k1 := (hbw.cell (p := ⟨r, j * 3 + 1, none⟩) hrlt).trans e1
      have k2 := (hbw.cell (p := ⟨r, j * 3 + 2, none⟩) hrlt).trans e2
      have hcg := clause_get hd
      have hwk := HWF.out c (List.mem_of_getElem? hcg)
      obtain ⟨lo3, hi3, hh3, hnd3⟩ := nds_hi hnd (B := w.heap.size) (fun b h1 h2 => (hno b h1 h2).2)
      have hws : w.heap.size ≤ W0.heap.size := by have := HS2.out; have := HMF.out; omega
      have hb3 : Below wr.heap.size wr (wr.alloc (.cells #[.string c.s, .slice A' c.kids.len cp, .slice G c.body.len gcap] 91)) := (Below.refl _ _).alloc (Nat.le_refl _) _
      have hq3 := Blk.new wr 91 #[.string c.s, .slice A' c.kids.len cp, .slice G c.body.len gcap]
      have hbw3 := hbw.trans (hb3.mono hbw.size)
      have C1 := keyed_any c.s c.kids A' cp lo3 hi3 29 (wr.alloc (.cells #[.string c.s, .slice A' c.kids.len cp, .slice G c.body.len gcap] 91)) (hnd3.keep (fun p _ hp => hbw3.cell (by omega)) (Nat.le_refl _) (Nat.le_refl _)) (Nat.le_trans hh3 (Nat.le_trans hws hbw3.size)) hwk.2
        (fun w1 hb => HP.out w1 ((HB2.out.trans (hbw3.mono HB2.out.size)).trans (hb.mono (Nat.le_trans hws hbw3.size))))
      have hkl := keyF_len hwk.2
      have hkey := kk_key c.s c.kids.len (keyF c.kids) hwk.1.1 hwk.1.2 (by unfold maxLen; omega)
      have H1 := Lib.hid C1
      have HKEY := Lib.hid hkey
      have HG3 := Lib.hid (groups3_below hG hb3)
      have HQ3 := Lib.hid hq3
      have HB3 := Lib.hid hbw3
      have HSZ3 := Lib.hid (Nat.le_trans hsz hb3.size)
      have HIM := Lib.hid hIM
      have HK := Lib.hid hK
      have HCG := Lib.hid hcg
      have HD := Lib.hid hd
      have HWK := Lib.hid hwk
      have HN20 := Lib.hid hn20
      clear e0 e1 e2 hno hnd hcg hwk hnd3 hb3 hq3 hbw3 C1 hkl hkey hG hbw hIM hK hd hn20 hsz hh3
      have HCK : Hid (ck c = kk c.s c.kids.len (keyF c.kids)) := Lib.hid rfl
      generalize hkv : (⟨(keyF c.kids).toArray⟩ : ByteArray) = kv at *
      have HKV := Lib.hid hkv
      clear hkv
      go_wp2_with fail
      refine H1.out.mono ?_
      rintro e w2 ⟨rfl, hb⟩
      have hbw2 := HB3.out.trans (hb.mono HB3.out.size)
      have hq3' := HQ3.out.below hb HQ3.out.lt
      have q0 := hq3'.cell 0
      have q1 := hq3'.cell 1
      have hq1' := HQ1.out.below hbw2 HQ1.out.lt
      have x0 := hq1'.cell 0
      have x1 := hq1'.cell 1
      simp only [List.getElem?_toArray, List.getElem?_cons_zero, List.getElem?_cons_succ] at q0 q1 x0 x1
      have hwl : w.heap.size < w2.heap.size := hq1'.lt
      have hrl : wr.heap.size < w2.heap.size := hq3'.lt
      have hb4 : Below w2.heap.size w2 (w2.alloc (.cells #[.string c.s, .int .i64 (c.kids.len : Int), .string kv] 109)) := (Below.refl _ _).alloc (Nat.le_refl _) _
      have hG4 := groups3_below (groups3_below HG3.out hb) hb4
      have hbw4 := hbw2.trans (hb4.mono hbw2.size)
      have HQ4 := Lib.hid (Blk.new w2 109 #[.string c.s, .int .i64 (c.kids.len : Int), .string kv])
      have HG4 := Lib.hid hG4
      have HB4 := Lib.hid hbw4
      have HSZ4 : Hid (MF < w2.heap.size) := Lib.hid (by have := HSZ3.out; have := hb.size; omega)
      clear hb hbw2 hq3' hq1' hb4 hG4 hbw4 H1 HG3 HQ3 HB3 HSZ3
      cases hk : Maps.has D (ck c)
      · have HKN := Lib.hid hk
        rw [HCK.out] at hk
        have HKN2 := Lib.hid hk
        clear hk
        have hMlt : M < W0.heap.size := by have := HMW.out; have := HS2.out; have := HMF.out; omega
        have C2 := cfor2_any cs (some ⟨r, 0, none⟩) M lo w.heap.size c.s A' c.kids.len cp (w2.alloc (.cells #[.string c.s, .int .i64 (c.kids.len : Int), .string kv] 109)) (HPG.out.below HB4.out) (HSH.out.kept (grown_of_below HB4.out) hMlt (by simp)) HWC.out (by rw [HN.out]; have := HL20.out; omega) HWK.out.1.1 HWK.out.1.2
        rw [HN.out] at C2
        have H2 := Lib.hid C2
        clear C2 hMlt
        go_wp2_with (first | (at_lookup; go_must (refine wpList_lookup_groups_ok _ rfl _ _ 77 rfl 109 35 3 .i64 lawK3 Tryd.underlying77 (zeroIx _) (MF + 1) MF n D rfl HG4.out _ _ rfl HKEY.out ?_); intro vk; rw [HKN2.out]))
        refine H2.out.mono ?_
        rintro e w6 ⟨v, rfl, ⟨hoi, hvb⟩, hb6⟩
        obtain ⟨Av, cz, rfl, hzc, hzm, _⟩ := OwnI.read (base := M + 1) hoi.1
        have hzl : (forF cs 0 c.s c.kids.len).length ≤ 20 := Nat.le_trans (forF_len _ _ _ _) (by rw [HN.out]; exact HL20.out)
        have hst : NyP W0 M MF w2.heap.size D c.s c.kids.len (keyF c.kids) (.slice Av (forF cs 0 c.s c.kids.len).length cz) (forF cs 0 c.s c.kids.len) [] (20 * j) w6 :=
          ⟨HB4.out.trans (hb6.mono HB4.out.size), HSZ4.out, by rw [HKV.out]; exact HQ4.out.below hb6 HQ4.out.lt, hoi, n, D, HN20.out, groups3_below HG4.out hb6, HIM.out, by rw [← HCK.out]; exact HK.out.begin HKN.out⟩
        have HNY := Lib.hid hst
        have HVB := Lib.hid hvb
        have HZ20 := Lib.hid hzl
        clear hoi hvb hb6 hzm hst hzl H2 HQ4 HG4 HB4 q0 q1 x0 x1 k0 k1 k2
        generalize hzs : forF cs 0 c.s c.kids.len = zs at *
        have HZS := Lib.hid hzs
        clear hzs
        generalize hzll : zs.length = zl at *
        have HZL := Lib.hid hzll
        clear hzll
        go_wp2_with fail
        obtain ⟨wq, rfl⟩ : ∃ x : World, x = wr := ⟨wr, rfl⟩
        have hzl20 := HZ20.out
        go_loopw [35] (fun i wx => ∃ (m : Nat), m ≤ zl ∧ i = .int .i64 m ∧ NyP W0 M MF w2.heap.size D c.s c.kids.len (keyF c.kids) (.slice Av zl cz) zs ((zs.take m).filter (ixB cs (keyF c.kids))) (20 * j + m) wx) (fun i _ => zl - (intOf i).toNat)
        case atStart => exact ⟨0, Nat.zero_le _, rfl, HNY.out⟩
        case round =>
          obtain ⟨m, hm, rfl, hny⟩ := hrel
          by_cases hml : m < zl
          · obtain ⟨z, hz⟩ : ∃ z, zs[m]? = some z := ⟨zs[m]'(by rw [HZL.out]; exact hml), List.getElem?_eq_getElem _⟩
            obtain ⟨jz, czl, hzj, hjl, hcz, hcs1, hcs2⟩ := forF_mem c.s c.kids.len z cs 0 (by rw [HZS.out]; exact List.mem_of_getElem? hz)
            obtain rfl : z = (jz : Int) := by omega
            rw [HN.out] at hjl
            obtain ⟨rest, hdz⟩ := drop_get hcz
            obtain ⟨Az, cpz, Gz, gcz, lo4, hi4, ez0, ez1, _, hnoz, hndz, _⟩ := Cts.get cs 0 jz hdz HCT.out
            rw [Nat.zero_add] at ez0 ez1
            rw [hcs1] at ez0
            rw [hcs2] at ez1
            obtain ⟨lo5, hi5, hh5, hnd5⟩ := nds_hi hndz (B := w.heap.size) (fun b h1 h2 => (hnoz b h1 h2).2)
            have HNYX := Lib.hid hny
            obtain ⟨hbx, _, _, hoiv, _⟩ := hny
            obtain ⟨A2, c2, he, _, _, hrd⟩ := OwnI.read (base := M + 1) hoiv.1
            obtain ⟨gv, hA2, _, hcell⟩ := hrd (by rw [HZL.out]; omega)
            have hkv7 : Av = some ⟨gv, 0, none⟩ ∧ wr.cell? ⟨gv, m, none⟩ = some (.int .i64 (jz : Int)) := by
              injection he with h1 h2 h3
              refine ⟨h1.trans hA2, ?_⟩
              have := (hcell m (by rw [HZL.out]; exact hml)).1
              rw [this]
              simp [List.getD, hz]
            obtain ⟨rfl, kv7⟩ := hkv7
            have kz0 := (hbx.cell (p := ⟨r, jz * 3, none⟩) hrlt).trans ez0
            have kz1 := (hbx.cell (p := ⟨r, jz * 3 + 1, none⟩) hrlt).trans ez1
            have hq1' := HQ1.out.below hbx HQ1.out.lt
            have x0 := hq1'.cell 0
            simp only [List.getElem?_toArray, List.getElem?_cons_zero] at x0
            have C7 := keyed_any c.s czl.kids Az cpz lo5 hi5 29 wr (hnd5.keep (fun p _ hp => hbx.cell (by omega)) (Nat.le_refl _) (Nat.le_refl _)) (Nat.le_trans hh5 (Nat.le_trans hws hbx.size)) (HWF.out czl (List.mem_of_getElem? hcz)).2
              (fun w1 hb => HP.out w1 ((HB2.out.trans (hbx.mono HB2.out.size)).trans (hb.mono (Nat.le_trans hws hbx.size))))
            rw [hcs2] at C7
            have HIX := Lib.hid (ixB_of (keyF c.kids) hcz)
            have HZM := Lib.hid hz
            have hkz1 := ba_empty (keyF czl.kids)
            have hkz2 := ba_mk2 (keyF czl.kids) (keyF c.kids)
            rw [HKV.out] at hkz2
            have HE1 := Lib.hid hkz1
            have HE2 := Lib.hid hkz2
            have H7 := Lib.hid C7
            clear hzj hcz hcs1 hcs2 hdz ez0 ez1 hnoz hndz hnd5 hbx hoiv he hrd hA2 hcell hq1' C7 hz hkz1 hkz2 hh5
            generalize (⟨(keyF czl.kids).toArray⟩ : ByteArray) = kz at *
            go_wp2_with fail
            refine H7.out.mono ?_
            rintro e w7 ⟨rfl, hb7⟩
            have hny7 := HNYX.out.below hb7
            have hqp := hny7.2.2.1
            rw [HKV.out] at hqp
            have p0 := hqp.cell 0
            have p1 := hqp.cell 1
            have p2 := hqp.cell 2
            simp only [List.getElem?_toArray, List.getElem?_cons_zero, List.getElem?_cons_succ] at p0 p1 p2
            have hpl : w2.heap.size < w7.heap.size := hqp.lt
            have hny8 := hny7.below ((Below.refl _ _).alloc (Nat.le_refl _) (.cells #[.string c.s, .int .i64 (c.kids.len : Int), .string kz] 109))
            have HNY8 := Lib.hid hny8
            clear hb7 hny7 hqp hny8 H7 HNYX
            cases h1 : (keyF czl.kids).isEmpty
            · have u1 : (kz.toList == []) = false := by rw [HE1.out]; exact h1
              cases h2 : (keyF czl.kids == keyF c.kids)
              · have u2 : (kz.toList == kv.toList) = false := by rw [HE2.out]; exact h2
                have u3 : ¬ kz.toList = kv.toList := fun e => by rw [e] at u2; simp at u2
                have HIF : Hid (ixB cs (keyF c.kids) (jz : Int) = false) := Lib.hid (by rw [HIX.out, h1, h2]; rfl)
                clear h1 h2
                go_wp2_with fail
                go_roundw
                case rel =>
                  obtain ⟨a1, a2, a3, a4, nx, Dx', a5, a6⟩ := HNY8.out
                  refine ⟨m + 1, by omega, by go_num, ?_⟩
                  rw [filter_take _ HZM.out, HIF.out, if_neg (by decide), List.append_nil]
                  exact ⟨a1, a2, a3, a4, nx, Dx', by omega, a6⟩
                case measure => simp [intOf]; omega
              · have u2 : (kz.toList == kv.toList) = true := by rw [HE2.out]; exact h2
                have u3 : kv.toList = kz.toList := by rw [beq_iff_eq] at u2; exact u2.symm
                clear u2
                have HIT : Hid (ixB cs (keyF c.kids) (jz : Int) = true) := Lib.hid (by rw [HIX.out, h1, h2]; rfl)
                clear h1 h2
                have HNYS : Hid (∃ (u : Value) (us : List Int) (st : Nat) (wE : World), (Instr.mapEntry 77 (.map (some MF)) (.agg #[.string c.s, .int .i64 (c.kids.len : Int), .string kv])).run Tryd.prog ((w7.alloc (.cells #[.string c.s, .int .i64 (c.kids.len : Int), .string kz] 109)).alloc (.cells #[.int .i64 (jz : Int)] 3)) = .ok (.tuple #[u, goInt st]) wE ∧
                    wE.ownsRow (MF + 1) 3 1 u us.length (us.map (Value.int .i64)) ∧ us.length ≤ 1000 ∧ Blk wE (w7.heap.size + 1) 3 #[.int .i64 (jz : Int)] ∧ MF + 1 ≤ wE.heap.size ∧
                    ∀ g cap4 w8, w8.ownsRow (MF + 1) 3 1 (.slice (some ⟨g, 0, none⟩) (us.length + 1) cap4) (us.length + 1) (us.map (Value.int .i64) ++ [.int .i64 (jz : Int)]) → wE.grownBy w8 u.ownBlock → (u.ownBlock = some g ∨ g = wE.heap.size) →
                      ∃ w9, (Instr.entryStore 77 (.map (some MF)) (goInt st) (.slice (some ⟨g, 0, none⟩) (us.length + 1) cap4)).run Tryd.prog w8 = .ok () w9 ∧ NyP W0 M MF w2.heap.size D c.s c.kids.len (keyF c.kids) (.slice (some ⟨gv, 0, none⟩) zl cz) zs ((zs.take m).filter (ixB cs (keyF c.kids)) ++ [(jz : Int)]) (20 * j + m + 1) w9) := Lib.hid (by
                  obtain ⟨a1, a2, a3, a4, nx, Dx', a5, a6, a7, a8⟩ := HNY8.out.below ((Below.refl _ _).alloc (Nat.le_refl _) (.cells #[.int .i64 (jz : Int)] 3))
                  have hj20 := HL20.out
                  obtain ⟨u, us, st, wE, hrunE, hgE, hsE, hat, hoE, hul, hbk⟩ := groups_entry a6 lawK3 Tryd.underlying77 (fun u => zeroIx u) (by unfold maxLen; have := HZ20.out; omega) HKEY.out
                  refine ⟨u, us, st, wE, hrunE, hoE.1, by have := HZ20.out; omega, ?_, ?_, fun g cap4 w8 h8 hg8 hat8 => ?_⟩
                  · have hnb := Blk.new (w7.alloc (.cells #[.string c.s, .int .i64 (c.kids.len : Int), .string kz] 109)) 3 #[.int .i64 (jz : Int)]
                    rw [show (w7.alloc (.cells #[.string c.s, .int .i64 (c.kids.len : Int), .string kz] 109)).heap.size = w7.heap.size + 1 by simp] at hnb
                    exact hnb.keep (hgE.block _ hnb.lt (by simp; omega))
                  · rw [hsE]
                    have := a3.lt
                    omega
                  · have ho8 : w8.ownsInts (MF + 1) 3 .i64 (.slice (some ⟨g, 0, none⟩) (us.length + 1) cap4) (us ++ [(jz : Int)]) := hoE.appended h8 (WalkArith.wf_i64 (by omega))
                    obtain ⟨w9, hst9, ho9, hg9⟩ := hbk w8 _ (us ++ [(jz : Int)]) hg8 ho8 (by simp; omega) (by
                      rcases hat8 with h | h
                      · exact .inl (by rw [h]; rfl)
                      · exact .inr ⟨g, rfl, by rw [h]; exact Nat.le_refl _⟩)
                    exact ⟨w9, hst9, ny_step a1 (HS2.out) (fun g hg => Nat.lt_of_lt_of_le (HVB.out g hg) hws) a2 a3 a4 a5 a7 a8 hgE hat hoE hg8 ho8 hg9 ho9⟩)
                obtain ⟨u, us, st, wE, hrunE, hoE, hul, hnb, hszE, hst⟩ := HNYS.out
                have HOE := Lib.hid hoE
                have HNB := Lib.hid hnb
                have HSTP := Lib.hid hst
                clear HNYS hoE hnb hst
                go_wp2_with (first
                  | (refine wpList_mapEntry_run _ rfl _ _ _ rfl _ _ _ rfl rfl wE hrunE ?_)
                  | (at_builtin; go_must (refine wpList_append_lies _ rfl _ _ _ rfl (MF + 1) 3 i0 _ 1 8 Tryd.underlying35 hi0 hz0 hz1 hz2 rfl (by omega) u us.length (us.map (Value.int .i64)) rfl HOE.out ⟨w7.heap.size + 1, 0, none⟩ 1 1 [.int .i64 (jz : Int)] rfl rfl (World.news_of_block (cs := #[.int .i64 (jz : Int)]) (t := 3) (fr := (0, 0)) HNB.out) (by simp [Value.oneCell']) (by omega) (by unfold maxLen; omega) (by omega) hszE wE.heap.size rfl ?_); intro g cap4 w8 hown8 hgrow hat8 hlt8; obtain ⟨w9, hst9, hny9⟩ := HSTP.out g cap4 w8 hown8 hgrow hat8; have HNY9 := Lib.hid hny9; clear hown8 hgrow hat8 hlt8 hny9)
                  | (refine wpList_entryStore_run _ rfl _ _ _ _ rfl _ _ _ rfl rfl rfl w9 hst9 ?_))
                go_roundw
                case rel =>
                  refine ⟨m + 1, by omega, by go_num, ?_⟩
                  rw [filter_take _ HZM.out, HIT.out, if_pos rfl]
                  exact HNY9.out
                case measure => simp [intOf]; omega
            · have u1 : (kz.toList == []) = true := by rw [HE1.out]; exact h1
              have HIT : Hid (ixB cs (keyF c.kids) (jz : Int) = true) := Lib.hid (by rw [HIX.out, h1]; rfl)
              clear h1
              have HNYS : Hid (∃ (u : Value) (us : List Int) (st : Nat) (wE : World), (Instr.mapEntry 77 (.map (some MF)) (.agg #[.string c.s, .int .i64 (c.kids.len : Int), .string kv])).run Tryd.prog ((w7.alloc (.cells #[.string c.s, .int .i64 (c.kids.len : Int), .string kz] 109)).alloc (.cells #[.int .i64 (jz : Int)] 3)) = .ok (.tuple #[u, goInt st]) wE ∧
                  wE.ownsRow (MF + 1) 3 1 u us.length (us.map (Value.int .i64)) ∧ us.length ≤ 1000 ∧ Blk wE (w7.heap.size + 1) 3 #[.int .i64 (jz : Int)] ∧ MF + 1 ≤ wE.heap.size ∧
                  ∀ g cap4 w8, w8.ownsRow (MF + 1) 3 1 (.slice (some ⟨g, 0, none⟩) (us.length + 1) cap4) (us.length + 1) (us.map (Value.int .i64) ++ [.int .i64 (jz : Int)]) → wE.grownBy w8 u.ownBlock → (u.ownBlock = some g ∨ g = wE.heap.size) →
                    ∃ w9, (Instr.entryStore 77 (.map (some MF)) (goInt st) (.slice (some ⟨g, 0, none⟩) (us.length + 1) cap4)).run Tryd.prog w8 = .ok () w9 ∧ NyP W0 M MF w2.heap.size D c.s c.kids.len (keyF c.kids) (.slice (some ⟨gv, 0, none⟩) zl cz) zs ((zs.take m).filter (ixB cs (keyF c.kids)) ++ [(jz : Int)]) (20 * j + m + 1) w9) := Lib.hid (by
                obtain ⟨a1, a2, a3, a4, nx, Dx', a5, a6, a7, a8⟩ := HNY8.out.below ((Below.refl _ _).alloc (Nat.le_refl _) (.cells #[.int .i64 (jz : Int)] 3))
                have hj20 := HL20.out
                obtain ⟨u, us, st, wE, hrunE, hgE, hsE, hat, hoE, hul, hbk⟩ := groups_entry a6 lawK3 Tryd.underlying77 (fun u => zeroIx u) (by unfold maxLen; have := HZ20.out; omega) HKEY.out
                refine ⟨u, us, st, wE, hrunE, hoE.1, by have := HZ20.out; omega, ?_, ?_, fun g cap4 w8 h8 hg8 hat8 => ?_⟩
                · have hnb := Blk.new (w7.alloc (.cells #[.string c.s, .int .i64 (c.kids.len : Int), .string kz] 109)) 3 #[.int .i64 (jz : Int)]
                  rw [show (w7.alloc (.cells #[.string c.s, .int .i64 (c.kids.len : Int), .string kz] 109)).heap.size = w7.heap.size + 1 by simp] at hnb
                  exact hnb.keep (hgE.block _ hnb.lt (by simp; omega))
                · rw [hsE]
                  have := a3.lt
                  omega
                · have ho8 : w8.ownsInts (MF + 1) 3 .i64 (.slice (some ⟨g, 0, none⟩) (us.length + 1) cap4) (us ++ [(jz : Int)]) := hoE.appended h8 (WalkArith.wf_i64 (by omega))
                  obtain ⟨w9, hst9, ho9, hg9⟩ := hbk w8 _ (us ++ [(jz : Int)]) hg8 ho8 (by simp; omega) (by
                    rcases hat8 with h | h
                    · exact .inl (by rw [h]; rfl)
                    · exact .inr ⟨g, rfl, by rw [h]; exact Nat.le_refl _⟩)
                  exact ⟨w9, hst9, ny_step a1 (HS2.out) (fun g hg => Nat.lt_of_lt_of_le (HVB.out g hg) hws) a2 a3 a4 a5 a7 a8 hgE hat hoE hg8 ho8 hg9 ho9⟩)
              obtain ⟨u, us, st, wE, hrunE, hoE, hul, hnb, hszE, hst⟩ := HNYS.out
              have HOE := Lib.hid hoE
              have HNB := Lib.hid hnb
              have HSTP := Lib.hid hst
              clear HNYS hoE hnb hst
              go_wp2_with (first
                | (refine wpList_mapEntry_run _ rfl _ _ _ rfl _ _ _ rfl rfl wE hrunE ?_)
                | (at_builtin; go_must (refine wpList_append_lies _ rfl _ _ _ rfl (MF + 1) 3 i0 _ 1 8 Tryd.underlying35 hi0 hz0 hz1 hz2 rfl (by omega) u us.length (us.map (Value.int .i64)) rfl HOE.out ⟨w7.heap.size + 1, 0, none⟩ 1 1 [.int .i64 (jz : Int)] rfl rfl (World.news_of_block (cs := #[.int .i64 (jz : Int)]) (t := 3) (fr := (0, 0)) HNB.out) (by simp [Value.oneCell']) (by omega) (by unfold maxLen; omega) (by omega) hszE wE.heap.size rfl ?_); intro g cap4 w8 hown8 hgrow hat8 hlt8; obtain ⟨w9, hst9, hny9⟩ := HSTP.out g cap4 w8 hown8 hgrow hat8; have HNY9 := Lib.hid hny9; clear hown8 hgrow hat8 hlt8 hny9)
                | (refine wpList_entryStore_run _ rfl _ _ _ _ rfl _ _ _ rfl rfl rfl w9 hst9 ?_))
              go_roundw
              case rel =>
                refine ⟨m + 1, by omega, by go_num, ?_⟩
                rw [filter_take _ HZM.out, HIT.out, if_pos rfl]
                exact HNY9.out
              case measure => simp [intOf]; omega
          · obtain rfl : m = zl := by omega
            rw [List.take_of_length_le (by rw [HZL.out]; exact Nat.le_refl _), ← HZS.out] at hny
            obtain ⟨a1, a2, a3, _, nx, Dx', a5, a6, a7, a8⟩ := hny
            rw [← HCK.out] at a8
            have hself := ixK_self HCG.out
            have hkx : KxD Dx' cs (cs.take (j + 1)) := by
              rw [take_cl cs j HD.out]
              exact HK.out.done HKN.out a8 (fun e => by rw [e] at hself; simp at hself)
            have HKX : Hid (NkP W0 cs MF (j + 1) wr) := Lib.hid ⟨a1, by have := a3.lt; omega, nx, Dx', by have := HZ20.out; omega, a6, a7, hkx⟩
            clear a1 a2 a3 a5 a6 a7 a8 hself hkx
            go_wp2_with fail
            go_roundw
            case rel => exact ⟨j + 1, by omega, by go_num, HKX.out⟩
            case measure => simp [intOf]; omega
      · have HKY : Hid (KxD D cs (cs.take (j + 1))) := Lib.hid (by
          rw [take_cl cs j HD.out]
          exact HK.out.known (fun x hx => HWF.out x (List.mem_of_mem_take hx)) HWK.out hk)
        rw [HCK.out] at hk
        have HKN := Lib.hid hk
        clear hk
        go_wp2_with (first | (at_lookup; go_must (refine wpList_lookup_groups_ok _ rfl _ _ 77 rfl 109 35 3 .i64 lawK3 Tryd.underlying77 (zeroIx _) (MF + 1) MF n D rfl HG4.out _ _ rfl HKEY.out ?_); intro vk; rw [HKN.out]))
        go_roundw
        case rel => exact ⟨j + 1, by omega, by go_num, HB4.out, by have := HSZ4.out; simp; omega, n, D, by have := HN20.out; omega, HG4.out, HIM.out, HKY.out⟩
        case measure => simp [intOf]; omega
    · obtain rfl : j = len := by omega
      obtain ⟨hbw, hsz, n, D, hn20, hG, hIM, hK⟩ := hrel
      rw [List.take_of_length_le (by rw [HN.out]; exact Nat.le_refl _)] at hK
      have hq2' := HQ2.out.below hbw HQ2.out.lt
      have hq1' := HQ1.out.below hbw HQ1.out.lt
      have x0 := hq1'.cell 0
      have x1 := hq1'.cell 1
      have r0 := hq2'.cell 0
      have r1 := hq2'.cell 1
      have r2 := hq2'.cell 2
      have f0 := hq2'.frozen 0
      have f1 := hq2'.frozen 1
      have f2 := hq2'.frozen 2
      simp only [List.getElem?_toArray, List.getElem?_cons_zero, List.getElem?_cons_succ] at x0 x1 r0 r1 r2
      have HQ2' := Lib.hid hq2'
      have HG := Lib.hid hG
      have HBW := Lib.hid (HB2.out.trans (hbw.mono HB2.out.size))
      have HSZ := Lib.hid hsz
      have HN20 := Lib.hid hn20
      have HIM := Lib.hid hIM
      have HK := Lib.hid hK
      have hl1 : w.heap.size + 1 < wr.heap.size := hq2'.lt
      clear hbw hsz hn20 hG hIM hK hq2' hq1' HST
      have hfin : ∀ a b d : Value, w.heap.size ≤ MF ∧ MF < (((wr.setCell ⟨w.heap.size + 1, 0, none⟩ a).setCell ⟨w.heap.size + 1, 1, none⟩ b).setCell ⟨w.heap.size + 1, 2, none⟩ d).heap.size ∧ n ≤ 400 ∧
          (((wr.setCell ⟨w.heap.size + 1, 0, none⟩ a).setCell ⟨w.heap.size + 1, 1, none⟩ b).setCell ⟨w.heap.size + 1, 2, none⟩ d).ownsGroups Tryd.prog 109 (MF + 1) 3 .i64 MF n D ∧ IsMap D ∧ KxD D cs cs ∧
          Below w.heap.size w (((wr.setCell ⟨w.heap.size + 1, 0, none⟩ a).setCell ⟨w.heap.size + 1, 1, none⟩ b).setCell ⟨w.heap.size + 1, 2, none⟩ d) := fun a b d => by
        have hg := grown3 wr (w.heap.size + 1) 0 1 2 a b d
        have hm := HMF.out
        have hz := HSZ.out
        have hn := HN20.out
        have hl := HL20.out
        exact ⟨by omega, Nat.lt_of_lt_of_le (by omega) hg.size, by omega, HG.out.kept hg (by simp; omega) (HG.out.rowsAbove (fun i hi => by cases hi; omega)), HIM.out, HK.out, HBW.out.grown hg HBW.out.size (fun k hk => by cases hk; omega)⟩
      have HFIN := Lib.hid hfin
      clear hfin
      go_wp2_with fail
      refine bodyPost_ret (v := .agg #[.slice (some ⟨r, 0, none⟩) j j, .map (some M), .map (some MF)]) ?_ rfl ⟨MF, n, D, rfl, HFIN.out _ _ _⟩
      exact results_cell_row Tryd.results44 _ _ (w.heap.size + 1) _ _ _ _ rfl (((HQ2'.out.set_ 0 _).set_ 1 _).set_ 2 _) Tryd.underlying79 rfl (by kernel_rfl)
end Go.Proofs.YtlapdnllncoomaaDoor
