/- The law FnExactListOf, walked. Condition: the argument lies in memory, the table of signs in its variable. -/
import Derived.Test.YtppnmodemhoebaaDoorProg
import Derived.Test.YtppnmodemhoebaaDoorImplL
import Derived.Test.YtppnmodemhoebaaDoorHeld
import Derived.Test.YtppnmodemhoebaaDoorLawTV0
import Derived.Deep.RegionHeld3
namespace Go.Proofs.YtppnmodemhoebaaDoor
open Go.RowKit

/-- What both ListOf answer: the elements, or none. -/
def lsB (k n : Int) (s : ByteArray) (f : Fr) : Bool := validT k n s f && listB k n s f
def lsF (k n : Int) (s : ByteArray) (f : Fr) : Fr := if lsB k n s f = true then fronts k s f else .nil
def ListRes1 (w : World) (G : Fr) (ok : Bool) (e : Ending) (w' : World) : Prop := ∃ A cap, e = .returned (.tuple #[.slice A G.len cap, .bool ok]) ∧ Made w G A cap w'
theorem ListRes.one {w w' : World} {k n : Int} {s : ByteArray} {f : Fr} {e : Ending} (h : ListRes w k n s f e w') : ListRes1 w (lsF k n s f) (lsB k n s f) e w' := by
  obtain ⟨hb, h⟩ := h
  unfold lsF lsB
  rcases h with ⟨hv, A, cap, rfl, hm⟩ | ⟨hv, A, cap, rfl, hc⟩
  · rw [hv, if_pos rfl]
    exact ⟨A, cap, rfl, hm⟩
  · rw [hv, if_neg (by simp)]
    exact ⟨A, cap, rfl, [], ⟨Nat.zero_le _, hc, .inl ⟨rfl, rfl⟩⟩, List.nodup_nil, fun x hx => by simp at hx, hb⟩
theorem lsF_nodes (k n : Int) (s : ByteArray) (f : Fr) : nodes (lsF k n s f) ≤ nodes f := by
  unfold lsF
  split
  · exact fronts_nodes k s f
  · exact Nat.zero_le _

/-- The state of the law behind the call of impl's function: the argument's box at H, the copy's box at H6, the model's answer, the copy and the program's answer. -/
def Ck6 (w : World) (H : Nat) (cs : Array Value) (H6 : Nat) (cs6 : Array Value) (G : Fr) (Aw : Option Addr) (capw lw hw : Nat) (f : Fr) (Ax : Option Addr) (capx : Nat) (Lx : List Nat) (Ag : Option Addr) (capg : Nat) (Lg : List Nat) (hx : Nat) (wk : World) : Prop :=
  Blk wk H 25 cs ∧ Blk wk H6 31 cs6 ∧ KidsAt wk lw hw G Aw capw ∧ OwnS wk f Ax capx Lx ∧ OwnS wk G Ag capg Lg ∧ Below w.heap.size w wk ∧ w.heap.size ≤ H ∧ H < lw ∧ lw ≤ hw ∧ (∀ x ∈ Lx, hw ≤ x ∧ x < hx) ∧ Lx.Nodup ∧ (hw ≤ hx ∧ hx ≤ H6) ∧ (∀ x ∈ Lg, H6 < x) ∧ Lg.Nodup
theorem Ck6.below {w : World} {H : Nat} {cs : Array Value} {H6 : Nat} {cs6 : Array Value} {G : Fr} {Aw : Option Addr} {capw lw hw : Nat} {f : Fr} {Ax : Option Addr} {capx : Nat} {Lx : List Nat} {Ag : Option Addr} {capg : Nat} {Lg : List Nat} {hx : Nat} {wk wl : World}
    (h : Ck6 w H cs H6 cs6 G Aw capw lw hw f Ax capx Lx Ag capg Lg hx wk) (hb : Below wk.heap.size wk wl) : Ck6 w H cs H6 cs6 G Aw capw lw hw f Ax capx Lx Ag capg Lg hx wl := by
  obtain ⟨b0, b6, hk, ho, hg, hw', h1, h2, h3, h4, h5, h6, h7, h8⟩ := h
  exact ⟨b0.below hb b0.lt, b6.below hb b6.lt, hk.below hb (by have := b6.lt; omega), ho.below hb ho.lt, hg.below hb hg.lt, hw'.trans (hb.mono hw'.size), h1, h2, h3, h4, h5, h6, h7, h8⟩
/-- Behind the copy's marks. -/
def Ck10 (w : World) (H : Nat) (cs : Array Value) (G : Fr) (Aw : Option Addr) (capw lw hw : Nat) (Ag : Option Addr) (capg : Nat) (Lg : List Nat) (wk : World) : Prop :=
  Blk wk H 25 cs ∧ KidsAt wk lw hw G Aw capw ∧ hw ≤ wk.heap.size ∧ OwnS wk G Ag capg Lg ∧ Below w.heap.size w wk ∧ w.heap.size ≤ H ∧ H < lw ∧ lw ≤ hw ∧ (∀ x ∈ Lg, hw ≤ x) ∧ Lg.Nodup
theorem Ck6.mark {w : World} {H : Nat} {cs : Array Value} {H6 : Nat} {cs6 : Array Value} {G : Fr} {Aw : Option Addr} {capw lw hw : Nat} {f : Fr} {Ax : Option Addr} {capx : Nat} {Lx : List Nat} {Ag : Option Addr} {capg : Nat} {Lg : List Nat} {hx : Nat} {wk wl : World}
    (h : Ck6 w H cs H6 cs6 G Aw capw lw hw f Ax capx Lx Ag capg Lg hx wk) (hb : Wrote Lx wk wl) : Ck10 w H cs G Aw capw lw hw Ag capg Lg wl := by
  obtain ⟨b0, b6, hk, ho, hg, hw', h1, h2, h3, h4, h5, h6, h7, h8⟩ := h
  have s6 := b6.lt
  refine ⟨hb.blk b0 fun e => ?_, hk.wrote hb (by omega) fun x e => .inr (h4 x e).1, by have := hb.size; omega, hg.wrote hb fun x hx e => ?_, hw'.trans (hb.below hw'.size fun x e => ?_), h1, h2, h3, fun x e => ?_, h8⟩
  · have := (h4 _ e).1; omega
  · have := (h4 x e).2; have := h7 x hx; omega
  · have := (h4 x e).1; omega
  · have := h7 x e; omega
theorem Ck10.below {w : World} {H : Nat} {cs : Array Value} {G : Fr} {Aw : Option Addr} {capw lw hw : Nat} {Ag : Option Addr} {capg : Nat} {Lg : List Nat} {wk wl : World}
    (h : Ck10 w H cs G Aw capw lw hw Ag capg Lg wk) (hb : Below wk.heap.size wk wl) : Ck10 w H cs G Aw capw lw hw Ag capg Lg wl := by
  obtain ⟨b0, hk, hs, hg, hw', h1, h2, h3, h4, h5⟩ := h
  exact ⟨b0.below hb b0.lt, hk.below hb hs, Nat.le_trans hs hb.size, hg.below hb hg.lt, hw'.trans (hb.mono hw'.size), h1, h2, h3, h4, h5⟩
/-- Behind the answer's marks. -/
def Ck12 (w : World) (H : Nat) (cs : Array Value) (G : Fr) (Aw : Option Addr) (capw lw hw : Nat) (Ag : Option Addr) (capg hg : Nat) (wk : World) : Prop :=
  Blk wk H 25 cs ∧ KidsAt wk lw hw G Aw capw ∧ hw ≤ wk.heap.size ∧ KidsAt wk 0 hg (markF G 1) Ag capg ∧ hg ≤ wk.heap.size ∧ Below w.heap.size w wk
theorem Ck10.mark {w : World} {H : Nat} {cs : Array Value} {G : Fr} {Aw : Option Addr} {capw lw hw : Nat} {Ag : Option Addr} {capg : Nat} {Lg : List Nat} {wk wl : World}
    (h : Ck10 w H cs G Aw capw lw hw Ag capg Lg wk) (hb : Wrote Lg wk wl) (ho : OwnS wl (markF G 1) Ag capg Lg) : Ck12 w H cs G Aw capw lw hw Ag capg wl.heap.size wl := by
  obtain ⟨b0, hk, hs, hg, hw', h1, h2, h3, h4, h5⟩ := h
  refine ⟨hb.blk b0 fun e => ?_, hk.wrote hb hs fun x e => .inr (h4 x e), Nat.le_trans hs hb.size, ho.kids fun x hx => ⟨Nat.zero_le _, ho.lt x hx⟩, Nat.le_refl _, hw'.trans (hb.below hw'.size fun x e => ?_)⟩
  · have := h4 _ e; omega
  · have := h4 x e; omega
theorem Ck12.below {w : World} {H : Nat} {cs : Array Value} {G : Fr} {Aw : Option Addr} {capw lw hw : Nat} {Ag : Option Addr} {capg hg : Nat} {wk wl : World}
    (h : Ck12 w H cs G Aw capw lw hw Ag capg hg wk) (hb : Below wk.heap.size wk wl) : Ck12 w H cs G Aw capw lw hw Ag capg hg wl := by
  obtain ⟨b0, hk, hs, hg, hs2, hw'⟩ := h
  exact ⟨b0.below hb b0.lt, hk.below hb hs, Nat.le_trans hs hb.size, hg.below hb hs2, Nat.le_trans hs2 hb.size, hw'.trans (hb.mono hw'.size)⟩

set_option maxRecDepth 100000 in
set_option maxHeartbeats 8000000 in
theorem lawLO_any (k n : Int) (s : ByteArray) (f : Fr) (A : Option Addr) (cap : Nat) (w : World) (hk : KidsAt w 0 w.heap.size f A cap) (hf : Fits k n s) (ht : nv.Tab w) :
    Calls Tryd.prog 7 #[.agg #[.int .i64 k, .int .i64 n, .string s, .slice A f.len cap]] w fun e w' => e = .returned (.bool true) ∧ Below w.heap.size w w' := by
  have hlt := tab_lt ht
  have C1 := fun w1 (hb : Below w.heap.size w w1) => szT_any s f k n A cap 0 w.heap.size 1048576 w1 (hk.below hb (Nat.le_refl _)) hb.size hf (by omega) (by omega)
  have hr := szT_range s f 1048576 (by omega)
  generalize szT s f 1048576 = r at *
  have H1 := Lib.hid C1
  have HK := Lib.hid hk
  have HT := Lib.hid ht
  have HF := Lib.hid hf
  have r1 := hr.1
  have r2 := hr.2.1
  clear C1 hk ht hf
  have hb1 : ∀ o, Below w.heap.size w (w.alloc o) := fun o => (Below.refl _ _).alloc (Nat.le_refl _) _
  have HB1 := Lib.hid hb1
  clear hb1
  by_cases hneg : r < 0
  · clear hr
    go_enter Tryd.func7, Tryd.ntmps7
    go_wp2_with fail
    refine (H1.out _ (HB1.out _)).mono ?_
    rintro e w2 ⟨rfl, hb⟩
    have HB := Lib.hid hb
    clear hb
    go_wp2_with fail
    go_ret
    exact ⟨rfl, (HB1.out _).trans (HB.out.mono (by simp))⟩
  · have hwt : s.size + f.len + wt f ≤ 1048576 := by have := hr.2.2 (by omega); omega
    have hnd : nodes f ≤ 1048576 := by have := nodes_le_wt f; omega
    have hgn : nodes (lsF k n s f) ≤ 1048576 := Nat.le_trans (lsF_nodes k n s f) hnd
    have CT := fun w1 (hb : Below w.heap.size w w1) => toT_any k n s f A cap 0 w.heap.size w1 (HK.out.below hb (Nat.le_refl _)) hb.size (by omega)
    have CS := fun w1 A1 cap1 lo hi (hk : KidsAt w1 lo hi f A1 cap1) hh => (specList_any k n s f A1 cap1 lo hi w1 hk hh HF.out hnd).mono fun _ _ h => h.one
    have CI := fun w1 A1 cap1 lo hi (hk : KidsAt w1 lo hi f A1 cap1) hh (ht : nv.Tab w1) => (implList_any k n s f A1 cap1 lo hi w1 hk hh HF.out hnd ht).mono fun _ _ h => h.one
    have CE := fun w1 A1 cap1 lo hi A2 cap2 lo2 hi2 (hk : KidsAt w1 lo hi f A1 cap1) hh (hk2 : KidsAt w1 lo2 hi2 f A2 cap2) hh2 => eqT_any s f s f k n k n A1 A2 cap1 cap2 lo hi lo2 hi2 w1 hk hk2 hh hh2
    rw [eqT_refl] at CE
    generalize lsF k n s f = G at *
    generalize lsB k n s f = ok at *
    have CG := fun w1 A1 cap1 lo hi A2 cap2 lo2 hi2 (hk : KidsAt w1 lo hi G A1 cap1) hh (hk2 : KidsAt w1 lo2 hi2 G A2 cap2) hh2 => eqS_any G G A1 A2 cap1 cap2 lo hi lo2 hi2 w1 hk hk2 hh hh2
    rw [eqF_refl] at CG
    have CMT : ∀ (w1 : World) (A1 : Option Addr) (cap1 : Nat) (L : List Nat), OwnS w1 f A1 cap1 L → L.Nodup → Calls Tryd.prog 16 #[.agg #[.int .i64 k, .int .i64 n, .string s, .slice A1 f.len cap1], .int .i64 ((1 : Nat) : Int)] w1 fun e w' => e = .returned (.int .i64 ((1 + 3 * nodes f : Nat) : Int)) ∧ OwnS w' (markF f 1) A1 cap1 L ∧ Wrote L w1 w' :=
      fun w1 A1 cap1 L ho hn => markT_any k n s f A1 cap1 1 L w1 ho hn (by omega) (by omega)
    have CMG : ∀ (w1 : World) (A1 : Option Addr) (cap1 : Nat) (L : List Nat), OwnS w1 G A1 cap1 L → L.Nodup → Calls Tryd.prog 26 #[.slice A1 G.len cap1, .int .i64 ((1 : Nat) : Int)] w1 fun e w' => e = .returned (.int .i64 ((1 + 3 * nodes G : Nat) : Int)) ∧ OwnS w' (markF G 1) A1 cap1 L ∧ Wrote L w1 w' :=
      fun w1 A1 cap1 L ho hn => markS_any G A1 cap1 1 L w1 ho hn (by omega) (by omega)
    have CHG := fun w1 A1 cap1 lo hi hk hh => heldS_any G A1 cap1 1 lo hi w1 hk hh (by omega) (by omega)
    have HT' := Lib.hid CT
    have HS := Lib.hid CS
    have HI := Lib.hid CI
    have HE := Lib.hid CE
    have HG := Lib.hid CG
    have HMT := Lib.hid CMT
    have HMG := Lib.hid CMG
    have HHG := Lib.hid CHG
    have tok : (ok != ok) = false := by cases ok <;> rfl
    have tk : ¬ (((1 + 3 * nodes f : Nat) : Int) < 0) := by omega
    have tq : ¬ (((1 + 3 * nodes G : Nat) : Int) < 0) := by omega
    have tm : (((1 + 3 * nodes G : Nat) : Int) != ((1 + 3 * nodes G : Nat) : Int)) = false := by simp
    generalize ((1 + 3 * nodes f : Nat) : Int) = kf at *
    generalize ((1 + 3 * nodes G : Nat) : Int) = kg at *
    clear CT CS CI CE CG CMT CMG CHG hr hwt hnd hgn
    go_enter Tryd.func7, Tryd.ntmps7
    go_wp2_with fail
    refine (H1.out _ (HB1.out _)).mono ?_
    rintro e w2 ⟨rfl, hb⟩
    have hq := (Blk.new w 25 #[.int .i64 k, .int .i64 n, .string s, .slice A f.len cap]).below hb (by simp)
    have hb2 : Below w.heap.size w w2 := (HB1.out _).trans (hb.mono (by simp))
    have hsz2 : w.heap.size < w2.heap.size := by have := hb.size; simp at this; omega
    obtain ⟨a0, a1, a2, a3⟩ := cells4 hq
    have HQ := Lib.hid hq
    have HB2 := Lib.hid hb2
    clear hb hq hb2 H1
    go_wp2_with fail
    refine (HT'.out _ HB2.out).mono ?_
    rintro e w3 ⟨A1, cap1, rfl, hm⟩
    have hm1 := kids_of_made hm
    have hsz3 := hm1.2.size
    have HM1 := Lib.hid hm1
    clear hm hm1 a0 a1 a2 a3
    go_wp2_with fail
    refine (HS.out _ _ _ _ _ HM1.out.1 (Nat.le_refl _)).mono ?_
    rintro e w4 ⟨Aw, capw, rfl, hmw⟩
    have hmw1 := kids_of_made hmw
    have hb4' := HM1.out.2.trans (hmw1.2.mono HM1.out.2.size)
    have hb4w : Below w.heap.size w w4 := HB2.out.trans (hb4'.mono (by omega))
    have hq4 := HQ.out.below hb4' hsz2
    obtain ⟨a0, a1, a2, a3⟩ := cells4 hq4
    have HW := Lib.hid hmw1.1
    have HQ4 := Lib.hid hq4
    have HB4 := Lib.hid hb4w
    have hsz4 : w.heap.size < w4.heap.size := by have := hb4'.size; omega
    have hsz34 := hmw1.2.size
    clear hmw hmw1 hb4' hb4w hq4 HM1 HQ HB2
    go_wp2_with fail
    refine (HT'.out _ HB4.out).mono ?_
    rintro e w5 ⟨Ax, capx, rfl, hmx⟩
    obtain ⟨Lx, hox, hnx, hlx, hbx⟩ := hmx
    have hb5 : Below w.heap.size w w5 := HB4.out.trans (hbx.mono (by omega))
    have hq5 := HQ4.out.below hbx hsz4
    have hw5 := HW.out.below hbx (Nat.le_refl _)
    have hsz5 : w.heap.size < w5.heap.size := by have := hbx.size; omega
    have hsz45 := hbx.size
    have hk5 := hox.kids hlx
    have HQ5 := Lib.hid hq5
    have HB5 := Lib.hid hb5
    have HX5 := Lib.hid hox
    have HXN := Lib.hid hnx
    have HXL := Lib.hid hlx
    have HK5 := Lib.hid hk5
    have HW5 := Lib.hid hw5
    clear hox hnx hlx hbx hb5 hq5 hw5 hk5 a0 a1 a2 a3 HQ4 HB4 HW
    go_wp2_with fail
    refine (HI.out _ _ _ _ _ (HK5.out.below ((Below.refl _ _).alloc (Nat.le_refl _) _) (Nat.le_refl _)) (by simp) (tab_below HT.out (HB5.out.trans (((Below.refl _ _).alloc (Nat.le_refl _) _).mono (Nat.le_of_lt hsz5))) hlt)).mono ?_
    rintro e w6 ⟨Ag, capg, rfl, Lg, hog, hng, hlg, hbg⟩
    have hck : Ck6 w w.heap.size #[.int .i64 k, .int .i64 n, .string s, .slice A f.len cap] w5.heap.size #[.int .i64 k, .int .i64 n, .string s, .slice Ax f.len capx] G Aw capw w3.heap.size w4.heap.size f Ax capx Lx Ag capg Lg w5.heap.size w6 := by
      have hb56 : Below w5.heap.size w5 w6 := ((Below.refl _ _).alloc (Nat.le_refl _) _).trans (hbg.mono (by simp))
      refine ⟨HQ5.out.below hb56 hsz5, (Blk.new w5 _ _).below hbg (by simp), HW5.out.below hb56 hsz45, HX5.out.below hb56 fun x hx => (HXL.out x hx).2, hog, HB5.out.trans (hb56.mono (by omega)), Nat.le_refl _, by omega, by omega, HXL.out, HXN.out, ⟨hsz45, Nat.le_refl _⟩, fun x hx => ?_, hng⟩
      have := (hlg x hx).1
      simp at this
      omega
    clear hog hng hlg hbg HQ5 HB5 HX5 HXN HXL HK5 HW5
    have CKG : ∀ wk, Ck6 w w.heap.size #[.int .i64 k, .int .i64 n, .string s, .slice A f.len cap] w5.heap.size #[.int .i64 k, .int .i64 n, .string s, .slice Ax f.len capx] G Aw capw w3.heap.size w4.heap.size f Ax capx Lx Ag capg Lg w5.heap.size wk →
        KidsAt wk 0 wk.heap.size G Ag capg ∧ KidsAt wk 0 wk.heap.size G Aw capw ∧ KidsAt wk 0 wk.heap.size f Ax capx := fun wk h => by
      obtain ⟨b0, b6, hk, ho, hg, hw', h1, h2, h3, h4, h5, h6, h7, h8⟩ := h
      exact ⟨hg.kids fun x hx => ⟨Nat.zero_le _, hg.lt x hx⟩, hk.more (Nat.zero_le _) (by have := b6.lt; omega), ho.kids fun x hx => ⟨Nat.zero_le _, ho.lt x hx⟩⟩
    have HCKG := Lib.hid CKG
    clear CKG
    have HCK := Lib.hid hck
    have hkk := HCKG.out w6 hck
    have HKK := Lib.hid hkk
    clear hck hkk
    go_wp2_with fail
    refine (HG.out _ _ _ _ _ _ _ _ _ HKK.out.1 (Nat.le_refl _) HKK.out.2.1 (Nat.le_refl _)).mono ?_
    rintro e w7 ⟨rfl, hb7⟩
    have hck7 := HCK.out.below hb7
    obtain ⟨a0, a1, a2, a3⟩ := cells4 hck7.1
    obtain ⟨x0, x1, x2, x3⟩ := cells4 hck7.2.1
    have hbw7 := hck7.2.2.2.2.2.1
    have hs5 := hck7.2.1.lt
    have hs0 := hck7.1.lt
    have HK7 := Lib.hid (HCKG.out w7 hck7).2.2
    have HCK7 := Lib.hid hck7
    have HB7 := Lib.hid hbw7
    clear hb7 hck7 HCK HKK hbw7
    go_wp2_with fail
    go_region_held3 (fun w' => w'.cell? ⟨w5.heap.size, 0, none⟩ = some (.int .i64 k) ∧ w'.cell? ⟨w5.heap.size, 1, none⟩ = some (.int .i64 n) ∧ w'.cell? ⟨w5.heap.size, 2, none⟩ = some (.string s) ∧ w'.cell? ⟨w5.heap.size, 3, none⟩ = some (.slice Ax f.len capx) ∧ w'.cell? ⟨w.heap.size, 0, none⟩ = some (.int .i64 k) ∧ w'.cell? ⟨w.heap.size, 1, none⟩ = some (.int .i64 n) ∧ w'.cell? ⟨w.heap.size, 2, none⟩ = some (.string s) ∧ w'.cell? ⟨w.heap.size, 3, none⟩ = some (.slice A f.len cap))
      (first | exact ⟨z0, z1, z2, z3, z4, z5, z6, z7⟩ | exact ⟨y0, y1, y2, y3, y4, y5, y6, y7⟩ | exact ⟨x0, x1, x2, x3, a0, a1, a2, a3⟩)
      (first
        | (go_at_call 12
           refine (HT'.out _ HB7.out.drew).mono ?_
           rintro e w8 ⟨A3, cap3, rfl, hm⟩
           have hm8 := kids_of_made hm
           have hd8 : Below w7.heap.size w7 w8 := (Below.refl w7.heap.size w7).drew.trans hm8.2
           have hck8 := HCK7.out.below hd8
           obtain ⟨y4, y5, y6, y7⟩ := cells4 hck8.1
           obtain ⟨y0, y1, y2, y3⟩ := cells4 hck8.2.1
           have hk8 := (HCKG.out w8 hck8).2.2
           have HM8 := Lib.hid hm8
           have HK8 := Lib.hid hk8
           have HCK8 := Lib.hid hck8
           clear hm hm8 hk8 hck8 hd8)
        | (go_at_call 15
           refine (HE.out _ _ _ _ _ _ _ _ _ HK8.out (Nat.le_refl _) HM8.out.1 (Nat.le_refl _)).mono ?_
           rintro e w9 ⟨rfl, hb9⟩
           have hck9 := HCK8.out.below hb9
           obtain ⟨z4, z5, z6, z7⟩ := cells4 hck9.1
           obtain ⟨z0, z1, z2, z3⟩ := cells4 hck9.2.1
           have HCK9 := Lib.hid hck9
           clear hb9 hck9))
    clear a0 a1 a2 a3 x0 x1 x2 x3 y0 y1 y2 y3 y4 y5 y6 y7 HM8 HK8 HCK8 HCK7 HK7 HB7
    go_wp2_with fail
    refine (HMT.out _ _ _ _ HCK9.out.2.2.2.1 HCK9.out.2.2.2.2.2.2.2.2.2.2.1).mono ?_
    rintro e w10 ⟨rfl, hom, hwr⟩
    have hck10 := HCK9.out.mark hwr
    have CKH : ∀ wk, Ck10 w w.heap.size #[.int .i64 k, .int .i64 n, .string s, .slice A f.len cap] G Aw capw w3.heap.size w4.heap.size Ag capg Lg wk → KidsAt wk 0 wk.heap.size G Ag capg ∧ KidsAt wk 0 wk.heap.size G Aw capw := fun wk h => by
      obtain ⟨b0, hk, hs, hg, hw', h1, h2, h3, h4, h5⟩ := h
      exact ⟨hg.kids fun x hx => ⟨Nat.zero_le _, hg.lt x hx⟩, hk.more (Nat.zero_le _) hs⟩
    have HKK := Lib.hid (CKH w10 hck10)
    have HCK10 := Lib.hid hck10
    clear hom hwr hck10 CKH HCK9 z0 z1 z2 z3 z4 z5 z6 z7
    go_wp2_with fail
    refine (HG.out _ _ _ _ _ _ _ _ _ HKK.out.1 (Nat.le_refl _) HKK.out.2 (Nat.le_refl _)).mono ?_
    rintro e w11 ⟨rfl, hb11⟩
    have hck11 := HCK10.out.below hb11
    have HCK11 := Lib.hid hck11
    clear hb11 hck11 HCK10 HKK
    go_wp2_with fail
    refine (HMG.out _ _ _ _ HCK11.out.2.2.2.1 HCK11.out.2.2.2.2.2.2.2.2.2).mono ?_
    rintro e w12 ⟨rfl, hom, hwr⟩
    have hck12 := HCK11.out.mark hwr hom
    have HCK12 := Lib.hid hck12
    clear hom hwr hck12 HCK11
    go_wp2_with fail
    refine (HHG.out _ _ _ _ _ HCK12.out.2.2.2.1 HCK12.out.2.2.2.2.1).mono ?_
    rintro e w13 ⟨rfl, hb13⟩
    have hck13 := HCK12.out.below hb13
    obtain ⟨a0, a1, a2, a3⟩ := cells4 hck13.1
    have hb13w := hck13.2.2.2.2.2
    have HCK13 := Lib.hid hck13
    have HB13 := Lib.hid hb13w
    clear hb13 hck13 HCK12 hb13w
    go_wp2_with fail
    refine (HT'.out _ HB13.out).mono ?_
    rintro e w14 ⟨A14, cap14, rfl, hm⟩
    have hm14 := kids_of_made hm
    have hck14 := HCK13.out.below hm14.2
    have HM14 := Lib.hid hm14.1
    have HCK14 := Lib.hid hck14
    clear hm hm14 hck14 HCK13 a0 a1 a2 a3
    go_wp2_with fail
    refine (HI.out _ _ _ _ _ HM14.out (Nat.le_refl _) (tab_below HT.out HCK14.out.2.2.2.2.2 hlt)).mono ?_
    rintro e w15 ⟨Ah, caph, rfl, hmh⟩
    have hm15 := kids_of_made hmh
    have hck15 := HCK14.out.below hm15.2
    have HM15 := Lib.hid hm15.1
    have HCK15 := Lib.hid hck15
    clear hmh hm15 hck15 HCK14
    go_wp2_with fail
    refine (HG.out _ _ _ _ _ _ _ _ _ HM15.out (Nat.le_refl _) HCK15.out.2.1 HCK15.out.2.2.1).mono ?_
    rintro e w16 ⟨rfl, hb16⟩
    have hck16 := HCK15.out.below hb16
    have HCK16 := Lib.hid hck16
    clear hb16 hck16 HCK15 HM15
    go_wp2_with fail
    refine (HHG.out _ _ _ _ _ HCK16.out.2.2.2.1 HCK16.out.2.2.2.2.1).mono ?_
    rintro e w17 ⟨rfl, hb17⟩
    have hck17 := HCK16.out.below hb17
    have HB17 := Lib.hid hck17.2.2.2.2.2
    clear hb17 hck17 HCK16
    go_wp2_with fail
    go_ret
    exact ⟨rfl, HB17.out⟩
end Go.Proofs.YtppnmodemhoebaaDoor
