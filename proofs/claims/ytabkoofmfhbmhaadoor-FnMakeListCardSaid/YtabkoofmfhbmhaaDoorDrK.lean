/- spec.DrawMakeList. Condition: the bytes lie in memory. -/
import Derived.Test.YtabkoofmfhbmhaaDoorProg
import Derived.Test.YtabkoofmfhbmhaaDoorDrN
namespace Go.Proofs.YtabkoofmfhbmhaaDoor
open Go.RowKit

theorem results_tc {P : Program} {fn : Func} {t q : Tmp} {ty : TypeId} (h : fn.results = #[.tmp t, .cell q ty]) (tmps : Array Value) (w : World) (g' : Nat) (t' : TypeId) (v : Value) (cs' : Array Value) (d : TypeDesc)
    (ht : tmps.getD t undef = v) (hq : tmps.getD q undef = .pointer (some ⟨g', 0, none⟩)) (hg' : Blk w g' t' cs')
    (hu : P.underlying ty = some d) (hd : (match d with | .struct _ | .array _ _ => true | _ => false) = true) (hi' : (P.info? ty).map (·.size) = some cs'.size) :
    (results fn tmps).run P w = .ok (.tuple #[v, .agg cs']) w := by
  have ht' : tmps[t]?.getD undef = v := by simpa using ht
  have hq' : tmps[q]?.getD undef = .pointer (some ⟨g', 0, none⟩) := by simpa using hq
  simp [results, h, ht', hq', asAddr, run_loadVar_row w g' t' ty cs' (0, 0) d hg' hu hd hi']
theorem wrote_drew {L : List Nat} {w w1 : World} (h : Wrote L w w1) : Wrote L w w1.drew := h.trans (.of_below (Below.refl w1.heap.size w1).drew _)
theorem blk_drew {w : World} {g : Nat} {t : TypeId} {cs : Array Value} (h : Blk w g t cs) : Blk w.drew g t cs := h.keep rfl
theorem set4_beside {w : World} {g H : Nat} {t : TypeId} {cs : Array Value} (h : Blk w g t cs) (hn : g ≠ H) (a b c d : Value) : Blk ((((w.setCell ⟨H, 0, none⟩ a).setCell ⟨H, 1, none⟩ b).setCell ⟨H, 2, none⟩ c).setCell ⟨H, 3, none⟩ d) g t cs := (((h.far hn a).far hn b).far hn c).far hn d
/-- A row and a term that were drawn: in blocks of their own. -/
def DrK (w : World) (e : Ending) (w' : World) : Prop :=
  ∃ (F : Fr) (A : Option Addr) (cap : Nat) (k n : Int) (s : ByteArray) (g : Fr) (B : Option Addr) (cap' : Nat),
    e = .returned (.tuple #[.slice A F.len cap, .agg #[.int .i64 k, .int .i64 n, .string s, .slice B g.len cap']]) ∧ F.len ≤ 3 ∧ nodes F ≤ 1000 ∧ Fits k n s ∧ nodes g ≤ 1000 ∧
    (∃ L L', OwnS w' F A cap L ∧ OwnS w' g B cap' L' ∧ (L ++ L').Nodup ∧ ∀ x ∈ L ++ L', w.heap.size ≤ x) ∧ Below w.heap.size w w'
theorem DrK.fin {w w8 w9 : World} {rb N H : Nat} {F : Fr} {A : Option Addr} {cap : Nat} {k n : Int} {s : ByteArray} {g : Fr} {B : Option Addr} {cap' : Nat} {L L' : List Nat} (h : DsI w rb N w8) (hF : F.len ≤ 3) (hn : nodes F ≤ 1000) (hf : Fits k n s) (hn' : nodes g ≤ 1000)
    (h1 : OwnS w8 F A cap L) (h2 : OwnS w8 g B cap' L') (h3 : (L ++ L').Nodup) (h4 : ∀ x ∈ L ++ L', w.heap.size < x ∧ x ≠ H) (hH : w.heap.size ≤ H) (hw : Wrote [w.heap.size, H] w8 w9) :
    DrK w (.returned (.tuple #[.slice A F.len cap, .agg #[.int .i64 k, .int .i64 n, .string s, .slice B g.len cap']])) w9 := by
  refine ⟨F, A, cap, k, n, s, g, B, cap', rfl, hF, hn, hf, hn', ⟨L, L', h1.wrote hw fun x hx e => ?_, h2.wrote hw fun x hx e => ?_, h3, fun x hx => by have := h4 x hx; omega⟩, h.2.1.trans (hw.below h.2.1.size fun x hx => by simp at hx; omega)⟩
  · have := h4 x (by simp [hx]); simp at e; omega
  · have := h4 x (by simp [hx]); simp at e; omega

set_option maxRecDepth 100000 in
set_option maxHeartbeats 4000000 in
/-- spec.DrawMakeList. -/
theorem drawML_any (A : Option Addr) (len cap : Nat) (w : World) (hb : Bts w w.heap.size A len) (hc : len ≤ cap) (hm : cap ≤ maxLen) :
    Calls Tryd.prog 13 #[.slice A len cap] w fun e w' => DrK w e w' := by
  have hb1 : Below w.heap.size w (w.alloc (.cells #[.int .i64 0, .int .i64 0, .string ⟨#[]⟩, .slice none 0 0] 31)) := (Below.refl _ _).alloc (Nat.le_refl _) _
  have hq1 := Blk.new w 31 #[.int .i64 0, .int .i64 0, .string ⟨#[]⟩, .slice none 0 0]
  have hs1 : (w.alloc (.cells #[.int .i64 0, .int .i64 0, .string ⟨#[]⟩, .slice none 0 0] 31)).heap.size = w.heap.size + 1 := by simp
  have hb2 := hb.up hb1
  have C1 := open18_any A len cap (w.alloc (.cells #[.int .i64 0, .int .i64 0, .string ⟨#[]⟩, .slice none 0 0] 31)) hb2 hc hm
  have C2 := fun w3 (h : Below (w.alloc (.cells #[.int .i64 0, .int .i64 0, .string ⟨#[]⟩, .slice none 0 0] 31)).heap.size (w.alloc (.cells #[.int .i64 0, .int .i64 0, .string ⟨#[]⟩, .slice none 0 0] 31)) w3) => drawRN_any A len cap w3 (hb2.up h) hc hm
  have H1 := Lib.hid C1
  have H2 := Lib.hid C2
  have HB1 := Lib.hid hb1
  have HQ1 := Lib.hid hq1
  have HS1 := Lib.hid hs1
  clear C1 C2 hb hb2 hc hm hb1 hq1 hs1
  go_enter Tryd.func13, Tryd.ntmps13
  go_wp2_with fail
  refine H1.out.mono ?_
  rintro e w3 ⟨rfl, hr, hb⟩
  have hI : DsI w (w.heap.size + 1) 0 w3 := ⟨by rw [← HS1.out]; exact hr, HB1.out.trans (hb.mono HB1.out.size), HQ1.out.below hb HQ1.out.lt, by omega⟩
  have C2 := H2.out w3 hb
  have HC2 := Lib.hid C2
  rw [HS1.out]
  have HI := Lib.hid hI
  have hrl := hI.1.lt
  clear hr hb hI H1 H2 C2 HB1 HQ1 HS1
  generalize hrb : w.heap.size + 1 = rb at *
  have hwr : w.heap.size < rb := by omega
  clear hrb
  go_wp2_with fail
  refine HC2.out.mono ?_
  rintro e w4 ⟨F, AF, cF, rfl, hF3, hFn, ⟨LF, o4, nd, hlo⟩, hb4⟩
  have HI4 := Lib.hid (HI.out.below hb4)
  have HF3 := Lib.hid hF3
  have HFN := Lib.hid hFn
  have HO4 := Lib.hid o4
  have HND := Lib.hid nd
  have HLO : Hid (∀ x ∈ LF, rb < x ∧ x < w4.heap.size) := Lib.hid fun x hx => ⟨by have := hlo x hx; omega, o4.lt x hx⟩
  have hs4 := hb4.size
  have CS := structN_any ⟨#[91, 93]⟩ .nil none 0 [] w4 ⟨Nat.zero_le _, Nat.zero_le _, .inl ⟨rfl, rfl⟩⟩ List.nodup_nil (by decide)
  have HCS := Lib.hid CS
  clear hF3 hFn o4 nd hlo hb4 CS HI HC2
  generalize hfl : F.len = fl at *
  have HFL := Lib.hid hfl
  clear hfl
  go_wp2_with fail
  refine HCS.out.mono ?_
  rintro e w5 ⟨A2, cp2, L2, rfl, ho, hn, hL, hb, h0⟩
  obtain ⟨rfl, rfl, _⟩ := h0 rfl
  rw [show Fr.nil.len = 0 from rfl]
  have hb6 := (Below.refl w5.heap.size w5).alloc (Nat.le_refl _) (.cells #[.int .i64 3, .int .i64 0, .string ⟨#[91, 93]⟩, .slice (some ⟨w4.heap.size + 1, 0, none⟩) 0 0] 31)
  have HI6 := Lib.hid ((HI4.out.below hb).below hb6)
  have HO6 := Lib.hid ((HO4.out.below hb HO4.out.lt).below hb6 (HO4.out.below hb HO4.out.lt).lt)
  have HT6 := Lib.hid (Blk.new w5 31 #[.int .i64 3, .int .i64 0, .string ⟨#[91, 93]⟩, .slice (some ⟨w4.heap.size + 1, 0, none⟩) 0 0])
  have hs5 := hb.size
  have hs6 : (w5.alloc (.cells #[.int .i64 3, .int .i64 0, .string ⟨#[91, 93]⟩, .slice (some ⟨w4.heap.size + 1, 0, none⟩) 0 0] 31)).heap.size = w5.heap.size + 1 := by simp
  clear ho hn hL hb h0 hb6 HI4 HO4 HCS
  go_wp2_with fail
  generalize w5.alloc (.cells #[.int .i64 3, .int .i64 0, .string ⟨#[91, 93]⟩, .slice (some ⟨w4.heap.size + 1, 0, none⟩) 0 0] 31) = w6 at *
  generalize w5.heap.size = H at *
  refine (pick_any rb 0 3 w6 HI6.out.1 (by omega) (by omega) (by omega)).mono ?_
  rintro e w7 ⟨c, rfl, hc0, hc1, hr, hw⟩
  have HI7 := Lib.hid (HI6.out.step hr hw)
  have HO7 := Lib.hid (HO6.out.wrote hw fun x hx e => by simp at e; have := HLO.out x hx; omega)
  have HT7 := Lib.hid (hw.blk HT6.out (by simp; omega))
  have hs7 := hw.size
  clear hr hw HI6 HO6 HT6
  by_cases z0 : c = 0
  · subst z0
    have CALL := some_any rb _ w7 HI7.out.1 (by omega)
    have HC := Lib.hid CALL
    clear CALL
    go_wp2_with fail
    refine HC.out.mono ?_
    rintro e w8 ⟨b0, b1, b2, bf, A3, cp3, rfl, hf, hm, hn, hr⟩
    have CM := mut_any rb _ 256 b0 b1 b2 bf A3 cp3 0 w8.heap.size w8 hr (by omega) (hm.kids.more (Nat.zero_le _) (Nat.le_refl _)) (Nat.le_refl _) hf hn (by omega)
    have HCM := Lib.hid CM
    have HI8 := Lib.hid (HI7.out.step hr hm.wrote)
    have HO8 := Lib.hid (HO7.out.wrote hm.wrote fun x hx e => by simp at e; have := HLO.out x hx; omega)
    have HT8 := Lib.hid (hm.wrote.blk HT7.out (by simp; omega))
    have hs8 := hm.wrote.size
    clear CM hf hm hn hr HC HI7 HO7 HT7
    go_wp2_with fail
    refine HCM.out.mono ?_
    rintro e w9 ⟨k3, n3, s3, f3, A4, cp4, rfl, hf3, hm3, hn3, hr3⟩
    have HI9 := Lib.hid (HI8.out.step hr3 hm3.wrote)
    have HO9 := Lib.hid (HO8.out.wrote hm3.wrote fun x hx e => by simp at e; have := HLO.out x hx; omega)
    have HT9 := Lib.hid (hm3.wrote.blk HT8.out (by simp; omega))
    have hs9 := hm3.wrote.size
    have HF3' := Lib.hid hf3
    have HN3 := Lib.hid hn3
    have HM3 := Lib.hid hm3
    clear hf3 hm3 hn3 hr3 HCM HI8 HO8 HT8
    obtain ⟨L3, o3, n3', l3, q3⟩ := HM3.out
    have HO3 := Lib.hid o3
    have HN3' := Lib.hid n3'
    have HL3 := Lib.hid l3
    clear o3 n3' l3 q3
    obtain ⟨y0, y1, y2, y3⟩ := cells4i HT9.out
    obtain ⟨j0, j1, j2, j3⟩ := frozen4 HT9.out
    obtain ⟨d0, d1, d2, d3⟩ := cells4i HI9.out.2.2.1
    obtain ⟨f0, f1, f2, f3'⟩ := frozen4 HI9.out.2.2.1
    have hHw : ¬ w.heap.size = H := by omega
    go_wp2_with fail
    go_region
    all_goals
      go_wp2_with fail
      refine bodyPost_ret (v := .tuple #[.slice AF fl cF, .agg #[.int .i64 k3, .int .i64 n3, .string s3, .slice A4 f3.len cp4]]) ?_ rfl (by
        rw [← HFL.out]
        refine DrK.fin (H := H) HI9.out (by rw [HFL.out]; exact HF3.out) HFN.out HF3'.out (by have := HN3.out; omega) HO9.out HO3.out (List.nodup_append.2 ⟨HND.out, HN3'.out, fun a ha b hb e => by have := HLO.out a ha; have := HL3.out b hb; omega⟩) (fun x hx => ?_) (by omega) ?_
        · rcases List.mem_append.1 hx with hx | hx
          · have := HLO.out x hx; omega
          · have := HL3.out x hx; omega
        · refine wrote_drew ?_
          iterate 8 (refine Wrote.set_ ?_ (.inl (by simp)) _)
          exact Wrote.refl _ _)
      exact results_tc Tryd.results13 _ _ w.heap.size _ _ _ _ rfl rfl (blk_drew (set4 (set4_beside HI9.out.2.2.1 (by omega) _ _ _ _) _ _ _ _)) Tryd.underlying31 rfl (by kernel_rfl)
  · have tc : (c == 0) = false := by rw [beq_eq_false_iff_ne]; exact z0
    obtain ⟨y0, y1, y2, y3⟩ := cells4i HT7.out
    obtain ⟨d0, d1, d2, d3⟩ := cells4i HI7.out.2.2.1
    obtain ⟨f0, f1, f2, f3'⟩ := frozen4 HI7.out.2.2.1
    have hHw : ¬ w.heap.size = H := by omega
    go_wp2_with fail
    go_region
    all_goals
      go_wp2_with fail
      refine bodyPost_ret (v := .tuple #[.slice AF fl cF, .agg #[.int .i64 3, .int .i64 0, .string ⟨#[91, 93]⟩, .slice (some ⟨w4.heap.size + 1, 0, none⟩) 0 0]]) ?_ rfl (by
        rw [← HFL.out]
        refine DrK.fin (H := H) (g := .nil) (L' := []) HI7.out (by rw [HFL.out]; exact HF3.out) HFN.out ⟨by omega, by omega, names3 ⟨#[91, 93]⟩ (by simp)⟩ (by simp [nodes]) HO7.out ⟨Nat.zero_le _, Nat.zero_le _, .inl ⟨rfl, rfl⟩⟩ (by rw [List.append_nil]; exact HND.out) (fun x hx => ?_) (by omega) ?_
        · have := HLO.out x (by rw [List.append_nil] at hx; exact hx); omega
        · refine wrote_drew ?_
          iterate 4 (refine Wrote.set_ ?_ (.inl (by simp)) _)
          exact Wrote.refl _ _)
      exact results_tc Tryd.results13 _ _ w.heap.size _ _ _ _ rfl rfl (blk_drew (set4 HI7.out.2.2.1 _ _ _ _)) Tryd.underlying31 rfl (by kernel_rfl)
end Go.Proofs.YtabkoofmfhbmhaaDoor
