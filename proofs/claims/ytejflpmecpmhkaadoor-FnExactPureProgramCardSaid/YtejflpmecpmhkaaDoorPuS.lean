/- The model's PureProgram. Condition: the clauses lie in memory. -/
import Derived.Test.YtejflpmecpmhkaaDoorProg
import Derived.Test.YtejflpmecpmhkaaDoorCvS
namespace Go.Proofs.YtejflpmecpmhkaaDoor
open Go.RowKit

/-- A goal's name that says the same wherever it stands. -/
def pureN (s : ByteArray) : Bool := (s.toList == [61]) || ((s.toList == [116, 114, 117, 101]) || (s.toList == [102, 97, 105, 108]))
def pureG (k : Int) (s : ByteArray) (len : Nat) : Bool := plainK k s len || pureN s
def allP : Fr → Bool
  | .nil => true
  | .cons k _ s kids rest => pureG k s kids.len && allP rest
def allPC : List Cl → Bool
  | [] => true
  | c :: cs => allP c.body && allPC cs
def pureP (cs : List Cl) : Bool := progV cs && allPC cs

set_option maxRecDepth 100000 in
set_option maxHeartbeats 8000000 in
/-- spec.PureProgram. -/
theorem specPu_any (cs : List Cl) (A : Option Addr) (cap lo hi : Nat) (w : World) (hk : ClS w lo hi cs A cap) (hh : hi ≤ w.heap.size) (hnd : cs.length + wtCs cs ≤ 1048576) :
    Calls Tryd.prog 19 #[.slice A cs.length cap] w fun e w' => e = .returned (.bool (pureP cs)) ∧ Below w.heap.size w w' := by
  have hl : cs.length ≤ 1048576 := by omega
  have C1 := fun w1 (hb : Below w.heap.size w w1) => specPV_any cs A cap lo hi w1 (hk.below hb hh) (Nat.le_trans hh hb.size) hnd
  have HU : Hid (pureP cs = (progV cs && allPC cs)) := Lib.hid rfl
  have HK := Lib.hid hk
  have HHI := Lib.hid hh
  have HND := Lib.hid hnd
  have H1 := Lib.hid C1
  clear C1 hk hh hnd
  generalize hv : progV cs = pv at *
  clear hv
  generalize hn : cs.length = len at *
  have HN := Lib.hid hn
  clear hn
  cases pv
  · have HV : Hid (pureP cs = false) := Lib.hid (by rw [HU.out]; rfl)
    clear HU
    go_enter Tryd.func19, Tryd.ntmps19
    go_wp2_with fail
    go_loopw [3] (fun i wr => i = .int .i64 0 ∧ Below w.heap.size w wr) (fun _ _ => 0)
    case atStart => exact ⟨rfl, Below.refl _ _⟩
    case round =>
      obtain ⟨rfl, hb⟩ := hrel
      have H2 := Lib.hid (H1.out wr hb)
      have HB := Lib.hid hb
      by_cases hp : 0 < len
      · have hp' : (0 : Int) < (len : Int) := by omega
        clear hb
        go_wp2_with fail
        refine H2.out.mono ?_
        rintro e w2 ⟨rfl, hb2⟩
        have hb2w := HB.out.trans (hb2.mono HB.out.size)
        have H3 := Lib.hid (H1.out w2 hb2w)
        have HB2 := Lib.hid hb2w
        clear hb2 hb2w
        go_wp2_with fail
        refine H3.out.mono ?_
        rintro e w3 ⟨rfl, hb3⟩
        have HB3 := Lib.hid (HB2.out.trans (hb3.mono HB2.out.size))
        clear hb3
        go_wp2_with fail
        go_ret
        rw [HV.out]
        exact ⟨rfl, HB3.out⟩
      · clear hb
        go_wp2_with fail
        refine H2.out.mono ?_
        rintro e w2 ⟨rfl, hb2⟩
        have HB2 := Lib.hid (HB.out.trans (hb2.mono HB.out.size))
        clear hb2
        go_wp2_with fail
        go_ret
        rw [HV.out]
        exact ⟨rfl, HB2.out⟩
  · have HV : Hid (pureP cs = allPC cs) := Lib.hid (by rw [HU.out]; rfl)
    clear HU
    go_enter Tryd.func19, Tryd.ntmps19
    go_wp2_with fail
    go_loopw [3] (fun i wr => ∃ (j : Nat), j ≤ len ∧ i = .int .i64 j ∧ allPC (cs.drop j) = allPC cs ∧ Below w.heap.size w wr) (fun i _ => len - (intOf i).toNat)
    case atStart => exact ⟨0, Nat.zero_le _, rfl, rfl, Below.refl _ _⟩
    case round =>
      obtain ⟨j, hj, rfl, hF, hb⟩ := hrel
      by_cases hlt : j < len
      · obtain ⟨c, hd⟩ := drop_cl cs j (by rw [HN.out]; exact hlt)
        obtain ⟨b, o, rfl, hlb, hbb, hrow⟩ := HK.out.2.2 (by rw [HN.out]; omega)
        obtain ⟨_, A', cp, A2, cp2, c0, c1, c2, c3, c4, hkid, hbd⟩ := ClAt.elem j cs b o hrow hd
        have hlo : b < w.heap.size := Nat.lt_of_lt_of_le hbb HHI.out
        have hF2 : (allP c.body && allPC (cs.drop (j + 1))) = allPC cs := by rw [hd] at hF; exact hF
        have HF2 := Lib.hid hF2
        have H2 := Lib.hid (H1.out wr hb)
        have HB := Lib.hid hb
        have HC4 := Lib.hid c4
        have HBD := Lib.hid hbd
        clear hF hF2 hb hd hrow c0 c1 c2 c3 c4 hkid hbd
        have hgl := HBD.out.1
        have hgm := HBD.out.2.1
        unfold maxLen at hgm
        generalize hgn : c.body.len = gl at *
        have HGN := Lib.hid hgn
        clear hgn
        go_wp2_with fail
        refine H2.out.mono ?_
        rintro e w2 ⟨rfl, hb2⟩
        have HBW := Lib.hid (HB.out.trans (hb2.mono HB.out.size))
        clear hb2 H2 HB
        go_wp2_with fail
        go_loopw [4] (fun i wx => ∃ (m : Nat), m ≤ gl ∧ i = .int .i64 m ∧ (allP (c.body.drop m) && allPC (cs.drop (j + 1))) = allPC cs ∧ Below w.heap.size w wx) (fun i _ => gl - (intOf i).toNat)
        case atStart => exact ⟨0, Nat.zero_le _, rfl, HF2.out, HBW.out⟩
        case round =>
          obtain ⟨m, hm, rfl, hF, hb⟩ := hrel
          have c4 := (hb.cell (p := ⟨b, o + j * 5 + 4, none⟩) hlo).trans HC4.out
          by_cases hlt2 : m < gl
          · obtain ⟨kk, nn, ss, kids, hd⟩ := Fr.drop_cons m c.body (by rw [HGN.out]; exact hlt2)
            obtain ⟨b2, o2, rfl, _, hbb2, hrow2⟩ := HBD.out.2.2 (by rw [HGN.out]; omega)
            obtain ⟨hfit, A3, cp3, d0, d1, d2, d3, hkid⟩ := hrow2.elem hd
            have hlo2 : b2 < w.heap.size := Nat.lt_of_lt_of_le hbb2 HHI.out
            have k0 := (hb.cell (p := ⟨b2, o2 + m * 4, none⟩) hlo2).trans d0
            have k1 := (hb.cell (p := ⟨b2, o2 + m * 4 + 1, none⟩) hlo2).trans d1
            have k2 := (hb.cell (p := ⟨b2, o2 + m * 4 + 2, none⟩) hlo2).trans d2
            have k3 := (hb.cell (p := ⟨b2, o2 + m * 4 + 3, none⟩) hlo2).trans d3
            have C2 := fun w1 => plain_any kk nn ss A3 kids.len cp3 w1 hfit.2.2
            have hF3 : ((plainK kk ss kids.len || pureN ss) && (allP (c.body.drop (m + 1)) && allPC (cs.drop (j + 1)))) = allPC cs := by
              rw [hd] at hF
              rw [← hF]
              show _ = (((plainK kk ss kids.len || pureN ss) && allP (c.body.drop (m + 1))) && allPC (cs.drop (j + 1)))
              rw [Bool.and_assoc]
            have HPN : Hid (pureN ss = ((ss.toList == [61]) || ((ss.toList == [116, 114, 117, 101]) || (ss.toList == [102, 97, 105, 108])))) := Lib.hid rfl
            have HBX := Lib.hid hb
            have HD2 := Lib.hid d2
            have HF3 := Lib.hid hF3
            have H3 := Lib.hid C2
            clear hb hF hF3 hd hfit hkid hrow2 d0 d1 d2 d3 C2
            generalize plainK kk ss kids.len = pk at *
            go_wp2_with fail
            refine (H3.out _).mono ?_
            rintro e w3 ⟨rfl, hb3⟩
            have hb3w := HBX.out.trans (hb3.mono HBX.out.size)
            have c4 := (hb3w.cell (p := ⟨b, o + j * 5 + 4, none⟩) hlo).trans HC4.out
            have k2 := (hb3w.cell (p := ⟨b2, o2 + m * 4 + 2, none⟩) hlo2).trans HD2.out
            have HB3 := Lib.hid hb3w
            clear hb3 hb3w k0 k1 k3
            cases pk
            · have HF4 : Hid (((ss.toList == [61]) || ((ss.toList == [116, 114, 117, 101]) || (ss.toList == [102, 97, 105, 108]))) = true → (allP (c.body.drop (m + 1)) && allPC (cs.drop (j + 1))) = allPC cs) := Lib.hid fun h => by rw [← HF3.out, HPN.out, h]; rfl
              have HF5 : Hid (((ss.toList == [61]) || ((ss.toList == [116, 114, 117, 101]) || (ss.toList == [102, 97, 105, 108]))) = false → allPC cs = false) := Lib.hid fun h => by rw [← HF3.out, HPN.out, h]; rfl
              by_cases n1 : (ss.toList == [61]) = true
              · have HF6 := Lib.hid (HF4.out (by rw [n1]; rfl))
                go_wp2_with fail
                go_roundw
                case rel => exact ⟨m + 1, by omega, by go_num, HF6.out, HB3.out⟩
                case measure => simp [intOf]; omega
              · have n1' : (ss.toList == [61]) = false := by simpa using n1
                clear n1
                by_cases n2 : (ss.toList == [116, 114, 117, 101]) = true
                · have HF6 := Lib.hid (HF4.out (by rw [n2]; simp))
                  go_wp2_with fail
                  go_roundw
                  case rel => exact ⟨m + 1, by omega, by go_num, HF6.out, HB3.out⟩
                  case measure => simp [intOf]; omega
                · have n2' : (ss.toList == [116, 114, 117, 101]) = false := by simpa using n2
                  clear n2
                  by_cases n3 : (ss.toList == [102, 97, 105, 108]) = true
                  · have HF6 := Lib.hid (HF4.out (by rw [n3]; simp))
                    go_wp2_with fail
                    go_roundw
                    case rel => exact ⟨m + 1, by omega, by go_num, HF6.out, HB3.out⟩
                    case measure => simp [intOf]; omega
                  · have n3' : (ss.toList == [102, 97, 105, 108]) = false := by simpa using n3
                    clear n3
                    have HF6 := Lib.hid (HF5.out (by rw [n1', n2', n3']; rfl))
                    go_wp2_with fail
                    go_ret
                    rw [HV.out, HF6.out]
                    exact ⟨rfl, HB3.out⟩
            · have HF4 : Hid ((allP (c.body.drop (m + 1)) && allPC (cs.drop (j + 1))) = allPC cs) := Lib.hid (by rw [← HF3.out]; rfl)
              go_wp2_with fail
              go_roundw
              case rel => exact ⟨m + 1, by omega, by go_num, HF4.out, HB3.out⟩
              case measure => simp [intOf]; omega
          · obtain rfl : m = gl := by omega
            have HF4 : Hid (allPC (cs.drop (j + 1)) = allPC cs) := Lib.hid (by
              have h1 := Fr.drop_len c.body
              rw [HGN.out] at h1
              rw [← hF, h1]; rfl)
            have HB := Lib.hid hb
            clear hF hb
            go_wp2_with fail
            go_roundw
            case rel => exact ⟨j + 1, by omega, by go_num, HF4.out, HB.out⟩
            case measure => simp [intOf]; omega
      · obtain rfl : j = len := by omega
        have HF4 : Hid (allPC cs = true) := Lib.hid (by
          rw [← hF, List.drop_eq_nil_of_le (by rw [HN.out]; exact Nat.le_refl _)]; rfl)
        have H2 := Lib.hid (H1.out wr hb)
        have HB := Lib.hid hb
        clear hF hb
        go_wp2_with fail
        refine H2.out.mono ?_
        rintro e w2 ⟨rfl, hb2⟩
        have HB2 := Lib.hid (HB.out.trans (hb2.mono HB.out.size))
        clear hb2
        go_wp2_with fail
        go_ret
        rw [HV.out, HF4.out]
        exact ⟨rfl, HB2.out⟩
end Go.Proofs.YtejflpmecpmhkaaDoor
