/- spec.l2Op. No condition. -/
import Derived.Test.YtihmgodiiohdnaaGreatDoorProg
import Derived.Test.YtihmgodiiohdnaaGreatDoorNmS
import Derived.Test.YtihmgodiiohdnaaGreatDoorOpA
namespace Go.Proofs.YtihmgodiiohdnaaGreatDoor.rdr
open Go.RowKit

def isW (n : ByteArray) : Bool := (n.toList == [105, 115]) || (n.toList == [109, 111, 100])
/-- The operator at offset a and the offset behind it; no operator: the empty name and a itself. f: behind the blank, if there is one. -/
def opA (s : ByteArray) (a : Nat) (sp : Bool) (f : Nat) : ByteArray × Nat :=
  if s.size ≤ f then (⟨#[]⟩, a) else if nmN s f = 0 then (⟨#[]⟩, a) else if op.level (nmS s f).data.toList = 0 then (⟨#[]⟩, a) else if isW (nmS s f) ≠ sp then (⟨#[]⟩, a)
  else if isW (nmS s f) = true ∧ atB (sgC 32) s.data.toList (f + nmN s f) = false then (⟨#[]⟩, a) else (nmS s f, if isW (nmS s f) = true then f + nmN s f + 1 else f + nmN s f)
def opR (s : ByteArray) (a : Nat) : ByteArray × Nat := if atB (sgC 32) s.data.toList a = true then opA s a true (a + 1) else opA s a false a

set_option maxRecDepth 100000 in
set_option maxHeartbeats 4000000 in
theorem l2op_any (s : ByteArray) (a : Nat) (w : World) (hs : s.size ≤ 1000000) (hi : a ≤ s.size) :
    Calls Tryz.prog 78 #[.string s, .int .i64 a] w fun e w' => e = .returned (.tuple #[.string (opR s a).1, .int .i64 ((opR s a).2 : Nat)]) ∧ Below w.heap.size w w' := by
  have hsg := fun m w1 (h : m ≤ s.size + 1) => sign_any s m 32 w1 (by unfold maxLen; omega) (by unfold maxLen; omega)
  have C0 := hsg a w (by omega)
  have HSG := Lib.hid hsg
  clear hsg
  cases hsp : atB (sgC 32) s.data.toList a
  · have HR : Hid (opR s a = opA s a false a) := Lib.hid (by unfold opR; rw [hsp]; rfl)
    rw [hsp] at C0
    have H0 := Lib.hid C0
    clear C0 hsp
    by_cases hge : s.size ≤ a
    · have HV : Hid (opR s a = (⟨#[]⟩, a)) := Lib.hid (by rw [HR.out]; unfold opA; rw [if_pos hge])
      have t1 : (a : Int) ≥ (s.size : Int) := by omega
      go_enter Tryz.func78, Tryz.ntmps78
      go_wp2_with fail
      refine H0.out.mono ?_
      rintro e w2 ⟨rfl, hw⟩
      subst hw
      go_wp2_with fail
      go_ret2
      rw [HV.out]
      exact ⟨rfl, Below.refl _ _⟩
    · have t1 : ¬ ((a : Int) ≥ (s.size : Int)) := by omega
      have CN := name_any s a w hs (by omega)
      have hnl := nmN_le s a
      by_cases h0 : nmN s a = 0
      · have HV : Hid (opR s a = (⟨#[]⟩, a)) := Lib.hid (by rw [HR.out]; unfold opA; rw [if_neg hge, if_pos h0])
        rw [show nmE s a = -1 by unfold nmE; rw [if_pos h0]] at CN
        have HCN := Lib.hid CN
        clear CN h0 hnl
        go_enter Tryz.func78, Tryz.ntmps78
        go_wp2_with fail
        refine H0.out.mono ?_
        rintro e w2 ⟨rfl, hw⟩
        subst hw
        go_wp2_with fail
        refine HCN.out.mono ?_
        rintro e w3 ⟨rfl, hb⟩
        have HB := Lib.hid hb
        clear hb
        go_wp2_with fail
        go_ret2
        rw [HV.out]
        exact ⟨rfl, HB.out⟩
      · rw [show nmE s a = ((a + nmN s a : Nat) : Int) by unfold nmE; rw [if_neg h0]] at CN
        have HW : Hid (isW (nmS s a) = (((nmS s a).toList == [105, 115]) || ((nmS s a).toList == [109, 111, 100]))) := Lib.hid rfl
        have HCN := Lib.hid CN
        have hOA : opA s a false a = if op.level (nmS s a).data.toList = 0 then (⟨#[]⟩, a) else if isW (nmS s a) ≠ false then (⟨#[]⟩, a)
            else if isW (nmS s a) = true ∧ atB (sgC 32) s.data.toList (a + nmN s a) = false then (⟨#[]⟩, a) else (nmS s a, if isW (nmS s a) = true then a + nmN s a + 1 else a + nmN s a) := by unfold opA; rw [if_neg hge, if_neg h0]
        have HOA := Lib.hid hOA
        have CL := fun w1 => op.l2_any (nmS s a) w1
        clear CN h0 hOA
        generalize hq : a + nmN s a = q at *
        have hqs : q ≤ s.size := by omega
        have hq0 : ¬ ((q : Int) < 0) := by omega
        clear hq hnl hge
        generalize nmS s a = n at *
        generalize isW n = wd at *
        generalize hlv : op.level n.data.toList = lv at *
        have HCL := Lib.hid CL
        clear CL hlv
        by_cases hl0 : lv = 0
        · have HV : Hid (opR s a = (⟨#[]⟩, a)) := Lib.hid (by rw [HR.out, HOA.out, if_pos hl0])
          subst hl0
          go_enter Tryz.func78, Tryz.ntmps78
          go_wp2_with fail
          refine H0.out.mono ?_
          rintro e w2 ⟨rfl, hw⟩
          subst hw
          go_wp2_with fail
          refine HCN.out.mono ?_
          rintro e w3 ⟨rfl, hb⟩
          have HB := Lib.hid hb
          clear hb
          go_wp2_with fail
          refine (HCL.out _).mono ?_
          rintro e w4 ⟨rfl, hw⟩
          subst hw
          go_wp2_with fail
          go_ret2
          rw [HV.out]
          exact ⟨rfl, HB.out⟩
        · have tl : (lv == 0) = false := by rw [beq_eq_false_iff_ne]; exact hl0
          cases hi1 : (n.toList == [105, 115])
          · cases hi2 : (n.toList == [109, 111, 100])
            · have hwd : wd = false := by rw [HW.out, hi1, hi2]; rfl
              have HV : Hid (opR s a = (n, q)) := Lib.hid (by rw [HR.out, HOA.out, if_neg hl0, hwd, if_neg (by decide), if_neg (by simp), if_neg (by decide)])
              clear hwd hl0 HW HOA HR
              go_enter Tryz.func78, Tryz.ntmps78
              go_wp2_with fail
              refine H0.out.mono ?_
              rintro e w2 ⟨rfl, hw⟩
              subst hw
              go_wp2_with fail
              refine HCN.out.mono ?_
              rintro e w3 ⟨rfl, hb⟩
              have HB := Lib.hid hb
              clear hb
              go_wp2_with fail
              refine (HCL.out _).mono ?_
              rintro e w4 ⟨rfl, hw⟩
              subst hw
              go_wp2_with fail
              go_ret2
              rw [HV.out]
              exact ⟨rfl, HB.out⟩
            · have hwd : wd = true := by rw [HW.out, hi1, hi2]; rfl
              have HV : Hid (opR s a = (⟨#[]⟩, a)) := Lib.hid (by rw [HR.out, HOA.out, if_neg hl0, hwd, if_pos (by decide)])
              clear hwd hl0 HW HOA HR
              go_enter Tryz.func78, Tryz.ntmps78
              go_wp2_with fail
              refine H0.out.mono ?_
              rintro e w2 ⟨rfl, hw⟩
              subst hw
              go_wp2_with fail
              refine HCN.out.mono ?_
              rintro e w3 ⟨rfl, hb⟩
              have HB := Lib.hid hb
              clear hb
              go_wp2_with fail
              refine (HCL.out _).mono ?_
              rintro e w4 ⟨rfl, hw⟩
              subst hw
              go_wp2_with fail
              go_ret2
              rw [HV.out]
              exact ⟨rfl, HB.out⟩
          · have hwd : wd = true := by rw [HW.out, hi1]; rfl
            have HV : Hid (opR s a = (⟨#[]⟩, a)) := Lib.hid (by rw [HR.out, HOA.out, if_neg hl0, hwd, if_pos (by decide)])
            clear hwd hl0 HW HOA HR
            go_enter Tryz.func78, Tryz.ntmps78
            go_wp2_with fail
            refine H0.out.mono ?_
            rintro e w2 ⟨rfl, hw⟩
            subst hw
            go_wp2_with fail
            refine HCN.out.mono ?_
            rintro e w3 ⟨rfl, hb⟩
            have HB := Lib.hid hb
            clear hb
            go_wp2_with fail
            refine (HCL.out _).mono ?_
            rintro e w4 ⟨rfl, hw⟩
            subst hw
            go_wp2_with fail
            go_ret2
            rw [HV.out]
            exact ⟨rfl, HB.out⟩
  · have HR : Hid (opR s a = opA s a true (a + 1)) := Lib.hid (by unfold opR; rw [hsp]; rfl)
    rw [hsp] at C0
    have H0 := Lib.hid C0
    clear C0 hsp
    by_cases hge : s.size ≤ (a + 1)
    · have HV : Hid (opR s a = (⟨#[]⟩, a)) := Lib.hid (by rw [HR.out]; unfold opA; rw [if_pos hge])
      have t1 : ((a : Int) + 1) ≥ (s.size : Int) := by omega
      go_enter Tryz.func78, Tryz.ntmps78
      go_wp2_with fail
      refine H0.out.mono ?_
      rintro e w2 ⟨rfl, hw⟩
      subst hw
      go_wp2_with fail
      go_ret2
      rw [HV.out]
      exact ⟨rfl, Below.refl _ _⟩
    · have t1 : ¬ (((a : Int) + 1) ≥ (s.size : Int)) := by omega
      have CN := name_any s (a + 1) w hs (by omega)
      have hnl := nmN_le s (a + 1)
      by_cases h0 : nmN s (a + 1) = 0
      · have HV : Hid (opR s a = (⟨#[]⟩, a)) := Lib.hid (by rw [HR.out]; unfold opA; rw [if_neg hge, if_pos h0])
        rw [show nmE s (a + 1) = -1 by unfold nmE; rw [if_pos h0]] at CN
        have HCN := Lib.hid CN
        clear CN h0 hnl
        go_enter Tryz.func78, Tryz.ntmps78
        go_wp2_with fail
        refine H0.out.mono ?_
        rintro e w2 ⟨rfl, hw⟩
        subst hw
        go_wp2_with fail
        refine HCN.out.mono ?_
        rintro e w3 ⟨rfl, hb⟩
        have HB := Lib.hid hb
        clear hb
        go_wp2_with fail
        go_ret2
        rw [HV.out]
        exact ⟨rfl, HB.out⟩
      · rw [show nmE s (a + 1) = (((a + 1) + nmN s (a + 1) : Nat) : Int) by unfold nmE; rw [if_neg h0]] at CN
        have HW : Hid (isW (nmS s (a + 1)) = (((nmS s (a + 1)).toList == [105, 115]) || ((nmS s (a + 1)).toList == [109, 111, 100]))) := Lib.hid rfl
        have HCN := Lib.hid CN
        have hOA : opA s a true (a + 1) = if op.level (nmS s (a + 1)).data.toList = 0 then (⟨#[]⟩, a) else if isW (nmS s (a + 1)) ≠ true then (⟨#[]⟩, a)
            else if isW (nmS s (a + 1)) = true ∧ atB (sgC 32) s.data.toList ((a + 1) + nmN s (a + 1)) = false then (⟨#[]⟩, a) else (nmS s (a + 1), if isW (nmS s (a + 1)) = true then (a + 1) + nmN s (a + 1) + 1 else (a + 1) + nmN s (a + 1)) := by unfold opA; rw [if_neg hge, if_neg h0]
        have HOA := Lib.hid hOA
        have CL := fun w1 => op.l2_any (nmS s (a + 1)) w1
        clear CN h0 hOA
        generalize hq : (a + 1) + nmN s (a + 1) = q at *
        have hqs : q ≤ s.size := by omega
        have hq0 : ¬ ((q : Int) < 0) := by omega
        clear hq hnl hge
        generalize nmS s (a + 1) = n at *
        generalize isW n = wd at *
        generalize hlv : op.level n.data.toList = lv at *
        have HCL := Lib.hid CL
        clear CL hlv
        by_cases hl0 : lv = 0
        · have HV : Hid (opR s a = (⟨#[]⟩, a)) := Lib.hid (by rw [HR.out, HOA.out, if_pos hl0])
          subst hl0
          go_enter Tryz.func78, Tryz.ntmps78
          go_wp2_with fail
          refine H0.out.mono ?_
          rintro e w2 ⟨rfl, hw⟩
          subst hw
          go_wp2_with fail
          refine HCN.out.mono ?_
          rintro e w3 ⟨rfl, hb⟩
          have HB := Lib.hid hb
          clear hb
          go_wp2_with fail
          refine (HCL.out _).mono ?_
          rintro e w4 ⟨rfl, hw⟩
          subst hw
          go_wp2_with fail
          go_ret2
          rw [HV.out]
          exact ⟨rfl, HB.out⟩
        · have tl : (lv == 0) = false := by rw [beq_eq_false_iff_ne]; exact hl0
          cases hi1 : (n.toList == [105, 115])
          · cases hi2 : (n.toList == [109, 111, 100])
            · have hwd : wd = false := by rw [HW.out, hi1, hi2]; rfl
              have HV : Hid (opR s a = (⟨#[]⟩, a)) := Lib.hid (by rw [HR.out, HOA.out, if_neg hl0, hwd, if_pos (by decide)])
              clear hwd hl0 HW HOA HR
              go_enter Tryz.func78, Tryz.ntmps78
              go_wp2_with fail
              refine H0.out.mono ?_
              rintro e w2 ⟨rfl, hw⟩
              subst hw
              go_wp2_with fail
              refine HCN.out.mono ?_
              rintro e w3 ⟨rfl, hb⟩
              have HB := Lib.hid hb
              clear hb
              go_wp2_with fail
              refine (HCL.out _).mono ?_
              rintro e w4 ⟨rfl, hw⟩
              subst hw
              go_wp2_with fail
              go_ret2
              rw [HV.out]
              exact ⟨rfl, HB.out⟩
            · have hwd : wd = true := by rw [HW.out, hi1, hi2]; rfl
              cases hbl : atB (sgC 32) s.data.toList q
              · have HV : Hid (opR s a = (⟨#[]⟩, a)) := Lib.hid (by rw [HR.out, HOA.out, if_neg hl0, hwd, if_neg (by decide), if_pos ⟨rfl, hbl⟩])
                have CB := fun w1 => HSG.out q w1 (by omega)
                rw [hbl] at CB
                have HCB := Lib.hid CB
                clear hwd hl0 HW HOA HR CB hbl
                go_enter Tryz.func78, Tryz.ntmps78
                go_wp2_with fail
                refine H0.out.mono ?_
                rintro e w2 ⟨rfl, hw⟩
                subst hw
                go_wp2_with fail
                refine HCN.out.mono ?_
                rintro e w3 ⟨rfl, hb⟩
                have HB := Lib.hid hb
                clear hb
                go_wp2_with fail
                refine (HCL.out _).mono ?_
                rintro e w4 ⟨rfl, hw⟩
                subst hw
                go_wp2_with fail
                refine (HCB.out _).mono ?_
                rintro e w5 ⟨rfl, hw⟩
                subst hw
                go_wp2_with fail
                go_ret2
                rw [HV.out]
                exact ⟨rfl, HB.out⟩
              · have HV : Hid (opR s a = (n, q + 1)) := Lib.hid (by rw [HR.out, HOA.out, if_neg hl0, hwd, if_neg (by decide), if_neg (by rw [hbl]; simp), if_pos rfl])
                have CB := fun w1 => HSG.out q w1 (by omega)
                rw [hbl] at CB
                have HCB := Lib.hid CB
                clear hwd hl0 HW HOA HR CB hbl
                go_enter Tryz.func78, Tryz.ntmps78
                go_wp2_with fail
                refine H0.out.mono ?_
                rintro e w2 ⟨rfl, hw⟩
                subst hw
                go_wp2_with fail
                refine HCN.out.mono ?_
                rintro e w3 ⟨rfl, hb⟩
                have HB := Lib.hid hb
                clear hb
                go_wp2_with fail
                refine (HCL.out _).mono ?_
                rintro e w4 ⟨rfl, hw⟩
                subst hw
                go_wp2_with fail
                refine (HCB.out _).mono ?_
                rintro e w5 ⟨rfl, hw⟩
                subst hw
                go_wp2_with fail
                go_ret2
                rw [HV.out]
                exact ⟨rfl, HB.out⟩
          · have hwd : wd = true := by rw [HW.out, hi1]; rfl
            cases hbl : atB (sgC 32) s.data.toList q
            · have HV : Hid (opR s a = (⟨#[]⟩, a)) := Lib.hid (by rw [HR.out, HOA.out, if_neg hl0, hwd, if_neg (by decide), if_pos ⟨rfl, hbl⟩])
              have CB := fun w1 => HSG.out q w1 (by omega)
              rw [hbl] at CB
              have HCB := Lib.hid CB
              clear hwd hl0 HW HOA HR CB hbl
              go_enter Tryz.func78, Tryz.ntmps78
              go_wp2_with fail
              refine H0.out.mono ?_
              rintro e w2 ⟨rfl, hw⟩
              subst hw
              go_wp2_with fail
              refine HCN.out.mono ?_
              rintro e w3 ⟨rfl, hb⟩
              have HB := Lib.hid hb
              clear hb
              go_wp2_with fail
              refine (HCL.out _).mono ?_
              rintro e w4 ⟨rfl, hw⟩
              subst hw
              go_wp2_with fail
              refine (HCB.out _).mono ?_
              rintro e w5 ⟨rfl, hw⟩
              subst hw
              go_wp2_with fail
              go_ret2
              rw [HV.out]
              exact ⟨rfl, HB.out⟩
            · have HV : Hid (opR s a = (n, q + 1)) := Lib.hid (by rw [HR.out, HOA.out, if_neg hl0, hwd, if_neg (by decide), if_neg (by rw [hbl]; simp), if_pos rfl])
              have CB := fun w1 => HSG.out q w1 (by omega)
              rw [hbl] at CB
              have HCB := Lib.hid CB
              clear hwd hl0 HW HOA HR CB hbl
              go_enter Tryz.func78, Tryz.ntmps78
              go_wp2_with fail
              refine H0.out.mono ?_
              rintro e w2 ⟨rfl, hw⟩
              subst hw
              go_wp2_with fail
              refine HCN.out.mono ?_
              rintro e w3 ⟨rfl, hb⟩
              have HB := Lib.hid hb
              clear hb
              go_wp2_with fail
              refine (HCL.out _).mono ?_
              rintro e w4 ⟨rfl, hw⟩
              subst hw
              go_wp2_with fail
              refine (HCB.out _).mono ?_
              rintro e w5 ⟨rfl, hw⟩
              subst hw
              go_wp2_with fail
              go_ret2
              rw [HV.out]
              exact ⟨rfl, HB.out⟩
end Go.Proofs.YtihmgodiiohdnaaGreatDoor.rdr
