/- For every two slices of bytes that come in, laws.FnNumbersOfKinds returns true. Conditions: none. -/
import Derived.Test.YtjblgohgkkfoiaaO1
import Derived.Test.YtjblgohgkkfoiaaO3
namespace Go.Proofs.Ytjblgohgkkfoiaa
open Go.ChangeShapes Go.WideShapes Go.ChangeAt Go.RowKit Go.Deep
set_option linter.unusedVariables false
set_option linter.unusedSimpArgs false

set_option maxRecDepth 100000 in
set_option maxHeartbeats 4000000 in
theorem walk_FnNumbersOfKinds (w : World) (AA : Option Addr) (nA cA : Nat) (mA : nA ≤ 9223372036854775807) (yA : Byt w w.heap.size AA nA) (AB : Option Addr) (nB cB : Nat) (mB : nB ≤ 9223372036854775807) (yB : Byt w w.heap.size AB nB) :
    Calls Try.prog 3 #[.slice AA nA cA, .slice AB nB cB] w fun e w' => e = .returned (.bool true) ∧ Below w.heap.size w w' := by
  have YA := Lib.hid yA
  have YB := Lib.hid yB
  clear yA yB
  by_cases hn : nA + nB ≤ 1048576
  · skip
    go_enter Try.func3, Try.ntmps3
    go_wp2_with fail
    refine (big_c _ AA AB nA cA nB cB mA mB).mono ?_
    rw [decide_eq_true hn]
    rintro e w0 ⟨rfl, rfl⟩
    go_wp2_with fail
    refine (DrawPerfectUpTo_c _ AA nA cA YA.out (by omega)).mono ?_
    rintro e wd ⟨⟨a0, rfl⟩, BB⟩
    cases hm : m6Ok a0 with
    | false =>
      have C1 := Lib.hid (fun W => impl_PerfectUpTo_c W a0)
      have C2 := Lib.hid (fun W => spec_PerfectUpTo_c W a0)
      have C3 := Lib.hid (fun W => impl_RecordsUpTo_c W a0)
      have C4 := Lib.hid (fun W => spec_RecordsUpTo_c W a0)
      simp only [hm, pfA_no hm, rcA_no hm] at C1 C2 C3 C4
      clear hm

      go_wp2_with fail
      refine (C1.out _).mono ?_
      rintro e w1 ⟨⟨v1, rfl, o1⟩, b1⟩
      obtain ⟨A1, c1, rfl⟩ := o1.shape
      have X1 := Il_of_own o1
      clear o1
      have BB := BB.trans (b1.mono BB.size)
      go_wp2_with fail
      refine (C2.out _).mono ?_
      rintro e w2 ⟨⟨v2, rfl, o2⟩, b2⟩
      obtain ⟨A2, c2, rfl⟩ := o2.shape
      have X2 := Il_of_own o2
      clear o2
      have X1 := X1.below b2
      have BB := BB.trans (b2.mono BB.size)
      go_wp2_with fail
      refine (C3.out _).mono ?_
      rintro e w3 ⟨⟨v3, rfl, o3⟩, b3⟩
      obtain ⟨A3, c3, rfl⟩ := o3.shape
      have X3 := Il_of_own o3
      clear o3
      have X1 := X1.below b3
      have X2 := X2.below b3
      have BB := BB.trans (b3.mono BB.size)
      go_wp2_with fail
      refine (C4.out _).mono ?_
      rintro e w4 ⟨⟨v4, rfl, o4⟩, b4⟩
      obtain ⟨A4, c4, rfl⟩ := o4.shape
      have X4 := Il_of_own o4
      clear o4
      have X1 := X1.below b4
      have X2 := X2.below b4
      have X3 := X3.below b4
      have BB := BB.trans (b4.mono BB.size)
      go_wp2_with fail
      refine (gSame_c _ _ _ _ _ _ _ _ X1 X2 rfl rfl (Nat.zero_le _)).mono ?_
      rintro e u0 ⟨rfl, d0⟩
      have X1 := X1.below d0
      have X2 := X2.below d0
      have X3 := X3.below d0
      have X4 := X4.below d0
      have BB := BB.trans (d0.mono BB.size)
      go_wp2_with fail
      refine (gSame_c _ _ _ _ _ _ _ _ X3 X4 rfl rfl (Nat.zero_le _)).mono ?_
      rintro e u1 ⟨rfl, d1⟩
      have X1 := X1.below d1
      have X2 := X2.below d1
      have X3 := X3.below d1
      have X4 := X4.below d1
      have BB := BB.trans (d1.mono BB.size)
      clear X1 X2 X3 X4
      go_wp2_with fail
      refine (DrawCoprimePairs_c _ AB nB cB ((YB.out.below BB).mono BB.size) (by omega)).mono ?_
      rintro e wq ⟨⟨a1, rfl⟩, dq⟩
      have BB := BB.trans (dq.mono BB.size)
      cases hq : cpOk a1 with
      | false =>
        have Hi := Lib.hid (fun W => impl_CoprimePairs_c W a1)
        have Hs := Lib.hid (fun W => spec_CoprimePairs_c W a1)
        simp only [hq, cpV_no hq] at Hi Hs
        clear hq
        go_wp2_with fail
        refine (Hi.out _).mono ?_
        rintro e wi ⟨rfl, bi⟩
        have BI := BB.trans (bi.mono BB.size)
        go_wp2_with fail
        refine (Hs.out _).mono ?_
        rintro e ws ⟨rfl, bs⟩
        have BS := BI.trans (bs.mono BI.size)
        go_wp2
        go_ret
        exact ⟨rfl, BS⟩
      | true =>
        obtain ⟨q1, q9⟩ := inB_true.1 hq
        obtain ⟨Q, rfl⟩ := Int.eq_ofNat_of_zero_le (Int.le_trans (by omega) q1)
        have Q1 : 1 ≤ Q := by omega
        have Hi := Lib.hid (fun W => impl_CoprimePairs_c W (Q : Int))
        have Hs := Lib.hid (fun W => spec_CoprimePairs_c W (Q : Int))
        simp only [hq, cpV_yes hq] at Hi Hs
        clear hq
        by_cases Q9 : Q ≤ 60
        · have hqb : ((Q : Int) ≤ 60) := by omega
          have hne : ((2 * (toSum Q : Int) - 1) != (2 * (toSum Q : Int) - 1)) = false := by simp
          go_wp2_with fail
          refine (Hi.out _).mono ?_
          rintro e wi ⟨rfl, bi⟩
          have BI := BB.trans (bi.mono BB.size)
          go_wp2_with fail
          refine (Hs.out _).mono ?_
          rintro e ws ⟨rfl, bs⟩
          have BS := BI.trans (bs.mono BI.size)
          go_wp2
          go_loopw [25, 26] (fun c x wr => ∃ k : Nat, k ≤ Q ∧ x = .int .i64 ((k : Int) + 1) ∧ c = .int .i64 (cgS Q k : Int) ∧ Below w.heap.size w wr) (fun _ x _ => 603 - (intOf x).toNat)
          case atStart => exact ⟨0, Nat.zero_le _, rfl, rfl, BS⟩
          case round =>
            obtain ⟨k, hk, rfl, rfl, hbel⟩ := hrel
            have hcs := Nat.le_trans (cgS_le Q k) (Nat.mul_le_mul (show k ≤ 60 by omega) (show Q ≤ 60 by omega))
            have hSS : cgS Q (k + 1) = cgS Q k + cgR (k + 1) Q := rfl
            obtain ⟨S, hS⟩ : ∃ S, cgS Q k = S := ⟨_, rfl⟩
            have HS := Lib.hid hS
            rw [hS] at hcs hSS ⊢
            have HSS := Lib.hid hSS
            clear hSS hS
            by_cases hlt : k < Q
            · have hki : (k : Int) + 1 ≤ (Q : Int) := by omega
              go_wp2
              go_loopw [25, 27] (fun c y wr => ∃ j : Nat, j ≤ Q ∧ y = .int .i64 ((j : Int) + 1) ∧ c = .int .i64 ((S : Int) + (cgR (k + 1) j : Int)) ∧ Below w.heap.size w wr) (fun _ y _ => 603 - (intOf y).toNat)
              case atStart => exact ⟨0, Nat.zero_le _, rfl, by rw [cgR]; go_num, hbel⟩
              case round =>
                obtain ⟨j, hj, rfl, rfl, hbel2⟩ := hrel
                have hcr := cgR_le (k + 1) j
                have hRR : cgR (k + 1) (j + 1) = cgR (k + 1) j + (bif Nat.gcd (k + 1) (j + 1) == 1 then 1 else 0) := rfl
                obtain ⟨R, hR⟩ : ∃ R, cgR (k + 1) j = R := ⟨_, rfl⟩
                have HR := Lib.hid hR
                rw [hR] at hcr hRR ⊢
                have HRR := Lib.hid hRR
                clear hRR hR
                by_cases hlt2 : j < Q
                · have Hc := Lib.hid (fun W => gCommon_c ((k : Int) + 1) ((j : Int) + 1) W (by omega) (by omega) (by omega) (by omega))
                  have hgd : gcdF ((k : Int) + 1) ((j : Int) + 1) = (Nat.gcd (k + 1) (j + 1) : Int) := by
                    rw [gcdF, show ((k : Int) + 1).toNat = k + 1 by omega, show ((j : Int) + 1).toNat = j + 1 by omega]
                  obtain ⟨D, hD⟩ : ∃ D, Nat.gcd (k + 1) (j + 1) = D := ⟨_, rfl⟩
                  rw [hgd, hD] at Hc
                  rw [hD] at HRR
                  clear hgd hD
                  by_cases hd : D = 1
                  · subst hd
                    have HN := Lib.hid (show ((S : Int) + (R : Int) + 1) = ((S : Int) + (cgR (k + 1) (j + 1) : Int)) by rw [HRR.out]; simp; omega)
                    go_wp2_with fail
                    refine (Hc.out _).mono ?_
                    rintro e w9 ⟨rfl, n9, rfl⟩
                    go_wp2
                    go_roundw
                    case rel => exact ⟨j + 1, by omega, by go_num, by rw [← HN.out], below_drewN hbel2 _⟩
                    case measure => simp [intOf]; omega
                  · have hdb : ((D : Int) == 1) = false := by simp; omega
                    have HN := Lib.hid (show ((S : Int) + (R : Int)) = ((S : Int) + (cgR (k + 1) (j + 1) : Int)) by rw [HRR.out, show (D == 1) = false from beq_eq_false_iff_ne.2 hd]; simp)
                    go_wp2_with fail
                    refine (Hc.out _).mono ?_
                    rintro e w9 ⟨rfl, n9, rfl⟩
                    go_wp2
                    go_roundw
                    case rel => exact ⟨j + 1, by omega, by go_num, by rw [← HN.out], below_drewN hbel2 _⟩
                    case measure => simp [intOf]; omega
                · have HN := Lib.hid (show ((S : Int) + (R : Int)) = (cgS Q (k + 1) : Int) by rw [HSS.out, ← HR.out, show j = Q by omega]; omega)
                  go_wp2
                  go_roundw
                  case rel => exact ⟨k + 1, by omega, by go_num, by rw [← HN.out], hbel2⟩
                  case measure => simp [intOf]; omega
            · have HE := Lib.hid (show ((S : Int) == 2 * (toSum Q : Int) - 1) = true by
                have h1 := cg_is Q1 Q9
                have h2 := toSum_pos Q1
                rw [← HS.out, show k = Q by omega, h1]
                simp
                omega)
              have hEb := HE.out
              go_wp2
              go_ret
              first | exact ⟨rfl, hbel⟩ | exact ⟨by rw [← hEb]; rfl, hbel⟩
        · have hqb : ¬ ((Q : Int) ≤ 60) := by omega
          have hne : ((2 * (toSum Q : Int) - 1) != (2 * (toSum Q : Int) - 1)) = false := by simp
          go_wp2_with fail
          refine (Hi.out _).mono ?_
          rintro e wi ⟨rfl, bi⟩
          have BI := BB.trans (bi.mono BB.size)
          go_wp2_with fail
          refine (Hs.out _).mono ?_
          rintro e ws ⟨rfl, bs⟩
          have BS := BI.trans (bs.mono BI.size)
          go_wp2
          go_ret
          exact ⟨rfl, BS⟩
    | true =>
      obtain ⟨m0, m9⟩ := inB_true.1 hm
      obtain ⟨N, rfl⟩ := Int.eq_ofNat_of_zero_le (Int.le_trans (by omega) m0)
      have N9 : N ≤ 600 := by omega
      have C1 := Lib.hid (fun W => impl_PerfectUpTo_c W (N : Int))
      have C2 := Lib.hid (fun W => spec_PerfectUpTo_c W (N : Int))
      have C3 := Lib.hid (fun W => impl_RecordsUpTo_c W (N : Int))
      have C4 := Lib.hid (fun W => spec_RecordsUpTo_c W (N : Int))
      simp only [hm, pfA_yes hm, rcA_yes hm] at C1 C2 C3 C4
      clear hm m0 m9
      have gP := Nat.le_trans (flF_len pfB 1 N) (show N ≤ 1048576 by omega)
      have gR := Nat.le_trans (flF_len rcB 1 N) (show N ≤ 1048576 by omega)
      have HP := Lib.hid (fun k (hk : k < N) => (hasF_flF (p := pfB) (a := 1) (k := N) (n := k + 1) (by omega) (by omega)))
      have HR := Lib.hid (fun k (hk : k < N) => (hasF_flF (p := rcB) (a := 1) (k := N) (n := k + 1) (by omega) (by omega)))
      obtain ⟨PL, hPL⟩ : ∃ L, flF pfB 1 N = L := ⟨_, rfl⟩
      obtain ⟨RL, hRL⟩ : ∃ L, flF rcB 1 N = L := ⟨_, rfl⟩
      rw [hPL] at C1 C2 gP HP
      rw [hRL] at C3 C4 gR HR
      clear hPL hRL

      go_wp2_with fail
      refine (C1.out _).mono ?_
      rintro e w1 ⟨⟨v1, rfl, o1⟩, b1⟩
      obtain ⟨A1, c1, rfl⟩ := o1.shape
      have X1 := Il_of_own o1
      clear o1
      have BB := BB.trans (b1.mono BB.size)
      go_wp2_with fail
      refine (C2.out _).mono ?_
      rintro e w2 ⟨⟨v2, rfl, o2⟩, b2⟩
      obtain ⟨A2, c2, rfl⟩ := o2.shape
      have X2 := Il_of_own o2
      clear o2
      have X1 := X1.below b2
      have BB := BB.trans (b2.mono BB.size)
      go_wp2_with fail
      refine (C3.out _).mono ?_
      rintro e w3 ⟨⟨v3, rfl, o3⟩, b3⟩
      obtain ⟨A3, c3, rfl⟩ := o3.shape
      have X3 := Il_of_own o3
      clear o3
      have X1 := X1.below b3
      have X2 := X2.below b3
      have BB := BB.trans (b3.mono BB.size)
      go_wp2_with fail
      refine (C4.out _).mono ?_
      rintro e w4 ⟨⟨v4, rfl, o4⟩, b4⟩
      obtain ⟨A4, c4, rfl⟩ := o4.shape
      have X4 := Il_of_own o4
      clear o4
      have X1 := X1.below b4
      have X2 := X2.below b4
      have X3 := X3.below b4
      have BB := BB.trans (b4.mono BB.size)
      go_wp2_with fail
      refine (gSame_c _ _ _ _ _ _ _ _ X1 X2 rfl rfl gP).mono ?_
      rintro e u0 ⟨rfl, d0⟩
      have X1 := X1.below d0
      have X2 := X2.below d0
      have X3 := X3.below d0
      have X4 := X4.below d0
      have BB := BB.trans (d0.mono BB.size)
      go_wp2_with fail
      refine (gSame_c _ _ _ _ _ _ _ _ X3 X4 rfl rfl gR).mono ?_
      rintro e u1 ⟨rfl, d1⟩
      have X1 := X1.below d1
      have X2 := X2.below d1
      have X3 := X3.below d1
      have X4 := X4.below d1
      have BB := BB.trans (d1.mono BB.size)
      clear X2 X4
      go_wp2
      rename_i W0
      go_loopw [14, 15] (fun b i wr => ∃ k : Nat, k ≤ N ∧ i = .int .i64 ((k : Int) + 1) ∧ b = .int .i64 (rcR k : Int) ∧ Below u1.heap.size u1 wr) (fun _ i _ => 603 - (intOf i).toNat)
      case atStart => exact ⟨0, Nat.zero_le _, rfl, rfl, Below.refl _ _⟩
      case round =>
        obtain ⟨k, hk, rfl, rfl, hbel⟩ := hrel
        have hrc := rcR_le k
        have hRC : rcR (k + 1) = max (rcR k) (dvD (k + 1)).length := rfl
        have hRB : rcB (k + 1) = decide (rcR k < (dvD (k + 1)).length) := by rw [rcB, Nat.add_sub_cancel]
        obtain ⟨B, hB⟩ : ∃ B, rcR k = B := ⟨_, rfl⟩
        rw [hB] at hrc hRC hRB ⊢
        clear hB
        by_cases hlt : k < N
        · have hok : dvOk ((k + 1 : Nat) : Int) = true := inB_true.2 ⟨by omega, by omega⟩
          have Hst := Lib.hid (fun W => impl_SumStep_c W ((k + 1 : Nat) : Int))
          have Hcd := Lib.hid (fun W => impl_CountDivisors_c W ((k + 1 : Nat) : Int))
          simp only [hok, stpV_yes hok, cdV_yes hok] at Hst Hcd
          have hPB : pfB (k + 1) = decide (dvS (k + 1) - ((k + 1 : Nat) : Int) = ((k + 1 : Nat) : Int)) := by
            rw [pfB]; exact decide_eq_decide.2 ⟨fun h => by omega, fun h => by omega⟩
          have hdl : (dvD (k + 1)).length ≤ k + 1 := flF_len _ _ _
          obtain ⟨T, hT⟩ : ∃ T, dvS (k + 1) - ((k + 1 : Nat) : Int) = T := ⟨_, rfl⟩
          obtain ⟨D, hD⟩ : ∃ D, (dvD (k + 1)).length = D := ⟨_, rfl⟩
          rw [hT] at Hst hPB
          rw [hD] at Hcd hRC hRB hdl
          have HhP := Lib.hid (fun W (h : Hid (Il W A1 PL)) => gHas_c W A1 _ c1 PL h.out rfl gP ((k + 1 : Nat) : Int))
          have HhR := Lib.hid (fun W (h : Hid (Il W A3 RL)) => gHas_c W A3 _ c3 RL h.out rfl gR ((k + 1 : Nat) : Int))
          simp only [HP.out k hlt, hPB] at HhP
          simp only [HR.out k hlt, hRB] at HhR
          clear hok hT hD hPB hRB
          rw [show ((k + 1 : Nat) : Int) = (k : Int) + 1 by omega] at Hst Hcd HhP HhR
          by_cases hp : T = (k : Int) + 1
          · have hpb : (T == (k : Int) + 1) = true := beq_iff_eq.2 hp
            rw [decide_eq_true hp] at HhP
            clear hp
            by_cases hr : B < D
            · have hri : (B : Int) < (D : Int) := by omega
              have HB2 := Lib.hid (show rcR (k + 1) = D by rw [hRC]; omega)
              rw [decide_eq_true hr] at HhR
              clear hRC hr
              go_wp2_with fail
              refine (Hst.out _).mono ?_
              rintro e y1 ⟨rfl, e1⟩
              have hbel1 := hbel.trans (e1.mono hbel.size)
              go_wp2_with fail
              refine (Hcd.out _).mono ?_
              rintro e y2 ⟨rfl, e2⟩
              have hbel2 := hbel1.trans (e2.mono hbel1.size)
              go_wp2_with fail
              refine (HhP.out _ (Lib.hid (X1.below hbel2))).mono ?_
              rintro e y3 ⟨rfl, rfl⟩
              go_wp2_with fail
              refine (HhR.out _ (Lib.hid (X3.below hbel2))).mono ?_
              rintro e y4 ⟨rfl, rfl⟩
              go_wp2
              go_roundw
              case rel => exact ⟨k + 1, by omega, by go_num, by rw [HB2.out], hbel2⟩
              case measure => simp [intOf]; omega
            · have hri : ¬ ((B : Int) < (D : Int)) := by omega
              have HB2 := Lib.hid (show rcR (k + 1) = B by rw [hRC]; omega)
              rw [decide_eq_false hr] at HhR
              clear hRC hr
              go_wp2_with fail
              refine (Hst.out _).mono ?_
              rintro e y1 ⟨rfl, e1⟩
              have hbel1 := hbel.trans (e1.mono hbel.size)
              go_wp2_with fail
              refine (Hcd.out _).mono ?_
              rintro e y2 ⟨rfl, e2⟩
              have hbel2 := hbel1.trans (e2.mono hbel1.size)
              go_wp2_with fail
              refine (HhP.out _ (Lib.hid (X1.below hbel2))).mono ?_
              rintro e y3 ⟨rfl, rfl⟩
              go_wp2_with fail
              refine (HhR.out _ (Lib.hid (X3.below hbel2))).mono ?_
              rintro e y4 ⟨rfl, rfl⟩
              go_wp2
              go_roundw
              case rel => exact ⟨k + 1, by omega, by go_num, by rw [HB2.out], hbel2⟩
              case measure => simp [intOf]; omega
          · have hpb : (T == (k : Int) + 1) = false := beq_eq_false_iff_ne.2 hp
            rw [decide_eq_false hp] at HhP
            clear hp
            by_cases hr : B < D
            · have hri : (B : Int) < (D : Int) := by omega
              have HB2 := Lib.hid (show rcR (k + 1) = D by rw [hRC]; omega)
              rw [decide_eq_true hr] at HhR
              clear hRC hr
              go_wp2_with fail
              refine (Hst.out _).mono ?_
              rintro e y1 ⟨rfl, e1⟩
              have hbel1 := hbel.trans (e1.mono hbel.size)
              go_wp2_with fail
              refine (Hcd.out _).mono ?_
              rintro e y2 ⟨rfl, e2⟩
              have hbel2 := hbel1.trans (e2.mono hbel1.size)
              go_wp2_with fail
              refine (HhP.out _ (Lib.hid (X1.below hbel2))).mono ?_
              rintro e y3 ⟨rfl, rfl⟩
              go_wp2_with fail
              refine (HhR.out _ (Lib.hid (X3.below hbel2))).mono ?_
              rintro e y4 ⟨rfl, rfl⟩
              go_wp2
              go_roundw
              case rel => exact ⟨k + 1, by omega, by go_num, by rw [HB2.out], hbel2⟩
              case measure => simp [intOf]; omega
            · have hri : ¬ ((B : Int) < (D : Int)) := by omega
              have HB2 := Lib.hid (show rcR (k + 1) = B by rw [hRC]; omega)
              rw [decide_eq_false hr] at HhR
              clear hRC hr
              go_wp2_with fail
              refine (Hst.out _).mono ?_
              rintro e y1 ⟨rfl, e1⟩
              have hbel1 := hbel.trans (e1.mono hbel.size)
              go_wp2_with fail
              refine (Hcd.out _).mono ?_
              rintro e y2 ⟨rfl, e2⟩
              have hbel2 := hbel1.trans (e2.mono hbel1.size)
              go_wp2_with fail
              refine (HhP.out _ (Lib.hid (X1.below hbel2))).mono ?_
              rintro e y3 ⟨rfl, rfl⟩
              go_wp2_with fail
              refine (HhR.out _ (Lib.hid (X3.below hbel2))).mono ?_
              rintro e y4 ⟨rfl, rfl⟩
              go_wp2
              go_roundw
              case rel => exact ⟨k + 1, by omega, by go_num, by rw [HB2.out], hbel2⟩
              case measure => simp [intOf]; omega
        · have BB := BB.trans (hbel.mono BB.size)
          clear hRC hRB HP HR
          go_wp2_with fail
          refine (DrawCoprimePairs_c _ AB nB cB ((YB.out.below BB).mono BB.size) (by omega)).mono ?_
          rintro e wq ⟨⟨a1, rfl⟩, dq⟩
          have BB := BB.trans (dq.mono BB.size)
          cases hq : cpOk a1 with
          | false =>
            have Hi := Lib.hid (fun W => impl_CoprimePairs_c W a1)
            have Hs := Lib.hid (fun W => spec_CoprimePairs_c W a1)
            simp only [hq, cpV_no hq] at Hi Hs
            clear hq
            go_wp2_with fail
            refine (Hi.out _).mono ?_
            rintro e wi ⟨rfl, bi⟩
            have BI := BB.trans (bi.mono BB.size)
            go_wp2_with fail
            refine (Hs.out _).mono ?_
            rintro e ws ⟨rfl, bs⟩
            have BS := BI.trans (bs.mono BI.size)
            go_wp2
            go_ret
            exact ⟨rfl, BS⟩
          | true =>
            obtain ⟨q1, q9⟩ := inB_true.1 hq
            obtain ⟨Q, rfl⟩ := Int.eq_ofNat_of_zero_le (Int.le_trans (by omega) q1)
            have Q1 : 1 ≤ Q := by omega
            have Hi := Lib.hid (fun W => impl_CoprimePairs_c W (Q : Int))
            have Hs := Lib.hid (fun W => spec_CoprimePairs_c W (Q : Int))
            simp only [hq, cpV_yes hq] at Hi Hs
            clear hq
            by_cases Q9 : Q ≤ 60
            · have hqb : ((Q : Int) ≤ 60) := by omega
              have hne : ((2 * (toSum Q : Int) - 1) != (2 * (toSum Q : Int) - 1)) = false := by simp
              go_wp2_with fail
              refine (Hi.out _).mono ?_
              rintro e wi ⟨rfl, bi⟩
              have BI := BB.trans (bi.mono BB.size)
              go_wp2_with fail
              refine (Hs.out _).mono ?_
              rintro e ws ⟨rfl, bs⟩
              have BS := BI.trans (bs.mono BI.size)
              go_wp2
              go_loopw [25, 26] (fun c x wr => ∃ k : Nat, k ≤ Q ∧ x = .int .i64 ((k : Int) + 1) ∧ c = .int .i64 (cgS Q k : Int) ∧ Below w.heap.size w wr) (fun _ x _ => 603 - (intOf x).toNat)
              case atStart => exact ⟨0, Nat.zero_le _, rfl, rfl, BS⟩
              case round =>
                obtain ⟨k, hk, rfl, rfl, hbel⟩ := hrel
                have hcs := Nat.le_trans (cgS_le Q k) (Nat.mul_le_mul (show k ≤ 60 by omega) (show Q ≤ 60 by omega))
                have hSS : cgS Q (k + 1) = cgS Q k + cgR (k + 1) Q := rfl
                obtain ⟨S, hS⟩ : ∃ S, cgS Q k = S := ⟨_, rfl⟩
                have HS := Lib.hid hS
                rw [hS] at hcs hSS ⊢
                have HSS := Lib.hid hSS
                clear hSS hS
                by_cases hlt : k < Q
                · have hki : (k : Int) + 1 ≤ (Q : Int) := by omega
                  go_wp2
                  go_loopw [25, 27] (fun c y wr => ∃ j : Nat, j ≤ Q ∧ y = .int .i64 ((j : Int) + 1) ∧ c = .int .i64 ((S : Int) + (cgR (k + 1) j : Int)) ∧ Below w.heap.size w wr) (fun _ y _ => 603 - (intOf y).toNat)
                  case atStart => exact ⟨0, Nat.zero_le _, rfl, by rw [cgR]; go_num, hbel⟩
                  case round =>
                    obtain ⟨j, hj, rfl, rfl, hbel2⟩ := hrel
                    have hcr := cgR_le (k + 1) j
                    have hRR : cgR (k + 1) (j + 1) = cgR (k + 1) j + (bif Nat.gcd (k + 1) (j + 1) == 1 then 1 else 0) := rfl
                    obtain ⟨R, hR⟩ : ∃ R, cgR (k + 1) j = R := ⟨_, rfl⟩
                    have HR := Lib.hid hR
                    rw [hR] at hcr hRR ⊢
                    have HRR := Lib.hid hRR
                    clear hRR hR
                    by_cases hlt2 : j < Q
                    · have Hc := Lib.hid (fun W => gCommon_c ((k : Int) + 1) ((j : Int) + 1) W (by omega) (by omega) (by omega) (by omega))
                      have hgd : gcdF ((k : Int) + 1) ((j : Int) + 1) = (Nat.gcd (k + 1) (j + 1) : Int) := by
                        rw [gcdF, show ((k : Int) + 1).toNat = k + 1 by omega, show ((j : Int) + 1).toNat = j + 1 by omega]
                      obtain ⟨D, hD⟩ : ∃ D, Nat.gcd (k + 1) (j + 1) = D := ⟨_, rfl⟩
                      rw [hgd, hD] at Hc
                      rw [hD] at HRR
                      clear hgd hD
                      by_cases hd : D = 1
                      · subst hd
                        have HN := Lib.hid (show ((S : Int) + (R : Int) + 1) = ((S : Int) + (cgR (k + 1) (j + 1) : Int)) by rw [HRR.out]; simp; omega)
                        go_wp2_with fail
                        refine (Hc.out _).mono ?_
                        rintro e w9 ⟨rfl, n9, rfl⟩
                        go_wp2
                        go_roundw
                        case rel => exact ⟨j + 1, by omega, by go_num, by rw [← HN.out], below_drewN hbel2 _⟩
                        case measure => simp [intOf]; omega
                      · have hdb : ((D : Int) == 1) = false := by simp; omega
                        have HN := Lib.hid (show ((S : Int) + (R : Int)) = ((S : Int) + (cgR (k + 1) (j + 1) : Int)) by rw [HRR.out, show (D == 1) = false from beq_eq_false_iff_ne.2 hd]; simp)
                        go_wp2_with fail
                        refine (Hc.out _).mono ?_
                        rintro e w9 ⟨rfl, n9, rfl⟩
                        go_wp2
                        go_roundw
                        case rel => exact ⟨j + 1, by omega, by go_num, by rw [← HN.out], below_drewN hbel2 _⟩
                        case measure => simp [intOf]; omega
                    · have HN := Lib.hid (show ((S : Int) + (R : Int)) = (cgS Q (k + 1) : Int) by rw [HSS.out, ← HR.out, show j = Q by omega]; omega)
                      go_wp2
                      go_roundw
                      case rel => exact ⟨k + 1, by omega, by go_num, by rw [← HN.out], hbel2⟩
                      case measure => simp [intOf]; omega
                · have HE := Lib.hid (show ((S : Int) == 2 * (toSum Q : Int) - 1) = true by
                    have h1 := cg_is Q1 Q9
                    have h2 := toSum_pos Q1
                    rw [← HS.out, show k = Q by omega, h1]
                    simp
                    omega)
                  have hEb := HE.out
                  go_wp2
                  go_ret
                  first | exact ⟨rfl, hbel⟩ | exact ⟨by rw [← hEb]; rfl, hbel⟩
            · have hqb : ¬ ((Q : Int) ≤ 60) := by omega
              have hne : ((2 * (toSum Q : Int) - 1) != (2 * (toSum Q : Int) - 1)) = false := by simp
              go_wp2_with fail
              refine (Hi.out _).mono ?_
              rintro e wi ⟨rfl, bi⟩
              have BI := BB.trans (bi.mono BB.size)
              go_wp2_with fail
              refine (Hs.out _).mono ?_
              rintro e ws ⟨rfl, bs⟩
              have BS := BI.trans (bs.mono BI.size)
              go_wp2
              go_ret
              exact ⟨rfl, BS⟩
  · go_enter Try.func3, Try.ntmps3
    go_wp2_with fail
    refine (big_c _ AA AB nA cA nB cB mA mB).mono ?_
    rw [decide_eq_false hn]
    rintro e w0 ⟨rfl, rfl⟩
    go_wp2
    go_ret
    exact ⟨rfl, Below.refl _ _⟩

set_option maxRecDepth 100000 in
theorem lifted_FnNumbersOfKinds (os : Os) (started : os.Started) (H : Type) (enc : TypeId × Value → H) :
    ReturnsInHanded {} Try.checked os 3 .any (Rows.fnNumbersOfKindsSpec.pre6 enc Try.prog Try.f3 Rows.fnNumbersOfKindsRow.domain false) (Rows.fnNumbersOfKindsSpec.post enc Try.prog Try.f3 false true false false) := by
  refine returnsInHanded_of_change (C := Try.checked) own started (by kernel_rfl) Try.func3
    (ChangeSpec.witness6 (enc := enc) (C := Try.checked) false ⟨#[], #[.slice none 0 0, .slice none 0 0], []⟩ 8 (by kernel_rfl) (by kernel_rfl) (by kernel_rfl) (by kernel_rfl)) ?_
  intro W base args ds gs before hval0 hW hcnd _
  have hval : ∀ (j : Nat) t v, Try.f3.params[j]? = some t → args[j]? = some v → Value.okWide Try.prog W .any base t v := hval0
  have hW' := hW
  obtain ⟨p, q, hA0, hV, rfl, hfz, hnd⟩ := hW
  have hA : DataW.TrodAll enc Try.prog W 0 (fun _ => true) true Try.f3.params.toList args.toList ds p := hA0
  rw [Try.params3] at hA hval
  obtain ⟨v0, vs0, d0, ds0, p0, q0, hargs, rfl, rfl, h0, r0⟩ := trodAll_cons hA
  obtain ⟨v1, vs1, d1, ds1, p1, q1, rfl, rfl, rfl, h1, r1⟩ := trodAll_cons r0
  obtain ⟨rfl, rfl, rfl⟩ := trodAll_nil r1
  obtain rfl : args = #[v0, v1] := by cases args; simp_all
  obtain ⟨rfl, rfl⟩ := trodVars_none hV
  have k0 := h0
  have lt0 : ∀ x ∈ p0, x.block < W.heap.size := by obtain ⟨m, hm⟩ := k0; exact DataW.trod_lt m _ _ _ hm
  obtain ⟨A0, n0, c0, rfl, m0, Y0⟩ := open_byt (hval 0 22 v0 rfl rfl) h0
  have k1 := h1
  have lt1 : ∀ x ∈ p1, x.block < W.heap.size := by obtain ⟨m, hm⟩ := k1; exact DataW.trod_lt m _ _ _ hm
  obtain ⟨A1, n1, c1, rfl, m1, Y1⟩ := open_byt (hval 1 22 v1 rfl rfl) h1
  clear hA0 hval0
  refine (walk_FnNumbersOfKinds W A0 n0 c0 m0 Y0 A1 n1 c1 m1 Y1).mono fun e W' ⟨he, bel⟩ => ?_
  subst he
  exact ⟨_, rfl, _, _, _, [], _, [], hW', trodAll_mk1 (shut_bool Try.underlying4 _), (trodAll_cons_mk (Below.trod laidOut (by kernel_rfl) (of_decide_eq_true (by kernel_rfl)) k0 bel lt0) (trodAll_cons_mk (Below.trod laidOut (by kernel_rfl) (of_decide_eq_true (by kernel_rfl)) k1 bel lt1) trodAll_mk0)), rfl, bel.frame _, fun h => by cases h⟩

theorem closed_FnNumbersOfKinds : joinedFacts Try.prog 3 Try.f3 Rows.fnNumbersOfKindsSpec Rows.fnNumbersOfKindsRow = true := by
  unfold joinedFacts
  rw [head_enters, head_final, head_make]
  kernel_rfl
theorem over_FnNumbersOfKinds : Rows.fnNumbersOfKindsRow.holds Try.pinned (OpenSpec.ofChange Rows.fnNumbersOfKindsSpec) :=
  OpenClaim.holds_of_wide 3 Try.f3 rfl rfl rfl rfl rfl rfl rfl ⟨rfl, rfl, rfl, rfl, rfl⟩ rfl rfl rfl rfl rfl (by kernel_rfl) Try.func3 closed_FnNumbersOfKinds
    (of_decide_eq_true (by kernel_rfl)) (by unfold Func.isWrapper; first | (rw [if_pos (by decide +kernel)]; kernel_rfl) | (rw [if_neg (by decide +kernel)]; exact ⟨rfl, rfl⟩))
    (fun os started H enc _ => lifted_FnNumbersOfKinds os started H enc)

theorem fnNumbersOfKinds_holds : Rows.FnNumbersOfKindsSaid := over_FnNumbersOfKinds

end Go.Proofs.Ytjblgohgkkfoiaa
