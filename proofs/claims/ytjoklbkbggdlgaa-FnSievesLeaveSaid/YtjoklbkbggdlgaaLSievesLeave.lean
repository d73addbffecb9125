/- For every two slices of bytes that come in, laws.FnSievesLeave returns true. Conditions: none. -/
import Derived.Test.YtjoklbkbggdlgaaOSF
import Derived.Test.YtjoklbkbggdlgaaOJ
import Derived.Test.YtjoklbkbggdlgaaOA
import Derived.Test.YtjoklbkbggdlgaaO7
import Derived.Test.YtjoklbkbggdlgaaB1
import Derived.Test.YtjoklbkbggdlgaaB2
import Derived.Test.YtjoklbkbggdlgaaO3
import Derived.Test.YtjoklbkbggdlgaaOKS
import Derived.Test.YtjoklbkbggdlgaaL0
namespace Go.Proofs.Ytjoklbkbggdlgaa
open Go.ChangeShapes Go.WideShapes Go.ChangeAt Go.RowKit Go.Deep
set_option maxRecDepth 100000
set_option linter.unusedVariables false
set_option linter.unusedSimpArgs false

theorem cntV_in (rs : List (Int × Int)) (n : Int) : 0 ≤ cntV rs n ∧ cntV rs n ≤ 1000000 := by
  rw [cntV]
  split
  · rename_i h
    have h1 := (okM_most h).2
    have h2 := upF_len (leftF rs) n.toNat
    omega
  · omega
set_option maxHeartbeats 40000000 in
theorem walk_FnSievesLeave (w : World) (AA : Option Addr) (nA cA : Nat) (mA : nA ≤ 9223372036854775807) (yA : Byt w w.heap.size AA nA) (AB : Option Addr) (nB cB : Nat) (mB : nB ≤ 9223372036854775807) (yB : Byt w w.heap.size AB nB) :
    Calls Try.prog 3 #[.slice AA nA cA, .slice AB nB cB] w fun e w' => e = .returned (.bool true) ∧ Below w.heap.size w w' := by
  by_cases hn : nA + nB ≤ 1048576
  rotate_left
  · go_enter Try.func3, Try.ntmps3
    go_wp2_with fail
    refine (big_c _ AA AB nA cA nB cB mA mB).mono ?_
    rw [decide_eq_false hn]
    rintro e w0 ⟨rfl, rfl⟩
    go_wp2
    go_ret
    exact ⟨rfl, Below.refl _ _⟩
  have YA := Lib.hid yA
  have YB := Lib.hid yB
  obtain ⟨ff, hff⟩ := Byt.told yB
  obtain ⟨de, dr, hD⟩ := DrawIsRuleF_c ff nB (by omega)
  have YF := Lib.hid hff
  have HD := Lib.hid hD
  clear yA yB hff hD
  go_enter Try.func3, Try.ntmps3
  go_wp2_with fail
  refine (big_c _ AA AB nA cA nB cB mA mB).mono ?_
  rw [decide_eq_true hn]
  rintro e w0 ⟨rfl, rfl⟩
  go_wp2_with fail
  refine (DrawLeftUpTo_c _ AA nA cA YA.out (by omega)).mono ?_
  rintro e wqr ⟨⟨vqr, rs, am, rfl, oqr, hq20r⟩, dqr⟩
  have BB := dqr
  obtain ⟨Ar, cr, rfl⟩ := OwnR.shape oqr
  have HA := Rl_of_own oqr rfl
  obtain ⟨mr, hmr⟩ : ∃ l, rs.length = l := ⟨_, rfl⟩
  rw [hmr] at hq20r ⊢
  have Hmr : Hid (mr = rs.length) := Lib.hid hmr.symm
  have hnr : mr ≤ 1048576 := by omega
  clear oqr hmr dqr
  have C1 := Lib.hid (fun W (hW : Rl W Ar rs) => impl_LeftUpTo_c W Ar mr cr rs hW Hmr.out hnr am)
  have C2 := Lib.hid (fun W (hW : Rl W Ar rs) => spec_LeftUpTo_c W Ar mr cr rs hW Hmr.out hnr am)
  have C3 := Lib.hid (fun W (hW : Rl W Ar rs) => impl_CountLeft_c W Ar mr cr rs hW Hmr.out hnr am)
  have C4 := Lib.hid (fun W (hW : Rl W Ar rs) => spec_CountLeft_c W Ar mr cr rs hW Hmr.out hnr am)
  have C5 := Lib.hid (fun W (hW : Rl W Ar rs) => implAreRules_c Ar mr cr rs W hW Hmr.out hnr)
  have C6 := Lib.hid (fun W (hW : Rl W Ar rs) => specAreRules_c Ar mr cr rs W hW Hmr.out hnr)
  have hl := upV_lenS rs am
  obtain ⟨XS, hXS⟩ : ∃ x, upV rs am = x := ⟨_, rfl⟩
  rw [hXS] at C1 C2 hl
  have GXS := Lib.hid hXS
  clear hXS
  obtain ⟨CV, hCV⟩ : ∃ x, cntV rs am = x := ⟨_, rfl⟩
  rw [hCV] at C3 C4
  have GCV := Lib.hid hCV
  clear hCV
  obtain ⟨OK, hOK⟩ : ∃ x, okM rs am = x := ⟨_, rfl⟩
  rw [hOK] at C1 C2 C3 C4
  have GOK := Lib.hid hOK
  clear hOK
  obtain ⟨GD, hGD⟩ : ∃ x, goodL rs = x := ⟨_, rfl⟩
  rw [hGD] at C5 C6
  have GGD := Lib.hid hGD
  clear hGD
  obtain ⟨L, hL⟩ : ∃ l, XS.length = l := ⟨_, rfl⟩
  rw [hL] at hl
  have HL := Lib.hid hL
  clear hL
  go_wp2_with fail
  refine (C1.out _ HA).mono ?_
  rintro e zX ⟨⟨vX, rfl, oX⟩, aX⟩
  replace BB := BB.trans (aX.mono BB.size)
  have HA := HA.below aX
  obtain ⟨AX, cX, rfl⟩ := oX.shape
  have HX := Il_of_own oX
  rw [HL.out]
  clear oX aX
  go_wp2_with fail
  refine (C2.out _ HA).mono ?_
  rintro e zY ⟨⟨vY, rfl, oY⟩, aY⟩
  replace BB := BB.trans (aY.mono BB.size)
  have HA := HA.below aY
  have HX := HX.below aY
  obtain ⟨AY, cY, rfl⟩ := oY.shape
  have HY := Il_of_own oY
  rw [HL.out]
  clear oY aY
  go_wp2_with fail
  refine (C3.out _ HA).mono ?_
  rintro e z3 ⟨rfl, a3⟩
  replace BB := BB.trans (a3.mono BB.size)
  have HA := HA.below a3
  have HX := HX.below a3
  have HY := HY.below a3
  clear a3
  go_wp2_with fail
  refine (C4.out _ HA).mono ?_
  rintro e z4 ⟨rfl, a4⟩
  replace BB := BB.trans (a4.mono BB.size)
  have HA := HA.below a4
  have HX := HX.below a4
  have HY := HY.below a4
  clear a4
  clear C1 C2 C3 C4
  rename (∀ (a : Act) (w : World), Code.wp _ _ _ a w → _) => hKK
  refine cut_k hKK (fun a' w' => Below w.heap.size w w' ∧ a'.defers = [] ∧ a'.tmps.size = 456 ∧ a'.tmps.getD 1 undef = .slice AB nB cB) ?main ?tail
  case main =>
    as_aux_lemma =>
      intro hK3
      clear hKK
      go_wp2_with fail
      intro K2 hR2 K1 hx1
      go_wp2_with fail
      refine (tSame_c AX AY L L cX cY XS _ HX HY HL.out.symm HL.out.symm hl).mono ?_
      rintro e zts ⟨rfl, ats⟩
      replace BB := BB.trans (ats.mono BB.size)
      have HA := HA.below ats
      have HX := HX.below ats
      clear ats
      clear HY
      cases hok : OK with
      | false =>
        subst hok
        clear HX
        go_wp2_with fail
        refine (C5.out _ HA).mono ?_
        rintro e z5 ⟨rfl, a5⟩
        replace BB := BB.trans (a5.mono BB.size)
        have HA := HA.below a5
        clear a5
        go_wp2_with fail
        refine (C6.out _ HA).mono ?_
        rintro e z6 ⟨rfl, a6⟩
        replace BB := BB.trans (a6.mono BB.size)
        have HA := HA.below a6
        clear a6
        clear HA C5 C6 GXS GCV GOK GGD
        go_wp2
        all_goals exact ⟨BB, rfl, rfl, rfl⟩
      | true =>
        obtain ⟨M, XS2, rfl, hM6, hgd, e1, e2, hris, hnum, hrank, hnext, hcro, htot, htl⟩ := sl_all (GOK.out.trans hok)
        subst hok
        obtain rfl : XS = XS2 := by rw [← GXS.out]; exact e1
        obtain rfl : CV = (L : Int) := by rw [← GCV.out, e2, HL.out]
        obtain rfl : GD = true := by rw [← GGD.out]; exact hgd
        rw [HL.out] at hrank hnext htot
        have Hris := Lib.hid hris
        have Hnum := Lib.hid hnum
        have Hrank := Lib.hid hrank
        have Hnext := Lib.hid hnext
        have Hcro : Hid (∀ k, k < mr → _) := Lib.hid fun k hk => hcro k (by rw [← Hmr.out]; exact hk)
        rw [← Hmr.out] at htot
        have Htot := Lib.hid htot
        have Htl := Lib.hid htl
        have HF : Hid (∀ F, F < rs.length → F < mr) := Lib.hid fun F h => by rw [Hmr.out]; exact h
        clear hgd e1 e2 hris hnum hrank hnext hcro htot htl GXS GCV GOK GGD
        go_wp2_with fail
        refine (C5.out _ HA).mono ?_
        rintro e z5 ⟨rfl, a5⟩
        replace BB := BB.trans (a5.mono BB.size)
        have HA := HA.below a5
        have HX := HX.below a5
        clear a5
        go_wp2_with fail
        refine (C5.out _ HA).mono ?_
        rintro e z5b ⟨rfl, a5b⟩
        replace BB := BB.trans (a5b.mono BB.size)
        have HA := HA.below a5b
        have HX := HX.below a5b
        clear a5b
        go_wp2_with fail
        refine (C6.out _ HA).mono ?_
        rintro e z6 ⟨rfl, a6⟩
        replace BB := BB.trans (a6.mono BB.size)
        have HA := HA.below a6
        have HX := HX.below a6
        clear a6
        clear C5 C6
        go_wp2_with fail
        refine (tRises_c _ AX L cX XS 1 (M : Int) HX HL.out.symm hl Hris.out).mono ?_
        rintro e ztr ⟨rfl, atr⟩
        replace BB := BB.trans (atr.mono BB.size)
        have HA := HA.below atr
        have HX := HX.below atr
        clear atr
        clear Hris
        go_wp2
        go_loopw [15] (fun i wr => ∃ k : Nat, 1 ≤ k ∧ k ≤ M + 1 ∧ i = .int .i64 (k : Int) ∧ Below w.heap.size w wr ∧ Rl wr Ar rs ∧ Il wr AX XS) (fun i _ => M + 1 - (intOf i).toNat)
        case atStart => exact ⟨1, Nat.le_refl _, by omega, rfl, BB, HA, HX⟩
        case round =>
          clear BB HA HX
          obtain ⟨k, hk1, hk9, rfl, BB, HA, HX⟩ := hrel
          by_cases hlt : k ≤ M
          · have hki : decide ((k : Int) ≤ (M : Int)) = true := decide_eq_true (by omega)
            have hki2 : (k : Int) ≤ (M : Int) := by omega
            have hki3 : decide (k ≤ M) = true := decide_eq_true (by omega)
            have hwk : IntKind.i64.wrap ((k : Int) + 1) = (k : Int) + 1 := IntWalk.i64_in _ (by omega)
            obtain ⟨B, b1, b2, b3, b4, b5⟩ := Hnum.out k hk1 hlt
            have I1 := Lib.hid (fun W (hW : Rl W Ar rs) => impl_IsLeft_c W Ar mr cr rs hW Hmr.out hnr (k : Int))
            have I2 := Lib.hid (fun W (hW : Rl W Ar rs) => impl_FirstRule_c W Ar mr cr rs hW Hmr.out hnr (k : Int))
            rw [b1, b2] at I1
            rw [b3] at I2
            have Th := Lib.hid (fun W (hW : Il W AX XS) => tHas_c W AX L cX XS hW HL.out.symm hl (k : Int))
            rw [b4] at Th
            clear b1 b2 b3 b4
            go_wp2_with fail
            refine (I1.out _ HA).mono ?_
            rintro e zi1 ⟨rfl, ai1⟩
            replace BB := BB.trans (ai1.mono BB.size)
            have HA := HA.below ai1
            have HX := HX.below ai1
            clear ai1
            go_wp2_with fail
            refine (I2.out _ HA).mono ?_
            rintro e zi2 ⟨rfl, ai2⟩
            replace BB := BB.trans (ai2.mono BB.size)
            have HA := HA.below ai2
            have HX := HX.below ai2
            clear ai2
            clear I1 I2
            have HXk : Hid (∀ V, Below zi2.heap.size zi2 V → Il V AX XS) := Lib.hid fun V hB => HX.below hB
            have HAk : Hid (∀ V, Below zi2.heap.size zi2 V → Rl V Ar rs) := Lib.hid fun V hB => HA.below hB
            cases hB : B with
            | true =>
              subst hB
              clear HA HX b5
              go_wp2_with fail
              go_quiet ((go_at_call 17; exact qcall (Th.out _ (HXk.out _ (below_drewN (Below.refl _ _) _)))))
              have BB := below_drewN BB nq
              have HA9 := HAk.out _ (below_drewN (Below.refl _ _) nq)
              have HX9 := HXk.out _ (below_drewN (Below.refl _ _) nq)
              go_wp2
              go_roundw
              case rel => exact ⟨k + 1, by omega, by omega, by go_num, BB, HA9, HX9⟩
              case measure => simp [intOf]; omega
            | false =>
              obtain ⟨F, f1, f2, f3, f4⟩ := b5 hB
              subst hB
              have f5 := HF.out F f1
              obtain ⟨bA, oA, rfl, hbA, hrA⟩ := HA (by omega)
              obtain ⟨q0, q1⟩ := hrA F f1
              obtain ⟨E, hE⟩ : ∃ x, evL rs F = x := ⟨_, rfl⟩
              obtain ⟨R, hR⟩ : ∃ x, reL rs F = x := ⟨_, rfl⟩
              rw [hE] at q0 f3 f4
              rw [hR] at q1 f3
              obtain ⟨FV, hFV⟩ : ∃ x, firstV rs (k : Int) = x := ⟨_, rfl⟩
              rw [hFV] at f2 ⊢
              subst f2
              have hE0 : ¬ E = 0 := by omega
              have hE0b : (E == 0) = false := by rw [beq_eq_false_iff_ne]; exact hE0
              have g1 : ¬ (F : Int) < 0 := by omega
              have g2 : decide ((F : Int) < 0) = false := decide_eq_false (by omega)
              have g3 : decide ((mr : Int) ≤ (F : Int)) = false := decide_eq_false (by omega)
              have g4 : decide (mr ≤ F) = false := decide_eq_false (by omega)
              have g5 : ¬ (mr : Int) ≤ (F : Int) := by omega
              have g6 : (F : Int) < (mr : Int) := by omega
              have g7 : (0 : Int) ≤ (F : Int) := by omega
              clear hrA hE hR hFV f1 f4 HX
              go_wp2_with fail
              go_quiet ((go_at_call 17; exact qcall (Th.out _ (HXk.out _ (below_drewN (Below.refl _ _) _)))))
              have BB := below_drewN BB nq
              have HA9 := HAk.out _ (below_drewN (Below.refl _ _) nq)
              have HX9 := HXk.out _ (below_drewN (Below.refl _ _) nq)
              go_wp2
              go_roundw
              case rel => exact ⟨k + 1, by omega, by omega, by go_num, BB, HA9, HX9⟩
              case measure => simp [intOf]; omega
          · have hki : decide ((k : Int) ≤ (M : Int)) = false := decide_eq_false (by omega)
            have hki2 : ¬ (k : Int) ≤ (M : Int) := by omega
            have hki3 : decide (k ≤ M) = false := decide_eq_false (by omega)
            clear Hnum HF hlt hk1 hk9
            go_wp2
            clear hki hki2 hki3
            as_aux_lemma =>
              go_loopw [207] (fun i wr => ∃ k : Nat, k ≤ L ∧ i = .int .i64 (k : Int) ∧ Below w.heap.size w wr ∧ Rl wr Ar rs ∧ Il wr AX XS) (fun i _ => L - (intOf i).toNat)
              case atStart => exact ⟨0, Nat.zero_le _, rfl, BB, HA, HX⟩
              case round =>
                clear BB HA HX
                obtain ⟨k, hk9, rfl, BB, HA, HX⟩ := hrel
                by_cases hlt : k < L
                · have hki : decide ((k : Int) < (L : Int)) = true := decide_eq_true (by omega)
                  have hki2 : (k : Int) < (L : Int) := by omega
                  have hki3 : decide (k < L) = true := decide_eq_true (by omega)
                  have hk00 : (0 : Int) ≤ (k : Int) := by omega
                  have hwk : IntKind.i64.wrap ((k : Int) + 1) = (k : Int) + 1 := IntWalk.i64_in _ (by omega)
                  obtain ⟨y1, y2⟩ := Hrank.out k hlt
                  have R1 := Lib.hid (fun W (hW : Rl W Ar rs) => impl_LeftOfRank_c W Ar mr cr rs hW Hmr.out hnr (k : Int))
                  rw [y1, y2] at R1
                  have HXk : Hid (∀ V, Below wr.heap.size wr V → Il V AX XS) := Lib.hid fun V hB => HX.below hB
                  obtain ⟨bX, oX, rfl, hbX, hrX⟩ := HX (by rw [HL.out]; omega)
                  have hc0 := hrX k (by rw [HL.out]; exact hlt)
                  obtain ⟨V, hV⟩ : ∃ x, ivL XS k = x := ⟨_, rfl⟩
                  rw [hV] at R1 hc0
                  clear y1 y2
                  by_cases h2 : k + 1 < L
                  · obtain ⟨x1, x2⟩ := Hnext.out k h2
                    rw [hV] at x1 x2
                    have hc1 := hrX (k + 1) (by rw [HL.out]; exact h2)
                    obtain ⟨U, hU⟩ : ∃ x, ivL XS (k + 1) = x := ⟨_, rfl⟩
                    rw [hU] at x2 hc1
                    have N1 := Lib.hid (fun W (hW : Rl W Ar rs) => impl_NextLeft_c W Ar mr cr rs hW Hmr.out hnr V)
                    rw [x1, x2] at N1
                    have hc1 : wr.cell? ⟨bX, oX + (k + 1), none⟩ = some (.int .i64 U) := hc1
                    have g1 : decide ((k : Int) + 1 < (L : Int)) = true := decide_eq_true (by omega)
                    have g2 : (k : Int) + 1 < (L : Int) := by omega
                    have g3 : decide (k + 1 < L) = true := decide_eq_true (by omega)
                    have g4 : (0 : Int) ≤ (k : Int) + 1 := by omega
                    have g5 : ((k : Int) + 1).toNat = k + 1 := by omega
                    clear hV hU x1 x2 hrX HX
                    go_wp2_with fail
                    refine (R1.out _ HA).mono ?_
                    rintro e zr1 ⟨rfl, ar1⟩
                    replace BB := BB.trans (ar1.mono BB.size)
                    have HA := HA.below ar1
                    have HX9 := HXk.out _ ar1
                    have hc1 := (ar1.cell (p := ⟨bX, oX + (k + 1), none⟩) hbX).trans hc1
                    have hs1 := ar1.size
                    clear ar1
                    go_wp2_with fail
                    refine (N1.out _ HA).mono ?_
                    rintro e zn1 ⟨rfl, an1⟩
                    replace BB := BB.trans (an1.mono BB.size)
                    have HA := HA.below an1
                    have HX9 := HX9.below an1
                    have hc1 := (an1.cell (p := ⟨bX, oX + (k + 1), none⟩) (by show bX < _; omega)).trans hc1
                    clear an1 N1 R1
                    go_wp2
                    go_roundw
                    case rel => exact ⟨k + 1, hlt, by go_num, BB, HA, HX9⟩
                    case measure => simp [intOf]; omega
                  · have g1 : decide ((k : Int) + 1 < (L : Int)) = false := decide_eq_false (by omega)
                    have g2 : ¬ (k : Int) + 1 < (L : Int) := by omega
                    have g3 : decide (k + 1 < L) = false := decide_eq_false (by omega)
                    clear hV hrX HX
                    go_wp2_with fail
                    refine (R1.out _ HA).mono ?_
                    rintro e zr1 ⟨rfl, ar1⟩
                    replace BB := BB.trans (ar1.mono BB.size)
                    have HA := HA.below ar1
                    have HX9 := HXk.out _ ar1
                    clear ar1 R1
                    go_wp2
                    go_roundw
                    case rel => exact ⟨k + 1, hlt, by go_num, BB, HA, HX9⟩
                    case measure => simp [intOf]; omega
                · have hki : decide ((k : Int) < (L : Int)) = false := decide_eq_false (by omega)
                  have hki2 : ¬ (k : Int) < (L : Int) := by omega
                  have hki3 : decide (k < L) = false := decide_eq_false (by omega)
                  clear Hrank Hnext HX hlt hk9
                  go_wp2
                  clear hki hki2 hki3
                  as_aux_lemma =>
                    go_loopw [26, 250] (fun x i wr => ∃ k T : Nat, k ≤ mr ∧ Hid (T = totC rs M k) ∧ x = .int .i64 (T : Int) ∧ i = .int .i64 (k : Int) ∧ Below w.heap.size w wr ∧ Rl wr Ar rs) (fun _ i _ => mr - (intOf i).toNat)
                    case atStart => exact ⟨0, 0, Nat.zero_le _, Lib.hid rfl, rfl, rfl, BB, HA⟩
                    case round =>
                      clear BB HA
                      obtain ⟨k, T, hk9, HT, rfl, rfl, BB, HA⟩ := hrel
                      by_cases hlt : k < mr
                      · have hki : decide ((k : Int) < (mr : Int)) = true := decide_eq_true (by omega)
                        have hki2 : (k : Int) < (mr : Int) := by omega
                        have hki3 : decide (k < mr) = true := decide_eq_true (by omega)
                        have hk00 : (0 : Int) ≤ (k : Int) := by omega
                        have hwk : IntKind.i64.wrap ((k : Int) + 1) = (k : Int) + 1 := IntWalk.i64_in _ (by omega)
                        obtain ⟨YS, y1, y2, y3, y4, y5⟩ := Hcro.out k hlt
                        have B1 := Lib.hid (fun W (hW : Rl W Ar rs) => impl_CrossedBy_c W Ar mr cr rs hW Hmr.out hnr (k : Int) (M : Int))
                        rw [y1, y2] at B1
                        obtain ⟨LY, hLY⟩ : ∃ l, YS.length = l := ⟨_, rfl⟩
                        rw [hLY] at y3 y4
                        have HLY := Lib.hid hLY
                        have Hy5 := Lib.hid y5
                        have HT1 : Hid (T + LY = totC rs M (k + 1)) := Lib.hid (by rw [y4, HT.out])
                        have hb9 : T + LY ≤ M := by rw [HT1.out]; exact Htl.out (k + 1)
                        have hwT : IntKind.i64.wrap ((T : Int) + (LY : Int)) = ((T + LY : Nat) : Int) := (IntWalk.i64_in _ (by omega)).trans (by omega)
                        clear y1 y2 y4 y5 hLY HT
                        go_wp2_with fail
                        refine (B1.out _ HA).mono ?_
                        rintro e zB ⟨⟨vB, rfl, oB⟩, aB⟩
                        replace BB := BB.trans (aB.mono BB.size)
                        have HA := HA.below aB
                        obtain ⟨AB1, cB1, rfl⟩ := oB.shape
                        have HB := Il_of_own oB
                        rw [HLY.out]
                        clear oB aB
                        clear B1
                        go_wp2_with fail
                        refine (tRises_c _ AB1 LY cB1 YS 1 (M : Int) HB HLY.out.symm y3 Hy5.out).mono ?_
                        rintro e zt5 ⟨rfl, at5⟩
                        replace BB := BB.trans (at5.mono BB.size)
                        have HA := HA.below at5
                        clear at5
                        clear Hy5 HB
                        go_wp2
                        go_roundw
                        case rel => exact ⟨k + 1, T + LY, hlt, HT1, rfl, by go_num, BB, HA⟩
                        case measure => simp [intOf]; omega
                      · have hki : decide ((k : Int) < (mr : Int)) = false := decide_eq_false (by omega)
                        have hki2 : ¬ (k : Int) < (mr : Int) := by omega
                        have hki3 : decide (k < mr) = false := decide_eq_false (by omega)
                        have hTM : T + L = M := by rw [HT.out, show k = mr by omega]; exact Htot.out
                        have hwT : IntKind.i64.wrap ((T : Int) + (L : Int)) = (M : Int) := (IntWalk.i64_in _ (by omega)).trans (by omega)
                        clear HA Hcro HT Htot Htl hTM hlt hk9
                        go_wp2
                        all_goals exact ⟨BB, rfl, rfl, rfl⟩
  case tail =>
    as_aux_lemma =>
    clear hKK BB HX HY HA HL hl GXS GCV GOK GGD C5 C6
    rintro a' w' ⟨BB, hd, hs, k1⟩
    obtain ⟨u, hu⟩ : ∃ u : Nat → Value, ∀ i, a'.tmps.getD i undef = u i := ⟨_, fun _ => rfl⟩
    have ha := act_by a' 456 hd hs (fun i => if i = 1 then .slice AB nB cB else u i) (fun i hi => by
      by_cases e1 : i = 1
      · subst e1; exact k1
      rw [if_neg e1]
      exact hu i)
    replace ha : a' = ⟨#[u 0, .slice AB nB cB, u 2, u 3, u 4, u 5, u 6, u 7, u 8, u 9, u 10, u 11, u 12, u 13, u 14, u 15, u 16, u 17, u 18, u 19, u 20, u 21, u 22, u 23, u 24, u 25, u 26, u 27, u 28, u 29, u 30, u 31, u 32, u 33, u 34, u 35, u 36, u 37, u 38, u 39, u 40, u 41, u 42, u 43, u 44, u 45, u 46, u 47, u 48, u 49, u 50, u 51, u 52, u 53, u 54, u 55, u 56, u 57, u 58, u 59, u 60, u 61, u 62, u 63, u 64, u 65, u 66, u 67, u 68, u 69, u 70, u 71, u 72, u 73, u 74, u 75, u 76, u 77, u 78, u 79, u 80, u 81, u 82, u 83, u 84, u 85, u 86, u 87, u 88, u 89, u 90, u 91, u 92, u 93, u 94, u 95, u 96, u 97, u 98, u 99, u 100, u 101, u 102, u 103, u 104, u 105, u 106, u 107, u 108, u 109, u 110, u 111, u 112, u 113, u 114, u 115, u 116, u 117, u 118, u 119, u 120, u 121, u 122, u 123, u 124, u 125, u 126, u 127, u 128, u 129, u 130, u 131, u 132, u 133, u 134, u 135, u 136, u 137, u 138, u 139, u 140, u 141, u 142, u 143, u 144, u 145, u 146, u 147, u 148, u 149, u 150, u 151, u 152, u 153, u 154, u 155, u 156, u 157, u 158, u 159, u 160, u 161, u 162, u 163, u 164, u 165, u 166, u 167, u 168, u 169, u 170, u 171, u 172, u 173, u 174, u 175, u 176, u 177, u 178, u 179, u 180, u 181, u 182, u 183, u 184, u 185, u 186, u 187, u 188, u 189, u 190, u 191, u 192, u 193, u 194, u 195, u 196, u 197, u 198, u 199, u 200, u 201, u 202, u 203, u 204, u 205, u 206, u 207, u 208, u 209, u 210, u 211, u 212, u 213, u 214, u 215, u 216, u 217, u 218, u 219, u 220, u 221, u 222, u 223, u 224, u 225, u 226, u 227, u 228, u 229, u 230, u 231, u 232, u 233, u 234, u 235, u 236, u 237, u 238, u 239, u 240, u 241, u 242, u 243, u 244, u 245, u 246, u 247, u 248, u 249, u 250, u 251, u 252, u 253, u 254, u 255, u 256, u 257, u 258, u 259, u 260, u 261, u 262, u 263, u 264, u 265, u 266, u 267, u 268, u 269, u 270, u 271, u 272, u 273, u 274, u 275, u 276, u 277, u 278, u 279, u 280, u 281, u 282, u 283, u 284, u 285, u 286, u 287, u 288, u 289, u 290, u 291, u 292, u 293, u 294, u 295, u 296, u 297, u 298, u 299, u 300, u 301, u 302, u 303, u 304, u 305, u 306, u 307, u 308, u 309, u 310, u 311, u 312, u 313, u 314, u 315, u 316, u 317, u 318, u 319, u 320, u 321, u 322, u 323, u 324, u 325, u 326, u 327, u 328, u 329, u 330, u 331, u 332, u 333, u 334, u 335, u 336, u 337, u 338, u 339, u 340, u 341, u 342, u 343, u 344, u 345, u 346, u 347, u 348, u 349, u 350, u 351, u 352, u 353, u 354, u 355, u 356, u 357, u 358, u 359, u 360, u 361, u 362, u 363, u 364, u 365, u 366, u 367, u 368, u 369, u 370, u 371, u 372, u 373, u 374, u 375, u 376, u 377, u 378, u 379, u 380, u 381, u 382, u 383, u 384, u 385, u 386, u 387, u 388, u 389, u 390, u 391, u 392, u 393, u 394, u 395, u 396, u 397, u 398, u 399, u 400, u 401, u 402, u 403, u 404, u 405, u 406, u 407, u 408, u 409, u 410, u 411, u 412, u 413, u 414, u 415, u 416, u 417, u 418, u 419, u 420, u 421, u 422, u 423, u 424, u 425, u 426, u 427, u 428, u 429, u 430, u 431, u 432, u 433, u 434, u 435, u 436, u 437, u 438, u 439, u 440, u 441, u 442, u 443, u 444, u 445, u 446, u 447, u 448, u 449, u 450, u 451, u 452, u 453, u 454, u 455], []⟩ := ha.trans (by kernel_rfl)
    subst ha
    clear hu hd hs k1
    repeat (rename_i x; clear x)
    go_wp2_with fail
    refine (DrawCountBetween_c _ AB nB cB ((YB.out.below BB).mono BB.size) (by omega)).mono ?_
    rintro e wqb ⟨⟨vqb, r1, lo, hi, rfl, oqb, hq20b⟩, dqb⟩
    replace BB := BB.trans (dqb.mono BB.size)
    obtain ⟨Ab, cb, rfl⟩ := OwnR.shape oqb
    have H1 := Rl_of_own oqb rfl
    obtain ⟨mb, hmb⟩ : ∃ l, r1.length = l := ⟨_, rfl⟩
    rw [hmb] at hq20b ⊢
    have Hmb : Hid (mb = r1.length) := Lib.hid hmb.symm
    have hnb : mb ≤ 1048576 := by omega
    clear oqb hmb dqb
    have D1 := Lib.hid (fun W (hW : Rl W Ab r1) => impl_CountBetween_c W Ab mb cb r1 hW Hmb.out hnb lo hi)
    have D2 := Lib.hid (fun W (hW : Rl W Ab r1) => spec_CountBetween_c W Ab mb cb r1 hW Hmb.out hnb lo hi)
    obtain ⟨BV, hBV⟩ : ∃ x, btwV r1 lo hi = x := ⟨_, rfl⟩
    rw [hBV] at D1 D2
    have GBV := Lib.hid hBV
    clear hBV
    obtain ⟨BO, hBO⟩ : ∃ x, okB r1 lo hi = x := ⟨_, rfl⟩
    rw [hBO] at D1 D2
    have GBO := Lib.hid hBO
    clear hBO
    go_wp2_with fail
    refine (D1.out _ H1).mono ?_
    rintro e zd1 ⟨rfl, ad1⟩
    replace BB := BB.trans (ad1.mono BB.size)
    have H1 := H1.below ad1
    clear ad1
    go_wp2_with fail
    refine (D2.out _ H1).mono ?_
    rintro e zd2 ⟨rfl, ad2⟩
    replace BB := BB.trans (ad2.mono BB.size)
    have H1 := H1.below ad2
    clear ad2
    clear D1 D2
    go_wp2_with fail
    refine (DrawLeftOfRank_c _ AB nB cB ((YB.out.below BB).mono BB.size) (by omega)).mono ?_
    rintro e wqs ⟨⟨vqs, r2, rk, rfl, oqs, hq20s⟩, dqs⟩
    replace BB := BB.trans (dqs.mono BB.size)
    have H1 := H1.below dqs
    obtain ⟨As, cs, rfl⟩ := OwnR.shape oqs
    have H2 := Rl_of_own oqs rfl
    obtain ⟨ms, hms⟩ : ∃ l, r2.length = l := ⟨_, rfl⟩
    rw [hms] at hq20s ⊢
    have Hms : Hid (ms = r2.length) := Lib.hid hms.symm
    have hns : ms ≤ 1048576 := by omega
    clear oqs hms dqs
    have D3 := Lib.hid (fun W (hW : Rl W As r2) => impl_LeftOfRank_c W As ms cs r2 hW Hms.out hns rk)
    have D4 := Lib.hid (fun W (hW : Rl W As r2) => spec_LeftOfRank_c W As ms cs r2 hW Hms.out hns rk)
    obtain ⟨NV, hNV⟩ : ∃ x, rankV r2 rk = x := ⟨_, rfl⟩
    rw [hNV] at D3 D4
    have GNV := Lib.hid hNV
    clear hNV
    obtain ⟨NO, hNO⟩ : ∃ x, rankOk r2 rk = x := ⟨_, rfl⟩
    rw [hNO] at D3 D4
    have GNO := Lib.hid hNO
    clear hNO
    go_wp2_with fail
    refine (D3.out _ H2).mono ?_
    rintro e zd3 ⟨rfl, ad3⟩
    replace BB := BB.trans (ad3.mono BB.size)
    have H1 := H1.below ad3
    have H2 := H2.below ad3
    clear ad3
    go_wp2_with fail
    refine (D4.out _ H2).mono ?_
    rintro e zd4 ⟨rfl, ad4⟩
    replace BB := BB.trans (ad4.mono BB.size)
    have H1 := H1.below ad4
    clear ad4
    clear D3 D4 H2 GNV GNO
    go_wp2_with fail
    refine (DrawNextLeft_c _ AB nB cB ((YB.out.below BB).mono BB.size) (by omega)).mono ?_
    rintro e wqt ⟨⟨vqt, r3, nn, rfl, oqt, hq20t⟩, dqt⟩
    replace BB := BB.trans (dqt.mono BB.size)
    have H1 := H1.below dqt
    obtain ⟨At, ct, rfl⟩ := OwnR.shape oqt
    have H3 := Rl_of_own oqt rfl
    obtain ⟨mt, hmt⟩ : ∃ l, r3.length = l := ⟨_, rfl⟩
    rw [hmt] at hq20t ⊢
    have Hmt : Hid (mt = r3.length) := Lib.hid hmt.symm
    have hnt : mt ≤ 1048576 := by omega
    clear oqt hmt dqt
    have D5 := Lib.hid (fun W (hW : Rl W At r3) => impl_NextLeft_c W At mt ct r3 hW Hmt.out hnt nn)
    have D6 := Lib.hid (fun W (hW : Rl W At r3) => spec_NextLeft_c W At mt ct r3 hW Hmt.out hnt nn)
    have D7 := Lib.hid (fun W (hW : Rl W At r3) => impl_FirstRule_c W At mt ct r3 hW Hmt.out hnt nn)
    have D8 := Lib.hid (fun W (hW : Rl W At r3) => spec_FirstRule_c W At mt ct r3 hW Hmt.out hnt nn)
    obtain ⟨EV, hEV⟩ : ∃ x, nextV r3 nn = x := ⟨_, rfl⟩
    rw [hEV] at D5 D6
    have GEV := Lib.hid hEV
    clear hEV
    obtain ⟨EO, hEO⟩ : ∃ x, nextOk r3 nn = x := ⟨_, rfl⟩
    rw [hEO] at D5 D6
    have GEO := Lib.hid hEO
    clear hEO
    obtain ⟨FV, hFV⟩ : ∃ x, firstV r3 nn = x := ⟨_, rfl⟩
    rw [hFV] at D7 D8
    have GFV := Lib.hid hFV
    clear hFV
    obtain ⟨FO, hFO⟩ : ∃ x, firstOk r3 nn = x := ⟨_, rfl⟩
    rw [hFO] at D7 D8
    have GFO := Lib.hid hFO
    clear hFO
    go_wp2_with fail
    refine (D5.out _ H3).mono ?_
    rintro e zd5 ⟨rfl, ad5⟩
    replace BB := BB.trans (ad5.mono BB.size)
    have H1 := H1.below ad5
    have H3 := H3.below ad5
    clear ad5
    go_wp2_with fail
    refine (D6.out _ H3).mono ?_
    rintro e zd6 ⟨rfl, ad6⟩
    replace BB := BB.trans (ad6.mono BB.size)
    have H1 := H1.below ad6
    have H3 := H3.below ad6
    clear ad6
    go_wp2_with fail
    refine (D7.out _ H3).mono ?_
    rintro e zd7 ⟨rfl, ad7⟩
    replace BB := BB.trans (ad7.mono BB.size)
    have H1 := H1.below ad7
    have H3 := H3.below ad7
    clear ad7
    go_wp2_with fail
    refine (D8.out _ H3).mono ?_
    rintro e zd8 ⟨rfl, ad8⟩
    replace BB := BB.trans (ad8.mono BB.size)
    have H1 := H1.below ad8
    clear ad8
    clear D5 D6 D7 D8 H3 GEV GEO GFV GFO
    go_wp2_with fail
    refine (DrawCrossedBy_c _ AB nB cB ((YB.out.below BB).mono BB.size) (by omega)).mono ?_
    rintro e wqu ⟨⟨vqu, r4, ck, cto, rfl, oqu, hq20u⟩, dqu⟩
    replace BB := BB.trans (dqu.mono BB.size)
    have H1 := H1.below dqu
    obtain ⟨Au, cu, rfl⟩ := OwnR.shape oqu
    have H4 := Rl_of_own oqu rfl
    obtain ⟨mu, hmu⟩ : ∃ l, r4.length = l := ⟨_, rfl⟩
    rw [hmu] at hq20u ⊢
    have Hmu : Hid (mu = r4.length) := Lib.hid hmu.symm
    have hnu : mu ≤ 1048576 := by omega
    clear oqu hmu dqu
    have D9 := Lib.hid (fun W (hW : Rl W Au r4) => impl_CrossedBy_c W Au mu cu r4 hW Hmu.out hnu ck cto)
    have DA := Lib.hid (fun W (hW : Rl W Au r4) => spec_CrossedBy_c W Au mu cu r4 hW Hmu.out hnu ck cto)
    have hl := crossV_len r4 ck cto
    obtain ⟨ZS, hZS⟩ : ∃ x, crossV r4 ck cto = x := ⟨_, rfl⟩
    rw [hZS] at D9 DA hl
    have GZS := Lib.hid hZS
    clear hZS
    obtain ⟨ZO, hZO⟩ : ∃ x, okC r4 ck cto = x := ⟨_, rfl⟩
    rw [hZO] at D9 DA
    have GZO := Lib.hid hZO
    clear hZO
    obtain ⟨L, hL⟩ : ∃ l, ZS.length = l := ⟨_, rfl⟩
    rw [hL] at hl
    have HL := Lib.hid hL
    clear hL
    go_wp2_with fail
    refine (D9.out _ H4).mono ?_
    rintro e zU ⟨⟨vU, rfl, oU⟩, aU⟩
    replace BB := BB.trans (aU.mono BB.size)
    have H1 := H1.below aU
    have H4 := H4.below aU
    obtain ⟨AU, cU, rfl⟩ := oU.shape
    have HU := Il_of_own oU
    rw [HL.out]
    clear oU aU
    go_wp2_with fail
    refine (DA.out _ H4).mono ?_
    rintro e zV ⟨⟨vV, rfl, oV⟩, aV⟩
    replace BB := BB.trans (aV.mono BB.size)
    have H1 := H1.below aV
    have HU := HU.below aV
    obtain ⟨AV, cV, rfl⟩ := oV.shape
    have HV := Il_of_own oV
    rw [HL.out]
    clear oV aV
    clear D9 DA H4 GZS GZO
    go_wp2_with fail
    refine (tSame_c AU AV L L cU cV ZS _ HU HV HL.out.symm HL.out.symm hl).mono ?_
    rintro e zts ⟨rfl, ats⟩
    replace BB := BB.trans (ats.mono BB.size)
    have H1 := H1.below ats
    clear ats
    clear HU HV HL hl
    go_wp2_with fail
    refine (HD.out _ AB cB ((YF.out.below BB).mono BB.size)).mono ?_
    rintro e zq1 ⟨rfl, aq1⟩
    replace BB := BB.trans (aq1.mono BB.size)
    have H1 := H1.below aq1
    clear aq1
    go_wp2_with fail
    refine (implIsRule_c de dr _).mono ?_
    rintro e zq2 ⟨rfl, aq2⟩
    replace BB := BB.trans (aq2.mono BB.size)
    have H1 := H1.below aq2
    clear aq2
    go_wp2_with fail
    refine (HD.out _ AB cB ((YF.out.below BB).mono BB.size)).mono ?_
    rintro e zq3 ⟨rfl, aq3⟩
    replace BB := BB.trans (aq3.mono BB.size)
    have H1 := H1.below aq3
    clear aq3
    go_wp2_with fail
    refine (specIsRule_c de dr _).mono ?_
    rintro e zq4 ⟨rfl, aq4⟩
    replace BB := BB.trans (aq4.mono BB.size)
    have H1 := H1.below aq4
    clear aq4
    cases hbo : BO with
    | false =>
      subst hbo
      clear H1 GBV GBO
      go_wp2
      go_ret
      exact ⟨rfl, BB⟩
    | true =>
      have hob := GBO.out.trans hbo
      subst hbo
      by_cases h1 : 1 ≤ lo
      rotate_left
      · have g1 : decide (1 ≤ lo) = false := decide_eq_false h1
        clear H1 GBV GBO hob
        go_wp2
        go_ret
        exact ⟨rfl, BB⟩
      have g1 : decide (1 ≤ lo) = true := decide_eq_true h1
      by_cases h2 : lo ≤ hi
      rotate_left
      · have g2 : decide (lo ≤ hi) = false := decide_eq_false h2
        clear H1 GBV GBO hob
        go_wp2
        go_ret
        exact ⟨rfl, BB⟩
      have g2 : decide (lo ≤ hi) = true := decide_eq_true h2
      have hb3 : mostB lo = true := by rw [okB, Bool.and_eq_true, Bool.and_eq_true] at hob; exact hob.1.2
      have hlo := mostB_true.1 hb3
      obtain ⟨s1, s2, s3⟩ := sl_between hob h1 h2 (mostB_true.2 (by omega))
      have E1 := Lib.hid (fun W (hW : Rl W Ab r1) => impl_CountLeft_c W Ab mb cb r1 hW Hmb.out hnb hi)
      have E2 := Lib.hid (fun W (hW : Rl W Ab r1) => impl_CountLeft_c W Ab mb cb r1 hW Hmb.out hnb (lo - 1))
      rw [s1] at E1
      rw [s2] at E2
      have hc1 := cntV_in r1 hi
      have hc2 := cntV_in r1 (lo - 1)
      obtain ⟨VA, hVA⟩ : ∃ x, cntV r1 hi = x := ⟨_, rfl⟩
      obtain ⟨VB, hVB⟩ : ∃ x, cntV r1 (lo - 1) = x := ⟨_, rfl⟩
      rw [hVA] at E1 s3 hc1
      rw [hVB] at E2 s3 hc2
      obtain rfl : BV = VA - VB := by rw [← GBV.out]; exact s3
      have hwl : IntKind.i64.wrap (lo - 1) = lo - 1 := IntWalk.i64_in _ (by omega)
      have hwv : IntKind.i64.wrap (VA - VB) = VA - VB := IntWalk.i64_in _ (by omega)
      clear GBV GBO hob hb3 hlo s1 s2 s3 hVA hVB hc1 hc2
      go_wp2_with fail
      refine (E1.out _ H1).mono ?_
      rintro e ze1 ⟨rfl, ae1⟩
      replace BB := BB.trans (ae1.mono BB.size)
      have H1 := H1.below ae1
      clear ae1
      go_wp2_with fail
      refine (E2.out _ H1).mono ?_
      rintro e ze2 ⟨rfl, ae2⟩
      replace BB := BB.trans (ae2.mono BB.size)
      clear ae2
      clear E1 E2 H1
      go_wp2
      go_ret
      exact ⟨rfl, BB⟩

set_option maxRecDepth 100000 in
theorem lifted_FnSievesLeave (os : Os) (started : os.Started) (H : Type) (enc : TypeId × Value → H) :
    ReturnsInHanded {} Try.checked os 3 .any (Rows.fnSievesLeaveSpec.pre6 enc Try.prog Try.f3 Rows.fnSievesLeaveRow.domain false) (Rows.fnSievesLeaveSpec.post enc Try.prog Try.f3 false true false false) := by
  refine returnsInHanded_of_change (C := Try.checked) own started (by kernel_rfl) Try.func3
    (ChangeSpec.witness6 (enc := enc) (C := Try.checked) false ⟨#[], #[.slice none 0 0, .slice none 0 0], []⟩ 8 (by kernel_rfl) (by kernel_rfl) (by kernel_rfl) (by kernel_rfl)) ?_
  intro W base args ds gs before hval0 hW hcnd _
  have hval : ∀ (j : Nat) t v, Try.f3.params[j]? = some t → args[j]? = some v → Value.okWide Try.prog W .any base t v := hval0
  have hW' := hW
  obtain ⟨p, q, hA0, hV, rfl, hfz, hnd⟩ := hW
  have hA : DataW.TrodAll enc Try.prog W 0 (fun _ => true) true Try.f3.params.toList args.toList ds p := hA0
  rw [Try.params3] at hA hval
  obtain ⟨v0, vs0, d0, ds0, p0, q0, hargs, rfl, rfl, h0, r0⟩ := trodAll_cons hA
  obtain ⟨v1, vs1, d1, ds1, p1, q1, rfl, rfl, rfl, h1, r1⟩ := trodAll_cons r0
  obtain ⟨rfl, rfl, rfl⟩ := trodAll_nil r1
  obtain rfl : args = #[v0, v1] := by cases args; simp_all
  obtain ⟨rfl, rfl⟩ := trodVars_none hV
  have k0 := h0
  have lt0 : ∀ x ∈ p0, x.block < W.heap.size := by obtain ⟨m, hm⟩ := k0; exact DataW.trod_lt m _ _ _ hm
  obtain ⟨A0, n0, c0, rfl, m0, Y0⟩ := open_byt (hval 0 22 v0 rfl rfl) h0
  have k1 := h1
  have lt1 : ∀ x ∈ p1, x.block < W.heap.size := by obtain ⟨m, hm⟩ := k1; exact DataW.trod_lt m _ _ _ hm
  obtain ⟨A1, n1, c1, rfl, m1, Y1⟩ := open_byt (hval 1 22 v1 rfl rfl) h1
  clear hA0 hval0
  refine (walk_FnSievesLeave W A0 n0 c0 m0 Y0 A1 n1 c1 m1 Y1).mono fun e W' ⟨he, bel⟩ => ?_
  subst he
  exact ⟨_, rfl, _, _, _, [], _, [], hW', trodAll_mk1 (shut_bool Try.underlying4 _), (trodAll_cons_mk (Below.trod laidOut (by kernel_rfl) (of_decide_eq_true (by kernel_rfl)) k0 bel lt0) (trodAll_cons_mk (Below.trod laidOut (by kernel_rfl) (of_decide_eq_true (by kernel_rfl)) k1 bel lt1) trodAll_mk0)), rfl, bel.frame _, fun h => by cases h⟩

theorem closed_FnSievesLeave : joinedFacts Try.prog 3 Try.f3 Rows.fnSievesLeaveSpec Rows.fnSievesLeaveRow = true := by
  unfold joinedFacts
  rw [head_enters, head_final, head_make]
  kernel_rfl
theorem over_FnSievesLeave : Rows.fnSievesLeaveRow.holds Try.pinned (OpenSpec.ofChange Rows.fnSievesLeaveSpec) :=
  OpenClaim.holds_of_wide 3 Try.f3 rfl rfl rfl rfl rfl rfl rfl ⟨rfl, rfl, rfl, rfl, rfl⟩ rfl rfl rfl rfl rfl (by kernel_rfl) Try.func3 closed_FnSievesLeave
    (of_decide_eq_true (by kernel_rfl)) (by unfold Func.isWrapper; first | (rw [if_pos (by decide +kernel)]; kernel_rfl) | (rw [if_neg (by decide +kernel)]; exact ⟨rfl, rfl⟩))
    (fun os started H enc _ => lifted_FnSievesLeave os started H enc)

theorem fnSievesLeave_holds : Rows.FnSievesLeaveSaid := over_FnSievesLeave

end Go.Proofs.Ytjoklbkbggdlgaa
