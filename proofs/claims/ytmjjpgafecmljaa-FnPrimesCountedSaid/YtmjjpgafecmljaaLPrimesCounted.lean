/- For every two slices of bytes that come in, laws.FnPrimesCounted returns true. Conditions: none. -/
import Derived.Test.YtmjjpgafecmljaaO9
import Derived.Test.YtmjjpgafecmljaaO3
import Derived.Test.YtmjjpgafecmljaaOB
import Derived.Test.YtmjjpgafecmljaaOA
import Derived.Test.YtmjjpgafecmljaaO7
import Derived.Test.YtmjjpgafecmljaaGI
import Derived.Test.YtmjjpgafecmljaaG5
import Derived.Test.YtmjjpgafecmljaaL0
namespace Go.Proofs.Ytmjjpgafecmljaa
open Go.ChangeShapes Go.WideShapes Go.ChangeAt Go.RowKit Go.Deep
set_option maxRecDepth 100000
set_option linter.unusedVariables false
set_option linter.unusedSimpArgs false

set_option maxHeartbeats 40000000 in
theorem walk_FnPrimesCounted (w : World) (AA : Option Addr) (nA cA : Nat) (mA : nA ≤ 9223372036854775807) (yA : Byt w w.heap.size AA nA) (AB : Option Addr) (nB cB : Nat) (mB : nB ≤ 9223372036854775807) (yB : Byt w w.heap.size AB nB) :
    Calls Try.prog 4 #[.slice AA nA cA, .slice AB nB cB] w fun e w' => e = .returned (.bool true) ∧ Below w.heap.size w w' := by
  have YA := Lib.hid yA
  have YB := Lib.hid yB
  clear yA yB
  by_cases hn : nA + nB ≤ 1048576
  rotate_left
  · go_enter Try.func4, Try.ntmps4
    go_wp2_with fail
    refine (big_c _ AA AB nA cA nB cB mA mB).mono ?_
    rw [decide_eq_false hn]
    rintro e w0 ⟨rfl, rfl⟩
    go_wp2
    go_ret
    exact ⟨rfl, Below.refl _ _⟩
  go_enter Try.func4, Try.ntmps4
  go_wp2_with fail
  refine (big_c _ AA AB nA cA nB cB mA mB).mono ?_
  rw [decide_eq_true hn]
  rintro e w0 ⟨rfl, rfl⟩
  go_wp2_with fail
  refine (DrawCountWithout_c _ AA nA cA YA.out (by omega)).mono ?_
  rintro e wd ⟨⟨an, ak, rfl⟩, BB⟩
  have C1 := Lib.hid (fun W => impl_CountWithout_c W an ak)
  have C2 := Lib.hid (fun W => spec_CountWithout_c W an ak)
  have C3 := Lib.hid (fun W => impl_CountPrimes_c W an)
  have C4 := Lib.hid (fun W => spec_CountPrimes_c W an)
  have C5 := Lib.hid (fun W => impl_RulesOfPrimes_c W ak)
  have C6 := Lib.hid (fun W => spec_RulesOfPrimes_c W ak)
  have hCW : cwOk an ak = (cpOk an && rpOk ak) := rfl
  have hRl := rpA_len ak
  obtain ⟨CWV, hCWV⟩ : ∃ x, cwV an ak = x := ⟨_, rfl⟩
  rw [hCWV] at C1 C2
  obtain ⟨CWO, hCWO⟩ : ∃ x, cwOk an ak = x := ⟨_, rfl⟩
  rw [hCWO] at C1 C2 hCW
  obtain ⟨CPV, hCPV⟩ : ∃ x, cpV an = x := ⟨_, rfl⟩
  rw [hCPV] at C3 C4
  obtain ⟨CPO, hCPO⟩ : ∃ x, cpOk an = x := ⟨_, rfl⟩
  rw [hCPO] at C3 C4 hCW
  obtain ⟨RPO, hRPO⟩ : ∃ x, rpOk ak = x := ⟨_, rfl⟩
  rw [hRPO] at C5 C6 hCW
  obtain ⟨RS, hRS⟩ : ∃ x, rpA ak = x := ⟨_, rfl⟩
  rw [hRS] at C5 C6 hRl
  obtain ⟨LR, hLR⟩ : ∃ l, RS.length = l := ⟨_, rfl⟩
  rw [hLR] at hRl
  have hLRb : LR ≤ 1048576 := hRl
  have HLR := Lib.hid hLR
  clear hLR hRl
  have GCWV := Lib.hid hCWV
  clear hCWV
  have GCWO := Lib.hid hCWO
  clear hCWO
  have GCPV := Lib.hid hCPV
  clear hCPV
  have GCPO := Lib.hid hCPO
  clear hCPO
  have GRPO := Lib.hid hRPO
  clear hRPO
  have GRS := Lib.hid hRS
  clear hRS
  have GCW := Lib.hid hCW
  clear hCW
  go_wp2_with fail
  refine (C1.out _).mono ?_
  rintro e z1 ⟨rfl, a1⟩
  replace BB := BB.trans (a1.mono BB.size)
  go_wp2_with fail
  refine (C2.out _).mono ?_
  rintro e z2 ⟨rfl, a2⟩
  replace BB := BB.trans (a2.mono BB.size)
  go_wp2_with fail
  refine (C3.out _).mono ?_
  rintro e z3 ⟨rfl, a3⟩
  replace BB := BB.trans (a3.mono BB.size)
  go_wp2_with fail
  refine (C4.out _).mono ?_
  rintro e z4 ⟨rfl, a4⟩
  replace BB := BB.trans (a4.mono BB.size)
  go_wp2_with fail
  refine (C5.out _).mono ?_
  rintro e z5 ⟨⟨v5, rfl, o5⟩, a5⟩
  replace BB := BB.trans (a5.mono BB.size)
  obtain ⟨A5, c5, rfl⟩ := OwnR.shape o5
  have H5 := Rl_of_own o5 rfl
  rw [HLR.out]
  go_wp2_with fail
  refine (C6.out _).mono ?_
  rintro e z6 ⟨⟨v6, rfl, o6⟩, a6⟩
  replace BB := BB.trans (a6.mono BB.size)
  obtain ⟨A6, c6, rfl⟩ := OwnR.shape o6
  have H6 := Rl_of_own o6 rfl
  rw [HLR.out]
  have H5 := H5.below a6
  clear o5 o6 a1 a2 a3 a4 a5 a6
  rename (∀ (a : Act) (w : World), Code.wp _ _ _ a w → _) => hKK
  refine cut3_k hKK (fun a' w' => Below w.heap.size w w' ∧ a'.defers = [] ∧ a'.tmps.size = 349 ∧ a'.tmps.getD 1 undef = .slice AB nB cB) ?main ?tail
  case main =>
    intro hK3
    clear hKK
    clear C1 C2 C3 C4 C5 C6
    go_wp2_with fail
    intro K3 hR3 K2 hx2 K1 hx1
    cases hcp : CPO with
    | false =>
      obtain rfl : CWO = false := by rw [GCW.out, hcp]; rfl
      subst hcp
      go_wp2_with fail
      refine (gRules_c A5 A6 LR LR c5 c6 RS _ H5 H6 HLR.out.symm HLR.out.symm hLRb).mono ?_
      rintro e z7 ⟨rfl, a7⟩
      have H5 := H5.below a7
      replace BB := BB.trans (a7.mono BB.size)
      clear a7 H6
      go_wp2
      all_goals exact ⟨BB, rfl, rfl, rfl⟩
    | true =>
      have hcp1 : cpOk an = true := GCPO.out.trans hcp
      subst hcp
      have hcp := hcp1
      clear hcp1
      obtain ⟨n1, n2⟩ := inB_true.1 hcp
      obtain ⟨N, rfl⟩ := Int.eq_ofNat_of_zero_le n1
      replace hcp := Lib.hid hcp
      cases hrp : RPO with
      | false =>
        obtain rfl : CWO = false := by rw [GCW.out, hrp]; rfl
        subst hrp
        by_cases h2 : 2000 < N
        · have h2i : ¬ ((N : Int) ≤ 2000) := by omega
          have h2d : decide ((N : Int) ≤ 2000) = false := decide_eq_false h2i
          go_wp2_with fail
          refine (gRules_c A5 A6 LR LR c5 c6 RS _ H5 H6 HLR.out.symm HLR.out.symm hLRb).mono ?_
          rintro e z7 ⟨rfl, a7⟩
          have H5 := H5.below a7
          replace BB := BB.trans (a7.mono BB.size)
          clear a7 H6
          go_wp2
          all_goals exact ⟨BB, rfl, rfl, rfl⟩
        have h2i : (N : Int) ≤ 2000 := by omega
        have h2d : decide ((N : Int) ≤ 2000) = true := decide_eq_true h2i
        by_cases h6 : 600 < N
        · skip
          go_wp2_with fail
          refine (gRules_c A5 A6 LR LR c5 c6 RS _ H5 H6 HLR.out.symm HLR.out.symm hLRb).mono ?_
          rintro e z7 ⟨rfl, a7⟩
          have H5 := H5.below a7
          replace BB := BB.trans (a7.mono BB.size)
          clear a7 H6
          obtain ⟨pl1, pl2⟩ := pc_list (n := N) hcp.out (by omega)
          have hpb := pbA_len 0 (N : Int)
          have Pb := Lib.hid (fun W => impl_PrimesBetween_c W 0 (N : Int))
          have Cr := Lib.hid (fun W => impl_CrossersUpTo_c W (N : Int))
          rw [pl1] at Pb
          obtain ⟨XS, hXS⟩ : ∃ x, pbA 0 (N : Int) = x := ⟨_, rfl⟩
          rw [hXS] at Pb pl2 hpb
          obtain ⟨M1, hM1⟩ : ∃ m, XS.length = m := ⟨_, rfl⟩
          rw [hM1] at pl2 hpb
          have hcr : crOk (N : Int) = false := inB_false.2 (by omega)
          rw [hcr, crA_no hcr] at Cr
          obtain rfl : CPV = (M1 : Int) := by rw [← GCPV.out]; exact pl2.symm
          have hHM := Lib.hid hM1
          clear pl1 pl2 hXS hM1
          go_wp2_with fail
          refine (Pb.out _).mono ?_
          rintro e y1 ⟨⟨v1, rfl, q1⟩, d1⟩
          replace BB := BB.trans (d1.mono BB.size)
          obtain ⟨Ab, cb, rfl⟩ := q1.shape
          rw [hHM.out]
          clear q1 d1
          go_wp2_with fail
          refine (Cr.out _).mono ?_
          rintro e y2 ⟨⟨v2, rfl, q2⟩, d2⟩
          replace BB := BB.trans (d2.mono BB.size)
          obtain ⟨Ac, cc, rfl⟩ := q2.shape
          clear q2 d2
          go_wp2
          all_goals exact ⟨BB, rfl, rfl, rfl⟩
        by_cases h0 : N = 0
        · skip
          have H0 := Lib.hid h0
          clear h0
          go_wp2_with fail
          refine (gRules_c A5 A6 LR LR c5 c6 RS _ H5 H6 HLR.out.symm HLR.out.symm hLRb).mono ?_
          rintro e z7 ⟨rfl, a7⟩
          have H5 := H5.below a7
          replace BB := BB.trans (a7.mono BB.size)
          clear a7 H6
          obtain ⟨pl1, pl2⟩ := pc_list (n := N) hcp.out (by omega)
          have hpb := pbA_len 0 (N : Int)
          have Pb := Lib.hid (fun W => impl_PrimesBetween_c W 0 (N : Int))
          have Cr := Lib.hid (fun W => impl_CrossersUpTo_c W (N : Int))
          rw [pl1] at Pb
          obtain ⟨XS, hXS⟩ : ∃ x, pbA 0 (N : Int) = x := ⟨_, rfl⟩
          rw [hXS] at Pb pl2 hpb
          obtain ⟨M1, hM1⟩ : ∃ m, XS.length = m := ⟨_, rfl⟩
          rw [hM1] at pl2 hpb
          obtain rfl : N = 0 := H0.out
          have hcr : crOk ((0 : Nat) : Int) = true := by decide
          rw [hcr, crA_yes hcr, show flF (crB 0) 2 (0 + 1 - 2) = [] from rfl] at Cr
          obtain rfl : CPV = (M1 : Int) := by rw [← GCPV.out]; exact pl2.symm
          have hHM := Lib.hid hM1
          clear pl1 pl2 hXS hM1
          go_wp2_with fail
          refine (Pb.out _).mono ?_
          rintro e y1 ⟨⟨v1, rfl, q1⟩, d1⟩
          replace BB := BB.trans (d1.mono BB.size)
          obtain ⟨Ab, cb, rfl⟩ := q1.shape
          rw [hHM.out]
          clear q1 d1
          go_wp2_with fail
          refine (Cr.out _).mono ?_
          rintro e y2 ⟨⟨v2, rfl, q2⟩, d2⟩
          replace BB := BB.trans (d2.mono BB.size)
          obtain ⟨Ac, cc, rfl⟩ := q2.shape
          clear q2 d2
          go_wp2
          all_goals exact ⟨BB, rfl, rfl, rfl⟩
        go_wp2_with fail
        refine (gRules_c A5 A6 LR LR c5 c6 RS _ H5 H6 HLR.out.symm HLR.out.symm hLRb).mono ?_
        rintro e z7 ⟨rfl, a7⟩
        have H5 := H5.below a7
        replace BB := BB.trans (a7.mono BB.size)
        clear a7 H6
        obtain ⟨pl1, pl2⟩ := pc_list (n := N) hcp.out (by omega)
        have hpb := pbA_len 0 (N : Int)
        have Pb := Lib.hid (fun W => impl_PrimesBetween_c W 0 (N : Int))
        have Cr := Lib.hid (fun W => impl_CrossersUpTo_c W (N : Int))
        rw [pl1] at Pb
        obtain ⟨XS, hXS⟩ : ∃ x, pbA 0 (N : Int) = x := ⟨_, rfl⟩
        rw [hXS] at Pb pl2 hpb
        obtain ⟨M1, hM1⟩ : ∃ m, XS.length = m := ⟨_, rfl⟩
        rw [hM1] at pl2 hpb
        obtain ⟨L, hcr, hL, L9, hcwL, hV⟩ := pc_leg (n := N) (by omega) (by omega)
        rw [hcr] at Cr
        have Cw := Lib.hid (fun W => impl_CountWithout_c W (N : Int) (L : Int))
        rw [hcwL] at Cw
        obtain ⟨CS, hCS⟩ : ∃ x, crA (N : Int) = x := ⟨_, rfl⟩
        rw [hCS] at Cr hL
        have hV2 : cwV (N : Int) (L : Int) = (M1 : Int) + 1 - (L : Int) := by omega
        rw [hV2] at Cw
        have hL12 : (L : Int) ≤ 12 := by omega
        have hN0 : (0 : Int) < (N : Int) := by omega
        have hLd : decide ((L : Int) ≤ 12) = true := decide_eq_true hL12
        have hNd : decide ((0 : Int) < (N : Int)) = true := decide_eq_true hN0
        have hNd2 : decide (0 < N) = true := decide_eq_true (by omega)
        have hLd2 : decide (L ≤ 12) = true := decide_eq_true (by omega)
        have hHL := Lib.hid hL
        clear hcr hL hcwL hV hV2 hCS
        obtain rfl : CPV = (M1 : Int) := by rw [← GCPV.out]; exact pl2.symm
        have hHM := Lib.hid hM1
        clear pl1 pl2 hXS hM1
        go_wp2_with fail
        refine (Pb.out _).mono ?_
        rintro e y1 ⟨⟨v1, rfl, q1⟩, d1⟩
        replace BB := BB.trans (d1.mono BB.size)
        obtain ⟨Ab, cb, rfl⟩ := q1.shape
        rw [hHM.out]
        clear q1 d1
        go_wp2_with fail
        refine (Cr.out _).mono ?_
        rintro e y2 ⟨⟨v2, rfl, q2⟩, d2⟩
        replace BB := BB.trans (d2.mono BB.size)
        obtain ⟨Ac, cc, rfl⟩ := q2.shape
        rw [hHL.out]
        clear q2 d2
        go_wp2_with fail
        refine (Cw.out _).mono ?_
        rintro e y3 ⟨rfl, d3⟩
        replace BB := BB.trans (d3.mono BB.size)
        go_wp2
        all_goals exact ⟨BB, rfl, rfl, rfl⟩
      | true =>
        by_cases h6 : 600 < N
        · have h6i : ¬ ((N : Int) ≤ 600) := by omega
          have h6d : decide ((N : Int) ≤ 600) = false := decide_eq_false h6i
          obtain rfl : CWO = true := by rw [GCW.out, hrp]; rfl
          subst hrp
          by_cases h2 : 2000 < N
          · have h2i : ¬ ((N : Int) ≤ 2000) := by omega
            have h2d : decide ((N : Int) ≤ 2000) = false := decide_eq_false h2i
            go_wp2_with fail
            refine (gRules_c A5 A6 LR LR c5 c6 RS _ H5 H6 HLR.out.symm HLR.out.symm hLRb).mono ?_
            rintro e z7 ⟨rfl, a7⟩
            have H5 := H5.below a7
            replace BB := BB.trans (a7.mono BB.size)
            clear a7 H6
            go_wp2
            all_goals exact ⟨BB, rfl, rfl, rfl⟩
          have h2i : (N : Int) ≤ 2000 := by omega
          have h2d : decide ((N : Int) ≤ 2000) = true := decide_eq_true h2i
          go_wp2_with fail
          refine (gRules_c A5 A6 LR LR c5 c6 RS _ H5 H6 HLR.out.symm HLR.out.symm hLRb).mono ?_
          rintro e z7 ⟨rfl, a7⟩
          have H5 := H5.below a7
          replace BB := BB.trans (a7.mono BB.size)
          clear a7 H6
          obtain ⟨pl1, pl2⟩ := pc_list (n := N) hcp.out (by omega)
          have hpb := pbA_len 0 (N : Int)
          have Pb := Lib.hid (fun W => impl_PrimesBetween_c W 0 (N : Int))
          have Cr := Lib.hid (fun W => impl_CrossersUpTo_c W (N : Int))
          rw [pl1] at Pb
          obtain ⟨XS, hXS⟩ : ∃ x, pbA 0 (N : Int) = x := ⟨_, rfl⟩
          rw [hXS] at Pb pl2 hpb
          obtain ⟨M1, hM1⟩ : ∃ m, XS.length = m := ⟨_, rfl⟩
          rw [hM1] at pl2 hpb
          have hcr : crOk (N : Int) = false := inB_false.2 (by omega)
          rw [hcr, crA_no hcr] at Cr
          obtain rfl : CPV = (M1 : Int) := by rw [← GCPV.out]; exact pl2.symm
          have hHM := Lib.hid hM1
          clear pl1 pl2 hXS hM1
          go_wp2_with fail
          refine (Pb.out _).mono ?_
          rintro e y1 ⟨⟨v1, rfl, q1⟩, d1⟩
          replace BB := BB.trans (d1.mono BB.size)
          obtain ⟨Ab, cb, rfl⟩ := q1.shape
          rw [hHM.out]
          clear q1 d1
          go_wp2_with fail
          refine (Cr.out _).mono ?_
          rintro e y2 ⟨⟨v2, rfl, q2⟩, d2⟩
          replace BB := BB.trans (d2.mono BB.size)
          obtain ⟨Ac, cc, rfl⟩ := q2.shape
          clear q2 d2
          go_wp2
          all_goals exact ⟨BB, rfl, rfl, rfl⟩
        have h6i : (N : Int) ≤ 600 := by omega
        have h6d : decide ((N : Int) ≤ 600) = true := decide_eq_true h6i
        have hcwok : cwOk (N : Int) ak = true := by rw [GCWO.out, GCW.out, hrp]; rfl
        obtain ⟨k1, k2⟩ := inB_true.1 (GRPO.out.trans hrp)
        obtain ⟨K, rfl⟩ := Int.eq_ofNat_of_zero_le k1
        obtain ⟨hl1, hl2, hl3⟩ := pc_left hcwok (by omega)
        rw [GRS.out] at hl1 hl2 hl3
        rw [GCWV.out] at hl2
        obtain rfl : LR = K := by rw [← hl3]; exact HLR.out.symm
        obtain rfl : CWO = true := by rw [GCW.out, hrp]; rfl
        subst hrp
        have Hl1 := Lib.hid hl1
        have Hl2 := Lib.hid hl2
        clear k1 k2 hl1 hl2 hl3 hcwok
        have h2i : (N : Int) ≤ 2000 := by omega
        have h2d : decide ((N : Int) ≤ 2000) = true := decide_eq_true h2i
        by_cases h0 : N = 0
        · skip
          have H0 := Lib.hid h0
          clear h0
          go_wp2_with fail
          refine (gRules_c A5 A6 LR LR c5 c6 RS _ H5 H6 HLR.out.symm HLR.out.symm hLRb).mono ?_
          rintro e z7 ⟨rfl, a7⟩
          have H5 := H5.below a7
          replace BB := BB.trans (a7.mono BB.size)
          clear a7 H6
          have Cl := impl_CountLeft_c z7 A5 LR c5 RS H5 HLR.out.symm hLRb (N : Int)
          rw [Hl1.out, Hl2.out] at Cl
          replace Cl := Lib.hid Cl
          go_wp2_with fail
          refine Cl.out.mono ?_
          rintro e z8 ⟨rfl, a8⟩
          replace BB := BB.trans (a8.mono BB.size)
          clear a8
          obtain ⟨pl1, pl2⟩ := pc_list (n := N) hcp.out (by omega)
          have hpb := pbA_len 0 (N : Int)
          have Pb := Lib.hid (fun W => impl_PrimesBetween_c W 0 (N : Int))
          have Cr := Lib.hid (fun W => impl_CrossersUpTo_c W (N : Int))
          rw [pl1] at Pb
          obtain ⟨XS, hXS⟩ : ∃ x, pbA 0 (N : Int) = x := ⟨_, rfl⟩
          rw [hXS] at Pb pl2 hpb
          obtain ⟨M1, hM1⟩ : ∃ m, XS.length = m := ⟨_, rfl⟩
          rw [hM1] at pl2 hpb
          obtain rfl : N = 0 := H0.out
          have hcr : crOk ((0 : Nat) : Int) = true := by decide
          rw [hcr, crA_yes hcr, show flF (crB 0) 2 (0 + 1 - 2) = [] from rfl] at Cr
          obtain rfl : CPV = (M1 : Int) := by rw [← GCPV.out]; exact pl2.symm
          have hHM := Lib.hid hM1
          clear pl1 pl2 hXS hM1
          go_wp2_with fail
          refine (Pb.out _).mono ?_
          rintro e y1 ⟨⟨v1, rfl, q1⟩, d1⟩
          replace BB := BB.trans (d1.mono BB.size)
          obtain ⟨Ab, cb, rfl⟩ := q1.shape
          rw [hHM.out]
          clear q1 d1
          go_wp2_with fail
          refine (Cr.out _).mono ?_
          rintro e y2 ⟨⟨v2, rfl, q2⟩, d2⟩
          replace BB := BB.trans (d2.mono BB.size)
          obtain ⟨Ac, cc, rfl⟩ := q2.shape
          clear q2 d2
          go_wp2
          all_goals exact ⟨BB, rfl, rfl, rfl⟩
        go_wp2_with fail
        refine (gRules_c A5 A6 LR LR c5 c6 RS _ H5 H6 HLR.out.symm HLR.out.symm hLRb).mono ?_
        rintro e z7 ⟨rfl, a7⟩
        have H5 := H5.below a7
        replace BB := BB.trans (a7.mono BB.size)
        clear a7 H6
        have Cl := impl_CountLeft_c z7 A5 LR c5 RS H5 HLR.out.symm hLRb (N : Int)
        rw [Hl1.out, Hl2.out] at Cl
        replace Cl := Lib.hid Cl
        go_wp2_with fail
        refine Cl.out.mono ?_
        rintro e z8 ⟨rfl, a8⟩
        replace BB := BB.trans (a8.mono BB.size)
        clear a8
        obtain ⟨pl1, pl2⟩ := pc_list (n := N) hcp.out (by omega)
        have hpb := pbA_len 0 (N : Int)
        have Pb := Lib.hid (fun W => impl_PrimesBetween_c W 0 (N : Int))
        have Cr := Lib.hid (fun W => impl_CrossersUpTo_c W (N : Int))
        rw [pl1] at Pb
        obtain ⟨XS, hXS⟩ : ∃ x, pbA 0 (N : Int) = x := ⟨_, rfl⟩
        rw [hXS] at Pb pl2 hpb
        obtain ⟨M1, hM1⟩ : ∃ m, XS.length = m := ⟨_, rfl⟩
        rw [hM1] at pl2 hpb
        obtain ⟨L, hcr, hL, L9, hcwL, hV⟩ := pc_leg (n := N) (by omega) (by omega)
        rw [hcr] at Cr
        have Cw := Lib.hid (fun W => impl_CountWithout_c W (N : Int) (L : Int))
        rw [hcwL] at Cw
        obtain ⟨CS, hCS⟩ : ∃ x, crA (N : Int) = x := ⟨_, rfl⟩
        rw [hCS] at Cr hL
        have hV2 : cwV (N : Int) (L : Int) = (M1 : Int) + 1 - (L : Int) := by omega
        rw [hV2] at Cw
        have hL12 : (L : Int) ≤ 12 := by omega
        have hN0 : (0 : Int) < (N : Int) := by omega
        have hLd : decide ((L : Int) ≤ 12) = true := decide_eq_true hL12
        have hNd : decide ((0 : Int) < (N : Int)) = true := decide_eq_true hN0
        have hNd2 : decide (0 < N) = true := decide_eq_true (by omega)
        have hLd2 : decide (L ≤ 12) = true := decide_eq_true (by omega)
        have hHL := Lib.hid hL
        clear hcr hL hcwL hV hV2 hCS
        obtain rfl : CPV = (M1 : Int) := by rw [← GCPV.out]; exact pl2.symm
        have hHM := Lib.hid hM1
        clear pl1 pl2 hXS hM1
        go_wp2_with fail
        refine (Pb.out _).mono ?_
        rintro e y1 ⟨⟨v1, rfl, q1⟩, d1⟩
        replace BB := BB.trans (d1.mono BB.size)
        obtain ⟨Ab, cb, rfl⟩ := q1.shape
        rw [hHM.out]
        clear q1 d1
        go_wp2_with fail
        refine (Cr.out _).mono ?_
        rintro e y2 ⟨⟨v2, rfl, q2⟩, d2⟩
        replace BB := BB.trans (d2.mono BB.size)
        obtain ⟨Ac, cc, rfl⟩ := q2.shape
        rw [hHL.out]
        clear q2 d2
        go_wp2_with fail
        refine (Cw.out _).mono ?_
        rintro e y3 ⟨rfl, d3⟩
        replace BB := BB.trans (d3.mono BB.size)
        go_wp2
        all_goals exact ⟨BB, rfl, rfl, rfl⟩
  case tail =>
    clear hKK BB H5 H6 HLR hLRb GCWV GCWO GCPV GCPO GRPO GRS GCW C1 C2 C3 C4 C5 C6
    rintro a' w' ⟨BB, hd, hs, k1⟩
    obtain ⟨u, hu⟩ : ∃ u : Nat → Value, ∀ i, a'.tmps.getD i undef = u i := ⟨_, fun _ => rfl⟩
    have ha := act_by a' 349 hd hs (fun i => if i = 1 then .slice AB nB cB else u i) (fun i hi => by
      by_cases e1 : i = 1
      · subst e1; exact k1
      rw [if_neg e1]
      exact hu i)
    replace ha : a' = ⟨#[u 0, .slice AB nB cB, u 2, u 3, u 4, u 5, u 6, u 7, u 8, u 9, u 10, u 11, u 12, u 13, u 14, u 15, u 16, u 17, u 18, u 19, u 20, u 21, u 22, u 23, u 24, u 25, u 26, u 27, u 28, u 29, u 30, u 31, u 32, u 33, u 34, u 35, u 36, u 37, u 38, u 39, u 40, u 41, u 42, u 43, u 44, u 45, u 46, u 47, u 48, u 49, u 50, u 51, u 52, u 53, u 54, u 55, u 56, u 57, u 58, u 59, u 60, u 61, u 62, u 63, u 64, u 65, u 66, u 67, u 68, u 69, u 70, u 71, u 72, u 73, u 74, u 75, u 76, u 77, u 78, u 79, u 80, u 81, u 82, u 83, u 84, u 85, u 86, u 87, u 88, u 89, u 90, u 91, u 92, u 93, u 94, u 95, u 96, u 97, u 98, u 99, u 100, u 101, u 102, u 103, u 104, u 105, u 106, u 107, u 108, u 109, u 110, u 111, u 112, u 113, u 114, u 115, u 116, u 117, u 118, u 119, u 120, u 121, u 122, u 123, u 124, u 125, u 126, u 127, u 128, u 129, u 130, u 131, u 132, u 133, u 134, u 135, u 136, u 137, u 138, u 139, u 140, u 141, u 142, u 143, u 144, u 145, u 146, u 147, u 148, u 149, u 150, u 151, u 152, u 153, u 154, u 155, u 156, u 157, u 158, u 159, u 160, u 161, u 162, u 163, u 164, u 165, u 166, u 167, u 168, u 169, u 170, u 171, u 172, u 173, u 174, u 175, u 176, u 177, u 178, u 179, u 180, u 181, u 182, u 183, u 184, u 185, u 186, u 187, u 188, u 189, u 190, u 191, u 192, u 193, u 194, u 195, u 196, u 197, u 198, u 199, u 200, u 201, u 202, u 203, u 204, u 205, u 206, u 207, u 208, u 209, u 210, u 211, u 212, u 213, u 214, u 215, u 216, u 217, u 218, u 219, u 220, u 221, u 222, u 223, u 224, u 225, u 226, u 227, u 228, u 229, u 230, u 231, u 232, u 233, u 234, u 235, u 236, u 237, u 238, u 239, u 240, u 241, u 242, u 243, u 244, u 245, u 246, u 247, u 248, u 249, u 250, u 251, u 252, u 253, u 254, u 255, u 256, u 257, u 258, u 259, u 260, u 261, u 262, u 263, u 264, u 265, u 266, u 267, u 268, u 269, u 270, u 271, u 272, u 273, u 274, u 275, u 276, u 277, u 278, u 279, u 280, u 281, u 282, u 283, u 284, u 285, u 286, u 287, u 288, u 289, u 290, u 291, u 292, u 293, u 294, u 295, u 296, u 297, u 298, u 299, u 300, u 301, u 302, u 303, u 304, u 305, u 306, u 307, u 308, u 309, u 310, u 311, u 312, u 313, u 314, u 315, u 316, u 317, u 318, u 319, u 320, u 321, u 322, u 323, u 324, u 325, u 326, u 327, u 328, u 329, u 330, u 331, u 332, u 333, u 334, u 335, u 336, u 337, u 338, u 339, u 340, u 341, u 342, u 343, u 344, u 345, u 346, u 347, u 348], []⟩ := ha.trans (by kernel_rfl)
    subst ha
    clear hu hd hs k1
    go_wp2_with fail
    refine (DrawPrimesBetween_c _ AB nB cB ((YB.out.below BB).mono BB.size) (by omega)).mono ?_
    rintro e wq1 ⟨⟨alow, ahigh, rfl⟩, dq1⟩
    replace BB := BB.trans (dq1.mono BB.size)
    clear dq1
    have P1 := Lib.hid (fun W => impl_PrimesBetween_c W alow ahigh)
    have P2 := Lib.hid (fun W => spec_PrimesBetween_c W alow ahigh)
    have hpl := pbA_len alow ahigh
    obtain ⟨XS, hXS⟩ : ∃ x, pbA alow ahigh = x := ⟨_, rfl⟩
    obtain ⟨PB, hPB⟩ : ∃ x, pbOk alow ahigh = x := ⟨_, rfl⟩
    rw [hXS, hPB] at P1 P2
    rw [hXS] at hpl
    have HXS := Lib.hid hXS
    have HPB := Lib.hid hPB
    obtain ⟨M, hM⟩ : ∃ m, XS.length = m := ⟨_, rfl⟩
    rw [hM] at hpl
    have HM := Lib.hid hM
    clear hXS hPB hM
    go_wp2_with fail
    refine (P1.out _).mono ?_
    rintro e x1 ⟨⟨v1, rfl, o1⟩, b1⟩
    replace BB := BB.trans (b1.mono BB.size)
    obtain ⟨A1, c1, rfl⟩ := o1.shape
    have H1 := Il_of_own o1
    rw [HM.out]
    clear o1 b1
    go_wp2_with fail
    refine (P2.out _).mono ?_
    rintro e x2 ⟨⟨v2, rfl, o2⟩, b2⟩
    replace BB := BB.trans (b2.mono BB.size)
    obtain ⟨A2, c2, rfl⟩ := o2.shape
    have H2 := Il_of_own o2
    have H1 := H1.below b2
    rw [HM.out]
    clear o2 b2
    rename (∀ (a : Act) (w : World), Code.wp _ _ _ a w → _) => hKK
    refine cut_k hKK (fun a' w' => Below w.heap.size w w' ∧ a'.defers = [] ∧ a'.tmps.size = 349 ∧ a'.tmps.getD 1 undef = .slice AB nB cB) ?main ?tail
    case main =>
      intro hK3
      clear hKK
      go_wp2_with fail
      intro K2 hR2 K1 hx1
      go_wp2_with fail
      refine (gSame_c A1 A2 M M c1 c2 XS _ H1 H2 HM.out.symm HM.out.symm hpl).mono ?_
      rintro e x3 ⟨rfl, b3⟩
      replace BB := BB.trans (b3.mono BB.size)
      have H1 := H1.below b3
      clear b3 H2
      cases hpb : PB with
      | false =>
        subst hpb
        go_wp2
        all_goals exact ⟨BB, rfl, rfl, rfl⟩
      | true =>
        have hok : pbOk alow ahigh = true := HPB.out.trans hpb
        have hX : XS = prB alow.toNat ahigh.toNat := by rw [← HXS.out, pbA_yes hok]
        have hlh : 0 ≤ alow ∧ alow ≤ 1000000000 ∧ 0 ≤ ahigh ∧ ahigh ≤ 1000000000 := by
          rw [pbOk, Bool.and_eq_true, Bool.and_eq_true, inB_true, inB_true] at hok; omega
        obtain ⟨lo, hlo⟩ := Int.eq_ofNat_of_zero_le hlh.1
        obtain ⟨hi, hhi⟩ := Int.eq_ofNat_of_zero_le hlh.2.2.1
        rw [hlo, hhi, Int.toNat_natCast, Int.toNat_natCast] at hX
        have HE : Hid (∀ k, k < M → ∃ P : Nat, ivL XS k = (P : Int) ∧ primeB P = true ∧ alow ≤ (P : Int) ∧ (P : Int) ≤ ahigh ∧ P ≤ 1000000000) := fun k hk => by
          obtain ⟨P, e1, e2, e3, e4⟩ := pc_elem (lo := lo) (hi := hi) (k := k) (by rw [← hX, HM.out]; exact hk)
          rw [← hX] at e1
          exact ⟨P, e1, e2, by omega, by omega, by omega⟩
        have HN : Hid (∀ k P Q : Nat, k + 1 < M → ivL XS k = (Q : Int) → ivL XS (k + 1) = (P : Int) → Q < P ∧ (P ≤ 1000000 → npOk (Q : Int) = true ∧ npV (Q : Int) = (P : Int))) := fun k P Q hk e1 e2 => by
          rw [hX] at e1 e2
          exact pc_next (by rw [← hX, HM.out]; exact hk) e1 e2
        have hHX := Lib.hid hX
        subst hpb
        clear hok hX hlh hlo hhi
        go_wp2_with fail
        go_loopw [232] (fun i wr => ∃ k : Nat, k ≤ M ∧ i = .int .i64 (k : Int) ∧ Below w.heap.size w wr ∧ Il wr A1 XS) (fun i _ => M - (intOf i).toNat)
        case atStart => exact ⟨0, Nat.zero_le _, rfl, BB, H1⟩
        case round =>
          clear BB H1
          obtain ⟨k, hk, rfl, BB, H1⟩ := hrel
          by_cases hlt : k < M
          · have hlt1 : k < XS.length := by rw [HM.out]; exact hlt
            have hki : (k : Int) < (M : Int) := by omega
            have HR : Hid (∀ W, Below wr.heap.size wr W → Il W A1 XS) := fun W hB => H1.below hB
            obtain ⟨b, off, rfl, hb, hr⟩ := H1 (by omega)
            clear H1
            have hc0 := hr k hlt1
            have Hhr := Lib.hid hr
            clear hr
            obtain ⟨P, e1, e2, e3, e4, e5⟩ := HE.out k hlt
            rw [e1] at hc0
            have Pp := Lib.hid (fun W => impl_IsPrime_c W (P : Int))
            rw [(isPz (n := P) e5).1, (isPz (n := P) e5).2, e2] at Pp
            have hlw : ¬ ((P : Int) < alow) := by omega
            have hhg : ¬ (ahigh < (P : Int)) := by omega
            have hld : decide ((P : Int) < alow) = false := decide_eq_false hlw
            have hhd : decide (ahigh < (P : Int)) = false := decide_eq_false hhg
            by_cases hk0 : k = 0
            · subst hk0
              rw [Nat.add_zero] at hc0
              go_wp2_with fail
              refine (Pp.out _).mono ?_
              rintro e zp1 ⟨rfl, ap1⟩
              replace BB := BB.trans (ap1.mono BB.size)
              have H9 := HR.out _ ap1
              clear ap1
              go_wp2
              go_roundw
              case rel => exact ⟨1, by omega, rfl, BB, H9⟩
              case measure => simp [intOf]; omega
            · obtain ⟨q, hq⟩ : ∃ q, k = q + 1 := ⟨k - 1, by omega⟩
              obtain ⟨Q, f1, f2, f3, f4, f5⟩ := HE.out q (by omega)
              have hcq := Hhr.out q (by omega)
              rw [f1] at hcq
              obtain ⟨g1, g2⟩ := HN.out q P Q (by omega) f1 (by rw [← hq]; exact e1)
              have hQP : ¬ ((P : Int) ≤ (Q : Int)) := by omega
              have hQd : decide ((P : Int) ≤ (Q : Int)) = false := decide_eq_false hQP
              have hkq : (k : Int) - 1 = (q : Int) := by omega
              have hk1 : (0 : Int) < (k : Int) := by omega
              have hkd : decide ((0 : Int) < (k : Int)) = true := decide_eq_true hk1
              have hkd2 : decide (0 < k) = true := decide_eq_true (by omega)
              have hq0 : (0 : Int) ≤ (q : Int) := by omega
              have hqM : (q : Int) < (M : Int) := by omega
              have hwq : IntKind.i64.wrap (q : Int) = (q : Int) := IntWalk.i64_in _ (by omega)
              clear e1 e2 f1 f2 f3 f4 f5 hq g1
              by_cases h6 : P ≤ 1000000
              · have h6i : (P : Int) ≤ 1000000 := by omega
                have h6d : decide ((P : Int) ≤ 1000000) = true := decide_eq_true h6i
                obtain ⟨m1, m2⟩ := g2 h6
                have Np := Lib.hid (fun W => impl_NextPrime_c W (Q : Int))
                rw [m1, m2] at Np
                clear g2 m1 m2
                go_wp2_with fail
                refine (Pp.out _).mono ?_
                rintro e zp1 ⟨rfl, ap1⟩
                replace BB := BB.trans (ap1.mono BB.size)
                have H9 := HR.out _ ap1
                have hcq := (ap1.cell (p := ⟨b, off + q, none⟩) hb).trans hcq
                have hc0 := (ap1.cell (p := ⟨b, off + k, none⟩) hb).trans hc0
                clear ap1
                go_wp2_with fail
                refine (Np.out _).mono ?_
                rintro e zp2 ⟨rfl, ap2⟩
                replace BB := BB.trans (ap2.mono BB.size)
                have H9 := H9.below ap2
                clear ap2
                go_wp2
                go_roundw
                case rel => exact ⟨k + 1, by omega, by go_num, BB, H9⟩
                case measure => simp [intOf]; omega
              · have h6i : ¬ ((P : Int) ≤ 1000000) := by omega
                have h6d : decide ((P : Int) ≤ 1000000) = false := decide_eq_false h6i
                clear g2
                go_wp2_with fail
                refine (Pp.out _).mono ?_
                rintro e zp1 ⟨rfl, ap1⟩
                replace BB := BB.trans (ap1.mono BB.size)
                have H9 := HR.out _ ap1
                have hcq := (ap1.cell (p := ⟨b, off + q, none⟩) hb).trans hcq
                have hc0 := (ap1.cell (p := ⟨b, off + k, none⟩) hb).trans hc0
                clear ap1
                go_wp2
                go_roundw
                case rel => exact ⟨k + 1, by omega, by go_num, BB, H9⟩
                case measure => simp [intOf]; omega
          · have hki : ¬ (k : Int) < (M : Int) := by omega
            go_wp2
            all_goals exact ⟨BB, rfl, rfl, rfl⟩
    case tail =>
      clear hKK BB H1 H2
      rintro a' w' ⟨BB, hd, hs, k1⟩
      obtain ⟨u, hu⟩ : ∃ u : Nat → Value, ∀ i, a'.tmps.getD i undef = u i := ⟨_, fun _ => rfl⟩
      have ha := act_by a' 349 hd hs (fun i => if i = 1 then .slice AB nB cB else u i) (fun i hi => by
        by_cases e1 : i = 1
        · subst e1; exact k1
        rw [if_neg e1]
        exact hu i)
      replace ha : a' = ⟨#[u 0, .slice AB nB cB, u 2, u 3, u 4, u 5, u 6, u 7, u 8, u 9, u 10, u 11, u 12, u 13, u 14, u 15, u 16, u 17, u 18, u 19, u 20, u 21, u 22, u 23, u 24, u 25, u 26, u 27, u 28, u 29, u 30, u 31, u 32, u 33, u 34, u 35, u 36, u 37, u 38, u 39, u 40, u 41, u 42, u 43, u 44, u 45, u 46, u 47, u 48, u 49, u 50, u 51, u 52, u 53, u 54, u 55, u 56, u 57, u 58, u 59, u 60, u 61, u 62, u 63, u 64, u 65, u 66, u 67, u 68, u 69, u 70, u 71, u 72, u 73, u 74, u 75, u 76, u 77, u 78, u 79, u 80, u 81, u 82, u 83, u 84, u 85, u 86, u 87, u 88, u 89, u 90, u 91, u 92, u 93, u 94, u 95, u 96, u 97, u 98, u 99, u 100, u 101, u 102, u 103, u 104, u 105, u 106, u 107, u 108, u 109, u 110, u 111, u 112, u 113, u 114, u 115, u 116, u 117, u 118, u 119, u 120, u 121, u 122, u 123, u 124, u 125, u 126, u 127, u 128, u 129, u 130, u 131, u 132, u 133, u 134, u 135, u 136, u 137, u 138, u 139, u 140, u 141, u 142, u 143, u 144, u 145, u 146, u 147, u 148, u 149, u 150, u 151, u 152, u 153, u 154, u 155, u 156, u 157, u 158, u 159, u 160, u 161, u 162, u 163, u 164, u 165, u 166, u 167, u 168, u 169, u 170, u 171, u 172, u 173, u 174, u 175, u 176, u 177, u 178, u 179, u 180, u 181, u 182, u 183, u 184, u 185, u 186, u 187, u 188, u 189, u 190, u 191, u 192, u 193, u 194, u 195, u 196, u 197, u 198, u 199, u 200, u 201, u 202, u 203, u 204, u 205, u 206, u 207, u 208, u 209, u 210, u 211, u 212, u 213, u 214, u 215, u 216, u 217, u 218, u 219, u 220, u 221, u 222, u 223, u 224, u 225, u 226, u 227, u 228, u 229, u 230, u 231, u 232, u 233, u 234, u 235, u 236, u 237, u 238, u 239, u 240, u 241, u 242, u 243, u 244, u 245, u 246, u 247, u 248, u 249, u 250, u 251, u 252, u 253, u 254, u 255, u 256, u 257, u 258, u 259, u 260, u 261, u 262, u 263, u 264, u 265, u 266, u 267, u 268, u 269, u 270, u 271, u 272, u 273, u 274, u 275, u 276, u 277, u 278, u 279, u 280, u 281, u 282, u 283, u 284, u 285, u 286, u 287, u 288, u 289, u 290, u 291, u 292, u 293, u 294, u 295, u 296, u 297, u 298, u 299, u 300, u 301, u 302, u 303, u 304, u 305, u 306, u 307, u 308, u 309, u 310, u 311, u 312, u 313, u 314, u 315, u 316, u 317, u 318, u 319, u 320, u 321, u 322, u 323, u 324, u 325, u 326, u 327, u 328, u 329, u 330, u 331, u 332, u 333, u 334, u 335, u 336, u 337, u 338, u 339, u 340, u 341, u 342, u 343, u 344, u 345, u 346, u 347, u 348], []⟩ := ha.trans (by kernel_rfl)
      subst ha
      clear hu hd hs k1
      go_wp2_with fail
      refine (DrawPrimeOfRank_c _ AB nB cB ((YB.out.below BB).mono BB.size) (by omega)).mono ?_
      rintro e wq2 ⟨⟨arank, rfl⟩, dq2⟩
      replace BB := BB.trans (dq2.mono BB.size)
      clear dq2
      have D1 := Lib.hid (fun W => impl_PrimeOfRank_c W arank)
      have D2 := Lib.hid (fun W => spec_PrimeOfRank_c W arank)
      obtain ⟨PV, hPV⟩ : ∃ x, porV arank = x := ⟨_, rfl⟩
      obtain ⟨PO, hPO⟩ : ∃ x, porOk arank = x := ⟨_, rfl⟩
      rw [hPV, hPO] at D1 D2
      have HPV := Lib.hid hPV
      have HPO := Lib.hid hPO
      clear hPV hPO
      go_wp2_with fail
      refine (D1.out _).mono ?_
      rintro e zt1 ⟨rfl, at1⟩
      replace BB := BB.trans (at1.mono BB.size)
      go_wp2_with fail
      refine (D2.out _).mono ?_
      rintro e zt2 ⟨rfl, at2⟩
      replace BB := BB.trans (at2.mono BB.size)
      go_wp2_with fail
      refine (DrawNextPrime_c _ AB nB cB ((YB.out.below BB).mono BB.size) (by omega)).mono ?_
      rintro e wq3 ⟨⟨am, rfl⟩, dq3⟩
      replace BB := BB.trans (dq3.mono BB.size)
      clear dq3
      have D3 := Lib.hid (fun W => impl_NextPrime_c W am)
      have D4 := Lib.hid (fun W => spec_NextPrime_c W am)
      obtain ⟨NV, hNV⟩ : ∃ x, npV am = x := ⟨_, rfl⟩
      obtain ⟨NO, hNO⟩ : ∃ x, npOk am = x := ⟨_, rfl⟩
      rw [hNV, hNO] at D3 D4
      clear hNV hNO
      go_wp2_with fail
      refine (D3.out _).mono ?_
      rintro e zt3 ⟨rfl, at3⟩
      replace BB := BB.trans (at3.mono BB.size)
      go_wp2_with fail
      refine (D4.out _).mono ?_
      rintro e zt4 ⟨rfl, at4⟩
      replace BB := BB.trans (at4.mono BB.size)
      cases hpo : PO with
      | false =>
        subst hpo
        go_wp2
        go_ret
        exact ⟨rfl, BB⟩
      | true =>
        have hok : porOk arank = true := HPO.out.trans hpo
        obtain ⟨r1, r2⟩ := inB_true.1 hok
        obtain ⟨r, rfl⟩ := Int.eq_ofNat_of_zero_le r1
        obtain ⟨p, hp1, hp2, hp3⟩ := pc_rank hok
        obtain rfl : PV = (p : Int) := by rw [← HPV.out]; exact hp1
        have Cp := Lib.hid (fun W => impl_CountPrimes_c W (p : Int))
        rw [hp2, hp3] at Cp
        subst hpo
        clear hok hp1 hp2 hp3
        go_wp2_with fail
        refine (Cp.out _).mono ?_
        rintro e zt5 ⟨rfl, at5⟩
        replace BB := BB.trans (at5.mono BB.size)
        go_wp2
        go_ret
        exact ⟨rfl, BB⟩

set_option maxRecDepth 100000 in
theorem lifted_FnPrimesCounted (os : Os) (started : os.Started) (H : Type) (enc : TypeId × Value → H) :
    ReturnsInHanded {} Try.checked os 4 .any (Rows.fnPrimesCountedSpec.pre6 enc Try.prog Try.f4 Rows.fnPrimesCountedRow.domain false) (Rows.fnPrimesCountedSpec.post enc Try.prog Try.f4 false true false false) := by
  refine returnsInHanded_of_change (C := Try.checked) own started (by kernel_rfl) Try.func4
    (ChangeSpec.witness6 (enc := enc) (C := Try.checked) false ⟨#[], #[.slice none 0 0, .slice none 0 0], []⟩ 8 (by kernel_rfl) (by kernel_rfl) (by kernel_rfl) (by kernel_rfl)) ?_
  intro W base args ds gs before hval0 hW hcnd _
  have hval : ∀ (j : Nat) t v, Try.f4.params[j]? = some t → args[j]? = some v → Value.okWide Try.prog W .any base t v := hval0
  have hW' := hW
  obtain ⟨p, q, hA0, hV, rfl, hfz, hnd⟩ := hW
  have hA : DataW.TrodAll enc Try.prog W 0 (fun _ => true) true Try.f4.params.toList args.toList ds p := hA0
  rw [Try.params4] at hA hval
  obtain ⟨v0, vs0, d0, ds0, p0, q0, hargs, rfl, rfl, h0, r0⟩ := trodAll_cons hA
  obtain ⟨v1, vs1, d1, ds1, p1, q1, rfl, rfl, rfl, h1, r1⟩ := trodAll_cons r0
  obtain ⟨rfl, rfl, rfl⟩ := trodAll_nil r1
  obtain rfl : args = #[v0, v1] := by cases args; simp_all
  obtain ⟨rfl, rfl⟩ := trodVars_none hV
  have k0 := h0
  have lt0 : ∀ x ∈ p0, x.block < W.heap.size := by obtain ⟨m, hm⟩ := k0; exact DataW.trod_lt m _ _ _ hm
  obtain ⟨A0, n0, c0, rfl, m0, Y0⟩ := open_byt (hval 0 22 v0 rfl rfl) h0
  have k1 := h1
  have lt1 : ∀ x ∈ p1, x.block < W.heap.size := by obtain ⟨m, hm⟩ := k1; exact DataW.trod_lt m _ _ _ hm
  obtain ⟨A1, n1, c1, rfl, m1, Y1⟩ := open_byt (hval 1 22 v1 rfl rfl) h1
  clear hA0 hval0
  refine (walk_FnPrimesCounted W A0 n0 c0 m0 Y0 A1 n1 c1 m1 Y1).mono fun e W' ⟨he, bel⟩ => ?_
  subst he
  exact ⟨_, rfl, _, _, _, [], _, [], hW', trodAll_mk1 (shut_bool Try.underlying4 _), (trodAll_cons_mk (Below.trod laidOut (by kernel_rfl) (of_decide_eq_true (by kernel_rfl)) k0 bel lt0) (trodAll_cons_mk (Below.trod laidOut (by kernel_rfl) (of_decide_eq_true (by kernel_rfl)) k1 bel lt1) trodAll_mk0)), rfl, bel.frame _, fun h => by cases h⟩

theorem closed_FnPrimesCounted : joinedFacts Try.prog 4 Try.f4 Rows.fnPrimesCountedSpec Rows.fnPrimesCountedRow = true := by
  unfold joinedFacts
  rw [head_enters, head_final, head_make]
  kernel_rfl
theorem over_FnPrimesCounted : Rows.fnPrimesCountedRow.holds Try.pinned (OpenSpec.ofChange Rows.fnPrimesCountedSpec) :=
  OpenClaim.holds_of_wide 4 Try.f4 rfl rfl rfl rfl rfl rfl rfl ⟨rfl, rfl, rfl, rfl, rfl⟩ rfl rfl rfl rfl rfl (by kernel_rfl) Try.func4 closed_FnPrimesCounted
    (of_decide_eq_true (by kernel_rfl)) (by unfold Func.isWrapper; first | (rw [if_pos (by decide +kernel)]; kernel_rfl) | (rw [if_neg (by decide +kernel)]; exact ⟨rfl, rfl⟩))
    (fun os started H enc _ => lifted_FnPrimesCounted os started H enc)

theorem fnPrimesCounted_holds : Rows.FnPrimesCountedSaid := over_FnPrimesCounted

end Go.Proofs.Ytmjjpgafecmljaa
