/- For every four numbers that come in, laws.FnDivisorsToldOfAll returns true. Conditions: none. -/
import Derived.Test.YtapjbppkekigaabOZ
import Derived.Test.YtapjbppkekigaabOA
import Derived.Test.YtapjbppkekigaabO7
import Derived.Test.YtapjbppkekigaabJ5
import Derived.Test.YtapjbppkekigaabJ6
import Derived.Test.YtapjbppkekigaabL0
namespace Go.Proofs.Ytapjbppkekigaab
open Go.ChangeShapes Go.WideShapes Go.ChangeAt Go.RowKit Go.Deep
set_option maxRecDepth 100000
set_option linter.unusedVariables false
set_option linter.unusedSimpArgs false

set_option maxHeartbeats 40000000 in
theorem walk_FnDivisorsToldOfAll (w : World) (an : Int) (i1 : (Lit.int .i64 an).wf = true) (am : Int) (i2 : (Lit.int .i64 am).wf = true) (ast : Int) (i3 : (Lit.int .i64 ast).wf = true) (aa : Int) (i4 : (Lit.int .i64 aa).wf = true) :
    Calls Try.prog 4 #[.int .i64 an, .int .i64 am, .int .i64 ast, .int .i64 aa] w fun e w' => e = .returned (.bool true) ∧ Below w.heap.size w w' := by
  clear i1 i2 i3 i4
  have C1 := Lib.hid (fun W => impl_DivisorsOf_c W an)
  have C2 := Lib.hid (fun W => spec_DivisorsOf_c W an)
  have C3 := Lib.hid (fun W => impl_CountDivisors_c W an)
  have C4 := Lib.hid (fun W => spec_CountDivisors_c W an)
  have C5 := Lib.hid (fun W => impl_SumDivisors_c W an)
  have C6 := Lib.hid (fun W => spec_SumDivisors_c W an)
  have C7 := Lib.hid (fun W => impl_TotientOf_c W an)
  have C8 := Lib.hid (fun W => spec_TotientOf_c W an)
  have C9 := Lib.hid (fun W => impl_MoebiusOf_c W an)
  have C10 := Lib.hid (fun W => spec_MoebiusOf_c W an)
  have C11 := Lib.hid (fun W => impl_SumStep_c W an)
  have C12 := Lib.hid (fun W => spec_SumStep_c W an)
  have hl := dvA_len an
  obtain ⟨XS, hXS⟩ : ∃ x, dvA an = x := ⟨_, rfl⟩
  rw [hXS] at C1 C2 hl
  have GXS := Lib.hid hXS
  clear hXS
  obtain ⟨CV, hCV⟩ : ∃ x, cdV an = x := ⟨_, rfl⟩
  rw [hCV] at C3 C4
  have GCV := Lib.hid hCV
  clear hCV
  obtain ⟨DV, hDV⟩ : ∃ x, sdV an = x := ⟨_, rfl⟩
  rw [hDV] at C5 C6
  have GDV := Lib.hid hDV
  clear hDV
  obtain ⟨TV, hTV⟩ : ∃ x, totV an = x := ⟨_, rfl⟩
  rw [hTV] at C7 C8
  have GTV := Lib.hid hTV
  clear hTV
  obtain ⟨MV, hMV⟩ : ∃ x, mobV an = x := ⟨_, rfl⟩
  rw [hMV] at C9 C10
  have GMV := Lib.hid hMV
  clear hMV
  obtain ⟨PV, hPV⟩ : ∃ x, stpV an = x := ⟨_, rfl⟩
  rw [hPV] at C11 C12
  have GPV := Lib.hid hPV
  clear hPV
  obtain ⟨OK, hOK⟩ : ∃ x, dvOk an = x := ⟨_, rfl⟩
  rw [hOK] at C1 C2 C3 C4 C5 C6 C7 C8 C9 C10 C11 C12
  have GOK := Lib.hid hOK
  clear hOK
  obtain ⟨L, hL⟩ : ∃ l, XS.length = l := ⟨_, rfl⟩
  rw [hL] at hl
  have HL := Lib.hid hL
  clear hL
  go_enter Try.func4, Try.ntmps4
  have BB := Below.refl w.heap.size w
  go_wp2_with fail
  refine (C1.out _).mono ?_
  rintro e zX ⟨⟨vX, rfl, oX⟩, aX⟩
  replace BB := BB.trans (aX.mono BB.size)
  obtain ⟨AX, cX, rfl⟩ := oX.shape
  have HX := Il_of_own oX
  rw [HL.out]
  clear oX aX
  go_wp2_with fail
  refine (C2.out _).mono ?_
  rintro e zY ⟨⟨vY, rfl, oY⟩, aY⟩
  replace BB := BB.trans (aY.mono BB.size)
  have HX := HX.below aY
  obtain ⟨AY, cY, rfl⟩ := oY.shape
  have HY := Il_of_own oY
  rw [HL.out]
  clear oY aY
  go_wp2_with fail
  refine (C3.out _).mono ?_
  rintro e z3 ⟨rfl, a3⟩
  replace BB := BB.trans (a3.mono BB.size)
  have HX := HX.below a3
  have HY := HY.below a3
  clear a3
  go_wp2_with fail
  refine (C4.out _).mono ?_
  rintro e z4 ⟨rfl, a4⟩
  replace BB := BB.trans (a4.mono BB.size)
  have HX := HX.below a4
  have HY := HY.below a4
  clear a4
  go_wp2_with fail
  refine (C5.out _).mono ?_
  rintro e z5 ⟨rfl, a5⟩
  replace BB := BB.trans (a5.mono BB.size)
  have HX := HX.below a5
  have HY := HY.below a5
  clear a5
  go_wp2_with fail
  refine (C6.out _).mono ?_
  rintro e z6 ⟨rfl, a6⟩
  replace BB := BB.trans (a6.mono BB.size)
  have HX := HX.below a6
  have HY := HY.below a6
  clear a6
  go_wp2_with fail
  refine (C7.out _).mono ?_
  rintro e z7 ⟨rfl, a7⟩
  replace BB := BB.trans (a7.mono BB.size)
  have HX := HX.below a7
  have HY := HY.below a7
  clear a7
  go_wp2_with fail
  refine (C8.out _).mono ?_
  rintro e z8 ⟨rfl, a8⟩
  replace BB := BB.trans (a8.mono BB.size)
  have HX := HX.below a8
  have HY := HY.below a8
  clear a8
  go_wp2_with fail
  refine (C9.out _).mono ?_
  rintro e z9 ⟨rfl, a9⟩
  replace BB := BB.trans (a9.mono BB.size)
  have HX := HX.below a9
  have HY := HY.below a9
  clear a9
  go_wp2_with fail
  refine (C10.out _).mono ?_
  rintro e z10 ⟨rfl, a10⟩
  replace BB := BB.trans (a10.mono BB.size)
  have HX := HX.below a10
  have HY := HY.below a10
  clear a10
  go_wp2_with fail
  refine (C11.out _).mono ?_
  rintro e z11 ⟨rfl, a11⟩
  replace BB := BB.trans (a11.mono BB.size)
  have HX := HX.below a11
  have HY := HY.below a11
  clear a11
  go_wp2_with fail
  refine (C12.out _).mono ?_
  rintro e z12 ⟨rfl, a12⟩
  replace BB := BB.trans (a12.mono BB.size)
  have HX := HX.below a12
  have HY := HY.below a12
  clear a12
  clear C1 C2 C3 C4 C5 C6 C7 C8 C9 C10 C11 C12
  rename (∀ (a : Act) (w : World), Code.wp _ _ _ a w → _) => hKK
  refine cut_k hKK (fun a' w' => Below w.heap.size w w' ∧ a'.defers = [] ∧ a'.tmps.size = 445 ∧ a'.tmps.getD 1 undef = .int .i64 am ∧ a'.tmps.getD 2 undef = .int .i64 ast ∧ a'.tmps.getD 3 undef = .int .i64 aa) ?main ?tail
  case main =>
    as_aux_lemma =>
      intro hK3
      clear hKK
      go_wp2_with fail
      intro K2 hR2 K1 hx1
      go_wp2_with fail
      refine (gSame_c AX AY L L cX cY XS _ HX HY HL.out.symm HL.out.symm hl).mono ?_
      rintro e zsm ⟨rfl, asm⟩
      replace BB := BB.trans (asm.mono BB.size)
      have HX := HX.below asm
      clear asm
      clear HY
      cases hok : OK with
      | false =>
        subst hok
        clear HX
        go_wp2
        all_goals exact ⟨BB, rfl, rfl, rfl, rfl, rfl⟩
      | true =>
        have h0 := GOK.out.trans hok
        subst hok
        obtain ⟨n1, n9⟩ := inB_true.1 h0
        obtain ⟨N, rfl⟩ := Int.eq_ofNat_of_zero_le (Int.le_trans (by omega) n1)
        have hN1 : 1 ≤ N := by omega
        have hN9 : N ≤ 1000000 := by omega
        obtain ⟨XS2, T, S, D, W, G, ⟨e1, e2, e3, e4⟩, ⟨l1, l2, l3, l4, l5, l6⟩, hel, ⟨w0, g0, wL, gL⟩, hb, hcp⟩ := dt_all hN1 hN9
        obtain rfl : XS = XS2 := by rw [← GXS.out, dvA_yes h0, e1]
        obtain rfl : CV = (L : Int) := by rw [← GCV.out, cdV_yes h0, e1, HL.out]
        obtain rfl : DV = D := by rw [← GDV.out, sdV_yes h0, e4]
        obtain rfl : TV = (T : Int) := by rw [← GTV.out, totV_yes h0, e2]
        obtain rfl : MV = S := by rw [← GMV.out, mobV_yes h0, e3]
        obtain rfl : PV = DV - (N : Int) := by rw [← GPV.out, stpV_yes h0, e4]
        rw [HL.out] at l1 l2 l4 hel wL gL hb
        have Hx9 : ∀ k, k < XS.length → 0 ≤ ivL XS k ∧ ivL XS k ≤ 1000000000 := fun k hk => by
          obtain ⟨d, e, d1, _, _, d2, d3, _⟩ := hel k (by rw [← HL.out]; exact hk)
          rw [d1]; omega
        have Gs := Lib.hid (fun W (hW : Il W AX XS) => gSum_c W AX L cX XS hW HL.out.symm hl Hx9)
        rw [l2] at Gs
        have Hel := Lib.hid hel
        have Hb := Lib.hid hb
        have Hcp := Lib.hid hcp
        have Hw0 := Lib.hid w0
        have Hg0 := Lib.hid g0
        have HwL := Lib.hid wL
        have HgL := Lib.hid gL
        have H3 := Lib.hid l3
        have H4 := Lib.hid l4
        clear GXS GCV GDV GTV GMV GPV GOK e1 e2 e3 e4 l2 l3 l4 hel w0 g0 wL gL hb hcp Hx9 n1 n9 h0
        have hwS : IntKind.i64.wrap (DV - (N : Int)) = DV - (N : Int) := IntWalk.i64_in _ (by omega)
        go_wp2_with fail
        refine (Gs.out _ HX).mono ?_
        rintro e zg ⟨rfl, ag⟩
        replace BB := BB.trans (ag.mono BB.size)
        have HX := HX.below ag
        clear ag Gs
        obtain ⟨b, off, rfl, hb1, hr⟩ := HX (by rw [HL.out]; omega)
        have hc0 := hr 0 (by rw [HL.out]; omega)
        rw [Nat.add_zero, H3.out] at hc0
        have hcl := hr (L - 1) (by rw [HL.out]; omega)
        rw [H4.out] at hcl
        obtain ⟨J, hJ⟩ : ∃ J, L - 1 = J := ⟨_, rfl⟩
        rw [hJ] at hcl
        have hJ1 : (L : Int) - 1 = (J : Int) := by omega
        have hwJ : IntKind.i64.wrap (J : Int) = (J : Int) := IntWalk.i64_in _ (by omega)
        have hJ0 : (0 : Int) ≤ (J : Int) := by omega
        have hJL : (J : Int) < (L : Int) := by omega
        have hL0 : (0 : Int) < (L : Int) := by omega
        clear hr H3 H4 hJ
        go_wp2
        clear hc0 hcl hJ1 hwJ hJ0 hJL hL0 hwS
        go_loopw [33, 34, 236] (fun x y i wr => ∃ (k : Nat) (A B : Int), k ≤ L ∧ Hid (A = W k) ∧ Hid (B = G k) ∧ x = .int .i64 A ∧ y = .int .i64 B ∧ i = .int .i64 (k : Int) ∧ Below w.heap.size w wr ∧ Il wr (some ⟨b, off, none⟩) XS) (fun _ _ i _ => L - (intOf i).toNat)
        case atStart => exact ⟨0, 0, 0, Nat.zero_le _, Lib.hid Hw0.out.symm, Lib.hid Hg0.out.symm, rfl, rfl, rfl, BB, HX⟩
        case round =>
          clear BB HX
          obtain ⟨k, A, B, hk, HA, HB, rfl, rfl, rfl, BB, HX⟩ := hrel
          by_cases hlt : k < L
          · obtain ⟨d, e, d1, e1, hde, d2, d3, dj, wk, gk⟩ := Hel.out k hlt
            obtain ⟨b1, b2, b3, b4⟩ := Hb.out k hk
            have hki : decide ((k : Int) < (L : Int)) = true := decide_eq_true (by omega)
            have hki2 : (k : Int) < (L : Int) := by omega
            have hki3 : decide (k < L) = true := decide_eq_true (by omega)
            have hk00 : (0 : Int) ≤ (k : Int) := by omega
            have HR : Hid (∀ V, Below wr.heap.size wr V → Il V (some ⟨b, off, none⟩) XS) := Lib.hid fun V hB => HX.below hB
            obtain ⟨hb9, hr⟩ := Il_at HX (by rw [HL.out]; omega)
            have hc0 := hr k (by rw [HL.out]; exact hlt)
            have hce := hr (L - 1 - k) (by rw [HL.out]; omega)
            rw [d1] at hc0
            rw [e1] at hce
            obtain ⟨J, hJ⟩ : ∃ J, L - 1 - k = J := ⟨_, rfl⟩
            rw [hJ] at hce
            have hJ1 : (L : Int) - 1 - (k : Int) = (J : Int) := by omega
            have hwL1 : IntKind.i64.wrap ((L : Int) - 1) = (L : Int) - 1 := IntWalk.i64_in _ (by omega)
            have hwJ : IntKind.i64.wrap (J : Int) = (J : Int) := IntWalk.i64_in _ (by omega)
            have hJ0 : (0 : Int) ≤ (J : Int) := by omega
            have hJL : (J : Int) < (L : Int) := by omega
            have hwN : IntKind.i64.wrap (N : Int) = (N : Int) := IntWalk.i64_in _ (by omega)
            have hwk : IntKind.i64.wrap ((k : Int) + 1) = (k : Int) + 1 := IntWalk.i64_in _ (by omega)
            have okd : dvOk (d : Int) = true := inB_true.2 (by omega)
            have Tc := Lib.hid (fun V => impl_TotientOf_c V (d : Int))
            have Mc := Lib.hid (fun V => impl_MoebiusOf_c V (d : Int))
            rw [okd] at Tc Mc
            obtain ⟨t, ht⟩ : ∃ x, totV (d : Int) = x := ⟨_, rfl⟩
            obtain ⟨m, hm⟩ : ∃ x, mobV (d : Int) = x := ⟨_, rfl⟩
            rw [ht] at Tc wk
            rw [hm] at Mc gk
            have HA1 : Hid (A + t = W (k + 1)) := Lib.hid (by rw [wk, HA.out])
            have HB1 : Hid (B + m = G (k + 1)) := Lib.hid (by rw [gk, HB.out])
            have hwA : IntKind.i64.wrap (A + t) = A + t := IntWalk.i64_in _ (by have := Hb.out (k + 1) hlt; rw [HA1.out]; omega)
            have hwB : IntKind.i64.wrap (B + m) = B + m := IntWalk.i64_in _ (by have := Hb.out (k + 1) hlt; rw [HB1.out]; omega)
            clear okd ht hm wk gk HA HB b1 b2 b3 b4 d1 e1 hJ HX
            by_cases hk0 : k = 0
            · skip
              as_aux_lemma =>
                have hkp : ¬ (0 : Int) < (k : Int) := by omega
                have hkd : decide ((0 : Int) < (k : Int)) = false := decide_eq_false (by omega)
                have hkd2 : decide (0 < k) = false := decide_eq_false (by omega)
                clear hr dj hk0
                go_wp2_with fail
                go_quiet (fail)
                have BB := below_drewN BB nq
                have HRd := HR.out _ (below_drewN (Below.refl _ _) nq)
                go_wp2_with fail
                refine (Tc.out _).mono ?_
                rintro e zt1 ⟨rfl, at1⟩
                replace BB := BB.trans (at1.mono BB.size)
                have HRd := HRd.below at1
                clear at1
                go_wp2_with fail
                refine (Mc.out _).mono ?_
                rintro e zt2 ⟨rfl, at2⟩
                replace BB := BB.trans (at2.mono BB.size)
                have HRd := HRd.below at2
                clear at2
                go_wp2
                go_roundw
                case rel => exact ⟨k + 1, A + t, B + m, hlt, HA1, HB1, rfl, rfl, by go_num, BB, HRd⟩
                case measure => simp [intOf]; omega
            · skip
              as_aux_lemma =>
                obtain ⟨q, hq⟩ : ∃ q, k = q + 1 := ⟨k - 1, by omega⟩
                obtain ⟨c, c1, c2⟩ := dj q hq
                have hcq := hr q (by rw [HL.out]; omega)
                rw [c1] at hcq
                have hkp : (0 : Int) < (k : Int) := by omega
                have hkd : decide ((0 : Int) < (k : Int)) = true := decide_eq_true (by omega)
                have hkd2 : decide (0 < k) = true := decide_eq_true (by omega)
                have hkq : (k : Int) - 1 = (q : Int) := by omega
                have hwq : IntKind.i64.wrap (q : Int) = (q : Int) := IntWalk.i64_in _ (by omega)
                have hq00 : (0 : Int) ≤ (q : Int) := by omega
                have hqL : (q : Int) < (L : Int) := by omega
                have hcd : decide ((d : Int) ≤ (c : Int)) = false := decide_eq_false (by omega)
                have hcd2 : decide (d ≤ c) = false := decide_eq_false (by omega)
                have hcd3 : ¬ (d : Int) ≤ (c : Int) := by omega
                clear hr dj hk0 hq c1 c2
                go_wp2_with fail
                go_quiet (fail)
                have BB := below_drewN BB nq
                have HRd := HR.out _ (below_drewN (Below.refl _ _) nq)
                go_wp2_with fail
                refine (Tc.out _).mono ?_
                rintro e zt1 ⟨rfl, at1⟩
                replace BB := BB.trans (at1.mono BB.size)
                have HRd := HRd.below at1
                clear at1
                go_wp2_with fail
                refine (Mc.out _).mono ?_
                rintro e zt2 ⟨rfl, at2⟩
                replace BB := BB.trans (at2.mono BB.size)
                have HRd := HRd.below at2
                clear at2
                go_wp2
                go_roundw
                case rel => exact ⟨k + 1, A + t, B + m, hlt, HA1, HB1, rfl, rfl, by go_num, BB, HRd⟩
                case measure => simp [intOf]; omega
          · have hki : decide ((k : Int) < (L : Int)) = false := decide_eq_false (by omega)
            have hki2 : ¬ (k : Int) < (L : Int) := by omega
            have hki3 : decide (k < L) = false := decide_eq_false (by omega)
            obtain rfl : A = (N : Int) := by rw [HA.out, show k = L by omega]; exact HwL.out
            have hB : B = if N = 1 then 1 else 0 := by rw [HB.out, show k = L by omega]; exact HgL.out
            clear HA HB HX Hel Hb Hw0 Hg0 HwL HgL
            by_cases hn1 : N = 1
            · rw [if_pos hn1] at hB
              subst hB
              have q1 : ¬ (1 : Int) < (N : Int) := by omega
              have q2 : decide ((1 : Int) < (N : Int)) = false := decide_eq_false (by omega)
              have q3 : decide (1 < N) = false := decide_eq_false (by omega)
              have q4 : ((N : Int) == 1) = true := by rw [beq_iff_eq]; omega
              have q5 : decide ((N : Int) = 1) = true := decide_eq_true (by omega)
              have q6 : decide (N = 1) = true := decide_eq_true (by omega)
              have h6 : N ≤ 600 := by omega
              clear hn1
              as_aux_lemma =>
                have q7 : decide ((N : Int) ≤ 600) = true := decide_eq_true (by omega)
                have q8 : decide (N ≤ 600) = true := decide_eq_true (by omega)
                have q9 : (N : Int) ≤ 600 := by omega
                have hcp := Lib.hid (Hcp.out h6)
                clear Hcp h6
                go_wp2
                clear q1 q2 q3 q4 q5 q6 q7 q8 q9 hki hki2 hki3
                go_loopw [41, 42] (fun x i wr => ∃ j c : Nat, 1 ≤ j ∧ j ≤ N + 1 ∧ c ≤ j ∧ Hid (c = cpC N (j - 1)) ∧ x = .int .i64 (c : Int) ∧ i = .int .i64 (j : Int) ∧ Below w.heap.size w wr) (fun _ i _ => N + 1 - (intOf i).toNat)
                case atStart => exact ⟨1, 0, Nat.le_refl _, by omega, by omega, Lib.hid rfl, rfl, rfl, BB⟩
                case round =>
                  clear BB
                  obtain ⟨j, c, hj1, hj9, hcj, HC, rfl, rfl, BB⟩ := hrel
                  by_cases hlt : j ≤ N
                  · have hji : decide ((j : Int) ≤ (N : Int)) = true := decide_eq_true (by omega)
                    have hji2 : decide (j ≤ N) = true := decide_eq_true (by omega)
                    have hji3 : (j : Int) ≤ (N : Int) := by omega
                    have hwj : IntKind.i64.wrap ((j : Int) + 1) = (j : Int) + 1 := IntWalk.i64_in _ (by omega)
                    have hwc : IntKind.i64.wrap ((c : Int) + 1) = (c : Int) + 1 := IntWalk.i64_in _ (by omega)
                    have Gc := Lib.hid (fun V => gCommon_c (N : Int) (j : Int) V (by omega) (by omega) (by omega) (by omega))
                    have hgi := dt_gcd N j
                    obtain ⟨g, hg⟩ : ∃ x, gcdF (N : Int) (j : Int) = x := ⟨_, rfl⟩
                    rw [hg] at Gc hgi
                    have hst : cpC N (j - 1 + 1) = if Nat.gcd N (j - 1 + 1) = 1 then cpC N (j - 1) + 1 else cpC N (j - 1) := rfl
                    rw [Nat.sub_add_cancel hj1] at hst
                    by_cases h1 : g = 1
                    · rw [if_pos (hgi.1 h1), ← HC.out] at hst
                      have HC1 : Hid (c + 1 = cpC N (j + 1 - 1)) := Lib.hid (by rw [Nat.add_sub_cancel, hst])
                      subst h1
                      clear hst hgi hg HC
                      go_wp2_with fail
                      refine (Gc.out _).mono ?_
                      rintro e zt ⟨rfl, nt, rfl⟩
                      replace BB := below_drewN BB nt
                      go_wp2
                      go_roundw
                      case rel => exact ⟨j + 1, c + 1, by omega, by omega, by omega, HC1, by go_num, by go_num, BB⟩
                      case measure => simp [intOf]; omega
                    · rw [if_neg (fun hh => h1 (hgi.2 hh)), ← HC.out] at hst
                      have HC1 : Hid (c = cpC N (j + 1 - 1)) := Lib.hid (by rw [Nat.add_sub_cancel, hst])
                      have hgb : (g == 1) = false := by rw [beq_eq_false_iff_ne]; exact h1
                      have hgd : decide (g = 1) = false := decide_eq_false h1
                      clear hst hgi hg HC
                      go_wp2_with fail
                      refine (Gc.out _).mono ?_
                      rintro e zt ⟨rfl, nt, rfl⟩
                      replace BB := below_drewN BB nt
                      go_wp2
                      go_roundw
                      case rel => exact ⟨j + 1, c, by omega, by omega, by omega, HC1, rfl, by go_num, BB⟩
                      case measure => simp [intOf]; omega
                  · have hji : decide ((j : Int) ≤ (N : Int)) = false := decide_eq_false (by omega)
                    have hji2 : decide (j ≤ N) = false := decide_eq_false (by omega)
                    have hji3 : ¬ (j : Int) ≤ (N : Int) := by omega
                    obtain rfl : T = c := by rw [HC.out, show j - 1 = N by omega]; exact hcp.out.symm
                    clear HC hcp
                    go_wp2
                    all_goals exact ⟨BB, rfl, rfl, rfl, rfl, rfl⟩
            · rw [if_neg hn1] at hB
              subst hB
              have q1 : (1 : Int) < (N : Int) := by omega
              have q2 : decide ((1 : Int) < (N : Int)) = true := decide_eq_true (by omega)
              have q3 : decide (1 < N) = true := decide_eq_true (by omega)
              have q4 : ((N : Int) == 1) = false := by rw [beq_eq_false_iff_ne]; omega
              have q5 : decide ((N : Int) = 1) = false := decide_eq_false (by omega)
              have q6 : decide (N = 1) = false := decide_eq_false (by omega)
              clear hn1
              by_cases h6 : N ≤ 600
              · skip
                as_aux_lemma =>
                  have q7 : decide ((N : Int) ≤ 600) = true := decide_eq_true (by omega)
                  have q8 : decide (N ≤ 600) = true := decide_eq_true (by omega)
                  have q9 : (N : Int) ≤ 600 := by omega
                  have hcp := Lib.hid (Hcp.out h6)
                  clear Hcp h6
                  go_wp2
                  clear q1 q2 q3 q4 q5 q6 q7 q8 q9 hki hki2 hki3
                  go_loopw [41, 42] (fun x i wr => ∃ j c : Nat, 1 ≤ j ∧ j ≤ N + 1 ∧ c ≤ j ∧ Hid (c = cpC N (j - 1)) ∧ x = .int .i64 (c : Int) ∧ i = .int .i64 (j : Int) ∧ Below w.heap.size w wr) (fun _ i _ => N + 1 - (intOf i).toNat)
                  case atStart => exact ⟨1, 0, Nat.le_refl _, by omega, by omega, Lib.hid rfl, rfl, rfl, BB⟩
                  case round =>
                    clear BB
                    obtain ⟨j, c, hj1, hj9, hcj, HC, rfl, rfl, BB⟩ := hrel
                    by_cases hlt : j ≤ N
                    · have hji : decide ((j : Int) ≤ (N : Int)) = true := decide_eq_true (by omega)
                      have hji2 : decide (j ≤ N) = true := decide_eq_true (by omega)
                      have hji3 : (j : Int) ≤ (N : Int) := by omega
                      have hwj : IntKind.i64.wrap ((j : Int) + 1) = (j : Int) + 1 := IntWalk.i64_in _ (by omega)
                      have hwc : IntKind.i64.wrap ((c : Int) + 1) = (c : Int) + 1 := IntWalk.i64_in _ (by omega)
                      have Gc := Lib.hid (fun V => gCommon_c (N : Int) (j : Int) V (by omega) (by omega) (by omega) (by omega))
                      have hgi := dt_gcd N j
                      obtain ⟨g, hg⟩ : ∃ x, gcdF (N : Int) (j : Int) = x := ⟨_, rfl⟩
                      rw [hg] at Gc hgi
                      have hst : cpC N (j - 1 + 1) = if Nat.gcd N (j - 1 + 1) = 1 then cpC N (j - 1) + 1 else cpC N (j - 1) := rfl
                      rw [Nat.sub_add_cancel hj1] at hst
                      by_cases h1 : g = 1
                      · rw [if_pos (hgi.1 h1), ← HC.out] at hst
                        have HC1 : Hid (c + 1 = cpC N (j + 1 - 1)) := Lib.hid (by rw [Nat.add_sub_cancel, hst])
                        subst h1
                        clear hst hgi hg HC
                        go_wp2_with fail
                        refine (Gc.out _).mono ?_
                        rintro e zt ⟨rfl, nt, rfl⟩
                        replace BB := below_drewN BB nt
                        go_wp2
                        go_roundw
                        case rel => exact ⟨j + 1, c + 1, by omega, by omega, by omega, HC1, by go_num, by go_num, BB⟩
                        case measure => simp [intOf]; omega
                      · rw [if_neg (fun hh => h1 (hgi.2 hh)), ← HC.out] at hst
                        have HC1 : Hid (c = cpC N (j + 1 - 1)) := Lib.hid (by rw [Nat.add_sub_cancel, hst])
                        have hgb : (g == 1) = false := by rw [beq_eq_false_iff_ne]; exact h1
                        have hgd : decide (g = 1) = false := decide_eq_false h1
                        clear hst hgi hg HC
                        go_wp2_with fail
                        refine (Gc.out _).mono ?_
                        rintro e zt ⟨rfl, nt, rfl⟩
                        replace BB := below_drewN BB nt
                        go_wp2
                        go_roundw
                        case rel => exact ⟨j + 1, c, by omega, by omega, by omega, HC1, rfl, by go_num, BB⟩
                        case measure => simp [intOf]; omega
                    · have hji : decide ((j : Int) ≤ (N : Int)) = false := decide_eq_false (by omega)
                      have hji2 : decide (j ≤ N) = false := decide_eq_false (by omega)
                      have hji3 : ¬ (j : Int) ≤ (N : Int) := by omega
                      obtain rfl : T = c := by rw [HC.out, show j - 1 = N by omega]; exact hcp.out.symm
                      clear HC hcp
                      go_wp2
                      all_goals exact ⟨BB, rfl, rfl, rfl, rfl, rfl⟩
              · have q7 : decide ((N : Int) ≤ 600) = false := decide_eq_false (by omega)
                have q8 : decide (N ≤ 600) = false := decide_eq_false (by omega)
                have q9 : ¬ (N : Int) ≤ 600 := by omega
                clear h6
                go_wp2
                all_goals exact ⟨BB, rfl, rfl, rfl, rfl, rfl⟩
  case tail =>
    as_aux_lemma =>
    clear hKK BB HX HY HL hl GXS GCV GDV GTV GMV GPV GOK
    rintro a' w' ⟨BB, hd, hs, k1, k2, k3⟩
    obtain ⟨u, hu⟩ : ∃ u : Nat → Value, ∀ i, a'.tmps.getD i undef = u i := ⟨_, fun _ => rfl⟩
    have ha := act_by a' 445 hd hs (fun i => if i = 1 then .int .i64 am else if i = 2 then .int .i64 ast else if i = 3 then .int .i64 aa else u i) (fun i hi => by
      by_cases e1 : i = 1
      · subst e1; exact k1
      rw [if_neg e1]
      by_cases e2 : i = 2
      · subst e2; exact k2
      rw [if_neg e2]
      by_cases e3 : i = 3
      · subst e3; exact k3
      rw [if_neg e3]
      exact hu i)
    replace ha : a' = ⟨#[u 0, .int .i64 am, .int .i64 ast, .int .i64 aa, u 4, u 5, u 6, u 7, u 8, u 9, u 10, u 11, u 12, u 13, u 14, u 15, u 16, u 17, u 18, u 19, u 20, u 21, u 22, u 23, u 24, u 25, u 26, u 27, u 28, u 29, u 30, u 31, u 32, u 33, u 34, u 35, u 36, u 37, u 38, u 39, u 40, u 41, u 42, u 43, u 44, u 45, u 46, u 47, u 48, u 49, u 50, u 51, u 52, u 53, u 54, u 55, u 56, u 57, u 58, u 59, u 60, u 61, u 62, u 63, u 64, u 65, u 66, u 67, u 68, u 69, u 70, u 71, u 72, u 73, u 74, u 75, u 76, u 77, u 78, u 79, u 80, u 81, u 82, u 83, u 84, u 85, u 86, u 87, u 88, u 89, u 90, u 91, u 92, u 93, u 94, u 95, u 96, u 97, u 98, u 99, u 100, u 101, u 102, u 103, u 104, u 105, u 106, u 107, u 108, u 109, u 110, u 111, u 112, u 113, u 114, u 115, u 116, u 117, u 118, u 119, u 120, u 121, u 122, u 123, u 124, u 125, u 126, u 127, u 128, u 129, u 130, u 131, u 132, u 133, u 134, u 135, u 136, u 137, u 138, u 139, u 140, u 141, u 142, u 143, u 144, u 145, u 146, u 147, u 148, u 149, u 150, u 151, u 152, u 153, u 154, u 155, u 156, u 157, u 158, u 159, u 160, u 161, u 162, u 163, u 164, u 165, u 166, u 167, u 168, u 169, u 170, u 171, u 172, u 173, u 174, u 175, u 176, u 177, u 178, u 179, u 180, u 181, u 182, u 183, u 184, u 185, u 186, u 187, u 188, u 189, u 190, u 191, u 192, u 193, u 194, u 195, u 196, u 197, u 198, u 199, u 200, u 201, u 202, u 203, u 204, u 205, u 206, u 207, u 208, u 209, u 210, u 211, u 212, u 213, u 214, u 215, u 216, u 217, u 218, u 219, u 220, u 221, u 222, u 223, u 224, u 225, u 226, u 227, u 228, u 229, u 230, u 231, u 232, u 233, u 234, u 235, u 236, u 237, u 238, u 239, u 240, u 241, u 242, u 243, u 244, u 245, u 246, u 247, u 248, u 249, u 250, u 251, u 252, u 253, u 254, u 255, u 256, u 257, u 258, u 259, u 260, u 261, u 262, u 263, u 264, u 265, u 266, u 267, u 268, u 269, u 270, u 271, u 272, u 273, u 274, u 275, u 276, u 277, u 278, u 279, u 280, u 281, u 282, u 283, u 284, u 285, u 286, u 287, u 288, u 289, u 290, u 291, u 292, u 293, u 294, u 295, u 296, u 297, u 298, u 299, u 300, u 301, u 302, u 303, u 304, u 305, u 306, u 307, u 308, u 309, u 310, u 311, u 312, u 313, u 314, u 315, u 316, u 317, u 318, u 319, u 320, u 321, u 322, u 323, u 324, u 325, u 326, u 327, u 328, u 329, u 330, u 331, u 332, u 333, u 334, u 335, u 336, u 337, u 338, u 339, u 340, u 341, u 342, u 343, u 344, u 345, u 346, u 347, u 348, u 349, u 350, u 351, u 352, u 353, u 354, u 355, u 356, u 357, u 358, u 359, u 360, u 361, u 362, u 363, u 364, u 365, u 366, u 367, u 368, u 369, u 370, u 371, u 372, u 373, u 374, u 375, u 376, u 377, u 378, u 379, u 380, u 381, u 382, u 383, u 384, u 385, u 386, u 387, u 388, u 389, u 390, u 391, u 392, u 393, u 394, u 395, u 396, u 397, u 398, u 399, u 400, u 401, u 402, u 403, u 404, u 405, u 406, u 407, u 408, u 409, u 410, u 411, u 412, u 413, u 414, u 415, u 416, u 417, u 418, u 419, u 420, u 421, u 422, u 423, u 424, u 425, u 426, u 427, u 428, u 429, u 430, u 431, u 432, u 433, u 434, u 435, u 436, u 437, u 438, u 439, u 440, u 441, u 442, u 443, u 444], []⟩ := ha.trans (by kernel_rfl)
    subst ha
    clear hu hd hs k1 k2 k3
    repeat (rename_i x; clear x)
    have F1 := Lib.hid (fun W => impl_SumWay_c W am ast)
    have F2 := Lib.hid (fun W => spec_SumWay_c W am ast)
    have hl := swA_len am ast
    obtain ⟨YS, hYS⟩ : ∃ x, swA am ast = x := ⟨_, rfl⟩
    rw [hYS] at F1 F2 hl
    have GYS := Lib.hid hYS
    clear hYS
    obtain ⟨SO, hSO⟩ : ∃ x, swOk am ast = x := ⟨_, rfl⟩
    rw [hSO] at F1 F2
    have GSO := Lib.hid hSO
    clear hSO
    obtain ⟨L, hL⟩ : ∃ l, YS.length = l := ⟨_, rfl⟩
    rw [hL] at hl
    have HL := Lib.hid hL
    clear hL
    go_wp2_with fail
    refine (F1.out _).mono ?_
    rintro e zU ⟨⟨vU, rfl, oU⟩, aU⟩
    replace BB := BB.trans (aU.mono BB.size)
    obtain ⟨AU, cU, rfl⟩ := oU.shape
    have HU := Il_of_own oU
    rw [HL.out]
    clear oU aU
    go_wp2_with fail
    refine (F2.out _).mono ?_
    rintro e zV ⟨⟨vV, rfl, oV⟩, aV⟩
    replace BB := BB.trans (aV.mono BB.size)
    have HU := HU.below aV
    obtain ⟨AV1, cV, rfl⟩ := oV.shape
    have HV := Il_of_own oV
    rw [HL.out]
    clear oV aV
    clear F1 F2
    have A1 := Lib.hid (fun W => impl_AmicableOf_c W aa)
    have A2 := Lib.hid (fun W => spec_AmicableOf_c W aa)
    obtain ⟨AV, hAV⟩ : ∃ x, amV aa = x := ⟨_, rfl⟩
    rw [hAV] at A1 A2
    have GAV := Lib.hid hAV
    clear hAV
    obtain ⟨AO, hAO⟩ : ∃ x, amOk aa = x := ⟨_, rfl⟩
    rw [hAO] at A1 A2
    have GAO := Lib.hid hAO
    clear hAO
    go_wp2_with fail
    refine (A1.out _).mono ?_
    rintro e zp1 ⟨rfl, ap1⟩
    replace BB := BB.trans (ap1.mono BB.size)
    have HU := HU.below ap1
    have HV := HV.below ap1
    clear ap1
    go_wp2_with fail
    refine (A2.out _).mono ?_
    rintro e zp2 ⟨rfl, ap2⟩
    replace BB := BB.trans (ap2.mono BB.size)
    have HU := HU.below ap2
    have HV := HV.below ap2
    clear ap2
    clear A1 A2
    rename (∀ (a : Act) (w : World), Code.wp _ _ _ a w → _) => hKK
    refine cut_k hKK (fun a' w' => Below w.heap.size w w' ∧ a'.defers = [] ∧ a'.tmps.size = 445 ∧ a'.tmps.getD 3 undef = .int .i64 aa ∧ a'.tmps.getD 47 undef = .int .i64 AV ∧ a'.tmps.getD 48 undef = .bool AO) ?main ?tail
    case main =>
      as_aux_lemma =>
        intro hK3
        clear hKK
        go_wp2_with fail
        intro K2 hR2 K1 hx1
        go_wp2_with fail
        refine (gSame_c AU AV1 L L cU cV YS _ HU HV HL.out.symm HL.out.symm hl).mono ?_
        rintro e zs2 ⟨rfl, as2⟩
        replace BB := BB.trans (as2.mono BB.size)
        have HU := HU.below as2
        clear as2
        clear HV
        cases hso : SO with
        | false =>
          subst hso
          clear HU
          go_wp2
          all_goals exact ⟨BB, rfl, rfl, rfl, rfl, rfl⟩
        | true =>
          have h0 := GSO.out.trans hso
          subst hso
          have h00 := h0
          rw [swOk, Bool.and_eq_true] at h00
          obtain ⟨n1, n9⟩ := inB_true.1 h00.1
          obtain ⟨s1, s9⟩ := inB_true.1 h00.2
          obtain ⟨M, rfl⟩ := Int.eq_ofNat_of_zero_le (Int.le_trans (by omega) n1)
          obtain ⟨S, rfl⟩ := Int.eq_ofNat_of_zero_le s1
          obtain ⟨YS2, e1, l1, l2, l3, hway, z, hz, hzs⟩ := dt_way (M := M) (S := S) (by omega) (by omega) (by omega)
          obtain rfl : YS = YS2 := by rw [← GYS.out, swA_yes h0, e1]
          rw [HL.out] at l1 l2 hway hz hzs
          have S9 : S ≤ 20 := by omega
          have M9 : M ≤ 1000000 := by omega
          have Hway := Lib.hid hway
          have Hz := Lib.hid hz
          have Hzs := Lib.hid hzs
          clear GYS GSO h0 h00 n1 n9 s1 s9 e1 hway hz hzs
          obtain ⟨b, off, rfl, hb1, hr⟩ := HU (by rw [HL.out]; omega)
          have hc0 := hr 0 (by rw [HL.out]; omega)
          rw [Nat.add_zero, l3] at hc0
          have hL0 : (0 : Int) < (L : Int) := by omega
          have hwS : IntKind.i64.wrap ((S : Int) + 1) = (S : Int) + 1 := IntWalk.i64_in _ (by omega)
          have hs1 : decide ((S : Int) + 1 < (L : Int)) = false := decide_eq_false (by omega)
          have hs2 : decide (S + 1 < L) = false := decide_eq_false (by omega)
          have hs3 : ¬ (S : Int) + 1 < (L : Int) := by omega
          clear hr l3
          go_wp2
          clear hc0 hL0 hs1 hs2 hs3 hwS
          go_loopw [51] (fun i wr => ∃ k : Nat, 1 ≤ k ∧ k ≤ L ∧ i = .int .i64 (k : Int) ∧ Below w.heap.size w wr ∧ Il wr (some ⟨b, off, none⟩) YS) (fun i _ => L - (intOf i).toNat)
          case atStart => exact ⟨1, Nat.le_refl _, l1, rfl, BB, HU⟩
          case round =>
            clear BB HU
            obtain ⟨k, hk1, hk, rfl, BB, HU⟩ := hrel
            by_cases hlt : k < L
            · obtain ⟨q, hq⟩ : ∃ q, k = q + 1 := ⟨k - 1, by omega⟩
              obtain ⟨m, m1, m2, m3⟩ := Hway.out q (by omega)
              rw [← hq] at m3
              obtain ⟨V, hV⟩ : ∃ x, ivL YS k = x := ⟨_, rfl⟩
              have hki : decide ((k : Int) < (L : Int)) = true := decide_eq_true (by omega)
              have hki2 : (k : Int) < (L : Int) := by omega
              have hki3 : decide (k < L) = true := decide_eq_true (by omega)
              have hk00 : (0 : Int) ≤ (k : Int) := by omega
              have HR : Hid (∀ W, Below wr.heap.size wr W → Il W (some ⟨b, off, none⟩) YS) := Lib.hid fun W hB => HU.below hB
              obtain ⟨hb, hr⟩ := Il_at HU (by rw [HL.out]; omega)
              have hck := hr k (by rw [HL.out]; exact hlt)
              have hcq := hr q (by rw [HL.out]; omega)
              rw [hV] at hck m3
              rw [m1] at hcq
              have Ps := Lib.hid (fun W => impl_SumStep_c W (m : Int))
              rw [m2, m3] at Ps
              have hkq : (k : Int) - 1 = (q : Int) := by omega
              have hwq : IntKind.i64.wrap (q : Int) = (q : Int) := IntWalk.i64_in _ (by omega)
              have hq00 : (0 : Int) ≤ (q : Int) := by omega
              have hqL : (q : Int) < (L : Int) := by omega
              have hwk : IntKind.i64.wrap ((k : Int) + 1) = (k : Int) + 1 := IntWalk.i64_in _ (by omega)
              clear hr hV m1 m2 m3 hq HU
              go_wp2_with fail
              refine (Ps.out _).mono ?_
              rintro e zq1 ⟨rfl, aq1⟩
              replace BB := BB.trans (aq1.mono BB.size)
              have H9 := HR.out _ aq1
              have hck := (aq1.cell (p := ⟨b, off + k, none⟩) hb).trans hck
              clear aq1 hcq
              go_wp2
              go_roundw
              case rel => exact ⟨k + 1, by omega, hlt, by go_num, BB, H9⟩
              case measure => simp [intOf]; omega
            · have hki : decide ((k : Int) < (L : Int)) = false := decide_eq_false (by omega)
              have hki2 : ¬ (k : Int) < (L : Int) := by omega
              have hki3 : decide (k < L) = false := decide_eq_false (by omega)
              obtain ⟨hb, hr⟩ := Il_at HU (by rw [HL.out]; omega)
              have hcz := hr (L - 1) (by rw [HL.out]; omega)
              rw [Hz.out] at hcz
              obtain ⟨J, hJ⟩ : ∃ J, L - 1 = J := ⟨_, rfl⟩
              rw [hJ] at hcz
              have hJ1 : (L : Int) - 1 = (J : Int) := by omega
              have hwJ : IntKind.i64.wrap (J : Int) = (J : Int) := IntWalk.i64_in _ (by omega)
              have hJ0 : (0 : Int) ≤ (J : Int) := by omega
              have hJL : (J : Int) < (L : Int) := by omega
              have hwS : IntKind.i64.wrap ((S : Int) + 1) = (S : Int) + 1 := IntWalk.i64_in _ (by omega)
              have hzz := Hzs.out
              obtain ⟨Z, hZ⟩ : ∃ x : Int, (z : Int) = x := ⟨_, rfl⟩
              rw [hZ] at hcz
              clear hr HU Hway Hz Hzs hJ
              by_cases hs : L < S + 1
              · have hz2 := hzz hs
                have p1 : decide ((L : Int) < (S : Int) + 1) = true := decide_eq_true (by omega)
                have p2 : decide (L < S + 1) = true := decide_eq_true (by omega)
                have p3 : (L : Int) < (S : Int) + 1 := by omega
                by_cases hz0 : Z = 0
                · subst hz0
                  clear hz2 hzz hZ
                  go_wp2
                  all_goals exact ⟨BB, rfl, rfl, rfl, rfl, rfl⟩
                · have p4 : (Z == 0) = false := by rw [beq_eq_false_iff_ne]; exact hz0
                  have p5 : (Z != 0) = true := by rw [bne_iff_ne]; exact hz0
                  have p6 : decide (Z = 0) = false := decide_eq_false hz0
                  have p7 : decide (Z ≤ 1000000) = false := decide_eq_false (by omega)
                  have p8 : ¬ Z ≤ 1000000 := by omega
                  clear hz2 hzz hZ hz0
                  go_wp2
                  all_goals exact ⟨BB, rfl, rfl, rfl, rfl, rfl⟩
              · have p1 : decide ((L : Int) < (S : Int) + 1) = false := decide_eq_false (by omega)
                have p2 : decide (L < S + 1) = false := decide_eq_false (by omega)
                have p3 : ¬ (L : Int) < (S : Int) + 1 := by omega
                clear hzz hZ
                go_wp2
                all_goals exact ⟨BB, rfl, rfl, rfl, rfl, rfl⟩
    case tail =>
      as_aux_lemma =>
      clear hKK BB HU HV HL hl GYS GSO
      rintro a' w' ⟨BB, hd, hs, k3, k47, k48⟩
      obtain ⟨u, hu⟩ : ∃ u : Nat → Value, ∀ i, a'.tmps.getD i undef = u i := ⟨_, fun _ => rfl⟩
      have ha := act_by a' 445 hd hs (fun i => if i = 3 then .int .i64 aa else if i = 47 then .int .i64 AV else if i = 48 then .bool AO else u i) (fun i hi => by
        by_cases e3 : i = 3
        · subst e3; exact k3
        rw [if_neg e3]
        by_cases e47 : i = 47
        · subst e47; exact k47
        rw [if_neg e47]
        by_cases e48 : i = 48
        · subst e48; exact k48
        rw [if_neg e48]
        exact hu i)
      replace ha : a' = ⟨#[u 0, u 1, u 2, .int .i64 aa, u 4, u 5, u 6, u 7, u 8, u 9, u 10, u 11, u 12, u 13, u 14, u 15, u 16, u 17, u 18, u 19, u 20, u 21, u 22, u 23, u 24, u 25, u 26, u 27, u 28, u 29, u 30, u 31, u 32, u 33, u 34, u 35, u 36, u 37, u 38, u 39, u 40, u 41, u 42, u 43, u 44, u 45, u 46, .int .i64 AV, .bool AO, u 49, u 50, u 51, u 52, u 53, u 54, u 55, u 56, u 57, u 58, u 59, u 60, u 61, u 62, u 63, u 64, u 65, u 66, u 67, u 68, u 69, u 70, u 71, u 72, u 73, u 74, u 75, u 76, u 77, u 78, u 79, u 80, u 81, u 82, u 83, u 84, u 85, u 86, u 87, u 88, u 89, u 90, u 91, u 92, u 93, u 94, u 95, u 96, u 97, u 98, u 99, u 100, u 101, u 102, u 103, u 104, u 105, u 106, u 107, u 108, u 109, u 110, u 111, u 112, u 113, u 114, u 115, u 116, u 117, u 118, u 119, u 120, u 121, u 122, u 123, u 124, u 125, u 126, u 127, u 128, u 129, u 130, u 131, u 132, u 133, u 134, u 135, u 136, u 137, u 138, u 139, u 140, u 141, u 142, u 143, u 144, u 145, u 146, u 147, u 148, u 149, u 150, u 151, u 152, u 153, u 154, u 155, u 156, u 157, u 158, u 159, u 160, u 161, u 162, u 163, u 164, u 165, u 166, u 167, u 168, u 169, u 170, u 171, u 172, u 173, u 174, u 175, u 176, u 177, u 178, u 179, u 180, u 181, u 182, u 183, u 184, u 185, u 186, u 187, u 188, u 189, u 190, u 191, u 192, u 193, u 194, u 195, u 196, u 197, u 198, u 199, u 200, u 201, u 202, u 203, u 204, u 205, u 206, u 207, u 208, u 209, u 210, u 211, u 212, u 213, u 214, u 215, u 216, u 217, u 218, u 219, u 220, u 221, u 222, u 223, u 224, u 225, u 226, u 227, u 228, u 229, u 230, u 231, u 232, u 233, u 234, u 235, u 236, u 237, u 238, u 239, u 240, u 241, u 242, u 243, u 244, u 245, u 246, u 247, u 248, u 249, u 250, u 251, u 252, u 253, u 254, u 255, u 256, u 257, u 258, u 259, u 260, u 261, u 262, u 263, u 264, u 265, u 266, u 267, u 268, u 269, u 270, u 271, u 272, u 273, u 274, u 275, u 276, u 277, u 278, u 279, u 280, u 281, u 282, u 283, u 284, u 285, u 286, u 287, u 288, u 289, u 290, u 291, u 292, u 293, u 294, u 295, u 296, u 297, u 298, u 299, u 300, u 301, u 302, u 303, u 304, u 305, u 306, u 307, u 308, u 309, u 310, u 311, u 312, u 313, u 314, u 315, u 316, u 317, u 318, u 319, u 320, u 321, u 322, u 323, u 324, u 325, u 326, u 327, u 328, u 329, u 330, u 331, u 332, u 333, u 334, u 335, u 336, u 337, u 338, u 339, u 340, u 341, u 342, u 343, u 344, u 345, u 346, u 347, u 348, u 349, u 350, u 351, u 352, u 353, u 354, u 355, u 356, u 357, u 358, u 359, u 360, u 361, u 362, u 363, u 364, u 365, u 366, u 367, u 368, u 369, u 370, u 371, u 372, u 373, u 374, u 375, u 376, u 377, u 378, u 379, u 380, u 381, u 382, u 383, u 384, u 385, u 386, u 387, u 388, u 389, u 390, u 391, u 392, u 393, u 394, u 395, u 396, u 397, u 398, u 399, u 400, u 401, u 402, u 403, u 404, u 405, u 406, u 407, u 408, u 409, u 410, u 411, u 412, u 413, u 414, u 415, u 416, u 417, u 418, u 419, u 420, u 421, u 422, u 423, u 424, u 425, u 426, u 427, u 428, u 429, u 430, u 431, u 432, u 433, u 434, u 435, u 436, u 437, u 438, u 439, u 440, u 441, u 442, u 443, u 444], []⟩ := ha.trans (by kernel_rfl)
      subst ha
      clear hu hd hs k3 k47 k48
      repeat (rename_i x; clear x)
      cases hao : AO with
      | false =>
        subst hao
        clear GAV GAO
        go_wp2
        go_ret
        exact ⟨rfl, BB⟩
      | true =>
        obtain ⟨o, o1, o2, o3⟩ := dt_am (GAO.out.trans hao)
        subst hao
        obtain rfl : AV = (o : Int) := by rw [← GAV.out]; exact o1
        clear GAV GAO o1
        by_cases h9 : o ≤ 1000000
        · obtain ⟨x1, x2⟩ := o3 h9
          have Ba := Lib.hid (fun W => impl_AmicableOf_c W (o : Int))
          rw [x1, x2] at Ba
          have p1 : decide ((o : Int) ≤ 1000000) = true := decide_eq_true (by omega)
          have p2 : decide (o ≤ 1000000) = true := decide_eq_true (by omega)
          have p3 : (o : Int) ≤ 1000000 := by omega
          have p4 : ((o : Int) == aa) = false := by rw [beq_eq_false_iff_ne]; exact o2
          have p5 : ((o : Int) != aa) = true := by rw [bne_iff_ne]; exact o2
          have p6 : decide ((o : Int) = aa) = false := decide_eq_false o2
          clear o3 h9 x1 x2
          go_wp2_with fail
          refine (Ba.out _).mono ?_
          rintro e zb ⟨rfl, ab⟩
          replace BB := BB.trans (ab.mono BB.size)
          clear ab Ba
          go_wp2
          go_ret
          exact ⟨rfl, BB⟩
        · have p1 : decide ((o : Int) ≤ 1000000) = false := decide_eq_false (by omega)
          have p2 : decide (o ≤ 1000000) = false := decide_eq_false (by omega)
          have p3 : ¬ (o : Int) ≤ 1000000 := by omega
          clear o2 o3 h9
          go_wp2
          go_ret
          exact ⟨rfl, BB⟩

set_option maxRecDepth 100000 in
theorem lifted_FnDivisorsToldOfAll (os : Os) (started : os.Started) (H : Type) (enc : TypeId × Value → H) :
    ReturnsInHanded {} Try.checked os 4 .any (Rows.fnDivisorsToldOfAllSpec.pre6 enc Try.prog Try.f4 Rows.fnDivisorsToldOfAllRow.domain false) (Rows.fnDivisorsToldOfAllSpec.post enc Try.prog Try.f4 false true false false) := by
  refine returnsInHanded_of_change (C := Try.checked) own started (by kernel_rfl) Try.func4
    (ChangeSpec.witness6 (enc := enc) (C := Try.checked) false ⟨#[], #[.int .i64 0, .int .i64 0, .int .i64 0, .int .i64 0], []⟩ 8 (by kernel_rfl) (by kernel_rfl) (by kernel_rfl) (by kernel_rfl)) ?_
  intro W base args ds gs before hval0 hW hcnd _
  have hval : ∀ (j : Nat) t v, Try.f4.params[j]? = some t → args[j]? = some v → Value.okWide Try.prog W .any base t v := hval0
  have hW' := hW
  obtain ⟨p, q, hA0, hV, rfl, hfz, hnd⟩ := hW
  have hA : DataW.TrodAll enc Try.prog W 0 (fun _ => true) true Try.f4.params.toList args.toList ds p := hA0
  rw [Try.params4] at hA hval
  obtain ⟨v0, vs0, d0, ds0, p0, q0, hargs, rfl, rfl, h0, r0⟩ := trodAll_cons hA
  obtain ⟨v1, vs1, d1, ds1, p1, q1, rfl, rfl, rfl, h1, r1⟩ := trodAll_cons r0
  obtain ⟨v2, vs2, d2, ds2, p2, q2, rfl, rfl, rfl, h2, r2⟩ := trodAll_cons r1
  obtain ⟨v3, vs3, d3, ds3, p3, q3, rfl, rfl, rfl, h3, r3⟩ := trodAll_cons r2
  obtain ⟨rfl, rfl, rfl⟩ := trodAll_nil r3
  obtain rfl : args = #[v0, v1, v2, v3] := by cases args; simp_all
  obtain ⟨rfl, rfl⟩ := trodVars_none hV
  have k0 := h0
  have lt0 : ∀ x ∈ p0, x.block < W.heap.size := by obtain ⟨m, hm⟩ := k0; exact DataW.trod_lt m _ _ _ hm
  obtain ⟨a0, rfl, _, _, i0⟩ := open_int Try.underlying3 (hval 0 3 v0 rfl rfl) h0
  have k1 := h1
  have lt1 : ∀ x ∈ p1, x.block < W.heap.size := by obtain ⟨m, hm⟩ := k1; exact DataW.trod_lt m _ _ _ hm
  obtain ⟨a1, rfl, _, _, i1⟩ := open_int Try.underlying3 (hval 1 3 v1 rfl rfl) h1
  have k2 := h2
  have lt2 : ∀ x ∈ p2, x.block < W.heap.size := by obtain ⟨m, hm⟩ := k2; exact DataW.trod_lt m _ _ _ hm
  obtain ⟨a2, rfl, _, _, i2⟩ := open_int Try.underlying3 (hval 2 3 v2 rfl rfl) h2
  have k3 := h3
  have lt3 : ∀ x ∈ p3, x.block < W.heap.size := by obtain ⟨m, hm⟩ := k3; exact DataW.trod_lt m _ _ _ hm
  obtain ⟨a3, rfl, _, _, i3⟩ := open_int Try.underlying3 (hval 3 3 v3 rfl rfl) h3
  clear hA0 hval0
  refine (walk_FnDivisorsToldOfAll W a0 i0 a1 i1 a2 i2 a3 i3).mono fun e W' ⟨he, bel⟩ => ?_
  subst he
  exact ⟨_, rfl, _, _, _, [], _, [], hW', trodAll_mk1 (shut_bool Try.underlying4 _), (trodAll_cons_mk (Below.trod laidOut (by kernel_rfl) (of_decide_eq_true (by kernel_rfl)) k0 bel lt0) (trodAll_cons_mk (Below.trod laidOut (by kernel_rfl) (of_decide_eq_true (by kernel_rfl)) k1 bel lt1) (trodAll_cons_mk (Below.trod laidOut (by kernel_rfl) (of_decide_eq_true (by kernel_rfl)) k2 bel lt2) (trodAll_cons_mk (Below.trod laidOut (by kernel_rfl) (of_decide_eq_true (by kernel_rfl)) k3 bel lt3) trodAll_mk0)))), rfl, bel.frame _, fun h => by cases h⟩

theorem closed_FnDivisorsToldOfAll : joinedFacts Try.prog 4 Try.f4 Rows.fnDivisorsToldOfAllSpec Rows.fnDivisorsToldOfAllRow = true := by
  unfold joinedFacts
  rw [head_enters, head_final, head_make]
  kernel_rfl
theorem over_FnDivisorsToldOfAll : Rows.fnDivisorsToldOfAllRow.holds Try.pinned (OpenSpec.ofChange Rows.fnDivisorsToldOfAllSpec) :=
  OpenClaim.holds_of_wide 4 Try.f4 rfl rfl rfl rfl rfl rfl rfl ⟨rfl, rfl, rfl, rfl, rfl⟩ rfl rfl rfl rfl rfl (by kernel_rfl) Try.func4 closed_FnDivisorsToldOfAll
    (of_decide_eq_true (by kernel_rfl)) (by unfold Func.isWrapper; first | (rw [if_pos (by decide +kernel)]; kernel_rfl) | (rw [if_neg (by decide +kernel)]; exact ⟨rfl, rfl⟩))
    (fun os started H enc _ => lifted_FnDivisorsToldOfAll os started H enc)

theorem fnDivisorsToldOfAll_holds : Rows.FnDivisorsToldOfAllSaid := over_FnDivisorsToldOfAll

end Go.Proofs.Ytapjbppkekigaab
