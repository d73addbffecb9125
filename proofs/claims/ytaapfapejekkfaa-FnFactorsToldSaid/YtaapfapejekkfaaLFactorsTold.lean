/- For every two slices of bytes that come in, laws.FnFactorsTold returns true. Conditions: none. -/
import Derived.Test.YtaapfapejekkfaaOD
import Derived.Test.YtaapfapejekkfaaOE
import Derived.Test.YtaapfapejekkfaaOA
import Derived.Test.YtaapfapejekkfaaO7
import Derived.Test.YtaapfapejekkfaaGE
import Derived.Test.YtaapfapejekkfaaGG
import Derived.Test.YtaapfapejekkfaaL0
import Derived.Test.YtaapfapejekkfaaO3
import Derived.Test.YtaapfapejekkfaaOG
namespace Go.Proofs.Ytaapfapejekkfaa
open Go.ChangeShapes Go.WideShapes Go.ChangeAt Go.RowKit Go.Deep
set_option maxRecDepth 100000
set_option linter.unusedVariables false
set_option linter.unusedSimpArgs false

set_option maxHeartbeats 40000000 in
theorem walk_FnFactorsTold (w : World) (AA : Option Addr) (nA cA : Nat) (mA : nA ≤ 9223372036854775807) (yA : Byt w w.heap.size AA nA) (AB : Option Addr) (nB cB : Nat) (mB : nB ≤ 9223372036854775807) (yB : Byt w w.heap.size AB nB) :
    Calls Try.prog 5 #[.slice AA nA cA, .slice AB nB cB] w fun e w' => e = .returned (.bool true) ∧ Below w.heap.size w w' := by
  have YA := Lib.hid yA
  have YB := Lib.hid yB
  clear yA yB
  by_cases hn : nA + nB ≤ 1048576
  rotate_left
  · go_enter Try.func5, Try.ntmps5
    go_wp2_with fail
    refine (big_c _ AA AB nA cA nB cB mA mB).mono ?_
    rw [decide_eq_false hn]
    rintro e w0 ⟨rfl, rfl⟩
    go_wp2
    go_ret
    exact ⟨rfl, Below.refl _ _⟩
  go_enter Try.func5, Try.ntmps5
  go_wp2_with fail
  refine (big_c _ AA AB nA cA nB cB mA mB).mono ?_
  rw [decide_eq_true hn]
  rintro e w0 ⟨rfl, rfl⟩
  go_wp2_with fail
  refine (DrawFactorsOf_c _ AA nA cA YA.out (by omega)).mono ?_
  rintro e wd ⟨⟨an, rfl⟩, BB⟩
  have C1 := Lib.hid (fun W => impl_FactorsOf_c W an)
  have C2 := Lib.hid (fun W => spec_FactorsOf_c W an)
  have C3 := Lib.hid (fun W => impl_RadicalOf_c W an)
  have C4 := Lib.hid (fun W => spec_RadicalOf_c W an)
  have C5 := Lib.hid (fun W => impl_LeastFactor_c W an)
  have C6 := Lib.hid (fun W => spec_LeastFactor_c W an)
  have C7 := Lib.hid (fun W => impl_IsPrime_c W an)
  have C8 := Lib.hid (fun W => spec_IsPrime_c W an)
  obtain ⟨hl1, hl2⟩ := faA_len an
  have hro : raOk an = faOk an := rfl
  rw [hro] at C3 C4
  obtain ⟨PS, hPS⟩ : ∃ x, faA an = x := ⟨_, rfl⟩
  rw [hPS] at C1 C2 hl1 hl2
  obtain ⟨FO, hFO⟩ : ∃ x, faOk an = x := ⟨_, rfl⟩
  rw [hFO] at C1 C2 C3 C4
  obtain ⟨RV, hRV⟩ : ∃ x, raV an = x := ⟨_, rfl⟩
  rw [hRV] at C3 C4
  obtain ⟨LV, hLV⟩ : ∃ x, lfV an = x := ⟨_, rfl⟩
  rw [hLV] at C5 C6
  obtain ⟨LO, hLO⟩ : ∃ x, lfOk an = x := ⟨_, rfl⟩
  rw [hLO] at C5 C6
  obtain ⟨PV, hPV⟩ : ∃ x, isPV an = x := ⟨_, rfl⟩
  rw [hPV] at C7 C8
  obtain ⟨PO, hPO⟩ : ∃ x, isPOk an = x := ⟨_, rfl⟩
  rw [hPO] at C7 C8
  obtain ⟨L, hL⟩ : ∃ l, PS.length = l := ⟨_, rfl⟩
  have HL := Lib.hid hL
  have Hl2 := Lib.hid hl2
  rw [hL] at hl1
  clear hL hro hl2
  have GPS := Lib.hid hPS
  clear hPS
  have GFO := Lib.hid hFO
  clear hFO
  have GRV := Lib.hid hRV
  clear hRV
  have GLV := Lib.hid hLV
  clear hLV
  have GLO := Lib.hid hLO
  clear hLO
  have GPV := Lib.hid hPV
  clear hPV
  have GPO := Lib.hid hPO
  clear hPO
  go_wp2_with fail
  refine (C1.out _).mono ?_
  rintro e z1 ⟨⟨v1, rfl, o1⟩, a1⟩
  replace BB := BB.trans (a1.mono BB.size)
  obtain ⟨A1, c1, rfl⟩ := o1.shape
  have H1 := Lr_of_own o1
  rw [HL.out]
  go_wp2_with fail
  refine (C2.out _).mono ?_
  rintro e z2 ⟨⟨v2, rfl, o2⟩, a2⟩
  replace BB := BB.trans (a2.mono BB.size)
  obtain ⟨A2, c2, rfl⟩ := o2.shape
  have H2 := Lr_of_own o2
  rw [HL.out]
  have H1 := H1.below a2
  clear o1 o2
  go_wp2_with fail
  refine (C3.out _).mono ?_
  rintro e z3 ⟨rfl, a3⟩
  replace BB := BB.trans (a3.mono BB.size)
  have H1 := H1.below a3
  have H2 := H2.below a3
  go_wp2_with fail
  refine (C4.out _).mono ?_
  rintro e z4 ⟨rfl, a4⟩
  replace BB := BB.trans (a4.mono BB.size)
  have H1 := H1.below a4
  have H2 := H2.below a4
  go_wp2_with fail
  refine (C5.out _).mono ?_
  rintro e z5 ⟨rfl, a5⟩
  replace BB := BB.trans (a5.mono BB.size)
  have H1 := H1.below a5
  have H2 := H2.below a5
  go_wp2_with fail
  refine (C6.out _).mono ?_
  rintro e z6 ⟨rfl, a6⟩
  replace BB := BB.trans (a6.mono BB.size)
  have H1 := H1.below a6
  have H2 := H2.below a6
  go_wp2_with fail
  refine (C7.out _).mono ?_
  rintro e z7 ⟨rfl, a7⟩
  replace BB := BB.trans (a7.mono BB.size)
  have H1 := H1.below a7
  have H2 := H2.below a7
  go_wp2_with fail
  refine (C8.out _).mono ?_
  rintro e z8 ⟨rfl, a8⟩
  replace BB := BB.trans (a8.mono BB.size)
  have H1 := H1.below a8
  have H2 := H2.below a8
  clear a1 a2 a3 a4 a5 a6 a7 a8
  clear C1 C2 C3 C4 C5 C6 C7 C8
  rename (∀ (a : Act) (w : World), Code.wp _ _ _ a w → _) => hKK
  refine cut_k hKK (fun a' w' => Below w.heap.size w w' ∧ a'.defers = [] ∧ a'.tmps.size = 338 ∧ a'.tmps.getD 1 undef = .slice AB nB cB) ?main ?tail
  case main =>
    intro hK3
    clear hKK
    go_wp2_with fail
    intro K2 hR2 K1 hx1
    cases hfo : FO with
    | false =>
      obtain rfl : LO = false := by
        have h1 := GFO.out.trans hfo
        rw [← GLO.out]
        exact inB_false.2 (by have := inB_false.1 (show inB an 1 1000000000 = false from h1); omega)
      subst hfo
      go_wp2_with fail
      refine (gLists_c A1 A2 L L c1 c2 PS _ H1 H2 HL.out.symm HL.out.symm hl1 Hl2.out).mono ?_
      rintro e z9 ⟨rfl, a9⟩
      have H1 := H1.below a9
      replace BB := BB.trans (a9.mono BB.size)
      clear a9 H2
      go_wp2
      all_goals exact ⟨BB, rfl, rfl, rfl⟩
    | true =>
      have hf := GFO.out.trans hfo
      obtain ⟨n1, n9⟩ := inB_true.1 hf
      obtain ⟨N, rfl⟩ := Int.eq_ofNat_of_zero_le (Int.le_trans (by omega) n1)
      subst hfo
      have hN1 : 1 ≤ N := by omega
      have hN9 : N ≤ 1000000000 := by omega
      have hPS : PS = flL N := by rw [← GPS.out, faA_yes hf]
      obtain rfl : PO = true := by rw [← GPO.out]; exact inB_true.2 (by omega)
      have hPV : PV = primeB N := by rw [← GPV.out, isPV, show isPOk (N : Int) = true from inB_true.2 (by omega), Int.toNat_natCast]; rfl
      have hRV : RV = (prodL (fks N) : Int) := by rw [← GRV.out, raV_yes hf]
      have hLf : L = (flL N).length := by rw [← hPS]; exact HL.out.symm
      obtain ⟨kb1, kb2⟩ := fl_back hN1 hN9 (facs_len30 hN1 hN9)
      have Cn := Lib.hid (fun (W : World) (hW : Lr W A1 PS) => impl_NumberOfFactors_c W A1 c1 PS hW (by rw [HL.out]; exact hl1) (fun i hi => by rw [hPS] at hi ⊢; rw [flL_len'] at hi; rw [(flL_at hi).2.2]; show 2 ≤ 9223372036854775807; omega))
      rw [hPS, kb1, kb2, ← hPS, HL.out] at Cn
      have HRAD : Hid (((radP N L : Nat) : Int) = RV) := by show _ = _; rw [hLf, radP_all, hRV]
      have hpp := pr_one hN1
      rw [← hPV, ← hLf, ← hPS] at hpp
      have hrm2 : (N : Int) % RV = 0 := by rw [hRV]; have := rad_dvd hN1; exact_mod_cast this
      have hrpos : 1 ≤ RV := by rw [hRV]; have := (radP_le (n := N) hN1 0 (flL N).length (by omega)); rw [radP_all] at this; omega
      have hrle : RV ≤ 1000000000 := by rw [hRV]; have := rad_le N hN1; omega
      have HPa : Hid (∀ k, k < L → ∃ P E : Nat, pA PS k = (P : Int) ∧ primeB P = true ∧ P ≤ 1000000000 ∧ smB N (P : Int) = decide (k + 1 = L) ∧ 1 ≤ P ∧ (psL PS k).length = 2 ∧ ((radP N (k + 1) : Nat) : Int) = (radP N k : Int) * (P : Int) ∧ (radP N k : Int) * (P : Int) ≤ 1000000000 ∧ eA PS k = (E : Int) ∧ 1 ≤ E ∧ 0 ≤ (radP N k : Int) * (P : Int)) := fun k hk => by
        have hk2 : k < (flL N).length := by rw [← hLf]; exact hk
        have hk3 : k < (facs N).length := by rw [← flL_len']; exact hk2
        obtain ⟨e1, e2, e3⟩ := flL_at hk3
        have hf2 := facs_lt N hN1 _ (List.getElem_mem hk3)
        have hs := sm_last hk2
        have hr := radP_succ hk2
        have hle := (radP_le hN1 ((flL N).length - (k + 1)) (k + 1) (by omega)).1
        have hle2 := rad_le N hN1
        rw [e1] at hs hr
        rw [hPS]
        refine ⟨(facs N)[k].1, (facs N)[k].2, e1, facs_pr N _ (List.getElem_mem hk3), by omega, by rw [hs, ← hLf], by omega, by rw [e3]; rfl, hr, by rw [← hr]; omega, e2, by omega, by rw [← hr]; omega⟩
      have HP : Hid (∀ k, k < L → ∃ P E : Nat, pA PS k = (P : Int) ∧ primeB P = true ∧ P ≤ 1000000000 ∧ 1 ≤ P ∧ eA PS k = (E : Int) ∧ (psL PS k).length = 2 ∧ 1 ≤ E) := fun k hk => by
        obtain ⟨P, E, a1, a2, a3, a4, a5, a6, a7, a8, a9, a10, a11⟩ := HPa.out k hk
        exact ⟨P, E, a1, a2, a3, a5, a9, a6, a10⟩
      have HRIS : Hid (∀ k P Q : Nat, k + 1 < L → pA PS k = (Q : Int) → pA PS (k + 1) = (P : Int) → Q < P) := fun k P Q hk e1 e2 => by
        have hk3 : k + 1 < (facs N).length := by rw [← flL_len', ← hLf]; exact hk
        rw [hPS, (flL_at (n := N) (i := k) (by omega)).1] at e1
        rw [hPS, (flL_at hk3).1] at e2
        have := (List.pairwise_iff_getElem.1 (facs_inc N)) k (k + 1) (by omega) hk3 (by omega)
        omega
      by_cases h2 : 2 ≤ N
      rotate_left
      · skip
        have hL0 : L = 0 := by rw [hLf, flL_no h2]; rfl
        obtain rfl : LO = false := by rw [← GLO.out]; exact inB_false.2 (by omega)
        obtain rfl : PV = false := by rw [hpp, hL0]; rfl
        have hN1d : decide ((1 : Int) < (N : Int)) = false := decide_eq_false (by omega)
        have hN1i : ¬ (1 : Int) < (N : Int) := by omega
        have hLe : ((L : Int) == 1) = false := by rw [beq_eq_false_iff_ne]; omega
        have HL1 := Lib.hid hL0
        clear hPS hPV hRV hLf kb1 kb2 hpp hf hL0 h2
        go_wp2_with fail
        refine (gLists_c A1 A2 L L c1 c2 PS _ H1 H2 HL.out.symm HL.out.symm hl1 Hl2.out).mono ?_
        rintro e z9 ⟨rfl, a9⟩
        have H1 := H1.below a9
        replace BB := BB.trans (a9.mono BB.size)
        clear a9 H2
        go_wp2_with fail
        refine (Cn.out _ H1).mono ?_
        rintro e y1 ⟨rfl, d1⟩
        have H1 := H1.below d1
        replace BB := BB.trans (d1.mono BB.size)
        clear d1
        go_wp2
        rw [hrm2]
        clear hrm2
        go_loopw [24, 203] (fun p i wr => ∃ k : Nat, k ≤ L ∧ i = .int .i64 (k : Int) ∧ p = .int .i64 (radP N k : Int) ∧ Below w.heap.size w wr ∧ Lr wr A1 PS) (fun _ i _ => L - (intOf i).toNat)
        case atStart => exact ⟨0, Nat.zero_le _, rfl, rfl, BB, H1⟩
        case round =>
          clear BB H1
          obtain ⟨k, hk, rfl, rfl, BB, H1⟩ := hrel
          by_cases hlt : k < L
          · have hlt1 : k < PS.length := by rw [HL.out]; exact hlt
            have hki : (k : Int) < (L : Int) := by omega
            have HR : Hid (∀ W, Below wr.heap.size wr W → Lr W A1 PS) := fun W hB => H1.below hB
            obtain ⟨b, off, rfl, hb, hr⟩ := H1 (by omega)
            clear H1
            obtain ⟨A', c', hc0, r1⟩ := hr k hlt1
            have Hhr := Lib.hid (fun i (hi : i < L) => hr i (by rw [HL.out]; exact hi))
            clear hr
            obtain ⟨P, E, g1, g2, g3, g4, g5, g6, g7, g8, g9', g10⟩ := HPa.out k hlt
            rw [g6] at hc0
            obtain ⟨b', off', rfl, hb', hr'⟩ := r1 (by rw [g6]; omega)
            have hp0 := hr' 0 (by rw [g6]; omega)
            have he0 := hr' 1 (by rw [g6]; omega)
            rw [Nat.add_zero, show ivL (psL PS k) 0 = (P : Int) from g1] at hp0
            rw [show ivL (psL PS k) 1 = (E : Int) from g9'] at he0
            clear hr' g6 g9'
            have Pp := Lib.hid (fun W => impl_IsPrime_c W (P : Int))
            have Sp := Lib.hid (fun W => impl_IsSmooth_c W (N : Int) (P : Int))
            rw [show isPOk (P : Int) = true from inB_true.2 (by omega), show isPV (P : Int) = true by rw [isPV, show isPOk (P : Int) = true from inB_true.2 (by omega), Int.toNat_natCast, g2]; rfl] at Pp
            have hiso : isOk (N : Int) (P : Int) = true := by rw [isOk, show inB (N : Int) 1 1000000000 = true from inB_true.2 (by omega), decide_eq_true (show 1 ≤ (P : Int) by omega)]; rfl
            rw [isV_yes hiso, hiso] at Sp
            clear hiso g2
            have hEd : decide ((E : Int) < 1) = false := decide_eq_false (by omega)
            obtain ⟨R1, hR1⟩ : ∃ x, radP N k = x := ⟨_, rfl⟩
            rw [hR1] at g7 g8 ⊢
            clear hR1
            have hw1 : IntKind.i64.wrap ((R1 : Int) * (P : Int)) = (R1 : Int) * (P : Int) := IntWalk.i64_in _ (by omega)
            by_cases hk0 : k = 0
            · by_cases hkl : k + 1 = L
              · skip
                exfalso
                have := HL1.out
                omega
              · skip
                exfalso
                have := HL1.out
                omega
            · by_cases hkl : k + 1 = L
              · skip
                exfalso
                have := HL1.out
                omega
              · skip
                exfalso
                have := HL1.out
                omega
          · have hki : ¬ (k : Int) < (L : Int) := by omega
            obtain rfl : k = L := by omega
            have hrad : ((radP N k : Nat) : Int) = RV := HRAD.out
            go_wp2
            all_goals exact ⟨BB, rfl, rfl, rfl⟩
      obtain rfl : LO = true := by rw [← GLO.out]; exact inB_true.2 (by omega)
      obtain ⟨lf1, lf2⟩ := least_first h2
      rw [← hPS] at lf1
      rw [← hLf] at lf2
      have hLV : LV = (leastF N : Int) := by rw [← GLV.out, lfV_yes (inB_true.2 (by omega)), Int.toNat_natCast]
      have hlm2 : (N : Int) % LV = 0 := by rw [hLV]; have := leastF_dvd N; exact_mod_cast this
      have hlpos : 1 ≤ LV := by rw [hLV]; have := leastF_ge h2; omega
      have hlle : LV ≤ 1000000000 := by rw [hLV]; have := leastF_le N; omega
      rw [← hLV] at lf1
      have Hlf1 := Lib.hid lf1
      have hN1d : decide ((1 : Int) < (N : Int)) = true := decide_eq_true (by omega)
      have hN1i : (1 : Int) < (N : Int) := by omega
      have Hpp := Lib.hid hpp
      clear hPS hPV hRV hLf kb1 kb2 hpp hf lf1 hLV
      go_wp2_with fail
      refine (gLists_c A1 A2 L L c1 c2 PS _ H1 H2 HL.out.symm HL.out.symm hl1 Hl2.out).mono ?_
      rintro e z9 ⟨rfl, a9⟩
      have H1 := H1.below a9
      replace BB := BB.trans (a9.mono BB.size)
      clear a9 H2
      go_wp2_with fail
      refine (Cn.out _ H1).mono ?_
      rintro e y1 ⟨rfl, d1⟩
      have H1 := H1.below d1
      replace BB := BB.trans (d1.mono BB.size)
      clear d1
      have HR0 : Hid (∀ W, Below y1.heap.size y1 W → Lr W A1 PS) := fun W hB => H1.below hB
      obtain ⟨b, off, rfl, hb, hr⟩ := H1 (by rw [HL.out]; omega)
      clear H1
      obtain ⟨A', c', hc0, r1⟩ := hr 0 (by rw [HL.out]; omega)
      clear hr
      obtain ⟨P, E, g1, g2, g3, g4, g5, g6, g7⟩ := HP.out 0 lf2
      rw [g6, Nat.add_zero] at hc0
      obtain ⟨b', off', rfl, hb', hr'⟩ := r1 (by rw [g6]; omega)
      have hp0 := hr' 0 (by rw [g6]; omega)
      have he0 := hr' 1 (by rw [g6]; omega)
      rw [Nat.add_zero, show ivL (psL PS 0) 0 = LV from Hlf1.out] at hp0
      rw [show ivL (psL PS 0) 1 = (E : Int) from g5] at he0
      have hE : PV = (decide (L = 1) && decide ((E : Int) = 1)) := by rw [Hpp.out, g5]
      clear hr' g6 g1 g2 g3 g4 g5 g7
      by_cases hL1 : L = 1
      · skip
        have hLe : ((L : Int) == 1) = true := by rw [beq_iff_eq]; omega
        rw [decide_eq_true hL1, Bool.true_and] at hE
        obtain ⟨EQ, hEQ⟩ : ∃ x, ((E : Int) == 1) = x := ⟨_, rfl⟩
        have hE2 : decide ((E : Int) = 1) = EQ := by rw [← hEQ]; rfl
        rw [hE2] at hE
        subst hE
        clear hE2
        have H1 := HR0.out _ (Below.refl _ _)
        clear HR0
        have HL1 := Lib.hid hL1
        clear hL1
        go_wp2
        rw [hrm2, hlm2]
        clear hrm2 hlm2
        clear hc0 hp0 he0 hb hb'
        generalize hAA : (some ⟨b, off, none⟩ : Option Addr) = A1 at H1 ⊢
        clear hAA
        go_loopw [24, 203] (fun p i wr => ∃ k : Nat, k ≤ L ∧ i = .int .i64 (k : Int) ∧ p = .int .i64 (radP N k : Int) ∧ Below w.heap.size w wr ∧ Lr wr A1 PS) (fun _ i _ => L - (intOf i).toNat)
        case atStart => exact ⟨0, Nat.zero_le _, rfl, rfl, BB, H1⟩
        case round =>
          clear BB H1
          obtain ⟨k, hk, rfl, rfl, BB, H1⟩ := hrel
          by_cases hlt : k < L
          · have hlt1 : k < PS.length := by rw [HL.out]; exact hlt
            have hki : (k : Int) < (L : Int) := by omega
            have HR : Hid (∀ W, Below wr.heap.size wr W → Lr W A1 PS) := fun W hB => H1.below hB
            obtain ⟨b, off, rfl, hb, hr⟩ := H1 (by omega)
            clear H1
            obtain ⟨A', c', hc0, r1⟩ := hr k hlt1
            have Hhr := Lib.hid (fun i (hi : i < L) => hr i (by rw [HL.out]; exact hi))
            clear hr
            obtain ⟨P, E, g1, g2, g3, g4, g5, g6, g7, g8, g9', g10⟩ := HPa.out k hlt
            rw [g6] at hc0
            obtain ⟨b', off', rfl, hb', hr'⟩ := r1 (by rw [g6]; omega)
            have hp0 := hr' 0 (by rw [g6]; omega)
            have he0 := hr' 1 (by rw [g6]; omega)
            rw [Nat.add_zero, show ivL (psL PS k) 0 = (P : Int) from g1] at hp0
            rw [show ivL (psL PS k) 1 = (E : Int) from g9'] at he0
            clear hr' g6 g9'
            have Pp := Lib.hid (fun W => impl_IsPrime_c W (P : Int))
            have Sp := Lib.hid (fun W => impl_IsSmooth_c W (N : Int) (P : Int))
            rw [show isPOk (P : Int) = true from inB_true.2 (by omega), show isPV (P : Int) = true by rw [isPV, show isPOk (P : Int) = true from inB_true.2 (by omega), Int.toNat_natCast, g2]; rfl] at Pp
            have hiso : isOk (N : Int) (P : Int) = true := by rw [isOk, show inB (N : Int) 1 1000000000 = true from inB_true.2 (by omega), decide_eq_true (show 1 ≤ (P : Int) by omega)]; rfl
            rw [isV_yes hiso, hiso] at Sp
            clear hiso g2
            have hEd : decide ((E : Int) < 1) = false := decide_eq_false (by omega)
            obtain ⟨R1, hR1⟩ : ∃ x, radP N k = x := ⟨_, rfl⟩
            rw [hR1] at g7 g8 ⊢
            clear hR1
            have hw1 : IntKind.i64.wrap ((R1 : Int) * (P : Int)) = (R1 : Int) * (P : Int) := IntWalk.i64_in _ (by omega)
            by_cases hk0 : k = 0
            · by_cases hkl : k + 1 = L
              · skip
                have hwL : IntKind.i64.wrap ((L : Int) - 1) = (L : Int) - 1 := IntWalk.i64_in _ (by omega)
                have hlk : ((k : Int) == (L : Int) - 1) = true := by rw [beq_iff_eq]; omega
                have hsm : smB N (P : Int) = true := by rw [g4]; exact decide_eq_true (by omega)
                rw [hsm] at Sp
                clear hsm g4
                obtain rfl : k = 0 := hk0
                rw [Nat.add_zero] at hc0
                have hlk0 : ((0 : Int) == (L : Int) - 1) = true := by simpa using hlk
                have hki0 : (0 : Int) < (L : Int) := by omega
                clear g1
                go_wp2_with fail
                refine (Pp.out _).mono ?_
                rintro e zp1 ⟨rfl, ap1⟩
                replace BB := BB.trans (ap1.mono BB.size)
                have H9 := HR.out _ ap1
                have hc0 := (ap1.cell (p := ⟨b, off, none⟩) hb).trans hc0
                have hp0 := (ap1.cell (p := ⟨b', off', none⟩) hb').trans hp0
                have he0 := (ap1.cell (p := ⟨b', off' + 1, none⟩) hb').trans he0
                have hb := Nat.lt_of_lt_of_le hb ap1.size
                have hb' := Nat.lt_of_lt_of_le hb' ap1.size
                clear ap1
                go_wp2_with fail
                refine (Sp.out _).mono ?_
                rintro e zp2 ⟨rfl, ap2⟩
                replace BB := BB.trans (ap2.mono BB.size)
                have H9 := H9.below ap2
                have hc0 := (ap2.cell (p := ⟨b, off, none⟩) hb).trans hc0
                have hp0 := (ap2.cell (p := ⟨b', off', none⟩) hb').trans hp0
                have he0 := (ap2.cell (p := ⟨b', off' + 1, none⟩) hb').trans he0
                clear ap2
                go_wp2_with fail
                go_quiet (fail)
                go_wp2
                go_roundw
                case rel => exact ⟨0 + 1, by omega, by go_num, by rw [g7], below_drewN BB _, H9.below (below_drewN (Below.refl _ _) _)⟩
                case measure => simp [intOf]; omega
              · skip
                exfalso
                have := HL1.out
                omega
            · by_cases hkl : k + 1 = L
              · skip
                exfalso
                have := HL1.out
                omega
              · skip
                exfalso
                have := HL1.out
                omega
          · have hki : ¬ (k : Int) < (L : Int) := by omega
            obtain rfl : k = L := by omega
            have hrad : ((radP N k : Nat) : Int) = RV := HRAD.out
            go_wp2
            all_goals exact ⟨BB, rfl, rfl, rfl⟩
      · skip
        have hLe : ((L : Int) == 1) = false := by rw [beq_eq_false_iff_ne]; omega
        rw [decide_eq_false hL1, Bool.false_and] at hE
        subst hE
        have H1 := HR0.out _ (Below.refl _ _)
        clear HR0
        have HL1 := Lib.hid hL1
        clear hL1
        go_wp2
        rw [hrm2, hlm2]
        clear hrm2 hlm2
        clear hc0 hp0 he0 hb hb'
        generalize hAA : (some ⟨b, off, none⟩ : Option Addr) = A1 at H1 ⊢
        clear hAA
        go_loopw [24, 203] (fun p i wr => ∃ k : Nat, k ≤ L ∧ i = .int .i64 (k : Int) ∧ p = .int .i64 (radP N k : Int) ∧ Below w.heap.size w wr ∧ Lr wr A1 PS) (fun _ i _ => L - (intOf i).toNat)
        case atStart => exact ⟨0, Nat.zero_le _, rfl, rfl, BB, H1⟩
        case round =>
          clear BB H1
          obtain ⟨k, hk, rfl, rfl, BB, H1⟩ := hrel
          by_cases hlt : k < L
          · have hlt1 : k < PS.length := by rw [HL.out]; exact hlt
            have hki : (k : Int) < (L : Int) := by omega
            have HR : Hid (∀ W, Below wr.heap.size wr W → Lr W A1 PS) := fun W hB => H1.below hB
            obtain ⟨b, off, rfl, hb, hr⟩ := H1 (by omega)
            clear H1
            obtain ⟨A', c', hc0, r1⟩ := hr k hlt1
            have Hhr := Lib.hid (fun i (hi : i < L) => hr i (by rw [HL.out]; exact hi))
            clear hr
            obtain ⟨P, E, g1, g2, g3, g4, g5, g6, g7, g8, g9', g10⟩ := HPa.out k hlt
            rw [g6] at hc0
            obtain ⟨b', off', rfl, hb', hr'⟩ := r1 (by rw [g6]; omega)
            have hp0 := hr' 0 (by rw [g6]; omega)
            have he0 := hr' 1 (by rw [g6]; omega)
            rw [Nat.add_zero, show ivL (psL PS k) 0 = (P : Int) from g1] at hp0
            rw [show ivL (psL PS k) 1 = (E : Int) from g9'] at he0
            clear hr' g6 g9'
            have Pp := Lib.hid (fun W => impl_IsPrime_c W (P : Int))
            have Sp := Lib.hid (fun W => impl_IsSmooth_c W (N : Int) (P : Int))
            rw [show isPOk (P : Int) = true from inB_true.2 (by omega), show isPV (P : Int) = true by rw [isPV, show isPOk (P : Int) = true from inB_true.2 (by omega), Int.toNat_natCast, g2]; rfl] at Pp
            have hiso : isOk (N : Int) (P : Int) = true := by rw [isOk, show inB (N : Int) 1 1000000000 = true from inB_true.2 (by omega), decide_eq_true (show 1 ≤ (P : Int) by omega)]; rfl
            rw [isV_yes hiso, hiso] at Sp
            clear hiso g2
            have hEd : decide ((E : Int) < 1) = false := decide_eq_false (by omega)
            obtain ⟨R1, hR1⟩ : ∃ x, radP N k = x := ⟨_, rfl⟩
            rw [hR1] at g7 g8 ⊢
            clear hR1
            have hw1 : IntKind.i64.wrap ((R1 : Int) * (P : Int)) = (R1 : Int) * (P : Int) := IntWalk.i64_in _ (by omega)
            by_cases hk0 : k = 0
            · by_cases hkl : k + 1 = L
              · skip
                exfalso
                have := HL1.out
                omega
              · skip
                have hwL : IntKind.i64.wrap ((L : Int) - 1) = (L : Int) - 1 := IntWalk.i64_in _ (by omega)
                have hlk : ((k : Int) == (L : Int) - 1) = false := by rw [beq_eq_false_iff_ne]; omega
                have hsm : smB N (P : Int) = false := by rw [g4]; exact decide_eq_false (by omega)
                rw [hsm] at Sp
                clear hsm g4
                obtain rfl : k = 0 := hk0
                rw [Nat.add_zero] at hc0
                have hlk0 : ((0 : Int) == (L : Int) - 1) = false := by simpa using hlk
                have hki0 : (0 : Int) < (L : Int) := by omega
                clear g1
                go_wp2_with fail
                refine (Pp.out _).mono ?_
                rintro e zp1 ⟨rfl, ap1⟩
                replace BB := BB.trans (ap1.mono BB.size)
                have H9 := HR.out _ ap1
                have hc0 := (ap1.cell (p := ⟨b, off, none⟩) hb).trans hc0
                have hp0 := (ap1.cell (p := ⟨b', off', none⟩) hb').trans hp0
                have he0 := (ap1.cell (p := ⟨b', off' + 1, none⟩) hb').trans he0
                have hb := Nat.lt_of_lt_of_le hb ap1.size
                have hb' := Nat.lt_of_lt_of_le hb' ap1.size
                clear ap1
                go_wp2_with fail
                refine (Sp.out _).mono ?_
                rintro e zp2 ⟨rfl, ap2⟩
                replace BB := BB.trans (ap2.mono BB.size)
                have H9 := H9.below ap2
                have hc0 := (ap2.cell (p := ⟨b, off, none⟩) hb).trans hc0
                have hp0 := (ap2.cell (p := ⟨b', off', none⟩) hb').trans hp0
                have he0 := (ap2.cell (p := ⟨b', off' + 1, none⟩) hb').trans he0
                clear ap2
                go_wp2_with fail
                go_quiet (fail)
                go_wp2
                go_roundw
                case rel => exact ⟨0 + 1, by omega, by go_num, by rw [g7], below_drewN BB _, H9.below (below_drewN (Below.refl _ _) _)⟩
                case measure => simp [intOf]; omega
            · by_cases hkl : k + 1 = L
              · skip
                have hwL : IntKind.i64.wrap ((L : Int) - 1) = (L : Int) - 1 := IntWalk.i64_in _ (by omega)
                have hlk : ((k : Int) == (L : Int) - 1) = true := by rw [beq_iff_eq]; omega
                have hsm : smB N (P : Int) = true := by rw [g4]; exact decide_eq_true (by omega)
                rw [hsm] at Sp
                clear hsm g4
                obtain ⟨q, hq⟩ : ∃ q, k = q + 1 := ⟨k - 1, by omega⟩
                obtain ⟨A9, c9, q9, r9⟩ := Hhr.out q (by omega)
                obtain ⟨Q, E9, f1, f2, f3, f4, f5, f6, f7⟩ := HP.out q (by omega)
                rw [f6] at q9
                obtain ⟨b9, off9, rfl, hb9, hr9⟩ := r9 (by rw [f6]; omega)
                have hq0 := hr9 0 (by rw [f6]; omega)
                rw [Nat.add_zero, show ivL (psL PS q) 0 = (Q : Int) from f1] at hq0
                clear hr9 f2 f3 f4 f5 f6 f7
                have g9 := HRIS.out q P Q (by omega) f1 (by rw [← hq]; exact g1)
                clear f1
                have hQd : decide ((P : Int) ≤ (Q : Int)) = false := decide_eq_false (by omega)
                have hkq : (k : Int) - 1 = (q : Int) := by omega
                have hk1 : (0 : Int) < (k : Int) := by omega
                have hkd : decide ((0 : Int) < (k : Int)) = true := decide_eq_true hk1
                have hkd2 : decide (0 < k) = true := decide_eq_true (by omega)
                have hq00 : (0 : Int) ≤ (q : Int) := by omega
                have hqL : (q : Int) < (L : Int) := by omega
                have hwq : IntKind.i64.wrap (q : Int) = (q : Int) := IntWalk.i64_in _ (by omega)
                clear hq
                clear g1
                go_wp2_with fail
                refine (Pp.out _).mono ?_
                rintro e zp1 ⟨rfl, ap1⟩
                replace BB := BB.trans (ap1.mono BB.size)
                have H9 := HR.out _ ap1
                have hc0 := (ap1.cell (p := ⟨b, off + k, none⟩) hb).trans hc0
                have hp0 := (ap1.cell (p := ⟨b', off', none⟩) hb').trans hp0
                have he0 := (ap1.cell (p := ⟨b', off' + 1, none⟩) hb').trans he0
                have q9 := (ap1.cell (p := ⟨b, off + q, none⟩) hb).trans q9
                have hq0 := (ap1.cell (p := ⟨b9, off9, none⟩) hb9).trans hq0
                have hb9 := Nat.lt_of_lt_of_le hb9 ap1.size
                have hb := Nat.lt_of_lt_of_le hb ap1.size
                have hb' := Nat.lt_of_lt_of_le hb' ap1.size
                clear ap1
                go_wp2_with fail
                refine (Sp.out _).mono ?_
                rintro e zp2 ⟨rfl, ap2⟩
                replace BB := BB.trans (ap2.mono BB.size)
                have H9 := H9.below ap2
                have hc0 := (ap2.cell (p := ⟨b, off + k, none⟩) hb).trans hc0
                have hp0 := (ap2.cell (p := ⟨b', off', none⟩) hb').trans hp0
                have he0 := (ap2.cell (p := ⟨b', off' + 1, none⟩) hb').trans he0
                have q9 := (ap2.cell (p := ⟨b, off + q, none⟩) hb).trans q9
                have hq0 := (ap2.cell (p := ⟨b9, off9, none⟩) hb9).trans hq0
                clear ap2
                go_wp2_with fail
                go_quiet (fail)
                go_wp2
                go_roundw
                case rel => exact ⟨k + 1, by omega, by go_num, by rw [g7], below_drewN BB _, H9.below (below_drewN (Below.refl _ _) _)⟩
                case measure => simp [intOf]; omega
              · skip
                have hwL : IntKind.i64.wrap ((L : Int) - 1) = (L : Int) - 1 := IntWalk.i64_in _ (by omega)
                have hlk : ((k : Int) == (L : Int) - 1) = false := by rw [beq_eq_false_iff_ne]; omega
                have hsm : smB N (P : Int) = false := by rw [g4]; exact decide_eq_false (by omega)
                rw [hsm] at Sp
                clear hsm g4
                obtain ⟨q, hq⟩ : ∃ q, k = q + 1 := ⟨k - 1, by omega⟩
                obtain ⟨A9, c9, q9, r9⟩ := Hhr.out q (by omega)
                obtain ⟨Q, E9, f1, f2, f3, f4, f5, f6, f7⟩ := HP.out q (by omega)
                rw [f6] at q9
                obtain ⟨b9, off9, rfl, hb9, hr9⟩ := r9 (by rw [f6]; omega)
                have hq0 := hr9 0 (by rw [f6]; omega)
                rw [Nat.add_zero, show ivL (psL PS q) 0 = (Q : Int) from f1] at hq0
                clear hr9 f2 f3 f4 f5 f6 f7
                have g9 := HRIS.out q P Q (by omega) f1 (by rw [← hq]; exact g1)
                clear f1
                have hQd : decide ((P : Int) ≤ (Q : Int)) = false := decide_eq_false (by omega)
                have hkq : (k : Int) - 1 = (q : Int) := by omega
                have hk1 : (0 : Int) < (k : Int) := by omega
                have hkd : decide ((0 : Int) < (k : Int)) = true := decide_eq_true hk1
                have hkd2 : decide (0 < k) = true := decide_eq_true (by omega)
                have hq00 : (0 : Int) ≤ (q : Int) := by omega
                have hqL : (q : Int) < (L : Int) := by omega
                have hwq : IntKind.i64.wrap (q : Int) = (q : Int) := IntWalk.i64_in _ (by omega)
                clear hq
                clear g1
                go_wp2_with fail
                refine (Pp.out _).mono ?_
                rintro e zp1 ⟨rfl, ap1⟩
                replace BB := BB.trans (ap1.mono BB.size)
                have H9 := HR.out _ ap1
                have hc0 := (ap1.cell (p := ⟨b, off + k, none⟩) hb).trans hc0
                have hp0 := (ap1.cell (p := ⟨b', off', none⟩) hb').trans hp0
                have he0 := (ap1.cell (p := ⟨b', off' + 1, none⟩) hb').trans he0
                have q9 := (ap1.cell (p := ⟨b, off + q, none⟩) hb).trans q9
                have hq0 := (ap1.cell (p := ⟨b9, off9, none⟩) hb9).trans hq0
                have hb9 := Nat.lt_of_lt_of_le hb9 ap1.size
                have hb := Nat.lt_of_lt_of_le hb ap1.size
                have hb' := Nat.lt_of_lt_of_le hb' ap1.size
                clear ap1
                go_wp2_with fail
                refine (Sp.out _).mono ?_
                rintro e zp2 ⟨rfl, ap2⟩
                replace BB := BB.trans (ap2.mono BB.size)
                have H9 := H9.below ap2
                have hc0 := (ap2.cell (p := ⟨b, off + k, none⟩) hb).trans hc0
                have hp0 := (ap2.cell (p := ⟨b', off', none⟩) hb').trans hp0
                have he0 := (ap2.cell (p := ⟨b', off' + 1, none⟩) hb').trans he0
                have q9 := (ap2.cell (p := ⟨b, off + q, none⟩) hb).trans q9
                have hq0 := (ap2.cell (p := ⟨b9, off9, none⟩) hb9).trans hq0
                clear ap2
                go_wp2_with fail
                go_quiet (fail)
                go_wp2
                go_roundw
                case rel => exact ⟨k + 1, by omega, by go_num, by rw [g7], below_drewN BB _, H9.below (below_drewN (Below.refl _ _) _)⟩
                case measure => simp [intOf]; omega
          · have hki : ¬ (k : Int) < (L : Int) := by omega
            obtain rfl : k = L := by omega
            have hrad : ((radP N k : Nat) : Int) = RV := HRAD.out
            go_wp2
            all_goals exact ⟨BB, rfl, rfl, rfl⟩
  case tail =>
    clear hKK BB H1 H2 HL Hl2 hl1 GPS GFO GRV GLV GLO GPV GPO
    rintro a' w' ⟨BB, hd, hs, k1⟩
    obtain ⟨u, hu⟩ : ∃ u : Nat → Value, ∀ i, a'.tmps.getD i undef = u i := ⟨_, fun _ => rfl⟩
    have ha := act_by a' 338 hd hs (fun i => if i = 1 then .slice AB nB cB else u i) (fun i hi => by
      by_cases e1 : i = 1
      · subst e1; exact k1
      rw [if_neg e1]
      exact hu i)
    replace ha : a' = ⟨#[u 0, .slice AB nB cB, u 2, u 3, u 4, u 5, u 6, u 7, u 8, u 9, u 10, u 11, u 12, u 13, u 14, u 15, u 16, u 17, u 18, u 19, u 20, u 21, u 22, u 23, u 24, u 25, u 26, u 27, u 28, u 29, u 30, u 31, u 32, u 33, u 34, u 35, u 36, u 37, u 38, u 39, u 40, u 41, u 42, u 43, u 44, u 45, u 46, u 47, u 48, u 49, u 50, u 51, u 52, u 53, u 54, u 55, u 56, u 57, u 58, u 59, u 60, u 61, u 62, u 63, u 64, u 65, u 66, u 67, u 68, u 69, u 70, u 71, u 72, u 73, u 74, u 75, u 76, u 77, u 78, u 79, u 80, u 81, u 82, u 83, u 84, u 85, u 86, u 87, u 88, u 89, u 90, u 91, u 92, u 93, u 94, u 95, u 96, u 97, u 98, u 99, u 100, u 101, u 102, u 103, u 104, u 105, u 106, u 107, u 108, u 109, u 110, u 111, u 112, u 113, u 114, u 115, u 116, u 117, u 118, u 119, u 120, u 121, u 122, u 123, u 124, u 125, u 126, u 127, u 128, u 129, u 130, u 131, u 132, u 133, u 134, u 135, u 136, u 137, u 138, u 139, u 140, u 141, u 142, u 143, u 144, u 145, u 146, u 147, u 148, u 149, u 150, u 151, u 152, u 153, u 154, u 155, u 156, u 157, u 158, u 159, u 160, u 161, u 162, u 163, u 164, u 165, u 166, u 167, u 168, u 169, u 170, u 171, u 172, u 173, u 174, u 175, u 176, u 177, u 178, u 179, u 180, u 181, u 182, u 183, u 184, u 185, u 186, u 187, u 188, u 189, u 190, u 191, u 192, u 193, u 194, u 195, u 196, u 197, u 198, u 199, u 200, u 201, u 202, u 203, u 204, u 205, u 206, u 207, u 208, u 209, u 210, u 211, u 212, u 213, u 214, u 215, u 216, u 217, u 218, u 219, u 220, u 221, u 222, u 223, u 224, u 225, u 226, u 227, u 228, u 229, u 230, u 231, u 232, u 233, u 234, u 235, u 236, u 237, u 238, u 239, u 240, u 241, u 242, u 243, u 244, u 245, u 246, u 247, u 248, u 249, u 250, u 251, u 252, u 253, u 254, u 255, u 256, u 257, u 258, u 259, u 260, u 261, u 262, u 263, u 264, u 265, u 266, u 267, u 268, u 269, u 270, u 271, u 272, u 273, u 274, u 275, u 276, u 277, u 278, u 279, u 280, u 281, u 282, u 283, u 284, u 285, u 286, u 287, u 288, u 289, u 290, u 291, u 292, u 293, u 294, u 295, u 296, u 297, u 298, u 299, u 300, u 301, u 302, u 303, u 304, u 305, u 306, u 307, u 308, u 309, u 310, u 311, u 312, u 313, u 314, u 315, u 316, u 317, u 318, u 319, u 320, u 321, u 322, u 323, u 324, u 325, u 326, u 327, u 328, u 329, u 330, u 331, u 332, u 333, u 334, u 335, u 336, u 337], []⟩ := ha.trans (by kernel_rfl)
    subst ha
    clear hu hd hs k1
    go_wp2_with fail
    refine (DrawNumberOfFactors_c _ AB nB cB ((YB.out.below BB).mono BB.size) (by omega)).mono ?_
    rintro e wq2 ⟨⟨AL, cL, psl, rfl, R1, hl31, hz⟩, dq2⟩
    replace BB := BB.trans (dq2.mono BB.size)
    clear dq2
    have HZ : Hid (∀ i, i < psl.length → (psL psl i).length ≤ 9223372036854775807) := fun i hi => Nat.le_trans (hz i hi) (by omega)
    clear hz
    have D1 := Lib.hid (fun (W : World) (hW : Lr W AL psl) => impl_NumberOfFactors_c W AL cL psl hW (by omega) HZ.out)
    have D2 := Lib.hid (fun (W : World) (hW : Lr W AL psl) => spec_NumberOfFactors_c W AL cL psl hW (by omega) HZ.out)
    obtain ⟨NV, hNV⟩ : ∃ x, nV psl = x := ⟨_, rfl⟩
    obtain ⟨NO, hNO⟩ : ∃ x, okN psl = x := ⟨_, rfl⟩
    rw [hNV, hNO] at D1 D2
    have GNV := Lib.hid hNV
    have GNO := Lib.hid hNO
    clear hNV hNO
    go_wp2_with fail
    refine (D1.out _ R1).mono ?_
    rintro e zt1 ⟨rfl, at1⟩
    replace BB := BB.trans (at1.mono BB.size)
    have R1 := R1.below at1
    clear at1
    go_wp2_with fail
    refine (D2.out _ R1).mono ?_
    rintro e zt2 ⟨rfl, at2⟩
    replace BB := BB.trans (at2.mono BB.size)
    have R1 := R1.below at2
    clear at2
    go_wp2_with fail
    refine (DrawIsSmooth_c _ AB nB cB ((YB.out.below BB).mono BB.size) (by omega)).mono ?_
    rintro e wq3 ⟨⟨am, ab, rfl⟩, dq3⟩
    have R1 := R1.below dq3
    replace BB := BB.trans (dq3.mono BB.size)
    clear dq3
    have D3 := Lib.hid (fun W => impl_IsSmooth_c W am ab)
    have D4 := Lib.hid (fun W => spec_IsSmooth_c W am ab)
    obtain ⟨SV, hSV⟩ : ∃ x, isV am ab = x := ⟨_, rfl⟩
    obtain ⟨SO, hSO⟩ : ∃ x, isOk am ab = x := ⟨_, rfl⟩
    rw [hSV, hSO] at D3 D4
    clear hSV hSO
    go_wp2_with fail
    refine (D3.out _).mono ?_
    rintro e zt3 ⟨rfl, at3⟩
    replace BB := BB.trans (at3.mono BB.size)
    have R1 := R1.below at3
    clear at3
    go_wp2_with fail
    refine (D4.out _).mono ?_
    rintro e zt4 ⟨rfl, at4⟩
    replace BB := BB.trans (at4.mono BB.size)
    have R1 := R1.below at4
    clear at4
    cases hno : NO with
    | false =>
      subst hno
      go_wp2
      go_ret
      exact ⟨rfl, BB⟩
    | true =>
      obtain ⟨m1, m2, m3⟩ := fl_of (GNO.out.trans hno)
      have hv : NV = (prodE psl psl.length : Int) := by rw [← GNV.out, nV_yes (GNO.out.trans hno)]
      subst hv
      obtain ⟨Q, hQ⟩ : ∃ q, prodE psl psl.length = q := ⟨_, rfl⟩
      rw [hQ] at m1 m2 m3 ⊢
      have hfo : faOk (Q : Int) = true := inB_true.2 (by omega)
      have Fc := Lib.hid (fun W => impl_FactorsOf_c W (Q : Int))
      obtain ⟨fl1, fl2⟩ := faA_len (Q : Int)
      rw [faA_yes hfo, m1] at Fc fl1 fl2
      rw [hfo] at Fc
      have Hfl2 := Lib.hid fl2
      subst hno
      clear m1 m2 m3 hfo hQ fl2 GNO GNV
      go_wp2_with fail
      refine (Fc.out _).mono ?_
      rintro e t5 ⟨⟨v5, rfl, o5⟩, a5⟩
      replace BB := BB.trans (a5.mono BB.size)
      have R1 := R1.below a5
      obtain ⟨A5, c5, rfl⟩ := o5.shape
      have H5 := Lr_of_own o5
      clear o5 a5
      go_wp2_with fail
      refine (gLists_c A5 AL psl.length psl.length c5 cL psl _ H5 R1 rfl rfl fl1 Hfl2.out).mono ?_
      rintro e t6 ⟨rfl, a6⟩
      replace BB := BB.trans (a6.mono BB.size)
      go_wp2
      go_ret
      exact ⟨rfl, BB⟩

set_option maxRecDepth 100000 in
theorem lifted_FnFactorsTold (os : Os) (started : os.Started) (H : Type) (enc : TypeId × Value → H) :
    ReturnsInHanded {} Try.checked os 5 .any (Rows.fnFactorsToldSpec.pre6 enc Try.prog Try.f5 Rows.fnFactorsToldRow.domain false) (Rows.fnFactorsToldSpec.post enc Try.prog Try.f5 false true false false) := by
  refine returnsInHanded_of_change (C := Try.checked) own started (by kernel_rfl) Try.func5
    (ChangeSpec.witness6 (enc := enc) (C := Try.checked) false ⟨#[], #[.slice none 0 0, .slice none 0 0], []⟩ 8 (by kernel_rfl) (by kernel_rfl) (by kernel_rfl) (by kernel_rfl)) ?_
  intro W base args ds gs before hval0 hW hcnd _
  have hval : ∀ (j : Nat) t v, Try.f5.params[j]? = some t → args[j]? = some v → Value.okWide Try.prog W .any base t v := hval0
  have hW' := hW
  obtain ⟨p, q, hA0, hV, rfl, hfz, hnd⟩ := hW
  have hA : DataW.TrodAll enc Try.prog W 0 (fun _ => true) true Try.f5.params.toList args.toList ds p := hA0
  rw [Try.params5] at hA hval
  obtain ⟨v0, vs0, d0, ds0, p0, q0, hargs, rfl, rfl, h0, r0⟩ := trodAll_cons hA
  obtain ⟨v1, vs1, d1, ds1, p1, q1, rfl, rfl, rfl, h1, r1⟩ := trodAll_cons r0
  obtain ⟨rfl, rfl, rfl⟩ := trodAll_nil r1
  obtain rfl : args = #[v0, v1] := by cases args; simp_all
  obtain ⟨rfl, rfl⟩ := trodVars_none hV
  have k0 := h0
  have lt0 : ∀ x ∈ p0, x.block < W.heap.size := by obtain ⟨m, hm⟩ := k0; exact DataW.trod_lt m _ _ _ hm
  obtain ⟨A0, n0, c0, rfl, m0, Y0⟩ := open_byt (hval 0 36 v0 rfl rfl) h0
  have k1 := h1
  have lt1 : ∀ x ∈ p1, x.block < W.heap.size := by obtain ⟨m, hm⟩ := k1; exact DataW.trod_lt m _ _ _ hm
  obtain ⟨A1, n1, c1, rfl, m1, Y1⟩ := open_byt (hval 1 36 v1 rfl rfl) h1
  clear hA0 hval0
  refine (walk_FnFactorsTold W A0 n0 c0 m0 Y0 A1 n1 c1 m1 Y1).mono fun e W' ⟨he, bel⟩ => ?_
  subst he
  exact ⟨_, rfl, _, _, _, [], _, [], hW', trodAll_mk1 (shut_bool Try.underlying4 _), (trodAll_cons_mk (Below.trod laidOut (by kernel_rfl) (of_decide_eq_true (by kernel_rfl)) k0 bel lt0) (trodAll_cons_mk (Below.trod laidOut (by kernel_rfl) (of_decide_eq_true (by kernel_rfl)) k1 bel lt1) trodAll_mk0)), rfl, bel.frame _, fun h => by cases h⟩

theorem closed_FnFactorsTold : joinedFacts Try.prog 5 Try.f5 Rows.fnFactorsToldSpec Rows.fnFactorsToldRow = true := by
  unfold joinedFacts
  rw [head_enters, head_final, head_make]
  kernel_rfl
theorem over_FnFactorsTold : Rows.fnFactorsToldRow.holds Try.pinned (OpenSpec.ofChange Rows.fnFactorsToldSpec) :=
  OpenClaim.holds_of_wide 5 Try.f5 rfl rfl rfl rfl rfl rfl rfl ⟨rfl, rfl, rfl, rfl, rfl⟩ rfl rfl rfl rfl rfl (by kernel_rfl) Try.func5 closed_FnFactorsTold
    (of_decide_eq_true (by kernel_rfl)) (by unfold Func.isWrapper; first | (rw [if_pos (by decide +kernel)]; kernel_rfl) | (rw [if_neg (by decide +kernel)]; exact ⟨rfl, rfl⟩))
    (fun os started H enc _ => lifted_FnFactorsTold os started H enc)

theorem fnFactorsTold_holds : Rows.FnFactorsToldSaid := over_FnFactorsTold

end Go.Proofs.Ytaapfapejekkfaa
