/- For every two slices of bytes that come in, laws.FnWheelsTurn returns true. Conditions: none. -/
import Derived.Test.YtaapfapejekkfaaOWM
import Derived.Test.YtaapfapejekkfaaW45
import Derived.Test.YtaapfapejekkfaaL0
import Derived.Test.YtaapfapejekkfaaOHM
namespace Go.Proofs.Ytaapfapejekkfaa
open Go.ChangeShapes Go.WideShapes Go.ChangeAt Go.RowKit Go.Deep
set_option maxRecDepth 100000
set_option linter.unusedVariables false
set_option linter.unusedSimpArgs false

set_option maxHeartbeats 40000000 in
theorem walk_FnWheelsTurn (w : World) (AA : Option Addr) (nA cA : Nat) (mA : nA ≤ 9223372036854775807) (yA : Byt w w.heap.size AA nA) (AB : Option Addr) (nB cB : Nat) (mB : nB ≤ 9223372036854775807) (yB : Byt w w.heap.size AB nB) :
    Calls Try.prog 7 #[.slice AA nA cA, .slice AB nB cB] w fun e w' => e = .returned (.bool true) ∧ Below w.heap.size w w' := by
  have YA := Lib.hid yA
  clear yA yB
  by_cases hn : nA + nB ≤ 1048576
  rotate_left
  · go_enter Try.func7, Try.ntmps7
    go_wp2_with fail
    refine (big_c _ AA AB nA cA nB cB mA mB).mono ?_
    rw [decide_eq_false hn]
    rintro e w0 ⟨rfl, rfl⟩
    go_wp2
    go_ret
    exact ⟨rfl, Below.refl _ _⟩
  go_enter Try.func7, Try.ntmps7
  go_wp2_with fail
  refine (big_c _ AA AB nA cA nB cB mA mB).mono ?_
  rw [decide_eq_true hn]
  rintro e w0 ⟨rfl, rfl⟩
  go_wp2_with fail
  refine (DrawSpokeOfRank_c _ AA nA cA YA.out (by omega)).mono ?_
  rintro e wd ⟨⟨vd, rs, n, rfl, od, hl20⟩, BB0⟩
  obtain ⟨AR, cR, rfl⟩ := OwnR.shape od
  have RR := Rl_of_own' od
  obtain ⟨mR, hm⟩ : ∃ l, rs.length = l := ⟨_, rfl⟩
  rw [hm] at hl20 ⊢
  have Hm : Hid (mR = rs.length) := hm.symm
  have hn4 : mR ≤ 1048576 := by omega
  have HR : Hid (∀ W, Below wd.heap.size wd W → Rl W AR rs) := fun W hB => RR.below hB
  have BB := Below.refl wd.heap.size wd
  clear RR od hm
  have C1 := Lib.hid (fun W (hW : Rl W AR rs) => impl_SpokeOfRank_c W AR mR cR rs hW Hm.out hn4 n)
  have C2 := Lib.hid (fun W (hW : Rl W AR rs) => spec_SpokeOfRank_c W AR mR cR rs hW Hm.out hn4 n)
  have C3 := Lib.hid (fun W (hW : Rl W AR rs) => impl_RankOfSpoke_c W AR mR cR rs hW Hm.out hn4 n)
  have C4 := Lib.hid (fun W (hW : Rl W AR rs) => spec_RankOfSpoke_c W AR mR cR rs hW Hm.out hn4 n)
  have C5 := Lib.hid (fun W (hW : Rl W AR rs) => impl_IsSpoke_c W AR mR cR rs hW Hm.out hn4 n)
  have C6 := Lib.hid (fun W (hW : Rl W AR rs) => spec_IsSpoke_c W AR mR cR rs hW Hm.out hn4 n)
  have C7 := Lib.hid (fun W (hW : Rl W AR rs) => impl_SpokeNear_c W AR mR cR rs hW Hm.out hn4 n)
  have C8 := Lib.hid (fun W (hW : Rl W AR rs) => spec_SpokeNear_c W AR mR cR rs hW Hm.out hn4 n)
  have C9 := Lib.hid (fun W (hW : Rl W AR rs) => impl_SpokesOf_c W AR mR cR rs hW Hm.out hn4)
  have C10 := Lib.hid (fun W (hW : Rl W AR rs) => spec_SpokesOf_c W AR mR cR rs hW Hm.out hn4)
  have C11 := Lib.hid (fun W (hW : Rl W AR rs) => impl_StepsOf_c W AR mR cR rs hW Hm.out hn4)
  have C12 := Lib.hid (fun W (hW : Rl W AR rs) => spec_StepsOf_c W AR mR cR rs hW Hm.out hn4)
  have C13 := Lib.hid (fun W (hW : Rl W AR rs) => impl_CountSpokes_c W AR mR cR rs hW Hm.out hn4)
  have C14 := Lib.hid (fun W (hW : Rl W AR rs) => spec_CountSpokes_c W AR mR cR rs hW Hm.out hn4)
  have hsl := spV_len rs
  have htl := stV_len rs
  obtain ⟨SO, hSO⟩ : ∃ x, isO rs n = x := ⟨_, rfl⟩
  rw [hSO] at C1 C2 C5 C6 C7 C8
  have GSO := Lib.hid hSO
  clear hSO
  obtain ⟨SV, hSV⟩ : ∃ x, soV rs n = x := ⟨_, rfl⟩
  rw [hSV] at C1 C2
  have GSV := Lib.hid hSV
  clear hSV
  obtain ⟨KO, hKO⟩ : ∃ x, rkO rs n = x := ⟨_, rfl⟩
  rw [hKO] at C3 C4
  have GKO := Lib.hid hKO
  clear hKO
  obtain ⟨KV, hKV⟩ : ∃ x, rkV rs n = x := ⟨_, rfl⟩
  rw [hKV] at C3 C4
  have GKV := Lib.hid hKV
  clear hKV
  obtain ⟨IV, hIV⟩ : ∃ x, isW rs n = x := ⟨_, rfl⟩
  rw [hIV] at C5 C6
  have GIV := Lib.hid hIV
  clear hIV
  obtain ⟨NV, hNV⟩ : ∃ x, snV rs n = x := ⟨_, rfl⟩
  rw [hNV] at C7 C8
  have GNV := Lib.hid hNV
  clear hNV
  obtain ⟨WB, hWB⟩ : ∃ x, whB rs = x := ⟨_, rfl⟩
  rw [hWB] at C9 C10 C11 C12 C13 C14
  have GWB := Lib.hid hWB
  clear hWB
  obtain ⟨SP, hSP⟩ : ∃ x, spV rs = x := ⟨_, rfl⟩
  rw [hSP] at C9 C10 hsl
  have GSP := Lib.hid hSP
  clear hSP
  obtain ⟨ST, hST⟩ : ∃ x, stV rs = x := ⟨_, rfl⟩
  rw [hST] at C11 C12 htl
  have GST := Lib.hid hST
  clear hST
  obtain ⟨CV, hCV⟩ : ∃ x, csV rs = x := ⟨_, rfl⟩
  rw [hCV] at C13 C14
  have GCV := Lib.hid hCV
  clear hCV
  obtain ⟨L, hL⟩ : ∃ l, SP.length = l := ⟨_, rfl⟩
  obtain ⟨L2, hL2⟩ : ∃ l, ST.length = l := ⟨_, rfl⟩
  rw [hL] at hsl
  rw [hL2] at htl
  have HL := Lib.hid hL
  have HL2 := Lib.hid hL2
  clear hL hL2
  go_wp2_with fail
  refine (C1.out _ (HR.out _ BB)).mono ?_
  rintro e z1 ⟨rfl, a1⟩
  replace BB := BB.trans (a1.mono BB.size)
  clear a1
  go_wp2_with fail
  refine (C2.out _ (HR.out _ BB)).mono ?_
  rintro e z2 ⟨rfl, a2⟩
  replace BB := BB.trans (a2.mono BB.size)
  clear a2
  go_wp2_with fail
  refine (C3.out _ (HR.out _ BB)).mono ?_
  rintro e z3 ⟨rfl, a3⟩
  replace BB := BB.trans (a3.mono BB.size)
  clear a3
  go_wp2_with fail
  refine (C4.out _ (HR.out _ BB)).mono ?_
  rintro e z4 ⟨rfl, a4⟩
  replace BB := BB.trans (a4.mono BB.size)
  clear a4
  go_wp2_with fail
  refine (C5.out _ (HR.out _ BB)).mono ?_
  rintro e z5 ⟨rfl, a5⟩
  replace BB := BB.trans (a5.mono BB.size)
  clear a5
  go_wp2_with fail
  refine (C6.out _ (HR.out _ BB)).mono ?_
  rintro e z6 ⟨rfl, a6⟩
  replace BB := BB.trans (a6.mono BB.size)
  clear a6
  go_wp2_with fail
  refine (C7.out _ (HR.out _ BB)).mono ?_
  rintro e z7 ⟨rfl, a7⟩
  replace BB := BB.trans (a7.mono BB.size)
  clear a7
  go_wp2_with fail
  refine (C8.out _ (HR.out _ BB)).mono ?_
  rintro e z8 ⟨rfl, a8⟩
  replace BB := BB.trans (a8.mono BB.size)
  clear a8
  go_wp2_with fail
  refine (C9.out _ (HR.out _ BB)).mono ?_
  rintro e z9 ⟨⟨v9, rfl, o9⟩, a9⟩
  replace BB := BB.trans (a9.mono BB.size)
  obtain ⟨A9, c9, rfl⟩ := o9.shape
  have H1 := Il_of_head o9
  rw [HL.out]
  clear o9 a9
  go_wp2_with fail
  refine (C10.out _ (HR.out _ BB)).mono ?_
  rintro e z10 ⟨⟨v10, rfl, o10⟩, a10⟩
  replace BB := BB.trans (a10.mono BB.size)
  have H1 := H1.below a10
  obtain ⟨A10, c10, rfl⟩ := o10.shape
  have H2 := Il_of_own o10
  rw [HL.out]
  clear o10 a10
  go_wp2_with fail
  refine (C11.out _ (HR.out _ BB)).mono ?_
  rintro e z11 ⟨⟨v11, rfl, o11⟩, a11⟩
  replace BB := BB.trans (a11.mono BB.size)
  have H1 := H1.below a11
  have H2 := H2.below a11
  obtain ⟨A11, c11, rfl⟩ := o11.shape
  have H3 := Il_of_own o11
  rw [HL2.out]
  clear o11 a11
  go_wp2_with fail
  refine (C12.out _ (HR.out _ BB)).mono ?_
  rintro e z12 ⟨⟨v12, rfl, o12⟩, a12⟩
  replace BB := BB.trans (a12.mono BB.size)
  have H1 := H1.below a12
  have H2 := H2.below a12
  have H3 := H3.below a12
  obtain ⟨A12, c12, rfl⟩ := o12.shape
  have H4 := Il_of_own o12
  rw [HL2.out]
  clear o12 a12
  go_wp2_with fail
  refine (C13.out _ (HR.out _ BB)).mono ?_
  rintro e z13 ⟨rfl, a13⟩
  replace BB := BB.trans (a13.mono BB.size)
  have H1 := H1.below a13
  have H2 := H2.below a13
  have H3 := H3.below a13
  have H4 := H4.below a13
  clear a13
  go_wp2_with fail
  refine (C14.out _ (HR.out _ BB)).mono ?_
  rintro e z14 ⟨rfl, a14⟩
  replace BB := BB.trans (a14.mono BB.size)
  have H1 := H1.below a14
  have H2 := H2.below a14
  have H3 := H3.below a14
  have H4 := H4.below a14
  clear a14
  clear C1 C2 C3 C4 C5 C6 C7 C8 C9 C10 C11 C12 C13 C14
  cases hwb : WB with
  | false =>
    as_aux_lemma =>
      have hw : whB rs = false := GWB.out.trans hwb
      have ho : isO rs n = false := by rw [isO, hw]; rfl
      obtain rfl : SO = false := by rw [← GSO.out]; exact ho
      obtain rfl : KO = false := by rw [← GKO.out, rkO, ho]; rfl
      obtain rfl : IV = false := by rw [← GIV.out]; exact isW_no ho
      subst hwb
      clear hw ho
      go_wp2_with fail
      refine (gSame_c A9 A10 L L c9 c10 SP _ H1 H2 HL.out.symm HL.out.symm hsl).mono ?_
      rintro e y1 ⟨rfl, b1⟩
      replace BB := BB.trans (b1.mono BB.size)
      have H1 := H1.below b1
      have H3 := H3.below b1
      have H4 := H4.below b1
      clear b1 H2
      go_wp2_with fail
      refine (gSame_c A11 A12 L2 L2 c11 c12 ST _ H3 H4 HL2.out.symm HL2.out.symm htl).mono ?_
      rintro e y2 ⟨rfl, b2⟩
      replace BB := BB.trans (b2.mono BB.size)
      have H1 := H1.below b2
      have H3 := H3.below b2
      clear b2 H4
      go_wp2
      go_ret
      exact ⟨rfl, BB0.trans (BB.mono BB0.size)⟩
  | true =>
    have hw : whB rs = true := GWB.out.trans hwb
    subst hwb
    obtain ⟨hp1, hp2, hp3⟩ := wh_lip hw
    obtain ⟨_, _, _, _, hP1, hP9, _⟩ := whB_parts hw
    have hSP : SP = spk rs := by rw [← GSP.out]; exact spV_yes hw
    have hST : ST = stA rs := by rw [← GST.out]; exact stV_yes hw
    obtain rfl : L2 = L := by rw [← HL2.out, ← HL.out, hSP, hST, stA_len]
    obtain rfl : CV = (L2 : Int) := by rw [← GCV.out, csV_yes hw, ← HL.out, hSP]
    rw [← hSP, HL.out] at hp3
    obtain ⟨P, hP⟩ : ∃ p, whP rs = p := ⟨_, rfl⟩
    rw [hP] at hp2 hP1 hP9
    have hL1 : 1 ≤ L2 := by rw [← HL.out, hSP]; exact spk_pos hw
    have hLP : L2 ≤ P := by rw [← HL.out, hSP, ← hP]; exact spk_len rs
    have D1 := Lib.hid (fun W (hW : Rl W AR rs) => impl_PeriodOfRules_c W AR mR cR rs hW Hm.out hn4)
    have D2 := Lib.hid (fun W (hW : Rl W AR rs) => impl_LeftInPeriod_c W AR mR cR rs hW Hm.out hn4)
    rw [hp1, hp2] at D1
    rw [hp1, hp3] at D2
    have hsum : sumZ ST L2 = (P : Int) := by rw [hST, ← HL.out, hSP, st_sumA hw, hP]
    have D3 := Lib.hid (fun W (hW : Il W A11 ST) => gSum_c W A11 L2 c11 ST hW HL2.out.symm htl (fun k hk => by rw [hST] at hk ⊢; have := st_pos hw k hk; omega))
    rw [hsum] at D3
    have HI : Hid (∀ k, k < L2 → 1 ≤ ivL SP k ∧ ivL SP k ≤ (P : Int) ∧ isO rs (ivL SP k + 3 * (P : Int)) = true ∧ isW rs (ivL SP k + 3 * (P : Int)) = true) := fun k hk => by
      rw [← HL.out, hSP] at hk
      rw [hSP, ← hP]
      have a := spk_at hk
      have b := is_far hw hk
      exact ⟨a.1, a.2.1, b.1, b.2⟩
    have HS : Hid (∀ q, q + 1 < L2 → ivL SP (q + 1) - ivL SP q = ivL ST q) := fun q hq => by
      rw [← HL.out, hSP] at hq
      rw [hSP, hST, stA, stL_at (by omega), nx_at hq]
    have HLP := Lib.hid hLP
    clear hp1 hp2 hp3 hsum
    cases hso : SO with
    | false =>
      as_aux_lemma =>
        have ho : isO rs n = false := GSO.out.trans hso
        obtain rfl : KO = false := by rw [← GKO.out, rkO, ho]; rfl
        obtain rfl : IV = false := by rw [← GIV.out]; exact isW_no ho
        subst hso
        clear ho hw hSP hST hP
        go_wp2_with fail
        refine (gSame_c A9 A10 L2 L2 c9 c10 SP _ H1 H2 HL.out.symm HL.out.symm hsl).mono ?_
        rintro e y1 ⟨rfl, b1⟩
        replace BB := BB.trans (b1.mono BB.size)
        have H1 := H1.below b1
        have H3 := H3.below b1
        have H4 := H4.below b1
        clear b1 H2
        go_wp2_with fail
        refine (gSame_c A11 A12 L2 L2 c11 c12 ST _ H3 H4 HL2.out.symm HL2.out.symm htl).mono ?_
        rintro e y2 ⟨rfl, b2⟩
        replace BB := BB.trans (b2.mono BB.size)
        have H1 := H1.below b2
        have H3 := H3.below b2
        clear b2 H4
        go_wp2_with fail
        refine (D1.out _ (HR.out _ BB)).mono ?_
        rintro e y3 ⟨rfl, b3⟩
        replace BB := BB.trans (b3.mono BB.size)
        have H1 := H1.below b3
        have H3 := H3.below b3
        clear b3
        go_wp2_with fail
        refine (D2.out _ (HR.out _ BB)).mono ?_
        rintro e y4 ⟨rfl, b4⟩
        replace BB := BB.trans (b4.mono BB.size)
        have H1 := H1.below b4
        have H3 := H3.below b4
        clear b4
        have hLd : decide ((L2 : Int) < 1) = false := decide_eq_false (by omega)
        go_wp2_with fail
        refine (D3.out _ H3).mono ?_
        rintro e y5 ⟨rfl, b5⟩
        replace BB := BB.trans (b5.mono BB.size)
        have H1 := H1.below b5
        have H3 := H3.below b5
        clear b5 D1 D2 D3
        go_wp2
        go_loopw [289] (fun i wr => ∃ k : Nat, k ≤ L2 ∧ i = .int .i64 (k : Int) ∧ Below wd.heap.size wd wr ∧ Il wr A9 SP ∧ Il wr A11 ST) (fun i _ => L2 - (intOf i).toNat)
        case atStart => exact ⟨0, Nat.zero_le _, rfl, BB, H1, H3⟩
        case round =>
          clear BB H1 H3
          obtain ⟨k, hk, rfl, BB, H1, H3⟩ := hrel
          by_cases hlt : k < L2
          · have hlt1 : k < SP.length := by rw [HL.out]; exact hlt
            have hki : (k : Int) < (L2 : Int) := by omega
            have HR1 : Hid (∀ W, Below wr.heap.size wr W → Il W A9 SP) := fun W hB => H1.below hB
            have HR3 : Hid (∀ W, Below wr.heap.size wr W → Il W A11 ST) := fun W hB => H3.below hB
            obtain ⟨b, off, rfl, hb, hr⟩ := H1 (by rw [HL.out]; omega)
            obtain ⟨b3, off3, rfl, hb3, hr3⟩ := H3 (by rw [HL2.out]; omega)
            clear H1 H3
            have hc0 := hr k hlt1
            have Hhr := Lib.hid (fun i (hi : i < L2) => hr i (by rw [HL.out]; exact hi))
            have Hh3 := Lib.hid (fun i (hi : i < L2) => hr3 i (by rw [HL2.out]; exact hi))
            clear hr hr3 hlt1
            obtain ⟨g1, g2, g3, g4⟩ := HI.out k hlt
            obtain ⟨X, hX⟩ : ∃ x, ivL SP k = x := ⟨_, rfl⟩
            rw [hX] at g1 g2 g3 g4 hc0
            have I1 := Lib.hid (fun W (hW : Rl W AR rs) => impl_IsSpoke_c W AR mR cR rs hW Hm.out hn4 (X + 3 * (P : Int)))
            rw [g3, g4] at I1
            clear g3 g4
            by_cases hk0 : k = 0
            · skip
              obtain rfl : k = 0 := hk0
              rw [Nat.add_zero] at hc0
              have hXd : decide (X < 1) = false := decide_eq_false (by omega)
              have hXe : decide ((P : Int) < X) = false := decide_eq_false (by omega)
              have hw3 : IntKind.i64.wrap (3 * (P : Int)) = 3 * (P : Int) := IntWalk.i64_in _ (by omega)
              have hw4 : IntKind.i64.wrap (X + 3 * (P : Int)) = X + 3 * (P : Int) := IntWalk.i64_in _ (by omega)
              go_wp2_with fail
              go_quiet (fail)
              have BB := below_drewN BB nq
              have HRd := HR1.out _ (below_drewN (Below.refl _ _) nq)
              have HR3d := HR3.out _ (below_drewN (Below.refl _ _) nq)
              go_wp2_with fail
              refine (I1.out _ (HR.out _ BB)).mono ?_
              rintro e p1 ⟨rfl, ap1⟩
              replace BB := BB.trans (ap1.mono BB.size)
              have H9 := HRd.below ap1
              have H8 := HR3d.below ap1
              clear ap1 HRd HR3d
              go_wp2
              go_roundw
              case rel => exact ⟨0 + 1, by omega, by go_num, BB, H9, H8⟩
              case measure => simp [intOf]; omega
            · skip
              obtain ⟨q, rfl⟩ : ∃ q, k = q + 1 := ⟨k - 1, by omega⟩
              have hcq := Hhr.out q (by omega)
              have hdq := Hh3.out q (by omega)
              have hs := HS.out q hlt
              rw [hX] at hs
              obtain ⟨Y, hY⟩ : ∃ y, ivL SP q = y := ⟨_, rfl⟩
              obtain ⟨Z, hZ⟩ : ∃ y, ivL ST q = y := ⟨_, rfl⟩
              rw [hY] at hcq hs
              rw [hZ] at hdq hs
              have hYb : 1 ≤ Y ∧ Y ≤ (P : Int) := by have := HI.out q (by omega); rw [hY] at this; exact ⟨this.1, this.2.1⟩
              have HY := Lib.hid hY
              have HZ := Lib.hid hZ
              clear hY hZ
              obtain rfl : Z = X - Y := hs.symm
              have hkq : ((q + 1 : Nat) : Int) - 1 = (q : Int) := by omega
              have hk1 : (0 : Int) < ((q + 1 : Nat) : Int) := by omega
              have hkd : decide ((0 : Int) < ((q + 1 : Nat) : Int)) = true := decide_eq_true hk1
              have hq00 : (0 : Int) ≤ (q : Int) := by omega
              have hqL : (q : Int) < (L2 : Int) := by omega
              have hwz : IntKind.i64.wrap (X - Y) = X - Y := IntWalk.i64_in _ (by omega)
              have hXd : decide (X < 1) = false := decide_eq_false (by omega)
              have hXe : decide ((P : Int) < X) = false := decide_eq_false (by omega)
              have hw3 : IntKind.i64.wrap (3 * (P : Int)) = 3 * (P : Int) := IntWalk.i64_in _ (by omega)
              have hw4 : IntKind.i64.wrap (X + 3 * (P : Int)) = X + 3 * (P : Int) := IntWalk.i64_in _ (by omega)
              go_wp2_with fail
              go_quiet (fail)
              have BB := below_drewN BB nq
              have HRd := HR1.out _ (below_drewN (Below.refl _ _) nq)
              have HR3d := HR3.out _ (below_drewN (Below.refl _ _) nq)
              go_wp2_with fail
              refine (I1.out _ (HR.out _ BB)).mono ?_
              rintro e p1 ⟨rfl, ap1⟩
              replace BB := BB.trans (ap1.mono BB.size)
              have H9 := HRd.below ap1
              have H8 := HR3d.below ap1
              clear ap1 HRd HR3d
              go_wp2
              go_roundw
              case rel => exact ⟨q + 1 + 1, by omega, by go_num, BB, H9, H8⟩
              case measure => simp [intOf]; omega
          · have hki : ¬ (k : Int) < (L2 : Int) := by omega
            clear H1 H3 HI HS
            go_wp2
            go_ret
            exact ⟨rfl, BB0.trans (BB.mono BB0.size)⟩
    | true =>
      have ho : isO rs n = true := GSO.out.trans hso
      subst hso
      obtain ⟨n1, n9⟩ := inB_true.1 (show inB n 0 1000000000 = true by rw [isO, Bool.and_eq_true] at ho; exact ho.2)
      have HA : Hid (SV ≤ 1000000000 → rkO rs SV = true ∧ rkV rs SV = n) := fun h => by rw [← GSV.out] at h ⊢; exact rank_spoke ho h
      obtain ⟨D, hD9, hDi, hDn⟩ := sn_is ho
      rw [GIV.out] at hDi
      rw [GNV.out] at hDn
      have hlf : isW rs n = leftF rs n := isW_yes ho
      rw [GIV.out] at hlf
      by_cases hD0 : D = 0
      · subst hD0
        rw [decide_eq_true rfl] at hDi
        subst hDi
        obtain rfl : NV = n := by rcases hDn with h | h <;> omega
        have h00 : IntKind.i64.wrap (NV - NV) = 0 := IntWalk.i64_in _ (by omega) |>.trans (by omega)
        have h01 : IntKind.i64.wrap (NV + 0) = NV := by rw [Int.add_zero]; exact IntWalk.i64_in _ (by omega)
        have h02 : decide (NV ≤ 1000000000) = true := decide_eq_true n9
        have h03 : IntKind.i64.wrap (NV - 0) = NV := by rw [Int.sub_zero]; exact IntWalk.i64_in _ (by omega)
        have h04 : decide ((0 : Int) ≤ NV) = true := decide_eq_true n1
        have h05 : NV - NV = 0 := by omega
        by_cases hn1 : 1 ≤ NV
        · skip
          as_aux_lemma =>
            have hk : rkO rs NV = true := by rw [rkO, ho, ← hlf, decide_eq_true hn1]; rfl
            obtain rfl : KO = true := by rw [← GKO.out]; exact hk
            obtain ⟨e1, e2⟩ := spoke_rank hk
            rw [GKV.out] at e1 e2
            have F1 := Lib.hid (fun W (hW : Rl W AR rs) => impl_SpokeOfRank_c W AR mR cR rs hW Hm.out hn4 KV)
            rw [e1, e2] at F1
            have hn0 : decide ((0 : Int) < NV) = true := decide_eq_true (by omega)
            have hn00 : (0 : Int) < NV := by omega
            clear e1 e2 hk ho hw hSP hST hP hlf hDn hD9
            go_wp2_with fail
            refine (gSame_c A9 A10 L2 L2 c9 c10 SP _ H1 H2 HL.out.symm HL.out.symm hsl).mono ?_
            rintro e y1 ⟨rfl, b1⟩
            replace BB := BB.trans (b1.mono BB.size)
            have H1 := H1.below b1
            have H3 := H3.below b1
            have H4 := H4.below b1
            clear b1 H2
            go_wp2_with fail
            refine (gSame_c A11 A12 L2 L2 c11 c12 ST _ H3 H4 HL2.out.symm HL2.out.symm htl).mono ?_
            rintro e y2 ⟨rfl, b2⟩
            replace BB := BB.trans (b2.mono BB.size)
            have H1 := H1.below b2
            have H3 := H3.below b2
            clear b2 H4
            go_wp2_with fail
            refine (D1.out _ (HR.out _ BB)).mono ?_
            rintro e y3 ⟨rfl, b3⟩
            replace BB := BB.trans (b3.mono BB.size)
            have H1 := H1.below b3
            have H3 := H3.below b3
            clear b3
            go_wp2_with fail
            refine (D2.out _ (HR.out _ BB)).mono ?_
            rintro e y4 ⟨rfl, b4⟩
            replace BB := BB.trans (b4.mono BB.size)
            have H1 := H1.below b4
            have H3 := H3.below b4
            clear b4
            have hLd : decide ((L2 : Int) < 1) = false := decide_eq_false (by omega)
            go_wp2_with fail
            refine (D3.out _ H3).mono ?_
            rintro e y5 ⟨rfl, b5⟩
            replace BB := BB.trans (b5.mono BB.size)
            have H1 := H1.below b5
            have H3 := H3.below b5
            clear b5 D1 D2 D3
            go_wp2
            go_loopw [289] (fun i wr => ∃ k : Nat, k ≤ L2 ∧ i = .int .i64 (k : Int) ∧ Below wd.heap.size wd wr ∧ Il wr A9 SP ∧ Il wr A11 ST) (fun i _ => L2 - (intOf i).toNat)
            case atStart => exact ⟨0, Nat.zero_le _, rfl, BB, H1, H3⟩
            case round =>
              clear BB H1 H3
              obtain ⟨k, hk, rfl, BB, H1, H3⟩ := hrel
              by_cases hlt : k < L2
              · have hlt1 : k < SP.length := by rw [HL.out]; exact hlt
                have hki : (k : Int) < (L2 : Int) := by omega
                have HR1 : Hid (∀ W, Below wr.heap.size wr W → Il W A9 SP) := fun W hB => H1.below hB
                have HR3 : Hid (∀ W, Below wr.heap.size wr W → Il W A11 ST) := fun W hB => H3.below hB
                obtain ⟨b, off, rfl, hb, hr⟩ := H1 (by rw [HL.out]; omega)
                obtain ⟨b3, off3, rfl, hb3, hr3⟩ := H3 (by rw [HL2.out]; omega)
                clear H1 H3
                have hc0 := hr k hlt1
                have Hhr := Lib.hid (fun i (hi : i < L2) => hr i (by rw [HL.out]; exact hi))
                have Hh3 := Lib.hid (fun i (hi : i < L2) => hr3 i (by rw [HL2.out]; exact hi))
                clear hr hr3 hlt1
                obtain ⟨g1, g2, g3, g4⟩ := HI.out k hlt
                obtain ⟨X, hX⟩ : ∃ x, ivL SP k = x := ⟨_, rfl⟩
                rw [hX] at g1 g2 g3 g4 hc0
                have I1 := Lib.hid (fun W (hW : Rl W AR rs) => impl_IsSpoke_c W AR mR cR rs hW Hm.out hn4 (X + 3 * (P : Int)))
                rw [g3, g4] at I1
                clear g3 g4
                by_cases hk0 : k = 0
                · skip
                  obtain rfl : k = 0 := hk0
                  rw [Nat.add_zero] at hc0
                  have hXd : decide (X < 1) = false := decide_eq_false (by omega)
                  have hXe : decide ((P : Int) < X) = false := decide_eq_false (by omega)
                  have hw3 : IntKind.i64.wrap (3 * (P : Int)) = 3 * (P : Int) := IntWalk.i64_in _ (by omega)
                  have hw4 : IntKind.i64.wrap (X + 3 * (P : Int)) = X + 3 * (P : Int) := IntWalk.i64_in _ (by omega)
                  go_wp2_with fail
                  go_quiet (fail)
                  have BB := below_drewN BB nq
                  have HRd := HR1.out _ (below_drewN (Below.refl _ _) nq)
                  have HR3d := HR3.out _ (below_drewN (Below.refl _ _) nq)
                  go_wp2_with fail
                  refine (I1.out _ (HR.out _ BB)).mono ?_
                  rintro e p1 ⟨rfl, ap1⟩
                  replace BB := BB.trans (ap1.mono BB.size)
                  have H9 := HRd.below ap1
                  have H8 := HR3d.below ap1
                  clear ap1 HRd HR3d
                  go_wp2
                  go_roundw
                  case rel => exact ⟨0 + 1, by omega, by go_num, BB, H9, H8⟩
                  case measure => simp [intOf]; omega
                · skip
                  obtain ⟨q, rfl⟩ : ∃ q, k = q + 1 := ⟨k - 1, by omega⟩
                  have hcq := Hhr.out q (by omega)
                  have hdq := Hh3.out q (by omega)
                  have hs := HS.out q hlt
                  rw [hX] at hs
                  obtain ⟨Y, hY⟩ : ∃ y, ivL SP q = y := ⟨_, rfl⟩
                  obtain ⟨Z, hZ⟩ : ∃ y, ivL ST q = y := ⟨_, rfl⟩
                  rw [hY] at hcq hs
                  rw [hZ] at hdq hs
                  have hYb : 1 ≤ Y ∧ Y ≤ (P : Int) := by have := HI.out q (by omega); rw [hY] at this; exact ⟨this.1, this.2.1⟩
                  have HY := Lib.hid hY
                  have HZ := Lib.hid hZ
                  clear hY hZ
                  obtain rfl : Z = X - Y := hs.symm
                  have hkq : ((q + 1 : Nat) : Int) - 1 = (q : Int) := by omega
                  have hk1 : (0 : Int) < ((q + 1 : Nat) : Int) := by omega
                  have hkd : decide ((0 : Int) < ((q + 1 : Nat) : Int)) = true := decide_eq_true hk1
                  have hq00 : (0 : Int) ≤ (q : Int) := by omega
                  have hqL : (q : Int) < (L2 : Int) := by omega
                  have hwz : IntKind.i64.wrap (X - Y) = X - Y := IntWalk.i64_in _ (by omega)
                  have hXd : decide (X < 1) = false := decide_eq_false (by omega)
                  have hXe : decide ((P : Int) < X) = false := decide_eq_false (by omega)
                  have hw3 : IntKind.i64.wrap (3 * (P : Int)) = 3 * (P : Int) := IntWalk.i64_in _ (by omega)
                  have hw4 : IntKind.i64.wrap (X + 3 * (P : Int)) = X + 3 * (P : Int) := IntWalk.i64_in _ (by omega)
                  go_wp2_with fail
                  go_quiet (fail)
                  have BB := below_drewN BB nq
                  have HRd := HR1.out _ (below_drewN (Below.refl _ _) nq)
                  have HR3d := HR3.out _ (below_drewN (Below.refl _ _) nq)
                  go_wp2_with fail
                  refine (I1.out _ (HR.out _ BB)).mono ?_
                  rintro e p1 ⟨rfl, ap1⟩
                  replace BB := BB.trans (ap1.mono BB.size)
                  have H9 := HRd.below ap1
                  have H8 := HR3d.below ap1
                  clear ap1 HRd HR3d
                  go_wp2
                  go_roundw
                  case rel => exact ⟨q + 1 + 1, by omega, by go_num, BB, H9, H8⟩
                  case measure => simp [intOf]; omega
              · have hki : ¬ (k : Int) < (L2 : Int) := by omega
                clear H1 H3 HI HS
                by_cases hsv : SV ≤ 1000000000
                · have hsd : decide (SV ≤ 1000000000) = true := decide_eq_true hsv
                  obtain ⟨e1, e2⟩ := HA.out hsv
                  have E1 := Lib.hid (fun W (hW : Rl W AR rs) => impl_RankOfSpoke_c W AR mR cR rs hW Hm.out hn4 SV)
                  rw [e1, e2] at E1
                  clear e1 e2
                  go_wp2_with fail
                  refine (E1.out _ (HR.out _ BB)).mono ?_
                  rintro e x1 ⟨rfl, q1⟩
                  replace BB := BB.trans (q1.mono BB.size)
                  clear q1 E1
                  go_wp2_with fail
                  refine (F1.out _ (HR.out _ BB)).mono ?_
                  rintro e x2 ⟨rfl, q2⟩
                  replace BB := BB.trans (q2.mono BB.size)
                  clear q2
                  go_wp2
                  go_ret
                  exact ⟨rfl, BB0.trans (BB.mono BB0.size)⟩
                · have hsd : decide (SV ≤ 1000000000) = false := decide_eq_false hsv
                  go_wp2_with fail
                  refine (F1.out _ (HR.out _ BB)).mono ?_
                  rintro e x2 ⟨rfl, q2⟩
                  replace BB := BB.trans (q2.mono BB.size)
                  clear q2
                  go_wp2
                  go_ret
                  exact ⟨rfl, BB0.trans (BB.mono BB0.size)⟩
        · skip
          as_aux_lemma =>
            obtain rfl : NV = 0 := by omega
            obtain rfl : KO = false := by rw [← GKO.out, rkO, decide_eq_false hn1, Bool.and_false, Bool.false_and]
            clear ho hw hSP hST hP hlf hDn hD9
            go_wp2_with fail
            refine (gSame_c A9 A10 L2 L2 c9 c10 SP _ H1 H2 HL.out.symm HL.out.symm hsl).mono ?_
            rintro e y1 ⟨rfl, b1⟩
            replace BB := BB.trans (b1.mono BB.size)
            have H1 := H1.below b1
            have H3 := H3.below b1
            have H4 := H4.below b1
            clear b1 H2
            go_wp2_with fail
            refine (gSame_c A11 A12 L2 L2 c11 c12 ST _ H3 H4 HL2.out.symm HL2.out.symm htl).mono ?_
            rintro e y2 ⟨rfl, b2⟩
            replace BB := BB.trans (b2.mono BB.size)
            have H1 := H1.below b2
            have H3 := H3.below b2
            clear b2 H4
            go_wp2_with fail
            refine (D1.out _ (HR.out _ BB)).mono ?_
            rintro e y3 ⟨rfl, b3⟩
            replace BB := BB.trans (b3.mono BB.size)
            have H1 := H1.below b3
            have H3 := H3.below b3
            clear b3
            go_wp2_with fail
            refine (D2.out _ (HR.out _ BB)).mono ?_
            rintro e y4 ⟨rfl, b4⟩
            replace BB := BB.trans (b4.mono BB.size)
            have H1 := H1.below b4
            have H3 := H3.below b4
            clear b4
            have hLd : decide ((L2 : Int) < 1) = false := decide_eq_false (by omega)
            go_wp2_with fail
            refine (D3.out _ H3).mono ?_
            rintro e y5 ⟨rfl, b5⟩
            replace BB := BB.trans (b5.mono BB.size)
            have H1 := H1.below b5
            have H3 := H3.below b5
            clear b5 D1 D2 D3
            go_wp2
            go_loopw [289] (fun i wr => ∃ k : Nat, k ≤ L2 ∧ i = .int .i64 (k : Int) ∧ Below wd.heap.size wd wr ∧ Il wr A9 SP ∧ Il wr A11 ST) (fun i _ => L2 - (intOf i).toNat)
            case atStart => exact ⟨0, Nat.zero_le _, rfl, BB, H1, H3⟩
            case round =>
              clear BB H1 H3
              obtain ⟨k, hk, rfl, BB, H1, H3⟩ := hrel
              by_cases hlt : k < L2
              · have hlt1 : k < SP.length := by rw [HL.out]; exact hlt
                have hki : (k : Int) < (L2 : Int) := by omega
                have HR1 : Hid (∀ W, Below wr.heap.size wr W → Il W A9 SP) := fun W hB => H1.below hB
                have HR3 : Hid (∀ W, Below wr.heap.size wr W → Il W A11 ST) := fun W hB => H3.below hB
                obtain ⟨b, off, rfl, hb, hr⟩ := H1 (by rw [HL.out]; omega)
                obtain ⟨b3, off3, rfl, hb3, hr3⟩ := H3 (by rw [HL2.out]; omega)
                clear H1 H3
                have hc0 := hr k hlt1
                have Hhr := Lib.hid (fun i (hi : i < L2) => hr i (by rw [HL.out]; exact hi))
                have Hh3 := Lib.hid (fun i (hi : i < L2) => hr3 i (by rw [HL2.out]; exact hi))
                clear hr hr3 hlt1
                obtain ⟨g1, g2, g3, g4⟩ := HI.out k hlt
                obtain ⟨X, hX⟩ : ∃ x, ivL SP k = x := ⟨_, rfl⟩
                rw [hX] at g1 g2 g3 g4 hc0
                have I1 := Lib.hid (fun W (hW : Rl W AR rs) => impl_IsSpoke_c W AR mR cR rs hW Hm.out hn4 (X + 3 * (P : Int)))
                rw [g3, g4] at I1
                clear g3 g4
                by_cases hk0 : k = 0
                · skip
                  obtain rfl : k = 0 := hk0
                  rw [Nat.add_zero] at hc0
                  have hXd : decide (X < 1) = false := decide_eq_false (by omega)
                  have hXe : decide ((P : Int) < X) = false := decide_eq_false (by omega)
                  have hw3 : IntKind.i64.wrap (3 * (P : Int)) = 3 * (P : Int) := IntWalk.i64_in _ (by omega)
                  have hw4 : IntKind.i64.wrap (X + 3 * (P : Int)) = X + 3 * (P : Int) := IntWalk.i64_in _ (by omega)
                  go_wp2_with fail
                  go_quiet (fail)
                  have BB := below_drewN BB nq
                  have HRd := HR1.out _ (below_drewN (Below.refl _ _) nq)
                  have HR3d := HR3.out _ (below_drewN (Below.refl _ _) nq)
                  go_wp2_with fail
                  refine (I1.out _ (HR.out _ BB)).mono ?_
                  rintro e p1 ⟨rfl, ap1⟩
                  replace BB := BB.trans (ap1.mono BB.size)
                  have H9 := HRd.below ap1
                  have H8 := HR3d.below ap1
                  clear ap1 HRd HR3d
                  go_wp2
                  go_roundw
                  case rel => exact ⟨0 + 1, by omega, by go_num, BB, H9, H8⟩
                  case measure => simp [intOf]; omega
                · skip
                  obtain ⟨q, rfl⟩ : ∃ q, k = q + 1 := ⟨k - 1, by omega⟩
                  have hcq := Hhr.out q (by omega)
                  have hdq := Hh3.out q (by omega)
                  have hs := HS.out q hlt
                  rw [hX] at hs
                  obtain ⟨Y, hY⟩ : ∃ y, ivL SP q = y := ⟨_, rfl⟩
                  obtain ⟨Z, hZ⟩ : ∃ y, ivL ST q = y := ⟨_, rfl⟩
                  rw [hY] at hcq hs
                  rw [hZ] at hdq hs
                  have hYb : 1 ≤ Y ∧ Y ≤ (P : Int) := by have := HI.out q (by omega); rw [hY] at this; exact ⟨this.1, this.2.1⟩
                  have HY := Lib.hid hY
                  have HZ := Lib.hid hZ
                  clear hY hZ
                  obtain rfl : Z = X - Y := hs.symm
                  have hkq : ((q + 1 : Nat) : Int) - 1 = (q : Int) := by omega
                  have hk1 : (0 : Int) < ((q + 1 : Nat) : Int) := by omega
                  have hkd : decide ((0 : Int) < ((q + 1 : Nat) : Int)) = true := decide_eq_true hk1
                  have hq00 : (0 : Int) ≤ (q : Int) := by omega
                  have hqL : (q : Int) < (L2 : Int) := by omega
                  have hwz : IntKind.i64.wrap (X - Y) = X - Y := IntWalk.i64_in _ (by omega)
                  have hXd : decide (X < 1) = false := decide_eq_false (by omega)
                  have hXe : decide ((P : Int) < X) = false := decide_eq_false (by omega)
                  have hw3 : IntKind.i64.wrap (3 * (P : Int)) = 3 * (P : Int) := IntWalk.i64_in _ (by omega)
                  have hw4 : IntKind.i64.wrap (X + 3 * (P : Int)) = X + 3 * (P : Int) := IntWalk.i64_in _ (by omega)
                  go_wp2_with fail
                  go_quiet (fail)
                  have BB := below_drewN BB nq
                  have HRd := HR1.out _ (below_drewN (Below.refl _ _) nq)
                  have HR3d := HR3.out _ (below_drewN (Below.refl _ _) nq)
                  go_wp2_with fail
                  refine (I1.out _ (HR.out _ BB)).mono ?_
                  rintro e p1 ⟨rfl, ap1⟩
                  replace BB := BB.trans (ap1.mono BB.size)
                  have H9 := HRd.below ap1
                  have H8 := HR3d.below ap1
                  clear ap1 HRd HR3d
                  go_wp2
                  go_roundw
                  case rel => exact ⟨q + 1 + 1, by omega, by go_num, BB, H9, H8⟩
                  case measure => simp [intOf]; omega
              · have hki : ¬ (k : Int) < (L2 : Int) := by omega
                clear H1 H3 HI HS
                by_cases hsv : SV ≤ 1000000000
                · have hsd : decide (SV ≤ 1000000000) = true := decide_eq_true hsv
                  obtain ⟨e1, e2⟩ := HA.out hsv
                  have E1 := Lib.hid (fun W (hW : Rl W AR rs) => impl_RankOfSpoke_c W AR mR cR rs hW Hm.out hn4 SV)
                  rw [e1, e2] at E1
                  clear e1 e2
                  go_wp2_with fail
                  refine (E1.out _ (HR.out _ BB)).mono ?_
                  rintro e x1 ⟨rfl, q1⟩
                  replace BB := BB.trans (q1.mono BB.size)
                  clear q1 E1
                  go_wp2
                  go_ret
                  exact ⟨rfl, BB0.trans (BB.mono BB0.size)⟩
                · have hsd : decide (SV ≤ 1000000000) = false := decide_eq_false hsv
                  go_wp2
                  go_ret
                  exact ⟨rfl, BB0.trans (BB.mono BB0.size)⟩
      rw [decide_eq_false hD0] at hDi
      subst hDi
      obtain rfl : KO = false := by rw [← GKO.out, rkO, ← hlf, Bool.and_false]
      have hd0 : ((D : Int) == 0) = false := beq_eq_false_iff_ne.2 (by omega)
      have hdp : decide ((0 : Int) < (D : Int)) = true := decide_eq_true (by omega)
      have hdp0 : (0 : Int) < (D : Int) := by omega
      have hw1 : IntKind.i64.wrap (n + (D : Int)) = n + (D : Int) := IntWalk.i64_in _ (by omega)
      have hw2 : IntKind.i64.wrap (n - (D : Int)) = n - (D : Int) := IntWalk.i64_in _ (by omega)
      have HB : Hid (n + (D : Int) ≤ 1000000000 → 0 ≤ n - (D : Int) → isO rs (n - (D : Int)) = true ∧ isO rs (n + (D : Int)) = true ∧ isW rs (n - (D : Int)) = leftF rs (n - (D : Int)) ∧ isW rs (n + (D : Int)) = leftF rs (n + (D : Int))) := fun h1 h2 => by
        have o1 : isO rs (n - (D : Int)) = true := by rw [isO, hw, Bool.true_and, inB_true]; omega
        have o2 : isO rs (n + (D : Int)) = true := by rw [isO, hw, Bool.true_and, inB_true]; omega
        exact ⟨o1, o2, isW_yes o1, isW_yes o2⟩
      rcases hDn with ⟨hla, hNV⟩ | ⟨_, hla, hlb, hNV⟩
      · skip
        as_aux_lemma =>
          subst hNV
          have hs1 : IntKind.i64.wrap (n - (D : Int) - n) = -(D : Int) := (IntWalk.i64_in _ (by omega)).trans (by omega)
          have hs2 : decide (-(D : Int) < 0) = true := decide_eq_true (by omega)
          have hs20 : -(D : Int) < 0 := by omega
          have hs3 : IntKind.i64.wrap (-(-(D : Int))) = (D : Int) := (IntWalk.i64_in _ (by omega)).trans (by omega)
          have hs30 : -(-(D : Int)) = (D : Int) := by omega
          have hs4 : n - (D : Int) - n = -(D : Int) := by omega
          have hs5 : decide (n < n - (D : Int)) = false := decide_eq_false (by omega)
          have HL1 : Hid (leftF rs (n - (D : Int)) = true) := hla
          clear ho hw hSP hST hP hlf hla
          go_wp2_with fail
          refine (gSame_c A9 A10 L2 L2 c9 c10 SP _ H1 H2 HL.out.symm HL.out.symm hsl).mono ?_
          rintro e y1 ⟨rfl, b1⟩
          replace BB := BB.trans (b1.mono BB.size)
          have H1 := H1.below b1
          have H3 := H3.below b1
          have H4 := H4.below b1
          clear b1 H2
          go_wp2_with fail
          refine (gSame_c A11 A12 L2 L2 c11 c12 ST _ H3 H4 HL2.out.symm HL2.out.symm htl).mono ?_
          rintro e y2 ⟨rfl, b2⟩
          replace BB := BB.trans (b2.mono BB.size)
          have H1 := H1.below b2
          have H3 := H3.below b2
          clear b2 H4
          go_wp2_with fail
          refine (D1.out _ (HR.out _ BB)).mono ?_
          rintro e y3 ⟨rfl, b3⟩
          replace BB := BB.trans (b3.mono BB.size)
          have H1 := H1.below b3
          have H3 := H3.below b3
          clear b3
          go_wp2_with fail
          refine (D2.out _ (HR.out _ BB)).mono ?_
          rintro e y4 ⟨rfl, b4⟩
          replace BB := BB.trans (b4.mono BB.size)
          have H1 := H1.below b4
          have H3 := H3.below b4
          clear b4
          have hLd : decide ((L2 : Int) < 1) = false := decide_eq_false (by omega)
          go_wp2_with fail
          refine (D3.out _ H3).mono ?_
          rintro e y5 ⟨rfl, b5⟩
          replace BB := BB.trans (b5.mono BB.size)
          have H1 := H1.below b5
          have H3 := H3.below b5
          clear b5 D1 D2 D3
          go_wp2
          go_loopw [289] (fun i wr => ∃ k : Nat, k ≤ L2 ∧ i = .int .i64 (k : Int) ∧ Below wd.heap.size wd wr ∧ Il wr A9 SP ∧ Il wr A11 ST) (fun i _ => L2 - (intOf i).toNat)
          case atStart => exact ⟨0, Nat.zero_le _, rfl, BB, H1, H3⟩
          case round =>
            clear BB H1 H3
            obtain ⟨k, hk, rfl, BB, H1, H3⟩ := hrel
            by_cases hlt : k < L2
            · have hlt1 : k < SP.length := by rw [HL.out]; exact hlt
              have hki : (k : Int) < (L2 : Int) := by omega
              have HR1 : Hid (∀ W, Below wr.heap.size wr W → Il W A9 SP) := fun W hB => H1.below hB
              have HR3 : Hid (∀ W, Below wr.heap.size wr W → Il W A11 ST) := fun W hB => H3.below hB
              obtain ⟨b, off, rfl, hb, hr⟩ := H1 (by rw [HL.out]; omega)
              obtain ⟨b3, off3, rfl, hb3, hr3⟩ := H3 (by rw [HL2.out]; omega)
              clear H1 H3
              have hc0 := hr k hlt1
              have Hhr := Lib.hid (fun i (hi : i < L2) => hr i (by rw [HL.out]; exact hi))
              have Hh3 := Lib.hid (fun i (hi : i < L2) => hr3 i (by rw [HL2.out]; exact hi))
              clear hr hr3 hlt1
              obtain ⟨g1, g2, g3, g4⟩ := HI.out k hlt
              obtain ⟨X, hX⟩ : ∃ x, ivL SP k = x := ⟨_, rfl⟩
              rw [hX] at g1 g2 g3 g4 hc0
              have I1 := Lib.hid (fun W (hW : Rl W AR rs) => impl_IsSpoke_c W AR mR cR rs hW Hm.out hn4 (X + 3 * (P : Int)))
              rw [g3, g4] at I1
              clear g3 g4
              by_cases hk0 : k = 0
              · skip
                obtain rfl : k = 0 := hk0
                rw [Nat.add_zero] at hc0
                have hXd : decide (X < 1) = false := decide_eq_false (by omega)
                have hXe : decide ((P : Int) < X) = false := decide_eq_false (by omega)
                have hw3 : IntKind.i64.wrap (3 * (P : Int)) = 3 * (P : Int) := IntWalk.i64_in _ (by omega)
                have hw4 : IntKind.i64.wrap (X + 3 * (P : Int)) = X + 3 * (P : Int) := IntWalk.i64_in _ (by omega)
                go_wp2_with fail
                go_quiet (fail)
                have BB := below_drewN BB nq
                have HRd := HR1.out _ (below_drewN (Below.refl _ _) nq)
                have HR3d := HR3.out _ (below_drewN (Below.refl _ _) nq)
                go_wp2_with fail
                refine (I1.out _ (HR.out _ BB)).mono ?_
                rintro e p1 ⟨rfl, ap1⟩
                replace BB := BB.trans (ap1.mono BB.size)
                have H9 := HRd.below ap1
                have H8 := HR3d.below ap1
                clear ap1 HRd HR3d
                go_wp2
                go_roundw
                case rel => exact ⟨0 + 1, by omega, by go_num, BB, H9, H8⟩
                case measure => simp [intOf]; omega
              · skip
                obtain ⟨q, rfl⟩ : ∃ q, k = q + 1 := ⟨k - 1, by omega⟩
                have hcq := Hhr.out q (by omega)
                have hdq := Hh3.out q (by omega)
                have hs := HS.out q hlt
                rw [hX] at hs
                obtain ⟨Y, hY⟩ : ∃ y, ivL SP q = y := ⟨_, rfl⟩
                obtain ⟨Z, hZ⟩ : ∃ y, ivL ST q = y := ⟨_, rfl⟩
                rw [hY] at hcq hs
                rw [hZ] at hdq hs
                have hYb : 1 ≤ Y ∧ Y ≤ (P : Int) := by have := HI.out q (by omega); rw [hY] at this; exact ⟨this.1, this.2.1⟩
                have HY := Lib.hid hY
                have HZ := Lib.hid hZ
                clear hY hZ
                obtain rfl : Z = X - Y := hs.symm
                have hkq : ((q + 1 : Nat) : Int) - 1 = (q : Int) := by omega
                have hk1 : (0 : Int) < ((q + 1 : Nat) : Int) := by omega
                have hkd : decide ((0 : Int) < ((q + 1 : Nat) : Int)) = true := decide_eq_true hk1
                have hq00 : (0 : Int) ≤ (q : Int) := by omega
                have hqL : (q : Int) < (L2 : Int) := by omega
                have hwz : IntKind.i64.wrap (X - Y) = X - Y := IntWalk.i64_in _ (by omega)
                have hXd : decide (X < 1) = false := decide_eq_false (by omega)
                have hXe : decide ((P : Int) < X) = false := decide_eq_false (by omega)
                have hw3 : IntKind.i64.wrap (3 * (P : Int)) = 3 * (P : Int) := IntWalk.i64_in _ (by omega)
                have hw4 : IntKind.i64.wrap (X + 3 * (P : Int)) = X + 3 * (P : Int) := IntWalk.i64_in _ (by omega)
                go_wp2_with fail
                go_quiet (fail)
                have BB := below_drewN BB nq
                have HRd := HR1.out _ (below_drewN (Below.refl _ _) nq)
                have HR3d := HR3.out _ (below_drewN (Below.refl _ _) nq)
                go_wp2_with fail
                refine (I1.out _ (HR.out _ BB)).mono ?_
                rintro e p1 ⟨rfl, ap1⟩
                replace BB := BB.trans (ap1.mono BB.size)
                have H9 := HRd.below ap1
                have H8 := HR3d.below ap1
                clear ap1 HRd HR3d
                go_wp2
                go_roundw
                case rel => exact ⟨q + 1 + 1, by omega, by go_num, BB, H9, H8⟩
                case measure => simp [intOf]; omega
            · have hki : ¬ (k : Int) < (L2 : Int) := by omega
              clear H1 H3 HI HS
              by_cases hsv : SV ≤ 1000000000
              · have hsd : decide (SV ≤ 1000000000) = true := decide_eq_true hsv
                obtain ⟨e1, e2⟩ := HA.out hsv
                have E1 := Lib.hid (fun W (hW : Rl W AR rs) => impl_RankOfSpoke_c W AR mR cR rs hW Hm.out hn4 SV)
                rw [e1, e2] at E1
                clear e1 e2
                go_wp2_with fail
                refine (E1.out _ (HR.out _ BB)).mono ?_
                rintro e x1 ⟨rfl, q1⟩
                replace BB := BB.trans (q1.mono BB.size)
                clear q1 E1
                by_cases hr1 : n + (D : Int) ≤ 1000000000
                · have hr1d : decide (n + (D : Int) ≤ 1000000000) = true := decide_eq_true hr1
                  by_cases hr2 : 0 ≤ n - (D : Int)
                  · have hr2d : decide (0 ≤ n - (D : Int)) = true := decide_eq_true hr2
                    obtain ⟨e1, e2, e3, e4⟩ := HB.out hr1 hr2
                    rw [HL1.out] at e3
                    have J1 := Lib.hid (fun W (hW : Rl W AR rs) => impl_IsSpoke_c W AR mR cR rs hW Hm.out hn4 (n - (D : Int)))
                    have J2 := Lib.hid (fun W (hW : Rl W AR rs) => impl_IsSpoke_c W AR mR cR rs hW Hm.out hn4 (n + (D : Int)))
                    rw [e1, e3] at J1
                    rw [e2, e4] at J2
                    clear e1 e2 e3 e4
                    obtain ⟨LB, hLB⟩ : ∃ x, leftF rs (n + (D : Int)) = x := ⟨_, rfl⟩
                    rw [hLB] at J2
                    clear hLB
                    go_wp2_with fail
                    refine (J1.out _ (HR.out _ BB)).mono ?_
                    rintro e u1 ⟨rfl, q1⟩
                    replace BB := BB.trans (q1.mono BB.size)
                    clear q1
                    go_wp2_with fail
                    refine (J2.out _ (HR.out _ BB)).mono ?_
                    rintro e u2 ⟨rfl, q2⟩
                    replace BB := BB.trans (q2.mono BB.size)
                    clear q2
                    go_wp2
                    go_ret
                    exact ⟨rfl, BB0.trans (BB.mono BB0.size)⟩
                  · have hr2d : decide (0 ≤ n - (D : Int)) = false := decide_eq_false hr2
                    go_wp2
                    go_ret
                    exact ⟨rfl, BB0.trans (BB.mono BB0.size)⟩
                · have hr1d : decide (n + (D : Int) ≤ 1000000000) = false := decide_eq_false hr1
                  go_wp2
                  go_ret
                  exact ⟨rfl, BB0.trans (BB.mono BB0.size)⟩
              · have hsd : decide (SV ≤ 1000000000) = false := decide_eq_false hsv
                by_cases hr1 : n + (D : Int) ≤ 1000000000
                · have hr1d : decide (n + (D : Int) ≤ 1000000000) = true := decide_eq_true hr1
                  by_cases hr2 : 0 ≤ n - (D : Int)
                  · have hr2d : decide (0 ≤ n - (D : Int)) = true := decide_eq_true hr2
                    obtain ⟨e1, e2, e3, e4⟩ := HB.out hr1 hr2
                    rw [HL1.out] at e3
                    have J1 := Lib.hid (fun W (hW : Rl W AR rs) => impl_IsSpoke_c W AR mR cR rs hW Hm.out hn4 (n - (D : Int)))
                    have J2 := Lib.hid (fun W (hW : Rl W AR rs) => impl_IsSpoke_c W AR mR cR rs hW Hm.out hn4 (n + (D : Int)))
                    rw [e1, e3] at J1
                    rw [e2, e4] at J2
                    clear e1 e2 e3 e4
                    obtain ⟨LB, hLB⟩ : ∃ x, leftF rs (n + (D : Int)) = x := ⟨_, rfl⟩
                    rw [hLB] at J2
                    clear hLB
                    go_wp2_with fail
                    refine (J1.out _ (HR.out _ BB)).mono ?_
                    rintro e u1 ⟨rfl, q1⟩
                    replace BB := BB.trans (q1.mono BB.size)
                    clear q1
                    go_wp2_with fail
                    refine (J2.out _ (HR.out _ BB)).mono ?_
                    rintro e u2 ⟨rfl, q2⟩
                    replace BB := BB.trans (q2.mono BB.size)
                    clear q2
                    go_wp2
                    go_ret
                    exact ⟨rfl, BB0.trans (BB.mono BB0.size)⟩
                  · have hr2d : decide (0 ≤ n - (D : Int)) = false := decide_eq_false hr2
                    go_wp2
                    go_ret
                    exact ⟨rfl, BB0.trans (BB.mono BB0.size)⟩
                · have hr1d : decide (n + (D : Int) ≤ 1000000000) = false := decide_eq_false hr1
                  go_wp2
                  go_ret
                  exact ⟨rfl, BB0.trans (BB.mono BB0.size)⟩
      · skip
        as_aux_lemma =>
          subst hNV
          have hs1 : IntKind.i64.wrap (n + (D : Int) - n) = (D : Int) := (IntWalk.i64_in _ (by omega)).trans (by omega)
          have hs2 : decide ((D : Int) < 0) = false := decide_eq_false (by omega)
          have hs20 : ¬ (D : Int) < 0 := by omega
          have hs4 : n + (D : Int) - n = (D : Int) := by omega
          have hs5 : decide (n < n + (D : Int)) = true := decide_eq_true (by omega)
          have HL1 : Hid (leftF rs (n - (D : Int)) = false) := hla
          have HL3 : Hid (leftF rs (n + (D : Int)) = true) := hlb
          clear ho hw hSP hST hP hlf hla hlb
          go_wp2_with fail
          refine (gSame_c A9 A10 L2 L2 c9 c10 SP _ H1 H2 HL.out.symm HL.out.symm hsl).mono ?_
          rintro e y1 ⟨rfl, b1⟩
          replace BB := BB.trans (b1.mono BB.size)
          have H1 := H1.below b1
          have H3 := H3.below b1
          have H4 := H4.below b1
          clear b1 H2
          go_wp2_with fail
          refine (gSame_c A11 A12 L2 L2 c11 c12 ST _ H3 H4 HL2.out.symm HL2.out.symm htl).mono ?_
          rintro e y2 ⟨rfl, b2⟩
          replace BB := BB.trans (b2.mono BB.size)
          have H1 := H1.below b2
          have H3 := H3.below b2
          clear b2 H4
          go_wp2_with fail
          refine (D1.out _ (HR.out _ BB)).mono ?_
          rintro e y3 ⟨rfl, b3⟩
          replace BB := BB.trans (b3.mono BB.size)
          have H1 := H1.below b3
          have H3 := H3.below b3
          clear b3
          go_wp2_with fail
          refine (D2.out _ (HR.out _ BB)).mono ?_
          rintro e y4 ⟨rfl, b4⟩
          replace BB := BB.trans (b4.mono BB.size)
          have H1 := H1.below b4
          have H3 := H3.below b4
          clear b4
          have hLd : decide ((L2 : Int) < 1) = false := decide_eq_false (by omega)
          go_wp2_with fail
          refine (D3.out _ H3).mono ?_
          rintro e y5 ⟨rfl, b5⟩
          replace BB := BB.trans (b5.mono BB.size)
          have H1 := H1.below b5
          have H3 := H3.below b5
          clear b5 D1 D2 D3
          go_wp2
          go_loopw [289] (fun i wr => ∃ k : Nat, k ≤ L2 ∧ i = .int .i64 (k : Int) ∧ Below wd.heap.size wd wr ∧ Il wr A9 SP ∧ Il wr A11 ST) (fun i _ => L2 - (intOf i).toNat)
          case atStart => exact ⟨0, Nat.zero_le _, rfl, BB, H1, H3⟩
          case round =>
            clear BB H1 H3
            obtain ⟨k, hk, rfl, BB, H1, H3⟩ := hrel
            by_cases hlt : k < L2
            · have hlt1 : k < SP.length := by rw [HL.out]; exact hlt
              have hki : (k : Int) < (L2 : Int) := by omega
              have HR1 : Hid (∀ W, Below wr.heap.size wr W → Il W A9 SP) := fun W hB => H1.below hB
              have HR3 : Hid (∀ W, Below wr.heap.size wr W → Il W A11 ST) := fun W hB => H3.below hB
              obtain ⟨b, off, rfl, hb, hr⟩ := H1 (by rw [HL.out]; omega)
              obtain ⟨b3, off3, rfl, hb3, hr3⟩ := H3 (by rw [HL2.out]; omega)
              clear H1 H3
              have hc0 := hr k hlt1
              have Hhr := Lib.hid (fun i (hi : i < L2) => hr i (by rw [HL.out]; exact hi))
              have Hh3 := Lib.hid (fun i (hi : i < L2) => hr3 i (by rw [HL2.out]; exact hi))
              clear hr hr3 hlt1
              obtain ⟨g1, g2, g3, g4⟩ := HI.out k hlt
              obtain ⟨X, hX⟩ : ∃ x, ivL SP k = x := ⟨_, rfl⟩
              rw [hX] at g1 g2 g3 g4 hc0
              have I1 := Lib.hid (fun W (hW : Rl W AR rs) => impl_IsSpoke_c W AR mR cR rs hW Hm.out hn4 (X + 3 * (P : Int)))
              rw [g3, g4] at I1
              clear g3 g4
              by_cases hk0 : k = 0
              · skip
                obtain rfl : k = 0 := hk0
                rw [Nat.add_zero] at hc0
                have hXd : decide (X < 1) = false := decide_eq_false (by omega)
                have hXe : decide ((P : Int) < X) = false := decide_eq_false (by omega)
                have hw3 : IntKind.i64.wrap (3 * (P : Int)) = 3 * (P : Int) := IntWalk.i64_in _ (by omega)
                have hw4 : IntKind.i64.wrap (X + 3 * (P : Int)) = X + 3 * (P : Int) := IntWalk.i64_in _ (by omega)
                go_wp2_with fail
                go_quiet (fail)
                have BB := below_drewN BB nq
                have HRd := HR1.out _ (below_drewN (Below.refl _ _) nq)
                have HR3d := HR3.out _ (below_drewN (Below.refl _ _) nq)
                go_wp2_with fail
                refine (I1.out _ (HR.out _ BB)).mono ?_
                rintro e p1 ⟨rfl, ap1⟩
                replace BB := BB.trans (ap1.mono BB.size)
                have H9 := HRd.below ap1
                have H8 := HR3d.below ap1
                clear ap1 HRd HR3d
                go_wp2
                go_roundw
                case rel => exact ⟨0 + 1, by omega, by go_num, BB, H9, H8⟩
                case measure => simp [intOf]; omega
              · skip
                obtain ⟨q, rfl⟩ : ∃ q, k = q + 1 := ⟨k - 1, by omega⟩
                have hcq := Hhr.out q (by omega)
                have hdq := Hh3.out q (by omega)
                have hs := HS.out q hlt
                rw [hX] at hs
                obtain ⟨Y, hY⟩ : ∃ y, ivL SP q = y := ⟨_, rfl⟩
                obtain ⟨Z, hZ⟩ : ∃ y, ivL ST q = y := ⟨_, rfl⟩
                rw [hY] at hcq hs
                rw [hZ] at hdq hs
                have hYb : 1 ≤ Y ∧ Y ≤ (P : Int) := by have := HI.out q (by omega); rw [hY] at this; exact ⟨this.1, this.2.1⟩
                have HY := Lib.hid hY
                have HZ := Lib.hid hZ
                clear hY hZ
                obtain rfl : Z = X - Y := hs.symm
                have hkq : ((q + 1 : Nat) : Int) - 1 = (q : Int) := by omega
                have hk1 : (0 : Int) < ((q + 1 : Nat) : Int) := by omega
                have hkd : decide ((0 : Int) < ((q + 1 : Nat) : Int)) = true := decide_eq_true hk1
                have hq00 : (0 : Int) ≤ (q : Int) := by omega
                have hqL : (q : Int) < (L2 : Int) := by omega
                have hwz : IntKind.i64.wrap (X - Y) = X - Y := IntWalk.i64_in _ (by omega)
                have hXd : decide (X < 1) = false := decide_eq_false (by omega)
                have hXe : decide ((P : Int) < X) = false := decide_eq_false (by omega)
                have hw3 : IntKind.i64.wrap (3 * (P : Int)) = 3 * (P : Int) := IntWalk.i64_in _ (by omega)
                have hw4 : IntKind.i64.wrap (X + 3 * (P : Int)) = X + 3 * (P : Int) := IntWalk.i64_in _ (by omega)
                go_wp2_with fail
                go_quiet (fail)
                have BB := below_drewN BB nq
                have HRd := HR1.out _ (below_drewN (Below.refl _ _) nq)
                have HR3d := HR3.out _ (below_drewN (Below.refl _ _) nq)
                go_wp2_with fail
                refine (I1.out _ (HR.out _ BB)).mono ?_
                rintro e p1 ⟨rfl, ap1⟩
                replace BB := BB.trans (ap1.mono BB.size)
                have H9 := HRd.below ap1
                have H8 := HR3d.below ap1
                clear ap1 HRd HR3d
                go_wp2
                go_roundw
                case rel => exact ⟨q + 1 + 1, by omega, by go_num, BB, H9, H8⟩
                case measure => simp [intOf]; omega
            · have hki : ¬ (k : Int) < (L2 : Int) := by omega
              clear H1 H3 HI HS
              by_cases hsv : SV ≤ 1000000000
              · have hsd : decide (SV ≤ 1000000000) = true := decide_eq_true hsv
                obtain ⟨e1, e2⟩ := HA.out hsv
                have E1 := Lib.hid (fun W (hW : Rl W AR rs) => impl_RankOfSpoke_c W AR mR cR rs hW Hm.out hn4 SV)
                rw [e1, e2] at E1
                clear e1 e2
                go_wp2_with fail
                refine (E1.out _ (HR.out _ BB)).mono ?_
                rintro e x1 ⟨rfl, q1⟩
                replace BB := BB.trans (q1.mono BB.size)
                clear q1 E1
                by_cases hr1 : n + (D : Int) ≤ 1000000000
                · have hr1d : decide (n + (D : Int) ≤ 1000000000) = true := decide_eq_true hr1
                  by_cases hr2 : 0 ≤ n - (D : Int)
                  · have hr2d : decide (0 ≤ n - (D : Int)) = true := decide_eq_true hr2
                    obtain ⟨e1, e2, e3, e4⟩ := HB.out hr1 hr2
                    rw [HL1.out] at e3
                    rw [HL3.out] at e4
                    have J1 := Lib.hid (fun W (hW : Rl W AR rs) => impl_IsSpoke_c W AR mR cR rs hW Hm.out hn4 (n - (D : Int)))
                    have J2 := Lib.hid (fun W (hW : Rl W AR rs) => impl_IsSpoke_c W AR mR cR rs hW Hm.out hn4 (n + (D : Int)))
                    rw [e1, e3] at J1
                    rw [e2, e4] at J2
                    clear e1 e2 e3 e4
                    go_wp2_with fail
                    refine (J1.out _ (HR.out _ BB)).mono ?_
                    rintro e u1 ⟨rfl, q1⟩
                    replace BB := BB.trans (q1.mono BB.size)
                    clear q1
                    go_wp2_with fail
                    refine (J2.out _ (HR.out _ BB)).mono ?_
                    rintro e u2 ⟨rfl, q2⟩
                    replace BB := BB.trans (q2.mono BB.size)
                    clear q2
                    go_wp2
                    go_ret
                    exact ⟨rfl, BB0.trans (BB.mono BB0.size)⟩
                  · have hr2d : decide (0 ≤ n - (D : Int)) = false := decide_eq_false hr2
                    go_wp2
                    go_ret
                    exact ⟨rfl, BB0.trans (BB.mono BB0.size)⟩
                · have hr1d : decide (n + (D : Int) ≤ 1000000000) = false := decide_eq_false hr1
                  go_wp2
                  go_ret
                  exact ⟨rfl, BB0.trans (BB.mono BB0.size)⟩
              · have hsd : decide (SV ≤ 1000000000) = false := decide_eq_false hsv
                by_cases hr1 : n + (D : Int) ≤ 1000000000
                · have hr1d : decide (n + (D : Int) ≤ 1000000000) = true := decide_eq_true hr1
                  by_cases hr2 : 0 ≤ n - (D : Int)
                  · have hr2d : decide (0 ≤ n - (D : Int)) = true := decide_eq_true hr2
                    obtain ⟨e1, e2, e3, e4⟩ := HB.out hr1 hr2
                    rw [HL1.out] at e3
                    rw [HL3.out] at e4
                    have J1 := Lib.hid (fun W (hW : Rl W AR rs) => impl_IsSpoke_c W AR mR cR rs hW Hm.out hn4 (n - (D : Int)))
                    have J2 := Lib.hid (fun W (hW : Rl W AR rs) => impl_IsSpoke_c W AR mR cR rs hW Hm.out hn4 (n + (D : Int)))
                    rw [e1, e3] at J1
                    rw [e2, e4] at J2
                    clear e1 e2 e3 e4
                    go_wp2_with fail
                    refine (J1.out _ (HR.out _ BB)).mono ?_
                    rintro e u1 ⟨rfl, q1⟩
                    replace BB := BB.trans (q1.mono BB.size)
                    clear q1
                    go_wp2_with fail
                    refine (J2.out _ (HR.out _ BB)).mono ?_
                    rintro e u2 ⟨rfl, q2⟩
                    replace BB := BB.trans (q2.mono BB.size)
                    clear q2
                    go_wp2
                    go_ret
                    exact ⟨rfl, BB0.trans (BB.mono BB0.size)⟩
                  · have hr2d : decide (0 ≤ n - (D : Int)) = false := decide_eq_false hr2
                    go_wp2
                    go_ret
                    exact ⟨rfl, BB0.trans (BB.mono BB0.size)⟩
                · have hr1d : decide (n + (D : Int) ≤ 1000000000) = false := decide_eq_false hr1
                  go_wp2
                  go_ret
                  exact ⟨rfl, BB0.trans (BB.mono BB0.size)⟩

set_option maxRecDepth 100000 in
theorem lifted_FnWheelsTurn (os : Os) (started : os.Started) (H : Type) (enc : TypeId × Value → H) :
    ReturnsInHanded {} Try.checked os 7 .any (Rows.fnWheelsTurnSpec.pre6 enc Try.prog Try.f7 Rows.fnWheelsTurnRow.domain false) (Rows.fnWheelsTurnSpec.post enc Try.prog Try.f7 false true false false) := by
  refine returnsInHanded_of_change (C := Try.checked) own started (by kernel_rfl) Try.func7
    (ChangeSpec.witness6 (enc := enc) (C := Try.checked) false ⟨#[], #[.slice none 0 0, .slice none 0 0], []⟩ 8 (by kernel_rfl) (by kernel_rfl) (by kernel_rfl) (by kernel_rfl)) ?_
  intro W base args ds gs before hval0 hW hcnd _
  have hval : ∀ (j : Nat) t v, Try.f7.params[j]? = some t → args[j]? = some v → Value.okWide Try.prog W .any base t v := hval0
  have hW' := hW
  obtain ⟨p, q, hA0, hV, rfl, hfz, hnd⟩ := hW
  have hA : DataW.TrodAll enc Try.prog W 0 (fun _ => true) true Try.f7.params.toList args.toList ds p := hA0
  rw [Try.params7] at hA hval
  obtain ⟨v0, vs0, d0, ds0, p0, q0, hargs, rfl, rfl, h0, r0⟩ := trodAll_cons hA
  obtain ⟨v1, vs1, d1, ds1, p1, q1, rfl, rfl, rfl, h1, r1⟩ := trodAll_cons r0
  obtain ⟨rfl, rfl, rfl⟩ := trodAll_nil r1
  obtain rfl : args = #[v0, v1] := by cases args; simp_all
  obtain ⟨rfl, rfl⟩ := trodVars_none hV
  have k0 := h0
  have lt0 : ∀ x ∈ p0, x.block < W.heap.size := by obtain ⟨m, hm⟩ := k0; exact DataW.trod_lt m _ _ _ hm
  obtain ⟨A0, n0, c0, rfl, m0, Y0⟩ := open_byt (hval 0 36 v0 rfl rfl) h0
  have k1 := h1
  have lt1 : ∀ x ∈ p1, x.block < W.heap.size := by obtain ⟨m, hm⟩ := k1; exact DataW.trod_lt m _ _ _ hm
  obtain ⟨A1, n1, c1, rfl, m1, Y1⟩ := open_byt (hval 1 36 v1 rfl rfl) h1
  clear hA0 hval0
  refine (walk_FnWheelsTurn W A0 n0 c0 m0 Y0 A1 n1 c1 m1 Y1).mono fun e W' ⟨he, bel⟩ => ?_
  subst he
  exact ⟨_, rfl, _, _, _, [], _, [], hW', trodAll_mk1 (shut_bool Try.underlying4 _), (trodAll_cons_mk (Below.trod laidOut (by kernel_rfl) (of_decide_eq_true (by kernel_rfl)) k0 bel lt0) (trodAll_cons_mk (Below.trod laidOut (by kernel_rfl) (of_decide_eq_true (by kernel_rfl)) k1 bel lt1) trodAll_mk0)), rfl, bel.frame _, fun h => by cases h⟩

theorem closed_FnWheelsTurn : joinedFacts Try.prog 7 Try.f7 Rows.fnWheelsTurnSpec Rows.fnWheelsTurnRow = true := by
  unfold joinedFacts
  rw [head_enters, head_final, head_make]
  kernel_rfl
theorem over_FnWheelsTurn : Rows.fnWheelsTurnRow.holds Try.pinned (OpenSpec.ofChange Rows.fnWheelsTurnSpec) :=
  OpenClaim.holds_of_wide 7 Try.f7 rfl rfl rfl rfl rfl rfl rfl ⟨rfl, rfl, rfl, rfl, rfl⟩ rfl rfl rfl rfl rfl (by kernel_rfl) Try.func7 closed_FnWheelsTurn
    (of_decide_eq_true (by kernel_rfl)) (by unfold Func.isWrapper; first | (rw [if_pos (by decide +kernel)]; kernel_rfl) | (rw [if_neg (by decide +kernel)]; exact ⟨rfl, rfl⟩))
    (fun os started H enc _ => lifted_FnWheelsTurn os started H enc)

theorem fnWheelsTurn_holds : Rows.FnWheelsTurnSaid := over_FnWheelsTurn

end Go.Proofs.Ytaapfapejekkfaa
