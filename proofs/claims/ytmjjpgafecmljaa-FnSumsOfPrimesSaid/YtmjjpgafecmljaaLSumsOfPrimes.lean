/- For every two slices of bytes that come in, laws.FnSumsOfPrimes returns true. Conditions: none. -/
import Derived.Test.YtmjjpgafecmljaaO4
import Derived.Test.YtmjjpgafecmljaaL0
import Derived.Test.YtmjjpgafecmljaaO3
import Derived.Test.YtmjjpgafecmljaaO5
namespace Go.Proofs.Ytmjjpgafecmljaa
open Go.ChangeShapes Go.WideShapes Go.ChangeAt Go.RowKit Go.Deep
set_option linter.unusedVariables false
set_option linter.unusedSimpArgs false

set_option maxRecDepth 100000 in
set_option maxHeartbeats 40000000 in
theorem walk_FnSumsOfPrimes (w : World) (AA : Option Addr) (nA cA : Nat) (mA : nA ≤ 9223372036854775807) (yA : Byt w w.heap.size AA nA) (AB : Option Addr) (nB cB : Nat) (mB : nB ≤ 9223372036854775807) (yB : Byt w w.heap.size AB nB) :
    Calls Try.prog 3 #[.slice AA nA cA, .slice AB nB cB] w fun e w' => e = .returned (.bool true) ∧ Below w.heap.size w w' := by
  have YA := Lib.hid yA
  have YB := Lib.hid yB
  clear yA yB
  by_cases hn : nA + nB ≤ 1048576
  rotate_left
  · go_enter Try.func3, Try.ntmps3
    go_wp2_with fail
    refine (big_c _ AA AB nA cA nB cB mA mB).mono ?_
    rw [decide_eq_false hn]
    rintro e w0 ⟨rfl, rfl⟩
    go_wp2
    go_ret
    exact ⟨rfl, Below.refl _ _⟩
  go_enter Try.func3, Try.ntmps3
  go_wp2_with fail
  refine (big_c _ AA AB nA cA nB cB mA mB).mono ?_
  rw [decide_eq_true hn]
  rintro e w0 ⟨rfl, rfl⟩
  go_wp2_with fail
  refine (DrawFirstTwoPrimes_c _ AA nA cA YA.out (by omega)).mono ?_
  rintro e wd ⟨⟨an, rfl⟩, BB⟩
  cases hm : c2Ok an with
  | false =>
    have C1 := Lib.hid (fun W => impl_FirstTwoPrimes_c W an)
    have C2 := Lib.hid (fun W => spec_FirstTwoPrimes_c W an)
    have C3 := Lib.hid (fun W => impl_CountTwoPrimes_c W an)
    have C4 := Lib.hid (fun W => spec_CountTwoPrimes_c W an)
    simp only [f2Ok_no hm, (f2_no (f2Ok_no hm)).1, (f2_no (f2Ok_no hm)).2] at C1 C2
    simp only [hm, c2V_no hm] at C3 C4
    clear hm
    go_wp2_with fail
    refine (C1.out _).mono ?_
    rintro e z1 ⟨rfl, a1⟩
    have BB := BB.trans (a1.mono BB.size)
    go_wp2_with fail
    refine (C2.out _).mono ?_
    rintro e z2 ⟨rfl, a2⟩
    have BB := BB.trans (a2.mono BB.size)
    go_wp2_with fail
    refine (C3.out _).mono ?_
    rintro e z3 ⟨rfl, a3⟩
    have BB := BB.trans (a3.mono BB.size)
    go_wp2_with fail
    refine (C4.out _).mono ?_
    rintro e z4 ⟨rfl, a4⟩
    have BB := BB.trans (a4.mono BB.size)
    as_aux_lemma =>
      go_wp2_with fail
      refine (DrawTwinsUpTo_c _ AB nB cB ((YB.out.below BB).mono BB.size) (by omega)).mono ?_
      rintro e wq ⟨⟨am, rfl⟩, dq⟩
      have BB := BB.trans (dq.mono BB.size)
      have D1 := Lib.hid (fun W => impl_TwinsUpTo_c W am)
      have D2 := Lib.hid (fun W => spec_TwinsUpTo_c W am)
      have D3 := Lib.hid (fun W => impl_CrossersUpTo_c W am)
      have D4 := Lib.hid (fun W => spec_CrossersUpTo_c W am)
      have gT := twA_len am
      have gC := crA_len am
      have HT := Lib.hid (fun k (hk : k < (twA am).length) => tw_tell hk)
      have HC := Lib.hid (fun k (hk : k < (crA am).length) => cr_tell hk)
      rw [show crOk am = twOk am from rfl] at D3 D4
      obtain ⟨TL, hTL⟩ : ∃ L, twA am = L := ⟨_, rfl⟩
      obtain ⟨CL, hCL⟩ : ∃ L, crA am = L := ⟨_, rfl⟩
      obtain ⟨TO, hTO⟩ : ∃ L, twOk am = L := ⟨_, rfl⟩
      rw [hTL] at gT
      rw [hCL] at gC
      simp only [hTL, hTO] at D1 D2
      simp only [hCL, hTO] at D3 D4
      simp only [hTL] at HT
      simp only [hCL] at HC
      clear hTL hCL hTO
      go_wp2_with fail
      refine (D1.out _).mono ?_
      rintro e w1 ⟨⟨v1, rfl, o1⟩, b1⟩
      obtain ⟨A1, c1, rfl⟩ := o1.shape
      have X1 := Il_of_own o1
      clear o1
      have BB := BB.trans (b1.mono BB.size)
      go_wp2_with fail
      refine (D2.out _).mono ?_
      rintro e w2 ⟨⟨v2, rfl, o2⟩, b2⟩
      obtain ⟨A2, c2, rfl⟩ := o2.shape
      have X2 := Il_of_own o2
      clear o2
      have X1 := X1.below b2
      have BB := BB.trans (b2.mono BB.size)
      go_wp2_with fail
      refine (D3.out _).mono ?_
      rintro e w3 ⟨⟨v3, rfl, o3⟩, b3⟩
      obtain ⟨A3, c3, rfl⟩ := o3.shape
      have X3 := Il_of_own o3
      clear o3
      have X1 := X1.below b3
      have X2 := X2.below b3
      have BB := BB.trans (b3.mono BB.size)
      go_wp2_with fail
      refine (D4.out _).mono ?_
      rintro e w4 ⟨⟨v4, rfl, o4⟩, b4⟩
      obtain ⟨A4, c4, rfl⟩ := o4.shape
      have X4 := Il_of_own o4
      clear o4
      have X1 := X1.below b4
      have X2 := X2.below b4
      have X3 := X3.below b4
      have BB := BB.trans (b4.mono BB.size)
      go_wp2_with fail
      refine (DrawSmoothUpTo_c _ AB nB cB ((YB.out.below BB).mono BB.size) (by omega)).mono ?_
      rintro e wq2 ⟨⟨au, ab, rfl⟩, dq2⟩
      have X1 := X1.below dq2
      have X2 := X2.below dq2
      have X3 := X3.below dq2
      have X4 := X4.below dq2
      have BB := BB.trans (dq2.mono BB.size)
      have D5 := Lib.hid (fun W => impl_SmoothUpTo_c W au ab)
      have D6 := Lib.hid (fun W => spec_SmoothUpTo_c W au ab)
      have gS := suA_len au ab
      have HS := Lib.hid (show suOk au ab = true → ∃ U : Nat, au = (U : Int) ∧ U ≤ 600 ∧ 1 ≤ ab ∧ suA au ab = flF (fun n => smB n ab) 1 U by
        intro h
        have h2 := h
        rw [suOk, Bool.and_eq_true] at h2
        obtain ⟨u0, u9⟩ := inB_true.1 h2.1
        obtain ⟨U, rfl⟩ := Int.eq_ofNat_of_zero_le u0
        exact ⟨U, rfl, by omega, (inB_true.1 h2.2).1, suA_yes h⟩)
      obtain ⟨SL, hSL⟩ : ∃ L, suA au ab = L := ⟨_, rfl⟩
      obtain ⟨SO, hSO⟩ : ∃ L, suOk au ab = L := ⟨_, rfl⟩
      rw [hSL] at gS HS
      simp only [hSL, hSO] at D5 D6
      rw [hSO] at HS
      clear hSL hSO
      go_wp2_with fail
      refine (D5.out _).mono ?_
      rintro e w5 ⟨⟨v5, rfl, o5⟩, b5⟩
      obtain ⟨A5, c5, rfl⟩ := o5.shape
      have X5 := Il_of_own o5
      clear o5
      have X1 := X1.below b5
      have X2 := X2.below b5
      have X3 := X3.below b5
      have X4 := X4.below b5
      have BB := BB.trans (b5.mono BB.size)
      go_wp2_with fail
      refine (D6.out _).mono ?_
      rintro e w6 ⟨⟨v6, rfl, o6⟩, b6⟩
      obtain ⟨A6, c6, rfl⟩ := o6.shape
      have X6 := Il_of_own o6
      clear o6
      have X1 := X1.below b6
      have X2 := X2.below b6
      have X3 := X3.below b6
      have X4 := X4.below b6
      have X5 := X5.below b6
      have BB := BB.trans (b6.mono BB.size)
      go_wp2_with fail
      refine (gSame_c _ _ _ _ _ _ _ _ X1 X2 rfl rfl gT).mono ?_
      rintro e u0 ⟨rfl, d0⟩
      have X1 := X1.below d0
      have X2 := X2.below d0
      have X3 := X3.below d0
      have X4 := X4.below d0
      have X5 := X5.below d0
      have X6 := X6.below d0
      have BB := BB.trans (d0.mono BB.size)
      go_wp2_with fail
      refine (gSame_c _ _ _ _ _ _ _ _ X3 X4 rfl rfl gC).mono ?_
      rintro e u1 ⟨rfl, d1⟩
      have X1 := X1.below d1
      have X2 := X2.below d1
      have X3 := X3.below d1
      have X4 := X4.below d1
      have X5 := X5.below d1
      have X6 := X6.below d1
      have BB := BB.trans (d1.mono BB.size)
      go_wp2_with fail
      refine (gSame_c _ _ _ _ _ _ _ _ X5 X6 rfl rfl gS).mono ?_
      rintro e u2 ⟨rfl, d2⟩
      have X1 := X1.below d2
      have X2 := X2.below d2
      have X3 := X3.below d2
      have X4 := X4.below d2
      have X5 := X5.below d2
      have X6 := X6.below d2
      have BB := BB.trans (d2.mono BB.size)
      go_wp2
      go_loopw [246] (fun i wr => ∃ k : Nat, k ≤ TL.length ∧ i = .int .i64 (k : Int) ∧ Below u2.heap.size u2 wr) (fun i _ => TL.length - (intOf i).toNat)
      case atStart => exact ⟨0, Nat.zero_le _, rfl, Below.refl _ _⟩
      case round =>
        obtain ⟨k, hk, rfl, hbel⟩ := hrel
        by_cases hlt : k < TL.length
        · obtain ⟨t, ht, hta, ht6, hp1, hp2, hpr, hsx⟩ := HT.out k hlt
          obtain ⟨bq, oq, rfl, hbq, hrd⟩ := X1 (by omega)
          have hc0 := (hbel.cell (p := ⟨bq, oq + k, none⟩) hbq).trans (hrd k hlt)
          rw [ht] at hc0
          have P1 := Lib.hid (fun W => impl_IsPrime_c W (t : Int))
          have P2 := Lib.hid (fun W => impl_IsPrime_c W ((t + 2 : Nat) : Int))
          simp only [(isP_yes (n := t) (by omega)).1, (isP_yes (n := t) (by omega)).2, hp1] at P1
          simp only [(isP_yes (n := t + 2) (by omega)).1, (isP_yes (n := t + 2) (by omega)).2, hp2] at P2
          rw [show ((t + 2 : Nat) : Int) = (t : Int) + 2 by omega] at P2
          clear hp1 hp2 ht
          have hki : (k : Int) < (TL.length : Int) := by omega
          have hle : ¬ (am < (t : Int)) := by omega
          by_cases h3 : 3 < t
          · have h3i : (3 : Int) < (t : Int) := by omega
            have h6i : ((t : Int) % 6 != 5) = false := by have := hsx h3; simp; omega
            clear hsx
            by_cases h0 : 0 < k
            · have h0i : (0 : Int) < (k : Int) := by omega
              have hpp := hpr h0
              have hd0 := (hbel.cell (p := ⟨bq, oq + (k - 1), none⟩) hbq).trans (hrd (k - 1) (by omega))
              obtain ⟨z, hz⟩ : ∃ z, ivL TL (k - 1) = z := ⟨_, rfl⟩
              rw [hz] at hd0 hpp
              have hpi : ¬ ((t : Int) ≤ z) := by omega
              have hk1 : (k : Int) - 1 < (TL.length : Int) := by omega
              have hk0 : 0 ≤ (k : Int) - 1 := by omega
              have hkn : ((k : Int) - 1).toNat = k - 1 := by omega
              clear hz hpr hrd
              go_wp2_with fail
              refine (P1.out _).mono ?_
              rintro e y1 ⟨rfl, e1⟩
              have hbel1 := hbel.trans (e1.mono hbel.size)
              have hc1 := (e1.cell (p := ⟨bq, oq + k, none⟩) (Nat.lt_of_lt_of_le hbq hbel.size)).trans hc0
              have hd1 := (e1.cell (p := ⟨bq, oq + (k - 1), none⟩) (Nat.lt_of_lt_of_le hbq hbel.size)).trans hd0
              go_wp2_with fail
              refine (P2.out _).mono ?_
              rintro e y2 ⟨rfl, e2⟩
              have hbel2 := hbel1.trans (e2.mono hbel1.size)
              have hd2 := (e2.cell (p := ⟨bq, oq + (k - 1), none⟩) (Nat.lt_of_lt_of_le hbq hbel1.size)).trans hd1
              go_wp2
              go_roundw
              case rel => exact ⟨k + 1, by omega, by go_num, hbel2⟩
              case measure => simp [intOf]; omega
            · have h0i : ¬ ((0 : Int) < (k : Int)) := by omega
              clear hpr hrd
              go_wp2_with fail
              refine (P1.out _).mono ?_
              rintro e y1 ⟨rfl, e1⟩
              have hbel1 := hbel.trans (e1.mono hbel.size)
              have hc1 := (e1.cell (p := ⟨bq, oq + k, none⟩) (Nat.lt_of_lt_of_le hbq hbel.size)).trans hc0

              go_wp2_with fail
              refine (P2.out _).mono ?_
              rintro e y2 ⟨rfl, e2⟩
              have hbel2 := hbel1.trans (e2.mono hbel1.size)

              go_wp2
              go_roundw
              case rel => exact ⟨k + 1, by omega, by go_num, hbel2⟩
              case measure => simp [intOf]; omega
          · have h3i : ¬ ((3 : Int) < (t : Int)) := by omega
            clear hsx
            by_cases h0 : 0 < k
            · have h0i : (0 : Int) < (k : Int) := by omega
              have hpp := hpr h0
              have hd0 := (hbel.cell (p := ⟨bq, oq + (k - 1), none⟩) hbq).trans (hrd (k - 1) (by omega))
              obtain ⟨z, hz⟩ : ∃ z, ivL TL (k - 1) = z := ⟨_, rfl⟩
              rw [hz] at hd0 hpp
              have hpi : ¬ ((t : Int) ≤ z) := by omega
              have hk1 : (k : Int) - 1 < (TL.length : Int) := by omega
              have hk0 : 0 ≤ (k : Int) - 1 := by omega
              have hkn : ((k : Int) - 1).toNat = k - 1 := by omega
              clear hz hpr hrd
              go_wp2_with fail
              refine (P1.out _).mono ?_
              rintro e y1 ⟨rfl, e1⟩
              have hbel1 := hbel.trans (e1.mono hbel.size)
              have hc1 := (e1.cell (p := ⟨bq, oq + k, none⟩) (Nat.lt_of_lt_of_le hbq hbel.size)).trans hc0
              have hd1 := (e1.cell (p := ⟨bq, oq + (k - 1), none⟩) (Nat.lt_of_lt_of_le hbq hbel.size)).trans hd0
              go_wp2_with fail
              refine (P2.out _).mono ?_
              rintro e y2 ⟨rfl, e2⟩
              have hbel2 := hbel1.trans (e2.mono hbel1.size)
              have hd2 := (e2.cell (p := ⟨bq, oq + (k - 1), none⟩) (Nat.lt_of_lt_of_le hbq hbel1.size)).trans hd1
              go_wp2
              go_roundw
              case rel => exact ⟨k + 1, by omega, by go_num, hbel2⟩
              case measure => simp [intOf]; omega
            · have h0i : ¬ ((0 : Int) < (k : Int)) := by omega
              clear hpr hrd
              go_wp2_with fail
              refine (P1.out _).mono ?_
              rintro e y1 ⟨rfl, e1⟩
              have hbel1 := hbel.trans (e1.mono hbel.size)
              have hc1 := (e1.cell (p := ⟨bq, oq + k, none⟩) (Nat.lt_of_lt_of_le hbq hbel.size)).trans hc0

              go_wp2_with fail
              refine (P2.out _).mono ?_
              rintro e y2 ⟨rfl, e2⟩
              have hbel2 := hbel1.trans (e2.mono hbel1.size)

              go_wp2
              go_roundw
              case rel => exact ⟨k + 1, by omega, by go_num, hbel2⟩
              case measure => simp [intOf]; omega
        · have hki : ¬ ((k : Int) < (TL.length : Int)) := by omega
          clear X1
          go_wp2
          go_loopw [306] (fun i wx => ∃ k : Nat, k ≤ CL.length ∧ i = .int .i64 (k : Int) ∧ Below u2.heap.size u2 wx) (fun i _ => CL.length - (intOf i).toNat)
          case atStart => exact ⟨0, Nat.zero_le _, rfl, hbel⟩
          case round =>
            obtain ⟨j, hj, rfl, hbelx⟩ := hrel
            by_cases hlt2 : j < CL.length
            · obtain ⟨c, hc, hc6, hcc, hp1⟩ := HC.out j hlt2
              obtain ⟨bq, oq, rfl, hbq, hrd⟩ := X3 (by omega)
              have hc0 := (hbelx.cell (p := ⟨bq, oq + j, none⟩) hbq).trans (hrd j hlt2)
              rw [hc] at hc0
              have P1 := Lib.hid (fun W => impl_IsPrime_c W (c : Int))
              simp only [(isP_yes (n := c) (by omega)).1, (isP_yes (n := c) (by omega)).2, hp1] at P1
              have hmm : (c : Int) * (c : Int) ≤ 360000 ∧ 0 ≤ (c : Int) * (c : Int) := by
                have := Nat.mul_le_mul hc6 hc6
                rw [← Int.natCast_mul]; omega
              have hji : (j : Int) < (CL.length : Int) := by omega
              have hle : ¬ (am < (c : Int) * (c : Int)) := by omega
              clear hp1 hc hrd
              go_wp2_with fail
              refine (P1.out _).mono ?_
              rintro e y1 ⟨rfl, e1⟩
              have hbel1 := hbelx.trans (e1.mono hbelx.size)
              go_wp2
              go_roundw
              case rel => exact ⟨j + 1, by omega, by go_num, hbel1⟩
              case measure => simp [intOf]; omega
            · have hji : ¬ ((j : Int) < (CL.length : Int)) := by omega
              clear X3
              cases SO with
              | false =>
                clear HS
                go_wp2
                go_loopw [45] (fun i wz => i = .int .i64 1 ∧ Below w.heap.size w wz) (fun _ _ => 0)
                case atStart => exact ⟨rfl, BB.trans (hbelx.mono BB.size)⟩
                case round =>
                  obtain ⟨rfl, hbelz⟩ := hrel
                  go_wp2
                  go_ret
                  exact ⟨rfl, hbelz⟩
              | true =>
                obtain ⟨U, rfl, hU, hb1, hSL⟩ := HS.out rfl
                have HH := Lib.hid (fun k (hk : k < U) => (show hasF SL ((k + 1 : Nat) : Int) = smB (k + 1) ab by rw [hSL]; exact hasF_flF (by omega) (by omega)))
                clear HS hSL
                go_wp2
                go_loopw [45] (fun i wz => ∃ k : Nat, k ≤ U ∧ i = .int .i64 ((k : Int) + 1) ∧ Below u2.heap.size u2 wz) (fun i _ => 603 - (intOf i).toNat)
                case atStart => exact ⟨0, Nat.zero_le _, rfl, hbelx⟩
                case round =>
                  obtain ⟨l, hl, rfl, hbelz⟩ := hrel
                  by_cases hlt3 : l < U
                  · have hli : (l : Int) + 1 ≤ (U : Int) := by omega
                    have P1 := Lib.hid (fun W => impl_IsSmooth_c W ((l + 1 : Nat) : Int) ab)
                    have hok : isOk ((l + 1 : Nat) : Int) ab = true := by
                      rw [isOk, Bool.and_eq_true, decide_eq_true_eq]
                      exact ⟨inB_true.2 (by omega), hb1⟩
                    simp only [hok, isV_yes hok] at P1
                    have P2 := Lib.hid (fun W (h : Hid (Il W A5 SL)) => gHas_c W A5 _ c5 SL h.out rfl gS ((l + 1 : Nat) : Int))
                    simp only [HH.out l hlt3] at P2
                    obtain ⟨B, hB⟩ : ∃ B, smB (l + 1) ab = B := ⟨_, rfl⟩
                    simp only [hB] at P1 P2
                    rw [show ((l + 1 : Nat) : Int) = (l : Int) + 1 by omega] at P1 P2
                    clear hok hB
                    go_wp2_with fail
                    refine (P1.out _).mono ?_
                    rintro e y1 ⟨rfl, e1⟩
                    have hbel1 := hbelz.trans (e1.mono hbelz.size)
                    go_wp2_with fail
                    refine (P2.out _ (Lib.hid (X5.below hbel1))).mono ?_
                    rintro e y2 ⟨rfl, rfl⟩
                    go_wp2
                    go_roundw
                    case rel => exact ⟨l + 1, by omega, by go_num, hbel1⟩
                    case measure => simp [intOf]; omega
                  · have hli : ¬ ((l : Int) + 1 ≤ (U : Int)) := by omega
                    have BB := BB.trans (hbelz.mono BB.size)
                    go_wp2
                    go_ret
                    exact ⟨rfl, BB⟩
  | true =>
    obtain ⟨m4, m9⟩ := inB_true.1 hm
    obtain ⟨N, rfl⟩ := Int.eq_ofNat_of_zero_le (Int.le_trans (by omega) m4)
    have N4 : 4 ≤ N := by omega
    have N9 : N ≤ 10000 := by omega
    have C1 := Lib.hid (fun W => impl_FirstTwoPrimes_c W (N : Int))
    have C2 := Lib.hid (fun W => spec_FirstTwoPrimes_c W (N : Int))
    have C3 := Lib.hid (fun W => impl_CountTwoPrimes_c W (N : Int))
    have C4 := Lib.hid (fun W => spec_CountTwoPrimes_c W (N : Int))
    have hcv : c2V (N : Int) = ((flF (ptB N) 2 (N / 2 + 1 - 2)).length : Int) := by rw [c2V, c2L_yes hm]
    simp only [hm, hcv] at C3 C4
    by_cases hl : 0 < (flF (ptB N) 2 (N / 2 + 1 - 2)).length
    · have hf : f2Ok (N : Int) = true := by rw [f2Ok, c2L_yes hm]; exact decide_eq_true hl
      obtain ⟨p, hp, p2, pN, hp1, hq1, hod⟩ := f2_tell N4 N9 hl
      have hfp : f2P (N : Int) = (p : Int) := by rw [(f2_yes hf).1, c2L_yes hm, hp]
      have hfq : f2Q (N : Int) = ((N - p : Nat) : Int) := by rw [(f2_yes hf).2, c2L_yes hm, hp]; omega
      simp only [hf, hfp, hfq] at C1 C2
      obtain ⟨Q, hQ⟩ : ∃ Q, N - p = Q := ⟨_, rfl⟩
      obtain ⟨L, hL⟩ : ∃ L, (flF (ptB N) 2 (N / 2 + 1 - 2)).length = L := ⟨_, rfl⟩
      simp only [hQ] at C1 C2 hq1
      simp only [hL] at C3 C4 hod hl
      have Pp := Lib.hid (fun W => impl_IsPrime_c W (p : Int))
      have Pq := Lib.hid (fun W => impl_IsPrime_c W (Q : Int))
      simp only [(isP_yes (n := p) (by omega)).1, (isP_yes (n := p) (by omega)).2, hp1] at Pp
      simp only [(isP_yes (n := Q) (by omega)).1, (isP_yes (n := Q) (by omega)).2, hq1] at Pq
      have hsum : ((p : Int) + (Q : Int) != (N : Int)) = false := by simp; omega
      have hgt : ¬ ((Q : Int) < (p : Int)) := by omega
      have hQ9 : Q ≤ 10000 := by omega
      have hl0 : (0 : Int) < (L : Int) := by omega
      have hl1 : ((L : Int) == 0) = false := by simp; omega
      clear hm m4 m9 hcv hf hp hfp hfq hp1 hq1 hL
      by_cases he : N % 2 = 0
      · have he1 : ((N : Int) % 2 == 0) = true := by simp; omega
        have he2 : ((N : Int) % 2 == 1) = false := by simp; omega
        clear hod he hl
        go_wp2_with fail
        refine (C1.out _).mono ?_
        rintro e z1 ⟨rfl, a1⟩
        have BB := BB.trans (a1.mono BB.size)
        go_wp2_with fail
        refine (C2.out _).mono ?_
        rintro e z2 ⟨rfl, a2⟩
        have BB := BB.trans (a2.mono BB.size)
        go_wp2_with fail
        refine (C3.out _).mono ?_
        rintro e z3 ⟨rfl, a3⟩
        have BB := BB.trans (a3.mono BB.size)
        go_wp2_with fail
        refine (C4.out _).mono ?_
        rintro e z4 ⟨rfl, a4⟩
        have BB := BB.trans (a4.mono BB.size)
        go_wp2_with fail
        refine (Pp.out _).mono ?_
        rintro e z5 ⟨rfl, a5⟩
        have BB := BB.trans (a5.mono BB.size)
        go_wp2_with fail
        refine (Pq.out _).mono ?_
        rintro e z6 ⟨rfl, a6⟩
        have BB := BB.trans (a6.mono BB.size)
        as_aux_lemma =>
          go_wp2_with fail
          refine (DrawTwinsUpTo_c _ AB nB cB ((YB.out.below BB).mono BB.size) (by omega)).mono ?_
          rintro e wq ⟨⟨am, rfl⟩, dq⟩
          have BB := BB.trans (dq.mono BB.size)
          have D1 := Lib.hid (fun W => impl_TwinsUpTo_c W am)
          have D2 := Lib.hid (fun W => spec_TwinsUpTo_c W am)
          have D3 := Lib.hid (fun W => impl_CrossersUpTo_c W am)
          have D4 := Lib.hid (fun W => spec_CrossersUpTo_c W am)
          have gT := twA_len am
          have gC := crA_len am
          have HT := Lib.hid (fun k (hk : k < (twA am).length) => tw_tell hk)
          have HC := Lib.hid (fun k (hk : k < (crA am).length) => cr_tell hk)
          rw [show crOk am = twOk am from rfl] at D3 D4
          obtain ⟨TL, hTL⟩ : ∃ L, twA am = L := ⟨_, rfl⟩
          obtain ⟨CL, hCL⟩ : ∃ L, crA am = L := ⟨_, rfl⟩
          obtain ⟨TO, hTO⟩ : ∃ L, twOk am = L := ⟨_, rfl⟩
          rw [hTL] at gT
          rw [hCL] at gC
          simp only [hTL, hTO] at D1 D2
          simp only [hCL, hTO] at D3 D4
          simp only [hTL] at HT
          simp only [hCL] at HC
          clear hTL hCL hTO
          go_wp2_with fail
          refine (D1.out _).mono ?_
          rintro e w1 ⟨⟨v1, rfl, o1⟩, b1⟩
          obtain ⟨A1, c1, rfl⟩ := o1.shape
          have X1 := Il_of_own o1
          clear o1
          have BB := BB.trans (b1.mono BB.size)
          go_wp2_with fail
          refine (D2.out _).mono ?_
          rintro e w2 ⟨⟨v2, rfl, o2⟩, b2⟩
          obtain ⟨A2, c2, rfl⟩ := o2.shape
          have X2 := Il_of_own o2
          clear o2
          have X1 := X1.below b2
          have BB := BB.trans (b2.mono BB.size)
          go_wp2_with fail
          refine (D3.out _).mono ?_
          rintro e w3 ⟨⟨v3, rfl, o3⟩, b3⟩
          obtain ⟨A3, c3, rfl⟩ := o3.shape
          have X3 := Il_of_own o3
          clear o3
          have X1 := X1.below b3
          have X2 := X2.below b3
          have BB := BB.trans (b3.mono BB.size)
          go_wp2_with fail
          refine (D4.out _).mono ?_
          rintro e w4 ⟨⟨v4, rfl, o4⟩, b4⟩
          obtain ⟨A4, c4, rfl⟩ := o4.shape
          have X4 := Il_of_own o4
          clear o4
          have X1 := X1.below b4
          have X2 := X2.below b4
          have X3 := X3.below b4
          have BB := BB.trans (b4.mono BB.size)
          go_wp2_with fail
          refine (DrawSmoothUpTo_c _ AB nB cB ((YB.out.below BB).mono BB.size) (by omega)).mono ?_
          rintro e wq2 ⟨⟨au, ab, rfl⟩, dq2⟩
          have X1 := X1.below dq2
          have X2 := X2.below dq2
          have X3 := X3.below dq2
          have X4 := X4.below dq2
          have BB := BB.trans (dq2.mono BB.size)
          have D5 := Lib.hid (fun W => impl_SmoothUpTo_c W au ab)
          have D6 := Lib.hid (fun W => spec_SmoothUpTo_c W au ab)
          have gS := suA_len au ab
          have HS := Lib.hid (show suOk au ab = true → ∃ U : Nat, au = (U : Int) ∧ U ≤ 600 ∧ 1 ≤ ab ∧ suA au ab = flF (fun n => smB n ab) 1 U by
            intro h
            have h2 := h
            rw [suOk, Bool.and_eq_true] at h2
            obtain ⟨u0, u9⟩ := inB_true.1 h2.1
            obtain ⟨U, rfl⟩ := Int.eq_ofNat_of_zero_le u0
            exact ⟨U, rfl, by omega, (inB_true.1 h2.2).1, suA_yes h⟩)
          obtain ⟨SL, hSL⟩ : ∃ L, suA au ab = L := ⟨_, rfl⟩
          obtain ⟨SO, hSO⟩ : ∃ L, suOk au ab = L := ⟨_, rfl⟩
          rw [hSL] at gS HS
          simp only [hSL, hSO] at D5 D6
          rw [hSO] at HS
          clear hSL hSO
          go_wp2_with fail
          refine (D5.out _).mono ?_
          rintro e w5 ⟨⟨v5, rfl, o5⟩, b5⟩
          obtain ⟨A5, c5, rfl⟩ := o5.shape
          have X5 := Il_of_own o5
          clear o5
          have X1 := X1.below b5
          have X2 := X2.below b5
          have X3 := X3.below b5
          have X4 := X4.below b5
          have BB := BB.trans (b5.mono BB.size)
          go_wp2_with fail
          refine (D6.out _).mono ?_
          rintro e w6 ⟨⟨v6, rfl, o6⟩, b6⟩
          obtain ⟨A6, c6, rfl⟩ := o6.shape
          have X6 := Il_of_own o6
          clear o6
          have X1 := X1.below b6
          have X2 := X2.below b6
          have X3 := X3.below b6
          have X4 := X4.below b6
          have X5 := X5.below b6
          have BB := BB.trans (b6.mono BB.size)
          go_wp2_with fail
          refine (gSame_c _ _ _ _ _ _ _ _ X1 X2 rfl rfl gT).mono ?_
          rintro e u0 ⟨rfl, d0⟩
          have X1 := X1.below d0
          have X2 := X2.below d0
          have X3 := X3.below d0
          have X4 := X4.below d0
          have X5 := X5.below d0
          have X6 := X6.below d0
          have BB := BB.trans (d0.mono BB.size)
          go_wp2_with fail
          refine (gSame_c _ _ _ _ _ _ _ _ X3 X4 rfl rfl gC).mono ?_
          rintro e u1 ⟨rfl, d1⟩
          have X1 := X1.below d1
          have X2 := X2.below d1
          have X3 := X3.below d1
          have X4 := X4.below d1
          have X5 := X5.below d1
          have X6 := X6.below d1
          have BB := BB.trans (d1.mono BB.size)
          go_wp2_with fail
          refine (gSame_c _ _ _ _ _ _ _ _ X5 X6 rfl rfl gS).mono ?_
          rintro e u2 ⟨rfl, d2⟩
          have X1 := X1.below d2
          have X2 := X2.below d2
          have X3 := X3.below d2
          have X4 := X4.below d2
          have X5 := X5.below d2
          have X6 := X6.below d2
          have BB := BB.trans (d2.mono BB.size)
          go_wp2
          go_loopw [246] (fun i wr => ∃ k : Nat, k ≤ TL.length ∧ i = .int .i64 (k : Int) ∧ Below u2.heap.size u2 wr) (fun i _ => TL.length - (intOf i).toNat)
          case atStart => exact ⟨0, Nat.zero_le _, rfl, Below.refl _ _⟩
          case round =>
            obtain ⟨k, hk, rfl, hbel⟩ := hrel
            by_cases hlt : k < TL.length
            · obtain ⟨t, ht, hta, ht6, hp1, hp2, hpr, hsx⟩ := HT.out k hlt
              obtain ⟨bq, oq, rfl, hbq, hrd⟩ := X1 (by omega)
              have hc0 := (hbel.cell (p := ⟨bq, oq + k, none⟩) hbq).trans (hrd k hlt)
              rw [ht] at hc0
              have P1 := Lib.hid (fun W => impl_IsPrime_c W (t : Int))
              have P2 := Lib.hid (fun W => impl_IsPrime_c W ((t + 2 : Nat) : Int))
              simp only [(isP_yes (n := t) (by omega)).1, (isP_yes (n := t) (by omega)).2, hp1] at P1
              simp only [(isP_yes (n := t + 2) (by omega)).1, (isP_yes (n := t + 2) (by omega)).2, hp2] at P2
              rw [show ((t + 2 : Nat) : Int) = (t : Int) + 2 by omega] at P2
              clear hp1 hp2 ht
              have hki : (k : Int) < (TL.length : Int) := by omega
              have hle : ¬ (am < (t : Int)) := by omega
              by_cases h3 : 3 < t
              · have h3i : (3 : Int) < (t : Int) := by omega
                have h6i : ((t : Int) % 6 != 5) = false := by have := hsx h3; simp; omega
                clear hsx
                by_cases h0 : 0 < k
                · have h0i : (0 : Int) < (k : Int) := by omega
                  have hpp := hpr h0
                  have hd0 := (hbel.cell (p := ⟨bq, oq + (k - 1), none⟩) hbq).trans (hrd (k - 1) (by omega))
                  obtain ⟨z, hz⟩ : ∃ z, ivL TL (k - 1) = z := ⟨_, rfl⟩
                  rw [hz] at hd0 hpp
                  have hpi : ¬ ((t : Int) ≤ z) := by omega
                  have hk1 : (k : Int) - 1 < (TL.length : Int) := by omega
                  have hk0 : 0 ≤ (k : Int) - 1 := by omega
                  have hkn : ((k : Int) - 1).toNat = k - 1 := by omega
                  clear hz hpr hrd
                  go_wp2_with fail
                  refine (P1.out _).mono ?_
                  rintro e y1 ⟨rfl, e1⟩
                  have hbel1 := hbel.trans (e1.mono hbel.size)
                  have hc1 := (e1.cell (p := ⟨bq, oq + k, none⟩) (Nat.lt_of_lt_of_le hbq hbel.size)).trans hc0
                  have hd1 := (e1.cell (p := ⟨bq, oq + (k - 1), none⟩) (Nat.lt_of_lt_of_le hbq hbel.size)).trans hd0
                  go_wp2_with fail
                  refine (P2.out _).mono ?_
                  rintro e y2 ⟨rfl, e2⟩
                  have hbel2 := hbel1.trans (e2.mono hbel1.size)
                  have hd2 := (e2.cell (p := ⟨bq, oq + (k - 1), none⟩) (Nat.lt_of_lt_of_le hbq hbel1.size)).trans hd1
                  go_wp2
                  go_roundw
                  case rel => exact ⟨k + 1, by omega, by go_num, hbel2⟩
                  case measure => simp [intOf]; omega
                · have h0i : ¬ ((0 : Int) < (k : Int)) := by omega
                  clear hpr hrd
                  go_wp2_with fail
                  refine (P1.out _).mono ?_
                  rintro e y1 ⟨rfl, e1⟩
                  have hbel1 := hbel.trans (e1.mono hbel.size)
                  have hc1 := (e1.cell (p := ⟨bq, oq + k, none⟩) (Nat.lt_of_lt_of_le hbq hbel.size)).trans hc0

                  go_wp2_with fail
                  refine (P2.out _).mono ?_
                  rintro e y2 ⟨rfl, e2⟩
                  have hbel2 := hbel1.trans (e2.mono hbel1.size)

                  go_wp2
                  go_roundw
                  case rel => exact ⟨k + 1, by omega, by go_num, hbel2⟩
                  case measure => simp [intOf]; omega
              · have h3i : ¬ ((3 : Int) < (t : Int)) := by omega
                clear hsx
                by_cases h0 : 0 < k
                · have h0i : (0 : Int) < (k : Int) := by omega
                  have hpp := hpr h0
                  have hd0 := (hbel.cell (p := ⟨bq, oq + (k - 1), none⟩) hbq).trans (hrd (k - 1) (by omega))
                  obtain ⟨z, hz⟩ : ∃ z, ivL TL (k - 1) = z := ⟨_, rfl⟩
                  rw [hz] at hd0 hpp
                  have hpi : ¬ ((t : Int) ≤ z) := by omega
                  have hk1 : (k : Int) - 1 < (TL.length : Int) := by omega
                  have hk0 : 0 ≤ (k : Int) - 1 := by omega
                  have hkn : ((k : Int) - 1).toNat = k - 1 := by omega
                  clear hz hpr hrd
                  go_wp2_with fail
                  refine (P1.out _).mono ?_
                  rintro e y1 ⟨rfl, e1⟩
                  have hbel1 := hbel.trans (e1.mono hbel.size)
                  have hc1 := (e1.cell (p := ⟨bq, oq + k, none⟩) (Nat.lt_of_lt_of_le hbq hbel.size)).trans hc0
                  have hd1 := (e1.cell (p := ⟨bq, oq + (k - 1), none⟩) (Nat.lt_of_lt_of_le hbq hbel.size)).trans hd0
                  go_wp2_with fail
                  refine (P2.out _).mono ?_
                  rintro e y2 ⟨rfl, e2⟩
                  have hbel2 := hbel1.trans (e2.mono hbel1.size)
                  have hd2 := (e2.cell (p := ⟨bq, oq + (k - 1), none⟩) (Nat.lt_of_lt_of_le hbq hbel1.size)).trans hd1
                  go_wp2
                  go_roundw
                  case rel => exact ⟨k + 1, by omega, by go_num, hbel2⟩
                  case measure => simp [intOf]; omega
                · have h0i : ¬ ((0 : Int) < (k : Int)) := by omega
                  clear hpr hrd
                  go_wp2_with fail
                  refine (P1.out _).mono ?_
                  rintro e y1 ⟨rfl, e1⟩
                  have hbel1 := hbel.trans (e1.mono hbel.size)
                  have hc1 := (e1.cell (p := ⟨bq, oq + k, none⟩) (Nat.lt_of_lt_of_le hbq hbel.size)).trans hc0

                  go_wp2_with fail
                  refine (P2.out _).mono ?_
                  rintro e y2 ⟨rfl, e2⟩
                  have hbel2 := hbel1.trans (e2.mono hbel1.size)

                  go_wp2
                  go_roundw
                  case rel => exact ⟨k + 1, by omega, by go_num, hbel2⟩
                  case measure => simp [intOf]; omega
            · have hki : ¬ ((k : Int) < (TL.length : Int)) := by omega
              clear X1
              go_wp2
              go_loopw [306] (fun i wx => ∃ k : Nat, k ≤ CL.length ∧ i = .int .i64 (k : Int) ∧ Below u2.heap.size u2 wx) (fun i _ => CL.length - (intOf i).toNat)
              case atStart => exact ⟨0, Nat.zero_le _, rfl, hbel⟩
              case round =>
                obtain ⟨j, hj, rfl, hbelx⟩ := hrel
                by_cases hlt2 : j < CL.length
                · obtain ⟨c, hc, hc6, hcc, hp1⟩ := HC.out j hlt2
                  obtain ⟨bq, oq, rfl, hbq, hrd⟩ := X3 (by omega)
                  have hc0 := (hbelx.cell (p := ⟨bq, oq + j, none⟩) hbq).trans (hrd j hlt2)
                  rw [hc] at hc0
                  have P1 := Lib.hid (fun W => impl_IsPrime_c W (c : Int))
                  simp only [(isP_yes (n := c) (by omega)).1, (isP_yes (n := c) (by omega)).2, hp1] at P1
                  have hmm : (c : Int) * (c : Int) ≤ 360000 ∧ 0 ≤ (c : Int) * (c : Int) := by
                    have := Nat.mul_le_mul hc6 hc6
                    rw [← Int.natCast_mul]; omega
                  have hji : (j : Int) < (CL.length : Int) := by omega
                  have hle : ¬ (am < (c : Int) * (c : Int)) := by omega
                  clear hp1 hc hrd
                  go_wp2_with fail
                  refine (P1.out _).mono ?_
                  rintro e y1 ⟨rfl, e1⟩
                  have hbel1 := hbelx.trans (e1.mono hbelx.size)
                  go_wp2
                  go_roundw
                  case rel => exact ⟨j + 1, by omega, by go_num, hbel1⟩
                  case measure => simp [intOf]; omega
                · have hji : ¬ ((j : Int) < (CL.length : Int)) := by omega
                  clear X3
                  cases SO with
                  | false =>
                    clear HS
                    go_wp2
                    go_loopw [45] (fun i wz => i = .int .i64 1 ∧ Below w.heap.size w wz) (fun _ _ => 0)
                    case atStart => exact ⟨rfl, BB.trans (hbelx.mono BB.size)⟩
                    case round =>
                      obtain ⟨rfl, hbelz⟩ := hrel
                      go_wp2
                      go_ret
                      exact ⟨rfl, hbelz⟩
                  | true =>
                    obtain ⟨U, rfl, hU, hb1, hSL⟩ := HS.out rfl
                    have HH := Lib.hid (fun k (hk : k < U) => (show hasF SL ((k + 1 : Nat) : Int) = smB (k + 1) ab by rw [hSL]; exact hasF_flF (by omega) (by omega)))
                    clear HS hSL
                    go_wp2
                    go_loopw [45] (fun i wz => ∃ k : Nat, k ≤ U ∧ i = .int .i64 ((k : Int) + 1) ∧ Below u2.heap.size u2 wz) (fun i _ => 603 - (intOf i).toNat)
                    case atStart => exact ⟨0, Nat.zero_le _, rfl, hbelx⟩
                    case round =>
                      obtain ⟨l, hl, rfl, hbelz⟩ := hrel
                      by_cases hlt3 : l < U
                      · have hli : (l : Int) + 1 ≤ (U : Int) := by omega
                        have P1 := Lib.hid (fun W => impl_IsSmooth_c W ((l + 1 : Nat) : Int) ab)
                        have hok : isOk ((l + 1 : Nat) : Int) ab = true := by
                          rw [isOk, Bool.and_eq_true, decide_eq_true_eq]
                          exact ⟨inB_true.2 (by omega), hb1⟩
                        simp only [hok, isV_yes hok] at P1
                        have P2 := Lib.hid (fun W (h : Hid (Il W A5 SL)) => gHas_c W A5 _ c5 SL h.out rfl gS ((l + 1 : Nat) : Int))
                        simp only [HH.out l hlt3] at P2
                        obtain ⟨B, hB⟩ : ∃ B, smB (l + 1) ab = B := ⟨_, rfl⟩
                        simp only [hB] at P1 P2
                        rw [show ((l + 1 : Nat) : Int) = (l : Int) + 1 by omega] at P1 P2
                        clear hok hB
                        go_wp2_with fail
                        refine (P1.out _).mono ?_
                        rintro e y1 ⟨rfl, e1⟩
                        have hbel1 := hbelz.trans (e1.mono hbelz.size)
                        go_wp2_with fail
                        refine (P2.out _ (Lib.hid (X5.below hbel1))).mono ?_
                        rintro e y2 ⟨rfl, rfl⟩
                        go_wp2
                        go_roundw
                        case rel => exact ⟨l + 1, by omega, by go_num, hbel1⟩
                        case measure => simp [intOf]; omega
                      · have hli : ¬ ((l : Int) + 1 ≤ (U : Int)) := by omega
                        have BB := BB.trans (hbelz.mono BB.size)
                        go_wp2
                        go_ret
                        exact ⟨rfl, BB⟩
      · obtain ⟨rfl, rfl⟩ := hod (by omega)
        have he1 : ((N : Int) % 2 == 0) = false := by simp; omega
        have he2 : ((N : Int) % 2 == 1) = true := by simp; omega
        clear hod he hl
        go_wp2_with fail
        refine (C1.out _).mono ?_
        rintro e z1 ⟨rfl, a1⟩
        have BB := BB.trans (a1.mono BB.size)
        go_wp2_with fail
        refine (C2.out _).mono ?_
        rintro e z2 ⟨rfl, a2⟩
        have BB := BB.trans (a2.mono BB.size)
        go_wp2_with fail
        refine (C3.out _).mono ?_
        rintro e z3 ⟨rfl, a3⟩
        have BB := BB.trans (a3.mono BB.size)
        go_wp2_with fail
        refine (C4.out _).mono ?_
        rintro e z4 ⟨rfl, a4⟩
        have BB := BB.trans (a4.mono BB.size)
        go_wp2_with fail
        refine (Pp.out _).mono ?_
        rintro e z5 ⟨rfl, a5⟩
        have BB := BB.trans (a5.mono BB.size)
        go_wp2_with fail
        refine (Pq.out _).mono ?_
        rintro e z6 ⟨rfl, a6⟩
        have BB := BB.trans (a6.mono BB.size)
        as_aux_lemma =>
          go_wp2_with fail
          refine (DrawTwinsUpTo_c _ AB nB cB ((YB.out.below BB).mono BB.size) (by omega)).mono ?_
          rintro e wq ⟨⟨am, rfl⟩, dq⟩
          have BB := BB.trans (dq.mono BB.size)
          have D1 := Lib.hid (fun W => impl_TwinsUpTo_c W am)
          have D2 := Lib.hid (fun W => spec_TwinsUpTo_c W am)
          have D3 := Lib.hid (fun W => impl_CrossersUpTo_c W am)
          have D4 := Lib.hid (fun W => spec_CrossersUpTo_c W am)
          have gT := twA_len am
          have gC := crA_len am
          have HT := Lib.hid (fun k (hk : k < (twA am).length) => tw_tell hk)
          have HC := Lib.hid (fun k (hk : k < (crA am).length) => cr_tell hk)
          rw [show crOk am = twOk am from rfl] at D3 D4
          obtain ⟨TL, hTL⟩ : ∃ L, twA am = L := ⟨_, rfl⟩
          obtain ⟨CL, hCL⟩ : ∃ L, crA am = L := ⟨_, rfl⟩
          obtain ⟨TO, hTO⟩ : ∃ L, twOk am = L := ⟨_, rfl⟩
          rw [hTL] at gT
          rw [hCL] at gC
          simp only [hTL, hTO] at D1 D2
          simp only [hCL, hTO] at D3 D4
          simp only [hTL] at HT
          simp only [hCL] at HC
          clear hTL hCL hTO
          go_wp2_with fail
          refine (D1.out _).mono ?_
          rintro e w1 ⟨⟨v1, rfl, o1⟩, b1⟩
          obtain ⟨A1, c1, rfl⟩ := o1.shape
          have X1 := Il_of_own o1
          clear o1
          have BB := BB.trans (b1.mono BB.size)
          go_wp2_with fail
          refine (D2.out _).mono ?_
          rintro e w2 ⟨⟨v2, rfl, o2⟩, b2⟩
          obtain ⟨A2, c2, rfl⟩ := o2.shape
          have X2 := Il_of_own o2
          clear o2
          have X1 := X1.below b2
          have BB := BB.trans (b2.mono BB.size)
          go_wp2_with fail
          refine (D3.out _).mono ?_
          rintro e w3 ⟨⟨v3, rfl, o3⟩, b3⟩
          obtain ⟨A3, c3, rfl⟩ := o3.shape
          have X3 := Il_of_own o3
          clear o3
          have X1 := X1.below b3
          have X2 := X2.below b3
          have BB := BB.trans (b3.mono BB.size)
          go_wp2_with fail
          refine (D4.out _).mono ?_
          rintro e w4 ⟨⟨v4, rfl, o4⟩, b4⟩
          obtain ⟨A4, c4, rfl⟩ := o4.shape
          have X4 := Il_of_own o4
          clear o4
          have X1 := X1.below b4
          have X2 := X2.below b4
          have X3 := X3.below b4
          have BB := BB.trans (b4.mono BB.size)
          go_wp2_with fail
          refine (DrawSmoothUpTo_c _ AB nB cB ((YB.out.below BB).mono BB.size) (by omega)).mono ?_
          rintro e wq2 ⟨⟨au, ab, rfl⟩, dq2⟩
          have X1 := X1.below dq2
          have X2 := X2.below dq2
          have X3 := X3.below dq2
          have X4 := X4.below dq2
          have BB := BB.trans (dq2.mono BB.size)
          have D5 := Lib.hid (fun W => impl_SmoothUpTo_c W au ab)
          have D6 := Lib.hid (fun W => spec_SmoothUpTo_c W au ab)
          have gS := suA_len au ab
          have HS := Lib.hid (show suOk au ab = true → ∃ U : Nat, au = (U : Int) ∧ U ≤ 600 ∧ 1 ≤ ab ∧ suA au ab = flF (fun n => smB n ab) 1 U by
            intro h
            have h2 := h
            rw [suOk, Bool.and_eq_true] at h2
            obtain ⟨u0, u9⟩ := inB_true.1 h2.1
            obtain ⟨U, rfl⟩ := Int.eq_ofNat_of_zero_le u0
            exact ⟨U, rfl, by omega, (inB_true.1 h2.2).1, suA_yes h⟩)
          obtain ⟨SL, hSL⟩ : ∃ L, suA au ab = L := ⟨_, rfl⟩
          obtain ⟨SO, hSO⟩ : ∃ L, suOk au ab = L := ⟨_, rfl⟩
          rw [hSL] at gS HS
          simp only [hSL, hSO] at D5 D6
          rw [hSO] at HS
          clear hSL hSO
          go_wp2_with fail
          refine (D5.out _).mono ?_
          rintro e w5 ⟨⟨v5, rfl, o5⟩, b5⟩
          obtain ⟨A5, c5, rfl⟩ := o5.shape
          have X5 := Il_of_own o5
          clear o5
          have X1 := X1.below b5
          have X2 := X2.below b5
          have X3 := X3.below b5
          have X4 := X4.below b5
          have BB := BB.trans (b5.mono BB.size)
          go_wp2_with fail
          refine (D6.out _).mono ?_
          rintro e w6 ⟨⟨v6, rfl, o6⟩, b6⟩
          obtain ⟨A6, c6, rfl⟩ := o6.shape
          have X6 := Il_of_own o6
          clear o6
          have X1 := X1.below b6
          have X2 := X2.below b6
          have X3 := X3.below b6
          have X4 := X4.below b6
          have X5 := X5.below b6
          have BB := BB.trans (b6.mono BB.size)
          go_wp2_with fail
          refine (gSame_c _ _ _ _ _ _ _ _ X1 X2 rfl rfl gT).mono ?_
          rintro e u0 ⟨rfl, d0⟩
          have X1 := X1.below d0
          have X2 := X2.below d0
          have X3 := X3.below d0
          have X4 := X4.below d0
          have X5 := X5.below d0
          have X6 := X6.below d0
          have BB := BB.trans (d0.mono BB.size)
          go_wp2_with fail
          refine (gSame_c _ _ _ _ _ _ _ _ X3 X4 rfl rfl gC).mono ?_
          rintro e u1 ⟨rfl, d1⟩
          have X1 := X1.below d1
          have X2 := X2.below d1
          have X3 := X3.below d1
          have X4 := X4.below d1
          have X5 := X5.below d1
          have X6 := X6.below d1
          have BB := BB.trans (d1.mono BB.size)
          go_wp2_with fail
          refine (gSame_c _ _ _ _ _ _ _ _ X5 X6 rfl rfl gS).mono ?_
          rintro e u2 ⟨rfl, d2⟩
          have X1 := X1.below d2
          have X2 := X2.below d2
          have X3 := X3.below d2
          have X4 := X4.below d2
          have X5 := X5.below d2
          have X6 := X6.below d2
          have BB := BB.trans (d2.mono BB.size)
          go_wp2
          go_loopw [246] (fun i wr => ∃ k : Nat, k ≤ TL.length ∧ i = .int .i64 (k : Int) ∧ Below u2.heap.size u2 wr) (fun i _ => TL.length - (intOf i).toNat)
          case atStart => exact ⟨0, Nat.zero_le _, rfl, Below.refl _ _⟩
          case round =>
            obtain ⟨k, hk, rfl, hbel⟩ := hrel
            by_cases hlt : k < TL.length
            · obtain ⟨t, ht, hta, ht6, hp1, hp2, hpr, hsx⟩ := HT.out k hlt
              obtain ⟨bq, oq, rfl, hbq, hrd⟩ := X1 (by omega)
              have hc0 := (hbel.cell (p := ⟨bq, oq + k, none⟩) hbq).trans (hrd k hlt)
              rw [ht] at hc0
              have P1 := Lib.hid (fun W => impl_IsPrime_c W (t : Int))
              have P2 := Lib.hid (fun W => impl_IsPrime_c W ((t + 2 : Nat) : Int))
              simp only [(isP_yes (n := t) (by omega)).1, (isP_yes (n := t) (by omega)).2, hp1] at P1
              simp only [(isP_yes (n := t + 2) (by omega)).1, (isP_yes (n := t + 2) (by omega)).2, hp2] at P2
              rw [show ((t + 2 : Nat) : Int) = (t : Int) + 2 by omega] at P2
              clear hp1 hp2 ht
              have hki : (k : Int) < (TL.length : Int) := by omega
              have hle : ¬ (am < (t : Int)) := by omega
              by_cases h3 : 3 < t
              · have h3i : (3 : Int) < (t : Int) := by omega
                have h6i : ((t : Int) % 6 != 5) = false := by have := hsx h3; simp; omega
                clear hsx
                by_cases h0 : 0 < k
                · have h0i : (0 : Int) < (k : Int) := by omega
                  have hpp := hpr h0
                  have hd0 := (hbel.cell (p := ⟨bq, oq + (k - 1), none⟩) hbq).trans (hrd (k - 1) (by omega))
                  obtain ⟨z, hz⟩ : ∃ z, ivL TL (k - 1) = z := ⟨_, rfl⟩
                  rw [hz] at hd0 hpp
                  have hpi : ¬ ((t : Int) ≤ z) := by omega
                  have hk1 : (k : Int) - 1 < (TL.length : Int) := by omega
                  have hk0 : 0 ≤ (k : Int) - 1 := by omega
                  have hkn : ((k : Int) - 1).toNat = k - 1 := by omega
                  clear hz hpr hrd
                  go_wp2_with fail
                  refine (P1.out _).mono ?_
                  rintro e y1 ⟨rfl, e1⟩
                  have hbel1 := hbel.trans (e1.mono hbel.size)
                  have hc1 := (e1.cell (p := ⟨bq, oq + k, none⟩) (Nat.lt_of_lt_of_le hbq hbel.size)).trans hc0
                  have hd1 := (e1.cell (p := ⟨bq, oq + (k - 1), none⟩) (Nat.lt_of_lt_of_le hbq hbel.size)).trans hd0
                  go_wp2_with fail
                  refine (P2.out _).mono ?_
                  rintro e y2 ⟨rfl, e2⟩
                  have hbel2 := hbel1.trans (e2.mono hbel1.size)
                  have hd2 := (e2.cell (p := ⟨bq, oq + (k - 1), none⟩) (Nat.lt_of_lt_of_le hbq hbel1.size)).trans hd1
                  go_wp2
                  go_roundw
                  case rel => exact ⟨k + 1, by omega, by go_num, hbel2⟩
                  case measure => simp [intOf]; omega
                · have h0i : ¬ ((0 : Int) < (k : Int)) := by omega
                  clear hpr hrd
                  go_wp2_with fail
                  refine (P1.out _).mono ?_
                  rintro e y1 ⟨rfl, e1⟩
                  have hbel1 := hbel.trans (e1.mono hbel.size)
                  have hc1 := (e1.cell (p := ⟨bq, oq + k, none⟩) (Nat.lt_of_lt_of_le hbq hbel.size)).trans hc0

                  go_wp2_with fail
                  refine (P2.out _).mono ?_
                  rintro e y2 ⟨rfl, e2⟩
                  have hbel2 := hbel1.trans (e2.mono hbel1.size)

                  go_wp2
                  go_roundw
                  case rel => exact ⟨k + 1, by omega, by go_num, hbel2⟩
                  case measure => simp [intOf]; omega
              · have h3i : ¬ ((3 : Int) < (t : Int)) := by omega
                clear hsx
                by_cases h0 : 0 < k
                · have h0i : (0 : Int) < (k : Int) := by omega
                  have hpp := hpr h0
                  have hd0 := (hbel.cell (p := ⟨bq, oq + (k - 1), none⟩) hbq).trans (hrd (k - 1) (by omega))
                  obtain ⟨z, hz⟩ : ∃ z, ivL TL (k - 1) = z := ⟨_, rfl⟩
                  rw [hz] at hd0 hpp
                  have hpi : ¬ ((t : Int) ≤ z) := by omega
                  have hk1 : (k : Int) - 1 < (TL.length : Int) := by omega
                  have hk0 : 0 ≤ (k : Int) - 1 := by omega
                  have hkn : ((k : Int) - 1).toNat = k - 1 := by omega
                  clear hz hpr hrd
                  go_wp2_with fail
                  refine (P1.out _).mono ?_
                  rintro e y1 ⟨rfl, e1⟩
                  have hbel1 := hbel.trans (e1.mono hbel.size)
                  have hc1 := (e1.cell (p := ⟨bq, oq + k, none⟩) (Nat.lt_of_lt_of_le hbq hbel.size)).trans hc0
                  have hd1 := (e1.cell (p := ⟨bq, oq + (k - 1), none⟩) (Nat.lt_of_lt_of_le hbq hbel.size)).trans hd0
                  go_wp2_with fail
                  refine (P2.out _).mono ?_
                  rintro e y2 ⟨rfl, e2⟩
                  have hbel2 := hbel1.trans (e2.mono hbel1.size)
                  have hd2 := (e2.cell (p := ⟨bq, oq + (k - 1), none⟩) (Nat.lt_of_lt_of_le hbq hbel1.size)).trans hd1
                  go_wp2
                  go_roundw
                  case rel => exact ⟨k + 1, by omega, by go_num, hbel2⟩
                  case measure => simp [intOf]; omega
                · have h0i : ¬ ((0 : Int) < (k : Int)) := by omega
                  clear hpr hrd
                  go_wp2_with fail
                  refine (P1.out _).mono ?_
                  rintro e y1 ⟨rfl, e1⟩
                  have hbel1 := hbel.trans (e1.mono hbel.size)
                  have hc1 := (e1.cell (p := ⟨bq, oq + k, none⟩) (Nat.lt_of_lt_of_le hbq hbel.size)).trans hc0

                  go_wp2_with fail
                  refine (P2.out _).mono ?_
                  rintro e y2 ⟨rfl, e2⟩
                  have hbel2 := hbel1.trans (e2.mono hbel1.size)

                  go_wp2
                  go_roundw
                  case rel => exact ⟨k + 1, by omega, by go_num, hbel2⟩
                  case measure => simp [intOf]; omega
            · have hki : ¬ ((k : Int) < (TL.length : Int)) := by omega
              clear X1
              go_wp2
              go_loopw [306] (fun i wx => ∃ k : Nat, k ≤ CL.length ∧ i = .int .i64 (k : Int) ∧ Below u2.heap.size u2 wx) (fun i _ => CL.length - (intOf i).toNat)
              case atStart => exact ⟨0, Nat.zero_le _, rfl, hbel⟩
              case round =>
                obtain ⟨j, hj, rfl, hbelx⟩ := hrel
                by_cases hlt2 : j < CL.length
                · obtain ⟨c, hc, hc6, hcc, hp1⟩ := HC.out j hlt2
                  obtain ⟨bq, oq, rfl, hbq, hrd⟩ := X3 (by omega)
                  have hc0 := (hbelx.cell (p := ⟨bq, oq + j, none⟩) hbq).trans (hrd j hlt2)
                  rw [hc] at hc0
                  have P1 := Lib.hid (fun W => impl_IsPrime_c W (c : Int))
                  simp only [(isP_yes (n := c) (by omega)).1, (isP_yes (n := c) (by omega)).2, hp1] at P1
                  have hmm : (c : Int) * (c : Int) ≤ 360000 ∧ 0 ≤ (c : Int) * (c : Int) := by
                    have := Nat.mul_le_mul hc6 hc6
                    rw [← Int.natCast_mul]; omega
                  have hji : (j : Int) < (CL.length : Int) := by omega
                  have hle : ¬ (am < (c : Int) * (c : Int)) := by omega
                  clear hp1 hc hrd
                  go_wp2_with fail
                  refine (P1.out _).mono ?_
                  rintro e y1 ⟨rfl, e1⟩
                  have hbel1 := hbelx.trans (e1.mono hbelx.size)
                  go_wp2
                  go_roundw
                  case rel => exact ⟨j + 1, by omega, by go_num, hbel1⟩
                  case measure => simp [intOf]; omega
                · have hji : ¬ ((j : Int) < (CL.length : Int)) := by omega
                  clear X3
                  cases SO with
                  | false =>
                    clear HS
                    go_wp2
                    go_loopw [45] (fun i wz => i = .int .i64 1 ∧ Below w.heap.size w wz) (fun _ _ => 0)
                    case atStart => exact ⟨rfl, BB.trans (hbelx.mono BB.size)⟩
                    case round =>
                      obtain ⟨rfl, hbelz⟩ := hrel
                      go_wp2
                      go_ret
                      exact ⟨rfl, hbelz⟩
                  | true =>
                    obtain ⟨U, rfl, hU, hb1, hSL⟩ := HS.out rfl
                    have HH := Lib.hid (fun k (hk : k < U) => (show hasF SL ((k + 1 : Nat) : Int) = smB (k + 1) ab by rw [hSL]; exact hasF_flF (by omega) (by omega)))
                    clear HS hSL
                    go_wp2
                    go_loopw [45] (fun i wz => ∃ k : Nat, k ≤ U ∧ i = .int .i64 ((k : Int) + 1) ∧ Below u2.heap.size u2 wz) (fun i _ => 603 - (intOf i).toNat)
                    case atStart => exact ⟨0, Nat.zero_le _, rfl, hbelx⟩
                    case round =>
                      obtain ⟨l, hl, rfl, hbelz⟩ := hrel
                      by_cases hlt3 : l < U
                      · have hli : (l : Int) + 1 ≤ (U : Int) := by omega
                        have P1 := Lib.hid (fun W => impl_IsSmooth_c W ((l + 1 : Nat) : Int) ab)
                        have hok : isOk ((l + 1 : Nat) : Int) ab = true := by
                          rw [isOk, Bool.and_eq_true, decide_eq_true_eq]
                          exact ⟨inB_true.2 (by omega), hb1⟩
                        simp only [hok, isV_yes hok] at P1
                        have P2 := Lib.hid (fun W (h : Hid (Il W A5 SL)) => gHas_c W A5 _ c5 SL h.out rfl gS ((l + 1 : Nat) : Int))
                        simp only [HH.out l hlt3] at P2
                        obtain ⟨B, hB⟩ : ∃ B, smB (l + 1) ab = B := ⟨_, rfl⟩
                        simp only [hB] at P1 P2
                        rw [show ((l + 1 : Nat) : Int) = (l : Int) + 1 by omega] at P1 P2
                        clear hok hB
                        go_wp2_with fail
                        refine (P1.out _).mono ?_
                        rintro e y1 ⟨rfl, e1⟩
                        have hbel1 := hbelz.trans (e1.mono hbelz.size)
                        go_wp2_with fail
                        refine (P2.out _ (Lib.hid (X5.below hbel1))).mono ?_
                        rintro e y2 ⟨rfl, rfl⟩
                        go_wp2
                        go_roundw
                        case rel => exact ⟨l + 1, by omega, by go_num, hbel1⟩
                        case measure => simp [intOf]; omega
                      · have hli : ¬ ((l : Int) + 1 ≤ (U : Int)) := by omega
                        have BB := BB.trans (hbelz.mono BB.size)
                        go_wp2
                        go_ret
                        exact ⟨rfl, BB⟩
    · have hf : f2Ok (N : Int) = false := by rw [f2Ok, c2L_yes hm]; exact decide_eq_false hl
      have hodd : N % 2 ≠ 0 := fun h => hl (gold N4 N9 h)
      simp only [hf, (f2_no hf).1, (f2_no hf).2] at C1 C2
      rw [show (flF (ptB N) 2 (N / 2 + 1 - 2)).length = 0 by omega] at C3 C4
      have he1 : ((N : Int) % 2 == 0) = false := by simp; omega
      clear hm m4 m9 hcv hf hl hodd
      go_wp2_with fail
      refine (C1.out _).mono ?_
      rintro e z1 ⟨rfl, a1⟩
      have BB := BB.trans (a1.mono BB.size)
      go_wp2_with fail
      refine (C2.out _).mono ?_
      rintro e z2 ⟨rfl, a2⟩
      have BB := BB.trans (a2.mono BB.size)
      go_wp2_with fail
      refine (C3.out _).mono ?_
      rintro e z3 ⟨rfl, a3⟩
      have BB := BB.trans (a3.mono BB.size)
      go_wp2_with fail
      refine (C4.out _).mono ?_
      rintro e z4 ⟨rfl, a4⟩
      have BB := BB.trans (a4.mono BB.size)
      as_aux_lemma =>
        go_wp2_with fail
        refine (DrawTwinsUpTo_c _ AB nB cB ((YB.out.below BB).mono BB.size) (by omega)).mono ?_
        rintro e wq ⟨⟨am, rfl⟩, dq⟩
        have BB := BB.trans (dq.mono BB.size)
        have D1 := Lib.hid (fun W => impl_TwinsUpTo_c W am)
        have D2 := Lib.hid (fun W => spec_TwinsUpTo_c W am)
        have D3 := Lib.hid (fun W => impl_CrossersUpTo_c W am)
        have D4 := Lib.hid (fun W => spec_CrossersUpTo_c W am)
        have gT := twA_len am
        have gC := crA_len am
        have HT := Lib.hid (fun k (hk : k < (twA am).length) => tw_tell hk)
        have HC := Lib.hid (fun k (hk : k < (crA am).length) => cr_tell hk)
        rw [show crOk am = twOk am from rfl] at D3 D4
        obtain ⟨TL, hTL⟩ : ∃ L, twA am = L := ⟨_, rfl⟩
        obtain ⟨CL, hCL⟩ : ∃ L, crA am = L := ⟨_, rfl⟩
        obtain ⟨TO, hTO⟩ : ∃ L, twOk am = L := ⟨_, rfl⟩
        rw [hTL] at gT
        rw [hCL] at gC
        simp only [hTL, hTO] at D1 D2
        simp only [hCL, hTO] at D3 D4
        simp only [hTL] at HT
        simp only [hCL] at HC
        clear hTL hCL hTO
        go_wp2_with fail
        refine (D1.out _).mono ?_
        rintro e w1 ⟨⟨v1, rfl, o1⟩, b1⟩
        obtain ⟨A1, c1, rfl⟩ := o1.shape
        have X1 := Il_of_own o1
        clear o1
        have BB := BB.trans (b1.mono BB.size)
        go_wp2_with fail
        refine (D2.out _).mono ?_
        rintro e w2 ⟨⟨v2, rfl, o2⟩, b2⟩
        obtain ⟨A2, c2, rfl⟩ := o2.shape
        have X2 := Il_of_own o2
        clear o2
        have X1 := X1.below b2
        have BB := BB.trans (b2.mono BB.size)
        go_wp2_with fail
        refine (D3.out _).mono ?_
        rintro e w3 ⟨⟨v3, rfl, o3⟩, b3⟩
        obtain ⟨A3, c3, rfl⟩ := o3.shape
        have X3 := Il_of_own o3
        clear o3
        have X1 := X1.below b3
        have X2 := X2.below b3
        have BB := BB.trans (b3.mono BB.size)
        go_wp2_with fail
        refine (D4.out _).mono ?_
        rintro e w4 ⟨⟨v4, rfl, o4⟩, b4⟩
        obtain ⟨A4, c4, rfl⟩ := o4.shape
        have X4 := Il_of_own o4
        clear o4
        have X1 := X1.below b4
        have X2 := X2.below b4
        have X3 := X3.below b4
        have BB := BB.trans (b4.mono BB.size)
        go_wp2_with fail
        refine (DrawSmoothUpTo_c _ AB nB cB ((YB.out.below BB).mono BB.size) (by omega)).mono ?_
        rintro e wq2 ⟨⟨au, ab, rfl⟩, dq2⟩
        have X1 := X1.below dq2
        have X2 := X2.below dq2
        have X3 := X3.below dq2
        have X4 := X4.below dq2
        have BB := BB.trans (dq2.mono BB.size)
        have D5 := Lib.hid (fun W => impl_SmoothUpTo_c W au ab)
        have D6 := Lib.hid (fun W => spec_SmoothUpTo_c W au ab)
        have gS := suA_len au ab
        have HS := Lib.hid (show suOk au ab = true → ∃ U : Nat, au = (U : Int) ∧ U ≤ 600 ∧ 1 ≤ ab ∧ suA au ab = flF (fun n => smB n ab) 1 U by
          intro h
          have h2 := h
          rw [suOk, Bool.and_eq_true] at h2
          obtain ⟨u0, u9⟩ := inB_true.1 h2.1
          obtain ⟨U, rfl⟩ := Int.eq_ofNat_of_zero_le u0
          exact ⟨U, rfl, by omega, (inB_true.1 h2.2).1, suA_yes h⟩)
        obtain ⟨SL, hSL⟩ : ∃ L, suA au ab = L := ⟨_, rfl⟩
        obtain ⟨SO, hSO⟩ : ∃ L, suOk au ab = L := ⟨_, rfl⟩
        rw [hSL] at gS HS
        simp only [hSL, hSO] at D5 D6
        rw [hSO] at HS
        clear hSL hSO
        go_wp2_with fail
        refine (D5.out _).mono ?_
        rintro e w5 ⟨⟨v5, rfl, o5⟩, b5⟩
        obtain ⟨A5, c5, rfl⟩ := o5.shape
        have X5 := Il_of_own o5
        clear o5
        have X1 := X1.below b5
        have X2 := X2.below b5
        have X3 := X3.below b5
        have X4 := X4.below b5
        have BB := BB.trans (b5.mono BB.size)
        go_wp2_with fail
        refine (D6.out _).mono ?_
        rintro e w6 ⟨⟨v6, rfl, o6⟩, b6⟩
        obtain ⟨A6, c6, rfl⟩ := o6.shape
        have X6 := Il_of_own o6
        clear o6
        have X1 := X1.below b6
        have X2 := X2.below b6
        have X3 := X3.below b6
        have X4 := X4.below b6
        have X5 := X5.below b6
        have BB := BB.trans (b6.mono BB.size)
        go_wp2_with fail
        refine (gSame_c _ _ _ _ _ _ _ _ X1 X2 rfl rfl gT).mono ?_
        rintro e u0 ⟨rfl, d0⟩
        have X1 := X1.below d0
        have X2 := X2.below d0
        have X3 := X3.below d0
        have X4 := X4.below d0
        have X5 := X5.below d0
        have X6 := X6.below d0
        have BB := BB.trans (d0.mono BB.size)
        go_wp2_with fail
        refine (gSame_c _ _ _ _ _ _ _ _ X3 X4 rfl rfl gC).mono ?_
        rintro e u1 ⟨rfl, d1⟩
        have X1 := X1.below d1
        have X2 := X2.below d1
        have X3 := X3.below d1
        have X4 := X4.below d1
        have X5 := X5.below d1
        have X6 := X6.below d1
        have BB := BB.trans (d1.mono BB.size)
        go_wp2_with fail
        refine (gSame_c _ _ _ _ _ _ _ _ X5 X6 rfl rfl gS).mono ?_
        rintro e u2 ⟨rfl, d2⟩
        have X1 := X1.below d2
        have X2 := X2.below d2
        have X3 := X3.below d2
        have X4 := X4.below d2
        have X5 := X5.below d2
        have X6 := X6.below d2
        have BB := BB.trans (d2.mono BB.size)
        go_wp2
        go_loopw [246] (fun i wr => ∃ k : Nat, k ≤ TL.length ∧ i = .int .i64 (k : Int) ∧ Below u2.heap.size u2 wr) (fun i _ => TL.length - (intOf i).toNat)
        case atStart => exact ⟨0, Nat.zero_le _, rfl, Below.refl _ _⟩
        case round =>
          obtain ⟨k, hk, rfl, hbel⟩ := hrel
          by_cases hlt : k < TL.length
          · obtain ⟨t, ht, hta, ht6, hp1, hp2, hpr, hsx⟩ := HT.out k hlt
            obtain ⟨bq, oq, rfl, hbq, hrd⟩ := X1 (by omega)
            have hc0 := (hbel.cell (p := ⟨bq, oq + k, none⟩) hbq).trans (hrd k hlt)
            rw [ht] at hc0
            have P1 := Lib.hid (fun W => impl_IsPrime_c W (t : Int))
            have P2 := Lib.hid (fun W => impl_IsPrime_c W ((t + 2 : Nat) : Int))
            simp only [(isP_yes (n := t) (by omega)).1, (isP_yes (n := t) (by omega)).2, hp1] at P1
            simp only [(isP_yes (n := t + 2) (by omega)).1, (isP_yes (n := t + 2) (by omega)).2, hp2] at P2
            rw [show ((t + 2 : Nat) : Int) = (t : Int) + 2 by omega] at P2
            clear hp1 hp2 ht
            have hki : (k : Int) < (TL.length : Int) := by omega
            have hle : ¬ (am < (t : Int)) := by omega
            by_cases h3 : 3 < t
            · have h3i : (3 : Int) < (t : Int) := by omega
              have h6i : ((t : Int) % 6 != 5) = false := by have := hsx h3; simp; omega
              clear hsx
              by_cases h0 : 0 < k
              · have h0i : (0 : Int) < (k : Int) := by omega
                have hpp := hpr h0
                have hd0 := (hbel.cell (p := ⟨bq, oq + (k - 1), none⟩) hbq).trans (hrd (k - 1) (by omega))
                obtain ⟨z, hz⟩ : ∃ z, ivL TL (k - 1) = z := ⟨_, rfl⟩
                rw [hz] at hd0 hpp
                have hpi : ¬ ((t : Int) ≤ z) := by omega
                have hk1 : (k : Int) - 1 < (TL.length : Int) := by omega
                have hk0 : 0 ≤ (k : Int) - 1 := by omega
                have hkn : ((k : Int) - 1).toNat = k - 1 := by omega
                clear hz hpr hrd
                go_wp2_with fail
                refine (P1.out _).mono ?_
                rintro e y1 ⟨rfl, e1⟩
                have hbel1 := hbel.trans (e1.mono hbel.size)
                have hc1 := (e1.cell (p := ⟨bq, oq + k, none⟩) (Nat.lt_of_lt_of_le hbq hbel.size)).trans hc0
                have hd1 := (e1.cell (p := ⟨bq, oq + (k - 1), none⟩) (Nat.lt_of_lt_of_le hbq hbel.size)).trans hd0
                go_wp2_with fail
                refine (P2.out _).mono ?_
                rintro e y2 ⟨rfl, e2⟩
                have hbel2 := hbel1.trans (e2.mono hbel1.size)
                have hd2 := (e2.cell (p := ⟨bq, oq + (k - 1), none⟩) (Nat.lt_of_lt_of_le hbq hbel1.size)).trans hd1
                go_wp2
                go_roundw
                case rel => exact ⟨k + 1, by omega, by go_num, hbel2⟩
                case measure => simp [intOf]; omega
              · have h0i : ¬ ((0 : Int) < (k : Int)) := by omega
                clear hpr hrd
                go_wp2_with fail
                refine (P1.out _).mono ?_
                rintro e y1 ⟨rfl, e1⟩
                have hbel1 := hbel.trans (e1.mono hbel.size)
                have hc1 := (e1.cell (p := ⟨bq, oq + k, none⟩) (Nat.lt_of_lt_of_le hbq hbel.size)).trans hc0

                go_wp2_with fail
                refine (P2.out _).mono ?_
                rintro e y2 ⟨rfl, e2⟩
                have hbel2 := hbel1.trans (e2.mono hbel1.size)

                go_wp2
                go_roundw
                case rel => exact ⟨k + 1, by omega, by go_num, hbel2⟩
                case measure => simp [intOf]; omega
            · have h3i : ¬ ((3 : Int) < (t : Int)) := by omega
              clear hsx
              by_cases h0 : 0 < k
              · have h0i : (0 : Int) < (k : Int) := by omega
                have hpp := hpr h0
                have hd0 := (hbel.cell (p := ⟨bq, oq + (k - 1), none⟩) hbq).trans (hrd (k - 1) (by omega))
                obtain ⟨z, hz⟩ : ∃ z, ivL TL (k - 1) = z := ⟨_, rfl⟩
                rw [hz] at hd0 hpp
                have hpi : ¬ ((t : Int) ≤ z) := by omega
                have hk1 : (k : Int) - 1 < (TL.length : Int) := by omega
                have hk0 : 0 ≤ (k : Int) - 1 := by omega
                have hkn : ((k : Int) - 1).toNat = k - 1 := by omega
                clear hz hpr hrd
                go_wp2_with fail
                refine (P1.out _).mono ?_
                rintro e y1 ⟨rfl, e1⟩
                have hbel1 := hbel.trans (e1.mono hbel.size)
                have hc1 := (e1.cell (p := ⟨bq, oq + k, none⟩) (Nat.lt_of_lt_of_le hbq hbel.size)).trans hc0
                have hd1 := (e1.cell (p := ⟨bq, oq + (k - 1), none⟩) (Nat.lt_of_lt_of_le hbq hbel.size)).trans hd0
                go_wp2_with fail
                refine (P2.out _).mono ?_
                rintro e y2 ⟨rfl, e2⟩
                have hbel2 := hbel1.trans (e2.mono hbel1.size)
                have hd2 := (e2.cell (p := ⟨bq, oq + (k - 1), none⟩) (Nat.lt_of_lt_of_le hbq hbel1.size)).trans hd1
                go_wp2
                go_roundw
                case rel => exact ⟨k + 1, by omega, by go_num, hbel2⟩
                case measure => simp [intOf]; omega
              · have h0i : ¬ ((0 : Int) < (k : Int)) := by omega
                clear hpr hrd
                go_wp2_with fail
                refine (P1.out _).mono ?_
                rintro e y1 ⟨rfl, e1⟩
                have hbel1 := hbel.trans (e1.mono hbel.size)
                have hc1 := (e1.cell (p := ⟨bq, oq + k, none⟩) (Nat.lt_of_lt_of_le hbq hbel.size)).trans hc0

                go_wp2_with fail
                refine (P2.out _).mono ?_
                rintro e y2 ⟨rfl, e2⟩
                have hbel2 := hbel1.trans (e2.mono hbel1.size)

                go_wp2
                go_roundw
                case rel => exact ⟨k + 1, by omega, by go_num, hbel2⟩
                case measure => simp [intOf]; omega
          · have hki : ¬ ((k : Int) < (TL.length : Int)) := by omega
            clear X1
            go_wp2
            go_loopw [306] (fun i wx => ∃ k : Nat, k ≤ CL.length ∧ i = .int .i64 (k : Int) ∧ Below u2.heap.size u2 wx) (fun i _ => CL.length - (intOf i).toNat)
            case atStart => exact ⟨0, Nat.zero_le _, rfl, hbel⟩
            case round =>
              obtain ⟨j, hj, rfl, hbelx⟩ := hrel
              by_cases hlt2 : j < CL.length
              · obtain ⟨c, hc, hc6, hcc, hp1⟩ := HC.out j hlt2
                obtain ⟨bq, oq, rfl, hbq, hrd⟩ := X3 (by omega)
                have hc0 := (hbelx.cell (p := ⟨bq, oq + j, none⟩) hbq).trans (hrd j hlt2)
                rw [hc] at hc0
                have P1 := Lib.hid (fun W => impl_IsPrime_c W (c : Int))
                simp only [(isP_yes (n := c) (by omega)).1, (isP_yes (n := c) (by omega)).2, hp1] at P1
                have hmm : (c : Int) * (c : Int) ≤ 360000 ∧ 0 ≤ (c : Int) * (c : Int) := by
                  have := Nat.mul_le_mul hc6 hc6
                  rw [← Int.natCast_mul]; omega
                have hji : (j : Int) < (CL.length : Int) := by omega
                have hle : ¬ (am < (c : Int) * (c : Int)) := by omega
                clear hp1 hc hrd
                go_wp2_with fail
                refine (P1.out _).mono ?_
                rintro e y1 ⟨rfl, e1⟩
                have hbel1 := hbelx.trans (e1.mono hbelx.size)
                go_wp2
                go_roundw
                case rel => exact ⟨j + 1, by omega, by go_num, hbel1⟩
                case measure => simp [intOf]; omega
              · have hji : ¬ ((j : Int) < (CL.length : Int)) := by omega
                clear X3
                cases SO with
                | false =>
                  clear HS
                  go_wp2
                  go_loopw [45] (fun i wz => i = .int .i64 1 ∧ Below w.heap.size w wz) (fun _ _ => 0)
                  case atStart => exact ⟨rfl, BB.trans (hbelx.mono BB.size)⟩
                  case round =>
                    obtain ⟨rfl, hbelz⟩ := hrel
                    go_wp2
                    go_ret
                    exact ⟨rfl, hbelz⟩
                | true =>
                  obtain ⟨U, rfl, hU, hb1, hSL⟩ := HS.out rfl
                  have HH := Lib.hid (fun k (hk : k < U) => (show hasF SL ((k + 1 : Nat) : Int) = smB (k + 1) ab by rw [hSL]; exact hasF_flF (by omega) (by omega)))
                  clear HS hSL
                  go_wp2
                  go_loopw [45] (fun i wz => ∃ k : Nat, k ≤ U ∧ i = .int .i64 ((k : Int) + 1) ∧ Below u2.heap.size u2 wz) (fun i _ => 603 - (intOf i).toNat)
                  case atStart => exact ⟨0, Nat.zero_le _, rfl, hbelx⟩
                  case round =>
                    obtain ⟨l, hl, rfl, hbelz⟩ := hrel
                    by_cases hlt3 : l < U
                    · have hli : (l : Int) + 1 ≤ (U : Int) := by omega
                      have P1 := Lib.hid (fun W => impl_IsSmooth_c W ((l + 1 : Nat) : Int) ab)
                      have hok : isOk ((l + 1 : Nat) : Int) ab = true := by
                        rw [isOk, Bool.and_eq_true, decide_eq_true_eq]
                        exact ⟨inB_true.2 (by omega), hb1⟩
                      simp only [hok, isV_yes hok] at P1
                      have P2 := Lib.hid (fun W (h : Hid (Il W A5 SL)) => gHas_c W A5 _ c5 SL h.out rfl gS ((l + 1 : Nat) : Int))
                      simp only [HH.out l hlt3] at P2
                      obtain ⟨B, hB⟩ : ∃ B, smB (l + 1) ab = B := ⟨_, rfl⟩
                      simp only [hB] at P1 P2
                      rw [show ((l + 1 : Nat) : Int) = (l : Int) + 1 by omega] at P1 P2
                      clear hok hB
                      go_wp2_with fail
                      refine (P1.out _).mono ?_
                      rintro e y1 ⟨rfl, e1⟩
                      have hbel1 := hbelz.trans (e1.mono hbelz.size)
                      go_wp2_with fail
                      refine (P2.out _ (Lib.hid (X5.below hbel1))).mono ?_
                      rintro e y2 ⟨rfl, rfl⟩
                      go_wp2
                      go_roundw
                      case rel => exact ⟨l + 1, by omega, by go_num, hbel1⟩
                      case measure => simp [intOf]; omega
                    · have hli : ¬ ((l : Int) + 1 ≤ (U : Int)) := by omega
                      have BB := BB.trans (hbelz.mono BB.size)
                      go_wp2
                      go_ret
                      exact ⟨rfl, BB⟩

set_option maxRecDepth 100000 in
theorem lifted_FnSumsOfPrimes (os : Os) (started : os.Started) (H : Type) (enc : TypeId × Value → H) :
    ReturnsInHanded {} Try.checked os 3 .any (Rows.fnSumsOfPrimesSpec.pre6 enc Try.prog Try.f3 Rows.fnSumsOfPrimesRow.domain false) (Rows.fnSumsOfPrimesSpec.post enc Try.prog Try.f3 false true false false) := by
  refine returnsInHanded_of_change (C := Try.checked) own started (by kernel_rfl) Try.func3
    (ChangeSpec.witness6 (enc := enc) (C := Try.checked) false ⟨#[], #[.slice none 0 0, .slice none 0 0], []⟩ 8 (by kernel_rfl) (by kernel_rfl) (by kernel_rfl) (by kernel_rfl)) ?_
  intro W base args ds gs before hval0 hW hcnd _
  have hval : ∀ (j : Nat) t v, Try.f3.params[j]? = some t → args[j]? = some v → Value.okWide Try.prog W .any base t v := hval0
  have hW' := hW
  obtain ⟨p, q, hA0, hV, rfl, hfz, hnd⟩ := hW
  have hA : DataW.TrodAll enc Try.prog W 0 (fun _ => true) true Try.f3.params.toList args.toList ds p := hA0
  rw [Try.params3] at hA hval
  obtain ⟨v0, vs0, d0, ds0, p0, q0, hargs, rfl, rfl, h0, r0⟩ := trodAll_cons hA
  obtain ⟨v1, vs1, d1, ds1, p1, q1, rfl, rfl, rfl, h1, r1⟩ := trodAll_cons r0
  obtain ⟨rfl, rfl, rfl⟩ := trodAll_nil r1
  obtain rfl : args = #[v0, v1] := by cases args; simp_all
  obtain ⟨rfl, rfl⟩ := trodVars_none hV
  have k0 := h0
  have lt0 : ∀ x ∈ p0, x.block < W.heap.size := by obtain ⟨m, hm⟩ := k0; exact DataW.trod_lt m _ _ _ hm
  obtain ⟨A0, n0, c0, rfl, m0, Y0⟩ := open_byt (hval 0 22 v0 rfl rfl) h0
  have k1 := h1
  have lt1 : ∀ x ∈ p1, x.block < W.heap.size := by obtain ⟨m, hm⟩ := k1; exact DataW.trod_lt m _ _ _ hm
  obtain ⟨A1, n1, c1, rfl, m1, Y1⟩ := open_byt (hval 1 22 v1 rfl rfl) h1
  clear hA0 hval0
  refine (walk_FnSumsOfPrimes W A0 n0 c0 m0 Y0 A1 n1 c1 m1 Y1).mono fun e W' ⟨he, bel⟩ => ?_
  subst he
  exact ⟨_, rfl, _, _, _, [], _, [], hW', trodAll_mk1 (shut_bool Try.underlying4 _), (trodAll_cons_mk (Below.trod laidOut (by kernel_rfl) (of_decide_eq_true (by kernel_rfl)) k0 bel lt0) (trodAll_cons_mk (Below.trod laidOut (by kernel_rfl) (of_decide_eq_true (by kernel_rfl)) k1 bel lt1) trodAll_mk0)), rfl, bel.frame _, fun h => by cases h⟩

theorem closed_FnSumsOfPrimes : joinedFacts Try.prog 3 Try.f3 Rows.fnSumsOfPrimesSpec Rows.fnSumsOfPrimesRow = true := by
  unfold joinedFacts
  rw [head_enters, head_final, head_make]
  kernel_rfl
theorem over_FnSumsOfPrimes : Rows.fnSumsOfPrimesRow.holds Try.pinned (OpenSpec.ofChange Rows.fnSumsOfPrimesSpec) :=
  OpenClaim.holds_of_wide 3 Try.f3 rfl rfl rfl rfl rfl rfl rfl ⟨rfl, rfl, rfl, rfl, rfl⟩ rfl rfl rfl rfl rfl (by kernel_rfl) Try.func3 closed_FnSumsOfPrimes
    (of_decide_eq_true (by kernel_rfl)) (by unfold Func.isWrapper; first | (rw [if_pos (by decide +kernel)]; kernel_rfl) | (rw [if_neg (by decide +kernel)]; exact ⟨rfl, rfl⟩))
    (fun os started H enc _ => lifted_FnSumsOfPrimes os started H enc)

theorem fnSumsOfPrimes_holds : Rows.FnSumsOfPrimesSaid := over_FnSumsOfPrimes

end Go.Proofs.Ytmjjpgafecmljaa
