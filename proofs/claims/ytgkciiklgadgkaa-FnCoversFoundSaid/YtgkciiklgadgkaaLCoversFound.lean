/- For every two slices of bytes that come in, laws.FnCoversFound returns true. Conditions: none. -/
import Derived.Test.YtgkciiklgadgkaaCV
import Derived.Test.YtgkciiklgadgkaaO3
import Derived.Test.YtgkciiklgadgkaaOK
import Derived.Test.YtgkciiklgadgkaaKO
import Derived.Test.YtgkciiklgadgkaaKJ
import Derived.Test.YtgkciiklgadgkaaKI
import Derived.Test.YtgkciiklgadgkaaKB
import Derived.Test.YtgkciiklgadgkaaL0
namespace Go.Proofs.Ytgkciiklgadgkaa
open Go.ChangeShapes Go.WideShapes Go.ChangeAt Go.RowKit Go.Deep
set_option maxRecDepth 100000
set_option linter.unusedVariables false
set_option linter.unusedSimpArgs false

set_option maxHeartbeats 40000000 in
theorem walk_FnCoversFound (w : World) (AA : Option Addr) (nA cA : Nat) (mA : nA ≤ 9223372036854775807) (yA : Byt w w.heap.size AA nA) (AB : Option Addr) (nB cB : Nat) (mB : nB ≤ 9223372036854775807) (yB : Byt w w.heap.size AB nB) :
    Calls Try.prog 3 #[.slice AA nA cA, .slice AB nB cB] w fun e w' => e = .returned (.bool true) ∧ Below w.heap.size w w' := by
  have YA := Lib.hid yA
  have YB := Lib.hid yB
  clear yA yB
  by_cases hn : nA + nB ≤ 1048576
  rotate_left
  · go_enter Try.func3, Try.ntmps3
    go_wp2_with fail
    refine (big_c _ AA AB nA cA nB cB mA mB).mono ?_
    rw [decide_eq_false hn]
    rintro e w0 ⟨rfl, rfl⟩
    go_wp2
    go_ret
    exact ⟨rfl, Below.refl _ _⟩
  go_enter Try.func3, Try.ntmps3
  go_wp2_with fail
  refine (big_c _ AA AB nA cA nB cB mA mB).mono ?_
  rw [decide_eq_true hn]
  rintro e w0 ⟨rfl, rfl⟩
  go_wp2_with fail
  refine (DrawMostCovered_c _ AA nA cA YA.out (by omega)).mono ?_
  rintro e wd ⟨⟨vq0, xs, rfl, oq0, hq200⟩, BB⟩
  obtain ⟨Aa, ca, rfl⟩ := oq0.shape
  have hca := (OwnI.cap oq0).1
  have HA := Il_of_own oq0
  obtain ⟨ma, hma⟩ : ∃ l, xs.length = l := ⟨_, rfl⟩
  rw [hma] at hca hq200 ⊢
  have Hma : Hid (ma = xs.length) := Lib.hid hma.symm
  have hna : ma ≤ 1048576 := by omega
  clear oq0 hma
  have C1 := Lib.hid (fun W (hW : Il W Aa xs) => impl_MostCovered_c W Aa ma ca xs hW Hma.out hna hca)
  have C2 := Lib.hid (fun W (hW : Il W Aa xs) => spec_MostCovered_c W Aa ma ca xs hW Hma.out hna hca)
  have C3 := Lib.hid (fun W (hW : Il W Aa xs) => impl_RulesWithout_c W Aa ma ca xs hW Hma.out hna hca)
  have C4 := Lib.hid (fun W (hW : Il W Aa xs) => spec_RulesWithout_c W Aa ma ca xs hW Hma.out hna hca)
  have hrl := rwV_len xs
  obtain ⟨MV, hMV⟩ : ∃ x, mcV xs = x := ⟨_, rfl⟩
  rw [hMV] at C1 C2
  have GMV := Lib.hid hMV
  clear hMV
  obtain ⟨RW, hRW⟩ : ∃ x, rwV xs = x := ⟨_, rfl⟩
  rw [hRW] at C3 C4 hrl
  have GRW := Lib.hid hRW
  clear hRW
  obtain ⟨PO, hPO⟩ : ∃ x, gpP xs = x := ⟨_, rfl⟩
  rw [hPO] at C1 C2 C3 C4
  have GPO := Lib.hid hPO
  clear hPO
  obtain ⟨LR, hLR⟩ : ∃ l, RW.length = l := ⟨_, rfl⟩
  rw [hLR] at hrl
  have HLR := Lib.hid hLR
  clear hLR
  go_wp2_with fail
  refine (C1.out _ HA).mono ?_
  rintro e z1 ⟨rfl, a1⟩
  replace BB := BB.trans (a1.mono BB.size)
  have HA := HA.below a1
  clear a1
  go_wp2_with fail
  refine (C2.out _ HA).mono ?_
  rintro e z2 ⟨rfl, a2⟩
  replace BB := BB.trans (a2.mono BB.size)
  have HA := HA.below a2
  clear a2
  go_wp2_with fail
  refine (C3.out _ HA).mono ?_
  rintro e zP ⟨⟨vP, rfl, oP⟩, aP⟩
  replace BB := BB.trans (aP.mono BB.size)
  have HA := HA.below aP
  obtain ⟨AP, cP, rfl⟩ := OwnR.shape oP
  have HP := Rl_of_own oP rfl
  rw [HLR.out]
  clear oP aP
  go_wp2_with fail
  refine (C4.out _ HA).mono ?_
  rintro e zQ ⟨⟨vQ, rfl, oQ⟩, aQ⟩
  replace BB := BB.trans (aQ.mono BB.size)
  have HP := HP.below aQ
  have HA := HA.below aQ
  obtain ⟨AQ, cQ, rfl⟩ := OwnR.shape oQ
  have HQ := Rl_of_own oQ rfl
  rw [HLR.out]
  clear oQ aQ
  clear C1 C2 C3 C4
  rename (∀ (a : Act) (w : World), Code.wp _ _ _ a w → _) => hKK
  refine cut_k hKK (fun a' w' => Below w.heap.size w w' ∧ a'.defers = [] ∧ a'.tmps.size = 341 ∧ a'.tmps.getD 1 undef = .slice AB nB cB) ?main ?tail
  case main =>
    as_aux_lemma =>
      intro hK3
      clear hKK
      go_wp2_with fail
      intro K2 hR2 K1 hx1
      go_wp2_with fail
      refine (tRules_c AP AQ LR LR cP cQ RW _ HP HQ HLR.out.symm HLR.out.symm (by omega)).mono ?_
      rintro e ztr ⟨rfl, atr⟩
      replace BB := BB.trans (atr.mono BB.size)
      have HP := HP.below atr
      have HA := HA.below atr
      clear atr
      clear HQ
      cases hpo : PO with
      | false =>
        subst hpo
        clear HP HA
        go_wp2
        all_goals exact ⟨BB, rfl, rfl, rfl⟩
      | true =>
        have hg := GPO.out.trans hpo
        subst hpo
        obtain ⟨M, rr, K, e1, h39, ⟨f1, f2⟩, ⟨i1, i2⟩, ⟨n1, n2⟩, ⟨q1, q2, q3⟩, e2, hrun, hnil⟩ := cf_one hg
        obtain rfl : MV = (M : Int) := by rw [← GMV.out, e1]
        obtain rfl : RW = ruL xs := by rw [← GRW.out, e2]
        obtain rfl : ma = LR := by rw [← HLR.out, ruL_len]; exact Hma.out
        have HCe : Hid (∀ k, k < ma → evL (chR xs rr) k = ivL xs k) := Lib.hid fun k hk => (chR_ev rr (by rw [← Hma.out]; exact hk)).1
        have HPe : Hid (∀ k, k < ma → evL (ruL xs) k = ivL xs k ∧ reL (ruL xs) k = 0) := Lib.hid fun k hk => ruL_get (by rw [← Hma.out]; exact hk)
        have HLc : Hid ((chR xs rr).length = ma) := Lib.hid (by rw [chR_len]; exact Hma.out.symm)
        obtain ⟨CO, hCO⟩ : ∃ x, chR xs rr = x := ⟨_, rfl⟩
        rw [hCO] at f2 i1 i2 HCe HLc
        have D1 := Lib.hid (fun W (hW : Il W Aa xs) => impl_FirstCover_c W Aa ma ca xs hW Hma.out hna hca (M : Int))
        have D2 := Lib.hid (fun W (hW : Il W Aa xs) => impl_FirstCover_c W Aa ma ca xs hW Hma.out hna hca ((M : Int) + 1))
        have D3 := Lib.hid (fun W (hW : Il W Aa xs) => impl_CountCovers_c W Aa ma ca xs hW Hma.out hna hca (M : Int))
        rw [f1, f2] at D1
        rw [n1, n2] at D2
        rw [q1, q3] at D3
        have D4 := Lib.hid (fun W A c (hW : Rl W A CO) => impl_IsCover_c W A ma c CO hW HLc.out.symm hna (M : Int))
        rw [i1, i2] at D4
        have Hrun := Lib.hid (fun (h0 : 0 < ma) => hrun (by rw [← Hma.out]; exact h0))
        have Hnil := Lib.hid (fun (h0 : ma = 0) => hnil (by rw [← Hma.out]; exact h0))
        have hwM : IntKind.i64.wrap ((M : Int) + 1) = (M : Int) + 1 := IntWalk.i64_in _ (by omega)
        have hM4 : decide ((M : Int) < 40) = true := decide_eq_true (by omega)
        have hM4n : decide (M < 40) = true := decide_eq_true (by omega)
        have hM4i : (M : Int) < 40 := by omega
        have hK1 : decide (K < 1) = false := decide_eq_false (by omega)
        have hK1i : ¬ K < 1 := by omega
        have Lna : ([] : List (Int × Int)).length = 0 := rfl
        clear hCO f1 f2 i1 i2 n1 n2 q1 q2 q3 e1 e2 hrun hnil hg GMV GRW GPO h39
        skip
        go_wp2_with fail
        refine (D1.out _ HA).mono ?_
        rintro e zC ⟨⟨vC, rfl, oC⟩, aC⟩
        replace BB := BB.trans (aC.mono BB.size)
        have HP := HP.below aC
        have HA := HA.below aC
        obtain ⟨AC, cC, rfl⟩ := OwnR.shape oC
        have HC := Rl_of_own oC rfl
        rw [HLc.out]
        clear oC aC
        skip
        go_wp2_with fail
        refine (D2.out _ HA).mono ?_
        rintro e zE ⟨⟨vE, rfl, oE⟩, aE⟩
        replace BB := BB.trans (aE.mono BB.size)
        have HP := HP.below aE
        have HC := HC.below aE
        have HA := HA.below aE
        obtain ⟨AE, cE, rfl⟩ := OwnR.shape oE
        have HE := Rl_of_own oE rfl
        rw [Lna]
        clear oE aE
        skip
        go_wp2_with fail
        refine (D3.out _ HA).mono ?_
        rintro e zd3 ⟨rfl, ad3⟩
        replace BB := BB.trans (ad3.mono BB.size)
        have HP := HP.below ad3
        have HC := HC.below ad3
        have HA := HA.below ad3
        clear ad3
        go_wp2_with fail
        refine (D4.out _ AC cC HC).mono ?_
        rintro e zd4 ⟨rfl, ad4⟩
        replace BB := BB.trans (ad4.mono BB.size)
        have HP := HP.below ad4
        have HC := HC.below ad4
        have HA := HA.below ad4
        clear ad4
        clear D1 D2 D3 D4 HE Lna
        by_cases hm0 : ma = 0
        · obtain rfl : M = 0 := Hnil.out hm0
          have g1 : decide ((0 : Int) < (ma : Int)) = false := decide_eq_false (by omega)
          have g2 : decide (0 < ma) = false := decide_eq_false (by omega)
          have g3 : ¬ (0 : Int) < (ma : Int) := by omega
          clear Hrun Hnil hm0 hM4 hM4n hM4i hwM
          go_wp2
          clear g1 g2 g3 hK1 hK1i
          go_loopw [174] (fun i wr => ∃ k : Nat, k ≤ ma ∧ i = .int .i64 (k : Int) ∧ Below w.heap.size w wr ∧ Rl wr AP (ruL xs) ∧ Rl wr AC CO ∧ Il wr Aa xs) (fun i _ => ma - (intOf i).toNat)
          case atStart => exact ⟨0, Nat.zero_le _, rfl, BB, HP, HC, HA⟩
          case round =>
            clear BB HP HC HA
            obtain ⟨k, hk, rfl, BB, HP, HC, HX⟩ := hrel
            by_cases hlt : k < ma
            · have hki : decide ((k : Int) < (ma : Int)) = true := decide_eq_true (by omega)
              have hki2 : (k : Int) < (ma : Int) := by omega
              have hki3 : decide (k < ma) = true := decide_eq_true (by omega)
              have hk00 : (0 : Int) ≤ (k : Int) := by omega
              have hwk : IntKind.i64.wrap ((k : Int) + 1) = (k : Int) + 1 := IntWalk.i64_in _ (by omega)
              have HXk : Hid (∀ V, Below wr.heap.size wr V → Il V Aa xs) := Lib.hid fun V hB => HX.below hB
              have HPk : Hid (∀ V, Below wr.heap.size wr V → Rl V AP (ruL xs)) := Lib.hid fun V hB => HP.below hB
              have HCk : Hid (∀ V, Below wr.heap.size wr V → Rl V AC CO) := Lib.hid fun V hB => HC.below hB
              have e1 := HCe.out k hlt
              obtain ⟨e2, e3⟩ := HPe.out k hlt
              obtain ⟨bp, op, rfl, hbp, hrp⟩ := HP (by rw [HLR.out]; omega)
              obtain ⟨bc, oc, rfl, hbc, hrc⟩ := HC (by rw [HLc.out]; omega)
              obtain ⟨bx, ox, hxe, hbx, hrx⟩ := HX (by rw [← Hma.out]; omega)
              obtain ⟨p0, p1⟩ := hrp k (by rw [HLR.out]; exact hlt)
              obtain ⟨c0, c1⟩ := hrc k (by rw [HLc.out]; exact hlt)
              have x0 := hrx k (by rw [← Hma.out]; exact hlt)
              rw [e2] at p0
              rw [e3] at p1
              rw [e1] at c0
              obtain ⟨P, hP⟩ : ∃ x, ivL xs k = x := ⟨_, rfl⟩
              obtain ⟨R, hR⟩ : ∃ x, reL CO k = x := ⟨_, rfl⟩
              rw [hP] at p0 c0 x0
              rw [hR] at c1
              have hs := BB.size
              subst hxe
              clear hrp hrc hrx e1 e2 e3 hP hR HX
              go_wp2_with fail
              go_quiet (fail)
              have B9 := below_drewN (BB.alloc hs (.cells #[.int .i64 P, .int .i64 R] 38)) nq
              have L9 := below_drewN ((Below.refl wr.heap.size wr).alloc (Nat.le_refl _) (.cells #[.int .i64 P, .int .i64 R] 38)) nq
              have H1 := HPk.out _ L9
              have H2 := HCk.out _ L9
              have H3 := HXk.out _ L9
              go_wp2
              go_roundw
              case rel => exact ⟨k + 1, hlt, by go_num, B9, H1, H2, H3⟩
              case measure => simp [intOf]; omega
            · have hki : decide ((k : Int) < (ma : Int)) = false := decide_eq_false (by omega)
              have hki2 : ¬ (k : Int) < (ma : Int) := by omega
              have hki3 : decide (k < ma) = false := decide_eq_false (by omega)
              clear HP HC HX HCe HPe
              go_wp2
              all_goals exact ⟨BB, rfl, rfl, rfl⟩
        · obtain ⟨u1, u2⟩ := Hrun.out (by omega)
          have D5 := Lib.hid (fun W A c (hW : Rl W A (ruL xs)) => impl_LongestRunOut_c W A ma c (ruL xs) hW HLR.out.symm hna)
          rw [u1, u2] at D5
          have g1 : decide ((0 : Int) < (ma : Int)) = true := decide_eq_true (by omega)
          have g2 : decide (0 < ma) = true := decide_eq_true (by omega)
          have g3 : (0 : Int) < (ma : Int) := by omega
          clear Hrun Hnil hm0 u1 u2
          go_wp2_with fail
          refine (D5.out _ AP cP HP).mono ?_
          rintro e zd5 ⟨rfl, ad5⟩
          replace BB := BB.trans (ad5.mono BB.size)
          have HP := HP.below ad5
          have HC := HC.below ad5
          have HA := HA.below ad5
          clear ad5
          clear D5
          go_wp2
          clear g1 g2 g3 hM4 hM4n hM4i hwM hK1 hK1i
          go_loopw [174] (fun i wr => ∃ k : Nat, k ≤ ma ∧ i = .int .i64 (k : Int) ∧ Below w.heap.size w wr ∧ Rl wr AP (ruL xs) ∧ Rl wr AC CO ∧ Il wr Aa xs) (fun i _ => ma - (intOf i).toNat)
          case atStart => exact ⟨0, Nat.zero_le _, rfl, BB, HP, HC, HA⟩
          case round =>
            clear BB HP HC HA
            obtain ⟨k, hk, rfl, BB, HP, HC, HX⟩ := hrel
            by_cases hlt : k < ma
            · have hki : decide ((k : Int) < (ma : Int)) = true := decide_eq_true (by omega)
              have hki2 : (k : Int) < (ma : Int) := by omega
              have hki3 : decide (k < ma) = true := decide_eq_true (by omega)
              have hk00 : (0 : Int) ≤ (k : Int) := by omega
              have hwk : IntKind.i64.wrap ((k : Int) + 1) = (k : Int) + 1 := IntWalk.i64_in _ (by omega)
              have HXk : Hid (∀ V, Below wr.heap.size wr V → Il V Aa xs) := Lib.hid fun V hB => HX.below hB
              have HPk : Hid (∀ V, Below wr.heap.size wr V → Rl V AP (ruL xs)) := Lib.hid fun V hB => HP.below hB
              have HCk : Hid (∀ V, Below wr.heap.size wr V → Rl V AC CO) := Lib.hid fun V hB => HC.below hB
              have e1 := HCe.out k hlt
              obtain ⟨e2, e3⟩ := HPe.out k hlt
              obtain ⟨bp, op, rfl, hbp, hrp⟩ := HP (by rw [HLR.out]; omega)
              obtain ⟨bc, oc, rfl, hbc, hrc⟩ := HC (by rw [HLc.out]; omega)
              obtain ⟨bx, ox, hxe, hbx, hrx⟩ := HX (by rw [← Hma.out]; omega)
              obtain ⟨p0, p1⟩ := hrp k (by rw [HLR.out]; exact hlt)
              obtain ⟨c0, c1⟩ := hrc k (by rw [HLc.out]; exact hlt)
              have x0 := hrx k (by rw [← Hma.out]; exact hlt)
              rw [e2] at p0
              rw [e3] at p1
              rw [e1] at c0
              obtain ⟨P, hP⟩ : ∃ x, ivL xs k = x := ⟨_, rfl⟩
              obtain ⟨R, hR⟩ : ∃ x, reL CO k = x := ⟨_, rfl⟩
              rw [hP] at p0 c0 x0
              rw [hR] at c1
              have hs := BB.size
              subst hxe
              clear hrp hrc hrx e1 e2 e3 hP hR HX
              go_wp2_with fail
              go_quiet (fail)
              have B9 := below_drewN (BB.alloc hs (.cells #[.int .i64 P, .int .i64 R] 38)) nq
              have L9 := below_drewN ((Below.refl wr.heap.size wr).alloc (Nat.le_refl _) (.cells #[.int .i64 P, .int .i64 R] 38)) nq
              have H1 := HPk.out _ L9
              have H2 := HCk.out _ L9
              have H3 := HXk.out _ L9
              go_wp2
              go_roundw
              case rel => exact ⟨k + 1, hlt, by go_num, B9, H1, H2, H3⟩
              case measure => simp [intOf]; omega
            · have hki : decide ((k : Int) < (ma : Int)) = false := decide_eq_false (by omega)
              have hki2 : ¬ (k : Int) < (ma : Int) := by omega
              have hki3 : decide (k < ma) = false := decide_eq_false (by omega)
              clear HP HC HX HCe HPe
              go_wp2
              all_goals exact ⟨BB, rfl, rfl, rfl⟩
  case tail =>
    as_aux_lemma =>
    clear hKK BB HP HQ HA HLR hrl GMV GRW GPO
    rintro a' w' ⟨BB, hd, hs, k1⟩
    obtain ⟨u, hu⟩ : ∃ u : Nat → Value, ∀ i, a'.tmps.getD i undef = u i := ⟨_, fun _ => rfl⟩
    have ha := act_by a' 341 hd hs (fun i => if i = 1 then .slice AB nB cB else u i) (fun i hi => by
      by_cases e1 : i = 1
      · subst e1; exact k1
      rw [if_neg e1]
      exact hu i)
    replace ha : a' = ⟨#[u 0, .slice AB nB cB, u 2, u 3, u 4, u 5, u 6, u 7, u 8, u 9, u 10, u 11, u 12, u 13, u 14, u 15, u 16, u 17, u 18, u 19, u 20, u 21, u 22, u 23, u 24, u 25, u 26, u 27, u 28, u 29, u 30, u 31, u 32, u 33, u 34, u 35, u 36, u 37, u 38, u 39, u 40, u 41, u 42, u 43, u 44, u 45, u 46, u 47, u 48, u 49, u 50, u 51, u 52, u 53, u 54, u 55, u 56, u 57, u 58, u 59, u 60, u 61, u 62, u 63, u 64, u 65, u 66, u 67, u 68, u 69, u 70, u 71, u 72, u 73, u 74, u 75, u 76, u 77, u 78, u 79, u 80, u 81, u 82, u 83, u 84, u 85, u 86, u 87, u 88, u 89, u 90, u 91, u 92, u 93, u 94, u 95, u 96, u 97, u 98, u 99, u 100, u 101, u 102, u 103, u 104, u 105, u 106, u 107, u 108, u 109, u 110, u 111, u 112, u 113, u 114, u 115, u 116, u 117, u 118, u 119, u 120, u 121, u 122, u 123, u 124, u 125, u 126, u 127, u 128, u 129, u 130, u 131, u 132, u 133, u 134, u 135, u 136, u 137, u 138, u 139, u 140, u 141, u 142, u 143, u 144, u 145, u 146, u 147, u 148, u 149, u 150, u 151, u 152, u 153, u 154, u 155, u 156, u 157, u 158, u 159, u 160, u 161, u 162, u 163, u 164, u 165, u 166, u 167, u 168, u 169, u 170, u 171, u 172, u 173, u 174, u 175, u 176, u 177, u 178, u 179, u 180, u 181, u 182, u 183, u 184, u 185, u 186, u 187, u 188, u 189, u 190, u 191, u 192, u 193, u 194, u 195, u 196, u 197, u 198, u 199, u 200, u 201, u 202, u 203, u 204, u 205, u 206, u 207, u 208, u 209, u 210, u 211, u 212, u 213, u 214, u 215, u 216, u 217, u 218, u 219, u 220, u 221, u 222, u 223, u 224, u 225, u 226, u 227, u 228, u 229, u 230, u 231, u 232, u 233, u 234, u 235, u 236, u 237, u 238, u 239, u 240, u 241, u 242, u 243, u 244, u 245, u 246, u 247, u 248, u 249, u 250, u 251, u 252, u 253, u 254, u 255, u 256, u 257, u 258, u 259, u 260, u 261, u 262, u 263, u 264, u 265, u 266, u 267, u 268, u 269, u 270, u 271, u 272, u 273, u 274, u 275, u 276, u 277, u 278, u 279, u 280, u 281, u 282, u 283, u 284, u 285, u 286, u 287, u 288, u 289, u 290, u 291, u 292, u 293, u 294, u 295, u 296, u 297, u 298, u 299, u 300, u 301, u 302, u 303, u 304, u 305, u 306, u 307, u 308, u 309, u 310, u 311, u 312, u 313, u 314, u 315, u 316, u 317, u 318, u 319, u 320, u 321, u 322, u 323, u 324, u 325, u 326, u 327, u 328, u 329, u 330, u 331, u 332, u 333, u 334, u 335, u 336, u 337, u 338, u 339, u 340], []⟩ := ha.trans (by kernel_rfl)
    subst ha
    clear hu hd hs k1
    repeat (rename_i x; clear x)
    go_wp2_with fail
    refine (DrawFirstCover_c _ AB nB cB ((YB.out.below BB).mono BB.size) (by omega)).mono ?_
    rintro e wq1 ⟨⟨vq1, ys, aln, rfl, oq1, hq201⟩, dq1⟩
    replace BB := BB.trans (dq1.mono BB.size)
    obtain ⟨Ab, cb, rfl⟩ := oq1.shape
    have hcb := (OwnI.cap oq1).1
    have HB := Il_of_own oq1
    obtain ⟨mb, hmb⟩ : ∃ l, ys.length = l := ⟨_, rfl⟩
    rw [hmb] at hcb hq201 ⊢
    have Hmb : Hid (mb = ys.length) := Lib.hid hmb.symm
    have hnb : mb ≤ 1048576 := by omega
    clear oq1 hmb dq1
    have F1 := Lib.hid (fun W (hW : Il W Ab ys) => impl_FirstCover_c W Ab mb cb ys hW Hmb.out hnb hcb aln)
    have F2 := Lib.hid (fun W (hW : Il W Ab ys) => spec_FirstCover_c W Ab mb cb ys hW Hmb.out hnb hcb aln)
    have F3 := Lib.hid (fun W (hW : Il W Ab ys) => impl_CountCovers_c W Ab mb cb ys hW Hmb.out hnb hcb aln)
    have F4 := Lib.hid (fun W (hW : Il W Ab ys) => spec_CountCovers_c W Ab mb cb ys hW Hmb.out hnb hcb aln)
    have hfl : (fcV ys aln).length ≤ 5 := fcV_len
    obtain ⟨FV, hFV⟩ : ∃ x, fcV ys aln = x := ⟨_, rfl⟩
    rw [hFV] at F1 F2 hfl
    have GFV := Lib.hid hFV
    clear hFV
    obtain ⟨FO, hFO⟩ : ∃ x, fcO ys aln = x := ⟨_, rfl⟩
    rw [hFO] at F1 F2
    have GFO := Lib.hid hFO
    clear hFO
    obtain ⟨KV, hKV⟩ : ∃ x, ccvV ys aln = x := ⟨_, rfl⟩
    rw [hKV] at F3 F4
    have GKV := Lib.hid hKV
    clear hKV
    obtain ⟨QO, hQO⟩ : ∃ x, gqO ys aln = x := ⟨_, rfl⟩
    rw [hQO] at F3 F4
    have GQO := Lib.hid hQO
    clear hQO
    obtain ⟨LF, hLF⟩ : ∃ l, FV.length = l := ⟨_, rfl⟩
    rw [hLF] at hfl
    have HLF := Lib.hid hLF
    clear hLF
    go_wp2_with fail
    refine (F1.out _ HB).mono ?_
    rintro e zU ⟨⟨vU, rfl, oU⟩, aU⟩
    replace BB := BB.trans (aU.mono BB.size)
    have HB := HB.below aU
    obtain ⟨AU, cU, rfl⟩ := OwnR.shape oU
    have HU := Rl_of_own oU rfl
    rw [HLF.out]
    clear oU aU
    go_wp2_with fail
    refine (F2.out _ HB).mono ?_
    rintro e zV ⟨⟨vV, rfl, oV⟩, aV⟩
    replace BB := BB.trans (aV.mono BB.size)
    have HU := HU.below aV
    have HB := HB.below aV
    obtain ⟨AV, cV, rfl⟩ := OwnR.shape oV
    have HV := Rl_of_own oV rfl
    rw [HLF.out]
    clear oV aV
    go_wp2_with fail
    refine (F3.out _ HB).mono ?_
    rintro e zf3 ⟨rfl, af3⟩
    replace BB := BB.trans (af3.mono BB.size)
    have HU := HU.below af3
    have HV := HV.below af3
    have HB := HB.below af3
    clear af3
    go_wp2_with fail
    refine (F4.out _ HB).mono ?_
    rintro e zf4 ⟨rfl, af4⟩
    replace BB := BB.trans (af4.mono BB.size)
    have HU := HU.below af4
    have HV := HV.below af4
    have HB := HB.below af4
    clear af4
    clear F1 F2 F3 F4
    go_wp2_with fail
    refine (DrawIsCover_c _ AB nB cB ((YB.out.below BB).mono BB.size) (by omega)).mono ?_
    rintro e wq2 ⟨⟨vq2, rs, al, rfl, oq2, hq202⟩, dq2⟩
    replace BB := BB.trans (dq2.mono BB.size)
    have HU := HU.below dq2
    have HV := HV.below dq2
    have HB := HB.below dq2
    obtain ⟨Ar, cr, rfl⟩ := OwnR.shape oq2
    have HL := Rl_of_own oq2 rfl
    obtain ⟨mr, hmr⟩ : ∃ l, rs.length = l := ⟨_, rfl⟩
    rw [hmr] at hq202 ⊢
    have Hmr : Hid (mr = rs.length) := Lib.hid hmr.symm
    have hnr : mr ≤ 1048576 := by omega
    clear oq2 hmr dq2
    have F5 := Lib.hid (fun W (hW : Rl W Ar rs) => impl_IsCover_c W Ar mr cr rs hW Hmr.out hnr al)
    have F6 := Lib.hid (fun W (hW : Rl W Ar rs) => spec_IsCover_c W Ar mr cr rs hW Hmr.out hnr al)
    obtain ⟨IV, hIV⟩ : ∃ x, icV rs al = x := ⟨_, rfl⟩
    rw [hIV] at F5 F6
    have GIV := Lib.hid hIV
    clear hIV
    obtain ⟨IO, hIO⟩ : ∃ x, icO rs al = x := ⟨_, rfl⟩
    rw [hIO] at F5 F6
    have GIO := Lib.hid hIO
    clear hIO
    go_wp2_with fail
    refine (F5.out _ HL).mono ?_
    rintro e zf5 ⟨rfl, af5⟩
    replace BB := BB.trans (af5.mono BB.size)
    have HU := HU.below af5
    have HV := HV.below af5
    have HB := HB.below af5
    have HL := HL.below af5
    clear af5
    go_wp2_with fail
    refine (F6.out _ HL).mono ?_
    rintro e zf6 ⟨rfl, af6⟩
    replace BB := BB.trans (af6.mono BB.size)
    have HU := HU.below af6
    have HV := HV.below af6
    have HB := HB.below af6
    have HL := HL.below af6
    clear af6
    clear F5 F6
    rename (∀ (a : Act) (w : World), Code.wp _ _ _ a w → _) => hKK
    refine cut_k hKK (fun a' w' => Below w.heap.size w w' ∧ Rl w' Ar rs ∧ a'.defers = [] ∧ a'.tmps.size = 341 ∧ a'.tmps.getD 36 undef = .slice Ar mr cr ∧ a'.tmps.getD 37 undef = .int .i64 al ∧ a'.tmps.getD 38 undef = .bool IV ∧ a'.tmps.getD 39 undef = .bool IO) ?main ?tail
    case main =>
      as_aux_lemma =>
        intro hK3
        clear hKK
        go_wp2_with fail
        intro K2 hR2 K1 hx1
        go_wp2_with fail
        refine (tRules_c AU AV LF LF cU cV FV _ HU HV HLF.out.symm HLF.out.symm (by omega)).mono ?_
        rintro e zt2 ⟨rfl, at2⟩
        replace BB := BB.trans (at2.mono BB.size)
        have HU := HU.below at2
        have HB := HB.below at2
        have HL := HL.below at2
        clear at2
        clear HV
        cases hqo : QO with
        | false =>
          obtain ⟨n1, n2⟩ := cf_not (GQO.out.trans hqo)
          obtain rfl : FO = false := by rw [← GFO.out]; exact n1
          obtain rfl : KV = 0 := by rw [← GKV.out]; exact n2
          subst hqo
          clear HU HB GFV GFO GKV GQO n1 n2
          go_wp2
          all_goals exact ⟨BB, HL, rfl, rfl, rfl, rfl, rfl, rfl⟩
        | true =>
          obtain ⟨N, K, rfl, hN4, k1, k2, k3, k4⟩ := cf_two (GQO.out.trans hqo)
          subst hqo
          obtain rfl : KV = (K : Int) := by rw [← GKV.out]; exact k1
          obtain rfl : FO = decide (0 < K) := by rw [← GFO.out]; exact k2
          clear k1 k2 GQO GKV GFO
          by_cases hK : 0 < K
          rotate_left
          · rw [decide_eq_false hK]
            have g1 : decide ((0 : Int) < (K : Int)) = false := decide_eq_false (by omega)
            have g2 : decide (0 < K) = false := decide_eq_false (by omega)
            have g3 : ¬ (0 : Int) < (K : Int) := by omega
            clear hK k3 k4 HU HB
            go_wp2
            all_goals exact ⟨BB, HL, rfl, rfl, rfl, rfl, rfl, rfl⟩
          rw [decide_eq_true hK]
          obtain ⟨rr, v1, v2, v3⟩ := k3 hK
          obtain rfl : FV = chR ys rr := by rw [← GFV.out]; exact v1
          obtain rfl : mb = LF := by rw [← HLF.out, chR_len]; exact Hmb.out
          have G1 := Lib.hid (fun W A c (hW : Rl W A (chR ys rr)) => impl_IsCover_c W A mb c (chR ys rr) hW HLF.out.symm hnb (N : Int))
          rw [v2, v3] at G1
          have g1 : decide ((0 : Int) < (K : Int)) = true := decide_eq_true (by omega)
          have g2 : decide (0 < K) = true := decide_eq_true (by omega)
          have g3 : (0 : Int) < (K : Int) := by omega
          clear k3 v1 v2 v3 GFV
          go_wp2_with fail
          refine (G1.out _ AU cU HU).mono ?_
          rintro e zg1 ⟨rfl, ag1⟩
          replace BB := BB.trans (ag1.mono BB.size)
          have HB := HB.below ag1
          have HL := HL.below ag1
          clear ag1
          skip
          clear G1 HU
          by_cases hN0 : 0 < N
          · obtain ⟨K2, w1, w2, w3⟩ := k4 hN0
            have G2 := Lib.hid (fun W (hW : Il W Ab ys) => impl_CountCovers_c W Ab mb cb ys hW Hmb.out hnb hcb ((N : Int) - 1))
            rw [w1, w3] at G2
            have p1 : decide ((0 : Int) < (N : Int)) = true := decide_eq_true (by omega)
            have p2 : decide (0 < N) = true := decide_eq_true (by omega)
            have p3 : (0 : Int) < (N : Int) := by omega
            have hwN : IntKind.i64.wrap ((N : Int) - 1) = (N : Int) - 1 := IntWalk.i64_in _ (by omega)
            have p4 : decide ((K2 : Int) < (K : Int)) = false := decide_eq_false (by omega)
            have p5 : decide (K2 < K) = false := decide_eq_false (by omega)
            have p6 : ¬ (K2 : Int) < (K : Int) := by omega
            clear k4 w1 w2 w3 hN0 hK
            go_wp2_with fail
            refine (G2.out _ HB).mono ?_
            rintro e zg2 ⟨rfl, ag2⟩
            replace BB := BB.trans (ag2.mono BB.size)
            have HL := HL.below ag2
            clear ag2
            clear G2
            go_wp2
            all_goals exact ⟨BB, HL, rfl, rfl, rfl, rfl, rfl, rfl⟩
          · have p1 : decide ((0 : Int) < (N : Int)) = false := decide_eq_false (by omega)
            have p2 : decide (0 < N) = false := decide_eq_false (by omega)
            have p3 : ¬ (0 : Int) < (N : Int) := by omega
            clear k4 hN0 hK
            go_wp2
            all_goals exact ⟨BB, HL, rfl, rfl, rfl, rfl, rfl, rfl⟩
    case tail =>
      as_aux_lemma =>
      clear hKK BB HU HV HB HL HLF hfl GFV GFO GKV GQO
      rintro a' w' ⟨BB, HL, hd, hs, k36, k37, k38, k39⟩
      obtain ⟨u, hu⟩ : ∃ u : Nat → Value, ∀ i, a'.tmps.getD i undef = u i := ⟨_, fun _ => rfl⟩
      have ha := act_by a' 341 hd hs (fun i => if i = 36 then .slice Ar mr cr else if i = 37 then .int .i64 al else if i = 38 then .bool IV else if i = 39 then .bool IO else u i) (fun i hi => by
        by_cases e36 : i = 36
        · subst e36; exact k36
        rw [if_neg e36]
        by_cases e37 : i = 37
        · subst e37; exact k37
        rw [if_neg e37]
        by_cases e38 : i = 38
        · subst e38; exact k38
        rw [if_neg e38]
        by_cases e39 : i = 39
        · subst e39; exact k39
        rw [if_neg e39]
        exact hu i)
      replace ha : a' = ⟨#[u 0, u 1, u 2, u 3, u 4, u 5, u 6, u 7, u 8, u 9, u 10, u 11, u 12, u 13, u 14, u 15, u 16, u 17, u 18, u 19, u 20, u 21, u 22, u 23, u 24, u 25, u 26, u 27, u 28, u 29, u 30, u 31, u 32, u 33, u 34, u 35, .slice Ar mr cr, .int .i64 al, .bool IV, .bool IO, u 40, u 41, u 42, u 43, u 44, u 45, u 46, u 47, u 48, u 49, u 50, u 51, u 52, u 53, u 54, u 55, u 56, u 57, u 58, u 59, u 60, u 61, u 62, u 63, u 64, u 65, u 66, u 67, u 68, u 69, u 70, u 71, u 72, u 73, u 74, u 75, u 76, u 77, u 78, u 79, u 80, u 81, u 82, u 83, u 84, u 85, u 86, u 87, u 88, u 89, u 90, u 91, u 92, u 93, u 94, u 95, u 96, u 97, u 98, u 99, u 100, u 101, u 102, u 103, u 104, u 105, u 106, u 107, u 108, u 109, u 110, u 111, u 112, u 113, u 114, u 115, u 116, u 117, u 118, u 119, u 120, u 121, u 122, u 123, u 124, u 125, u 126, u 127, u 128, u 129, u 130, u 131, u 132, u 133, u 134, u 135, u 136, u 137, u 138, u 139, u 140, u 141, u 142, u 143, u 144, u 145, u 146, u 147, u 148, u 149, u 150, u 151, u 152, u 153, u 154, u 155, u 156, u 157, u 158, u 159, u 160, u 161, u 162, u 163, u 164, u 165, u 166, u 167, u 168, u 169, u 170, u 171, u 172, u 173, u 174, u 175, u 176, u 177, u 178, u 179, u 180, u 181, u 182, u 183, u 184, u 185, u 186, u 187, u 188, u 189, u 190, u 191, u 192, u 193, u 194, u 195, u 196, u 197, u 198, u 199, u 200, u 201, u 202, u 203, u 204, u 205, u 206, u 207, u 208, u 209, u 210, u 211, u 212, u 213, u 214, u 215, u 216, u 217, u 218, u 219, u 220, u 221, u 222, u 223, u 224, u 225, u 226, u 227, u 228, u 229, u 230, u 231, u 232, u 233, u 234, u 235, u 236, u 237, u 238, u 239, u 240, u 241, u 242, u 243, u 244, u 245, u 246, u 247, u 248, u 249, u 250, u 251, u 252, u 253, u 254, u 255, u 256, u 257, u 258, u 259, u 260, u 261, u 262, u 263, u 264, u 265, u 266, u 267, u 268, u 269, u 270, u 271, u 272, u 273, u 274, u 275, u 276, u 277, u 278, u 279, u 280, u 281, u 282, u 283, u 284, u 285, u 286, u 287, u 288, u 289, u 290, u 291, u 292, u 293, u 294, u 295, u 296, u 297, u 298, u 299, u 300, u 301, u 302, u 303, u 304, u 305, u 306, u 307, u 308, u 309, u 310, u 311, u 312, u 313, u 314, u 315, u 316, u 317, u 318, u 319, u 320, u 321, u 322, u 323, u 324, u 325, u 326, u 327, u 328, u 329, u 330, u 331, u 332, u 333, u 334, u 335, u 336, u 337, u 338, u 339, u 340], []⟩ := ha.trans (by kernel_rfl)
      subst ha
      clear hu hd hs k36 k37 k38 k39
      repeat (rename_i x; clear x)
      cases hio : IO with
      | false =>
        subst hio
        clear GIV GIO
        go_wp2
        go_ret
        exact ⟨rfl, BB⟩
      | true =>
        obtain ⟨c, o1, o2, o3⟩ := cf_three (GIO.out.trans hio)
        subst hio
        have Hc := Lib.hid (fun W (hW : Rl W Ar rs) => impl_CountLeft_c W Ar mr cr rs hW Hmr.out hnr al)
        rw [o1, o2] at Hc
        obtain rfl : IV = decide (c = 0) := by rw [← GIV.out]; exact o3
        clear GIV GIO o1 o2 o3
        by_cases hc : c = 0
        · rw [decide_eq_true hc]
          have p1 : ((c : Int) == 0) = true := by rw [beq_iff_eq]; omega
          have p2 : decide ((c : Int) = 0) = true := decide_eq_true (by omega)
          have p3 : decide (c = 0) = true := decide_eq_true (by omega)
          clear hc
          go_wp2_with fail
          refine (Hc.out _ HL).mono ?_
          rintro e zh1 ⟨rfl, ah1⟩
          replace BB := BB.trans (ah1.mono BB.size)
          clear ah1
          go_wp2
          go_ret
          exact ⟨rfl, BB⟩
        · rw [decide_eq_false hc]
          have p1 : ((c : Int) == 0) = false := by rw [beq_eq_false_iff_ne]; omega
          have p2 : decide ((c : Int) = 0) = false := decide_eq_false (by omega)
          have p3 : decide (c = 0) = false := decide_eq_false (by omega)
          clear hc
          go_wp2_with fail
          refine (Hc.out _ HL).mono ?_
          rintro e zh1 ⟨rfl, ah1⟩
          replace BB := BB.trans (ah1.mono BB.size)
          clear ah1
          go_wp2
          go_ret
          exact ⟨rfl, BB⟩

set_option maxRecDepth 100000 in
theorem lifted_FnCoversFound (os : Os) (started : os.Started) (H : Type) (enc : TypeId × Value → H) :
    ReturnsInHanded {} Try.checked os 3 .any (Rows.fnCoversFoundSpec.pre6 enc Try.prog Try.f3 Rows.fnCoversFoundRow.domain false) (Rows.fnCoversFoundSpec.post enc Try.prog Try.f3 false true false false) := by
  refine returnsInHanded_of_change (C := Try.checked) own started (by kernel_rfl) Try.func3
    (ChangeSpec.witness6 (enc := enc) (C := Try.checked) false ⟨#[], #[.slice none 0 0, .slice none 0 0], []⟩ 8 (by kernel_rfl) (by kernel_rfl) (by kernel_rfl) (by kernel_rfl)) ?_
  intro W base args ds gs before hval0 hW hcnd _
  have hval : ∀ (j : Nat) t v, Try.f3.params[j]? = some t → args[j]? = some v → Value.okWide Try.prog W .any base t v := hval0
  have hW' := hW
  obtain ⟨p, q, hA0, hV, rfl, hfz, hnd⟩ := hW
  have hA : DataW.TrodAll enc Try.prog W 0 (fun _ => true) true Try.f3.params.toList args.toList ds p := hA0
  rw [Try.params3] at hA hval
  obtain ⟨v0, vs0, d0, ds0, p0, q0, hargs, rfl, rfl, h0, r0⟩ := trodAll_cons hA
  obtain ⟨v1, vs1, d1, ds1, p1, q1, rfl, rfl, rfl, h1, r1⟩ := trodAll_cons r0
  obtain ⟨rfl, rfl, rfl⟩ := trodAll_nil r1
  obtain rfl : args = #[v0, v1] := by cases args; simp_all
  obtain ⟨rfl, rfl⟩ := trodVars_none hV
  have k0 := h0
  have lt0 : ∀ x ∈ p0, x.block < W.heap.size := by obtain ⟨m, hm⟩ := k0; exact DataW.trod_lt m _ _ _ hm
  obtain ⟨A0, n0, c0, rfl, m0, Y0⟩ := open_byt (hval 0 22 v0 rfl rfl) h0
  have k1 := h1
  have lt1 : ∀ x ∈ p1, x.block < W.heap.size := by obtain ⟨m, hm⟩ := k1; exact DataW.trod_lt m _ _ _ hm
  obtain ⟨A1, n1, c1, rfl, m1, Y1⟩ := open_byt (hval 1 22 v1 rfl rfl) h1
  clear hA0 hval0
  refine (walk_FnCoversFound W A0 n0 c0 m0 Y0 A1 n1 c1 m1 Y1).mono fun e W' ⟨he, bel⟩ => ?_
  subst he
  exact ⟨_, rfl, _, _, _, [], _, [], hW', trodAll_mk1 (shut_bool Try.underlying4 _), (trodAll_cons_mk (Below.trod laidOut (by kernel_rfl) (of_decide_eq_true (by kernel_rfl)) k0 bel lt0) (trodAll_cons_mk (Below.trod laidOut (by kernel_rfl) (of_decide_eq_true (by kernel_rfl)) k1 bel lt1) trodAll_mk0)), rfl, bel.frame _, fun h => by cases h⟩

theorem closed_FnCoversFound : joinedFacts Try.prog 3 Try.f3 Rows.fnCoversFoundSpec Rows.fnCoversFoundRow = true := by
  unfold joinedFacts
  rw [head_enters, head_final, head_make]
  kernel_rfl
theorem over_FnCoversFound : Rows.fnCoversFoundRow.holds Try.pinned (OpenSpec.ofChange Rows.fnCoversFoundSpec) :=
  OpenClaim.holds_of_wide 3 Try.f3 rfl rfl rfl rfl rfl rfl rfl ⟨rfl, rfl, rfl, rfl, rfl⟩ rfl rfl rfl rfl rfl (by kernel_rfl) Try.func3 closed_FnCoversFound
    (of_decide_eq_true (by kernel_rfl)) (by unfold Func.isWrapper; first | (rw [if_pos (by decide +kernel)]; kernel_rfl) | (rw [if_neg (by decide +kernel)]; exact ⟨rfl, rfl⟩))
    (fun os started H enc _ => lifted_FnCoversFound os started H enc)

theorem fnCoversFound_holds : Rows.FnCoversFoundSaid := over_FnCoversFound

end Go.Proofs.Ytgkciiklgadgkaa
