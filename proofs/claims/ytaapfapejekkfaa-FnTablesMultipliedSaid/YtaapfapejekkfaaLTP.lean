/- For every two slices of bytes that come in, laws.FnTablesMultiplied returns true. Conditions: none. -/
import Derived.Test.YtaapfapejekkfaaOTM
import Derived.Test.YtaapfapejekkfaaJX
import Derived.Test.YtaapfapejekkfaaY7
import Derived.Test.YtaapfapejekkfaaL0
import Derived.Test.YtaapfapejekkfaaOLM
namespace Go.Proofs.Ytaapfapejekkfaa
open Go.ChangeShapes Go.WideShapes Go.ChangeAt Go.RowKit Go.Deep
set_option maxRecDepth 100000
set_option linter.unusedVariables false
set_option linter.unusedSimpArgs false

set_option maxHeartbeats 40000000 in
theorem walk_FnTablesMultiplied (w : World) (AA : Option Addr) (nA cA : Nat) (mA : nA ≤ 9223372036854775807) (yA : Byt w w.heap.size AA nA) (AB : Option Addr) (nB cB : Nat) (mB : nB ≤ 9223372036854775807) (yB : Byt w w.heap.size AB nB) :
    Calls Try.prog 12 #[.slice AA nA cA, .slice AB nB cB] w fun e w' => e = .returned (.bool true) ∧ Below w.heap.size w w' := by
  have YA := Lib.hid yA
  have YB := Lib.hid yB
  clear yA yB
  by_cases hn : nA + nB ≤ 1048576
  rotate_left
  · go_enter Try.func12, Try.ntmps12
    go_wp2_with fail
    refine (big_c _ AA AB nA cA nB cB mA mB).mono ?_
    rw [decide_eq_false hn]
    rintro e w0 ⟨rfl, rfl⟩
    go_wp2
    go_ret
    exact ⟨rfl, Below.refl _ _⟩
  go_enter Try.func12, Try.ntmps12
  go_wp2_with fail
  refine (big_c _ AA AB nA cA nB cB mA mB).mono ?_
  rw [decide_eq_true hn]
  rintro e w0 ⟨rfl, rfl⟩
  go_wp2_with fail
  refine (DrawOverDivisors_c _ AA nA cA YA.out (by omega)).mono ?_
  rintro e wd ⟨⟨Aa, ma, ca, xs, Ab, mb, cb, ys, rfl, Ia, hma, hma24, Ib, hmb, hmb24⟩, BB0⟩
  have Hma := Lib.hid hma
  have Hmb := Lib.hid hmb
  have hna : ma ≤ 1048576 := by omega
  have hnb : mb ≤ 1048576 := by omega
  have HRa : Hid (∀ W, Below wd.heap.size wd W → Il W Aa xs) := fun W hB => Ia.below hB
  have HRb : Hid (∀ W, Below wd.heap.size wd W → Il W Ab ys) := fun W hB => Ib.below hB
  have BB := Below.refl wd.heap.size wd
  clear Ia Ib hma hmb
  have C1 := Lib.hid (fun W (hW : Il W Aa xs) (hW2 : Il W Ab ys) => impl_OverDivisors_c W Aa ma ca xs hW Hma.out hna Ab mb cb ys hW2 Hmb.out hnb)
  have C2 := Lib.hid (fun W (hW : Il W Aa xs) (hW2 : Il W Ab ys) => spec_OverDivisors_c W Aa ma ca xs hW Hma.out hna Ab mb cb ys hW2 Hmb.out hnb)
  have C3 := Lib.hid (fun W (hW : Il W Aa xs) => impl_IsSpread_c W Aa ma ca xs hW Hma.out hna)
  have C4 := Lib.hid (fun W (hW : Il W Aa xs) => spec_IsSpread_c W Aa ma ca xs hW Hma.out hna)
  have hlo := ovR_len xs ys
  obtain ⟨OV, hOV⟩ : ∃ x, ovR xs ys = x := ⟨_, rfl⟩
  rw [hOV] at C1 C2 hlo
  have GOV := Lib.hid hOV
  clear hOV
  obtain ⟨OO, hOO⟩ : ∃ x, ovO xs ys = x := ⟨_, rfl⟩
  rw [hOO] at C1 C2
  have GOO := Lib.hid hOO
  clear hOO
  obtain ⟨SX, hSX⟩ : ∃ x, isSV xs = x := ⟨_, rfl⟩
  rw [hSX] at C3 C4
  have GSX := Lib.hid hSX
  clear hSX
  obtain ⟨TX, hTX⟩ : ∃ x, tabB xs = x := ⟨_, rfl⟩
  rw [hTX] at C3 C4
  have GTX := Lib.hid hTX
  clear hTX
  obtain ⟨LO, hLO⟩ : ∃ l, OV.length = l := ⟨_, rfl⟩
  rw [hLO] at hlo
  have HLO := Lib.hid hLO
  clear hLO
  go_wp2_with fail
  refine (C1.out _ (HRa.out _ BB) (HRb.out _ BB)).mono ?_
  rintro e z1 ⟨⟨v1, rfl, o1⟩, a1⟩
  replace BB := BB.trans (a1.mono BB.size)
  obtain ⟨AO, cO, rfl⟩ := o1.shape
  have HO := Il_of_own o1
  rw [HLO.out]
  clear o1 a1
  go_wp2_with fail
  refine (C2.out _ (HRa.out _ BB) (HRb.out _ BB)).mono ?_
  rintro e z2 ⟨⟨v2, rfl, o2⟩, a2⟩
  replace BB := BB.trans (a2.mono BB.size)
  have HO := HO.below a2
  obtain ⟨AP, cP, rfl⟩ := o2.shape
  have HP := Il_of_own o2
  rw [HLO.out]
  clear o2 a2
  go_wp2_with fail
  refine (C3.out _ (HRa.out _ BB)).mono ?_
  rintro e z3 ⟨rfl, a3⟩
  replace BB := BB.trans (a3.mono BB.size)
  have HO := HO.below a3
  have HP := HP.below a3
  clear a3
  go_wp2_with fail
  refine (C4.out _ (HRa.out _ BB)).mono ?_
  rintro e z4 ⟨rfl, a4⟩
  replace BB := BB.trans (a4.mono BB.size)
  have HO := HO.below a4
  have HP := HP.below a4
  clear a4
  clear C1 C2 C3 C4
  rename (∀ (a : Act) (w : World), Code.wp _ _ _ a w → _) => hKK
  refine cut_k hKK (fun a' w' => Below w.heap.size w w' ∧ a'.defers = [] ∧ a'.tmps.size = 410 ∧ a'.tmps.getD 1 undef = .slice AB nB cB) ?main ?tail
  case main =>
    intro hK3
    clear hKK
    go_wp2_with fail
    intro K2 hR2 K1 hx1
    go_wp2_with fail
    refine (gSame_c AO AP LO LO cO cP OV _ HO HP HLO.out.symm HLO.out.symm hlo).mono ?_
    rintro e z5 ⟨rfl, a5⟩
    replace BB := BB.trans (a5.mono BB.size)
    have HO := HO.below a5
    have HP := HP.below a5
    clear a5
    clear HP
    cases hoo : OO with
    | false =>
      subst hoo
      go_wp2
      all_goals first | exact ⟨BB0.trans (BB.mono BB0.size), rfl, rfl, rfl⟩ | exact BB0.trans (BB.mono BB0.size)
    | true =>
      have hok := GOO.out.trans hoo
      subst hoo
      obtain ⟨p1, p2, p3, p4, p5, p6, p7⟩ := ov_parts hok
      obtain ⟨q1, q2⟩ := ovO_comm xs ys
      rw [hok] at q1
      rw [GOV.out] at q2 p4 p5 p6
      obtain rfl : TX = true := by rw [← GTX.out]; exact p1
      have D1 := Lib.hid (fun W (hW : Il W Aa xs) (hW2 : Il W Ab ys) => impl_OverDivisors_c W Ab mb cb ys hW2 Hmb.out hnb Aa ma ca xs hW Hma.out hna)
      rw [← q1, ← q2] at D1
      have D2 := Lib.hid (fun W (hW2 : Il W Ab ys) => impl_IsSpread_c W Ab mb cb ys hW2 Hmb.out hnb)
      rw [p2] at D2
      have D3 := Lib.hid (fun W (hW : Il W AO OV) => impl_IsSpread_c W AO LO cO OV hW HLO.out.symm hlo)
      rw [p4] at D3
      have hxyz : SX = true → isSV ys = true → isSV OV = true := fun h1 h2 => by rw [← GOV.out]; exact ov_spread hok (GSX.out.trans h1) h2
      obtain ⟨SY, hSY⟩ : ∃ x, isSV ys = x := ⟨_, rfl⟩
      rw [hSY] at D2 hxyz
      obtain ⟨SZ, hSZ⟩ : ∃ x, isSV OV = x := ⟨_, rfl⟩
      rw [hSZ] at D3 hxyz
      have hx0 := (tabB_small p1).1 0
      have hy0 := (tabB_small p2).1 0
      obtain ⟨X0, hX0⟩ : ∃ x, ivL xs 0 = x := ⟨_, rfl⟩
      obtain ⟨Y0, hY0⟩ : ∃ x, ivL ys 0 = x := ⟨_, rfl⟩
      rw [hX0] at hx0 p6
      rw [hY0] at hy0 p6
      have hmb0 := mul_small hx0 hy0
      have hw0 : IntKind.i64.wrap (X0 * Y0) = X0 * Y0 := IntWalk.i64_in _ (by omega)
      have HP6 := Lib.hid p6
      have HX0 := Lib.hid hX0
      have HY0 := Lib.hid hY0
      have HXl : Hid (1 ≤ xs.length) := p7
      have HYl : Hid (1 ≤ ys.length) := (by rw [← p3]; exact p7 : 1 ≤ ys.length)
      have HOl : Hid (1 ≤ OV.length) := (by rw [p5]; exact p7 : 1 ≤ OV.length)
      clear p1 p2 p3 p4 p5 p6 p7 q1 q2 hok hSY hSZ hX0 hY0 hx0 hy0 hmb0
      go_wp2_with fail
      refine (D1.out _ (HRa.out _ BB) (HRb.out _ BB)).mono ?_
      rintro e z51 ⟨⟨v51, rfl, o51⟩, a51⟩
      replace BB := BB.trans (a51.mono BB.size)
      have HO := HO.below a51
      obtain ⟨AQ, cQ, rfl⟩ := o51.shape
      have HQ := Il_of_own o51
      rw [HLO.out]
      clear o51 a51
      go_wp2_with fail
      refine (D2.out _ (HRb.out _ BB)).mono ?_
      rintro e z52 ⟨rfl, a52⟩
      replace BB := BB.trans (a52.mono BB.size)
      have HO := HO.below a52
      have HQ := HQ.below a52
      clear a52
      go_wp2_with fail
      refine (D3.out _ HO).mono ?_
      rintro e z53 ⟨rfl, a53⟩
      replace BB := BB.trans (a53.mono BB.size)
      have HO := HO.below a53
      have HQ := HQ.below a53
      clear a53
      clear D1 D2 D3
      have Ia := HRa.out _ BB
      have Ib := HRb.out _ BB
      clear HRa HRb
      have R1 := Lib.hid (fun nd => HQ.below (below_drewN (Below.refl _ _) nd))
      have R2 := Lib.hid (fun nd => HO.below (below_drewN (Below.refl _ _) nd))
      clear HQ
      obtain ⟨bo, oo, rfl, hbo, hro⟩ := HO HOl.out
      have ho0 := hro 0 HOl.out
      rw [Nat.add_zero, HP6.out] at ho0
      clear hro HO
      obtain ⟨ba, oa, rfl, hba, hra⟩ := Ia HXl.out
      have ha0 := hra 0 HXl.out
      rw [Nat.add_zero, HX0.out] at ha0
      clear hra Ia
      obtain ⟨bb, ob, rfl, hbb, hrb⟩ := Ib HYl.out
      have hb0 := hrb 0 HYl.out
      rw [Nat.add_zero, HY0.out] at hb0
      clear hrb Ib
      have hma1 : (0 : Int) < (ma : Int) := by have := HXl.out; have := Hma.out; omega
      have hmb1 : (0 : Int) < (mb : Int) := by have := HYl.out; have := Hmb.out; omega
      have hlo1 : (0 : Int) < (LO : Int) := by have := HOl.out; have := HLO.out; omega
      cases hsx : SX with
      | false =>
        subst hsx
        go_wp2_with fail
        go_quiet ((go_at_call 59; exact Calls.quiet_of (gSame_q _ _ _ _ _ _ OV _ (R1.out _) (R2.out _) HLO.out.symm HLO.out.symm hlo)))
        replace BB := below_drewN BB nq
        go_wp2
        all_goals first | exact ⟨BB0.trans (BB.mono BB0.size), rfl, rfl, rfl⟩ | exact BB0.trans (BB.mono BB0.size)
      | true =>
        cases hsy : SY with
        | false =>
          subst hsx hsy
          go_wp2_with fail
          go_quiet ((go_at_call 59; exact Calls.quiet_of (gSame_q _ _ _ _ _ _ OV _ (R1.out _) (R2.out _) HLO.out.symm HLO.out.symm hlo)))
          replace BB := below_drewN BB nq
          go_wp2
          all_goals first | exact ⟨BB0.trans (BB.mono BB0.size), rfl, rfl, rfl⟩ | exact BB0.trans (BB.mono BB0.size)
        | true =>
          obtain rfl : SZ = true := hxyz hsx hsy
          subst hsx hsy
          go_wp2_with fail
          go_quiet ((go_at_call 59; exact Calls.quiet_of (gSame_q _ _ _ _ _ _ OV _ (R1.out _) (R2.out _) HLO.out.symm HLO.out.symm hlo)))
          replace BB := below_drewN BB nq
          go_wp2
          all_goals first | exact ⟨BB0.trans (BB.mono BB0.size), rfl, rfl, rfl⟩ | exact BB0.trans (BB.mono BB0.size)
  case tail =>
    clear hKK BB0 BB HO HP HLO hlo GOV GOO GSX GTX
    rintro a' w' ⟨BB, hd, hs, k1⟩
    obtain ⟨u, hu⟩ : ∃ u : Nat → Value, ∀ i, a'.tmps.getD i undef = u i := ⟨_, fun _ => rfl⟩
    have ha := act_by a' 410 hd hs (fun i => if i = 1 then .slice AB nB cB else u i) (fun i hi => by
      by_cases e1 : i = 1
      · subst e1; exact k1
      rw [if_neg e1]
      exact hu i)
    replace ha : a' = ⟨#[u 0, .slice AB nB cB, u 2, u 3, u 4, u 5, u 6, u 7, u 8, u 9, u 10, u 11, u 12, u 13, u 14, u 15, u 16, u 17, u 18, u 19, u 20, u 21, u 22, u 23, u 24, u 25, u 26, u 27, u 28, u 29, u 30, u 31, u 32, u 33, u 34, u 35, u 36, u 37, u 38, u 39, u 40, u 41, u 42, u 43, u 44, u 45, u 46, u 47, u 48, u 49, u 50, u 51, u 52, u 53, u 54, u 55, u 56, u 57, u 58, u 59, u 60, u 61, u 62, u 63, u 64, u 65, u 66, u 67, u 68, u 69, u 70, u 71, u 72, u 73, u 74, u 75, u 76, u 77, u 78, u 79, u 80, u 81, u 82, u 83, u 84, u 85, u 86, u 87, u 88, u 89, u 90, u 91, u 92, u 93, u 94, u 95, u 96, u 97, u 98, u 99, u 100, u 101, u 102, u 103, u 104, u 105, u 106, u 107, u 108, u 109, u 110, u 111, u 112, u 113, u 114, u 115, u 116, u 117, u 118, u 119, u 120, u 121, u 122, u 123, u 124, u 125, u 126, u 127, u 128, u 129, u 130, u 131, u 132, u 133, u 134, u 135, u 136, u 137, u 138, u 139, u 140, u 141, u 142, u 143, u 144, u 145, u 146, u 147, u 148, u 149, u 150, u 151, u 152, u 153, u 154, u 155, u 156, u 157, u 158, u 159, u 160, u 161, u 162, u 163, u 164, u 165, u 166, u 167, u 168, u 169, u 170, u 171, u 172, u 173, u 174, u 175, u 176, u 177, u 178, u 179, u 180, u 181, u 182, u 183, u 184, u 185, u 186, u 187, u 188, u 189, u 190, u 191, u 192, u 193, u 194, u 195, u 196, u 197, u 198, u 199, u 200, u 201, u 202, u 203, u 204, u 205, u 206, u 207, u 208, u 209, u 210, u 211, u 212, u 213, u 214, u 215, u 216, u 217, u 218, u 219, u 220, u 221, u 222, u 223, u 224, u 225, u 226, u 227, u 228, u 229, u 230, u 231, u 232, u 233, u 234, u 235, u 236, u 237, u 238, u 239, u 240, u 241, u 242, u 243, u 244, u 245, u 246, u 247, u 248, u 249, u 250, u 251, u 252, u 253, u 254, u 255, u 256, u 257, u 258, u 259, u 260, u 261, u 262, u 263, u 264, u 265, u 266, u 267, u 268, u 269, u 270, u 271, u 272, u 273, u 274, u 275, u 276, u 277, u 278, u 279, u 280, u 281, u 282, u 283, u 284, u 285, u 286, u 287, u 288, u 289, u 290, u 291, u 292, u 293, u 294, u 295, u 296, u 297, u 298, u 299, u 300, u 301, u 302, u 303, u 304, u 305, u 306, u 307, u 308, u 309, u 310, u 311, u 312, u 313, u 314, u 315, u 316, u 317, u 318, u 319, u 320, u 321, u 322, u 323, u 324, u 325, u 326, u 327, u 328, u 329, u 330, u 331, u 332, u 333, u 334, u 335, u 336, u 337, u 338, u 339, u 340, u 341, u 342, u 343, u 344, u 345, u 346, u 347, u 348, u 349, u 350, u 351, u 352, u 353, u 354, u 355, u 356, u 357, u 358, u 359, u 360, u 361, u 362, u 363, u 364, u 365, u 366, u 367, u 368, u 369, u 370, u 371, u 372, u 373, u 374, u 375, u 376, u 377, u 378, u 379, u 380, u 381, u 382, u 383, u 384, u 385, u 386, u 387, u 388, u 389, u 390, u 391, u 392, u 393, u 394, u 395, u 396, u 397, u 398, u 399, u 400, u 401, u 402, u 403, u 404, u 405, u 406, u 407, u 408, u 409], []⟩ := ha.trans (by kernel_rfl)
    subst ha
    clear hu hd hs k1
    go_wp2_with fail
    refine (DrawUndoTable_c _ AB nB cB ((YB.out.below BB).mono BB.size) (by omega)).mono ?_
    rintro e wqt ⟨⟨vq, ts, rfl, oq, hq24⟩, dq⟩
    have BB0 := BB.trans (dq.mono BB.size)
    obtain ⟨At, ct, rfl⟩ := oq.shape
    have It := Il_of_own oq
    obtain ⟨mt, hmt⟩ : ∃ l, ts.length = l := ⟨_, rfl⟩
    rw [hmt] at hq24 ⊢
    have Hmt : Hid (mt = ts.length) := hmt.symm
    have hnt : mt ≤ 1048576 := by omega
    have HRt : Hid (∀ W, Below wqt.heap.size wqt W → Il W At ts) := fun W hB => It.below hB
    clear BB It oq hmt dq
    have BB := Below.refl wqt.heap.size wqt
    have E1 := Lib.hid (fun W (hW : Il W At ts) => impl_UndoTable_c W At mt ct ts hW Hmt.out hnt)
    have E2 := Lib.hid (fun W (hW : Il W At ts) => spec_UndoTable_c W At mt ct ts hW Hmt.out hnt)
    have E3 := Lib.hid (fun W (hW : Il W At ts) => impl_SumOverDivisors_c W At mt ct ts hW Hmt.out hnt)
    have E4 := Lib.hid (fun W (hW : Il W At ts) => spec_SumOverDivisors_c W At mt ct ts hW Hmt.out hnt)
    have hlu := unR_len ts
    have hls := soR_len ts
    obtain ⟨UV, hUV⟩ : ∃ x, unR ts = x := ⟨_, rfl⟩
    rw [hUV] at E1 E2 hlu
    have GUV := Lib.hid hUV
    clear hUV
    obtain ⟨UO, hUO⟩ : ∃ x, unO ts = x := ⟨_, rfl⟩
    rw [hUO] at E1 E2
    have GUO := Lib.hid hUO
    clear hUO
    obtain ⟨SV, hSV⟩ : ∃ x, soR ts = x := ⟨_, rfl⟩
    rw [hSV] at E3 E4 hls
    have GSV := Lib.hid hSV
    clear hSV
    obtain ⟨SO, hSO⟩ : ∃ x, soO ts = x := ⟨_, rfl⟩
    rw [hSO] at E3 E4
    have GSO := Lib.hid hSO
    clear hSO
    obtain ⟨LU, hLU⟩ : ∃ l, UV.length = l := ⟨_, rfl⟩
    rw [hLU] at hlu
    have HLU := Lib.hid hLU
    clear hLU
    obtain ⟨LS, hLS⟩ : ∃ l, SV.length = l := ⟨_, rfl⟩
    rw [hLS] at hls
    have HLS := Lib.hid hLS
    clear hLS
    go_wp2_with fail
    refine (E1.out _ (HRt.out _ BB)).mono ?_
    rintro e z101 ⟨⟨v101, rfl, o101⟩, a101⟩
    replace BB := BB.trans (a101.mono BB.size)
    obtain ⟨AU, cU, rfl⟩ := o101.shape
    have HU := Il_of_own o101
    rw [HLU.out]
    clear o101 a101
    go_wp2_with fail
    refine (E2.out _ (HRt.out _ BB)).mono ?_
    rintro e z102 ⟨⟨v102, rfl, o102⟩, a102⟩
    replace BB := BB.trans (a102.mono BB.size)
    have HU := HU.below a102
    obtain ⟨AV, cV, rfl⟩ := o102.shape
    have HV := Il_of_own o102
    rw [HLU.out]
    clear o102 a102
    go_wp2_with fail
    refine (E3.out _ (HRt.out _ BB)).mono ?_
    rintro e z103 ⟨⟨v103, rfl, o103⟩, a103⟩
    replace BB := BB.trans (a103.mono BB.size)
    have HU := HU.below a103
    have HV := HV.below a103
    obtain ⟨AS, cS, rfl⟩ := o103.shape
    have HS := Il_of_own o103
    rw [HLS.out]
    clear o103 a103
    go_wp2_with fail
    refine (E4.out _ (HRt.out _ BB)).mono ?_
    rintro e z104 ⟨⟨v104, rfl, o104⟩, a104⟩
    replace BB := BB.trans (a104.mono BB.size)
    have HU := HU.below a104
    have HV := HV.below a104
    have HS := HS.below a104
    obtain ⟨AT, cT, rfl⟩ := o104.shape
    have HT := Il_of_own o104
    rw [HLS.out]
    clear o104 a104
    clear E1 E2 E3 E4
    rename (∀ (a : Act) (w : World), Code.wp _ _ _ a w → _) => hKK
    refine cut3_k hKK (fun a' w' => Below w.heap.size w w' ∧ a'.defers = [] ∧ a'.tmps.size = 410 ∧ a'.tmps.getD 1 undef = .slice AB nB cB) ?main ?tail
    case main =>
      intro hK3
      clear hKK
      go_wp2_with fail
      intro K3 hR3 K2 hx2 K1 hx1
      go_wp2_with fail
      refine (gSame_c AU AV LU LU cU cV UV _ HU HV HLU.out.symm HLU.out.symm hlu).mono ?_
      rintro e z105 ⟨rfl, a105⟩
      replace BB := BB.trans (a105.mono BB.size)
      have HU := HU.below a105
      have HV := HV.below a105
      have HS := HS.below a105
      have HT := HT.below a105
      clear a105
      go_wp2_with fail
      refine (gSame_c AS AT LS LS cS cT SV _ HS HT HLS.out.symm HLS.out.symm hls).mono ?_
      rintro e z106 ⟨rfl, a106⟩
      replace BB := BB.trans (a106.mono BB.size)
      have HU := HU.below a106
      have HV := HV.below a106
      have HS := HS.below a106
      have HT := HT.below a106
      clear a106
      clear HV HT
      cases huo : UO with
      | false =>
        clear HU
        subst huo
        cases hso : SO with
        | false =>
          subst hso
          go_wp2
          all_goals first | exact ⟨BB0.trans (BB.mono BB0.size), rfl, rfl, rfl⟩ | exact BB0.trans (BB.mono BB0.size)
        | true =>
          have hok := GSO.out.trans hso
          subst hso
          obtain ⟨p1, p2, p3, p4, p5⟩ := so_all hok
          rw [GSV.out] at p1 p2 p3
          have hms : mt = LS := by rw [Hmt.out, ← p1]; exact HLS.out
          rw [← Hmt.out] at p2 p3
          have htk : tbOk 5 (mt : Int) = true := by rw [tbOk, Bool.and_eq_true, inB_true, inB_true]; have := Hmt.out; omega
          have hta : tbA 5 (mt : Int) = tbL 5 mt := tbA_yes (k := 5) htk
          have T1 := Lib.hid (fun W => impl_TableOf_c W 5 (mt : Int))
          rw [htk, hta] at T1
          obtain ⟨XU, hXU⟩ : ∃ x, tbL 5 mt = x := ⟨_, rfl⟩
          have hXl : XU.length = mt := by rw [← hXU]; exact tbL_len 5 mt
          rw [hXU] at T1 p2 p3
          clear hXU htk hta
          have T2 := Lib.hid (fun (A1 : Option Addr) (c1 : Nat) W (hW : Il W AS SV) (hW2 : Il W A1 XU) => impl_OverDivisors_c W AS LS cS SV hW HLS.out.symm hls A1 mt c1 XU hW2 hXl.symm hnt)
          rw [p2, p3] at T2
          have HXL := Lib.hid hXl
          clear p1 p2 p3 hms hXl hok
          go_wp2_with fail
          refine (T1.out _).mono ?_
          rintro e z161 ⟨⟨v161, rfl, o161⟩, a161⟩
          replace BB := BB.trans (a161.mono BB.size)
          have HS := HS.below a161
          obtain ⟨AX, cX, rfl⟩ := o161.shape
          have HX := Il_of_own o161
          rw [HXL.out]
          clear o161 a161
          go_wp2_with fail
          refine (T2.out AX cX _ HS HX).mono ?_
          rintro e z162 ⟨⟨v162, rfl, o162⟩, a162⟩
          replace BB := BB.trans (a162.mono BB.size)
          have HS := HS.below a162
          have HX := HX.below a162
          obtain ⟨AY, cY, rfl⟩ := o162.shape
          have HY := Il_of_own o162
          rw [← Hmt.out]
          clear o162 a162
          clear HX HS
          have HT0 := HRt.out _ BB
          go_wp2_with fail
          refine (gSame_c AY At mt mt cY ct ts _ HY HT0 Hmt.out Hmt.out hnt).mono ?_
          rintro e z163 ⟨rfl, a163⟩
          replace BB := BB.trans (a163.mono BB.size)
          have HY := HY.below a163
          have HT0 := HT0.below a163
          clear a163
          go_wp2
          all_goals first | exact ⟨BB0.trans (BB.mono BB0.size), rfl, rfl, rfl⟩ | exact BB0.trans (BB.mono BB0.size)
      | true =>
        have hok := GUO.out.trans huo
        subst huo
        obtain ⟨p1, p2, p3, p4, p5, p6, p7⟩ := un_all hok
        rw [GUV.out] at p1 p2 p3 p4 p5
        rw [← Hmt.out] at p3
        have htk : tbOk 6 (mt : Int) = true := by rw [tbOk, Bool.and_eq_true, inB_true, inB_true]; have := Hmt.out; omega
        have hta : tbA 6 (mt : Int) = tbL 6 mt := tbA_yes (k := 6) htk
        have V1 := Lib.hid (fun W => impl_TableOf_c W 6 (mt : Int))
        rw [htk, hta] at V1
        obtain ⟨XU, hXU⟩ : ∃ x, tbL 6 mt = x := ⟨_, rfl⟩
        have hXl : XU.length = mt := by rw [← hXU]; exact tbL_len 6 mt
        rw [hXU] at V1 p3
        clear hXU htk hta
        have V2 := Lib.hid (fun W (hW : Il W At ts) (hW2 : Il W AU UV) => impl_OverDivisors_c W At mt ct ts hW Hmt.out hnt AU LU cU UV hW2 HLU.out.symm hlu)
        rw [p2, p3] at V2
        have V3 := Lib.hid (fun W (hW : Il W AU UV) => impl_UndoTable_c W AU LU cU UV hW HLU.out.symm hlu)
        rw [p4, p5] at V3
        have HXL2 := Lib.hid hXl
        clear p1 p2 p3 p4 p5 p6 p7 hXl hok
        go_wp2_with fail
        refine (V1.out _).mono ?_
        rintro e z121 ⟨⟨v121, rfl, o121⟩, a121⟩
        replace BB := BB.trans (a121.mono BB.size)
        have HU := HU.below a121
        have HS := HS.below a121
        obtain ⟨AD, cD, rfl⟩ := o121.shape
        have HD := Il_of_own o121
        rw [HXL2.out]
        clear o121 a121
        go_wp2_with fail
        refine (V2.out _ (HRt.out _ BB) HU).mono ?_
        rintro e z122 ⟨⟨v122, rfl, o122⟩, a122⟩
        replace BB := BB.trans (a122.mono BB.size)
        have HU := HU.below a122
        have HS := HS.below a122
        have HD := HD.below a122
        obtain ⟨AE, cE, rfl⟩ := o122.shape
        have HE := Il_of_own o122
        rw [HXL2.out]
        clear o122 a122
        go_wp2_with fail
        refine (V3.out _ HU).mono ?_
        rintro e z123 ⟨⟨v123, rfl, o123⟩, a123⟩
        replace BB := BB.trans (a123.mono BB.size)
        have HU := HU.below a123
        have HS := HS.below a123
        have HD := HD.below a123
        have HE := HE.below a123
        obtain ⟨AF, cF, rfl⟩ := o123.shape
        have HF := Il_of_own o123
        rw [← Hmt.out]
        clear o123 a123
        have HT9 := HRt.out _ BB
        clear HU
        go_wp2_with fail
        refine (gSame_c AE AD mt mt cE cD XU _ HE HD HXL2.out.symm HXL2.out.symm hnt).mono ?_
        rintro e z124 ⟨rfl, a124⟩
        replace BB := BB.trans (a124.mono BB.size)
        have HF := HF.below a124
        have HS := HS.below a124
        have HT9 := HT9.below a124
        clear a124
        go_wp2_with fail
        refine (gSame_c AF At mt mt cF ct ts _ HF HT9 Hmt.out Hmt.out hnt).mono ?_
        rintro e z125 ⟨rfl, a125⟩
        replace BB := BB.trans (a125.mono BB.size)
        have HF := HF.below a125
        have HS := HS.below a125
        have HT9 := HT9.below a125
        clear a125
        clear HF HT9 HE HD V1 V2 V3 HXL2
        cases hso : SO with
        | false =>
          subst hso
          go_wp2
          all_goals first | exact ⟨BB0.trans (BB.mono BB0.size), rfl, rfl, rfl⟩ | exact BB0.trans (BB.mono BB0.size)
        | true =>
          have hok := GSO.out.trans hso
          subst hso
          obtain ⟨p1, p2, p3, p4, p5⟩ := so_all hok
          rw [GSV.out] at p1 p2 p3
          have hms : mt = LS := by rw [Hmt.out, ← p1]; exact HLS.out
          rw [← Hmt.out] at p2 p3
          have htk : tbOk 5 (mt : Int) = true := by rw [tbOk, Bool.and_eq_true, inB_true, inB_true]; have := Hmt.out; omega
          have hta : tbA 5 (mt : Int) = tbL 5 mt := tbA_yes (k := 5) htk
          have T1 := Lib.hid (fun W => impl_TableOf_c W 5 (mt : Int))
          rw [htk, hta] at T1
          obtain ⟨XU, hXU⟩ : ∃ x, tbL 5 mt = x := ⟨_, rfl⟩
          have hXl : XU.length = mt := by rw [← hXU]; exact tbL_len 5 mt
          rw [hXU] at T1 p2 p3
          clear hXU htk hta
          have T2 := Lib.hid (fun (A1 : Option Addr) (c1 : Nat) W (hW : Il W AS SV) (hW2 : Il W A1 XU) => impl_OverDivisors_c W AS LS cS SV hW HLS.out.symm hls A1 mt c1 XU hW2 hXl.symm hnt)
          rw [p2, p3] at T2
          have HXL := Lib.hid hXl
          clear p1 p2 p3 hms hXl hok
          go_wp2_with fail
          refine (T1.out _).mono ?_
          rintro e z161 ⟨⟨v161, rfl, o161⟩, a161⟩
          replace BB := BB.trans (a161.mono BB.size)
          have HS := HS.below a161
          obtain ⟨AX, cX, rfl⟩ := o161.shape
          have HX := Il_of_own o161
          rw [HXL.out]
          clear o161 a161
          go_wp2_with fail
          refine (T2.out AX cX _ HS HX).mono ?_
          rintro e z162 ⟨⟨v162, rfl, o162⟩, a162⟩
          replace BB := BB.trans (a162.mono BB.size)
          have HS := HS.below a162
          have HX := HX.below a162
          obtain ⟨AY, cY, rfl⟩ := o162.shape
          have HY := Il_of_own o162
          rw [← Hmt.out]
          clear o162 a162
          clear HX HS
          have HT0 := HRt.out _ BB
          go_wp2_with fail
          refine (gSame_c AY At mt mt cY ct ts _ HY HT0 Hmt.out Hmt.out hnt).mono ?_
          rintro e z163 ⟨rfl, a163⟩
          replace BB := BB.trans (a163.mono BB.size)
          have HY := HY.below a163
          have HT0 := HT0.below a163
          clear a163
          go_wp2
          all_goals first | exact ⟨BB0.trans (BB.mono BB0.size), rfl, rfl, rfl⟩ | exact BB0.trans (BB.mono BB0.size)
    case tail =>
      clear hKK BB0 BB HU HV HS HT HLU HLS hlu hls GUV GUO GSV GSO
      rintro a' w' ⟨BB, hd, hs, k1⟩
      obtain ⟨u, hu⟩ : ∃ u : Nat → Value, ∀ i, a'.tmps.getD i undef = u i := ⟨_, fun _ => rfl⟩
      have ha := act_by a' 410 hd hs (fun i => if i = 1 then .slice AB nB cB else u i) (fun i hi => by
        by_cases e1 : i = 1
        · subst e1; exact k1
        rw [if_neg e1]
        exact hu i)
      replace ha : a' = ⟨#[u 0, .slice AB nB cB, u 2, u 3, u 4, u 5, u 6, u 7, u 8, u 9, u 10, u 11, u 12, u 13, u 14, u 15, u 16, u 17, u 18, u 19, u 20, u 21, u 22, u 23, u 24, u 25, u 26, u 27, u 28, u 29, u 30, u 31, u 32, u 33, u 34, u 35, u 36, u 37, u 38, u 39, u 40, u 41, u 42, u 43, u 44, u 45, u 46, u 47, u 48, u 49, u 50, u 51, u 52, u 53, u 54, u 55, u 56, u 57, u 58, u 59, u 60, u 61, u 62, u 63, u 64, u 65, u 66, u 67, u 68, u 69, u 70, u 71, u 72, u 73, u 74, u 75, u 76, u 77, u 78, u 79, u 80, u 81, u 82, u 83, u 84, u 85, u 86, u 87, u 88, u 89, u 90, u 91, u 92, u 93, u 94, u 95, u 96, u 97, u 98, u 99, u 100, u 101, u 102, u 103, u 104, u 105, u 106, u 107, u 108, u 109, u 110, u 111, u 112, u 113, u 114, u 115, u 116, u 117, u 118, u 119, u 120, u 121, u 122, u 123, u 124, u 125, u 126, u 127, u 128, u 129, u 130, u 131, u 132, u 133, u 134, u 135, u 136, u 137, u 138, u 139, u 140, u 141, u 142, u 143, u 144, u 145, u 146, u 147, u 148, u 149, u 150, u 151, u 152, u 153, u 154, u 155, u 156, u 157, u 158, u 159, u 160, u 161, u 162, u 163, u 164, u 165, u 166, u 167, u 168, u 169, u 170, u 171, u 172, u 173, u 174, u 175, u 176, u 177, u 178, u 179, u 180, u 181, u 182, u 183, u 184, u 185, u 186, u 187, u 188, u 189, u 190, u 191, u 192, u 193, u 194, u 195, u 196, u 197, u 198, u 199, u 200, u 201, u 202, u 203, u 204, u 205, u 206, u 207, u 208, u 209, u 210, u 211, u 212, u 213, u 214, u 215, u 216, u 217, u 218, u 219, u 220, u 221, u 222, u 223, u 224, u 225, u 226, u 227, u 228, u 229, u 230, u 231, u 232, u 233, u 234, u 235, u 236, u 237, u 238, u 239, u 240, u 241, u 242, u 243, u 244, u 245, u 246, u 247, u 248, u 249, u 250, u 251, u 252, u 253, u 254, u 255, u 256, u 257, u 258, u 259, u 260, u 261, u 262, u 263, u 264, u 265, u 266, u 267, u 268, u 269, u 270, u 271, u 272, u 273, u 274, u 275, u 276, u 277, u 278, u 279, u 280, u 281, u 282, u 283, u 284, u 285, u 286, u 287, u 288, u 289, u 290, u 291, u 292, u 293, u 294, u 295, u 296, u 297, u 298, u 299, u 300, u 301, u 302, u 303, u 304, u 305, u 306, u 307, u 308, u 309, u 310, u 311, u 312, u 313, u 314, u 315, u 316, u 317, u 318, u 319, u 320, u 321, u 322, u 323, u 324, u 325, u 326, u 327, u 328, u 329, u 330, u 331, u 332, u 333, u 334, u 335, u 336, u 337, u 338, u 339, u 340, u 341, u 342, u 343, u 344, u 345, u 346, u 347, u 348, u 349, u 350, u 351, u 352, u 353, u 354, u 355, u 356, u 357, u 358, u 359, u 360, u 361, u 362, u 363, u 364, u 365, u 366, u 367, u 368, u 369, u 370, u 371, u 372, u 373, u 374, u 375, u 376, u 377, u 378, u 379, u 380, u 381, u 382, u 383, u 384, u 385, u 386, u 387, u 388, u 389, u 390, u 391, u 392, u 393, u 394, u 395, u 396, u 397, u 398, u 399, u 400, u 401, u 402, u 403, u 404, u 405, u 406, u 407, u 408, u 409], []⟩ := ha.trans (by kernel_rfl)
      subst ha
      clear hu hd hs k1
      go_wp2_with fail
      refine (DrawTableOf_c _ AB nB cB ((YB.out.below BB).mono BB.size) (by omega)).mono ?_
      rintro e wq3 ⟨⟨ak, am, rfl⟩, dq⟩
      replace BB := BB.trans (dq.mono BB.size)
      clear dq
      have F1 := Lib.hid (fun W => impl_TableOf_c W ak am)
      have F2 := Lib.hid (fun W => spec_TableOf_c W ak am)
      have hlt := tbA_len ak am
      obtain ⟨TV, hTV⟩ : ∃ x, tbA ak am = x := ⟨_, rfl⟩
      rw [hTV] at F1 F2 hlt
      have GTV := Lib.hid hTV
      clear hTV
      obtain ⟨TO, hTO⟩ : ∃ x, tbOk ak am = x := ⟨_, rfl⟩
      rw [hTO] at F1 F2
      have GTO := Lib.hid hTO
      clear hTO
      obtain ⟨LT, hLT⟩ : ∃ l, TV.length = l := ⟨_, rfl⟩
      rw [hLT] at hlt
      have HLT := Lib.hid hLT
      clear hLT
      go_wp2_with fail
      refine (F1.out _).mono ?_
      rintro e z201 ⟨⟨v201, rfl, o201⟩, a201⟩
      replace BB := BB.trans (a201.mono BB.size)
      obtain ⟨AG, cG, rfl⟩ := o201.shape
      have HG := Il_of_own o201
      rw [HLT.out]
      clear o201 a201
      go_wp2_with fail
      refine (F2.out _).mono ?_
      rintro e z202 ⟨⟨v202, rfl, o202⟩, a202⟩
      replace BB := BB.trans (a202.mono BB.size)
      have HG := HG.below a202
      obtain ⟨AH, cH, rfl⟩ := o202.shape
      have HH := Il_of_own o202
      rw [HLT.out]
      clear o202 a202
      clear F1 F2
      rename (∀ (a : Act) (w : World), Code.wp _ _ _ a w → _) => hKK
      refine cut_k hKK (fun a' w' => Below w.heap.size w w' ∧ a'.defers = [] ∧ a'.tmps.size = 410 ∧ a'.tmps.getD 1 undef = .slice AB nB cB) ?main ?tail
      case main =>
        intro hK3
        clear hKK
        go_wp2_with fail
        intro K2 hR2 K1 hx1
        go_wp2_with fail
        refine (gSame_c AG AH LT LT cG cH TV _ HG HH HLT.out.symm HLT.out.symm hlt).mono ?_
        rintro e z203 ⟨rfl, a203⟩
        replace BB := BB.trans (a203.mono BB.size)
        have HG := HG.below a203
        have HH := HH.below a203
        clear a203
        clear HH
        cases hto : TO with
        | false =>
          subst hto
          go_wp2
          all_goals first | exact ⟨BB, rfl, rfl, rfl⟩ | exact BB
        | true =>
          have hok := GTO.out.trans hto
          subst hto
          have hk2 := hok
          rw [tbOk, Bool.and_eq_true, inB_true, inB_true] at hk2
          obtain ⟨⟨k1, k2⟩, m1, m2⟩ := hk2
          obtain ⟨K, rfl⟩ := Int.eq_ofNat_of_zero_le k1
          obtain ⟨M, rfl⟩ := Int.eq_ofNat_of_zero_le (show 0 ≤ am by omega)
          have hTV : TV = tbL K M := by rw [← GTV.out]; exact tbA_yes hok
          obtain rfl : LT = M := by rw [← HLT.out, hTV]; exact tbL_len K M
          obtain ⟨i1, i2⟩ := tb_all (K := K) (M := LT) (by omega) (by omega) (by omega)
          rw [← hTV] at i1 i2
          have S1 := Lib.hid (fun W (hW : Il W AG TV) => impl_IsSpread_c W AG LT cG TV hW HLT.out.symm hlt)
          rw [i1, i2] at S1
          obtain ⟨b1, b2, b3, b4⟩ := tb_both (M := LT) (by omega) (by omega)
          have hlt2 : LT ≤ 1048576 := hlt
          have JA := Lib.hid (fun W => impl_TableOf_c W 0 (LT : Int))
          have okA : tbOk 0 (LT : Int) = true := by rw [tbOk, Bool.and_eq_true, inB_true, inB_true]; omega
          rw [okA, show tbA 0 (LT : Int) = tbL 0 LT from tbA_yes (k := 0) okA] at JA
          have lenA : Hid ((tbL 0 LT).length = LT) := tbL_len 0 LT
          clear okA
          have JB := Lib.hid (fun W => impl_TableOf_c W 2 (LT : Int))
          have okB : tbOk 2 (LT : Int) = true := by rw [tbOk, Bool.and_eq_true, inB_true, inB_true]; omega
          rw [okB, show tbA 2 (LT : Int) = tbL 2 LT from tbA_yes (k := 2) okB] at JB
          have lenB : Hid ((tbL 2 LT).length = LT) := tbL_len 2 LT
          clear okB
          have JC := Lib.hid (fun W => impl_TableOf_c W 1 (LT : Int))
          have okC : tbOk 1 (LT : Int) = true := by rw [tbOk, Bool.and_eq_true, inB_true, inB_true]; omega
          rw [okC, show tbA 1 (LT : Int) = tbL 1 LT from tbA_yes (k := 1) okC] at JC
          have lenC : Hid ((tbL 1 LT).length = LT) := tbL_len 1 LT
          clear okC
          have JD := Lib.hid (fun W => impl_TableOf_c W 4 (LT : Int))
          have okD : tbOk 4 (LT : Int) = true := by rw [tbOk, Bool.and_eq_true, inB_true, inB_true]; omega
          rw [okD, show tbA 4 (LT : Int) = tbL 4 LT from tbA_yes (k := 4) okD] at JD
          have lenD : Hid ((tbL 4 LT).length = LT) := tbL_len 4 LT
          clear okD
          have O1 := Lib.hid (fun (A1 : Option Addr) (c1 : Nat) W (hW : Il W A1 (tbL 0 LT)) => impl_OverDivisors_c W A1 LT c1 (tbL 0 LT) hW (tbL_len 0 LT).symm hlt2 A1 LT c1 (tbL 0 LT) hW (tbL_len 0 LT).symm hlt2)
          rw [b1, b2] at O1
          have O2 := Lib.hid (fun (A1 : Option Addr) (c1 : Nat) W (hW : Il W A1 (tbL 4 LT)) => impl_SumOverDivisors_c W A1 LT c1 (tbL 4 LT) hW (tbL_len 4 LT).symm hlt2)
          rw [b3, b4] at O2
          obtain ⟨TA, hTA⟩ : ∃ x, tbL 0 LT = x := ⟨_, rfl⟩
          rw [hTA] at JA lenA O1
          clear hTA
          obtain ⟨TB, hTB⟩ : ∃ x, tbL 2 LT = x := ⟨_, rfl⟩
          rw [hTB] at JB lenB O1
          clear hTB
          obtain ⟨TC, hTC⟩ : ∃ x, tbL 1 LT = x := ⟨_, rfl⟩
          rw [hTC] at JC lenC O2
          clear hTC
          obtain ⟨TD, hTD⟩ : ∃ x, tbL 4 LT = x := ⟨_, rfl⟩
          rw [hTD] at JD lenD O2
          clear hTD
          clear b1 b2 b3 b4 i1 i2 hTV hok k1 k2 m1 m2
          go_wp2_with fail
          refine (S1.out _ HG).mono ?_
          rintro e z221 ⟨rfl, a221⟩
          replace BB := BB.trans (a221.mono BB.size)
          clear a221
          clear HG S1
          go_wp2_with fail
          refine (JA.out _).mono ?_
          rintro e z222 ⟨⟨v222, rfl, o222⟩, a222⟩
          replace BB := BB.trans (a222.mono BB.size)
          obtain ⟨AJA, cJA, rfl⟩ := o222.shape
          have HJA := Il_of_own o222
          rw [lenA.out]
          clear o222 a222
          go_wp2_with fail
          refine (JB.out _).mono ?_
          rintro e z223 ⟨⟨v223, rfl, o223⟩, a223⟩
          replace BB := BB.trans (a223.mono BB.size)
          have HJA := HJA.below a223
          obtain ⟨AJB, cJB, rfl⟩ := o223.shape
          have HJB := Il_of_own o223
          rw [lenB.out]
          clear o223 a223
          go_wp2_with fail
          refine (JC.out _).mono ?_
          rintro e z224 ⟨⟨v224, rfl, o224⟩, a224⟩
          replace BB := BB.trans (a224.mono BB.size)
          have HJA := HJA.below a224
          have HJB := HJB.below a224
          obtain ⟨AJC, cJC, rfl⟩ := o224.shape
          have HJC := Il_of_own o224
          rw [lenC.out]
          clear o224 a224
          go_wp2_with fail
          refine (JD.out _).mono ?_
          rintro e z225 ⟨⟨v225, rfl, o225⟩, a225⟩
          replace BB := BB.trans (a225.mono BB.size)
          have HJA := HJA.below a225
          have HJB := HJB.below a225
          have HJC := HJC.below a225
          obtain ⟨AJD, cJD, rfl⟩ := o225.shape
          have HJD := Il_of_own o225
          rw [lenD.out]
          clear o225 a225
          go_wp2_with fail
          refine (O1.out AJA cJA _ HJA).mono ?_
          rintro e z226 ⟨⟨v226, rfl, o226⟩, a226⟩
          replace BB := BB.trans (a226.mono BB.size)
          have HJA := HJA.below a226
          have HJB := HJB.below a226
          have HJC := HJC.below a226
          have HJD := HJD.below a226
          obtain ⟨AK, cK, rfl⟩ := o226.shape
          have HK := Il_of_own o226
          rw [lenB.out]
          clear o226 a226
          go_wp2_with fail
          refine (O2.out AJD cJD _ HJD).mono ?_
          rintro e z227 ⟨⟨v227, rfl, o227⟩, a227⟩
          replace BB := BB.trans (a227.mono BB.size)
          have HJA := HJA.below a227
          have HJB := HJB.below a227
          have HJC := HJC.below a227
          have HJD := HJD.below a227
          have HK := HK.below a227
          obtain ⟨AL, cL, rfl⟩ := o227.shape
          have HL := Il_of_own o227
          rw [lenC.out]
          clear o227 a227
          clear HJA HJD JA JB JC JD O1 O2
          go_wp2_with fail
          refine (gSame_c AK AJB LT LT cK cJB TB _ HK HJB lenB.out.symm lenB.out.symm hlt2).mono ?_
          rintro e z228 ⟨rfl, a228⟩
          replace BB := BB.trans (a228.mono BB.size)
          have HJB := HJB.below a228
          have HJC := HJC.below a228
          have HK := HK.below a228
          have HL := HL.below a228
          clear a228
          go_wp2_with fail
          refine (gSame_c AL AJC LT LT cL cJC TC _ HL HJC lenC.out.symm lenC.out.symm hlt2).mono ?_
          rintro e z229 ⟨rfl, a229⟩
          replace BB := BB.trans (a229.mono BB.size)
          have HJB := HJB.below a229
          have HJC := HJC.below a229
          have HK := HK.below a229
          have HL := HL.below a229
          clear a229
          go_wp2
          all_goals first | exact ⟨BB, rfl, rfl, rfl⟩ | exact BB
      case tail =>
        clear hKK BB HG HH HLT hlt GTV GTO
        rintro a' w' ⟨BB, hd, hs, k1⟩
        obtain ⟨u, hu⟩ : ∃ u : Nat → Value, ∀ i, a'.tmps.getD i undef = u i := ⟨_, fun _ => rfl⟩
        have ha := act_by a' 410 hd hs (fun i => if i = 1 then .slice AB nB cB else u i) (fun i hi => by
          by_cases e1 : i = 1
          · subst e1; exact k1
          rw [if_neg e1]
          exact hu i)
        replace ha : a' = ⟨#[u 0, .slice AB nB cB, u 2, u 3, u 4, u 5, u 6, u 7, u 8, u 9, u 10, u 11, u 12, u 13, u 14, u 15, u 16, u 17, u 18, u 19, u 20, u 21, u 22, u 23, u 24, u 25, u 26, u 27, u 28, u 29, u 30, u 31, u 32, u 33, u 34, u 35, u 36, u 37, u 38, u 39, u 40, u 41, u 42, u 43, u 44, u 45, u 46, u 47, u 48, u 49, u 50, u 51, u 52, u 53, u 54, u 55, u 56, u 57, u 58, u 59, u 60, u 61, u 62, u 63, u 64, u 65, u 66, u 67, u 68, u 69, u 70, u 71, u 72, u 73, u 74, u 75, u 76, u 77, u 78, u 79, u 80, u 81, u 82, u 83, u 84, u 85, u 86, u 87, u 88, u 89, u 90, u 91, u 92, u 93, u 94, u 95, u 96, u 97, u 98, u 99, u 100, u 101, u 102, u 103, u 104, u 105, u 106, u 107, u 108, u 109, u 110, u 111, u 112, u 113, u 114, u 115, u 116, u 117, u 118, u 119, u 120, u 121, u 122, u 123, u 124, u 125, u 126, u 127, u 128, u 129, u 130, u 131, u 132, u 133, u 134, u 135, u 136, u 137, u 138, u 139, u 140, u 141, u 142, u 143, u 144, u 145, u 146, u 147, u 148, u 149, u 150, u 151, u 152, u 153, u 154, u 155, u 156, u 157, u 158, u 159, u 160, u 161, u 162, u 163, u 164, u 165, u 166, u 167, u 168, u 169, u 170, u 171, u 172, u 173, u 174, u 175, u 176, u 177, u 178, u 179, u 180, u 181, u 182, u 183, u 184, u 185, u 186, u 187, u 188, u 189, u 190, u 191, u 192, u 193, u 194, u 195, u 196, u 197, u 198, u 199, u 200, u 201, u 202, u 203, u 204, u 205, u 206, u 207, u 208, u 209, u 210, u 211, u 212, u 213, u 214, u 215, u 216, u 217, u 218, u 219, u 220, u 221, u 222, u 223, u 224, u 225, u 226, u 227, u 228, u 229, u 230, u 231, u 232, u 233, u 234, u 235, u 236, u 237, u 238, u 239, u 240, u 241, u 242, u 243, u 244, u 245, u 246, u 247, u 248, u 249, u 250, u 251, u 252, u 253, u 254, u 255, u 256, u 257, u 258, u 259, u 260, u 261, u 262, u 263, u 264, u 265, u 266, u 267, u 268, u 269, u 270, u 271, u 272, u 273, u 274, u 275, u 276, u 277, u 278, u 279, u 280, u 281, u 282, u 283, u 284, u 285, u 286, u 287, u 288, u 289, u 290, u 291, u 292, u 293, u 294, u 295, u 296, u 297, u 298, u 299, u 300, u 301, u 302, u 303, u 304, u 305, u 306, u 307, u 308, u 309, u 310, u 311, u 312, u 313, u 314, u 315, u 316, u 317, u 318, u 319, u 320, u 321, u 322, u 323, u 324, u 325, u 326, u 327, u 328, u 329, u 330, u 331, u 332, u 333, u 334, u 335, u 336, u 337, u 338, u 339, u 340, u 341, u 342, u 343, u 344, u 345, u 346, u 347, u 348, u 349, u 350, u 351, u 352, u 353, u 354, u 355, u 356, u 357, u 358, u 359, u 360, u 361, u 362, u 363, u 364, u 365, u 366, u 367, u 368, u 369, u 370, u 371, u 372, u 373, u 374, u 375, u 376, u 377, u 378, u 379, u 380, u 381, u 382, u 383, u 384, u 385, u 386, u 387, u 388, u 389, u 390, u 391, u 392, u 393, u 394, u 395, u 396, u 397, u 398, u 399, u 400, u 401, u 402, u 403, u 404, u 405, u 406, u 407, u 408, u 409], []⟩ := ha.trans (by kernel_rfl)
        subst ha
        clear hu hd hs k1
        go_wp2_with fail
        refine (DrawIsSpread_c _ AB nB cB ((YB.out.below BB).mono BB.size) (by omega)).mono ?_
        rintro e wqu ⟨⟨vq, us, rfl, oq, hq24⟩, dq⟩
        have BB0 := BB.trans (dq.mono BB.size)
        obtain ⟨Au, cu, rfl⟩ := oq.shape
        have It := Il_of_own oq
        obtain ⟨mu, hmu⟩ : ∃ l, us.length = l := ⟨_, rfl⟩
        rw [hmu] at hq24 ⊢
        have Hmu : Hid (mu = us.length) := hmu.symm
        have hnu : mu ≤ 1048576 := by omega
        have HRu : Hid (∀ W, Below wqu.heap.size wqu W → Il W Au us) := fun W hB => It.below hB
        clear BB It oq hmu dq
        have BB := Below.refl wqu.heap.size wqu
        have M1 := Lib.hid (fun W (hW : Il W Au us) => impl_IsSpread_c W Au mu cu us hW Hmu.out hnu)
        have M2 := Lib.hid (fun W (hW : Il W Au us) => spec_IsSpread_c W Au mu cu us hW Hmu.out hnu)
        obtain ⟨SU, hSU⟩ : ∃ x, isSV us = x := ⟨_, rfl⟩
        rw [hSU] at M1 M2
        have GSU := Lib.hid hSU
        clear hSU
        obtain ⟨TU, hTU⟩ : ∃ x, tabB us = x := ⟨_, rfl⟩
        rw [hTU] at M1 M2
        have GTU := Lib.hid hTU
        clear hTU
        go_wp2_with fail
        refine (M1.out _ (HRu.out _ BB)).mono ?_
        rintro e z301 ⟨rfl, a301⟩
        replace BB := BB.trans (a301.mono BB.size)
        clear a301
        go_wp2_with fail
        refine (M2.out _ (HRu.out _ BB)).mono ?_
        rintro e z302 ⟨rfl, a302⟩
        replace BB := BB.trans (a302.mono BB.size)
        clear a302
        go_wp2
        go_ret
        exact ⟨rfl, BB0.trans (BB.mono BB0.size)⟩

set_option maxRecDepth 100000 in
theorem lifted_FnTablesMultiplied (os : Os) (started : os.Started) (H : Type) (enc : TypeId × Value → H) :
    ReturnsInHanded {} Try.checked os 12 .any (Rows.fnTablesMultipliedSpec.pre6 enc Try.prog Try.f12 Rows.fnTablesMultipliedRow.domain false) (Rows.fnTablesMultipliedSpec.post enc Try.prog Try.f12 false true false false) := by
  refine returnsInHanded_of_change (C := Try.checked) own started (by kernel_rfl) Try.func12
    (ChangeSpec.witness6 (enc := enc) (C := Try.checked) false ⟨#[], #[.slice none 0 0, .slice none 0 0], []⟩ 8 (by kernel_rfl) (by kernel_rfl) (by kernel_rfl) (by kernel_rfl)) ?_
  intro W base args ds gs before hval0 hW hcnd _
  have hval : ∀ (j : Nat) t v, Try.f12.params[j]? = some t → args[j]? = some v → Value.okWide Try.prog W .any base t v := hval0
  have hW' := hW
  obtain ⟨p, q, hA0, hV, rfl, hfz, hnd⟩ := hW
  have hA : DataW.TrodAll enc Try.prog W 0 (fun _ => true) true Try.f12.params.toList args.toList ds p := hA0
  rw [Try.params12] at hA hval
  obtain ⟨v0, vs0, d0, ds0, p0, q0, hargs, rfl, rfl, h0, r0⟩ := trodAll_cons hA
  obtain ⟨v1, vs1, d1, ds1, p1, q1, rfl, rfl, rfl, h1, r1⟩ := trodAll_cons r0
  obtain ⟨rfl, rfl, rfl⟩ := trodAll_nil r1
  obtain rfl : args = #[v0, v1] := by cases args; simp_all
  obtain ⟨rfl, rfl⟩ := trodVars_none hV
  have k0 := h0
  have lt0 : ∀ x ∈ p0, x.block < W.heap.size := by obtain ⟨m, hm⟩ := k0; exact DataW.trod_lt m _ _ _ hm
  obtain ⟨A0, n0, c0, rfl, m0, Y0⟩ := open_byt (hval 0 36 v0 rfl rfl) h0
  have k1 := h1
  have lt1 : ∀ x ∈ p1, x.block < W.heap.size := by obtain ⟨m, hm⟩ := k1; exact DataW.trod_lt m _ _ _ hm
  obtain ⟨A1, n1, c1, rfl, m1, Y1⟩ := open_byt (hval 1 36 v1 rfl rfl) h1
  clear hA0 hval0
  refine (walk_FnTablesMultiplied W A0 n0 c0 m0 Y0 A1 n1 c1 m1 Y1).mono fun e W' ⟨he, bel⟩ => ?_
  subst he
  exact ⟨_, rfl, _, _, _, [], _, [], hW', trodAll_mk1 (shut_bool Try.underlying4 _), (trodAll_cons_mk (Below.trod laidOut (by kernel_rfl) (of_decide_eq_true (by kernel_rfl)) k0 bel lt0) (trodAll_cons_mk (Below.trod laidOut (by kernel_rfl) (of_decide_eq_true (by kernel_rfl)) k1 bel lt1) trodAll_mk0)), rfl, bel.frame _, fun h => by cases h⟩

theorem closed_FnTablesMultiplied : joinedFacts Try.prog 12 Try.f12 Rows.fnTablesMultipliedSpec Rows.fnTablesMultipliedRow = true := by
  unfold joinedFacts
  rw [head_enters, head_final, head_make]
  kernel_rfl
theorem over_FnTablesMultiplied : Rows.fnTablesMultipliedRow.holds Try.pinned (OpenSpec.ofChange Rows.fnTablesMultipliedSpec) :=
  OpenClaim.holds_of_wide 12 Try.f12 rfl rfl rfl rfl rfl rfl rfl ⟨rfl, rfl, rfl, rfl, rfl⟩ rfl rfl rfl rfl rfl (by kernel_rfl) Try.func12 closed_FnTablesMultiplied
    (of_decide_eq_true (by kernel_rfl)) (by unfold Func.isWrapper; first | (rw [if_pos (by decide +kernel)]; kernel_rfl) | (rw [if_neg (by decide +kernel)]; exact ⟨rfl, rfl⟩))
    (fun os started H enc _ => lifted_FnTablesMultiplied os started H enc)

theorem fnTablesMultiplied_holds : Rows.FnTablesMultipliedSaid := over_FnTablesMultiplied

end Go.Proofs.Ytaapfapejekkfaa
