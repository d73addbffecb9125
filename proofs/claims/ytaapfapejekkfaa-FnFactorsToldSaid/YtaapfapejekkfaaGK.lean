import Derived.Test.YtaapfapejekkfaaGJ
namespace Go.Proofs.Ytaapfapejekkfaa
open Go.RowKit
set_option linter.unusedVariables false
set_option linter.unusedSimpArgs false

set_option maxRecDepth 100000 in
set_option maxHeartbeats 4000000 in
theorem spec_NumberOfFactors_c (w : World) (A : Option Addr) (c : Nat) (ps : List (List Int)) (hA : Lr w A ps) (hl : ps.length ≤ 1048576) (hlen : ∀ i, i < ps.length → (psL ps i).length ≤ 9223372036854775807) :
    Calls Try.prog 41 #[.slice A ps.length c] w fun en w' => en = .returned (.tuple #[.int .i64 (nV ps), .bool (okN ps)]) ∧ Below w.heap.size w w' := by
  have Hlen := Lib.hid hlen
  clear hlen
  by_cases h30 : ps.length ≤ 30
  · go_enter Try.func41, Try.ntmps41
    go_wp2
    go_loopw [4, 13] (fun a i wr => ∃ k : Nat, k ≤ ps.length ∧ i = .int .i64 (k : Int) ∧ a = .int .i64 (prodE ps k : Int) ∧ prodE ps k ≤ 1000000000 ∧ (∀ j, j < k → sB ps j = true) ∧ Below w.heap.size w wr) (fun _ i _ => ps.length - (intOf i).toNat)
    case atStart => exact ⟨0, Nat.zero_le _, rfl, rfl, by rw [prodE]; omega, fun j hj => by omega, Below.refl _ _⟩
    case round =>
      obtain ⟨k, hk, rfl, rfl, hle, hall, hbel⟩ := hrel
      have Hall := Lib.hid hall
      clear hall
      by_cases hlt : k < ps.length
      · obtain ⟨b, off, rfl, hb, hr⟩ := hA (by omega)
        obtain ⟨A1, c1, q1, r1⟩ := hr k hlt
        have hc0 := (hbel.cell (p := ⟨b, off + k, none⟩) hb).trans q1
        have Hno := Lib.hid (fun h => okN_str (strB_at hlt (sB_false (ps := ps) (i := k) h)))
        have He30 := Lib.hid (okN_e30 (ps := ps) hlt)
        have hL9 := Hlen.out k hlt
        have hki : (k : Int) < (ps.length : Int) := by omega
        by_cases hl2 : (psL ps k).length = 2
        · rw [hl2] at hc0
          obtain ⟨bq, offq, rfl, hbq, hr1⟩ := r1 (by omega)
          have p0 := (hbel.cell (p := ⟨bq, offq + 0, none⟩) hbq).trans (hr1 0 (by omega))
          have e0 := (hbel.cell (p := ⟨bq, offq + 1, none⟩) hbq).trans (hr1 1 (by omega))
          rw [Nat.add_zero] at p0
          obtain ⟨x, hx⟩ : ∃ x, pA ps k = x := ⟨_, rfl⟩
          obtain ⟨y, hy⟩ : ∃ y, eA ps k = y := ⟨_, rfl⟩
          rw [show ivL (psL ps k) 0 = x from hx] at p0
          rw [show ivL (psL ps k) 1 = y from hy] at e0
          have HX := Lib.hid hx
          have HY := Lib.hid hy
          have HL2 := Lib.hid hl2
          clear hx hy hl2 hr1 q1 hL9
          cases hF : inB x 1 1000000000 with
          | false =>
            have Hn := Lib.hid (Hno.out (by rw [HX.out]; rintro ⟨_, h8, h9, _⟩; have := primeB_two h8; rw [inB_false] at hF; omega))
            have Hv := Lib.hid (nV_no Hn.out)
            clear hr
            go_wp2_with fail
            go_quiet ((first | (go_at_call 184; exact qcallS (prFactored_c _ _)) | (go_at_call 191; exact qcallS (prIs_c _ _ (by assumption))) | (go_at_call 190; exact qcallS (l1In_c _ _ _ _))))
            go_wp2
            go_ret2
            exact ⟨by rw [Hn.out, Hv.out]; rfl, below_drewN hbel _⟩
          | true =>
            obtain ⟨x1, x9⟩ := inB_true.1 hF
            cases hP : primeB x.toNat with
            | false =>
              have Hn := Lib.hid (Hno.out (by rw [HX.out]; rintro ⟨_, h8, _⟩; rw [hP] at h8; cases h8))
              have Hv := Lib.hid (nV_no Hn.out)
              clear hr
              go_wp2_with fail
              go_quiet ((first | (go_at_call 184; exact qcallS (prFactored_c _ _)) | (go_at_call 191; exact qcallS (prIs_c _ _ (by assumption))) | (go_at_call 190; exact qcallS (l1In_c _ _ _ _))))
              go_wp2
              go_ret2
              exact ⟨by rw [Hn.out, Hv.out]; rfl, below_drewN hbel _⟩
            | true =>
              cases hE : inB y 1 30 with
              | false =>
                have Hn : Hid (okN ps = false) := by
                  show _ = _
                  rw [inB_false] at hE
                  by_cases h1 : 1 ≤ y
                  · exact He30.out (by rw [HY.out]; omega)
                  · exact Hno.out (by rw [HY.out]; rintro ⟨_, _, _, h9, _⟩; omega)
                have Hv := Lib.hid (nV_no Hn.out)
                clear hr
                go_wp2_with fail
                go_quiet ((first | (go_at_call 184; exact qcallS (prFactored_c _ _)) | (go_at_call 191; exact qcallS (prIs_c _ _ (by assumption))) | (go_at_call 190; exact qcallS (l1In_c _ _ _ _))))
                go_wp2
                go_ret2
                exact ⟨by rw [Hn.out, Hv.out]; rfl, below_drewN hbel _⟩
              | true =>
                cases k with
                | zero =>
                  rw [Nat.add_zero] at hc0
                  have Hs := Lib.hid (sB_true.2 (show (psL ps 0).length = 2 ∧ primeB (pA ps 0).toNat = true ∧ pA ps 0 ≤ 1000000000 ∧ 1 ≤ eA ps 0 ∧ befA ps 0 < pA ps 0 by rw [HX.out, HY.out]; exact ⟨HL2.out, hP, x9, (inB_true.1 hE).1, by show (0 : Int) < _; omega⟩))
                  obtain ⟨E, rfl⟩ := Int.eq_ofNat_of_zero_le (show 0 ≤ y by have := inB_true.1 hE; omega)
                  have hE30 : E ≤ 30 := by have := inB_true.1 hE; omega
                  obtain ⟨p, rfl⟩ := Int.eq_ofNat_of_zero_le (show 0 ≤ x by omega)
                  have s6 : 2 ≤ p := by have := primeB_two hP; omega
                  have hPp : primeB p = true := by rwa [Int.toNat_natCast] at hP
                  obtain ⟨N0, hN0⟩ : ∃ N0, prodE ps 0 = N0 := ⟨_, rfl⟩
                  have Hpr := Lib.hid (fun j (hj : j ≤ E) => okN_prod (ps := ps) (i := 0) (j := j) hlt (by rw [HY.out, Int.toNat_natCast]; exact hj))
                  have Hsu := Lib.hid (prodE_succ ps 0)
                  rw [HX.out, Int.toNat_natCast, hN0] at Hpr
                  rw [HX.out, HY.out, Int.toNat_natCast, Int.toNat_natCast, hN0] at Hsu
                  rw [hN0] at hle ⊢
                  clear hr hN0
                  go_wp2_with fail
                  go_quiet ((first | (go_at_call 184; exact qcallS (prFactored_c _ _)) | (go_at_call 191; exact qcallS (prIs_c _ _ (by assumption))) | (go_at_call 190; exact qcallS (l1In_c _ _ _ _))))
                  go_wp2_with fail
                  go_loop [4, 7] (fun a q => ∃ j : Nat, j ≤ E ∧ q = .int .i64 ((E : Int) - (j : Int)) ∧ a = .int .i64 ((N0 * p ^ j : Nat) : Int) ∧ N0 * p ^ j ≤ 1000000000) (fun _ q => (intOf q).toNat)
                  case atStart => exact ⟨0, Nat.zero_le _, by simp, by simp, by simpa using hle⟩
                  case round =>
                    obtain ⟨j, hj, rfl, rfl, hn9⟩ := hrel
                    obtain ⟨M, hM⟩ : ∃ M, N0 * p ^ j = M := ⟨_, rfl⟩
                    have hM2 : N0 * p ^ (j + 1) = M * p := by rw [← hM, Nat.pow_succ, Nat.mul_assoc]
                    rw [hM] at hn9 ⊢
                    have HM := Lib.hid hM
                    have HM2 := Lib.hid hM2
                    clear hM hM2
                    have hm0 : 0 ≤ (M : Int) * (p : Int) := Int.mul_nonneg (by omega) (by omega)
                    have hm9 : (M : Int) * (p : Int) ≤ 1000000000 * 1000000000 := Int.mul_le_mul (by omega) (by omega) (by omega) (by omega)
                    have hm8 : (M : Int) * (p : Int) ≤ 1000000000000000000 := by omega
                    have hmc : ((M * p : Nat) : Int) = (M : Int) * (p : Int) := Int.natCast_mul _ _
                    have Hmc := Lib.hid hmc
                    clear hm9
                    by_cases hjE : j < E
                    · have hpos : (0 : Int) < (E : Int) - (j : Int) := by omega
                      by_cases hbig : (1000000000 : Int) < (M : Int) * (p : Int)
                      · have ho := Hpr.out (j + 1) (by omega) (by rw [HM2.out]; omega)
                        have Ho := Lib.hid ho
                        have Hv := Lib.hid (nV_no ho)
                        clear hmc ho
                        go_wp2
                        go_ret2
                        exact ⟨by rw [Ho.out, Hv.out]; rfl, below_drewN hbel _⟩
                      · have Hb9 : Hid (M * p ≤ 1000000000) := by show _ ≤ _; omega
                        have hb9 : (M : Int) * (p : Int) ≤ 1000000000 := by omega
                        have He := Lib.hid (show (E : Int) - (j : Int) - 1 = (E : Int) - ((j + 1 : Nat) : Int) by omega)
                        clear hmc hbig
                        go_wp2
                        go_round
                        case rel => exact ⟨j + 1, hjE, by rw [He.out], by rw [HM2.out, Hmc.out], by rw [HM2.out]; exact Hb9.out⟩
                        case measure => simp [intOf]; omega
                    · have hjj : j = E := by omega
                      have Hnx : Hid (prodE ps (0 + 1) = M) := by show _ = _; rw [Hsu.out, ← hjj]; exact HM.out
                      have hzero : (E : Int) - (j : Int) ≤ 0 := by omega
                      clear hmc hjj
                      go_wp2
                      go_roundw
                      case rel => exact ⟨0 + 1, by omega, by go_num, by rw [Hnx.out], by rw [Hnx.out]; exact hn9, all_succ Hall.out Hs.out, below_drewN hbel _⟩
                      case measure => simp [intOf]; omega
                | succ m =>
                  obtain ⟨A2, c2, q2, r2⟩ := hr m (by omega)
                  have hsm := sB_true.1 (Hall.out m (by omega))
                  rw [hsm.1] at q2
                  obtain ⟨bp, offp, rfl, hbp, hrp⟩ := r2 (by have := hsm.1; omega)
                  have hd0 := (hbel.cell (p := ⟨b, off + m, none⟩) hb).trans q2
                  have z0 := (hbel.cell (p := ⟨bp, offp + 0, none⟩) hbp).trans (hrp 0 (by have := hsm.1; omega))
                  rw [Nat.add_zero] at z0
                  obtain ⟨z, hz⟩ : ∃ z, pA ps m = z := ⟨_, rfl⟩
                  rw [show ivL (psL ps m) 0 = z from hz] at z0
                  have HZ := Lib.hid (show befA ps (m + 1) = z from hz)
                  have e1 : IntKind.i64.wrap ((m : Int) + 1 - 1) = (m : Int) := by rw [show (m : Int) + 1 - 1 = (m : Int) by omega]; exact IntWalk.i64_in _ (by omega)
                  have hk0 : (0 : Int) < (m : Int) + 1 := by omega
                  have hm0' : (0 : Int) ≤ (m : Int) := by omega
                  have hml : m < ps.length := by omega
                  clear hsm hrp q2 hz r2
                  by_cases hzx : z < x
                  · have hzy : z < x := hzx
                    have Hs := Lib.hid (sB_true.2 (show (psL ps (m + 1)).length = 2 ∧ primeB (pA ps (m + 1)).toNat = true ∧ pA ps (m + 1) ≤ 1000000000 ∧ 1 ≤ eA ps (m + 1) ∧ befA ps (m + 1) < pA ps (m + 1) by rw [HX.out, HY.out]; exact ⟨HL2.out, hP, x9, (inB_true.1 hE).1, by rw [HZ.out]; exact hzy⟩))
                    obtain ⟨E, rfl⟩ := Int.eq_ofNat_of_zero_le (show 0 ≤ y by have := inB_true.1 hE; omega)
                    have hE30 : E ≤ 30 := by have := inB_true.1 hE; omega
                    obtain ⟨p, rfl⟩ := Int.eq_ofNat_of_zero_le (show 0 ≤ x by omega)
                    have s6 : 2 ≤ p := by have := primeB_two hP; omega
                    have hPp : primeB p = true := by rwa [Int.toNat_natCast] at hP
                    obtain ⟨N0, hN0⟩ : ∃ N0, prodE ps (m + 1) = N0 := ⟨_, rfl⟩
                    have Hpr := Lib.hid (fun j (hj : j ≤ E) => okN_prod (ps := ps) (i := (m + 1)) (j := j) hlt (by rw [HY.out, Int.toNat_natCast]; exact hj))
                    have Hsu := Lib.hid (prodE_succ ps (m + 1))
                    rw [HX.out, Int.toNat_natCast, hN0] at Hpr
                    rw [HX.out, HY.out, Int.toNat_natCast, Int.toNat_natCast, hN0] at Hsu
                    rw [hN0] at hle ⊢
                    clear hr hN0
                    go_wp2_with fail
                    go_quiet ((first | (go_at_call 184; exact qcallS (prFactored_c _ _)) | (go_at_call 191; exact qcallS (prIs_c _ _ (by assumption))) | (go_at_call 190; exact qcallS (l1In_c _ _ _ _))))
                    clear e1
                    go_wp2_with fail
                    go_loop [4, 7] (fun a q => ∃ j : Nat, j ≤ E ∧ q = .int .i64 ((E : Int) - (j : Int)) ∧ a = .int .i64 ((N0 * p ^ j : Nat) : Int) ∧ N0 * p ^ j ≤ 1000000000) (fun _ q => (intOf q).toNat)
                    case atStart => exact ⟨0, Nat.zero_le _, by simp, by simp, by simpa using hle⟩
                    case round =>
                      obtain ⟨j, hj, rfl, rfl, hn9⟩ := hrel
                      obtain ⟨M, hM⟩ : ∃ M, N0 * p ^ j = M := ⟨_, rfl⟩
                      have hM2 : N0 * p ^ (j + 1) = M * p := by rw [← hM, Nat.pow_succ, Nat.mul_assoc]
                      rw [hM] at hn9 ⊢
                      have HM := Lib.hid hM
                      have HM2 := Lib.hid hM2
                      clear hM hM2
                      have hm0 : 0 ≤ (M : Int) * (p : Int) := Int.mul_nonneg (by omega) (by omega)
                      have hm9 : (M : Int) * (p : Int) ≤ 1000000000 * 1000000000 := Int.mul_le_mul (by omega) (by omega) (by omega) (by omega)
                      have hm8 : (M : Int) * (p : Int) ≤ 1000000000000000000 := by omega
                      have hmc : ((M * p : Nat) : Int) = (M : Int) * (p : Int) := Int.natCast_mul _ _
                      have Hmc := Lib.hid hmc
                      clear hm9
                      by_cases hjE : j < E
                      · have hpos : (0 : Int) < (E : Int) - (j : Int) := by omega
                        by_cases hbig : (1000000000 : Int) < (M : Int) * (p : Int)
                        · have ho := Hpr.out (j + 1) (by omega) (by rw [HM2.out]; omega)
                          have Ho := Lib.hid ho
                          have Hv := Lib.hid (nV_no ho)
                          clear hmc ho
                          go_wp2
                          go_ret2
                          exact ⟨by rw [Ho.out, Hv.out]; rfl, below_drewN hbel _⟩
                        · have Hb9 : Hid (M * p ≤ 1000000000) := by show _ ≤ _; omega
                          have hb9 : (M : Int) * (p : Int) ≤ 1000000000 := by omega
                          have He := Lib.hid (show (E : Int) - (j : Int) - 1 = (E : Int) - ((j + 1 : Nat) : Int) by omega)
                          clear hmc hbig
                          go_wp2
                          go_round
                          case rel => exact ⟨j + 1, hjE, by rw [He.out], by rw [HM2.out, Hmc.out], by rw [HM2.out]; exact Hb9.out⟩
                          case measure => simp [intOf]; omega
                      · have hjj : j = E := by omega
                        have Hnx : Hid (prodE ps ((m + 1) + 1) = M) := by show _ = _; rw [Hsu.out, ← hjj]; exact HM.out
                        have hzero : (E : Int) - (j : Int) ≤ 0 := by omega
                        clear hmc hjj
                        go_wp2
                        go_roundw
                        case rel => exact ⟨(m + 1) + 1, by omega, by go_num, by rw [Hnx.out], by rw [Hnx.out]; exact hn9, all_succ Hall.out Hs.out, below_drewN hbel _⟩
                        case measure => simp [intOf]; omega
                  · have Hn := Lib.hid (Hno.out (by rw [HX.out, HZ.out]; rintro ⟨_, _, _, _, h9⟩; omega))
                    have Hv := Lib.hid (nV_no Hn.out)
                    have hxz : x ≤ z := by omega
                    clear hr
                    go_wp2_with fail
                    go_quiet ((first | (go_at_call 184; exact qcallS (prFactored_c _ _)) | (go_at_call 191; exact qcallS (prIs_c _ _ (by assumption))) | (go_at_call 190; exact qcallS (l1In_c _ _ _ _))))
                    clear e1
                    go_wp2
                    go_ret2
                    exact ⟨by rw [Hn.out, Hv.out]; rfl, below_drewN hbel _⟩
        · have Hn := Lib.hid (Hno.out (fun h => hl2 h.1))
          have Hv := Lib.hid (nV_no Hn.out)
          have hne : (((psL ps k).length : Int) != 2) = true := by simp; omega
          clear r1 hr q1 hl2
          go_wp2_with fail
          go_quiet ((first | (go_at_call 184; exact qcallS (prFactored_c _ _)) | (go_at_call 191; exact qcallS (prIs_c _ _ (by assumption))) | (go_at_call 190; exact qcallS (l1In_c _ _ _ _))))
          go_wp2
          go_ret2
          exact ⟨by rw [Hn.out, Hv.out]; rfl, below_drewN hbel _⟩
      · have hkn : k = ps.length := by omega
        subst hkn
        have ho := okN_yes h30 (fun j hj => Hall.out j hj) hle
        have Ho := Lib.hid ho
        have Hv := Lib.hid (nV_yes ho)
        clear ho
        go_wp2
        go_ret2
        exact ⟨by rw [Ho.out, Hv.out]; rfl, hbel⟩
  · have ho : okN ps = false := okN_str (strB_len h30)
    rw [nV_no ho, ho]
    clear ho
    have h31 : (30 : Int) < (ps.length : Int) := by omega
    go_enter Try.func41, Try.ntmps41
    go_wp2
    go_ret2
    exact ⟨rfl, Below.refl _ _⟩

end Go.Proofs.Ytaapfapejekkfaa
