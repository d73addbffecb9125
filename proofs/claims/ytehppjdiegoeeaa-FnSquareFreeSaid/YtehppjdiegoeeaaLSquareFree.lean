/- For every two slices of bytes that come in, laws.FnSquareFree returns true. Conditions: none. -/
import Derived.Test.YtehppjdiegoeeaaOU
import Derived.Test.YtehppjdiegoeeaaO3
import Derived.Test.YtehppjdiegoeeaaOR
import Derived.Test.YtehppjdiegoeeaaOJ
import Derived.Test.YtehppjdiegoeeaaOA
import Derived.Test.YtehppjdiegoeeaaO7
import Derived.Test.YtehppjdiegoeeaaZ4
import Derived.Test.YtehppjdiegoeeaaL0
namespace Go.Proofs.Ytehppjdiegoeeaa
open Go.ChangeShapes Go.WideShapes Go.ChangeAt Go.RowKit Go.Deep
set_option maxRecDepth 100000
set_option linter.unusedVariables false
set_option linter.unusedSimpArgs false

set_option maxHeartbeats 40000000 in
theorem walk_FnSquareFree (w : World) (AA : Option Addr) (nA cA : Nat) (mA : nA ≤ 9223372036854775807) (yA : Byt w w.heap.size AA nA) (AB : Option Addr) (nB cB : Nat) (mB : nB ≤ 9223372036854775807) (yB : Byt w w.heap.size AB nB) :
    Calls Try.prog 3 #[.slice AA nA cA, .slice AB nB cB] w fun e w' => e = .returned (.bool true) ∧ Below w.heap.size w w' := by
  have YA := Lib.hid yA
  have YB := Lib.hid yB
  clear yA yB
  by_cases hn : nA + nB ≤ 1048576
  rotate_left
  · go_enter Try.func3, Try.ntmps3
    go_wp2_with fail
    refine (big_c _ AA AB nA cA nB cB mA mB).mono ?_
    rw [decide_eq_false hn]
    rintro e w0 ⟨rfl, rfl⟩
    go_wp2
    go_ret
    exact ⟨rfl, Below.refl _ _⟩
  go_enter Try.func3, Try.ntmps3
  go_wp2_with fail
  refine (big_c _ AA AB nA cA nB cB mA mB).mono ?_
  rw [decide_eq_true hn]
  rintro e w0 ⟨rfl, rfl⟩
  go_wp2_with fail
  refine (DrawIsSquareFree_c _ AA nA cA YA.out (by omega)).mono ?_
  rintro e wd ⟨⟨an, rfl⟩, BB⟩
  have C1 := Lib.hid (fun W => impl_IsSquareFree_c W an)
  have C2 := Lib.hid (fun W => spec_IsSquareFree_c W an)
  have C3 := Lib.hid (fun W => impl_SquarePart_c W an)
  have C4 := Lib.hid (fun W => spec_SquarePart_c W an)
  have C5 := Lib.hid (fun W => impl_KernelOf_c W an)
  have C6 := Lib.hid (fun W => spec_KernelOf_c W an)
  have C7 := Lib.hid (fun W => impl_FreeSign_c W an)
  have C8 := Lib.hid (fun W => spec_FreeSign_c W an)
  have C9 := Lib.hid (fun W => impl_CountSquareFree_c W an)
  have C10 := Lib.hid (fun W => spec_CountSquareFree_c W an)
  have C11 := Lib.hid (fun W => impl_NextSquareFree_c W an)
  have C12 := Lib.hid (fun W => spec_NextSquareFree_c W an)
  obtain ⟨FV, hFV⟩ : ∃ x, isfV an = x := ⟨_, rfl⟩
  rw [hFV] at C1 C2
  have GFV := Lib.hid hFV
  clear hFV
  obtain ⟨PV, hPV⟩ : ∃ x, spV an = x := ⟨_, rfl⟩
  rw [hPV] at C3 C4
  have GPV := Lib.hid hPV
  clear hPV
  obtain ⟨KV, hKV⟩ : ∃ x, koV an = x := ⟨_, rfl⟩
  rw [hKV] at C5 C6
  have GKV := Lib.hid hKV
  clear hKV
  obtain ⟨SV, hSV⟩ : ∃ x, fsV an = x := ⟨_, rfl⟩
  rw [hSV] at C7 C8
  have GSV := Lib.hid hSV
  clear hSV
  obtain ⟨CV, hCV⟩ : ∃ x, cqV an = x := ⟨_, rfl⟩
  rw [hCV] at C9 C10
  have GCV := Lib.hid hCV
  clear hCV
  obtain ⟨XV, hXV⟩ : ∃ x, nqV an = x := ⟨_, rfl⟩
  rw [hXV] at C11 C12
  have GXV := Lib.hid hXV
  clear hXV
  obtain ⟨OK, hOK⟩ : ∃ x, sqOk an = x := ⟨_, rfl⟩
  rw [hOK] at C1 C2 C3 C4 C5 C6 C7 C8 C9 C10 C11 C12
  have GOK := Lib.hid hOK
  clear hOK
  go_wp2_with fail
  refine (C1.out _).mono ?_
  rintro e z1 ⟨rfl, a1⟩
  replace BB := BB.trans (a1.mono BB.size)
  clear a1
  go_wp2_with fail
  refine (C2.out _).mono ?_
  rintro e z2 ⟨rfl, a2⟩
  replace BB := BB.trans (a2.mono BB.size)
  clear a2
  go_wp2_with fail
  refine (C3.out _).mono ?_
  rintro e z3 ⟨rfl, a3⟩
  replace BB := BB.trans (a3.mono BB.size)
  clear a3
  go_wp2_with fail
  refine (C4.out _).mono ?_
  rintro e z4 ⟨rfl, a4⟩
  replace BB := BB.trans (a4.mono BB.size)
  clear a4
  go_wp2_with fail
  refine (C5.out _).mono ?_
  rintro e z5 ⟨rfl, a5⟩
  replace BB := BB.trans (a5.mono BB.size)
  clear a5
  go_wp2_with fail
  refine (C6.out _).mono ?_
  rintro e z6 ⟨rfl, a6⟩
  replace BB := BB.trans (a6.mono BB.size)
  clear a6
  go_wp2_with fail
  refine (C7.out _).mono ?_
  rintro e z7 ⟨rfl, a7⟩
  replace BB := BB.trans (a7.mono BB.size)
  clear a7
  go_wp2_with fail
  refine (C8.out _).mono ?_
  rintro e z8 ⟨rfl, a8⟩
  replace BB := BB.trans (a8.mono BB.size)
  clear a8
  go_wp2_with fail
  refine (C9.out _).mono ?_
  rintro e z9 ⟨rfl, a9⟩
  replace BB := BB.trans (a9.mono BB.size)
  clear a9
  go_wp2_with fail
  refine (C10.out _).mono ?_
  rintro e z10 ⟨rfl, a10⟩
  replace BB := BB.trans (a10.mono BB.size)
  clear a10
  go_wp2_with fail
  refine (C11.out _).mono ?_
  rintro e z11 ⟨rfl, a11⟩
  replace BB := BB.trans (a11.mono BB.size)
  clear a11
  go_wp2_with fail
  refine (C12.out _).mono ?_
  rintro e z12 ⟨rfl, a12⟩
  replace BB := BB.trans (a12.mono BB.size)
  clear a12
  clear C1 C2 C3 C4 C5 C6 C7 C8 C9 C10 C11 C12
  rename (∀ (a : Act) (w : World), Code.wp _ _ _ a w → _) => hKK
  refine cut_k hKK (fun a' w' => Below w.heap.size w w' ∧ a'.defers = [] ∧ a'.tmps.size = 551 ∧ a'.tmps.getD 1 undef = .slice AB nB cB) ?main ?tail
  case main =>
    as_aux_lemma =>
      intro hK3
      clear hKK
      go_wp2_with fail
      intro K2 hR2 K1 hx1
      cases hok : OK with
      | false =>
        subst hok
        go_wp2
        all_goals first | exact ⟨BB, rfl, rfl, rfl⟩ | exact BB
      | true =>
        have h0 := GOK.out.trans hok
        subst hok
        obtain ⟨n1, n9⟩ := inB_true.1 h0
        obtain ⟨N, rfl⟩ := Int.eq_ofNat_of_zero_le (Int.le_trans (by omega) n1)
        have hN1 : 1 ≤ N := by omega
        have hN9 : N ≤ 100000 := by omega
        obtain ⟨P, K, X, D, Q, C, S, SB, ⟨⟨e1, e2, e3, e4, e5, e6⟩, ⟨d1, d2, d3, d4⟩, ⟨i1, i2, i3, i4, i5, i6, i7, i8, i9, i10, i11, i12⟩, ⟨t1, t2, t3, t4, t5⟩, hnx⟩⟩ := sq_all hN1 hN9
        obtain rfl : FV = SB := by rw [← GFV.out, isfV_yes h0, e6]
        obtain rfl : PV = (P : Int) := by rw [← GPV.out, spV_yes h0, e1]
        obtain rfl : KV = (K : Int) := by rw [← GKV.out, koV_yes h0, e2]
        obtain rfl : SV = S := by rw [← GSV.out, fsV_yes h0, e4]
        obtain rfl : CV = (C : Int) := by rw [← GCV.out, cqV_yes h0, e5]
        obtain rfl : XV = (X : Int) := by rw [← GXV.out, nqV_yes h0, e3]
        have Q1 := Lib.hid (fun W => impl_IsSquareFree_c W (Q : Int))
        have okQ : sqOk (Q : Int) = true := inB_true.2 (by omega)
        rw [isfV_yes okQ, okQ, t1] at Q1
        have Q2 := Lib.hid (fun W => impl_IsSquareFree_c W (K : Int))
        have okK : sqOk (K : Int) = true := inB_true.2 (by omega)
        rw [isfV_yes okK, okK, t2] at Q2
        have HSG : Hid (∀ m : Nat, 1 ≤ m → m ≤ 6 → gcdF (N : Int) (m : Int) = 1 → sgF m * SV = sgF (N * m)) := fun m m1 m6 hg => sg_of hN1 e4 m1 m6 hg
        have hnxt := Lib.hid hnx
        have hD0 : ¬ ((D : Int) = 0) := by omega
        have hK0 : ¬ ((K : Int) = 0) := by omega
        have hwD : IntKind.i64.wrap (D : Int) = (D : Int) := IntWalk.i64_in _ (by omega)
        have hwC : IntKind.i64.wrap ((C : Int) + 1) = (C : Int) + 1 := IntWalk.i64_in _ (by omega)
        have hs1 : decide (SV < -1) = false := decide_eq_false (by omega)
        have hs2 : decide (1 < SV) = false := decide_eq_false (by omega)
        have hxn : decide ((X : Int) ≤ (N : Int)) = false := decide_eq_false (by omega)
        have hxnN : decide (X ≤ N) = false := decide_eq_false (by omega)
        have hD0b : ((D : Int) == 0) = false := by rw [beq_eq_false_iff_ne]; omega
        have hK0b : ((K : Int) == 0) = false := by rw [beq_eq_false_iff_ne]; omega
        have hX1 : 1 ≤ X := by omega
        have hD0N : ¬ (D = 0) := by omega
        have hK0N : ¬ (K = 0) := by omega
        have hwQ : IntKind.i64.wrap (Q : Int) = (Q : Int) := IntWalk.i64_in _ (by omega)
        clear GFV GPV GKV GSV GCV GXV GOK h0 n1 n9 e1 e2 e3 e4 e5 e6 t1 t2 hnx okQ okK i1 i2 i3 i4 i5 i6 i7 i8 i10
        cases hsb : FV with
        | false =>
          as_aux_lemma =>
            have p1 : ((P : Int) == 1) = false := by
              have := t3
              rw [hsb] at this
              rw [beq_eq_false_iff_ne]; intro h; exact absurd (this.1 h) (by simp)
            have p2 : ((K : Int) == (N : Int)) = false := by
              have := t4
              rw [hsb] at this
              rw [beq_eq_false_iff_ne]; intro h; exact absurd (this.1 h) (by simp)
            have p3 : (SV == 0) = true := by
              have := t5
              rw [hsb] at this
              rw [beq_iff_eq]; exact Classical.byContradiction fun h => absurd (this.1 h) (by simp)
            have p4 : decide (SV = 0) = true := by rw [← p3]; rfl
            have p5 : decide ((P : Int) = 1) = false := by rw [← p1]; rfl
            have p6 : decide ((K : Int) = (N : Int)) = false := by rw [← p2]; rfl
            have p7 : decide (P = 1) = false := by rw [← p5, decide_eq_decide]; omega
            have p8 : decide (K = N) = false := by rw [← p6, decide_eq_decide]; omega
            have p9 : SV = 0 := of_decide_eq_true p4
            have p10 : (SV != 0) = false := by rw [p9]; rfl
            clear p9
            clear t3 t4 t5
            subst hsb
            go_wp2_with fail
            go_wp2_with fail
            refine (Q1.out _).mono ?_
            rintro e z21 ⟨rfl, a21⟩
            replace BB := BB.trans (a21.mono BB.size)
            clear a21
            go_wp2_with fail
            refine (Q2.out _).mono ?_
            rintro e z22 ⟨rfl, a22⟩
            replace BB := BB.trans (a22.mono BB.size)
            clear a22
            clear Q1 Q2
            by_cases hx : X ≤ 100000
            · have hxd : decide ((X : Int) ≤ 100000) = true := decide_eq_true (by omega)
              obtain ⟨x1, x2⟩ := hnxt.out hx
              have X1 := Lib.hid (fun W => impl_IsSquareFree_c W (X : Int))
              have okX : sqOk (X : Int) = true := inB_true.2 (by omega)
              rw [isfV_yes okX, okX, x1] at X1
              have X2 := Lib.hid (fun W => impl_CountSquareFree_c W (X : Int))
              rw [cqV_yes okX, okX, x2] at X2
              clear x1 x2 okX hnxt hx
              go_wp2_with fail
              refine (X1.out _).mono ?_
              rintro e z23 ⟨rfl, a23⟩
              replace BB := BB.trans (a23.mono BB.size)
              clear a23
              go_wp2_with fail
              refine (X2.out _).mono ?_
              rintro e z24 ⟨rfl, a24⟩
              replace BB := BB.trans (a24.mono BB.size)
              clear a24
              clear X1 X2
              as_aux_lemma =>
                go_wp2
                clear p10 hD0N hK0N p1 p2 p5 p6 p7 p8 hs1 hs2 hxn hxnN d1 d2 d3 d4 hD0 hK0 hwD hwC hD0b hK0b hwQ hxd
                go_loopw [38] (fun i wr => ∃ k : Nat, 1 ≤ k ∧ k ≤ 7 ∧ i = .int .i64 (k : Int) ∧ Below w.heap.size w wr) (fun i _ => 7 - (intOf i).toNat)
                case atStart => exact ⟨1, by omega, by omega, rfl, BB⟩
                case round =>
                  clear BB
                  obtain ⟨k, hk1, hk7, rfl, BB⟩ := hrel
                  by_cases hlt : k ≤ 6
                  · have hki : decide ((k : Int) ≤ 6) = true := decide_eq_true (by omega)
                    have hki2 : (k : Int) ≤ 6 := by omega
                    have hw1 : IntKind.i64.wrap ((k : Int) + 1) = (k : Int) + 1 := IntWalk.i64_in _ (by omega)
                    have hk0 : ¬ ((k : Int) = 0) := by omega
                    have hk0b : ((k : Int) == 0) = false := by rw [beq_eq_false_iff_ne]; omega
                    have Tc := Lib.hid (fun W => tCommon_c (N : Int) (k : Int) W (by omega) (by omega) (by omega) (by omega))
                    obtain ⟨G, hG⟩ : ∃ x, gcdF (N : Int) (k : Int) = x := ⟨_, rfl⟩
                    rw [hG] at Tc
                    have hdv : (100000 : Int) / (k : Int) = ((100000 / k : Nat) : Int) := div100 k
                    obtain ⟨T, hT⟩ : ∃ x, 100000 / k = x := ⟨_, rfl⟩
                    rw [hT] at hdv
                    have hT9 : T ≤ 100000 := by rw [← hT]; exact Nat.div_le_self _ _
                    have hwT : IntKind.i64.wrap (T : Int) = (T : Int) := IntWalk.i64_in _ (by omega)
                    by_cases hg : G = 1
                    · subst hg
                      have hHG := Lib.hid hG
                      by_cases hNT : N ≤ T
                      · have hNd : decide ((T : Int) < (N : Int)) = false := decide_eq_false (by omega)
                        have hNdN : decide (T < N) = false := decide_eq_false (by omega)
                        have hNk : N * k ≤ 100000 := by rw [← hT] at hNT; exact (Nat.le_div_iff_mul_le (by omega)).1 hNT
                        have hsg := HSG.out k hk1 hlt hG
                        have S1 := Lib.hid (fun W => impl_FreeSign_c W (k : Int))
                        have okk : sqOk (k : Int) = true := inB_true.2 (by omega)
                        rw [fsV_yes okk, okk] at S1
                        have S2 := Lib.hid (fun W => impl_FreeSign_c W ((N : Int) * (k : Int)))
                        have hpos : 1 ≤ N * k := Nat.mul_pos hN1 hk1
                        have okm : sqOk (((N * k : Nat)) : Int) = true := inB_true.2 (by omega)
                        rw [← Int.natCast_mul, fsV_yes okm, okm, Int.natCast_mul, ← hsg] at S2
                        have hwm : IntKind.i64.wrap ((N : Int) * (k : Int)) = (N : Int) * (k : Int) := IntWalk.i64_in _ (by rw [← Int.natCast_mul]; omega)
                        have hb1 := sgF_bound k
                        obtain ⟨U, hU⟩ : ∃ x, sgF k = x := ⟨_, rfl⟩
                        rw [hU] at S1 S2 hb1
                        have hwU : IntKind.i64.wrap (U * SV) = U * SV := IntWalk.i64_in _ (by
                          have h3 : U = -1 ∨ U = 0 ∨ U = 1 := by omega
                          rcases h3 with rfl | rfl | rfl <;> omega)
                        clear hsg okk okm hpos hU hb1 hG hNk hT
                        go_wp2_with fail
                        refine (Tc.out _).mono ?_
                        rintro e zt ⟨rfl, nt, rfl⟩
                        replace BB := below_drewN BB nt
                        go_wp2_with fail
                        refine (S1.out _).mono ?_
                        rintro e z31 ⟨rfl, a31⟩
                        replace BB := BB.trans (a31.mono BB.size)
                        clear a31
                        go_wp2_with fail
                        refine (S2.out _).mono ?_
                        rintro e z32 ⟨rfl, a32⟩
                        replace BB := BB.trans (a32.mono BB.size)
                        clear a32
                        go_wp2
                        go_roundw
                        case rel => exact ⟨k + 1, by omega, by omega, by go_num, BB⟩
                        case measure => simp [intOf]; omega
                      · have hNd : decide ((T : Int) < (N : Int)) = true := decide_eq_true (by omega)
                        have hNdN : decide (T < N) = true := decide_eq_true (by omega)
                        clear hT hG
                        go_wp2_with fail
                        refine (Tc.out _).mono ?_
                        rintro e zt ⟨rfl, nt, rfl⟩
                        replace BB := below_drewN BB nt
                        go_wp2
                        go_roundw
                        case rel => exact ⟨k + 1, by omega, by omega, by go_num, BB⟩
                        case measure => simp [intOf]; omega
                    · have hgb : (G == 1) = false := by rw [beq_eq_false_iff_ne]; exact hg
                      clear hT hG
                      go_wp2_with fail
                      refine (Tc.out _).mono ?_
                      rintro e zt ⟨rfl, nt, rfl⟩
                      replace BB := below_drewN BB nt
                      go_wp2
                      go_roundw
                      case rel => exact ⟨k + 1, by omega, by omega, by go_num, BB⟩
                      case measure => simp [intOf]; omega
                  · have hki : decide ((k : Int) ≤ 6) = false := decide_eq_false (by omega)
                    have hki2 : ¬ (k : Int) ≤ 6 := by omega
                    go_wp2
                    all_goals first | exact ⟨BB, rfl, rfl, rfl⟩ | exact BB
            · have hxd : decide ((X : Int) ≤ 100000) = false := decide_eq_false (by omega)
              clear hnxt hx
              as_aux_lemma =>
                go_wp2
                clear p10 hD0N hK0N p1 p2 p5 p6 p7 p8 hs1 hs2 hxn hxnN d1 d2 d3 d4 hD0 hK0 hwD hwC hD0b hK0b hwQ hxd
                go_loopw [38] (fun i wr => ∃ k : Nat, 1 ≤ k ∧ k ≤ 7 ∧ i = .int .i64 (k : Int) ∧ Below w.heap.size w wr) (fun i _ => 7 - (intOf i).toNat)
                case atStart => exact ⟨1, by omega, by omega, rfl, BB⟩
                case round =>
                  clear BB
                  obtain ⟨k, hk1, hk7, rfl, BB⟩ := hrel
                  by_cases hlt : k ≤ 6
                  · have hki : decide ((k : Int) ≤ 6) = true := decide_eq_true (by omega)
                    have hki2 : (k : Int) ≤ 6 := by omega
                    have hw1 : IntKind.i64.wrap ((k : Int) + 1) = (k : Int) + 1 := IntWalk.i64_in _ (by omega)
                    have hk0 : ¬ ((k : Int) = 0) := by omega
                    have hk0b : ((k : Int) == 0) = false := by rw [beq_eq_false_iff_ne]; omega
                    have Tc := Lib.hid (fun W => tCommon_c (N : Int) (k : Int) W (by omega) (by omega) (by omega) (by omega))
                    obtain ⟨G, hG⟩ : ∃ x, gcdF (N : Int) (k : Int) = x := ⟨_, rfl⟩
                    rw [hG] at Tc
                    have hdv : (100000 : Int) / (k : Int) = ((100000 / k : Nat) : Int) := div100 k
                    obtain ⟨T, hT⟩ : ∃ x, 100000 / k = x := ⟨_, rfl⟩
                    rw [hT] at hdv
                    have hT9 : T ≤ 100000 := by rw [← hT]; exact Nat.div_le_self _ _
                    have hwT : IntKind.i64.wrap (T : Int) = (T : Int) := IntWalk.i64_in _ (by omega)
                    by_cases hg : G = 1
                    · subst hg
                      have hHG := Lib.hid hG
                      by_cases hNT : N ≤ T
                      · have hNd : decide ((T : Int) < (N : Int)) = false := decide_eq_false (by omega)
                        have hNdN : decide (T < N) = false := decide_eq_false (by omega)
                        have hNk : N * k ≤ 100000 := by rw [← hT] at hNT; exact (Nat.le_div_iff_mul_le (by omega)).1 hNT
                        have hsg := HSG.out k hk1 hlt hG
                        have S1 := Lib.hid (fun W => impl_FreeSign_c W (k : Int))
                        have okk : sqOk (k : Int) = true := inB_true.2 (by omega)
                        rw [fsV_yes okk, okk] at S1
                        have S2 := Lib.hid (fun W => impl_FreeSign_c W ((N : Int) * (k : Int)))
                        have hpos : 1 ≤ N * k := Nat.mul_pos hN1 hk1
                        have okm : sqOk (((N * k : Nat)) : Int) = true := inB_true.2 (by omega)
                        rw [← Int.natCast_mul, fsV_yes okm, okm, Int.natCast_mul, ← hsg] at S2
                        have hwm : IntKind.i64.wrap ((N : Int) * (k : Int)) = (N : Int) * (k : Int) := IntWalk.i64_in _ (by rw [← Int.natCast_mul]; omega)
                        have hb1 := sgF_bound k
                        obtain ⟨U, hU⟩ : ∃ x, sgF k = x := ⟨_, rfl⟩
                        rw [hU] at S1 S2 hb1
                        have hwU : IntKind.i64.wrap (U * SV) = U * SV := IntWalk.i64_in _ (by
                          have h3 : U = -1 ∨ U = 0 ∨ U = 1 := by omega
                          rcases h3 with rfl | rfl | rfl <;> omega)
                        clear hsg okk okm hpos hU hb1 hG hNk hT
                        go_wp2_with fail
                        refine (Tc.out _).mono ?_
                        rintro e zt ⟨rfl, nt, rfl⟩
                        replace BB := below_drewN BB nt
                        go_wp2_with fail
                        refine (S1.out _).mono ?_
                        rintro e z31 ⟨rfl, a31⟩
                        replace BB := BB.trans (a31.mono BB.size)
                        clear a31
                        go_wp2_with fail
                        refine (S2.out _).mono ?_
                        rintro e z32 ⟨rfl, a32⟩
                        replace BB := BB.trans (a32.mono BB.size)
                        clear a32
                        go_wp2
                        go_roundw
                        case rel => exact ⟨k + 1, by omega, by omega, by go_num, BB⟩
                        case measure => simp [intOf]; omega
                      · have hNd : decide ((T : Int) < (N : Int)) = true := decide_eq_true (by omega)
                        have hNdN : decide (T < N) = true := decide_eq_true (by omega)
                        clear hT hG
                        go_wp2_with fail
                        refine (Tc.out _).mono ?_
                        rintro e zt ⟨rfl, nt, rfl⟩
                        replace BB := below_drewN BB nt
                        go_wp2
                        go_roundw
                        case rel => exact ⟨k + 1, by omega, by omega, by go_num, BB⟩
                        case measure => simp [intOf]; omega
                    · have hgb : (G == 1) = false := by rw [beq_eq_false_iff_ne]; exact hg
                      clear hT hG
                      go_wp2_with fail
                      refine (Tc.out _).mono ?_
                      rintro e zt ⟨rfl, nt, rfl⟩
                      replace BB := below_drewN BB nt
                      go_wp2
                      go_roundw
                      case rel => exact ⟨k + 1, by omega, by omega, by go_num, BB⟩
                      case measure => simp [intOf]; omega
                  · have hki : decide ((k : Int) ≤ 6) = false := decide_eq_false (by omega)
                    have hki2 : ¬ (k : Int) ≤ 6 := by omega
                    go_wp2
                    all_goals first | exact ⟨BB, rfl, rfl, rfl⟩ | exact BB
        | true =>
          as_aux_lemma =>
            have p1 : ((P : Int) == 1) = true := by
              have := t3
              rw [hsb] at this
              rw [beq_iff_eq]; exact this.2 rfl
            have p2 : ((K : Int) == (N : Int)) = true := by
              have := t4
              rw [hsb] at this
              rw [beq_iff_eq]; exact this.2 rfl
            have p3 : (SV == 0) = false := by
              have := t5
              rw [hsb] at this
              rw [beq_eq_false_iff_ne]; exact this.2 rfl
            have p4 : decide (SV = 0) = false := by rw [← p3]; rfl
            have p5 : decide ((P : Int) = 1) = true := by rw [← p1]; rfl
            have p6 : decide ((K : Int) = (N : Int)) = true := by rw [← p2]; rfl
            have p7 : decide (P = 1) = true := by rw [← p5, decide_eq_decide]; omega
            have p8 : decide (K = N) = true := by rw [← p6, decide_eq_decide]; omega
            have p9 : ¬ (SV = 0) := of_decide_eq_false p4
            have p10 : (SV != 0) = true := by rw [bne_iff_ne]; exact p9
            clear t3 t4 t5
            subst hsb
            go_wp2_with fail
            go_wp2_with fail
            refine (Q1.out _).mono ?_
            rintro e z21 ⟨rfl, a21⟩
            replace BB := BB.trans (a21.mono BB.size)
            clear a21
            go_wp2_with fail
            refine (Q2.out _).mono ?_
            rintro e z22 ⟨rfl, a22⟩
            replace BB := BB.trans (a22.mono BB.size)
            clear a22
            clear Q1 Q2
            by_cases hx : X ≤ 100000
            · have hxd : decide ((X : Int) ≤ 100000) = true := decide_eq_true (by omega)
              obtain ⟨x1, x2⟩ := hnxt.out hx
              have X1 := Lib.hid (fun W => impl_IsSquareFree_c W (X : Int))
              have okX : sqOk (X : Int) = true := inB_true.2 (by omega)
              rw [isfV_yes okX, okX, x1] at X1
              have X2 := Lib.hid (fun W => impl_CountSquareFree_c W (X : Int))
              rw [cqV_yes okX, okX, x2] at X2
              clear x1 x2 okX hnxt hx
              go_wp2_with fail
              refine (X1.out _).mono ?_
              rintro e z23 ⟨rfl, a23⟩
              replace BB := BB.trans (a23.mono BB.size)
              clear a23
              go_wp2_with fail
              refine (X2.out _).mono ?_
              rintro e z24 ⟨rfl, a24⟩
              replace BB := BB.trans (a24.mono BB.size)
              clear a24
              clear X1 X2
              as_aux_lemma =>
                go_wp2
                clear p10 hD0N hK0N p1 p2 p5 p6 p7 p8 hs1 hs2 hxn hxnN d1 d2 d3 d4 hD0 hK0 hwD hwC hD0b hK0b hwQ hxd
                go_loopw [38] (fun i wr => ∃ k : Nat, 1 ≤ k ∧ k ≤ 7 ∧ i = .int .i64 (k : Int) ∧ Below w.heap.size w wr) (fun i _ => 7 - (intOf i).toNat)
                case atStart => exact ⟨1, by omega, by omega, rfl, BB⟩
                case round =>
                  clear BB
                  obtain ⟨k, hk1, hk7, rfl, BB⟩ := hrel
                  by_cases hlt : k ≤ 6
                  · have hki : decide ((k : Int) ≤ 6) = true := decide_eq_true (by omega)
                    have hki2 : (k : Int) ≤ 6 := by omega
                    have hw1 : IntKind.i64.wrap ((k : Int) + 1) = (k : Int) + 1 := IntWalk.i64_in _ (by omega)
                    have hk0 : ¬ ((k : Int) = 0) := by omega
                    have hk0b : ((k : Int) == 0) = false := by rw [beq_eq_false_iff_ne]; omega
                    have Tc := Lib.hid (fun W => tCommon_c (N : Int) (k : Int) W (by omega) (by omega) (by omega) (by omega))
                    obtain ⟨G, hG⟩ : ∃ x, gcdF (N : Int) (k : Int) = x := ⟨_, rfl⟩
                    rw [hG] at Tc
                    have hdv : (100000 : Int) / (k : Int) = ((100000 / k : Nat) : Int) := div100 k
                    obtain ⟨T, hT⟩ : ∃ x, 100000 / k = x := ⟨_, rfl⟩
                    rw [hT] at hdv
                    have hT9 : T ≤ 100000 := by rw [← hT]; exact Nat.div_le_self _ _
                    have hwT : IntKind.i64.wrap (T : Int) = (T : Int) := IntWalk.i64_in _ (by omega)
                    by_cases hg : G = 1
                    · subst hg
                      have hHG := Lib.hid hG
                      by_cases hNT : N ≤ T
                      · have hNd : decide ((T : Int) < (N : Int)) = false := decide_eq_false (by omega)
                        have hNdN : decide (T < N) = false := decide_eq_false (by omega)
                        have hNk : N * k ≤ 100000 := by rw [← hT] at hNT; exact (Nat.le_div_iff_mul_le (by omega)).1 hNT
                        have hsg := HSG.out k hk1 hlt hG
                        have S1 := Lib.hid (fun W => impl_FreeSign_c W (k : Int))
                        have okk : sqOk (k : Int) = true := inB_true.2 (by omega)
                        rw [fsV_yes okk, okk] at S1
                        have S2 := Lib.hid (fun W => impl_FreeSign_c W ((N : Int) * (k : Int)))
                        have hpos : 1 ≤ N * k := Nat.mul_pos hN1 hk1
                        have okm : sqOk (((N * k : Nat)) : Int) = true := inB_true.2 (by omega)
                        rw [← Int.natCast_mul, fsV_yes okm, okm, Int.natCast_mul, ← hsg] at S2
                        have hwm : IntKind.i64.wrap ((N : Int) * (k : Int)) = (N : Int) * (k : Int) := IntWalk.i64_in _ (by rw [← Int.natCast_mul]; omega)
                        have hb1 := sgF_bound k
                        obtain ⟨U, hU⟩ : ∃ x, sgF k = x := ⟨_, rfl⟩
                        rw [hU] at S1 S2 hb1
                        have hwU : IntKind.i64.wrap (U * SV) = U * SV := IntWalk.i64_in _ (by
                          have h3 : U = -1 ∨ U = 0 ∨ U = 1 := by omega
                          rcases h3 with rfl | rfl | rfl <;> omega)
                        clear hsg okk okm hpos hU hb1 hG hNk hT
                        go_wp2_with fail
                        refine (Tc.out _).mono ?_
                        rintro e zt ⟨rfl, nt, rfl⟩
                        replace BB := below_drewN BB nt
                        go_wp2_with fail
                        refine (S1.out _).mono ?_
                        rintro e z31 ⟨rfl, a31⟩
                        replace BB := BB.trans (a31.mono BB.size)
                        clear a31
                        go_wp2_with fail
                        refine (S2.out _).mono ?_
                        rintro e z32 ⟨rfl, a32⟩
                        replace BB := BB.trans (a32.mono BB.size)
                        clear a32
                        go_wp2
                        go_roundw
                        case rel => exact ⟨k + 1, by omega, by omega, by go_num, BB⟩
                        case measure => simp [intOf]; omega
                      · have hNd : decide ((T : Int) < (N : Int)) = true := decide_eq_true (by omega)
                        have hNdN : decide (T < N) = true := decide_eq_true (by omega)
                        clear hT hG
                        go_wp2_with fail
                        refine (Tc.out _).mono ?_
                        rintro e zt ⟨rfl, nt, rfl⟩
                        replace BB := below_drewN BB nt
                        go_wp2
                        go_roundw
                        case rel => exact ⟨k + 1, by omega, by omega, by go_num, BB⟩
                        case measure => simp [intOf]; omega
                    · have hgb : (G == 1) = false := by rw [beq_eq_false_iff_ne]; exact hg
                      clear hT hG
                      go_wp2_with fail
                      refine (Tc.out _).mono ?_
                      rintro e zt ⟨rfl, nt, rfl⟩
                      replace BB := below_drewN BB nt
                      go_wp2
                      go_roundw
                      case rel => exact ⟨k + 1, by omega, by omega, by go_num, BB⟩
                      case measure => simp [intOf]; omega
                  · have hki : decide ((k : Int) ≤ 6) = false := decide_eq_false (by omega)
                    have hki2 : ¬ (k : Int) ≤ 6 := by omega
                    go_wp2
                    all_goals first | exact ⟨BB, rfl, rfl, rfl⟩ | exact BB
            · have hxd : decide ((X : Int) ≤ 100000) = false := decide_eq_false (by omega)
              clear hnxt hx
              as_aux_lemma =>
                go_wp2
                clear p10 hD0N hK0N p1 p2 p5 p6 p7 p8 hs1 hs2 hxn hxnN d1 d2 d3 d4 hD0 hK0 hwD hwC hD0b hK0b hwQ hxd
                go_loopw [38] (fun i wr => ∃ k : Nat, 1 ≤ k ∧ k ≤ 7 ∧ i = .int .i64 (k : Int) ∧ Below w.heap.size w wr) (fun i _ => 7 - (intOf i).toNat)
                case atStart => exact ⟨1, by omega, by omega, rfl, BB⟩
                case round =>
                  clear BB
                  obtain ⟨k, hk1, hk7, rfl, BB⟩ := hrel
                  by_cases hlt : k ≤ 6
                  · have hki : decide ((k : Int) ≤ 6) = true := decide_eq_true (by omega)
                    have hki2 : (k : Int) ≤ 6 := by omega
                    have hw1 : IntKind.i64.wrap ((k : Int) + 1) = (k : Int) + 1 := IntWalk.i64_in _ (by omega)
                    have hk0 : ¬ ((k : Int) = 0) := by omega
                    have hk0b : ((k : Int) == 0) = false := by rw [beq_eq_false_iff_ne]; omega
                    have Tc := Lib.hid (fun W => tCommon_c (N : Int) (k : Int) W (by omega) (by omega) (by omega) (by omega))
                    obtain ⟨G, hG⟩ : ∃ x, gcdF (N : Int) (k : Int) = x := ⟨_, rfl⟩
                    rw [hG] at Tc
                    have hdv : (100000 : Int) / (k : Int) = ((100000 / k : Nat) : Int) := div100 k
                    obtain ⟨T, hT⟩ : ∃ x, 100000 / k = x := ⟨_, rfl⟩
                    rw [hT] at hdv
                    have hT9 : T ≤ 100000 := by rw [← hT]; exact Nat.div_le_self _ _
                    have hwT : IntKind.i64.wrap (T : Int) = (T : Int) := IntWalk.i64_in _ (by omega)
                    by_cases hg : G = 1
                    · subst hg
                      have hHG := Lib.hid hG
                      by_cases hNT : N ≤ T
                      · have hNd : decide ((T : Int) < (N : Int)) = false := decide_eq_false (by omega)
                        have hNdN : decide (T < N) = false := decide_eq_false (by omega)
                        have hNk : N * k ≤ 100000 := by rw [← hT] at hNT; exact (Nat.le_div_iff_mul_le (by omega)).1 hNT
                        have hsg := HSG.out k hk1 hlt hG
                        have S1 := Lib.hid (fun W => impl_FreeSign_c W (k : Int))
                        have okk : sqOk (k : Int) = true := inB_true.2 (by omega)
                        rw [fsV_yes okk, okk] at S1
                        have S2 := Lib.hid (fun W => impl_FreeSign_c W ((N : Int) * (k : Int)))
                        have hpos : 1 ≤ N * k := Nat.mul_pos hN1 hk1
                        have okm : sqOk (((N * k : Nat)) : Int) = true := inB_true.2 (by omega)
                        rw [← Int.natCast_mul, fsV_yes okm, okm, Int.natCast_mul, ← hsg] at S2
                        have hwm : IntKind.i64.wrap ((N : Int) * (k : Int)) = (N : Int) * (k : Int) := IntWalk.i64_in _ (by rw [← Int.natCast_mul]; omega)
                        have hb1 := sgF_bound k
                        obtain ⟨U, hU⟩ : ∃ x, sgF k = x := ⟨_, rfl⟩
                        rw [hU] at S1 S2 hb1
                        have hwU : IntKind.i64.wrap (U * SV) = U * SV := IntWalk.i64_in _ (by
                          have h3 : U = -1 ∨ U = 0 ∨ U = 1 := by omega
                          rcases h3 with rfl | rfl | rfl <;> omega)
                        clear hsg okk okm hpos hU hb1 hG hNk hT
                        go_wp2_with fail
                        refine (Tc.out _).mono ?_
                        rintro e zt ⟨rfl, nt, rfl⟩
                        replace BB := below_drewN BB nt
                        go_wp2_with fail
                        refine (S1.out _).mono ?_
                        rintro e z31 ⟨rfl, a31⟩
                        replace BB := BB.trans (a31.mono BB.size)
                        clear a31
                        go_wp2_with fail
                        refine (S2.out _).mono ?_
                        rintro e z32 ⟨rfl, a32⟩
                        replace BB := BB.trans (a32.mono BB.size)
                        clear a32
                        go_wp2
                        go_roundw
                        case rel => exact ⟨k + 1, by omega, by omega, by go_num, BB⟩
                        case measure => simp [intOf]; omega
                      · have hNd : decide ((T : Int) < (N : Int)) = true := decide_eq_true (by omega)
                        have hNdN : decide (T < N) = true := decide_eq_true (by omega)
                        clear hT hG
                        go_wp2_with fail
                        refine (Tc.out _).mono ?_
                        rintro e zt ⟨rfl, nt, rfl⟩
                        replace BB := below_drewN BB nt
                        go_wp2
                        go_roundw
                        case rel => exact ⟨k + 1, by omega, by omega, by go_num, BB⟩
                        case measure => simp [intOf]; omega
                    · have hgb : (G == 1) = false := by rw [beq_eq_false_iff_ne]; exact hg
                      clear hT hG
                      go_wp2_with fail
                      refine (Tc.out _).mono ?_
                      rintro e zt ⟨rfl, nt, rfl⟩
                      replace BB := below_drewN BB nt
                      go_wp2
                      go_roundw
                      case rel => exact ⟨k + 1, by omega, by omega, by go_num, BB⟩
                      case measure => simp [intOf]; omega
                  · have hki : decide ((k : Int) ≤ 6) = false := decide_eq_false (by omega)
                    have hki2 : ¬ (k : Int) ≤ 6 := by omega
                    go_wp2
                    all_goals first | exact ⟨BB, rfl, rfl, rfl⟩ | exact BB
  case tail =>
    as_aux_lemma =>
    clear hKK BB GFV GPV GKV GSV GCV GXV GOK
    rintro a' w' ⟨BB, hd, hs, k1⟩
    obtain ⟨u, hu⟩ : ∃ u : Nat → Value, ∀ i, a'.tmps.getD i undef = u i := ⟨_, fun _ => rfl⟩
    have ha := act_by a' 551 hd hs (fun i => if i = 1 then .slice AB nB cB else u i) (fun i hi => by
      by_cases e1 : i = 1
      · subst e1; exact k1
      rw [if_neg e1]
      exact hu i)
    replace ha : a' = ⟨#[u 0, .slice AB nB cB, u 2, u 3, u 4, u 5, u 6, u 7, u 8, u 9, u 10, u 11, u 12, u 13, u 14, u 15, u 16, u 17, u 18, u 19, u 20, u 21, u 22, u 23, u 24, u 25, u 26, u 27, u 28, u 29, u 30, u 31, u 32, u 33, u 34, u 35, u 36, u 37, u 38, u 39, u 40, u 41, u 42, u 43, u 44, u 45, u 46, u 47, u 48, u 49, u 50, u 51, u 52, u 53, u 54, u 55, u 56, u 57, u 58, u 59, u 60, u 61, u 62, u 63, u 64, u 65, u 66, u 67, u 68, u 69, u 70, u 71, u 72, u 73, u 74, u 75, u 76, u 77, u 78, u 79, u 80, u 81, u 82, u 83, u 84, u 85, u 86, u 87, u 88, u 89, u 90, u 91, u 92, u 93, u 94, u 95, u 96, u 97, u 98, u 99, u 100, u 101, u 102, u 103, u 104, u 105, u 106, u 107, u 108, u 109, u 110, u 111, u 112, u 113, u 114, u 115, u 116, u 117, u 118, u 119, u 120, u 121, u 122, u 123, u 124, u 125, u 126, u 127, u 128, u 129, u 130, u 131, u 132, u 133, u 134, u 135, u 136, u 137, u 138, u 139, u 140, u 141, u 142, u 143, u 144, u 145, u 146, u 147, u 148, u 149, u 150, u 151, u 152, u 153, u 154, u 155, u 156, u 157, u 158, u 159, u 160, u 161, u 162, u 163, u 164, u 165, u 166, u 167, u 168, u 169, u 170, u 171, u 172, u 173, u 174, u 175, u 176, u 177, u 178, u 179, u 180, u 181, u 182, u 183, u 184, u 185, u 186, u 187, u 188, u 189, u 190, u 191, u 192, u 193, u 194, u 195, u 196, u 197, u 198, u 199, u 200, u 201, u 202, u 203, u 204, u 205, u 206, u 207, u 208, u 209, u 210, u 211, u 212, u 213, u 214, u 215, u 216, u 217, u 218, u 219, u 220, u 221, u 222, u 223, u 224, u 225, u 226, u 227, u 228, u 229, u 230, u 231, u 232, u 233, u 234, u 235, u 236, u 237, u 238, u 239, u 240, u 241, u 242, u 243, u 244, u 245, u 246, u 247, u 248, u 249, u 250, u 251, u 252, u 253, u 254, u 255, u 256, u 257, u 258, u 259, u 260, u 261, u 262, u 263, u 264, u 265, u 266, u 267, u 268, u 269, u 270, u 271, u 272, u 273, u 274, u 275, u 276, u 277, u 278, u 279, u 280, u 281, u 282, u 283, u 284, u 285, u 286, u 287, u 288, u 289, u 290, u 291, u 292, u 293, u 294, u 295, u 296, u 297, u 298, u 299, u 300, u 301, u 302, u 303, u 304, u 305, u 306, u 307, u 308, u 309, u 310, u 311, u 312, u 313, u 314, u 315, u 316, u 317, u 318, u 319, u 320, u 321, u 322, u 323, u 324, u 325, u 326, u 327, u 328, u 329, u 330, u 331, u 332, u 333, u 334, u 335, u 336, u 337, u 338, u 339, u 340, u 341, u 342, u 343, u 344, u 345, u 346, u 347, u 348, u 349, u 350, u 351, u 352, u 353, u 354, u 355, u 356, u 357, u 358, u 359, u 360, u 361, u 362, u 363, u 364, u 365, u 366, u 367, u 368, u 369, u 370, u 371, u 372, u 373, u 374, u 375, u 376, u 377, u 378, u 379, u 380, u 381, u 382, u 383, u 384, u 385, u 386, u 387, u 388, u 389, u 390, u 391, u 392, u 393, u 394, u 395, u 396, u 397, u 398, u 399, u 400, u 401, u 402, u 403, u 404, u 405, u 406, u 407, u 408, u 409, u 410, u 411, u 412, u 413, u 414, u 415, u 416, u 417, u 418, u 419, u 420, u 421, u 422, u 423, u 424, u 425, u 426, u 427, u 428, u 429, u 430, u 431, u 432, u 433, u 434, u 435, u 436, u 437, u 438, u 439, u 440, u 441, u 442, u 443, u 444, u 445, u 446, u 447, u 448, u 449, u 450, u 451, u 452, u 453, u 454, u 455, u 456, u 457, u 458, u 459, u 460, u 461, u 462, u 463, u 464, u 465, u 466, u 467, u 468, u 469, u 470, u 471, u 472, u 473, u 474, u 475, u 476, u 477, u 478, u 479, u 480, u 481, u 482, u 483, u 484, u 485, u 486, u 487, u 488, u 489, u 490, u 491, u 492, u 493, u 494, u 495, u 496, u 497, u 498, u 499, u 500, u 501, u 502, u 503, u 504, u 505, u 506, u 507, u 508, u 509, u 510, u 511, u 512, u 513, u 514, u 515, u 516, u 517, u 518, u 519, u 520, u 521, u 522, u 523, u 524, u 525, u 526, u 527, u 528, u 529, u 530, u 531, u 532, u 533, u 534, u 535, u 536, u 537, u 538, u 539, u 540, u 541, u 542, u 543, u 544, u 545, u 546, u 547, u 548, u 549, u 550], []⟩ := ha.trans (by kernel_rfl)
    subst ha
    clear hu hd hs k1
    repeat (rename_i x; clear x)
    go_wp2_with fail
    refine (DrawSquareFreeUpTo_c _ AB nB cB ((YB.out.below BB).mono BB.size) (by omega)).mono ?_
    rintro e wq1 ⟨⟨am, rfl⟩, dq1⟩
    replace BB := BB.trans (dq1.mono BB.size)
    clear dq1
    have E1 := Lib.hid (fun W => impl_SquareFreeUpTo_c W am)
    have E2 := Lib.hid (fun W => spec_SquareFreeUpTo_c W am)
    have E3 := Lib.hid (fun W => impl_LongestSquareful_c W am)
    have E4 := Lib.hid (fun W => spec_LongestSquareful_c W am)
    have E5 := Lib.hid (fun W => impl_SumOfSigns_c W am)
    have E6 := Lib.hid (fun W => spec_SumOfSigns_c W am)
    have hl := suqV_len am
    obtain ⟨XS, hXS⟩ : ∃ x, suqV am = x := ⟨_, rfl⟩
    rw [hXS] at E1 E2 hl
    have GXS := Lib.hid hXS
    clear hXS
    obtain ⟨R, hR⟩ : ∃ x, lqV am = x := ⟨_, rfl⟩
    rw [hR] at E3 E4
    have GR := Lib.hid hR
    clear hR
    obtain ⟨F, hF⟩ : ∃ x, lfstV am = x := ⟨_, rfl⟩
    rw [hF] at E3 E4
    have GF := Lib.hid hF
    clear hF
    obtain ⟨T, hT⟩ : ∃ x, ssV am = x := ⟨_, rfl⟩
    rw [hT] at E5 E6
    have GT := Lib.hid hT
    clear hT
    obtain ⟨SO, hSO⟩ : ∃ x, ssOk am = x := ⟨_, rfl⟩
    rw [hSO] at E5 E6
    have GSO := Lib.hid hSO
    clear hSO
    obtain ⟨SM, hSM⟩ : ∃ x, smOk am = x := ⟨_, rfl⟩
    rw [hSM] at E1 E2 E3 E4
    have GSM := Lib.hid hSM
    clear hSM
    obtain ⟨L, hL⟩ : ∃ l, XS.length = l := ⟨_, rfl⟩
    rw [hL] at hl
    have HL := Lib.hid hL
    clear hL
    go_wp2_with fail
    refine (E1.out _).mono ?_
    rintro e zX ⟨⟨vX, rfl, oX⟩, aX⟩
    replace BB := BB.trans (aX.mono BB.size)
    obtain ⟨AX, cX, rfl⟩ := oX.shape
    have HX := Il_of_own oX
    rw [HL.out]
    clear oX aX
    go_wp2_with fail
    refine (E2.out _).mono ?_
    rintro e zY ⟨⟨vY, rfl, oY⟩, aY⟩
    replace BB := BB.trans (aY.mono BB.size)
    have HX := HX.below aY
    obtain ⟨AY, cY, rfl⟩ := oY.shape
    have HY := Il_of_own oY
    rw [HL.out]
    clear oY aY
    go_wp2_with fail
    refine (E3.out _).mono ?_
    rintro e ze3 ⟨rfl, ae3⟩
    replace BB := BB.trans (ae3.mono BB.size)
    have HX := HX.below ae3
    have HY := HY.below ae3
    clear ae3
    go_wp2_with fail
    refine (E4.out _).mono ?_
    rintro e ze4 ⟨rfl, ae4⟩
    replace BB := BB.trans (ae4.mono BB.size)
    have HX := HX.below ae4
    have HY := HY.below ae4
    clear ae4
    go_wp2_with fail
    refine (E5.out _).mono ?_
    rintro e ze5 ⟨rfl, ae5⟩
    replace BB := BB.trans (ae5.mono BB.size)
    have HX := HX.below ae5
    have HY := HY.below ae5
    clear ae5
    go_wp2_with fail
    refine (E6.out _).mono ?_
    rintro e ze6 ⟨rfl, ae6⟩
    replace BB := BB.trans (ae6.mono BB.size)
    have HX := HX.below ae6
    have HY := HY.below ae6
    clear ae6
    go_wp2_with fail
    refine (DrawSquareFreeOfRank_c _ AB nB cB ((YB.out.below BB).mono BB.size) (by omega)).mono ?_
    rintro e wq2 ⟨⟨ar, rfl⟩, dq2⟩
    replace BB := BB.trans (dq2.mono BB.size)
    have HX := HX.below dq2
    have HY := HY.below dq2
    clear dq2
    have E7 := Lib.hid (fun W => impl_SquareFreeOfRank_c W ar)
    have E8 := Lib.hid (fun W => spec_SquareFreeOfRank_c W ar)
    obtain ⟨RV, hRV⟩ : ∃ x, rkV ar = x := ⟨_, rfl⟩
    rw [hRV] at E7 E8
    have GRV := Lib.hid hRV
    clear hRV
    obtain ⟨RO, hRO⟩ : ∃ x, rkOk ar = x := ⟨_, rfl⟩
    rw [hRO] at E7 E8
    have GRO := Lib.hid hRO
    clear hRO
    go_wp2_with fail
    refine (E7.out _).mono ?_
    rintro e ze7 ⟨rfl, ae7⟩
    replace BB := BB.trans (ae7.mono BB.size)
    have HX := HX.below ae7
    have HY := HY.below ae7
    clear ae7
    go_wp2_with fail
    refine (E8.out _).mono ?_
    rintro e ze8 ⟨rfl, ae8⟩
    replace BB := BB.trans (ae8.mono BB.size)
    have HX := HX.below ae8
    have HY := HY.below ae8
    clear ae8
    clear E1 E2 E3 E4 E5 E6 E7 E8 GRV GRO
    go_wp2_with fail
    refine (tSame_c AX AY L L cX cY XS _ HX HY HL.out.symm HL.out.symm hl).mono ?_
    rintro e ze9 ⟨rfl, ae9⟩
    replace BB := BB.trans (ae9.mono BB.size)
    have HX := HX.below ae9
    clear ae9
    clear HY
    cases hsm : SM with
    | false =>
      obtain rfl : SO = false := by
        have h0 := GSM.out.trans hsm
        rw [← GSO.out]
        exact inB_false.2 (by have := inB_false.1 (show inB am 0 600 = false from h0); omega)
      subst hsm
      clear GSM GSO GXS GR GF GT HX
      go_wp2
      go_ret
      exact ⟨rfl, BB⟩
    | true =>
      have h0 := GSM.out.trans hsm
      subst hsm
      obtain ⟨n1, n9⟩ := inB_true.1 h0
      obtain ⟨M, rfl⟩ := Int.eq_ofNat_of_zero_le n1
      have hM9 : M ≤ 600 := by omega
      obtain ⟨XS2, R2, F2, T2, ⟨⟨e1, e2, e3, e4⟩, ⟨q1, q2, q3, q4, q5, q6⟩, hris, hrun, hhas, hcnt, hrk⟩⟩ := sq_list hM9
      obtain rfl : XS = XS2 := by rw [← GXS.out, suqV_yes h0, e1]
      obtain rfl : R = (R2 : Int) := by rw [← GR.out, lqV_yes h0, e2]
      obtain rfl : F = (F2 : Int) := by rw [← GF.out, lfstV_yes h0, e3]
      rw [HL.out] at q1 q4 q5 q6 hcnt
      have Hris := Lib.hid hris
      have Hhas := Lib.hid hhas
      have HRk : Hid (∀ k, k < L → k ≤ 300 → ivL XS k = rkV (k : Int) ∧ rkOk (k : Int) = true) := fun k hk => hrk k (by rw [HL.out]; exact hk)
      have Hq6 := Lib.hid q6
      have Hrun := Lib.hid hrun
      have Hcnt := Lib.hid hcnt
      have He4 := Lib.hid e4
      clear hris hhas hrk e1 e2 e3 e4 GXS GR GF q6 hrun hcnt n1 n9
      by_cases hM0 : M = 0
      · have hMd : decide ((0 : Int) < (M : Int)) = false := decide_eq_false (by omega)
        have hMdN : decide (0 < M) = false := decide_eq_false (by omega)
        have hMi : ¬ (0 : Int) < (M : Int) := by omega
        obtain rfl : SO = false := by rw [← GSO.out]; exact inB_false.2 (by omega)
        have hRd : decide ((0 : Int) < (R2 : Int)) = false := decide_eq_false (by omega)
        have hRdN : decide (0 < R2) = false := decide_eq_false (by omega)
        have hRi : ¬ (0 : Int) < (R2 : Int) := by omega
        clear GSO GT GSM He4 Hcnt Hq6 q4 q5 Hrun hM0 q1 q2 q3
        as_aux_lemma =>
          have hl2 := hl
          go_wp2_with fail
          refine (tRises_c _ AX L cX XS 1 (M : Int) HX HL.out.symm hl Hris.out).mono ?_
          rintro e zr ⟨rfl, ar9⟩
          replace BB := BB.trans (ar9.mono BB.size)
          have HX := HX.below ar9
          clear ar9 Hris
          go_wp2
          clear Hhas
          go_loopw [63] (fun i wr => i = .int .i64 0 ∧ Below w.heap.size w wr ∧ Il wr AX XS) (fun _ _ => 0)
          case atStart => exact ⟨rfl, BB, HX⟩
          case round =>
            clear BB HX
            obtain ⟨rfl, BB, HX⟩ := hrel
            as_aux_lemma =>
              go_wp2
              clear hMd hMdN hMi
              go_loopw [531] (fun i wr => ∃ k : Nat, k ≤ L ∧ i = .int .i64 (k : Int) ∧ Below w.heap.size w wr ∧ Il wr AX XS) (fun i _ => L - (intOf i).toNat)
              case atStart => exact ⟨0, Nat.zero_le _, rfl, BB, HX⟩
              case round =>
                clear BB HX
                obtain ⟨k, hk, rfl, BB, HX⟩ := hrel
                by_cases hlt : k < L
                · have hki : decide ((k : Int) < (L : Int)) = true := decide_eq_true (by omega)
                  have hki2 : (k : Int) < (L : Int) := by omega
                  have hki3 : decide (k < L) = true := decide_eq_true hlt
                  have hk00 : (0 : Int) ≤ (k : Int) := by omega
                  have hwk : IntKind.i64.wrap ((k : Int) + 1) = (k : Int) + 1 := IntWalk.i64_in _ (by omega)
                  have HR : Hid (∀ W, Below wr.heap.size wr W → Il W AX XS) := fun W hB => HX.below hB
                  obtain ⟨b, off, rfl, hb, hr⟩ := HX (by rw [HL.out]; omega)
                  have hc0 := hr k (by rw [HL.out]; exact hlt)
                  clear hr HX
                  by_cases h3 : 300 < k
                  · have h3d : decide ((300 : Int) < (k : Int)) = true := decide_eq_true (by omega)
                    have h3i : (300 : Int) < (k : Int) := by omega
                    go_wp2
                    go_ret
                    exact ⟨rfl, BB⟩
                  · have h3d : decide ((300 : Int) < (k : Int)) = false := decide_eq_false (by omega)
                    have h3i : ¬ (300 : Int) < (k : Int) := by omega
                    obtain ⟨y1, y2⟩ := HRk.out k hlt (by omega)
                    have Sr := Lib.hid (fun W => impl_SquareFreeOfRank_c W (k : Int))
                    rw [← y1, y2] at Sr
                    obtain ⟨V, hV⟩ : ∃ x, ivL XS k = x := ⟨_, rfl⟩
                    rw [hV] at Sr hc0
                    clear y1 y2 hV
                    go_wp2_with fail
                    refine (Sr.out _).mono ?_
                    rintro e zs1 ⟨rfl, as1⟩
                    replace BB := BB.trans (as1.mono BB.size)
                    have H9 := HR.out _ as1
                    clear as1
                    go_wp2
                    go_roundw
                    case rel => exact ⟨k + 1, by omega, by go_num, BB, H9⟩
                    case measure => simp [intOf]; omega
                · have hki : decide ((k : Int) < (L : Int)) = false := decide_eq_false (by omega)
                  have hki2 : ¬ (k : Int) < (L : Int) := by omega
                  have hki3 : decide (k < L) = false := decide_eq_false hlt
                  go_wp2
                  go_ret
                  exact ⟨rfl, BB⟩
      have hMp : 1 ≤ M := by omega
      clear hM0
      have hMd : decide ((0 : Int) < (M : Int)) = true := decide_eq_true (by omega)
      have hMdN : decide (0 < M) = true := decide_eq_true (by omega)
      have hMi : (0 : Int) < (M : Int) := by omega
      have hsoM : ssOk (M : Int) = true := inB_true.2 (by omega)
      obtain rfl : SO = true := by rw [← GSO.out]; exact hsoM
      obtain rfl : T = T2 := by rw [← GT.out, ssV_yes hsoM, He4.out]
      clear GSO GT GSM He4 hsoM
      have Kc := Lib.hid (fun W => impl_CountSquareFree_c W (M : Int))
      have okM : sqOk (M : Int) = true := inB_true.2 (by omega)
      rw [cqV_yes okM, okM, Hcnt.out] at Kc
      clear okM Hcnt
      have hT1 : decide ((L : Int) < T) = false := decide_eq_false (by omega)
      have hT2 : decide ((L : Int) < -T) = false := decide_eq_false (by omega)
      have hwn : IntKind.i64.wrap (-T) = -T := IntWalk.i64_in _ (by omega)
      have hwLT : IntKind.i64.wrap ((L : Int) - T) = (L : Int) - T := IntWalk.i64_in _ (by omega)
      have hpar : ((L : Int) - T) % 2 = 0 := Hq6.out
      have hLT0 : 0 ≤ (L : Int) - T := by omega
      clear Hq6
      by_cases hR0 : R2 = 0
      · have hRd : decide ((0 : Int) < (R2 : Int)) = false := decide_eq_false (by omega)
        have hRdN : decide (0 < R2) = false := decide_eq_false (by omega)
        have hRi : ¬ (0 : Int) < (R2 : Int) := by omega
        clear Hrun hR0
        as_aux_lemma =>
          have hl2 := hl
          go_wp2_with fail
          refine (tRises_c _ AX L cX XS 1 (M : Int) HX HL.out.symm hl Hris.out).mono ?_
          rintro e zr ⟨rfl, ar9⟩
          replace BB := BB.trans (ar9.mono BB.size)
          have HX := HX.below ar9
          clear ar9 Hris
          go_wp2
          clear Hhas
          go_loopw [63] (fun i wr => i = .int .i64 0 ∧ Below w.heap.size w wr ∧ Il wr AX XS) (fun _ _ => 0)
          case atStart => exact ⟨rfl, BB, HX⟩
          case round =>
            clear BB HX
            obtain ⟨rfl, BB, HX⟩ := hrel
            as_aux_lemma =>
              go_wp2_with fail
              refine (Kc.out _).mono ?_
              rintro e zk1 ⟨rfl, ak1⟩
              replace BB := BB.trans (ak1.mono BB.size)
              have HX := HX.below ak1
              clear ak1
              clear Kc
              go_wp2
              clear hT1 hT2 hwn hwLT hpar hLT0 hMd hMdN hMi hMp
              go_loopw [531] (fun i wr => ∃ k : Nat, k ≤ L ∧ i = .int .i64 (k : Int) ∧ Below w.heap.size w wr ∧ Il wr AX XS) (fun i _ => L - (intOf i).toNat)
              case atStart => exact ⟨0, Nat.zero_le _, rfl, BB, HX⟩
              case round =>
                clear BB HX
                obtain ⟨k, hk, rfl, BB, HX⟩ := hrel
                by_cases hlt : k < L
                · have hki : decide ((k : Int) < (L : Int)) = true := decide_eq_true (by omega)
                  have hki2 : (k : Int) < (L : Int) := by omega
                  have hki3 : decide (k < L) = true := decide_eq_true hlt
                  have hk00 : (0 : Int) ≤ (k : Int) := by omega
                  have hwk : IntKind.i64.wrap ((k : Int) + 1) = (k : Int) + 1 := IntWalk.i64_in _ (by omega)
                  have HR : Hid (∀ W, Below wr.heap.size wr W → Il W AX XS) := fun W hB => HX.below hB
                  obtain ⟨b, off, rfl, hb, hr⟩ := HX (by rw [HL.out]; omega)
                  have hc0 := hr k (by rw [HL.out]; exact hlt)
                  clear hr HX
                  by_cases h3 : 300 < k
                  · have h3d : decide ((300 : Int) < (k : Int)) = true := decide_eq_true (by omega)
                    have h3i : (300 : Int) < (k : Int) := by omega
                    go_wp2
                    go_ret
                    exact ⟨rfl, BB⟩
                  · have h3d : decide ((300 : Int) < (k : Int)) = false := decide_eq_false (by omega)
                    have h3i : ¬ (300 : Int) < (k : Int) := by omega
                    obtain ⟨y1, y2⟩ := HRk.out k hlt (by omega)
                    have Sr := Lib.hid (fun W => impl_SquareFreeOfRank_c W (k : Int))
                    rw [← y1, y2] at Sr
                    obtain ⟨V, hV⟩ : ∃ x, ivL XS k = x := ⟨_, rfl⟩
                    rw [hV] at Sr hc0
                    clear y1 y2 hV
                    go_wp2_with fail
                    refine (Sr.out _).mono ?_
                    rintro e zs1 ⟨rfl, as1⟩
                    replace BB := BB.trans (as1.mono BB.size)
                    have H9 := HR.out _ as1
                    clear as1
                    go_wp2
                    go_roundw
                    case rel => exact ⟨k + 1, by omega, by go_num, BB, H9⟩
                    case measure => simp [intOf]; omega
                · have hki : decide ((k : Int) < (L : Int)) = false := decide_eq_false (by omega)
                  have hki2 : ¬ (k : Int) < (L : Int) := by omega
                  have hki3 : decide (k < L) = false := decide_eq_false hlt
                  go_wp2
                  go_ret
                  exact ⟨rfl, BB⟩
      obtain ⟨r1, r2⟩ := Hrun.out (by omega)
      have hRp : 1 ≤ R2 := by omega
      clear Hrun hR0
      as_aux_lemma =>
        have hRd : decide ((0 : Int) < (R2 : Int)) = true := decide_eq_true (by omega)
        have hRdN : decide (0 < R2) = true := decide_eq_true (by omega)
        have hFdN : decide (F2 < 1) = false := decide_eq_false (by omega)
        have hRi : (0 : Int) < (R2 : Int) := by omega
        have hFd : decide ((F2 : Int) < 1) = false := decide_eq_false (by omega)
        have hwFR : IntKind.i64.wrap ((F2 : Int) + (R2 : Int)) = (F2 : Int) + (R2 : Int) := IntWalk.i64_in _ (by omega)
        have hwFR1 : IntKind.i64.wrap ((F2 : Int) + (R2 : Int) - 1) = (F2 : Int) + (R2 : Int) - 1 := IntWalk.i64_in _ (by omega)
        have hFM : decide ((M : Int) < (F2 : Int) + (R2 : Int) - 1) = false := decide_eq_false (by omega)
        have hl2 := hl
        go_wp2_with fail
        refine (tRises_c _ AX L cX XS 1 (M : Int) HX HL.out.symm hl Hris.out).mono ?_
        rintro e zr ⟨rfl, ar9⟩
        replace BB := BB.trans (ar9.mono BB.size)
        have HX := HX.below ar9
        clear ar9 Hris
        go_wp2
        clear hRd hRi hFd hRdN hFdN hwFR hwFR1 hFM
        go_loopw [63] (fun i wr => ∃ k : Nat, k ≤ R2 ∧ i = .int .i64 (k : Int) ∧ Below w.heap.size w wr ∧ Il wr AX XS) (fun i _ => R2 - (intOf i).toNat)
        case atStart => exact ⟨0, Nat.zero_le _, rfl, BB, HX⟩
        case round =>
          clear BB HX
          obtain ⟨k, hk, rfl, BB, HX⟩ := hrel
          by_cases hlt : k < R2
          · have hki : decide ((k : Int) < (R2 : Int)) = true := decide_eq_true (by omega)
            have hki2 : (k : Int) < (R2 : Int) := by omega
            have hki3 : decide (k < R2) = true := decide_eq_true hlt
            have hwF : IntKind.i64.wrap ((F2 : Int) + (k : Int)) = (F2 : Int) + (k : Int) := IntWalk.i64_in _ (by omega)
            have hwk : IntKind.i64.wrap ((k : Int) + 1) = (k : Int) + 1 := IntWalk.i64_in _ (by omega)
            have Th := Lib.hid (fun W (hW : Il W AX XS) => tHas_c W AX L cX XS hW HL.out.symm hl ((F2 : Int) + (k : Int)))
            rw [Hhas.out k hlt] at Th
            go_wp2_with fail
            refine (Th.out _ HX).mono ?_
            rintro e zh ⟨rfl, rfl⟩
            go_wp2
            go_roundw
            case rel => exact ⟨k + 1, by omega, by go_num, BB, HX⟩
            case measure => simp [intOf]; omega
          · have hki : decide ((k : Int) < (R2 : Int)) = false := decide_eq_false (by omega)
            have hki2 : ¬ (k : Int) < (R2 : Int) := by omega
            have hki3 : decide (k < R2) = false := decide_eq_false hlt
            clear Hhas hk
            as_aux_lemma =>
              go_wp2_with fail
              refine (Kc.out _).mono ?_
              rintro e zk1 ⟨rfl, ak1⟩
              replace BB := BB.trans (ak1.mono BB.size)
              have HX := HX.below ak1
              clear ak1
              clear Kc
              go_wp2
              clear hT1 hT2 hwn hwLT hpar hLT0 hMd hMdN hMi hMp
              go_loopw [531] (fun i wr => ∃ k : Nat, k ≤ L ∧ i = .int .i64 (k : Int) ∧ Below w.heap.size w wr ∧ Il wr AX XS) (fun i _ => L - (intOf i).toNat)
              case atStart => exact ⟨0, Nat.zero_le _, rfl, BB, HX⟩
              case round =>
                clear BB HX
                obtain ⟨k, hk, rfl, BB, HX⟩ := hrel
                by_cases hlt : k < L
                · have hki : decide ((k : Int) < (L : Int)) = true := decide_eq_true (by omega)
                  have hki2 : (k : Int) < (L : Int) := by omega
                  have hki3 : decide (k < L) = true := decide_eq_true hlt
                  have hk00 : (0 : Int) ≤ (k : Int) := by omega
                  have hwk : IntKind.i64.wrap ((k : Int) + 1) = (k : Int) + 1 := IntWalk.i64_in _ (by omega)
                  have HR : Hid (∀ W, Below wr.heap.size wr W → Il W AX XS) := fun W hB => HX.below hB
                  obtain ⟨b, off, rfl, hb, hr⟩ := HX (by rw [HL.out]; omega)
                  have hc0 := hr k (by rw [HL.out]; exact hlt)
                  clear hr HX
                  by_cases h3 : 300 < k
                  · have h3d : decide ((300 : Int) < (k : Int)) = true := decide_eq_true (by omega)
                    have h3i : (300 : Int) < (k : Int) := by omega
                    go_wp2
                    go_ret
                    exact ⟨rfl, BB⟩
                  · have h3d : decide ((300 : Int) < (k : Int)) = false := decide_eq_false (by omega)
                    have h3i : ¬ (300 : Int) < (k : Int) := by omega
                    obtain ⟨y1, y2⟩ := HRk.out k hlt (by omega)
                    have Sr := Lib.hid (fun W => impl_SquareFreeOfRank_c W (k : Int))
                    rw [← y1, y2] at Sr
                    obtain ⟨V, hV⟩ : ∃ x, ivL XS k = x := ⟨_, rfl⟩
                    rw [hV] at Sr hc0
                    clear y1 y2 hV
                    go_wp2_with fail
                    refine (Sr.out _).mono ?_
                    rintro e zs1 ⟨rfl, as1⟩
                    replace BB := BB.trans (as1.mono BB.size)
                    have H9 := HR.out _ as1
                    clear as1
                    go_wp2
                    go_roundw
                    case rel => exact ⟨k + 1, by omega, by go_num, BB, H9⟩
                    case measure => simp [intOf]; omega
                · have hki : decide ((k : Int) < (L : Int)) = false := decide_eq_false (by omega)
                  have hki2 : ¬ (k : Int) < (L : Int) := by omega
                  have hki3 : decide (k < L) = false := decide_eq_false hlt
                  go_wp2
                  go_ret
                  exact ⟨rfl, BB⟩

set_option maxRecDepth 100000 in
theorem lifted_FnSquareFree (os : Os) (started : os.Started) (H : Type) (enc : TypeId × Value → H) :
    ReturnsInHanded {} Try.checked os 3 .any (Rows.fnSquareFreeSpec.pre6 enc Try.prog Try.f3 Rows.fnSquareFreeRow.domain false) (Rows.fnSquareFreeSpec.post enc Try.prog Try.f3 false true false false) := by
  refine returnsInHanded_of_change (C := Try.checked) own started (by kernel_rfl) Try.func3
    (ChangeSpec.witness6 (enc := enc) (C := Try.checked) false ⟨#[], #[.slice none 0 0, .slice none 0 0], []⟩ 8 (by kernel_rfl) (by kernel_rfl) (by kernel_rfl) (by kernel_rfl)) ?_
  intro W base args ds gs before hval0 hW hcnd _
  have hval : ∀ (j : Nat) t v, Try.f3.params[j]? = some t → args[j]? = some v → Value.okWide Try.prog W .any base t v := hval0
  have hW' := hW
  obtain ⟨p, q, hA0, hV, rfl, hfz, hnd⟩ := hW
  have hA : DataW.TrodAll enc Try.prog W 0 (fun _ => true) true Try.f3.params.toList args.toList ds p := hA0
  rw [Try.params3] at hA hval
  obtain ⟨v0, vs0, d0, ds0, p0, q0, hargs, rfl, rfl, h0, r0⟩ := trodAll_cons hA
  obtain ⟨v1, vs1, d1, ds1, p1, q1, rfl, rfl, rfl, h1, r1⟩ := trodAll_cons r0
  obtain ⟨rfl, rfl, rfl⟩ := trodAll_nil r1
  obtain rfl : args = #[v0, v1] := by cases args; simp_all
  obtain ⟨rfl, rfl⟩ := trodVars_none hV
  have k0 := h0
  have lt0 : ∀ x ∈ p0, x.block < W.heap.size := by obtain ⟨m, hm⟩ := k0; exact DataW.trod_lt m _ _ _ hm
  obtain ⟨A0, n0, c0, rfl, m0, Y0⟩ := open_byt (hval 0 22 v0 rfl rfl) h0
  have k1 := h1
  have lt1 : ∀ x ∈ p1, x.block < W.heap.size := by obtain ⟨m, hm⟩ := k1; exact DataW.trod_lt m _ _ _ hm
  obtain ⟨A1, n1, c1, rfl, m1, Y1⟩ := open_byt (hval 1 22 v1 rfl rfl) h1
  clear hA0 hval0
  refine (walk_FnSquareFree W A0 n0 c0 m0 Y0 A1 n1 c1 m1 Y1).mono fun e W' ⟨he, bel⟩ => ?_
  subst he
  exact ⟨_, rfl, _, _, _, [], _, [], hW', trodAll_mk1 (shut_bool Try.underlying4 _), (trodAll_cons_mk (Below.trod laidOut (by kernel_rfl) (of_decide_eq_true (by kernel_rfl)) k0 bel lt0) (trodAll_cons_mk (Below.trod laidOut (by kernel_rfl) (of_decide_eq_true (by kernel_rfl)) k1 bel lt1) trodAll_mk0)), rfl, bel.frame _, fun h => by cases h⟩

theorem closed_FnSquareFree : joinedFacts Try.prog 3 Try.f3 Rows.fnSquareFreeSpec Rows.fnSquareFreeRow = true := by
  unfold joinedFacts
  rw [head_enters, head_final, head_make]
  kernel_rfl
theorem over_FnSquareFree : Rows.fnSquareFreeRow.holds Try.pinned (OpenSpec.ofChange Rows.fnSquareFreeSpec) :=
  OpenClaim.holds_of_wide 3 Try.f3 rfl rfl rfl rfl rfl rfl rfl ⟨rfl, rfl, rfl, rfl, rfl⟩ rfl rfl rfl rfl rfl (by kernel_rfl) Try.func3 closed_FnSquareFree
    (of_decide_eq_true (by kernel_rfl)) (by unfold Func.isWrapper; first | (rw [if_pos (by decide +kernel)]; kernel_rfl) | (rw [if_neg (by decide +kernel)]; exact ⟨rfl, rfl⟩))
    (fun os started H enc _ => lifted_FnSquareFree os started H enc)

theorem fnSquareFree_holds : Rows.FnSquareFreeSaid := over_FnSquareFree

end Go.Proofs.Ytehppjdiegoeeaa
