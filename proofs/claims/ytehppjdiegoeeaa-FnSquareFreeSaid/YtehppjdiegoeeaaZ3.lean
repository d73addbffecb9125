import Derived.Test.YtehppjdiegoeeaaZ2
import Derived.Test.YtehppjdiegoeeaaU4
import Derived.Test.YtehppjdiegoeeaaP0
import Derived.Deep.RegionLaw
namespace Go.Proofs.Ytehppjdiegoeeaa
open Go.RowKit
set_option linter.unusedVariables false
set_option linter.unusedSimpArgs false



theorem twB_no {N p : Nat} (h : p ∈ fks N) (h2 : (p : Int) % 4 = 3) (h3 : (exF N p : Int) % 2 ≠ 0) : sq2B N = false := by
  obtain ⟨x, hx, rfl⟩ := fks_mem.1 h
  rw [exF_of hx] at h3
  rw [sq2B, List.all_eq_false]
  refine ⟨x, hx, ?_⟩
  have e1 : x.1 % 4 = 3 := by omega
  have e2 : x.2 % 2 = 1 := by omega
  rw [twG, e1, e2]
  decide
theorem twB_yes {N : Nat} (h : ∀ p ∈ fks N, ¬ ((p : Int) % 4 = 3 ∧ (exF N p : Int) % 2 ≠ 0)) : sq2B N = true := by
  rw [sq2B, List.all_eq_true]
  intro x hx
  have h2 := h x.1 (fks_mem.2 ⟨x, hx, rfl⟩)
  rw [exF_of hx] at h2
  rw [twG, Bool.not_eq_true', Bool.and_eq_false_iff, beq_eq_false_iff_ne, beq_eq_false_iff_ne]
  by_cases e : x.1 % 4 = 3
  · right
    intro e2
    exact h2 ⟨by omega, by omega⟩
  · exact .inl e


set_option maxRecDepth 100000 in
set_option maxHeartbeats 800000 in
theorem impl_LongestSquareful_c (w : World) (n : Int) :
    Calls Try.prog 23 #[.int .i64 n] w fun en w' => en = .returned (.tuple #[.int .i64 (lqV n), .int .i64 (lfstV n), .bool (smOk n)]) ∧ Below w.heap.size w w' := by
  cases hg : mostB n with
  | false =>
    have ho : smOk n = false := hg
    rw [lqV_no ho, lfstV_no ho, ho]
    clear ho
    go_enter Try.func23, Try.ntmps23
    go_wp2_with fail
    refine (isMost_c _ _).mono ?_
    rintro e w1 ⟨rfl, rfl⟩
    go_wp2
    go_ret3
    exact ⟨rfl, (Below.refl _ _)⟩
  | true =>
    have ho : smOk n = true := hg
    obtain ⟨n1, n2⟩ := inB_true.1 (show inB n 0 600 = true from hg)
    obtain ⟨N, rfl⟩ := Int.eq_ofNat_of_zero_le n1
    rw [lqV_yes ho, lfstV_yes ho, ho]
    clear ho
    have N9 : N ≤ 600 := by omega
    clear n1 n2
    have Hg := Lib.hid hg
    go_enter Try.func23, Try.ntmps23
    go_wp2_with fail
    refine (isMost_c _ _).mono ?_
    rintro e w1 ⟨rfl, rfl⟩
    go_wp2
    go_loopw [5, 6, 7, 8] (fun b f r i wr => ∃ k B F R : Nat, k ≤ N ∧ i = .int .i64 ((k : Int) + 1) ∧ b = .int .i64 (B : Int) ∧ f = .int .i64 (F : Int) ∧ r = .int .i64 (R : Int) ∧ lsS k = (B, F, R) ∧ Below w.heap.size w wr) (fun _ _ _ i _ => 603 - (intOf i).toNat)
    case atStart => exact ⟨0, 0, 0, 0, Nat.zero_le _, rfl, rfl, rfl, rfl, rfl, Below.refl _ _⟩
    case round =>
      obtain ⟨k, B, F, R, hk, rfl, rfl, rfl, rfl, hL, hbel⟩ := hrel
      have hs := hbel.size
      have hle := lsS_le k
      rw [hL] at hle
      dsimp only at hle
      obtain ⟨l1, l2, l3⟩ := hle
      have HL := Lib.hid hL
      clear hL
      by_cases hlt : k < N
      · have Hc := Lib.hid (fun W => isSquareFree_c W (k + 1) (by omega) (by omega))
        rw [show ((k + 1 : Nat) : Int) = (k : Int) + 1 by omega] at Hc
        cases hp : sfB (k + 1) with
        | true =>
          rw [hp] at Hc
          have Hst := Lib.hid (lsS_free hp)
          clear hp
          go_wp2_with fail
          refine (Hc.out _).mono ?_
          rintro e w1 ⟨rfl, b1⟩
          go_wp2
          go_roundw
          case rel => exact ⟨k + 1, B, F, 0, by omega, by go_num, rfl, rfl, rfl, by rw [Hst.out, HL.out], hbel.trans (b1.mono hs)⟩
          case measure => simp [intOf]; omega
        | false =>
          rw [hp] at Hc
          by_cases hm : B < R + 1
          · have Hst := Lib.hid (lsS_more hp (by rw [HL.out]; exact hm))
            clear hp
            go_wp2_with fail
            refine (Hc.out _).mono ?_
            rintro e w1 ⟨rfl, b1⟩
            go_wp2
            go_roundw
            case rel => exact ⟨k + 1, R + 1, k + 1 - R, R + 1, by omega, by go_num, by go_num, by go_num, by go_num, by rw [Hst.out, HL.out], hbel.trans (b1.mono hs)⟩
            case measure => simp [intOf]; omega
          · have Hst := Lib.hid (lsS_same hp (by rw [HL.out]; exact hm))
            clear hp
            go_wp2_with fail
            refine (Hc.out _).mono ?_
            rintro e w1 ⟨rfl, b1⟩
            go_wp2
            go_roundw
            case rel => exact ⟨k + 1, B, F, R + 1, by omega, by go_num, rfl, rfl, by go_num, by rw [Hst.out, HL.out], hbel.trans (b1.mono hs)⟩
            case measure => simp [intOf]; omega
      · have Hk := Lib.hid (show k = N by omega)
        go_wp2
        go_ret3
        exact ⟨by rw [← Hk.out, HL.out]; rfl, hbel⟩

set_option maxRecDepth 100000 in
set_option maxHeartbeats 800000 in
theorem countSquareFree_c (w : World) (N : Nat) (h1 : 1 ≤ N) (h9 : N ≤ 100000) :
    Calls Try.prog 45 #[.int .i64 (N : Int)] w fun e w' => e = .returned (.int .i64 (csS N (rtF N))) ∧ Below w.heap.size w w' := by
  have hrt := rtF_lt (n := N) (by omega)
  obtain ⟨T, hT⟩ : ∃ T, rtF N = T := ⟨_, rfl⟩
  have HT := Lib.hid hT
  rw [hT] at hrt ⊢
  clear hT
  go_enter Try.func45, Try.ntmps45
  go_wp2
  go_loopw [3, 4] (fun s r wr => ∃ k : Nat, k ≤ T ∧ r = .int .i64 ((k : Int) + 1) ∧ s = .int .i64 (csS N k) ∧ Below w.heap.size w wr) (fun _ i _ => 449 - (intOf i).toNat)
  case atStart => exact ⟨0, Nat.zero_le _, rfl, rfl, Below.refl _ _⟩
  case round =>
    obtain ⟨k, hk, rfl, rfl, hbel⟩ := hrel
    have hs := hbel.size
    have hbn := csS_bound N k
    have hb9 : k * N ≤ 44700000 := by have := Nat.mul_le_mul (show k ≤ 447 by omega) h9; omega
    obtain ⟨D, hD⟩ : ∃ D, (k + 1) * (k + 1) = D := ⟨_, rfl⟩
    have hDi : ((k : Int) + 1) * ((k : Int) + 1) = (D : Int) := cast_sq hD
    have hD9 : D ≤ 200704 := by have := Nat.mul_le_mul (show k + 1 ≤ 448 by omega) (show k + 1 ≤ 448 by omega); omega
    have hD1 : 1 ≤ D := by have := Nat.mul_le_mul (show 1 ≤ k + 1 by omega) (show 1 ≤ k + 1 by omega); omega
    have hz : ((D : Int) == 0) = false := beq_eq_false_iff_ne.2 (by omega)
    have HD := Lib.hid hD
    have Hst := Lib.hid (show csS N (k + 1) = csS N k + sgF (k + 1) * ((N / D : Nat) : Int) by rw [csS, hD])
    clear hD
    obtain ⟨S, hS⟩ : ∃ S, csS N k = S := ⟨_, rfl⟩
    rw [hS] at hbn Hst ⊢
    have hbS : -44700000 ≤ S ∧ S ≤ 44700000 := by omega
    clear hbn hb9
    have HS := Lib.hid hS
    clear hS
    by_cases hlt : D ≤ N
    · have hk2 : k + 1 ≤ T := by rw [← HT.out]; exact rtF_more (by rw [HD.out]; exact hlt)
      have hq := Nat.div_le_self N D
      obtain ⟨Q, hQ⟩ : ∃ Q, N / D = Q := ⟨_, rfl⟩
      have hQi : (N : Int) / (D : Int) = (Q : Int) := by rw [← hQ, Int.natCast_ediv]
      rw [hQ] at hq Hst
      have hg := sg_mul (k + 1) Q
      have hgb := sgF_bound (k + 1)
      have Hc := Lib.hid (fun W => sign_c W (k + 1) (by omega) (by omega))
      rw [show ((k + 1 : Nat) : Int) = (k : Int) + 1 by omega] at Hc
      obtain ⟨G, hG⟩ : ∃ G, sgF (k + 1) = G := ⟨_, rfl⟩
      rw [hG] at hg hgb Hst Hc
      obtain ⟨M, hM⟩ : ∃ M, G * (Q : Int) = M := ⟨_, rfl⟩
      rw [hM] at hg Hst
      have hw1 : IntKind.i64.wrap (D : Int) = (D : Int) := IntWalk.i64_in _ (by omega)
      have hw2 : IntKind.i64.wrap (Q : Int) = (Q : Int) := IntWalk.i64_in _ (by omega)
      have hw3 : IntKind.i64.wrap M = M := IntWalk.i64_in _ (by omega)
      have hw4 : IntKind.i64.wrap (S + M) = S + M := IntWalk.i64_in _ (by omega)
      have hne : ¬ D = 0 := by omega
      clear hG hQ
      go_wp2_with fail
      go_region_law (first | (go_simp; go_at_call 43; (refine (Hc.out _).mono ?_; rintro e w5 ⟨rfl, b5⟩)) | fail)
      all_goals clear hw1 hw2 hw3 hw4 hne
      all_goals go_wp2_with fail
      all_goals go_roundw
      all_goals try (case rel => exact ⟨k + 1, hk2, by go_num, by rw [Hst.out], (hbel.trans (show Below w.heap.size wr wr.drew from ⟨rfl, rfl, rfl, Nat.le_refl _, fun _ _ => rfl⟩)).trans (b5.mono hs)⟩)
      all_goals try (case measure => simp [intOf]; omega)
    · have Hk := Lib.hid (show k = T by rw [← HT.out]; exact rtF_stop (by rw [HT.out]; exact hk) (by rw [HD.out]; omega))
      go_wp2
      go_ret
      exact ⟨by rw [← Hk.out, HS.out]; rfl, hbel⟩

set_option maxRecDepth 100000 in
set_option maxHeartbeats 400000 in
theorem told_CountSquareFree_c (w : World) (n : Int) :
    Calls Try.prog 38 #[.int .i64 n, .func (.func 45) #[] #[]] w fun en w' => en = .returned (.tuple #[.int .i64 (cqV n), .bool (sqOk n)]) ∧ Below w.heap.size w w' := by
  have Hc := Lib.hid (fun W => toldI_c W n 100000 (by omega) 45 (fun N => csS N (rtF N)) (fun _ _ => rfl) fun W N a b => countSquareFree_c W N a (by omega))
  go_enter Try.func38, Try.ntmps38
  go_wp2_with fail
  refine (Hc.out _).mono ?_
  rintro e w2 ⟨rfl, b2⟩
  go_wp2
  go_ret2
  exact ⟨rfl, b2⟩
theorem impl_CountSquareFree_c (w : World) (n : Int) :
    Calls Try.prog 15 #[.int .i64 n] w fun en w' => en = .returned (.tuple #[.int .i64 (cqV n), .bool (sqOk n)]) ∧ Below w.heap.size w w' := by
  go_enter Try.func15, Try.ntmps15
  go_wp2_with fail
  refine (told_CountSquareFree_c _ _).mono ?_
  rintro e w2 ⟨rfl, b2⟩
  go_wp2
  go_ret2
  exact ⟨rfl, b2⟩

end Go.Proofs.Ytehppjdiegoeeaa
