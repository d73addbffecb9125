import Derived.Test.YtapjbppkekigaabJ3
import Derived.Test.YtapjbppkekigaabPC
import Derived.Test.YtapjbppkekigaabY8
import Derived.Test.YtapjbppkekigaabP0
namespace Go.Proofs.Ytapjbppkekigaab
open Go.RowKit
set_option linter.unusedVariables false
set_option linter.unusedSimpArgs false

set_option maxRecDepth 100000 in
theorem impl_CountDivisors_c (w : World) (n : Int) :
    Calls Try.prog 9 #[.int .i64 n] w fun en w' => en = .returned (.tuple #[.int .i64 (cdV n), .bool (dvOk n)]) ∧ Below w.heap.size w w' := by
  have Hc := Lib.hid (fun W => toldI_c W n 1000000 (by omega) 34 (fun N => ((dvD N).length : Int)) (fun _ _ => rfl) fun W N a b => countDivisors_c W N a (by omega))
  go_enter Try.func9, Try.ntmps9
  go_wp2_with fail
  refine (Hc.out _).mono ?_
  rintro e w2 ⟨rfl, b2⟩
  go_wp2
  go_ret2
  exact ⟨rfl, b2⟩
set_option maxRecDepth 100000 in
theorem impl_SumDivisors_c (w : World) (n : Int) :
    Calls Try.prog 11 #[.int .i64 n] w fun en w' => en = .returned (.tuple #[.int .i64 (sdV n), .bool (dvOk n)]) ∧ Below w.heap.size w w' := by
  have Hc := Lib.hid (fun W => toldI_c W n 1000000 (by omega) 35 dvS (fun _ _ => rfl) fun W N a b => sumDivisors_c W N a (by omega))
  go_enter Try.func11, Try.ntmps11
  go_wp2_with fail
  refine (Hc.out _).mono ?_
  rintro e w2 ⟨rfl, b2⟩
  go_wp2
  go_ret2
  exact ⟨rfl, b2⟩
set_option maxRecDepth 100000 in
theorem impl_TotientOf_c (w : World) (n : Int) :
    Calls Try.prog 13 #[.int .i64 n] w fun en w' => en = .returned (.tuple #[.int .i64 (totV n), .bool (dvOk n)]) ∧ Below w.heap.size w w' := by
  have Hc := Lib.hid (fun W => toldI_c W n 1000000 (by omega) 37 (fun N => (toF N : Int)) (fun _ _ => rfl) fun W N a b => totient_c W N a (by omega))
  go_enter Try.func13, Try.ntmps13
  go_wp2_with fail
  refine (Hc.out _).mono ?_
  rintro e w2 ⟨rfl, b2⟩
  go_wp2
  go_ret2
  exact ⟨rfl, b2⟩
set_option maxRecDepth 100000 in
theorem impl_MoebiusOf_c (w : World) (n : Int) :
    Calls Try.prog 15 #[.int .i64 n] w fun en w' => en = .returned (.tuple #[.int .i64 (mobV n), .bool (dvOk n)]) ∧ Below w.heap.size w w' := by
  have Hc := Lib.hid (fun W => toldI_c W n 1000000 (by omega) 39 sgD (fun _ _ => rfl) fun W N a b => by rw [← sg_same a]; exact sign_c W N a (by omega))
  go_enter Try.func15, Try.ntmps15
  go_wp2_with fail
  refine (Hc.out _).mono ?_
  rintro e w2 ⟨rfl, b2⟩
  go_wp2
  go_ret2
  exact ⟨rfl, b2⟩
set_option maxRecDepth 100000 in
theorem impl_SumStep_c (w : World) (n : Int) :
    Calls Try.prog 17 #[.int .i64 n] w fun en w' => en = .returned (.tuple #[.int .i64 (stpV n), .bool (dvOk n)]) ∧ Below w.heap.size w w' := by
  have Hc := Lib.hid (fun W => toldI_c W n 1000000 (by omega) 41 (fun N => dvS N - (N : Int)) (fun _ _ => rfl) fun W N a b => sumStep_c W N a (by omega))
  have Hv : Hid (tdV (fun N => dvS N - (N : Int)) n 1000000 = stpV n) := by
    show _ = _
    cases h : dvOk n with
    | false => rw [stpV_no h]; exact tdV_no h
    | true =>
      obtain ⟨n1, n9⟩ := inB_true.1 h
      obtain ⟨N, rfl⟩ := Int.eq_ofNat_of_zero_le (Int.le_trans (by omega) n1)
      rw [stpV_yes h]
      exact tdV_yes h
  rw [← Hv.out]
  go_enter Try.func17, Try.ntmps17
  go_wp2_with fail
  refine (Hc.out _).mono ?_
  rintro e w2 ⟨rfl, b2⟩
  go_wp2
  go_ret2
  exact ⟨rfl, b2⟩
theorem isDivided_c (n : Int) (w : World) :
    Calls Try.prog 44 #[.int .i64 n] w fun en w' => en = .returned (.bool (dvOk n)) ∧ w = w' := by
  by_cases h1 : 1 ≤ n
  · by_cases h2 : n ≤ 1000000
    · rw [show dvOk n = true from inB_true.2 ⟨h1, h2⟩]
      go_enter Try.func44, Try.ntmps44
      go_wp2
      go_ret
      exact ⟨rfl, rfl⟩
    · rw [show dvOk n = false from inB_false.2 (by omega)]
      go_enter Try.func44, Try.ntmps44
      go_wp2
      go_ret
      exact ⟨rfl, rfl⟩
  · rw [show dvOk n = false from inB_false.2 (by omega)]
    go_enter Try.func44, Try.ntmps44
    go_wp2
    go_ret
    exact ⟨rfl, rfl⟩
set_option maxRecDepth 100000 in
set_option maxHeartbeats 400000 in
theorem impl_AmicableOf_c (w : World) (n : Int) :
    Calls Try.prog 26 #[.int .i64 n] w fun en w' => en = .returned (.tuple #[.int .i64 (amV n), .bool (amOk n)]) ∧ Below w.heap.size w w' := by
  have Hs := Lib.hid (fun W => impl_SumStep_c W n)
  cases hg : dvOk n with
  | false =>
    rw [stpV_no hg, hg] at Hs
    have ho := amOk_no hg
    rw [amV_no ho, ho]
    clear hg ho
    go_enter Try.func26, Try.ntmps26
    go_wp2_with fail
    refine (Hs.out _).mono ?_
    rintro e w2 ⟨rfl, b2⟩
    go_wp2
    go_ret2
    exact ⟨rfl, b2⟩
  | true =>
    obtain ⟨n1, n9⟩ := inB_true.1 hg
    obtain ⟨N, rfl⟩ := Int.eq_ofNat_of_zero_le (Int.le_trans (by omega) n1)
    rw [stpV_yes hg, hg] at Hs
    have N1 : 1 ≤ N := by omega
    have hsm := dvS_small N1 (by omega)
    have hst := stN_is N1
    have ho := amOk_yes hg
    have Hv := Lib.hid (fun h => amV_yes (n := N) h)
    have Hv0 := Lib.hid (fun h => amV_no (n := (N : Int)) h)
    obtain ⟨m, hm⟩ : ∃ m, stN N = m := ⟨_, rfl⟩
    rw [hst, hm] at Hs
    rw [hm] at hst Hv
    have hm9 : m ≤ 2000000000 := by omega
    have Hb : Hid (amB N = decide (m ≠ N ∧ m ≠ 0 ∧ stN m = N)) := by show _ = _; rw [amB, hm]
    rw [Hb.out] at ho
    clear hg n1 n9 hsm hst hm
    by_cases e0 : m = 0
    · rw [decide_eq_false (by omega)] at ho
      have Ho := Lib.hid (Hv0.out ho)
      rw [Ho.out, ho]
      subst e0
      clear ho
      go_enter Try.func26, Try.ntmps26
      go_wp2_with fail
      refine (Hs.out _).mono ?_
      rintro e w2 ⟨rfl, b2⟩
      go_wp2
      go_ret2
      exact ⟨rfl, b2⟩
    · by_cases e1 : m = N
      · rw [decide_eq_false (by omega)] at ho
        have Ho := Lib.hid (Hv0.out ho)
        rw [Ho.out, ho]
        subst e1
        have hz : ((m : Int) == 0) = false := beq_eq_false_iff_ne.2 (by omega)
        clear ho
        go_enter Try.func26, Try.ntmps26
        go_wp2_with fail
        refine (Hs.out _).mono ?_
        rintro e w2 ⟨rfl, b2⟩
        go_wp2
        go_ret2
        exact ⟨rfl, b2⟩
      · have hz : ((m : Int) == 0) = false := beq_eq_false_iff_ne.2 (by omega)
        have hz1 : ((m : Int) == (N : Int)) = false := beq_eq_false_iff_ne.2 (by omega)
        have M1 : 1 ≤ m := by omega
        have Hm := Lib.hid (fun W => sumStep_c W m M1 (by omega))
        rw [stN_is M1] at Hm
        obtain ⟨q, hq⟩ : ∃ q, stN m = q := ⟨_, rfl⟩
        rw [hq] at Hm ho
        clear hq
        by_cases e2 : q = N
        · rw [decide_eq_true ⟨e1, e0, e2⟩] at ho
          have Ho := Lib.hid (Hv.out ho)
          rw [Ho.out, ho]
          have hz2 : ((q : Int) != (N : Int)) = false := by rw [e2]; simp
          clear ho e2
          go_enter Try.func26, Try.ntmps26
          go_wp2_with fail
          refine (Hs.out _).mono ?_
          rintro e w2 ⟨rfl, b2⟩
          go_wp2_with fail
          refine (Hm.out _).mono ?_
          rintro e w3 ⟨rfl, b3⟩
          go_wp2
          go_ret2
          exact ⟨rfl, b2.trans (b3.mono b2.size)⟩
        · rw [decide_eq_false (fun h => e2 h.2.2)] at ho
          have Ho := Lib.hid (Hv0.out ho)
          rw [Ho.out, ho]
          have hz2 : ((q : Int) != (N : Int)) = true := bne_iff_ne.2 (by omega)
          clear ho e2
          go_enter Try.func26, Try.ntmps26
          go_wp2_with fail
          refine (Hs.out _).mono ?_
          rintro e w2 ⟨rfl, b2⟩
          go_wp2_with fail
          refine (Hm.out _).mono ?_
          rintro e w3 ⟨rfl, b3⟩
          go_wp2
          go_ret2
          exact ⟨rfl, b2.trans (b3.mono b2.size)⟩
end Go.Proofs.Ytapjbppkekigaab
