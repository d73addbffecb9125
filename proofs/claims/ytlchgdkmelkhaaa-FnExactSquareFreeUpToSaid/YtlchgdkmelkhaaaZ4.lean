import Derived.Test.YtlchgdkmelkhaaaZ3
namespace Go.Proofs.Ytlchgdkmelkhaaa
open Go.RowKit
set_option linter.unusedVariables false
set_option linter.unusedSimpArgs false

theorem sfB_one : sfB 1 = true := (sfB_iff (Nat.le_refl _)).2 fun m hm h => by
  have := Nat.le_of_dvd (by omega) h
  have := Nat.mul_le_mul hm hm
  omega
theorem srF_rank : ∀ k, k ≤ 300 → (flF sfB 1 (srF k - 1)).length = k ∧ sfB (srF k) = true ∧ 1 ≤ srF k
  | 0, _ => ⟨rfl, sfB_one, Nat.le_refl _⟩
  | k + 1, hk => by
    obtain ⟨a, b, c⟩ := srF_rank k (by omega)
    have hle := srF_le hk
    have h1 := nsF_ge (srF k + 1)
    have hn : srF (k + 1) = nsF (srF k + 1) := rfl
    rw [hn] at hle ⊢
    obtain ⟨d, e⟩ := nsF_is (n := srF k + 1) (by omega)
    generalize nsF (srF k + 1) = n' at *
    generalize srF k = n at *
    refine ⟨?_, d, by omega⟩
    obtain ⟨j, rfl⟩ : ∃ j, n = j + 1 := ⟨n - 1, by omega⟩
    rw [show n' - 1 = (j + 1) + (n' - 1 - (j + 1)) by omega, flF_cut (fun m h2 h3 => e m (by omega) (by omega)), flF_yes (by rw [Nat.add_comm]; exact b)]
    rw [show j + 1 - 1 = j by omega] at a
    rw [List.length_append, a]
    rfl
theorem srF_at {k : Nat} (hk : k ≤ 300) : k < (flF sfB 1 600).length ∧ ivL (flF sfB 1 600) k = (srF k : Int) := by
  obtain ⟨a, b, c⟩ := srF_rank k hk
  have hle := srF_le hk
  have h := flF_at (p := sfB) (a := 1) (j := srF k - 1) (k := 600) (by rw [show 1 + (srF k - 1) = srF k by omega]; exact b) (by omega)
  rw [a, show 1 + (srF k - 1) = srF k by omega] at h
  obtain ⟨h1, h2⟩ := List.getElem?_eq_some_iff.1 h
  exact ⟨h1, by rw [ivL, List.getD_eq_getElem?_getD, h]; rfl⟩

set_option maxRecDepth 100000 in
set_option maxHeartbeats 800000 in
theorem takenAsked_c (w : World) (K : Nat) (hK : K ≤ 600) (p : Nat → Bool) (bp : Nat)
    (hcl : ∀ n : Nat, 1 ≤ n → n ≤ K → ∀ W, Below w.heap.size w W → Calls Try.prog 95 #[.int .i64 (n : Int), .pointer (some ⟨bp, 0, none⟩)] W fun e W' => e = .returned (.bool (p n)) ∧ Below W.heap.size W W') :
    Calls Try.prog 94 #[.int .i64 (K : Int), .func (.func 95) #[] #[.pointer (some ⟨bp, 0, none⟩)]] w fun en w' => (∃ v, en = .returned v ∧ OwnI w' w.heap.size v (flF p 1 K)) ∧ Below w.heap.size w w' := by
  have Hcl := Lib.hid hcl
  clear hcl
  go_enter Try.func94, Try.ntmps94
  go_wp2
  go_loopw [5, 6] (fun v i wr => ∃ k : Nat, k ≤ K ∧ i = .int .i64 ((k : Int) + 1) ∧ OwnI wr w.heap.size v (flF p 1 k) ∧ Below w.heap.size w wr) (fun _ i _ => K + 1 - (intOf i).toNat)
  case atStart => exact ⟨0, Nat.zero_le _, rfl, OwnI.nil _ _, Below.refl _ _⟩
  case round =>
    obtain ⟨k, hk, rfl, hown, hbel⟩ := hrel
    have Hown := Lib.hid hown
    clear hown
    have hs := hbel.size
    by_cases hlt : k < K
    · have hul := flF_len p 1 k
      have Hc := Lib.hid (Hcl.out (1 + k) (by omega) (by omega) _ hbel)
      rw [show ((1 + k : Nat) : Int) = (k : Int) + 1 by omega] at Hc
      cases hl : p (1 + k) with
      | true =>
        have Hy := Lib.hid (flF_yes hl)
        rw [hl] at Hc
        clear hl
        go_wp2_with fail
        refine Hc.out.mono ?_
        rintro e w5 ⟨rfl, b5⟩
        have Hown5 := Lib.hid (OwnI.below Hown.out b5)
        have hb5 := hbel.trans (b5.mono hs)
        have hs5 := hb5.size
        go_wp2_with (at_builtin; refine wp_app_int _ rfl _ _ rfl w.heap.size _ _ rfl Hown5.out _ rfl (by omega) hs5 ?_; intro v' w6 hown6 b6)
        go_roundw
        case rel => exact ⟨k + 1, by omega, by go_num, by rw [Hy.out, Nat.add_comm 1 k]; exact hown6, hb5.trans b6⟩
        case measure => simp [intOf]; omega
      | false =>
        have Hy := Lib.hid (flF_no hl)
        rw [hl] at Hc
        clear hl
        go_wp2_with fail
        refine Hc.out.mono ?_
        rintro e w5 ⟨rfl, b5⟩
        have Hown5 := Lib.hid (OwnI.below Hown.out b5)
        go_wp2
        go_roundw
        case rel => exact ⟨k + 1, by omega, by go_num, by rw [Hy.out]; exact Hown5.out, hbel.trans (b5.mono hs)⟩
        case measure => simp [intOf]; omega
    · have hkK : k = K := by omega
      subst hkK
      go_wp2
      go_ret
      exact ⟨⟨_, rfl, Hown.out⟩, hbel⟩

set_option maxRecDepth 100000 in
set_option maxHeartbeats 400000 in
theorem askedUpTo1_isSquareFree_c (w : World) (bp : Nat) (hc : w.cell? ⟨bp, 0, none⟩ = some (.func (.func 66) #[] #[])) (n : Nat) (h1 : 1 ≤ n) (h9 : n ≤ 600) :
    Calls Try.prog 95 #[.int .i64 (n : Int), .pointer (some ⟨bp, 0, none⟩)] w fun en w' => en = .returned (.bool (sfB n)) ∧ Below w.heap.size w w' := by
  go_enter Try.func95, Try.ntmps95
  go_wp2_with fail
  refine (isSquareFree_c _ n h1 (by omega)).mono ?_
  rintro e w1 ⟨rfl, b1⟩
  go_wp2
  go_ret
  exact ⟨rfl, b1⟩
set_option maxRecDepth 100000 in
set_option maxHeartbeats 400000 in
theorem askedUpTo_isSquareFree_c (w : World) (K : Nat) (hK : K ≤ 600) :
    Calls Try.prog 79 #[.int .i64 (K : Int), .func (.func 66) #[] #[]] w fun en w' => (∃ v, en = .returned v ∧ OwnI w' w.heap.size v (flF sfB 1 K)) ∧ Below w.heap.size w w' := by
  have hmf : ∀ (fn : Fn) (first cap : Array Value) (w : World), (Instr.makeFunc fn first cap).run Try.prog w = .ok (.func fn first cap) w := fun _ _ _ _ => rfl
  have b0 : Below w.heap.size w (w.alloc (.cells #[.func (.func 66) #[] #[]] 41)) := (Below.refl _ _).alloc (Nat.le_refl _) _
  have hc0 : (w.alloc (.cells #[.func (.func 66) #[] #[]] 41)).cell? ⟨w.heap.size, 0, none⟩ = some (.func (.func 66) #[] #[]) := by simp
  have hs0 : w.heap.size < (w.alloc (.cells #[.func (.func 66) #[] #[]] 41)).heap.size := by simp
  have Hc := Lib.hid (takenAsked_c _ K hK sfB w.heap.size fun n n1 n9 W hW => askedUpTo1_isSquareFree_c W w.heap.size ((hW.cell (p := ⟨w.heap.size, 0, none⟩) hs0).trans hc0) n n1 (by omega))
  have B0 := Lib.hid b0
  have hsz := b0.size
  clear hc0 hs0 b0
  go_enter Try.func79, Try.ntmps79
  go_wp2_with fail
  refine Hc.out.mono ?_
  rintro e w1 ⟨⟨v, rfl, o1⟩, b1⟩
  go_wp2
  go_ret
  exact ⟨⟨_, rfl, OwnI.mono o1 hsz⟩, B0.out.trans (b1.mono hsz)⟩

set_option maxRecDepth 100000 in
set_option maxHeartbeats 400000 in
theorem askedUpTo1_isSumOfTwo_c (w : World) (bp : Nat) (hc : w.cell? ⟨bp, 0, none⟩ = some (.func (.func 87) #[] #[])) (n : Nat) (h1 : 1 ≤ n) (h9 : n ≤ 600) :
    Calls Try.prog 95 #[.int .i64 (n : Int), .pointer (some ⟨bp, 0, none⟩)] w fun en w' => en = .returned (.bool (sq2B n)) ∧ Below w.heap.size w w' := by
  go_enter Try.func95, Try.ntmps95
  go_wp2_with fail
  refine (isSumOfTwo_c _ n h1 (by omega)).mono ?_
  rintro e w1 ⟨rfl, b1⟩
  go_wp2
  go_ret
  exact ⟨rfl, b1⟩
set_option maxRecDepth 100000 in
set_option maxHeartbeats 400000 in
theorem askedUpTo_isSumOfTwo_c (w : World) (K : Nat) (hK : K ≤ 600) :
    Calls Try.prog 79 #[.int .i64 (K : Int), .func (.func 87) #[] #[]] w fun en w' => (∃ v, en = .returned v ∧ OwnI w' w.heap.size v (flF sq2B 1 K)) ∧ Below w.heap.size w w' := by
  have hmf : ∀ (fn : Fn) (first cap : Array Value) (w : World), (Instr.makeFunc fn first cap).run Try.prog w = .ok (.func fn first cap) w := fun _ _ _ _ => rfl
  have b0 : Below w.heap.size w (w.alloc (.cells #[.func (.func 87) #[] #[]] 41)) := (Below.refl _ _).alloc (Nat.le_refl _) _
  have hc0 : (w.alloc (.cells #[.func (.func 87) #[] #[]] 41)).cell? ⟨w.heap.size, 0, none⟩ = some (.func (.func 87) #[] #[]) := by simp
  have hs0 : w.heap.size < (w.alloc (.cells #[.func (.func 87) #[] #[]] 41)).heap.size := by simp
  have Hc := Lib.hid (takenAsked_c _ K hK sq2B w.heap.size fun n n1 n9 W hW => askedUpTo1_isSumOfTwo_c W w.heap.size ((hW.cell (p := ⟨w.heap.size, 0, none⟩) hs0).trans hc0) n n1 (by omega))
  have B0 := Lib.hid b0
  have hsz := b0.size
  clear hc0 hs0 b0
  go_enter Try.func79, Try.ntmps79
  go_wp2_with fail
  refine Hc.out.mono ?_
  rintro e w1 ⟨⟨v, rfl, o1⟩, b1⟩
  go_wp2
  go_ret
  exact ⟨⟨_, rfl, OwnI.mono o1 hsz⟩, B0.out.trans (b1.mono hsz)⟩

set_option maxRecDepth 100000 in
set_option maxHeartbeats 400000 in
theorem impl_SquareFreeUpTo_c (w : World) (n : Int) :
    Calls Try.prog 34 #[.int .i64 n] w fun en w' => (∃ v, en = .returned (.tuple #[v, .bool (smOk n)]) ∧ OwnI w' w.heap.size v (suqV n)) ∧ Below w.heap.size w w' := by
  cases hg : smOk n with
  | false =>
    rw [suqV_no hg]
    have Hg : Hid (mostB n = false) := hg
    clear hg
    go_enter Try.func34, Try.ntmps34
    go_wp2_with fail
    refine (isMost_c _ _).mono ?_
    rw [Hg.out]
    rintro e w1 ⟨rfl, rfl⟩
    go_wp2
    go_ret2
    exact ⟨⟨_, rfl, OwnI.nil _ _⟩, Below.refl _ _⟩
  | true =>
    obtain ⟨n1, n9⟩ := inB_true.1 hg
    obtain ⟨M, rfl⟩ := Int.eq_ofNat_of_zero_le n1
    rw [suqV_yes hg]
    have Hg : Hid (mostB (M : Int) = true) := hg
    have M9 : M ≤ 600 := by omega
    clear hg n1 n9
    go_enter Try.func34, Try.ntmps34
    go_wp2_with fail
    refine (isMost_c _ _).mono ?_
    rw [Hg.out]
    rintro e w1 ⟨rfl, rfl⟩
    go_wp2_with fail
    refine (askedUpTo_isSquareFree_c _ M M9).mono ?_
    rintro e w2 ⟨⟨v, rfl, o2⟩, b2⟩
    go_wp2
    go_ret2
    exact ⟨⟨_, rfl, o2⟩, b2⟩

set_option maxRecDepth 100000 in
set_option maxHeartbeats 400000 in
theorem impl_SumsOfTwoUpTo_c (w : World) (n : Int) :
    Calls Try.prog 54 #[.int .i64 n] w fun en w' => (∃ v, en = .returned (.tuple #[v, .bool (smOk n)]) ∧ OwnI w' w.heap.size v (s2V n)) ∧ Below w.heap.size w w' := by
  cases hg : smOk n with
  | false =>
    rw [s2V_no hg]
    have Hg : Hid (mostB n = false) := hg
    clear hg
    go_enter Try.func54, Try.ntmps54
    go_wp2_with fail
    refine (isMost_c _ _).mono ?_
    rw [Hg.out]
    rintro e w1 ⟨rfl, rfl⟩
    go_wp2
    go_ret2
    exact ⟨⟨_, rfl, OwnI.nil _ _⟩, Below.refl _ _⟩
  | true =>
    obtain ⟨n1, n9⟩ := inB_true.1 hg
    obtain ⟨M, rfl⟩ := Int.eq_ofNat_of_zero_le n1
    rw [s2V_yes hg]
    have Hg : Hid (mostB (M : Int) = true) := hg
    have M9 : M ≤ 600 := by omega
    clear hg n1 n9
    go_enter Try.func54, Try.ntmps54
    go_wp2_with fail
    refine (isMost_c _ _).mono ?_
    rw [Hg.out]
    rintro e w1 ⟨rfl, rfl⟩
    go_wp2_with fail
    refine (askedUpTo_isSumOfTwo_c _ M M9).mono ?_
    rintro e w2 ⟨⟨v, rfl, o2⟩, b2⟩
    go_wp2
    go_ret2
    exact ⟨⟨_, rfl, o2⟩, b2⟩

set_option maxRecDepth 100000 in
set_option maxHeartbeats 400000 in
theorem impl_SquareFreeOfRank_c (w : World) (n : Int) :
    Calls Try.prog 39 #[.int .i64 n] w fun en w' => en = .returned (.tuple #[.int .i64 (rkV n), .bool (rkOk n)]) ∧ Below w.heap.size w w' := by
  by_cases hg : 0 ≤ n
  rotate_left
  · skip
    have ho : rkOk n = false := inB_false.2 (by omega)
    rw [rkV_no ho, ho]
    clear ho
    go_enter Try.func39, Try.ntmps39
    go_wp2
    go_ret2
    exact ⟨rfl, (Below.refl _ _)⟩
  · skip
    by_cases hg2 : n ≤ 300
    rotate_left
    · skip
      have ho : rkOk n = false := inB_false.2 (by omega)
      rw [rkV_no ho, ho]
      clear ho
      go_enter Try.func39, Try.ntmps39
      go_wp2
      go_ret2
      exact ⟨rfl, (Below.refl _ _)⟩
    · skip
      have ho : rkOk n = true := inB_true.2 ⟨by omega, by omega⟩
      obtain ⟨k, rfl⟩ := Int.eq_ofNat_of_zero_le (show 0 ≤ n by omega)
      rw [rkV_yes ho, ho]
      clear ho
      obtain ⟨hk, hv0⟩ := srF_at (k := k) (by omega)
      have hc := fun W => askedUpTo_isSquareFree_c W 600 (Nat.le_refl _)
      rw [show ((600 : Nat) : Int) = 600 from rfl] at hc
      obtain ⟨L, hL⟩ : ∃ L, flF sfB 1 600 = L := ⟨_, rfl⟩
      rw [hL] at hk hv0 hc
      clear hL
      have Hc := Lib.hid hc
      have Hv := Lib.hid hv0
      clear hv0 hc
      obtain ⟨R, hR⟩ : ∃ R, srF k = R := ⟨_, rfl⟩
      rw [hR] at Hv ⊢
      clear hR
      go_enter Try.func39, Try.ntmps39
      go_wp2_with fail
      refine (Hc.out _).mono ?_
      rintro e w2 ⟨⟨v, rfl, o2⟩, b2⟩
      obtain ⟨A, c, rfl⟩ := o2.shape
      obtain ⟨b, off, rfl, hb, hr⟩ := Il_of_own o2 (by omega)
      have hck := hr k hk
      rw [Hv.out] at hck
      clear hr
      go_wp2
      go_ret2
      exact ⟨rfl, b2⟩

end Go.Proofs.Ytlchgdkmelkhaaa
