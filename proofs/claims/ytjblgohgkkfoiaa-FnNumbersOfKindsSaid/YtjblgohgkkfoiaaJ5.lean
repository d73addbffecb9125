import Derived.Test.YtjblgohgkkfoiaaJ4
import Derived.Test.YtjblgohgkkfoiaaP9
namespace Go.Proofs.Ytjblgohgkkfoiaa
open Go.RowKit
set_option linter.unusedVariables false
set_option linter.unusedSimpArgs false

/-- How long a slice is. -/
def slLn : Value → Nat
  | .slice _ n _ => n
  | _ => 0
theorem toSum_in {k : Nat} (h : k ≤ 600) : toSum k ≤ 360000 := Nat.le_trans (toSum_le k) (Nat.mul_le_mul h h)
set_option maxRecDepth 100000 in
set_option maxHeartbeats 400000 in
theorem impl_CoprimePairs_c (w : World) (n : Int) :
    Calls Try.prog 16 #[.int .i64 n] w fun en w' => en = .returned (.tuple #[.int .i64 (cpV n), .bool (cpOk n)]) ∧ Below w.heap.size w w' := by
  have Hc := Lib.hid (fun W => sumTold_c W n 31 (fun N => (toF N : Int)) (fun N => (toSum N : Int)) (fun _ _ => rfl) rfl (fun k => by rw [toSum]; omega) (fun k hk => by have := toSum_in hk; omega) fun W N a b => totient_c W N a (by omega))
  cases hg : cpOk n with
  | false =>
    rw [cpV_no hg]
    have hg2 : inB n 1 600 = false := hg
    rw [show tdV (fun N => (toSum N : Int)) n 600 = 0 from tdV_no hg, hg2] at Hc
    clear hg hg2
    go_enter Try.func16, Try.ntmps16
    go_wp2_with fail
    refine (Hc.out _).mono ?_
    rintro e w2 ⟨rfl, b2⟩
    go_wp2
    go_ret2
    exact ⟨rfl, b2⟩
  | true =>
    have hg2 : inB n 1 600 = true := hg
    obtain ⟨n1, n9⟩ := inB_true.1 hg2
    obtain ⟨N, rfl⟩ := Int.eq_ofNat_of_zero_le (Int.le_trans (by omega) n1)
    rw [cpV_yes hg]
    rw [show tdV (fun N => (toSum N : Int)) (N : Int) 600 = (toSum N : Int) from tdV_yes hg, hg2] at Hc
    have hb := toSum_in (k := N) (by omega)
    obtain ⟨X, hX⟩ : ∃ X, toSum N = X := ⟨_, rfl⟩
    rw [hX] at Hc hb ⊢
    clear hg hg2 n1 n9 hX
    go_enter Try.func16, Try.ntmps16
    go_wp2_with fail
    refine (Hc.out _).mono ?_
    rintro e w2 ⟨rfl, b2⟩
    go_wp2
    go_ret2
    exact ⟨rfl, b2⟩
set_option maxRecDepth 100000 in
set_option maxHeartbeats 400000 in
theorem askedUpTo1_isPerfect_c (w : World) (bp : Nat) (hc : w.cell? ⟨bp, 0, none⟩ = some (.func (.func 22) #[] #[])) (n : Nat) (h1 : 1 ≤ n) (h9 : n ≤ 600) :
    Calls Try.prog 36 #[.int .i64 (n : Int), .pointer (some ⟨bp, 0, none⟩)] w fun en w' => en = .returned (.bool (pfB n)) ∧ Below w.heap.size w w' := by
  go_enter Try.func36, Try.ntmps36
  go_wp2_with fail
  refine (isPerfect_c _ n h1 (by omega)).mono ?_
  rintro e w1 ⟨rfl, b1⟩
  go_wp2
  go_ret
  exact ⟨rfl, b1⟩
set_option maxRecDepth 100000 in
set_option maxHeartbeats 400000 in
theorem askedUpTo_isPerfect_c (w : World) (K : Nat) (hK : K ≤ 600) :
    Calls Try.prog 21 #[.int .i64 (K : Int), .func (.func 22) #[] #[]] w fun en w' => (∃ v, en = .returned v ∧ OwnI w' w.heap.size v (flF pfB 1 K)) ∧ Below w.heap.size w w' := by
  have hmf : ∀ (fn : Fn) (first cap : Array Value) (w : World), (Instr.makeFunc fn first cap).run Try.prog w = .ok (.func fn first cap) w := fun _ _ _ _ => rfl
  have b0 : Below w.heap.size w (w.alloc (.cells #[.func (.func 22) #[] #[]] 41)) := (Below.refl _ _).alloc (Nat.le_refl _) _
  have hc0 : (w.alloc (.cells #[.func (.func 22) #[] #[]] 41)).cell? ⟨w.heap.size, 0, none⟩ = some (.func (.func 22) #[] #[]) := by simp
  have hs0 : w.heap.size < (w.alloc (.cells #[.func (.func 22) #[] #[]] 41)).heap.size := by simp
  have Hc := Lib.hid (takenAsked_c _ K hK pfB w.heap.size fun n n1 n9 W hW => askedUpTo1_isPerfect_c W w.heap.size ((hW.cell (p := ⟨w.heap.size, 0, none⟩) hs0).trans hc0) n n1 (by omega))
  have B0 := Lib.hid b0
  have hsz := b0.size
  clear hc0 hs0 b0
  go_enter Try.func21, Try.ntmps21
  go_wp2_with fail
  refine Hc.out.mono ?_
  rintro e w1 ⟨⟨v, rfl, o1⟩, b1⟩
  go_wp2
  go_ret
  exact ⟨⟨_, rfl, OwnI.mono o1 hsz⟩, B0.out.trans (b1.mono hsz)⟩
set_option maxRecDepth 100000 in
set_option maxHeartbeats 400000 in
theorem impl_PerfectUpTo_c (w : World) (n : Int) :
    Calls Try.prog 7 #[.int .i64 n] w fun en w' => (∃ v, en = .returned (.tuple #[v, .bool (m6Ok n)]) ∧ OwnI w' w.heap.size v (pfA n)) ∧ Below w.heap.size w w' := by
  cases hg : m6Ok n with
  | false =>
    rw [pfA_no hg]
    have Hg : Hid (mostB n = false) := hg
    clear hg
    go_enter Try.func7, Try.ntmps7
    go_wp2_with fail
    refine (isMost_c _ _).mono ?_
    rw [Hg.out]
    rintro e w1 ⟨rfl, rfl⟩
    go_wp2
    go_ret2
    exact ⟨⟨_, rfl, OwnI.nil _ _⟩, Below.refl _ _⟩
  | true =>
    obtain ⟨n1, n9⟩ := inB_true.1 hg
    obtain ⟨M, rfl⟩ := Int.eq_ofNat_of_zero_le n1
    rw [pfA_yes hg]
    have Hg : Hid (mostB (M : Int) = true) := hg
    have M9 : M ≤ 600 := by omega
    clear hg n1 n9
    go_enter Try.func7, Try.ntmps7
    go_wp2_with fail
    refine (isMost_c _ _).mono ?_
    rw [Hg.out]
    rintro e w1 ⟨rfl, rfl⟩
    go_wp2_with fail
    refine (askedUpTo_isPerfect_c _ M M9).mono ?_
    rintro e w2 ⟨⟨v, rfl, o2⟩, b2⟩
    go_wp2
    go_ret2
    exact ⟨⟨_, rfl, o2⟩, b2⟩
set_option maxRecDepth 100000 in
set_option maxHeartbeats 1200000 in
theorem impl_RecordsUpTo_c (w : World) (n : Int) :
    Calls Try.prog 9 #[.int .i64 n] w fun en w' => (∃ v, en = .returned (.tuple #[v, .bool (m6Ok n)]) ∧ OwnI w' w.heap.size v (rcA n)) ∧ Below w.heap.size w w' := by
  cases hg : m6Ok n with
  | false =>
    rw [rcA_no hg]
    have Hg : Hid (mostB n = false) := hg
    clear hg
    go_enter Try.func9, Try.ntmps9
    go_wp2_with fail
    refine (isMost_c _ _).mono ?_
    rw [Hg.out]
    rintro e w1 ⟨rfl, rfl⟩
    go_wp2
    go_ret2
    exact ⟨⟨_, rfl, OwnI.nil _ _⟩, Below.refl _ _⟩
  | true =>
    obtain ⟨n1, n9⟩ := inB_true.1 hg
    obtain ⟨M, rfl⟩ := Int.eq_ofNat_of_zero_le n1
    rw [rcA_yes hg]
    have Hg : Hid (mostB (M : Int) = true) := hg
    have M9 : M ≤ 600 := by omega
    clear hg n1 n9
    go_enter Try.func9, Try.ntmps9
    go_wp2_with fail
    refine (isMost_c _ _).mono ?_
    rw [Hg.out]
    rintro e w1 ⟨rfl, rfl⟩
    go_wp2
    go_loopw [4, 5, 6] (fun v r i wr => ∃ k : Nat, k ≤ M ∧ i = .int .i64 ((k : Int) + 1) ∧ OwnI wr w.heap.size v (flF rcB 1 k) ∧ r = .int .i64 (rcR k : Int) ∧ Below w.heap.size w wr) (fun _ _ i _ => 603 - (intOf i).toNat)
    case atStart => exact ⟨0, Nat.zero_le _, rfl, World.ownsRow_nil _ _ _ _, rfl, Below.refl _ _⟩
    case round =>
      obtain ⟨k, hk, rfl, hown, rfl, hbel⟩ := hrel
      have Hown := Lib.hid hown
      clear hown
      have hs := hbel.size
      have hul := flF_len rcB 1 k
      have Hl := Lib.hid (show (flF rcB 1 k).length ≤ 1048575 by omega)
      clear hul
      by_cases hlt : k < M
      · have hlt2 : (k : Int) + 1 ≤ (M : Int) := by omega
        have Hc := Lib.hid (fun W => countDivisors_c W (1 + k) (by omega) (by omega))
        rw [show ((1 + k : Nat) : Int) = (k : Int) + 1 by omega] at Hc
        have hrl := rcR_le k
        have hdl : (dvD (1 + k)).length ≤ 1 + k := flF_len _ _ _
        obtain ⟨R, hR⟩ : ∃ R, rcR k = R := ⟨_, rfl⟩
        have hRs : rcR (k + 1) = max R (dvD (1 + k)).length := by rw [rcR, hR, Nat.add_comm k 1]
        have hBs : rcB (1 + k) = decide (R < (dvD (1 + k)).length) := by rw [rcB, show 1 + k - 1 = k by omega, hR]
        rw [hR] at hrl ⊢
        obtain ⟨L, hL⟩ : ∃ L, (dvD (1 + k)).length = L := ⟨_, rfl⟩
        rw [hL] at hdl Hc hRs hBs
        clear hR hL
        by_cases hp : R < L
        · have Hy := Lib.hid (flF_yes (p := rcB) (a := 1) (k := k) (by rw [hBs, decide_eq_true_eq]; exact hp))
          have Hr := Lib.hid (show rcR (k + 1) = L by rw [hRs]; omega)
          clear hRs hBs
          go_wp2_with fail
          refine (Hc.out _).mono ?_
          rintro e w1 ⟨rfl, b1⟩
          have hown1 := OwnI.below Hown.out b1
          have hs1 := b1.size
          go_wp2_with (at_builtin; refine wp_app_int _ rfl _ _ rfl w.heap.size _ _ rfl hown1 _ rfl (by have := Hl.out; omega) (by omega) ?_; intro v' w2 hown2 b2)
          go_roundw
          case rel => exact ⟨k + 1, by omega, by go_num, by rw [Hy.out, Nat.add_comm 1 k]; exact hown2, by rw [Hr.out], (hbel.trans (b1.mono hs)).trans b2⟩
          case measure => simp [intOf]; omega
        · have Hy := Lib.hid (flF_no (p := rcB) (a := 1) (k := k) (by rw [hBs, decide_eq_false_iff_not]; exact hp))
          have Hr := Lib.hid (show rcR (k + 1) = R by rw [hRs]; omega)
          clear hRs hBs
          go_wp2_with fail
          refine (Hc.out _).mono ?_
          rintro e w1 ⟨rfl, b1⟩
          go_wp2
          go_roundw
          case rel => exact ⟨k + 1, by omega, by go_num, by rw [Hy.out]; exact OwnI.below Hown.out b1, by rw [Hr.out], hbel.trans (b1.mono hs)⟩
          case measure => simp [intOf]; omega
      · have hlt2 : (M : Int) < (k : Int) + 1 := by omega
        have Hk := Lib.hid (show k = M by omega)
        go_wp2
        go_ret2
        exact ⟨⟨_, rfl, by rw [← Hk.out]; exact Hown.out⟩, hbel⟩
end Go.Proofs.Ytjblgohgkkfoiaa
