import Derived.Test.YtkpililllihgcaaJ4
import Derived.Test.YtkpililllihgcaaP9
namespace Go.Proofs.Ytkpililllihgcaa
open Go.RowKit
set_option linter.unusedVariables false
set_option linter.unusedSimpArgs false

/-- How long a slice is. -/
def slLn : Value → Nat
  | .slice _ n _ => n
  | _ => 0
set_option maxRecDepth 100000 in
set_option maxHeartbeats 400000 in
theorem sumTold_c (w : World) (n : Int) (f : Nat) (V S : Nat → Int) (hcf : ∀ (args : Array Value) (w : World), Sem.run Try.prog (callFunc f args) w = .ok (.enter f args) w)
    (h0 : S 0 = 0) (hSs : ∀ k, S (k + 1) = S k + V (k + 1)) (hSb : ∀ k, k ≤ 600 → -1000000000 ≤ S k ∧ S k ≤ 1000000000)
    (hc : ∀ (W : World) (N : Nat), 1 ≤ N → N ≤ 600 → Calls Try.prog f #[.int .i64 (N : Int)] W fun en w' => en = .returned (.int .i64 (V N)) ∧ Below W.heap.size W w') :
    Calls Try.prog 85 #[.int .i64 n, .func (.func f) #[] #[]] w fun en w' => en = .returned (.tuple #[.int .i64 (tdV S n 600), .bool (inB n 1 600)]) ∧ Below w.heap.size w w' := by
  have Hc := Lib.hid hc
  have HSs := Lib.hid hSs
  have HSb := Lib.hid hSb
  have H0 := Lib.hid h0
  clear hc hSs hSb h0
  by_cases h1 : 1 ≤ n
  · by_cases h2 : n ≤ 600
    · have hg : inB n 1 ((600 : Nat) : Int) = true := inB_true.2 ⟨h1, h2⟩
      obtain ⟨N, rfl⟩ := Int.eq_ofNat_of_zero_le (show 0 ≤ n by omega)
      rw [tdV_yes hg, show inB (N : Int) 1 600 = true from hg]
      have N1 : 1 ≤ N := by omega
      have N9 : N ≤ 600 := by omega
      clear hg
      go_enter Try.func85, Try.ntmps85
      go_wp2
      go_loopw [6, 7] (fun v i wr => ∃ k : Nat, k ≤ N ∧ i = .int .i64 ((k : Int) + 1) ∧ v = .int .i64 (S k) ∧ Below w.heap.size w wr) (fun _ i _ => 603 - (intOf i).toNat)
      case atStart => exact ⟨0, Nat.zero_le _, rfl, by rw [H0.out], Below.refl _ _⟩
      case round =>
        obtain ⟨k, hk, rfl, rfl, hbel⟩ := hrel
        have hs := hbel.size
        by_cases hlt : k < N
        · have hb := HSb.out k (by omega)
          have hb1 := HSb.out (k + 1) (by omega)
          have hst := HSs.out k
          have Hc1 := Lib.hid (fun W => Hc.out W (k + 1) (by omega) (by omega))
          rw [show ((k + 1 : Nat) : Int) = (k : Int) + 1 by omega] at Hc1
          obtain ⟨X, hX⟩ : ∃ X, S k = X := ⟨_, rfl⟩
          obtain ⟨Y, hY⟩ : ∃ Y, V (k + 1) = Y := ⟨_, rfl⟩
          rw [hX, hY] at hst
          rw [hX] at hb ⊢
          rw [hY] at Hc1
          rw [hst] at hb1
          have Hst := Lib.hid hst
          clear hst hX hY
          go_wp2_with fail
          refine (Hc1.out _).mono ?_
          rintro e w1 ⟨rfl, b1⟩
          go_wp2
          go_roundw
          case rel => exact ⟨k + 1, by omega, by go_num, by rw [Hst.out], hbel.trans (b1.mono hs)⟩
          case measure => simp [intOf]; omega
        · have Hk := Lib.hid (show k = N by omega)
          go_wp2
          go_ret2
          exact ⟨by rw [← Hk.out]; rfl, hbel⟩
    · have hg : inB n 1 ((600 : Nat) : Int) = false := inB_false.2 (by omega)
      rw [tdV_no hg, show inB n 1 600 = false from hg]
      clear hg
      go_enter Try.func85, Try.ntmps85
      go_wp2
      go_ret2
      exact ⟨rfl, Below.refl _ _⟩
  · have hg : inB n 1 ((600 : Nat) : Int) = false := inB_false.2 (by omega)
    rw [tdV_no hg, show inB n 1 600 = false from hg]
    clear hg
    go_enter Try.func85, Try.ntmps85
    go_wp2
    go_ret2
    exact ⟨rfl, Below.refl _ _⟩
theorem toSum_in {k : Nat} (h : k ≤ 600) : toSum k ≤ 360000 := Nat.le_trans (toSum_le k) (Nat.mul_le_mul h h)
set_option maxRecDepth 100000 in
set_option maxHeartbeats 400000 in
theorem impl_CoprimePairs_c (w : World) (n : Int) :
    Calls Try.prog 54 #[.int .i64 n] w fun en w' => en = .returned (.tuple #[.int .i64 (cpV n), .bool (cpOk n)]) ∧ Below w.heap.size w w' := by
  have Hc := Lib.hid (fun W => sumTold_c W n 64 (fun N => (toF N : Int)) (fun N => (toSum N : Int)) (fun _ _ => rfl) rfl (fun k => by rw [toSum]; omega) (fun k hk => by have := toSum_in hk; omega) fun W N a b => totient_c W N a (by omega))
  cases hg : cpOk n with
  | false =>
    rw [cpV_no hg]
    have hg2 : inB n 1 600 = false := hg
    rw [show tdV (fun N => (toSum N : Int)) n 600 = 0 from tdV_no hg, hg2] at Hc
    clear hg hg2
    go_enter Try.func54, Try.ntmps54
    go_wp2_with fail
    refine (Hc.out _).mono ?_
    rintro e w2 ⟨rfl, b2⟩
    go_wp2
    go_ret2
    exact ⟨rfl, b2⟩
  | true =>
    have hg2 : inB n 1 600 = true := hg
    obtain ⟨n1, n9⟩ := inB_true.1 hg2
    obtain ⟨N, rfl⟩ := Int.eq_ofNat_of_zero_le (Int.le_trans (by omega) n1)
    rw [cpV_yes hg]
    rw [show tdV (fun N => (toSum N : Int)) (N : Int) 600 = (toSum N : Int) from tdV_yes hg, hg2] at Hc
    have hb := toSum_in (k := N) (by omega)
    obtain ⟨X, hX⟩ : ∃ X, toSum N = X := ⟨_, rfl⟩
    rw [hX] at Hc hb ⊢
    clear hg hg2 n1 n9 hX
    go_enter Try.func54, Try.ntmps54
    go_wp2_with fail
    refine (Hc.out _).mono ?_
    rintro e w2 ⟨rfl, b2⟩
    go_wp2
    go_ret2
    exact ⟨rfl, b2⟩
set_option maxRecDepth 100000 in
set_option maxHeartbeats 400000 in
theorem askedUpTo1_isPerfect_c (w : World) (bp : Nat) (hc : w.cell? ⟨bp, 0, none⟩ = some (.func (.func 82) #[] #[])) (n : Nat) (h1 : 1 ≤ n) (h9 : n ≤ 600) :
    Calls Try.prog 98 #[.int .i64 (n : Int), .pointer (some ⟨bp, 0, none⟩)] w fun en w' => en = .returned (.bool (pfB n)) ∧ Below w.heap.size w w' := by
  go_enter Try.func98, Try.ntmps98
  go_wp2_with fail
  refine (isPerfect_c _ n h1 (by omega)).mono ?_
  rintro e w1 ⟨rfl, b1⟩
  go_wp2
  go_ret
  exact ⟨rfl, b1⟩
set_option maxRecDepth 100000 in
set_option maxHeartbeats 400000 in
theorem askedUpTo_isPerfect_c (w : World) (K : Nat) (hK : K ≤ 600) :
    Calls Try.prog 81 #[.int .i64 (K : Int), .func (.func 82) #[] #[]] w fun en w' => (∃ v, en = .returned v ∧ OwnI w' w.heap.size v (flF pfB 1 K)) ∧ Below w.heap.size w w' := by
  have hmf : ∀ (fn : Fn) (first cap : Array Value) (w : World), (Instr.makeFunc fn first cap).run Try.prog w = .ok (.func fn first cap) w := fun _ _ _ _ => rfl
  have b0 : Below w.heap.size w (w.alloc (.cells #[.func (.func 82) #[] #[]] 61)) := (Below.refl _ _).alloc (Nat.le_refl _) _
  have hc0 : (w.alloc (.cells #[.func (.func 82) #[] #[]] 61)).cell? ⟨w.heap.size, 0, none⟩ = some (.func (.func 82) #[] #[]) := by simp
  have hs0 : w.heap.size < (w.alloc (.cells #[.func (.func 82) #[] #[]] 61)).heap.size := by simp
  have Hc := Lib.hid (takenAsked_c _ K hK pfB w.heap.size fun n n1 n9 W hW => askedUpTo1_isPerfect_c W w.heap.size ((hW.cell (p := ⟨w.heap.size, 0, none⟩) hs0).trans hc0) n n1 (by omega))
  have B0 := Lib.hid b0
  have hsz := b0.size
  clear hc0 hs0 b0
  go_enter Try.func81, Try.ntmps81
  go_wp2_with fail
  refine Hc.out.mono ?_
  rintro e w1 ⟨⟨v, rfl, o1⟩, b1⟩
  go_wp2
  go_ret
  exact ⟨⟨_, rfl, OwnI.mono o1 hsz⟩, B0.out.trans (b1.mono hsz)⟩
set_option maxRecDepth 100000 in
set_option maxHeartbeats 400000 in
theorem impl_PerfectUpTo_c (w : World) (n : Int) :
    Calls Try.prog 44 #[.int .i64 n] w fun en w' => (∃ v, en = .returned (.tuple #[v, .bool (m6Ok n)]) ∧ OwnI w' w.heap.size v (pfA n)) ∧ Below w.heap.size w w' := by
  cases hg : m6Ok n with
  | false =>
    rw [pfA_no hg]
    have Hg : Hid (mostB n = false) := hg
    clear hg
    go_enter Try.func44, Try.ntmps44
    go_wp2_with fail
    refine (isMost_c _ _).mono ?_
    rw [Hg.out]
    rintro e w1 ⟨rfl, rfl⟩
    go_wp2
    go_ret2
    exact ⟨⟨_, rfl, OwnI.nil _ _⟩, Below.refl _ _⟩
  | true =>
    obtain ⟨n1, n9⟩ := inB_true.1 hg
    obtain ⟨M, rfl⟩ := Int.eq_ofNat_of_zero_le n1
    rw [pfA_yes hg]
    have Hg : Hid (mostB (M : Int) = true) := hg
    have M9 : M ≤ 600 := by omega
    clear hg n1 n9
    go_enter Try.func44, Try.ntmps44
    go_wp2_with fail
    refine (isMost_c _ _).mono ?_
    rw [Hg.out]
    rintro e w1 ⟨rfl, rfl⟩
    go_wp2_with fail
    refine (askedUpTo_isPerfect_c _ M M9).mono ?_
    rintro e w2 ⟨⟨v, rfl, o2⟩, b2⟩
    go_wp2
    go_ret2
    exact ⟨⟨_, rfl, o2⟩, b2⟩
set_option maxRecDepth 100000 in
set_option maxHeartbeats 1200000 in
theorem impl_RecordsUpTo_c (w : World) (n : Int) :
    Calls Try.prog 52 #[.int .i64 n] w fun en w' => (∃ v, en = .returned (.tuple #[v, .bool (m6Ok n)]) ∧ OwnI w' w.heap.size v (rcA n)) ∧ Below w.heap.size w w' := by
  cases hg : m6Ok n with
  | false =>
    rw [rcA_no hg]
    have Hg : Hid (mostB n = false) := hg
    clear hg
    go_enter Try.func52, Try.ntmps52
    go_wp2_with fail
    refine (isMost_c _ _).mono ?_
    rw [Hg.out]
    rintro e w1 ⟨rfl, rfl⟩
    go_wp2
    go_ret2
    exact ⟨⟨_, rfl, OwnI.nil _ _⟩, Below.refl _ _⟩
  | true =>
    obtain ⟨n1, n9⟩ := inB_true.1 hg
    obtain ⟨M, rfl⟩ := Int.eq_ofNat_of_zero_le n1
    rw [rcA_yes hg]
    have Hg : Hid (mostB (M : Int) = true) := hg
    have M9 : M ≤ 600 := by omega
    clear hg n1 n9
    go_enter Try.func52, Try.ntmps52
    go_wp2_with fail
    refine (isMost_c _ _).mono ?_
    rw [Hg.out]
    rintro e w1 ⟨rfl, rfl⟩
    go_wp2
    go_loopw [4, 5, 6] (fun v r i wr => ∃ k : Nat, k ≤ M ∧ i = .int .i64 ((k : Int) + 1) ∧ OwnI wr w.heap.size v (flF rcB 1 k) ∧ r = .int .i64 (rcR k : Int) ∧ Below w.heap.size w wr) (fun _ _ i _ => 603 - (intOf i).toNat)
    case atStart => exact ⟨0, Nat.zero_le _, rfl, World.ownsRow_nil _ _ _ _, rfl, Below.refl _ _⟩
    case round =>
      obtain ⟨k, hk, rfl, hown, rfl, hbel⟩ := hrel
      have Hown := Lib.hid hown
      clear hown
      have hs := hbel.size
      have hul := flF_len rcB 1 k
      have Hl := Lib.hid (show (flF rcB 1 k).length ≤ 1048575 by omega)
      clear hul
      by_cases hlt : k < M
      · have hlt2 : (k : Int) + 1 ≤ (M : Int) := by omega
        have Hc := Lib.hid (fun W => countDivisors_c W (1 + k) (by omega) (by omega))
        rw [show ((1 + k : Nat) : Int) = (k : Int) + 1 by omega] at Hc
        have hrl := rcR_le k
        have hdl : (dvD (1 + k)).length ≤ 1 + k := flF_len _ _ _
        obtain ⟨R, hR⟩ : ∃ R, rcR k = R := ⟨_, rfl⟩
        have hRs : rcR (k + 1) = max R (dvD (1 + k)).length := by rw [rcR, hR, Nat.add_comm k 1]
        have hBs : rcB (1 + k) = decide (R < (dvD (1 + k)).length) := by rw [rcB, show 1 + k - 1 = k by omega, hR]
        rw [hR] at hrl ⊢
        obtain ⟨L, hL⟩ : ∃ L, (dvD (1 + k)).length = L := ⟨_, rfl⟩
        rw [hL] at hdl Hc hRs hBs
        clear hR hL
        by_cases hp : R < L
        · have Hy := Lib.hid (flF_yes (p := rcB) (a := 1) (k := k) (by rw [hBs, decide_eq_true_eq]; exact hp))
          have Hr := Lib.hid (show rcR (k + 1) = L by rw [hRs]; omega)
          clear hRs hBs
          go_wp2_with fail
          refine (Hc.out _).mono ?_
          rintro e w1 ⟨rfl, b1⟩
          have hown1 := OwnI.below Hown.out b1
          have hs1 := b1.size
          go_wp2_with (at_builtin; refine wp_app_int _ rfl _ _ rfl w.heap.size _ _ rfl hown1 _ rfl (by have := Hl.out; omega) (by omega) ?_; intro v' w2 hown2 b2)
          go_roundw
          case rel => exact ⟨k + 1, by omega, by go_num, by rw [Hy.out, Nat.add_comm 1 k]; exact hown2, by rw [Hr.out], (hbel.trans (b1.mono hs)).trans b2⟩
          case measure => simp [intOf]; omega
        · have Hy := Lib.hid (flF_no (p := rcB) (a := 1) (k := k) (by rw [hBs, decide_eq_false_iff_not]; exact hp))
          have Hr := Lib.hid (show rcR (k + 1) = R by rw [hRs]; omega)
          clear hRs hBs
          go_wp2_with fail
          refine (Hc.out _).mono ?_
          rintro e w1 ⟨rfl, b1⟩
          go_wp2
          go_roundw
          case rel => exact ⟨k + 1, by omega, by go_num, by rw [Hy.out]; exact OwnI.below Hown.out b1, by rw [Hr.out], hbel.trans (b1.mono hs)⟩
          case measure => simp [intOf]; omega
      · have hlt2 : (M : Int) < (k : Int) + 1 := by omega
        have Hk := Lib.hid (show k = M by omega)
        go_wp2
        go_ret2
        exact ⟨⟨_, rfl, by rw [← Hk.out]; exact Hown.out⟩, hbel⟩
set_option maxRecDepth 100000 in
set_option maxHeartbeats 1600000 in
theorem impl_SumWay_c (w : World) (n s : Int) :
    Calls Try.prog 48 #[.int .i64 n, .int .i64 s] w fun en w' => (∃ v, en = .returned (.tuple #[v, .bool (swOk n s)]) ∧ OwnI w' w.heap.size v (swA n s)) ∧ Below w.heap.size w w' := by
  have Hd0 := Lib.hid (fun W => isDivided_c n W)
  cases hg : dvOk n with
  | false =>
    have ho : swOk n s = false := by show (inB n 1 1000000 && _) = false; rw [show inB n 1 1000000 = false from hg]; rfl
    rw [swA_no ho, ho]
    rw [hg] at Hd0
    clear hg ho
    go_enter Try.func48, Try.ntmps48
    go_wp2_with fail
    refine (Hd0.out _).mono ?_
    rintro e w1 ⟨rfl, rfl⟩
    go_wp2
    go_ret2
    exact ⟨⟨_, rfl, OwnI.nil _ _⟩, Below.refl _ _⟩
  | true =>
    rw [hg] at Hd0
    by_cases h1 : 0 ≤ s
    · by_cases h2 : s ≤ 20
      · have ho : swOk n s = true := by show (inB n 1 1000000 && _) = true; rw [show inB n 1 1000000 = true from hg]; exact inB_true.2 ⟨h1, h2⟩
        obtain ⟨n1, n2⟩ := inB_true.1 hg
        obtain ⟨N, rfl⟩ := Int.eq_ofNat_of_zero_le (Int.le_trans (by omega) n1)
        obtain ⟨M, rfl⟩ := Int.eq_ofNat_of_zero_le h1
        rw [swA_yes ho, ho]
        clear ho
        have N1 : 1 ≤ N := by omega
        have N9 : N ≤ 1000000 := by omega
        have M9 : M ≤ 20 := by omega
        obtain ⟨T, hT⟩ : ∃ T, swF M N = T := ⟨_, rfl⟩
        have HT := Lib.hid hT
        rw [hT]
        clear n1 n2 hT hg
        go_enter Try.func48, Try.ntmps48
        go_wp2_with fail
        refine (Hd0.out _).mono ?_
        rintro e w1 ⟨rfl, rfl⟩
        go_wp2_with fail
        go_loopw [0, 6] (fun x v wr => ∃ (n l : Nat) (pre : List Int) (A : Option Addr) (c : Nat), x = .int .i64 (n : Int) ∧ v = .slice A (l + 1) c ∧ n ≤ 2000000000 ∧ pre.length = l ∧ l ≤ M ∧ T = pre ++ swF (M - l) n ∧ OwnI wr w.heap.size (.slice A (l + 1) c) (pre ++ [(n : Int)]) ∧ Below w.heap.size w wr) (fun _ v _ => 30 - slLn v)
        case atStart => exact ⟨N, 0, [], _, _, rfl, rfl, by omega, rfl, Nat.zero_le _, HT.out.symm, own_one _ _ (Nat.le_refl _) _, (Below.refl _ _).alloc (Nat.le_refl _) _⟩
        case round =>
          obtain ⟨n, l, pre, A, c, rfl, rfl, hn9, hpl, hlM, hTT, hown, hbel⟩ := hrel
          have Hown := Lib.hid hown
          have HTT := Lib.hid hTT
          have Hpl := Lib.hid hpl
          have hs := hbel.size
          clear hown hTT hpl
          by_cases hlt : l < M
          · cases hgn : dvOk (n : Int) with
            | true =>
              obtain ⟨g1, g2⟩ := inB_true.1 hgn
              have g1n : 1 ≤ n := by omega
              have g2n : n ≤ 1000000 := by omega
              have hsm := dvS_small g1n g2n
              have hst := stN_is g1n
              have Hc := Lib.hid (fun W => sumStep_c W n g1n (by omega))
              rw [hst] at Hc
              have HX := Lib.hid (show T = (pre ++ [(n : Int)]) ++ swF (M - (l + 1)) (stN n) by rw [HTT.out, show M - l = (M - (l + 1)) + 1 by omega, swF, if_pos ⟨g1n, g2n⟩]; simp)
              obtain ⟨m, hm⟩ : ∃ m, stN n = m := ⟨_, rfl⟩
              rw [hm] at hst HX Hc
              have hm9 : m ≤ 2000000000 := by omega
              have Hl := Lib.hid (show (pre ++ [(n : Int)]).length = l + 1 by rw [List.length_append, List.length_singleton, Hpl.out])
              have Hg2 := Lib.hid (fun W => hgn ▸ isDivided_c (n : Int) W)
              clear hm hgn hst hsm
              go_wp2_with fail
              refine (Hg2.out _).mono ?_
              rintro e w5 ⟨rfl, rfl⟩
              go_wp2_with fail
              refine (Hc.out _).mono ?_
              rintro e w1 ⟨rfl, b1⟩
              have Hown1 := Lib.hid (OwnI.below Hown.out b1)
              have hs1 := b1.size
              go_wp2_with (at_builtin; refine wp_app_int _ rfl _ _ rfl w.heap.size _ _ rfl Hown1.out _ rfl (by have := Hl.out; omega) (by omega) ?_; intro v' w2 hown2 b2; obtain ⟨A2, c2, rfl⟩ := hown2.shape; have Hown2 := Lib.hid hown2; clear hown2)
              go_roundw
              case rel =>
                have e2 : (pre ++ [(n : Int)] ++ [(m : Int)]).length = l + 1 + 1 := by rw [List.length_append, Hl.out]; rfl
                have h := Hown2.out
                rw [e2] at h
                exact ⟨m, l + 1, pre ++ [(n : Int)], A2, c2, rfl, by rw [Hpl.out], hm9, Hl.out, by omega, HX.out, h, (hbel.trans (b1.mono hs)).trans b2⟩
              case measure => have := Hpl.out; simp [slLn]; omega
            | false =>
              have HX := Lib.hid (show T = pre ++ [(n : Int)] by rw [HTT.out, show M - l = (M - (l + 1)) + 1 by omega, swF, if_neg (fun h => by rw [show dvOk (n : Int) = true from inB_true.2 (by omega)] at hgn; cases hgn)])
              have Hg2 := Lib.hid (fun W => hgn ▸ isDivided_c (n : Int) W)
              clear hgn
              go_wp2_with fail
              refine (Hg2.out _).mono ?_
              rintro e w5 ⟨rfl, rfl⟩
              go_wp2
              go_ret2
              exact ⟨⟨_, rfl, by rw [HX.out]; exact Hown.out⟩, hbel⟩
          · have hs0 : l = M := by omega
            subst hs0
            have HX := Lib.hid (show T = pre ++ [(n : Int)] by rw [HTT.out, Nat.sub_self]; rfl)
            go_wp2
            go_ret2
            exact ⟨⟨_, rfl, by rw [HX.out]; exact Hown.out⟩, hbel⟩
      · have ho : swOk n s = false := by show (_ && inB s 0 20) = false; rw [show inB s 0 20 = false from inB_false.2 (by omega), Bool.and_false]
        rw [swA_no ho, ho]
        clear hg ho
        go_enter Try.func48, Try.ntmps48
        go_wp2_with fail
        refine (Hd0.out _).mono ?_
        rintro e w1 ⟨rfl, rfl⟩
        go_wp2
        go_ret2
        exact ⟨⟨_, rfl, OwnI.nil _ _⟩, Below.refl _ _⟩
    · have ho : swOk n s = false := by show (_ && inB s 0 20) = false; rw [show inB s 0 20 = false from inB_false.2 (by omega), Bool.and_false]
      rw [swA_no ho, ho]
      clear hg ho
      go_enter Try.func48, Try.ntmps48
      go_wp2_with fail
      refine (Hd0.out _).mono ?_
      rintro e w1 ⟨rfl, rfl⟩
      go_wp2
      go_ret2
      exact ⟨⟨_, rfl, OwnI.nil _ _⟩, Below.refl _ _⟩
end Go.Proofs.Ytkpililllihgcaa
