import Derived.Test.YtjblgohgkkfoiaaY4
namespace Go.Proofs.Ytjblgohgkkfoiaa
open Go.RowKit
set_option linter.unusedVariables false
set_option linter.unusedSimpArgs false

def m6Ok (n : Int) : Bool := inB n 0 600
theorem dvS_small {n : Nat} (h1 : 1 ≤ n) (h : n ≤ 1000000) : 0 ≤ dvS n ∧ dvS n ≤ 2000000000 := by
  have hsl := dvS_le h1
  have hrt9 := sq_lt_of (rtF_parts n).1 (show n < 1001 * 1001 by omega)
  have hmm := Nat.mul_le_mul (show rtF n ≤ 1000 by omega) h
  omega
def pfB (n : Nat) : Bool := decide (dvS n = 2 * (n : Int))
def pfA (n : Int) : List Int := if m6Ok n then flF pfB 1 n.toNat else []
theorem pfA_no {n : Int} (h : m6Ok n = false) : pfA n = [] := by rw [pfA, h]; rfl
theorem pfA_yes {n : Nat} (h : m6Ok (n : Int) = true) : pfA (n : Int) = flF pfB 1 n := by rw [pfA, h, Int.toNat_natCast]; rfl
theorem pfA_len (n : Int) : (pfA n).length ≤ 1048576 := by
  cases h : m6Ok n with
  | false => rw [pfA_no h]; exact Nat.zero_le _
  | true =>
    rw [pfA, h, if_pos rfl]
    have := flF_len pfB 1 n.toNat
    have := inB_true.1 h
    omega
/-- The numbers with more divisors than all before. -/
def rcR : Nat → Nat
  | 0 => 0
  | k + 1 => max (rcR k) (dvD (k + 1)).length
def rcB (n : Nat) : Bool := decide (rcR (n - 1) < (dvD n).length)
theorem rcR_le : ∀ k, rcR k ≤ k
  | 0 => Nat.le_refl _
  | k + 1 => by
    have h1 := rcR_le k
    have h2 : (dvD (k + 1)).length ≤ k + 1 := flF_len _ _ _
    rw [rcR]
    omega
def rcA (n : Int) : List Int := if m6Ok n then flF rcB 1 n.toNat else []
theorem rcA_no {n : Int} (h : m6Ok n = false) : rcA n = [] := by rw [rcA, h]; rfl
theorem rcA_yes {n : Nat} (h : m6Ok (n : Int) = true) : rcA (n : Int) = flF rcB 1 n := by rw [rcA, h, Int.toNat_natCast]; rfl
theorem rcA_len (n : Int) : (rcA n).length ≤ 1048576 := by
  cases h : m6Ok n with
  | false => rw [rcA_no h]; exact Nat.zero_le _
  | true =>
    rw [rcA, h, if_pos rfl]
    have := flF_len rcB 1 n.toNat
    have := inB_true.1 h
    omega

set_option maxRecDepth 100000 in
set_option maxHeartbeats 1200000 in
theorem spec_PerfectUpTo_c (w : World) (n : Int) :
    Calls Try.prog 8 #[.int .i64 n] w fun en w' => (∃ v, en = .returned (.tuple #[v, .bool (m6Ok n)]) ∧ OwnI w' w.heap.size v (pfA n)) ∧ Below w.heap.size w w' := by
  cases hg : inB n 0 600 with
  | false =>
    have ho : m6Ok n = false := hg
    rw [pfA_no ho, ho]
    clear ho
    go_enter Try.func8, Try.ntmps8
    go_wp2_with fail
    refine (l1In_c _ _ _ _).mono ?_
    rintro e w1 ⟨rfl, rfl⟩
    go_wp2
    go_ret2
    exact ⟨⟨_, rfl, OwnI.nil _ _⟩, (Below.refl _ _)⟩
  | true =>
    have ho : m6Ok n = true := hg
    obtain ⟨n1, n2⟩ := inB_true.1 hg
    obtain ⟨M, rfl⟩ := Int.eq_ofNat_of_zero_le n1
    rw [pfA_yes ho, ho]
    clear ho
    have hM : M ≤ 600 := by omega
    clear n1 n2
    have Hg := Lib.hid hg
    go_enter Try.func8, Try.ntmps8
    go_wp2_with fail
    refine (l1In_c _ _ _ _).mono ?_
    rintro e w1 ⟨rfl, rfl⟩
    go_wp2
    go_loopw [4, 5] (fun v i wr => ∃ k : Nat, k ≤ M ∧ i = .int .i64 ((k : Int) + 1) ∧ OwnI wr w.heap.size v (flF pfB 1 k) ∧ Below w.heap.size w wr) (fun _ i _ => 603 - (intOf i).toNat)
    case atStart => exact ⟨0, Nat.zero_le _, rfl, World.ownsRow_nil _ _ _ _, Below.refl _ _⟩
    case round =>
      obtain ⟨k, hk, rfl, hown, hbel⟩ := hrel
      have Hown := Lib.hid hown
      clear hown
      have hs := hbel.size
      have hul := flF_len pfB 1 k
      have Hl := Lib.hid (show (flF pfB 1 k).length ≤ 1048575 by omega)
      clear hul
      by_cases hlt : k < M
      · have hlt2 : (k : Int) + 1 ≤ (M : Int) := by omega
        have Hc := Lib.hid (fun W => dvSum_c W (1 + k) (by omega) (by omega))
        rw [show ((1 + k : Nat) : Int) = (k : Int) + 1 by omega] at Hc
        have hsb := dvS_small (n := 1 + k) (by omega) (by omega)
        obtain ⟨S, hS⟩ : ∃ S, dvS (1 + k) = S := ⟨_, rfl⟩
        rw [hS] at hsb Hc
        by_cases hp : S = 2 * ((k : Int) + 1)
        · have hbq : (S == 2 * ((k : Int) + 1)) = true := by rw [beq_iff_eq]; exact hp
          have Hy := Lib.hid (flF_yes (p := pfB) (a := 1) (k := k) (by rw [pfB, decide_eq_true_eq, hS]; omega))
          clear hS hp
          go_wp2_with fail
          refine (Hc.out _).mono ?_
          rintro e w1 ⟨rfl, b1⟩
          have hown1 := OwnI.below Hown.out b1
          have hs1 := b1.size
          go_wp2_with (at_builtin; refine wp_app_int _ rfl _ _ rfl w.heap.size _ _ rfl hown1 _ rfl (by have := Hl.out; omega) (by omega) ?_; intro v' w2 hown2 b2)
          go_roundw
          case rel => exact ⟨k + 1, by omega, by simp, by rw [Hy.out, Nat.add_comm 1 k]; exact hown2, (hbel.trans (b1.mono hs)).trans b2⟩
          case measure => simp [intOf]; omega
        · have hbq : (S == 2 * ((k : Int) + 1)) = false := beq_eq_false_iff_ne.2 hp
          have Hy := Lib.hid (flF_no (p := pfB) (a := 1) (k := k) (by rw [pfB, decide_eq_false_iff_not, hS]; omega))
          clear hS hp
          go_wp2_with fail
          refine (Hc.out _).mono ?_
          rintro e w1 ⟨rfl, b1⟩
          go_wp2
          go_roundw
          case rel => exact ⟨k + 1, by omega, by simp, by rw [Hy.out]; exact OwnI.below Hown.out b1, hbel.trans (b1.mono hs)⟩
          case measure => simp [intOf]; omega
      · have hlt2 : (M : Int) < (k : Int) + 1 := by omega
        have Hk := Lib.hid (show k = M by omega)
        go_wp2
        go_ret2
        exact ⟨⟨_, rfl, by rw [← Hk.out]; exact Hown.out⟩, hbel⟩

set_option maxRecDepth 100000 in
set_option maxHeartbeats 1200000 in
theorem spec_RecordsUpTo_c (w : World) (n : Int) :
    Calls Try.prog 10 #[.int .i64 n] w fun en w' => (∃ v, en = .returned (.tuple #[v, .bool (m6Ok n)]) ∧ OwnI w' w.heap.size v (rcA n)) ∧ Below w.heap.size w w' := by
  cases hg : inB n 0 600 with
  | false =>
    have ho : m6Ok n = false := hg
    rw [rcA_no ho, ho]
    clear ho
    go_enter Try.func10, Try.ntmps10
    go_wp2_with fail
    refine (l1In_c _ _ _ _).mono ?_
    rintro e w1 ⟨rfl, rfl⟩
    go_wp2
    go_ret2
    exact ⟨⟨_, rfl, OwnI.nil _ _⟩, (Below.refl _ _)⟩
  | true =>
    have ho : m6Ok n = true := hg
    obtain ⟨n1, n2⟩ := inB_true.1 hg
    obtain ⟨M, rfl⟩ := Int.eq_ofNat_of_zero_le n1
    rw [rcA_yes ho, ho]
    clear ho
    have hM : M ≤ 600 := by omega
    clear n1 n2
    have Hg := Lib.hid hg
    go_enter Try.func10, Try.ntmps10
    go_wp2_with fail
    refine (l1In_c _ _ _ _).mono ?_
    rintro e w1 ⟨rfl, rfl⟩
    go_wp2
    go_loopw [4, 5, 6] (fun v r i wr => ∃ k : Nat, k ≤ M ∧ i = .int .i64 ((k : Int) + 1) ∧ OwnI wr w.heap.size v (flF rcB 1 k) ∧ r = .int .i64 (rcR k : Int) ∧ Below w.heap.size w wr) (fun _ _ i _ => 603 - (intOf i).toNat)
    case atStart => exact ⟨0, Nat.zero_le _, rfl, World.ownsRow_nil _ _ _ _, rfl, Below.refl _ _⟩
    case round =>
      obtain ⟨k, hk, rfl, hown, rfl, hbel⟩ := hrel
      have Hown := Lib.hid hown
      clear hown
      have hs := hbel.size
      have hul := flF_len rcB 1 k
      have Hl := Lib.hid (show (flF rcB 1 k).length ≤ 1048575 by omega)
      clear hul
      by_cases hlt : k < M
      · have hlt2 : (k : Int) + 1 ≤ (M : Int) := by omega
        have Hc := Lib.hid (fun W => dvList_c W (1 + k) (by omega) (by omega))
        rw [show ((1 + k : Nat) : Int) = (k : Int) + 1 by omega] at Hc
        have hrl := rcR_le k
        have hdl : (dvD (1 + k)).length ≤ 1 + k := flF_len _ _ _
        obtain ⟨R, hR⟩ : ∃ R, rcR k = R := ⟨_, rfl⟩
        have hRs : rcR (k + 1) = max R (dvD (1 + k)).length := by rw [rcR, hR, Nat.add_comm k 1]
        have hBs : rcB (1 + k) = decide (R < (dvD (1 + k)).length) := by rw [rcB, show 1 + k - 1 = k by omega, hR]
        rw [hR] at hrl ⊢
        obtain ⟨xs, hx⟩ : ∃ xs, dvD (1 + k) = xs := ⟨_, rfl⟩
        rw [hx] at hdl Hc hRs hBs
        obtain ⟨L, hL⟩ : ∃ L, xs.length = L := ⟨_, rfl⟩
        have HL := Lib.hid hL
        rw [hL] at hdl hRs hBs
        clear hx hR hL
        by_cases hp : R < L
        · have Hy := Lib.hid (flF_yes (p := rcB) (a := 1) (k := k) (by rw [hBs, decide_eq_true_eq]; exact hp))
          have Hr := Lib.hid (show rcR (k + 1) = L by rw [hRs]; omega)
          clear hRs hBs
          go_wp2_with fail
          refine (Hc.out _).mono ?_
          rintro e w1 ⟨⟨v3, rfl, o3⟩, b1⟩
          obtain ⟨A3, c3, rfl⟩ := o3.shape
          rw [HL.out]
          clear o3
          have hown1 := OwnI.below Hown.out b1
          have hs1 := b1.size
          go_wp2_with (at_builtin; refine wp_app_int _ rfl _ _ rfl w.heap.size _ _ rfl hown1 _ rfl (by have := Hl.out; omega) (by omega) ?_; intro v' w2 hown2 b2)
          go_roundw
          case rel => exact ⟨k + 1, by omega, by simp, by rw [Hy.out, Nat.add_comm 1 k]; exact hown2, by rw [Hr.out], (hbel.trans (b1.mono hs)).trans b2⟩
          case measure => simp [intOf]; omega
        · have Hy := Lib.hid (flF_no (p := rcB) (a := 1) (k := k) (by rw [hBs, decide_eq_false_iff_not]; exact hp))
          have Hr := Lib.hid (show rcR (k + 1) = R by rw [hRs]; omega)
          clear hRs hBs
          go_wp2_with fail
          refine (Hc.out _).mono ?_
          rintro e w1 ⟨⟨v3, rfl, o3⟩, b1⟩
          obtain ⟨A3, c3, rfl⟩ := o3.shape
          rw [HL.out]
          clear o3
          go_wp2
          go_roundw
          case rel => exact ⟨k + 1, by omega, by simp, by rw [Hy.out]; exact OwnI.below Hown.out b1, by rw [Hr.out], hbel.trans (b1.mono hs)⟩
          case measure => simp [intOf]; omega
      · have hlt2 : (M : Int) < (k : Int) + 1 := by omega
        have Hk := Lib.hid (show k = M by omega)
        go_wp2
        go_ret2
        exact ⟨⟨_, rfl, by rw [← Hk.out]; exact Hown.out⟩, hbel⟩


/-- Sums of totients. -/
def toSum : Nat → Nat
  | 0 => 0
  | k + 1 => toSum k + toF (k + 1)
theorem toSum_le : ∀ k, toSum k ≤ k * k
  | 0 => Nat.le_refl _
  | k + 1 => by
    have h1 := toSum_le k
    have h2 : toF (k + 1) ≤ k + 1 := toS_le _ (Nat.le_refl _)
    have h3 : (k + 1) * (k + 1) = k * k + 2 * k + 1 := by rw [Nat.add_mul, Nat.mul_add]; omega
    rw [toSum]
    omega
def cpOk (n : Int) : Bool := inB n 1 600
def cpV (n : Int) : Int := if cpOk n then 2 * (toSum n.toNat : Int) - 1 else 0
theorem cpV_no {n : Int} (h : cpOk n = false) : cpV n = 0 := by rw [cpV, h]; rfl
theorem cpV_yes {n : Nat} (h : cpOk (n : Int) = true) : cpV (n : Int) = 2 * (toSum n : Int) - 1 := by rw [cpV, h, Int.toNat_natCast]; rfl

set_option maxRecDepth 100000 in
set_option maxHeartbeats 800000 in
theorem spec_CoprimePairs_c (w : World) (n : Int) :
    Calls Try.prog 17 #[.int .i64 n] w fun en w' => en = .returned (.tuple #[.int .i64 (cpV n), .bool (cpOk n)]) ∧ Below w.heap.size w w' := by
  cases hg : inB n 1 600 with
  | false =>
    have ho : cpOk n = false := hg
    rw [cpV_no ho, ho]
    clear ho
    go_enter Try.func17, Try.ntmps17
    go_wp2_with fail
    refine (l1In_c _ _ _ _).mono ?_
    rintro e w1 ⟨rfl, rfl⟩
    go_wp2
    go_ret2
    exact ⟨rfl, (Below.refl _ _)⟩
  | true =>
    have ho : cpOk n = true := hg
    obtain ⟨n1, n2⟩ := inB_true.1 hg
    obtain ⟨N, rfl⟩ := Int.eq_ofNat_of_zero_le (Int.le_trans (by omega) n1)
    rw [cpV_yes ho, ho]
    clear ho
    have N1 : 1 ≤ N := by omega
    have N9 : N ≤ 600 := by omega
    clear n1 n2
    have Hg := Lib.hid hg
    go_enter Try.func17, Try.ntmps17
    go_wp2_with fail
    refine (l1In_c _ _ _ _).mono ?_
    rintro e w1 ⟨rfl, rfl⟩
    go_wp2
    go_loopw [4, 5] (fun s i wr => ∃ k : Nat, k ≤ N ∧ i = .int .i64 ((k : Int) + 1) ∧ s = .int .i64 (toSum k : Int) ∧ Below w.heap.size w wr) (fun _ i _ => 603 - (intOf i).toNat)
    case atStart => exact ⟨0, Nat.zero_le _, rfl, rfl, Below.refl _ _⟩
    case round =>
      obtain ⟨k, hk, rfl, rfl, hbel⟩ := hrel
      have hs := hbel.size
      have hb := toSum_le k
      have hkk : k * k ≤ 360000 := Nat.mul_le_mul (show k ≤ 600 by omega) (show k ≤ 600 by omega)
      have hSt : toSum (k + 1) = toSum k + toF (k + 1) := rfl
      obtain ⟨S, hS⟩ : ∃ S, toSum k = S := ⟨_, rfl⟩
      have HS := Lib.hid hS
      rw [hS] at hb hSt ⊢
      have hS9 : S ≤ 360000 := by omega
      clear hb hkk hS
      by_cases hlt : k < N
      · have Hc := Lib.hid (fun W => dvTotient_c W (k + 1) (by omega) (by omega))
        rw [show ((k + 1 : Nat) : Int) = (k : Int) + 1 by omega] at Hc
        have hf : toF (k + 1) ≤ k + 1 := toS_le _ (Nat.le_refl _)
        obtain ⟨F, hF⟩ : ∃ F, toF (k + 1) = F := ⟨_, rfl⟩
        rw [hF] at hf hSt Hc
        have HSt := Lib.hid hSt
        clear hF hSt
        go_wp2_with fail
        refine (Hc.out _).mono ?_
        rintro e w1 ⟨rfl, b1⟩
        go_wp2
        go_roundw
        case rel => exact ⟨k + 1, by omega, by go_num, by rw [HSt.out]; go_num, hbel.trans (b1.mono hs)⟩
        case measure => simp [intOf]; omega
      · have Hk := Lib.hid (show toSum N = S by rw [← HS.out, show k = N by omega])
        clear hSt
        go_wp2
        go_ret2
        exact ⟨by rw [Hk.out]; rfl, hbel⟩

end Go.Proofs.Ytjblgohgkkfoiaa
