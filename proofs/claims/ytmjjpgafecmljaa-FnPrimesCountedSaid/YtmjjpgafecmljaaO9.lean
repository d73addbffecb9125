import Derived.Test.YtmjjpgafecmljaaO6
import Derived.Test.YtmjjpgafecmljaaG9
import Derived.Test.YtmjjpgafecmljaaO0
import Derived.StillTailTactics
namespace Go.Proofs.Ytmjjpgafecmljaa
open Go.RowKit
set_option linter.unusedVariables false
set_option linter.unusedSimpArgs false

/-! What FnPrimesCounted asks of primes, told of the functions' own answers: pure. -/
theorem pc_elem {lo hi k : Nat} (h : k < (prB lo hi).length) : ∃ P : Nat, ivL (prB lo hi) k = (P : Int) ∧ primeB P = true ∧ lo ≤ P ∧ P ≤ hi := by
  obtain ⟨m, e, h1, h2, h3⟩ := flF_mem.1 (iv_in (xs := flF primeB lo (hi + 1 - lo)) h)
  exact ⟨m, e, h3, h1, by omega⟩
theorem pc_next {lo hi k P Q : Nat} (h : k + 1 < (prB lo hi).length) (hQ : ivL (prB lo hi) k = (Q : Int)) (hP : ivL (prB lo hi) (k + 1) = (P : Int)) :
    Q < P ∧ (P ≤ 1000000 → npOk (Q : Int) = true ∧ npV (Q : Int) = (P : Int)) := by
  have hr := flF_rise6 primeB lo (hi + 1 - lo)
  have hlt := iv_lt hr (Nat.lt_succ_self k) h
  rw [show ivL (flF primeB lo (hi + 1 - lo)) k = (Q : Int) from hQ, show ivL (flF primeB lo (hi + 1 - lo)) (k + 1) = (P : Int) from hP] at hlt
  refine ⟨by omega, fun h6 => ?_⟩
  have hok : npOk (Q : Int) = true := inB_true.2 (by omega)
  refine ⟨hok, ?_⟩
  rw [npV_yes hok]
  obtain ⟨P', e, hp, _, _⟩ := pc_elem h
  rw [hP] at e
  obtain rfl : P = P' := by omega
  rw [nextP_is hp (by omega) (P - (Q + 1)) (Q + 1) (by omega) fun q h1 h2 => ?_]
  refine fl_between (a := lo) (k := hi + 1 - lo) (i := k) h ?_ ?_
  · rw [show ivL (flF primeB lo (hi + 1 - lo)) k = (Q : Int) from hQ]; omega
  · rw [show ivL (flF primeB lo (hi + 1 - lo)) (k + 1) = (P : Int) from hP]; omega
theorem pc_rank {r : Nat} (h : porOk (r : Int) = true) : ∃ P : Nat, porV (r : Int) = (P : Int) ∧ cpOk (P : Int) = true ∧ cpV (P : Int) = (r : Int) + 1 := by
  have hr : r < pr9.length := by
    have := inB_true.1 h
    rw [pr9_len]; omega
  obtain ⟨m, e, h1, h2, h3⟩ := flF_mem.1 (iv_in (xs := flF primeB 2 9999) hr)
  have hok : cpOk (m : Int) = true := inB_true.2 (by omega)
  refine ⟨m, by rw [porV_yes h]; exact e, hok, ?_⟩
  rw [cpV_yes hok, Int.toNat_natCast, prB, fl_rank (p := primeB) (a := 2) (k := 9999) hr e]
  omega
theorem pc_left {n k : Nat} (h : cwOk (n : Int) (k : Int) = true) (h6 : n ≤ 600) :
    okM (rpA (k : Int)) (n : Int) = true ∧ cntV (rpA (k : Int)) (n : Int) = cwV (n : Int) (k : Int) ∧ (rpA (k : Int)).length = k := by
  rw [cwOk, Bool.and_eq_true, inB_true, inB_true] at h
  have hk : k ≤ 12 := by omega
  have hrp : rpOk (k : Int) = true := inB_true.2 (by omega)
  have hcw : cwOk (n : Int) (k : Int) = true := by rw [cwOk, Bool.and_eq_true, inB_true, inB_true]; exact h
  have hok : okM (ruL (pr9.take k)) (n : Int) = true := by rw [okM, ruP_good hk]; exact inB_true.2 (by omega)
  rw [rpA_yes hrp]
  refine ⟨hok, ?_, ?_⟩
  · rw [cntV, hok, cwV_yes hcw, Int.toNat_natCast, wF_cop hk, if_pos rfl, upF_cop hk]
  · rw [ruL, List.length_map, List.length_take, pr9_len]; omega
theorem pc_list {n : Nat} (h : cpOk (n : Int) = true) (h2 : n ≤ 2000) : pbOk 0 (n : Int) = true ∧ ((pbA 0 (n : Int)).length : Int) = cpV (n : Int) := by
  have hok : pbOk 0 (n : Int) = true := by
    rw [pbOk, Bool.and_eq_true, Bool.and_eq_true, inB_true, inB_true, decide_eq_true_eq]; omega
  refine ⟨hok, ?_⟩
  rw [pbA_yes hok, cpV_yes h, Int.toNat_natCast, prB_two]
  rfl
theorem pc_leg {n : Nat} (h1 : 1 ≤ n) (h6 : n ≤ 600) : ∃ L : Nat, crOk (n : Int) = true ∧ (crA (n : Int)).length = L ∧ L ≤ 9 ∧ cwOk (n : Int) (L : Int) = true ∧ cwV (n : Int) (L : Int) + (L : Int) - 1 = cpV (n : Int) := by
  have hok : crOk (n : Int) = true := inB_true.2 (by omega)
  obtain ⟨h9, he⟩ := legendre h1 h6
  refine ⟨(flF (crB n) 2 (n + 1 - 2)).length, hok, by rw [crA_yes hok], h9, ?_, ?_⟩
  · rw [cwOk, Bool.and_eq_true, inB_true, inB_true]; omega
  · have hcw : cwOk (n : Int) (((flF (crB n) 2 (n + 1 - 2)).length : Nat) : Int) = true := by rw [cwOk, Bool.and_eq_true, inB_true, inB_true]; omega
    rw [cwV_yes hcw, Int.toNat_natCast, wF_cop (by omega), cpV_yes (inB_true.2 (by omega)), Int.toNat_natCast]
    have : piN n = (prB 2 n).length := rfl
    omega
theorem isPz {n : Nat} (h9 : n ≤ 1000000000) : isPOk (n : Int) = true ∧ isPV (n : Int) = primeB n := by
  have h : isPOk (n : Int) = true := inB_true.2 (by omega)
  exact ⟨h, by rw [isPV, h, Int.toNat_natCast]; rfl⟩
theorem eq_ruleG (a b : Int) (w : World) : (Op.equalIn 10000 61 (.agg #[.int .i64 a, .int .i64 b]) (.agg #[.int .i64 a, .int .i64 b])).run Try.prog w = .ok true w := by
  have hu := Try.underlying61
  go_simp
set_option maxRecDepth 100000 in
set_option maxHeartbeats 800000 in
theorem gRules_c (A B : Option Addr) (n m c d : Nat) (rs : List (Int × Int)) (w : World) (hA : Rl w A rs) (hB : Rl w B rs) (hn : n = rs.length) (hm : m = rs.length) (hn1 : n ≤ 1048576) :
    Calls Try.prog 36 #[.slice A n c, .slice B m d] w fun en w' => en = .returned (.bool true) ∧ Below w.heap.size w w' := by
  have hnm : m = n := by rw [hn, hm]
  subst hnm
  have Hn := Lib.hid hn
  clear hn hm
  go_enter Try.func36, Try.ntmps36
  go_wp2
  go_loopw [13] (fun i wr => ∃ k : Nat, k ≤ m ∧ i = .int .i64 k ∧ Below w.heap.size w wr) (fun i _ => m - (intOf i).toNat)
  case atStart => exact ⟨0, Nat.zero_le _, rfl, Below.refl _ _⟩
  case round =>
    obtain ⟨k, hk, rfl, hbel⟩ := hrel
    by_cases hlt : k < m
    · have hlt1 : k < rs.length := by have := Hn.out; omega
      obtain ⟨b, off, rfl, hb, hr⟩ := hA (by omega)
      obtain ⟨b2, off2, rfl, hb2, hr2⟩ := hB (by omega)
      have hc0 := (hbel.cell (p := ⟨b, off + k * 2, none⟩) hb).trans (hr k hlt1).1
      have hc1 := (hbel.cell (p := ⟨b, off + k * 2 + 1, none⟩) hb).trans (hr k hlt1).2
      have hd0 := (hbel.cell (p := ⟨b2, off2 + k * 2, none⟩) hb2).trans (hr2 k hlt1).1
      have hd1 := (hbel.cell (p := ⟨b2, off2 + k * 2 + 1, none⟩) hb2).trans (hr2 k hlt1).2
      have hi1 : (k : Int) < (m : Int) := by omega
      have heq := eq_ruleG (evL rs k) (reL rs k)
      go_wp2_with fail
      go_still_tail 8, (by kernel_rfl)
      go_wp2
      go_roundw
      case rel => exact ⟨k + 1, by omega, by go_num, hbel.drew⟩
      case measure => simp [intOf]; omega
    · go_wp2
      go_ret
      exact ⟨rfl, hbel⟩

end Go.Proofs.Ytmjjpgafecmljaa
