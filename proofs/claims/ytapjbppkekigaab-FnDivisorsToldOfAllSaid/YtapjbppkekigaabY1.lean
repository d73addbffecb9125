import Derived.Test.YtapjbppkekigaabGB
import Derived.Test.YtapjbppkekigaabY0
import Derived.StillTailTactics
namespace Go.Proofs.Ytapjbppkekigaab
open Go.RowKit
set_option linter.unusedVariables false
set_option linter.unusedSimpArgs false

theorem flL_both {N i : Nat} (h : i < (flL N).length) : ∃ (h2 : i < (facs N).length), psL (flL N) i = [((facs N)[i].1 : Int), ((facs N)[i].2 : Int)] := by
  have hl : i < (facs N).length := by rw [flL, List.length_map] at h; exact h
  exact ⟨hl, flL_get hl⟩
/-- Signs by exponents. -/
def exS (n k : Nat) : Bool := ((facs n).take k).all fun x => decide (x.2 ≤ 1)
theorem exS_succ {n k : Nat} (h : k < (facs n).length) : exS n (k + 1) = (exS n k && decide ((facs n)[k].2 ≤ 1)) := by
  rw [exS, List.take_succ_eq_append_getElem h, List.all_append]
  simp [exS]
def sgD (n : Nat) : Int := if (facs n).all (fun x => decide (x.2 ≤ 1)) then (if (facs n).length % 2 = 0 then 1 else -1) else 0
theorem exS_all (n : Nat) : exS n (facs n).length = (facs n).all fun x => decide (x.2 ≤ 1) := by rw [exS, List.take_length]
theorem exS_zero (n : Nat) : exS n 0 = true := rfl
theorem exS_fall {n : Nat} : ∀ (d k : Nat), k + d = (facs n).length → exS n k = false → exS n (facs n).length = false
  | 0, k, h, h2 => by rw [← h]; exact h2
  | d + 1, k, h, h2 => exS_fall d (k + 1) (by omega) (by rw [exS_succ (by omega), h2]; rfl)
def altS (k : Nat) : Int := if k % 2 = 0 then 1 else -1
theorem altS_succ (k : Nat) : altS (k + 1) = -altS k := by
  rw [altS, altS]
  split <;> split <;> omega
theorem altS_bound (k : Nat) : -1 ≤ altS k ∧ altS k ≤ 1 := by rw [altS]; split <;> omega
/-- Totients by factors. -/
def toS (n k : Nat) : Nat := ((facs n).take k).foldl (fun m x => m / x.1 * (x.1 - 1)) n
theorem toS_succ {n k : Nat} (h : k < (facs n).length) : toS n (k + 1) = toS n k / (facs n)[k].1 * ((facs n)[k].1 - 1) := by
  rw [toS, List.take_succ_eq_append_getElem h, List.foldl_append]
  rfl
theorem toS_le {n : Nat} : ∀ k, k ≤ (facs n).length → toS n k ≤ n
  | 0, _ => Nat.le_refl _
  | k + 1, h => by
    have h1 := toS_le (n := n) k (by omega)
    rw [toS_succ (by omega)]
    have h2 : toS n k / (facs n)[k].1 * ((facs n)[k].1 - 1) ≤ toS n k / (facs n)[k].1 * (facs n)[k].1 := Nat.mul_le_mul (Nat.le_refl _) (by omega)
    have h3 := Nat.div_mul_le_self (toS n k) (facs n)[k].1
    omega
def toF (n : Nat) : Nat := toS n (facs n).length

set_option maxRecDepth 100000 in
set_option maxHeartbeats 800000 in
theorem dvSign_c (w : World) (N : Nat) (h1 : 1 ≤ N) (h9 : N ≤ 1000000000) :
    Calls Try.prog 40 #[.int .i64 (N : Int)] w fun en w' => en = .returned (.int .i64 (sgD N)) ∧ Below w.heap.size w w' := by
  have Hfl := Lib.hid (fun i => flL_both (N := N) (i := i))
  have hll : (flL N).length = (facs N).length := by rw [flL, List.length_map]
  have hl29 := flL_len h1 h9
  have Hll := Lib.hid hll
  have Hbd := Lib.hid (facs_lt N h1)
  clear hll
  go_enter Try.func40, Try.ntmps40
  go_wp2_with fail
  refine (prFactors_c _ N h1 h9).mono ?_
  rintro e w2 ⟨⟨v2, rfl, o3⟩, b2⟩
  have hs2 := b2.size
  obtain ⟨A, c, rfl⟩ := o3.shape
  have R0 := Lr_of_own o3
  clear o3
  go_wp2_with fail
  go_loop [3, 9] (fun a i => ∃ k : Nat, k ≤ (flL N).length ∧ i = .int .i64 (k : Int) ∧ a = .int .i64 (altS k) ∧ exS N k = true) (fun _ i => (flL N).length - (intOf i).toNat)
  case atStart => exact ⟨0, Nat.zero_le _, rfl, rfl, rfl⟩
  case round =>
    obtain ⟨k, hk, rfl, rfl, hex⟩ := hrel
    have Hex := Lib.hid hex
    clear hex
    have hab := altS_bound k
    have has := altS_succ k
    obtain ⟨S, hS⟩ : ∃ S, altS k = S := ⟨_, rfl⟩
    rw [hS] at hab has ⊢
    have Has := Lib.hid has
    have HS := Lib.hid hS
    clear has hS
    by_cases hlt : k < (flL N).length
    · obtain ⟨b, off, rfl, hb, hr⟩ := R0 (by omega)
      obtain ⟨A1, c1, q1, r1⟩ := hr k hlt
      obtain ⟨hlt2, hv⟩ := Hfl.out k hlt
      rw [hv] at q1 r1
      obtain ⟨b1, off1, rfl, hb1, hr1⟩ := r1 (by simp)
      have q2 := hr1 1 (by simp)
      have hx9 := (Hbd.out (facs N)[k] (List.getElem_mem _)).2.2.2.2
      have hes := exS_succ hlt2
      have q2' : w2.cell? ⟨b1, off1 + 1, none⟩ = some (.int .i64 (((facs N)[k].2 : Nat) : Int)) := q2
      have q1' := q1
      simp only [List.length_cons, List.length_nil] at q1'
      obtain ⟨x, hx⟩ : ∃ x, (facs N)[k].2 = x := ⟨_, rfl⟩
      rw [hx] at q2' hes hx9
      clear hr hr1 hv q2 q1 r1 hx
      by_cases hx1 : x ≤ 1
      · have He := Lib.hid (show exS N (k + 1) = true by rw [hes, Hex.out]; simp [hx1])
        clear hes
        go_wp2
        go_round
        case rel => exact ⟨k + 1, by omega, by go_num, by rw [Has.out], He.out⟩
        case measure => simp [intOf]; omega
      · have He : Hid (sgD N = 0) := by
          show _ = _
          have h2 : exS N (k + 1) = false := by rw [hes]; simp [hx1]
          have h3 := exS_fall ((facs N).length - (k + 1)) (k + 1) (by omega) h2
          rw [sgD, ← exS_all, h3]
          rfl
        clear hes
        go_wp2
        go_ret
        exact ⟨by rw [He.out]; rfl, b2⟩
    · have He : Hid (sgD N = S) := by
        show _ = _
        have hkl : k = (facs N).length := by have := Hll.out; omega
        have h2 := Hex.out
        rw [hkl, exS_all] at h2
        have h3 := HS.out
        rw [hkl, altS] at h3
        rw [sgD, if_pos h2]
        exact h3
      go_wp2
      go_ret
      exact ⟨by rw [He.out]; rfl, b2⟩

set_option maxRecDepth 100000 in
set_option maxHeartbeats 800000 in
theorem dvTotient_c (w : World) (N : Nat) (h1 : 1 ≤ N) (h9 : N ≤ 1000000000) :
    Calls Try.prog 38 #[.int .i64 (N : Int)] w fun en w' => en = .returned (.int .i64 (toF N : Int)) ∧ Below w.heap.size w w' := by
  have Hfl := Lib.hid (fun i => flL_both (N := N) (i := i))
  have hll : (flL N).length = (facs N).length := by rw [flL, List.length_map]
  have hl29 := flL_len h1 h9
  have Hll := Lib.hid hll
  have Hbd := Lib.hid (facs_lt N h1)
  clear hll
  go_enter Try.func38, Try.ntmps38
  go_wp2_with fail
  refine (prFactors_c _ N h1 h9).mono ?_
  rintro e w2 ⟨⟨v2, rfl, o3⟩, b2⟩
  have hs2 := b2.size
  obtain ⟨A, c, rfl⟩ := o3.shape
  have R0 := Lr_of_own o3
  clear o3
  go_wp2_with fail
  go_loopw [0, 8] (fun a i wr => ∃ k : Nat, k ≤ (flL N).length ∧ i = .int .i64 (k : Int) ∧ a = .int .i64 (toS N k : Int) ∧ Below w2.heap.size w2 wr) (fun _ i _ => (flL N).length - (intOf i).toNat)
  case atStart => exact ⟨0, Nat.zero_le _, rfl, rfl, Below.refl _ _⟩
  case round =>
    obtain ⟨k, hk, rfl, rfl, hbel⟩ := hrel
    have hab := toS_le (n := N) k (by have := Hll.out; omega)
    obtain ⟨S, hS⟩ : ∃ S, toS N k = S := ⟨_, rfl⟩
    have HS := Lib.hid hS
    rw [hS] at hab ⊢
    clear hS
    by_cases hlt : k < (flL N).length
    · obtain ⟨b, off, rfl, hb, hr⟩ := R0 (by omega)
      obtain ⟨A1, c1, q1, r1⟩ := hr k hlt
      obtain ⟨hlt2, hv⟩ := Hfl.out k hlt
      rw [hv] at q1 r1
      obtain ⟨b1, off1, rfl, hb1, hr1⟩ := r1 (by simp)
      have q2 := hr1 0 (by simp)
      have hx9 := Hbd.out (facs N)[k] (List.getElem_mem _)
      have hes := toS_succ hlt2
      have hbn := toS_le (n := N) (k + 1) (by omega)
      rw [HS.out] at hes
      have q2' : wr.cell? ⟨b1, off1, none⟩ = some (.int .i64 (((facs N)[k].1 : Nat) : Int)) := (hbel.cell (p := ⟨b1, off1, none⟩) hb1).trans q2
      have q1' := (hbel.cell (p := ⟨b, off + k, none⟩) hb).trans q1
      simp only [List.length_cons, List.length_nil] at q1'
      obtain ⟨p, hp⟩ : ∃ p, (facs N)[k].1 = p := ⟨_, rfl⟩
      rw [hp] at q2' hes
      rw [hp] at hx9
      obtain ⟨hp2, -, hp9, -⟩ := hx9
      obtain ⟨m, hm⟩ : ∃ m, p - 1 = m := ⟨_, rfl⟩
      rw [hm] at hes
      obtain ⟨Q, hQ⟩ : ∃ Q, S / p = Q := ⟨_, rfl⟩
      rw [hQ] at hes
      obtain ⟨Y, hY⟩ : ∃ Y, Q * m = Y := ⟨_, rfl⟩
      rw [hY] at hes
      rw [hes] at hbn
      have hQ9 : Q ≤ S := by rw [← hQ]; exact Nat.div_le_self _ _
      have hz : ((p : Int) == 0) = false := beq_eq_false_iff_ne.2 (by omega)
      have hQi : (S : Int) / (p : Int) = (Q : Int) := by rw [← hQ, Int.natCast_ediv]
      have hmi : (p : Int) - 1 = (m : Int) := by omega
      have hYi : (Q : Int) * (m : Int) = (Y : Int) := by rw [← hY, Int.natCast_mul]
      have Hes := Lib.hid hes
      clear hr hr1 hv q2 q1 r1 hp hQ hY hes
      go_wp2_with fail
      go_quiet (fail)
      go_wp2_with fail
      go_roundw
      case rel => exact ⟨k + 1, by omega, by go_num, by rw [Hes.out], hbel.trans ⟨rfl, rfl, rfl, Nat.le_refl _, fun _ _ => rfl⟩⟩
      case measure => simp [intOf]; omega
    · have He : Hid (toF N = S) := by
        show _ = _
        rw [toF, ← HS.out, show k = (facs N).length by have := Hll.out; omega]
      go_wp2
      go_ret
      exact ⟨by rw [He.out]; rfl, b2.trans (hbel.mono b2.size)⟩

end Go.Proofs.Ytapjbppkekigaab
