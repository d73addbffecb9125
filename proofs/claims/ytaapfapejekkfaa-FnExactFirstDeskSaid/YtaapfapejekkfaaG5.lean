import Derived.Test.YtaapfapejekkfaaG4
import Derived.Test.YtaapfapejekkfaaP8
namespace Go.Proofs.Ytaapfapejekkfaa
open Go.RowKit
set_option linter.unusedVariables false
set_option linter.unusedSimpArgs false

/-- The primes up to 10000. -/
def pr9 : List Int := flF primeB 2 9999
theorem pr9_len : pr9.length = 1229 := count_primes
theorem pr9_is : prB 2 10000 = pr9 := rfl
theorem pr9_take {j k : Nat} (hj : j ≤ 9999) (h : (flF primeB 2 j).length = k) : pr9.take k = flF primeB 2 j := by
  rw [pr9, show 9999 = j + (9999 - j) by omega, flF_add, ← h, List.take_left']
  rfl
theorem pr9_more {j k : Nat} (h : (flF primeB 2 j).length < k) (hk : k ≤ 1229) (hj : j ≤ 9999) : j + 1 ≤ 9999 := by
  rcases Nat.lt_or_ge j 9999 with h1 | h1
  · exact h1
  · have : j = 9999 := by omega
    rw [this, count_primes] at h
    omega
theorem pr9_first {k : Nat} (hk : k ≤ 12) : (prB 2 37).take k = pr9.take k := by
  rw [pr9, show 9999 = 36 + 9963 by rfl, flF_add, List.take_append_of_le_length (by rw [count_first]; exact hk)]
  rfl
theorem OwnI.cap {w : World} {B n c : Nat} {A : Option Addr} {xs : List Int} (h : OwnI w B (.slice A n c) xs) : n ≤ c ∧ c ≤ 9223372036854775807 := by
  rcases h.2 with ⟨e, h0⟩ | ⟨g, cap, cur, e, hB, hg, hle, hm, hcs, ht⟩
  · simp only [Value.slice.injEq] at e
    omega
  · simp only [Value.slice.injEq] at e
    unfold maxLen at hm
    omega

set_option maxRecDepth 100000 in
set_option maxHeartbeats 800000 in
theorem prFirst_c (w : World) (k : Nat) (hk : k ≤ 1229) :
    Calls Try.prog 292 #[.int .i64 (k : Int)] w fun en w' => (∃ v, en = .returned v ∧ OwnI w' w.heap.size v (pr9.take k)) ∧ Below w.heap.size w w' := by
  go_enter Try.func292, Try.ntmps292
  go_wp2
  go_loopw [3, 4] (fun v i wr => ∃ j : Nat, i = .int .i64 ((j : Int) + 2) ∧ j ≤ 9999 ∧ (flF primeB 2 j).length ≤ k ∧ OwnI wr w.heap.size v (flF primeB 2 j) ∧ Below w.heap.size w wr) (fun _ i _ => 10002 - (intOf i).toNat)
  case atStart => exact ⟨0, rfl, by omega, by rw [flF_zero]; exact Nat.zero_le _, World.ownsRow_nil _ _ _ _, Below.refl _ _⟩
  case round =>
    rename_i v
    obtain ⟨j, rfl, hj, hlen, hown, hbel⟩ := hrel
    obtain ⟨A, c, rfl⟩ := hown.shape
    have Hown := Lib.hid hown
    clear hown
    have hs := hbel.size
    have E2 := Lib.hid (show ((j : Int) + 2).toNat = 2 + j by omega)
    by_cases hlt : (flF primeB 2 j).length < k
    · have hmore := pr9_more hlt hk hj
      cases hp : primeB (2 + j) with
      | true =>
        have Hy := Lib.hid (flF_yes hp)
        have Hl := Lib.hid (show (flF primeB 2 j).length ≤ 1048575 by omega)
        go_wp2_with fail
        refine (prIs_c _ _ (by omega)).mono ?_
        rw [E2.out, hp]
        rintro e w1 ⟨rfl, rfl⟩
        go_wp2_with (at_builtin; refine wp_app_int _ rfl _ _ rfl w.heap.size _ _ rfl Hown.out _ rfl (by have := Hl.out; omega) (by omega) ?_; intro v' w2 hown2 b2)
        go_roundw
        case rel => exact ⟨j + 1, by simp; omega, by omega, by rw [Hy.out, List.length_append, List.length_singleton]; omega, by rw [Hy.out, Nat.add_comm 2 j]; exact hown2, hbel.trans b2⟩
        case measure => simp [intOf]; omega
      | false =>
        have Hy := Lib.hid (flF_no hp)
        go_wp2_with fail
        refine (prIs_c _ _ (by omega)).mono ?_
        rw [E2.out, hp]
        rintro e w1 ⟨rfl, rfl⟩
        go_wp2
        go_roundw
        case rel => exact ⟨j + 1, by simp; omega, by omega, by rw [Hy.out]; exact hlen, by rw [Hy.out]; exact Hown.out, hbel⟩
        case measure => simp [intOf]; omega
    · have Ht := Lib.hid (pr9_take hj (show (flF primeB 2 j).length = k by omega))
      go_wp2
      go_ret
      exact ⟨⟨_, rfl, by rw [Ht.out]; exact Hown.out⟩, hbel⟩

set_option maxRecDepth 100000 in
set_option maxHeartbeats 800000 in
theorem firstPrimes_c (w : World) (k : Nat) (hk : k ≤ 12) :
    Calls Try.prog 323 #[.int .i64 (k : Int)] w fun en w' => (∃ g c, en = .returned (.slice (some ⟨g, 0, none⟩) k c) ∧ w.heap.size ≤ g ∧ g < w'.heap.size ∧ ∀ j, j < k → w'.cell? ⟨g, j, none⟩ = some (.int .i64 (ivL pr9 j))) ∧ Below w.heap.size w w' := by
  go_enter Try.func323, Try.ntmps323
  go_wp2_with fail
  refine (primesBetween_i _ 2 37 (by omega) (by omega) (by omega) (by omega) (by omega)).mono ?_
  rintro e w1 ⟨⟨v, rfl, o1⟩, b1⟩
  have o2 : OwnI w1 w.heap.size v (prB 2 37) := o1
  clear o1
  obtain ⟨A, c, rfl⟩ := o2.shape
  have h12 : (prB 2 37).length = 12 := count_first
  have hcap := o2.cap
  rw [h12] at hcap o2 ⊢
  obtain ⟨g, rfl, hg1, hg2⟩ := own_form (OwnI.own_n o2 h12.symm) (by omega)
  have HI := Lib.hid (fun j (hj : j < k) => show w1.cell? ⟨g, j, none⟩ = some (.int .i64 (ivL pr9 j)) by
    obtain ⟨g', e', _, _, hc⟩ := o2.cell (j := j) (by omega)
    injection e' with e'
    injection e' with e'
    subst e'
    rw [hc, ← ivL_take (xs := pr9) hj, ← pr9_first hk, ivL_take hj]
    rfl)
  clear o2 h12
  have hc1 : (k : Int) ≤ (c : Int) := by omega
  go_wp2
  go_ret
  exact ⟨⟨_, _, rfl, hg1, hg2, HI.out⟩, b1⟩

def porOk (r : Int) : Bool := inB r 0 1228
def porV (r : Int) : Int := if porOk r then ivL pr9 r.toNat else 0
theorem porV_no {r : Int} (h : porOk r = false) : porV r = 0 := by rw [porV, h]; rfl
theorem porV_yes {r : Nat} (h : porOk (r : Int) = true) : porV (r : Int) = ivL pr9 r := by rw [porV, h, Int.toNat_natCast]; rfl

end Go.Proofs.Ytaapfapejekkfaa
