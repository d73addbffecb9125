import Derived.Test.YtjoklbkbggdlgaaE7
import Derived.Test.YtjoklbkbggdlgaaG1
import Derived.Deep.SlicePairs
namespace Go.Proofs.Ytjoklbkbggdlgaa
open Go.RowKit
set_option linter.unusedVariables false
set_option linter.unusedSimpArgs false

/-- Whether a number is among numbers. -/
def hasF (xs : List Int) (s : Int) : Bool := decide (∃ k, k < xs.length ∧ ivL xs k = s)
theorem hasF_yes {xs : List Int} {s : Int} {k : Nat} (h : k < xs.length) (h2 : ivL xs k = s) : hasF xs s = true := decide_eq_true ⟨k, h, h2⟩
theorem hasF_no {xs : List Int} {s : Int} (h : ∀ k, k < xs.length → ivL xs k ≠ s) : hasF xs s = false := decide_eq_false fun ⟨k, h1, h2⟩ => h k h1 h2
theorem hasF_mem {xs : List Int} {s : Int} : hasF xs s = true ↔ s ∈ xs := by
  rw [hasF, decide_eq_true_eq, List.mem_iff_getElem]
  constructor
  · rintro ⟨k, h, e⟩; exact ⟨k, h, by simpa [ivL, h] using e⟩
  · rintro ⟨k, h, e⟩; exact ⟨k, h, by simpa [ivL, h] using e⟩
/-- How many at the front are less than s. -/
def posF (xs : List Int) (s : Int) : Nat := xs.findIdx fun x => decide (s ≤ x)
theorem posF_le (xs : List Int) (s : Int) : posF xs s ≤ xs.length := List.findIdx_le_length
theorem posF_end {xs : List Int} {s : Int} (h : ∀ j, j < xs.length → ivL xs j < s) : posF xs s = xs.length := by
  rw [posF, List.findIdx_eq_length]
  intro x hx
  obtain ⟨j, hj, e⟩ := List.mem_iff_getElem.1 hx
  have := h j hj
  rw [show ivL xs j = xs[j] by simp [ivL, hj], e] at this
  exact decide_eq_false (by omega)
theorem posF_at {xs : List Int} {s : Int} {k : Nat} (hk : k < xs.length) (h : ∀ j, j < k → ivL xs j < s) (h2 : s ≤ ivL xs k) : posF xs s = k := by
  rw [posF, List.findIdx_eq hk]
  refine ⟨decide_eq_true ?_, fun j hj => decide_eq_false ?_⟩
  · rwa [show ivL xs k = xs[k] by simp [ivL, hk]] at h2
  · have := h j hj
    rw [show ivL xs j = xs[j] by simp [ivL, Nat.lt_trans hj hk]] at this
    omega
/-- s put among numbers in their order, if it is not there. -/
def insF (xs : List Int) (s : Int) : List Int := xs.take (posF xs s) ++ [s] ++ xs.drop (posF xs s)
def putF (xs : List Int) (s : Int) : List Int := if posF xs s < xs.length ∧ ivL xs (posF xs s) = s then xs else insF xs s
theorem putF_same {xs : List Int} {s : Int} {k : Nat} (h : posF xs s = k) (hk : k < xs.length) (h2 : ivL xs k = s) : putF xs s = xs := by
  rw [putF, h, if_pos ⟨hk, h2⟩]
theorem putF_new {xs : List Int} {s : Int} {k : Nat} (h : posF xs s = k) (h2 : ¬ (k < xs.length ∧ ivL xs k = s)) : putF xs s = xs.take k ++ [s] ++ xs.drop k := by
  rw [putF, h, if_neg h2, insF, h]
theorem putF_len (xs : List Int) (s : Int) : (putF xs s).length ≤ xs.length + 1 := by
  rw [putF]
  have := posF_le xs s
  split
  · omega
  · simp [insF]; omega

theorem OwnI.form {w : World} {B : Nat} {v : Value} {xs : List Int} (h : OwnI w B v xs) : (v = .slice none 0 0 ∧ xs = []) ∨ ∃ g c, v = .slice (some ⟨g, 0, none⟩) xs.length c ∧ B ≤ g ∧ g < w.heap.size ∧ xs.length ≤ c := by
  rcases h.2 with ⟨e, h0⟩ | ⟨g, cap, cur, e, h1, h2, hnc, _⟩
  · exact .inl ⟨e, List.eq_nil_of_length_eq_zero h0⟩
  · exact .inr ⟨g, cap, e, h1, (World.ownsRow.lt h g (by rw [e]; rfl)).2, hnc⟩

set_option maxRecDepth 100000 in
set_option maxHeartbeats 400000 in
theorem l1Has_c (w : World) (A : Option Addr) (m c : Nat) (xs : List Int) (hA : Il w A xs) (hm : m = xs.length) (hn : m ≤ 1048576) (s : Int) :
    Calls Try.prog 98 #[.slice A m c, .int .i64 s] w fun en w' => en = .returned (.bool (hasF xs s)) ∧ w = w' := by
  have Hm := Lib.hid hm
  clear hm
  go_enter Try.func98, Try.ntmps98
  go_wp2
  go_loop [9] (fun i => ∃ k : Nat, k ≤ m ∧ i = .int .i64 k ∧ (∀ j, j < k → ivL xs j ≠ s)) (fun i => m - (intOf i).toNat)
  case atStart => exact ⟨0, Nat.zero_le _, rfl, by omega⟩
  case round =>
    obtain ⟨k, hk, rfl, hall⟩ := hrel
    have Hall := Lib.hid hall
    clear hall
    by_cases hlt : k < m
    · have hlt1 : k < xs.length := by have := Hm.out; omega
      obtain ⟨b, off, rfl, hb, hr⟩ := hA (by omega)
      have hc0 := hr k hlt1
      clear hlt1
      obtain ⟨x, hx⟩ : ∃ x, ivL xs k = x := ⟨_, rfl⟩
      rw [hx] at hc0
      by_cases hs : x = s
      · have Hy := Lib.hid (hasF_yes (s := s) (by have := Hm.out; omega) (hx.trans hs))
        have hsb : (x == s) = true := beq_iff_eq.2 hs
        clear hs hx
        go_wp2
        go_ret
        exact ⟨by rw [Hy.out]; rfl, rfl⟩
      · have Hall2 := Lib.hid (fun j (hj : j < k + 1) => show ivL xs j ≠ s by
          rcases Nat.lt_succ_iff_lt_or_eq.1 hj with h | h
          · exact Hall.out j h
          · rw [h, hx]; exact hs)
        have hsb : (x == s) = false := beq_eq_false_iff_ne.2 hs
        clear hs hx
        go_wp2
        go_round
        case rel => exact ⟨k + 1, by omega, by go_num, Hall2.out⟩
        case measure => simp [intOf]; omega
    · have Hy := Lib.hid (hasF_no (xs := xs) (s := s) fun j hj => Hall.out j (by have := Hm.out; omega))
      go_wp2
      go_ret
      exact ⟨by rw [Hy.out]; rfl, rfl⟩

end Go.Proofs.Ytjoklbkbggdlgaa
