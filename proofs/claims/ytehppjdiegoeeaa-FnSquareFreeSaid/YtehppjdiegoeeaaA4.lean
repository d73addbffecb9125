import Derived.Test.YtehppjdiegoeeaaA3
namespace Go.Proofs.Ytehppjdiegoeeaa
open Go.RowKit
set_option linter.unusedVariables false
set_option linter.unusedSimpArgs false

theorem tmod_lo (n e : Int) (h : 0 < e) : -e < n.tmod e := by
  rcases Int.le_total 0 n with hn | hn
  · have := Int.tmod_nonneg e hn; omega
  · have h1 := Int.tmod_lt_of_pos (-n) h
    rw [Int.neg_tmod] at h1
    omega
theorem tmod_hi (n e : Int) (h : 0 < e) : n.tmod e < e := Int.tmod_lt_of_pos n h
theorem rest_eq (n e : Int) (h : 0 < e) : (n.tmod e + e) % e = n % e := by
  rw [Int.add_emod_right]
  rw [Int.tmod_def, Int.sub_emod, Int.mul_emod_right, Int.sub_zero, Int.emod_emod]

/-- The remainder, at least 0. -/
def restF (n e : Int) : Int := n % e
theorem restF_lo (n e : Int) (h : 2 ≤ e) : 0 ≤ restF n e := Int.emod_nonneg _ (by omega)
theorem restF_hi (n e : Int) (h : 2 ≤ e) : restF n e < e := Int.emod_lt_of_pos _ (by omega)


def crossF (e r n : Int) : Bool := decide (restF n e = r)
theorem crossF_true {e r n : Int} : crossF e r n = true ↔ restF n e = r := by simp [crossF]
theorem crossF_false {e r n : Int} : crossF e r n = false ↔ ¬ restF n e = r := by simp only [crossF, decide_eq_false_iff_not]

/-- A callee that leaves the world as it is, called inside a region that draws. -/
theorem qcall {P : Program} {f : FuncId} {args : Array Value} {w : World} {n : Nat} {v : Value} (h : Calls P f args (w.drewN n) fun e w' => e = .returned v ∧ w.drewN n = w') :
    Calls P f args (w.drewN n) fun e w'' => e = .returned v ∧ ∃ m, w'' = w.drewN m := h.mono fun _ _ hh => ⟨hh.1, n, hh.2.symm⟩
theorem below_drewN {B : Nat} {a w : World} (h : Below B a w) (n : Nat) : Below B a (w.drewN n) := h.trans ⟨rfl, rfl, rfl, Nat.le_refl _, fun _ _ => rfl⟩


def crossAt (rs : List (Int × Int)) (n : Int) (k : Nat) : Bool := crossF (evL rs k) (reL rs k) n
/-- The index of the first rule that crosses n out, or the number of rules. -/
def fIdx (rs : List (Int × Int)) (n : Int) : Nat := rs.findIdx fun r => crossF r.1 r.2 n
theorem fIdx_le (rs : List (Int × Int)) (n : Int) : fIdx rs n ≤ rs.length := List.findIdx_le_length
theorem crossAt_get {rs : List (Int × Int)} {n : Int} {k : Nat} (h : k < rs.length) : crossAt rs n k = crossF rs[k].1 rs[k].2 n := by
  simp [crossAt, evL, reL, List.getElem?_eq_getElem h]
theorem fIdx_of {rs : List (Int × Int)} {n : Int} {k : Nat} (hk : k < rs.length) (h : ∀ j, j < k → crossAt rs n j = false) (hc : crossAt rs n k = true) : fIdx rs n = k := by
  rw [fIdx, List.findIdx_eq hk]
  refine ⟨by rw [← crossAt_get hk]; exact hc, fun j hj => ?_⟩
  have := h j hj
  rw [crossAt_get (by omega)] at this
  exact this
theorem fIdx_none {rs : List (Int × Int)} {n : Int} (h : ∀ j, j < rs.length → crossAt rs n j = false) : fIdx rs n = rs.length := by
  rw [fIdx, List.findIdx_eq_length]
  intro r hr
  obtain ⟨j, hj, rfl⟩ := List.getElem_of_mem hr
  have := h j hj
  rw [crossAt_get hj] at this
  exact this
theorem okR_at {rs : List (Int × Int)} (h : goodL rs = true) {k : Nat} (hk : k < rs.length) : 2 ≤ evL rs k ∧ evL rs k ≤ 60 ∧ 0 ≤ reL rs k ∧ reL rs k < evL rs k := by
  simp only [goodL, Bool.and_eq_true, decide_eq_true_eq] at h
  exact okR_true.1 (h.2 k hk)
theorem good_len {rs : List (Int × Int)} (h : goodL rs = true) : rs.length ≤ 12 := by
  simp only [goodL, Bool.and_eq_true, decide_eq_true_eq] at h
  exact h.1

/-- What siFirst answers. -/
def firstI (rs : List (Int × Int)) (n : Int) : Int := if fIdx rs n < rs.length then (fIdx rs n : Int) else -1
theorem firstI_of {rs : List (Int × Int)} {n : Int} {k : Nat} (hk : k < rs.length) (h : ∀ j, j < k → crossAt rs n j = false) (hc : crossAt rs n k = true) : firstI rs n = k := by
  rw [firstI, fIdx_of hk h hc, if_pos hk]
theorem firstI_none {rs : List (Int × Int)} {n : Int} (h : ∀ j, j < rs.length → crossAt rs n j = false) : firstI rs n = -1 := by
  rw [firstI, fIdx_none h, if_neg (Nat.lt_irrefl _)]


/-- What firstCrosser answers. -/
def firstK (rs : List (Int × Int)) (n : Int) : Int := if fIdx rs n < rs.length then (fIdx rs n : Int) else 0
def crossedB (rs : List (Int × Int)) (n : Int) : Bool := decide (fIdx rs n < rs.length)
theorem firstK_of {rs : List (Int × Int)} {n : Int} {k : Nat} (hk : k < rs.length) (h : ∀ j, j < k → crossAt rs n j = false) (hc : crossAt rs n k = true) : firstK rs n = k ∧ crossedB rs n = true := by
  rw [firstK, crossedB, fIdx_of hk h hc, if_pos hk, decide_eq_true hk]; exact ⟨rfl, rfl⟩
theorem firstK_none {rs : List (Int × Int)} {n : Int} (h : ∀ j, j < rs.length → crossAt rs n j = false) : firstK rs n = 0 ∧ crossedB rs n = false := by
  rw [firstK, crossedB, fIdx_none h, if_neg (Nat.lt_irrefl _), decide_eq_false (Nat.lt_irrefl _)]; exact ⟨rfl, rfl⟩


end Go.Proofs.Ytehppjdiegoeeaa
