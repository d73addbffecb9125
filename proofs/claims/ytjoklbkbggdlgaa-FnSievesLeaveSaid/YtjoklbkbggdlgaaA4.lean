import Derived.Test.YtjoklbkbggdlgaaA3
namespace Go.Proofs.Ytjoklbkbggdlgaa
open Go.RowKit
set_option linter.unusedVariables false
set_option linter.unusedSimpArgs false

theorem tmod_lo (n e : Int) (h : 0 < e) : -e < n.tmod e := by
  rcases Int.le_total 0 n with hn | hn
  · have := Int.tmod_nonneg e hn; omega
  · have h1 := Int.tmod_lt_of_pos (-n) h
    rw [Int.neg_tmod] at h1
    omega
theorem tmod_hi (n e : Int) (h : 0 < e) : n.tmod e < e := Int.tmod_lt_of_pos n h
theorem rest_eq (n e : Int) (h : 0 < e) : (n.tmod e + e) % e = n % e := by
  rw [Int.add_emod_right]
  rw [Int.tmod_def, Int.sub_emod, Int.mul_emod_right, Int.sub_zero, Int.emod_emod]

/-- The remainder, at least 0. -/
def restF (n e : Int) : Int := n % e
theorem restF_lo (n e : Int) (h : 2 ≤ e) : 0 ≤ restF n e := Int.emod_nonneg _ (by omega)
theorem restF_hi (n e : Int) (h : 2 ≤ e) : restF n e < e := Int.emod_lt_of_pos _ (by omega)

set_option maxHeartbeats 400000 in
theorem siRest_c (n e : Int) (w : World) (h1 : -10000000000000 ≤ n) (h2 : n ≤ 10000000000000) (h3 : 2 ≤ e) (h4 : e ≤ 60) :
    Calls Try.prog 81 #[.int .i64 n, .int .i64 e] w fun en w' => en = .returned (.int .i64 (restF n e)) ∧ w = w' := by
  have t1 := tmod_lo n e (by omega)
  have t2 := tmod_hi n e (by omega)
  rw [show restF n e = (n.tmod e + e) % e from (rest_eq n e (by omega)).symm]
  have h0 : (e == 0) = false := by simp; omega
  go_enter Try.func81, Try.ntmps81
  go_wp2
  go_ret
  exact ⟨rfl, rfl⟩
set_option maxHeartbeats 400000 in
theorem restOf_c (n e : Int) (w : World) (h1 : -10000000000000 ≤ n) (h2 : n ≤ 10000000000000) (h3 : 2 ≤ e) (h4 : e ≤ 60) :
    Calls Try.prog 92 #[.int .i64 n, .int .i64 e] w fun en w' => en = .returned (.int .i64 (restF n e)) ∧ w = w' := by
  have t1 := tmod_lo n e (by omega)
  have t2 := tmod_hi n e (by omega)
  rw [show restF n e = (n.tmod e + e) % e from (rest_eq n e (by omega)).symm]
  have h0 : (e == 0) = false := by simp; omega
  go_enter Try.func92, Try.ntmps92
  go_wp2
  go_ret
  exact ⟨rfl, rfl⟩

def crossF (e r n : Int) : Bool := decide (restF n e = r)
theorem crossF_true {e r n : Int} : crossF e r n = true ↔ restF n e = r := by simp [crossF]
theorem crossF_false {e r n : Int} : crossF e r n = false ↔ ¬ restF n e = r := by simp only [crossF, decide_eq_false_iff_not]

/-- A callee that leaves the world as it is, called inside a region that draws. -/
theorem qcall {P : Program} {f : FuncId} {args : Array Value} {w : World} {n : Nat} {v : Value} (h : Calls P f args (w.drewN n) fun e w' => e = .returned v ∧ w.drewN n = w') :
    Calls P f args (w.drewN n) fun e w'' => e = .returned v ∧ ∃ m, w'' = w.drewN m := h.mono fun _ _ hh => ⟨hh.1, n, hh.2.symm⟩
theorem below_drewN {B : Nat} {a w : World} (h : Below B a w) (n : Nat) : Below B a (w.drewN n) := h.trans ⟨rfl, rfl, rfl, Nat.le_refl _, fun _ _ => rfl⟩

set_option maxHeartbeats 400000 in
theorem crosses_c (e r n : Int) (w : World) (h1 : -10000000000000 ≤ n) (h2 : n ≤ 10000000000000) (h3 : 2 ≤ e) (h4 : e ≤ 60) :
    Calls Try.prog 78 #[.agg #[.int .i64 e, .int .i64 r], .int .i64 n] w fun en w' => en = .returned (.bool (crossF e r n)) ∧ Below w.heap.size w w' := by
  cases hc : crossF e r n with
  | true =>
    have hd : (restF n e == r) = true := by simpa using crossF_true.1 hc
    go_enter Try.func78, Try.ntmps78
    go_wp2
    go_quiet ((go_at_call 92; exact qcall (restOf_c _ _ _ h1 h2 h3 h4)))
    go_wp2
    go_ret
    exact ⟨rfl, below_drewN ((Below.refl _ _).alloc (Nat.le_refl _) _) _⟩
  | false =>
    have hd : (restF n e == r) = false := by simpa using crossF_false.1 hc
    go_enter Try.func78, Try.ntmps78
    go_wp2
    go_quiet ((go_at_call 92; exact qcall (restOf_c _ _ _ h1 h2 h3 h4)))
    go_wp2
    go_ret
    exact ⟨rfl, below_drewN ((Below.refl _ _).alloc (Nat.le_refl _) _) _⟩

def crossAt (rs : List (Int × Int)) (n : Int) (k : Nat) : Bool := crossF (evL rs k) (reL rs k) n
/-- The index of the first rule that crosses n out, or the number of rules. -/
def fIdx (rs : List (Int × Int)) (n : Int) : Nat := rs.findIdx fun r => crossF r.1 r.2 n
theorem fIdx_le (rs : List (Int × Int)) (n : Int) : fIdx rs n ≤ rs.length := List.findIdx_le_length
theorem crossAt_get {rs : List (Int × Int)} {n : Int} {k : Nat} (h : k < rs.length) : crossAt rs n k = crossF rs[k].1 rs[k].2 n := by
  simp [crossAt, evL, reL, List.getElem?_eq_getElem h]
theorem fIdx_of {rs : List (Int × Int)} {n : Int} {k : Nat} (hk : k < rs.length) (h : ∀ j, j < k → crossAt rs n j = false) (hc : crossAt rs n k = true) : fIdx rs n = k := by
  rw [fIdx, List.findIdx_eq hk]
  refine ⟨by rw [← crossAt_get hk]; exact hc, fun j hj => ?_⟩
  have := h j hj
  rw [crossAt_get (by omega)] at this
  exact this
theorem fIdx_none {rs : List (Int × Int)} {n : Int} (h : ∀ j, j < rs.length → crossAt rs n j = false) : fIdx rs n = rs.length := by
  rw [fIdx, List.findIdx_eq_length]
  intro r hr
  obtain ⟨j, hj, rfl⟩ := List.getElem_of_mem hr
  have := h j hj
  rw [crossAt_get hj] at this
  exact this
theorem okR_at {rs : List (Int × Int)} (h : goodL rs = true) {k : Nat} (hk : k < rs.length) : 2 ≤ evL rs k ∧ evL rs k ≤ 60 ∧ 0 ≤ reL rs k ∧ reL rs k < evL rs k := by
  simp only [goodL, Bool.and_eq_true, decide_eq_true_eq] at h
  exact okR_true.1 (h.2 k hk)
theorem good_len {rs : List (Int × Int)} (h : goodL rs = true) : rs.length ≤ 12 := by
  simp only [goodL, Bool.and_eq_true, decide_eq_true_eq] at h
  exact h.1

/-- What siFirst answers. -/
def firstI (rs : List (Int × Int)) (n : Int) : Int := if fIdx rs n < rs.length then (fIdx rs n : Int) else -1
theorem firstI_of {rs : List (Int × Int)} {n : Int} {k : Nat} (hk : k < rs.length) (h : ∀ j, j < k → crossAt rs n j = false) (hc : crossAt rs n k = true) : firstI rs n = k := by
  rw [firstI, fIdx_of hk h hc, if_pos hk]
theorem firstI_none {rs : List (Int × Int)} {n : Int} (h : ∀ j, j < rs.length → crossAt rs n j = false) : firstI rs n = -1 := by
  rw [firstI, fIdx_none h, if_neg (Nat.lt_irrefl _)]

set_option maxHeartbeats 800000 in
theorem siFirst_c (A : Option Addr) (c m : Nat) (rs : List (Int × Int)) (n : Int) (w : World) (hA : Rl w A rs) (hm : m = rs.length) (hg : goodL rs = true) (h1 : -10000000000000 ≤ n) (h2 : n ≤ 10000000000000) :
    Calls Try.prog 62 #[.slice A m c, .int .i64 n] w fun en w' => en = .returned (.int .i64 (firstI rs n)) ∧ Below w.heap.size w w' := by
  have Hm := Lib.hid hm
  have h12 : m ≤ 12 := by rw [hm]; exact good_len hg
  have Hg := Lib.hid hg
  clear hm hg
  go_enter Try.func62, Try.ntmps62
  go_wp2
  go_loopw [9] (fun i wr => ∃ k : Nat, k ≤ m ∧ i = .int .i64 k ∧ (∀ j, j < k → crossAt rs n j = false) ∧ Below w.heap.size w wr) (fun i _ => m - (intOf i).toNat)
  case atStart => exact ⟨0, Nat.zero_le _, rfl, by omega, Below.refl _ _⟩
  case round =>
    obtain ⟨k, hk, rfl, hall, hbel⟩ := hrel
    have Hall := Lib.hid hall
    clear hall
    by_cases hlt : k < m
    · have hlt1 : k < rs.length := by have := Hm.out; omega
      obtain ⟨b, off, rfl, hb, hr⟩ := hA (by omega)
      have hc0 := (hbel.cell (p := ⟨b, off + k * 2, none⟩) hb).trans (hr k hlt1).1
      have hc1 := (hbel.cell (p := ⟨b, off + k * 2 + 1, none⟩) hb).trans (hr k hlt1).2
      obtain ⟨e1, e2, e3, e4⟩ := okR_at Hg.out hlt1
      have hs := hbel.size
      cases hok : crossAt rs n k with
      | true =>
        have hd : (restF n (evL rs k) == reL rs k) = true := by simpa using crossF_true.1 hok
        go_wp2_with fail
        go_quiet ((go_at_call 81; exact qcall (siRest_c _ _ _ h1 h2 e1 e2)))
        go_wp2
        go_ret
        exact ⟨by rw [firstI_of hlt1 Hall.out hok]; rfl, below_drewN (hbel.alloc hs _) _⟩
      | false =>
        have hd : (restF n (evL rs k) == reL rs k) = false := by simpa using crossF_false.1 hok
        go_wp2_with fail
        go_quiet ((go_at_call 81; exact qcall (siRest_c _ _ _ h1 h2 e1 e2)))
        go_wp2
        go_roundw
        case rel => exact ⟨k + 1, by omega, by go_num, fun j hj => by rcases Nat.lt_succ_iff_lt_or_eq.1 hj with h | h; exact Hall.out j h; rw [h]; exact hok, below_drewN (hbel.alloc hs _) _⟩
        case measure => simp [intOf]; omega
    · go_wp2
      go_ret
      exact ⟨by rw [firstI_none fun j hj => Hall.out j (by have := Hm.out; omega)]; rfl, hbel⟩

/-- What firstCrosser answers. -/
def firstK (rs : List (Int × Int)) (n : Int) : Int := if fIdx rs n < rs.length then (fIdx rs n : Int) else 0
def crossedB (rs : List (Int × Int)) (n : Int) : Bool := decide (fIdx rs n < rs.length)
theorem firstK_of {rs : List (Int × Int)} {n : Int} {k : Nat} (hk : k < rs.length) (h : ∀ j, j < k → crossAt rs n j = false) (hc : crossAt rs n k = true) : firstK rs n = k ∧ crossedB rs n = true := by
  rw [firstK, crossedB, fIdx_of hk h hc, if_pos hk, decide_eq_true hk]; exact ⟨rfl, rfl⟩
theorem firstK_none {rs : List (Int × Int)} {n : Int} (h : ∀ j, j < rs.length → crossAt rs n j = false) : firstK rs n = 0 ∧ crossedB rs n = false := by
  rw [firstK, crossedB, fIdx_none h, if_neg (Nat.lt_irrefl _), decide_eq_false (Nat.lt_irrefl _)]; exact ⟨rfl, rfl⟩

set_option maxHeartbeats 800000 in
theorem firstCrosser_c (A : Option Addr) (c m : Nat) (rs : List (Int × Int)) (n : Int) (w : World) (hA : Rl w A rs) (hm : m = rs.length) (hg : goodL rs = true) (h1 : -10000000000000 ≤ n) (h2 : n ≤ 10000000000000) :
    Calls Try.prog 55 #[.slice A m c, .int .i64 n] w fun en w' => en = .returned (.tuple #[.int .i64 (firstK rs n), .bool (crossedB rs n)]) ∧ Below w.heap.size w w' := by
  have Hm := Lib.hid hm
  have h12 : m ≤ 12 := by rw [hm]; exact good_len hg
  have Hg := Lib.hid hg
  clear hm hg
  go_enter Try.func55, Try.ntmps55
  go_wp2
  go_loopw [10] (fun i wr => ∃ k : Nat, k ≤ m ∧ i = .int .i64 k ∧ (∀ j, j < k → crossAt rs n j = false) ∧ Below w.heap.size w wr) (fun i _ => m - (intOf i).toNat)
  case atStart => exact ⟨0, Nat.zero_le _, rfl, by omega, Below.refl _ _⟩
  case round =>
    obtain ⟨k, hk, rfl, hall, hbel⟩ := hrel
    have Hall := Lib.hid hall
    clear hall
    by_cases hlt : k < m
    · have hlt1 : k < rs.length := by have := Hm.out; omega
      obtain ⟨b, off, rfl, hb, hr⟩ := hA (by omega)
      have hc0 := (hbel.cell (p := ⟨b, off + k * 2, none⟩) hb).trans (hr k hlt1).1
      have hc1 := (hbel.cell (p := ⟨b, off + k * 2 + 1, none⟩) hb).trans (hr k hlt1).2
      obtain ⟨e1, e2, e3, e4⟩ := okR_at Hg.out hlt1
      have hs := hbel.size
      cases hok : crossAt rs n k with
      | true =>
        have hd : crossF (evL rs k) (reL rs k) n = true := hok
        go_wp2_with (go_at_call 78; refine (crosses_c _ _ _ _ h1 h2 e1 e2).mono ?_; rintro e w' ⟨rfl, hb1⟩)
        go_ret2
        exact ⟨by rw [(firstK_of hlt1 Hall.out hok).1, (firstK_of hlt1 Hall.out hok).2]; rfl, (hbel.alloc hs _).trans (hb1.mono (by simp; omega))⟩
      | false =>
        have hd : crossF (evL rs k) (reL rs k) n = false := hok
        go_wp2_with (go_at_call 78; refine (crosses_c _ _ _ _ h1 h2 e1 e2).mono ?_; rintro e w' ⟨rfl, hb1⟩)
        go_roundw
        case rel => exact ⟨k + 1, by omega, by go_num, fun j hj => by rcases Nat.lt_succ_iff_lt_or_eq.1 hj with h | h; exact Hall.out j h; rw [h]; exact hok, (hbel.alloc hs _).trans (hb1.mono (by simp; omega))⟩
        case measure => simp [intOf]; omega
    · go_wp2
      go_ret2
      have hno := firstK_none (rs := rs) (n := n) fun j hj => Hall.out j (by have := Hm.out; omega)
      exact ⟨by rw [hno.1, hno.2]; rfl, hbel⟩

end Go.Proofs.Ytjoklbkbggdlgaa
