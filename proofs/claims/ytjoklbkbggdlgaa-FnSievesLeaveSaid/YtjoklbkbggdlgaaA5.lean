import Derived.Test.YtjoklbkbggdlgaaA4
namespace Go.Proofs.Ytjoklbkbggdlgaa
open Go.RowKit
set_option linter.unusedVariables false
set_option linter.unusedSimpArgs false

set_option maxHeartbeats 400000 in
theorem implIsRule_c (e r : Int) (w : World) :
    Calls Try.prog 31 #[.agg #[.int .i64 e, .int .i64 r]] w fun en w' => en = .returned (.bool (okR e r)) ∧ Below w.heap.size w w' := by
  by_cases h1 : 2 ≤ e
  · by_cases h2 : e ≤ 60
    · by_cases h3 : 0 ≤ r
      · by_cases h4 : r < e
        · rw [okR_true.2 ⟨h1, h2, h3, h4⟩]
          go_enter Try.func31, Try.ntmps31
          go_wp2
          go_ret
          exact ⟨rfl, (Below.refl _ _).alloc (Nat.le_refl _) _⟩
        · rw [okR_false.2 (by omega)]
          go_enter Try.func31, Try.ntmps31
          go_wp2
          go_ret
          exact ⟨rfl, (Below.refl _ _).alloc (Nat.le_refl _) _⟩
      · rw [okR_false.2 (by omega)]
        go_enter Try.func31, Try.ntmps31
        go_wp2
        go_ret
        exact ⟨rfl, (Below.refl _ _).alloc (Nat.le_refl _) _⟩
    · rw [okR_false.2 (by omega)]
      go_enter Try.func31, Try.ntmps31
      go_wp2
      go_ret
      exact ⟨rfl, (Below.refl _ _).alloc (Nat.le_refl _) _⟩
  · rw [okR_false.2 (by omega)]
    go_enter Try.func31, Try.ntmps31
    go_wp2
    go_ret
    exact ⟨rfl, (Below.refl _ _).alloc (Nat.le_refl _) _⟩

set_option maxHeartbeats 400000 in
theorem implAreRules_c (A : Option Addr) (m c : Nat) (rs : List (Int × Int)) (w : World) (hA : Rl w A rs) (hm : m = rs.length) (hn : m ≤ 1048576) :
    Calls Try.prog 12 #[.slice A m c] w fun en w' => en = .returned (.bool (goodL rs)) ∧ Below w.heap.size w w' := by
  have Hm := Lib.hid hm
  clear hm
  by_cases h12 : m ≤ 12
  · have h12' : rs.length ≤ 12 := by rw [← Hm.out]; exact h12
    go_enter Try.func12, Try.ntmps12
    go_wp2
    go_loopw [10] (fun i wr => ∃ k : Nat, k ≤ m ∧ i = .int .i64 k ∧ (∀ j, j < k → okAt rs j = true) ∧ Below w.heap.size w wr) (fun i _ => m - (intOf i).toNat)
    case atStart => exact ⟨0, Nat.zero_le _, rfl, by omega, Below.refl _ _⟩
    case round =>
      obtain ⟨k, hk, rfl, hall, hbel⟩ := hrel
      have Hall := Lib.hid hall
      clear hall
      by_cases hlt : k < m
      · have hlt1 : k < rs.length := by have := Hm.out; omega
        obtain ⟨b, off, rfl, hb, hr⟩ := hA (by omega)
        have hc0 := (hbel.cell (p := ⟨b, off + k * 2, none⟩) hb).trans (hr k hlt1).1
        have hc1 := (hbel.cell (p := ⟨b, off + k * 2 + 1, none⟩) hb).trans (hr k hlt1).2
        have hs := hbel.size
        cases hok : okAt rs k with
        | true =>
          have hok' : okR (evL rs k) (reL rs k) = true := hok
          go_wp2_with (go_at_call 31; refine (implIsRule_c _ _ _).mono ?_; rintro e w' ⟨rfl, hb1⟩)
          go_roundw
          case rel => exact ⟨k + 1, by omega, by go_num, fun j hj => by rcases Nat.lt_succ_iff_lt_or_eq.1 hj with h | h; exact Hall.out j h; rw [h]; exact hok, (hbel.alloc hs _).trans (hb1.mono (by simp; omega))⟩
          case measure => simp [intOf]; omega
        | false =>
          have hok' : okR (evL rs k) (reL rs k) = false := hok
          go_wp2_with (go_at_call 31; refine (implIsRule_c _ _ _).mono ?_; rintro e w' ⟨rfl, hb1⟩)
          go_ret
          exact ⟨by rw [goodL_false' hlt1 hok]; rfl, (hbel.alloc hs _).trans (hb1.mono (by simp; omega))⟩
      · go_wp2
        go_ret
        exact ⟨by rw [goodL_true h12' fun j hj => Hall.out j (by have := Hm.out; omega)]; rfl, hbel⟩
  · rw [goodL_false (by rw [← Hm.out]; exact h12)]
    go_enter Try.func12, Try.ntmps12
    go_wp2
    go_ret
    exact ⟨rfl, Below.refl _ _⟩

set_option maxHeartbeats 400000 in
theorem good_c (A : Option Addr) (m c : Nat) (rs : List (Int × Int)) (w : World) (hA : Rl w A rs) (hm : m = rs.length) (hn : m ≤ 1048576) :
    Calls Try.prog 52 #[.slice A m c] w fun en w' => en = .returned (.bool (goodL rs)) ∧ Below w.heap.size w w' := by
  have Hm := Lib.hid hm
  clear hm
  by_cases h12 : m ≤ 12
  · have h12' : rs.length ≤ 12 := by rw [← Hm.out]; exact h12
    go_enter Try.func52, Try.ntmps52
    go_wp2
    go_loopw [10] (fun i wr => ∃ k : Nat, k ≤ m ∧ i = .int .i64 k ∧ (∀ j, j < k → okAt rs j = true) ∧ Below w.heap.size w wr) (fun i _ => m - (intOf i).toNat)
    case atStart => exact ⟨0, Nat.zero_le _, rfl, by omega, Below.refl _ _⟩
    case round =>
      obtain ⟨k, hk, rfl, hall, hbel⟩ := hrel
      have Hall := Lib.hid hall
      clear hall
      by_cases hlt : k < m
      · have hlt1 : k < rs.length := by have := Hm.out; omega
        obtain ⟨b, off, rfl, hb, hr⟩ := hA (by omega)
        have hc0 := (hbel.cell (p := ⟨b, off + k * 2, none⟩) hb).trans (hr k hlt1).1
        have hc1 := (hbel.cell (p := ⟨b, off + k * 2 + 1, none⟩) hb).trans (hr k hlt1).2
        have hs := hbel.size
        cases hok : okAt rs k with
        | true =>
          have hok' : okR (evL rs k) (reL rs k) = true := hok
          go_wp2_with (go_at_call 65; refine (siRule_c _ _ _).mono ?_; rintro e w' ⟨rfl, hb1⟩)
          go_roundw
          case rel => exact ⟨k + 1, by omega, by go_num, fun j hj => by rcases Nat.lt_succ_iff_lt_or_eq.1 hj with h | h; exact Hall.out j h; rw [h]; exact hok, (hbel.alloc hs _).trans (hb1.mono (by simp; omega))⟩
          case measure => simp [intOf]; omega
        | false =>
          have hok' : okR (evL rs k) (reL rs k) = false := hok
          go_wp2_with (go_at_call 65; refine (siRule_c _ _ _).mono ?_; rintro e w' ⟨rfl, hb1⟩)
          go_ret
          exact ⟨by rw [goodL_false' hlt1 hok]; rfl, (hbel.alloc hs _).trans (hb1.mono (by simp; omega))⟩
      · go_wp2
        go_ret
        exact ⟨by rw [goodL_true h12' fun j hj => Hall.out j (by have := Hm.out; omega)]; rfl, hbel⟩
  · rw [goodL_false (by rw [← Hm.out]; exact h12)]
    go_enter Try.func52, Try.ntmps52
    go_wp2
    go_ret
    exact ⟨rfl, Below.refl _ _⟩

set_option maxHeartbeats 400000 in
theorem specAreRules_c (A : Option Addr) (m c : Nat) (rs : List (Int × Int)) (w : World) (hA : Rl w A rs) (hm : m = rs.length) (hn : m ≤ 1048576) :
    Calls Try.prog 13 #[.slice A m c] w fun en w' => en = .returned (.bool (goodL rs)) ∧ Below w.heap.size w w' := by
  have Hm := Lib.hid hm
  clear hm
  go_enter Try.func13, Try.ntmps13
  go_wp2_with (go_at_call 52; refine (good_c _ _ _ rs _ hA Hm.out hn).mono ?_; rintro e w' ⟨rfl, hb1⟩)
  go_ret
  exact ⟨rfl, hb1⟩

theorem specIsRule_c (e r : Int) (w : World) :
    Calls Try.prog 33 #[.agg #[.int .i64 e, .int .i64 r]] w fun en w' => en = .returned (.bool (okR e r)) ∧ Below w.heap.size w w' := by
  go_enter Try.func33, Try.ntmps33
  go_wp2_with (go_at_call 65; refine (siRule_c _ _ _).mono ?_; rintro e w' ⟨rfl, hb1⟩)
  go_ret
  exact ⟨rfl, by simpa using ((Below.refl _ _).alloc (Nat.le_refl _) _).trans (hb1.mono (by simp))⟩

def numB (n : Int) : Bool := inB n (-600) 600
theorem siNumber_c (n : Int) (w : World) :
    Calls Try.prog 61 #[.int .i64 n] w fun en w' => en = .returned (.bool (numB n)) ∧ w = w' := by
  go_enter Try.func61, Try.ntmps61
  go_wp2_with (go_at_call 63; refine (l1In_c _ _ _ _).mono ?_; rintro e w' ⟨rfl, rfl⟩)
  go_ret
  exact ⟨rfl, rfl⟩
theorem isNumber_c (n : Int) (w : World) :
    Calls Try.prog 53 #[.int .i64 n] w fun en w' => en = .returned (.bool (numB n)) ∧ w = w' := by
  by_cases h1 : -600 ≤ n
  · by_cases h2 : n ≤ 600
    · rw [show numB n = true from inB_true.2 ⟨h1, h2⟩]
      go_enter Try.func53, Try.ntmps53
      go_wp2
      go_ret
      exact ⟨rfl, rfl⟩
    · rw [show numB n = false from inB_false.2 (by omega)]
      go_enter Try.func53, Try.ntmps53
      go_wp2
      go_ret
      exact ⟨rfl, rfl⟩
  · rw [show numB n = false from inB_false.2 (by omega)]
    go_enter Try.func53, Try.ntmps53
    go_wp2
    go_ret
    exact ⟨rfl, rfl⟩
theorem numB_true {n : Int} : numB n = true ↔ -600 ≤ n ∧ n ≤ 600 := inB_true

def leftF (rs : List (Int × Int)) (n : Int) : Bool := decide (fIdx rs n = rs.length)
theorem leftF_firstI {rs : List (Int × Int)} {n : Int} : leftF rs n = true ↔ firstI rs n < 0 := by
  have := fIdx_le rs n
  simp only [leftF, decide_eq_true_eq, firstI]
  split <;> omega
theorem leftF_crossed {rs : List (Int × Int)} {n : Int} : (!crossedB rs n) = leftF rs n := by
  have := fIdx_le rs n
  rw [Bool.eq_iff_iff]
  simp only [leftF, crossedB, Bool.not_eq_true', decide_eq_false_iff_not, decide_eq_true_eq]
  omega

set_option maxHeartbeats 400000 in
theorem siLeft_c (A : Option Addr) (c m : Nat) (rs : List (Int × Int)) (n : Int) (w : World) (hA : Rl w A rs) (hm : m = rs.length) (hg : goodL rs = true) (h1 : -10000000000000 ≤ n) (h2 : n ≤ 10000000000000) :
    Calls Try.prog 56 #[.slice A m c, .int .i64 n] w fun en w' => en = .returned (.bool (leftF rs n)) ∧ Below w.heap.size w w' := by
  have Hm := Lib.hid hm
  have Hg := Lib.hid hg
  clear hm hg
  cases hl : leftF rs n with
  | true =>
    have hd : firstI rs n < 0 := leftF_firstI.1 hl
    go_enter Try.func56, Try.ntmps56
    go_wp2_with (go_at_call 62; refine (siFirst_c _ _ _ rs _ _ hA Hm.out Hg.out h1 h2).mono ?_; rintro e w' ⟨rfl, hb1⟩)
    go_ret
    exact ⟨by simp, hb1⟩
  | false =>
    have hd : ¬ firstI rs n < 0 := fun h => by rw [leftF_firstI.2 h] at hl; cases hl
    go_enter Try.func56, Try.ntmps56
    go_wp2_with (go_at_call 62; refine (siFirst_c _ _ _ rs _ _ hA Hm.out Hg.out h1 h2).mono ?_; rintro e w' ⟨rfl, hb1⟩)
    go_ret
    exact ⟨by simp; omega, hb1⟩
set_option maxHeartbeats 400000 in
theorem isLeft_c (A : Option Addr) (c m : Nat) (rs : List (Int × Int)) (n : Int) (w : World) (hA : Rl w A rs) (hm : m = rs.length) (hg : goodL rs = true) (h1 : -10000000000000 ≤ n) (h2 : n ≤ 10000000000000) :
    Calls Try.prog 54 #[.slice A m c, .int .i64 n] w fun en w' => en = .returned (.bool (leftF rs n)) ∧ Below w.heap.size w w' := by
  have Hm := Lib.hid hm
  have Hg := Lib.hid hg
  clear hm hg
  rw [← leftF_crossed]
  go_enter Try.func54, Try.ntmps54
  go_wp2_with (go_at_call 55; refine (firstCrosser_c _ _ _ rs _ _ hA Hm.out Hg.out h1 h2).mono ?_; rintro e w' ⟨rfl, hb1⟩)
  go_ret
  exact ⟨rfl, hb1⟩

end Go.Proofs.Ytjoklbkbggdlgaa
