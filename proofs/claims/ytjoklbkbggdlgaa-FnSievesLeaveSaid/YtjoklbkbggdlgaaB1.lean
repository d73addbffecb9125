import Derived.Test.YtjoklbkbggdlgaaB0
namespace Go.Proofs.Ytjoklbkbggdlgaa
open Go.RowKit
set_option linter.unusedVariables false
set_option linter.unusedSimpArgs false

/-- The numbers in 1..600 that are left. -/
def allLeft (rs : List (Int × Int)) : List Int := upF (leftF rs) 600
theorem allLeft_len (rs : List (Int × Int)) : (allLeft rs).length ≤ 600 := upF_len _ _
def rankOk (rs : List (Int × Int)) (r : Int) : Bool := goodL rs && decide (0 ≤ r ∧ r < (allLeft rs).length)
def rankV (rs : List (Int × Int)) (r : Int) : Int := if rankOk rs r then (allLeft rs).getD r.toNat 0 else 0
theorem rank_no {rs : List (Int × Int)} {r : Int} (h : rankOk rs r = false) : rankV rs r = 0 := by rw [rankV, h]; rfl
theorem rank_yes {rs : List (Int × Int)} {K : Nat} (h : rankOk rs (K : Int) = true) : rankV rs (K : Int) = (allLeft rs).getD K 0 := by rw [rankV, h, Int.toNat_natCast]; rfl

set_option maxRecDepth 100000 in
set_option maxHeartbeats 400000 in
theorem spec_LeftOfRank_c (w : World) (A : Option Addr) (m c : Nat) (rs : List (Int × Int)) (hA : Rl w A rs) (hm : m = rs.length) (hn : m ≤ 1048576) (r : Int) :
    Calls Try.prog 25 #[.slice A m c, .int .i64 r] w fun en w' => en = .returned (.tuple #[.int .i64 (rankV rs r), .bool (rankOk rs r)]) ∧ Below w.heap.size w w' := by
  have Hm := Lib.hid hm
  clear hm
  cases hg : goodL rs with
  | false =>
    have ho : rankOk rs r = false := by simp [rankOk, *]
    rw [rank_no ho, ho]
    clear ho
    go_enter Try.func25, Try.ntmps25
    go_wp2_with fail
    refine (good_c _ _ _ rs _ hA Hm.out hn).mono ?_
    rintro e w1 ⟨rfl, b1⟩
    have hA_1 := hA.below b1
    go_wp2
    go_ret2
    exact ⟨rfl, b1⟩
  | true =>
    by_cases hr : 0 ≤ r
    rotate_left
    · skip
      have ho : rankOk rs r = false := by simp [rankOk, *]
      rw [rank_no ho, ho]
      clear ho
      go_enter Try.func25, Try.ntmps25
      go_wp2_with fail
      refine (good_c _ _ _ rs _ hA Hm.out hn).mono ?_
      rintro e w1 ⟨rfl, b1⟩
      have hA_1 := hA.below b1
      go_wp2
      go_ret2
      exact ⟨rfl, b1⟩
    · skip
      obtain ⟨K, rfl⟩ := Int.eq_ofNat_of_zero_le hr
      have hlen := allLeft_len rs
      have Hg := Lib.hid hg
      go_enter Try.func25, Try.ntmps25
      go_wp2_with fail
      refine (good_c _ _ _ rs _ hA Hm.out hn).mono ?_
      rintro e w1 ⟨rfl, b1⟩
      have hA_1 := hA.below b1
      go_wp2_with fail
      refine (siList_c _ _ _ _ rs hA_1 Hm.out Hg.out 600 (Nat.le_refl _)).mono ?_
      rintro e w2 ⟨⟨v2, rfl, o2⟩, b2⟩
      have hA_2 := hA_1.below b2
      have bb2 := b1.trans (b2.mono b1.size)
      have o2' : OwnI w2 w1.heap.size v2 (allLeft rs) := o2
      clear o2
      obtain ⟨A2, c2, rfl⟩ := o2'.shape
      by_cases hlt : K < (allLeft rs).length
      · have ho : rankOk rs (K : Int) = true := by have h2 := Hg.out; simp [rankOk, h2, hlt]
        obtain ⟨g, rfl, _, _, hc⟩ := o2'.cell hlt
        have hc' : w2.cell? ⟨g, K, none⟩ = some (.int .i64 (rankV rs (K : Int))) := by rw [rank_yes ho]; exact hc
        clear hc
        go_wp2
        go_ret2
        exact ⟨by rw [ho]; rfl, bb2⟩
      · have ho : rankOk rs (K : Int) = false := by simp [rankOk]; intro; omega
        have Ho := Lib.hid ho
        clear ho
        go_wp2
        go_ret2
        exact ⟨by rw [rank_no Ho.out, Ho.out]; rfl, bb2⟩

set_option maxRecDepth 100000 in
set_option maxHeartbeats 400000 in
theorem impl_LeftOfRank_c (w : World) (A : Option Addr) (m c : Nat) (rs : List (Int × Int)) (hA : Rl w A rs) (hm : m = rs.length) (hn : m ≤ 1048576) (r : Int) :
    Calls Try.prog 18 #[.slice A m c, .int .i64 r] w fun en w' => en = .returned (.tuple #[.int .i64 (rankV rs r), .bool (rankOk rs r)]) ∧ Below w.heap.size w w' := by
  have Hm := Lib.hid hm
  clear hm
  have hlen := allLeft_len rs
  go_enter Try.func18, Try.ntmps18
  go_wp2_with fail
  refine (impl_LeftUpTo_c _ _ _ _ rs hA Hm.out hn 600).mono ?_
  rintro e w1 ⟨⟨v1, rfl, o1⟩, b1⟩
  have hA_1 := hA.below b1
  obtain ⟨A2, c2, rfl⟩ := o1.shape
  have h6 : okM rs 600 = goodL rs := by
    have : mostB 600 = true := mostB_true.2 (by omega)
    simp [okM, this]
  cases hg : goodL rs with
  | false =>
    have ho : rankOk rs r = false := by simp [rankOk, hg]
    rw [hg] at h6
    have Ho := Lib.hid ho
    clear ho
    go_wp2
    go_ret2
    exact ⟨by rw [rank_no Ho.out, Ho.out]; rfl, b1⟩
  | true =>
    rw [hg] at h6
    have e : upV rs 600 = allLeft rs := by rw [upV, h6]; rfl
    rw [e] at o1
    rw [e]
    have Hg := Lib.hid hg
    clear e hg
    by_cases hr : 0 ≤ r
    · obtain ⟨K, rfl⟩ := Int.eq_ofNat_of_zero_le hr
      by_cases hlt : K < (allLeft rs).length
      · have ho : rankOk rs (K : Int) = true := by have h2 := Hg.out; simp [rankOk, h2, hlt]
        obtain ⟨g, rfl, _, _, hc⟩ := o1.cell hlt
        have hc' : w1.cell? ⟨g, K, none⟩ = some (.int .i64 (rankV rs (K : Int))) := by rw [rank_yes ho]; exact hc
        clear hc
        go_wp2
        go_ret2
        exact ⟨by rw [ho]; rfl, b1⟩
      · have ho : rankOk rs (K : Int) = false := by simp [rankOk]; intro; omega
        have Ho := Lib.hid ho
        clear ho
        go_wp2
        go_ret2
        exact ⟨by rw [rank_no Ho.out, Ho.out]; rfl, b1⟩
    · have ho : rankOk rs r = false := by simp [rankOk, hr]
      have Ho := Lib.hid ho
      clear ho
      go_wp2
      go_ret2
      exact ⟨by rw [rank_no Ho.out, Ho.out]; rfl, b1⟩

/-- How many steps behind n the first number with p is, at most 1000. -/
def nextI (p : Int → Bool) (n : Int) : Nat := (List.range 1000).findIdx fun i : Nat => p (n + 1 + (i : Int))
theorem nextI_of {p : Int → Bool} {n : Int} {k : Nat} (hk : k < 1000) (h : ∀ j : Nat, j < k → p (n + 1 + (j : Int)) = false) (hc : p (n + 1 + (k : Int)) = true) : nextI p n = k := by
  rw [nextI, List.findIdx_eq (by rw [List.length_range]; exact hk)]
  exact ⟨by rw [List.getElem_range]; exact hc, fun j hj => by rw [List.getElem_range]; exact h j hj⟩
theorem nextI_none {p : Int → Bool} {n : Int} (h : ∀ j : Nat, j < 1000 → p (n + 1 + (j : Int)) = false) : nextI p n = 1000 := by
  have : nextI p n = (List.range 1000).length := by
    rw [nextI, List.findIdx_eq_length]
    intro x hx
    exact h x (List.mem_range.1 hx)
  rw [this, List.length_range]
def nextOk (rs : List (Int × Int)) (n : Int) : Bool := okN rs n && decide (nextI (leftF rs) n < 1000)
def nextV (rs : List (Int × Int)) (n : Int) : Int := if nextOk rs n then n + 1 + (nextI (leftF rs) n : Int) else 0
theorem next_no {rs : List (Int × Int)} {n : Int} (h : nextOk rs n = false) : nextV rs n = 0 := by rw [nextV, h]; rfl
theorem next_of {rs : List (Int × Int)} {n : Int} {k : Nat} (hg : goodL rs = true) (hn : numB n = true) (hk : k < 1000) (h : ∀ j : Nat, j < k → leftF rs (n + 1 + (j : Int)) = false) (hc : leftF rs (n + 1 + (k : Int)) = true) :
    nextV rs n = n + 1 + (k : Int) ∧ nextOk rs n = true := by
  have h2 : nextOk rs n = true := by rw [nextOk, okN, hg, hn, nextI_of hk h hc, decide_eq_true hk]; rfl
  exact ⟨by rw [nextV, h2, nextI_of hk h hc]; rfl, h2⟩
theorem next_none {rs : List (Int × Int)} {n : Int} (h : ∀ j : Nat, j < 1000 → leftF rs (n + 1 + (j : Int)) = false) : nextV rs n = 0 ∧ nextOk rs n = false := by
  have h2 : nextOk rs n = false := by rw [nextOk, nextI_none h]; simp
  exact ⟨next_no h2, h2⟩

set_option maxRecDepth 100000 in
set_option maxHeartbeats 1000000 in
theorem spec_NextLeft_c (w : World) (A : Option Addr) (m c : Nat) (rs : List (Int × Int)) (hA : Rl w A rs) (hm : m = rs.length) (hn : m ≤ 1048576) (n : Int) :
    Calls Try.prog 27 #[.slice A m c, .int .i64 n] w fun en w' => en = .returned (.tuple #[.int .i64 (nextV rs n), .bool (nextOk rs n)]) ∧ Below w.heap.size w w' := by
  have Hm := Lib.hid hm
  clear hm
  cases hg : goodL rs with
  | false =>
    have ho : nextOk rs n = false := by simp [nextOk, okN, *]
    rw [next_no ho, ho]
    clear ho
    go_enter Try.func27, Try.ntmps27
    go_wp2_with fail
    refine (good_c _ _ _ rs _ hA Hm.out hn).mono ?_
    rintro e w1 ⟨rfl, b1⟩
    have hA_1 := hA.below b1
    go_wp2
    go_ret2
    exact ⟨rfl, b1⟩
  | true =>
    cases hk : numB n with
    | false =>
      have ho : nextOk rs n = false := by simp [nextOk, okN, *]
      rw [next_no ho, ho]
      clear ho
      go_enter Try.func27, Try.ntmps27
      go_wp2_with fail
      refine (good_c _ _ _ rs _ hA Hm.out hn).mono ?_
      rintro e w1 ⟨rfl, b1⟩
      have hA_1 := hA.below b1
      go_wp2_with fail
      refine (siNumber_c _ _).mono ?_
      rintro e w2 ⟨rfl, rfl⟩
      go_wp2
      go_ret2
      exact ⟨rfl, b1⟩
    | true =>
      obtain ⟨k1, k2⟩ := numB_true.1 hk
      have Hg := Lib.hid hg
      have Hk := Lib.hid hk
      go_enter Try.func27, Try.ntmps27
      go_wp2_with fail
      refine (good_c _ _ _ rs _ hA Hm.out hn).mono ?_
      rintro e w1 ⟨rfl, b1⟩
      have hA_1 := hA.below b1
      go_wp2_with fail
      refine (siNumber_c _ _).mono ?_
      rintro e w2 ⟨rfl, rfl⟩
      go_wp2
      go_loopw [6] (fun i wr => ∃ k : Nat, k ≤ 1000 ∧ i = .int .i64 (n + 1 + (k : Int)) ∧ (∀ j : Nat, j < k → leftF rs (n + 1 + (j : Int)) = false) ∧ Below w.heap.size w wr) (fun i _ => (n + 1001 - intOf i).toNat)
      case atStart => exact ⟨0, Nat.zero_le _, by go_num, by omega, b1⟩
      case round =>
        obtain ⟨k, hk, rfl, hall, hbel⟩ := hrel
        have Hall := Lib.hid hall
        clear hall
        have hs := hbel.size
        have hR := hA.below hbel
        by_cases hlt : k < 1000
        · cases hl : leftF rs (n + 1 + (k : Int)) with
          | true =>
            have Hy := Lib.hid (next_of Hg.out Hk.out hlt Hall.out hl)
            go_wp2_with fail
            refine (siLeft_c _ _ _ rs _ _ hR Hm.out Hg.out (by omega) (by omega)).mono ?_
            rintro e w5 ⟨rfl, b5⟩
            go_wp2
            go_ret2
            exact ⟨by rw [Hy.out.1, Hy.out.2]; rfl, hbel.trans (b5.mono hs)⟩
          | false =>
            have Hl := Lib.hid hl
            go_wp2_with fail
            refine (siLeft_c _ _ _ rs _ _ hR Hm.out Hg.out (by omega) (by omega)).mono ?_
            rintro e w5 ⟨rfl, b5⟩
            go_wp2
            go_roundw
            case rel => exact ⟨k + 1, by omega, by go_num, fun j hj => by rcases Nat.lt_succ_iff_lt_or_eq.1 hj with h | h; exact Hall.out j h; rw [h]; exact Hl.out, hbel.trans (b5.mono hs)⟩
            case measure => simp [intOf]; omega
        · have Hy := Lib.hid (next_none (rs := rs) (n := n) fun j hj => Hall.out j (by omega))
          go_wp2
          go_ret2
          exact ⟨by rw [Hy.out.1, Hy.out.2]; rfl, hbel⟩

set_option maxRecDepth 100000 in
set_option maxHeartbeats 1000000 in
theorem impl_NextLeft_c (w : World) (A : Option Addr) (m c : Nat) (rs : List (Int × Int)) (hA : Rl w A rs) (hm : m = rs.length) (hn : m ≤ 1048576) (n : Int) :
    Calls Try.prog 19 #[.slice A m c, .int .i64 n] w fun en w' => en = .returned (.tuple #[.int .i64 (nextV rs n), .bool (nextOk rs n)]) ∧ Below w.heap.size w w' := by
  have Hm := Lib.hid hm
  clear hm
  cases hg : goodL rs with
  | false =>
    have ho : nextOk rs n = false := by simp [nextOk, okN, *]
    rw [next_no ho, ho]
    clear ho
    go_enter Try.func19, Try.ntmps19
    go_wp2_with fail
    refine (implAreRules_c _ _ _ rs _ hA Hm.out hn).mono ?_
    rintro e w1 ⟨rfl, b1⟩
    have hA_1 := hA.below b1
    go_wp2
    go_ret2
    exact ⟨rfl, b1⟩
  | true =>
    cases hk : numB n with
    | false =>
      have ho : nextOk rs n = false := by simp [nextOk, okN, *]
      rw [next_no ho, ho]
      clear ho
      go_enter Try.func19, Try.ntmps19
      go_wp2_with fail
      refine (implAreRules_c _ _ _ rs _ hA Hm.out hn).mono ?_
      rintro e w1 ⟨rfl, b1⟩
      have hA_1 := hA.below b1
      go_wp2_with fail
      refine (isNumber_c _ _).mono ?_
      rintro e w2 ⟨rfl, rfl⟩
      go_wp2
      go_ret2
      exact ⟨rfl, b1⟩
    | true =>
      obtain ⟨k1, k2⟩ := numB_true.1 hk
      have Hg := Lib.hid hg
      have Hk := Lib.hid hk
      go_enter Try.func19, Try.ntmps19
      go_wp2_with fail
      refine (implAreRules_c _ _ _ rs _ hA Hm.out hn).mono ?_
      rintro e w1 ⟨rfl, b1⟩
      have hA_1 := hA.below b1
      go_wp2_with fail
      refine (isNumber_c _ _).mono ?_
      rintro e w2 ⟨rfl, rfl⟩
      go_wp2
      go_loopw [6] (fun i wr => ∃ k : Nat, k ≤ 1000 ∧ i = .int .i64 (n + 1 + (k : Int)) ∧ (∀ j : Nat, j < k → leftF rs (n + 1 + (j : Int)) = false) ∧ Below w.heap.size w wr) (fun i _ => (n + 1001 - intOf i).toNat)
      case atStart => exact ⟨0, Nat.zero_le _, by go_num, by omega, b1⟩
      case round =>
        obtain ⟨k, hk, rfl, hall, hbel⟩ := hrel
        have Hall := Lib.hid hall
        clear hall
        have hs := hbel.size
        have hR := hA.below hbel
        by_cases hlt : k < 1000
        · cases hl : leftF rs (n + 1 + (k : Int)) with
          | true =>
            have Hy := Lib.hid (next_of Hg.out Hk.out hlt Hall.out hl)
            go_wp2_with fail
            refine (isLeft_c _ _ _ rs _ _ hR Hm.out Hg.out (by omega) (by omega)).mono ?_
            rintro e w5 ⟨rfl, b5⟩
            go_wp2
            go_ret2
            exact ⟨by rw [Hy.out.1, Hy.out.2]; rfl, hbel.trans (b5.mono hs)⟩
          | false =>
            have Hl := Lib.hid hl
            go_wp2_with fail
            refine (isLeft_c _ _ _ rs _ _ hR Hm.out Hg.out (by omega) (by omega)).mono ?_
            rintro e w5 ⟨rfl, b5⟩
            go_wp2
            go_roundw
            case rel => exact ⟨k + 1, by omega, by go_num, fun j hj => by rcases Nat.lt_succ_iff_lt_or_eq.1 hj with h | h; exact Hall.out j h; rw [h]; exact Hl.out, hbel.trans (b5.mono hs)⟩
            case measure => simp [intOf]; omega
        · have Hy := Lib.hid (next_none (rs := rs) (n := n) fun j hj => Hall.out j (by omega))
          go_wp2
          go_ret2
          exact ⟨by rw [Hy.out.1, Hy.out.2]; rfl, hbel⟩

end Go.Proofs.Ytjoklbkbggdlgaa
