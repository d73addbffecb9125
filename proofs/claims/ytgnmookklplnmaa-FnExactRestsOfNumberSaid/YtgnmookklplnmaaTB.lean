import Derived.Test.YtgnmookklplnmaaTA
namespace Go.Proofs.Ytgnmookklplnmaa
open Go.RowKit
set_option linter.unusedVariables false
set_option linter.unusedSimpArgs false

/- Numbers with remainders. -/
theorem six_prod0 : ∀ k, k < 6 → ∀ a, a < rpF k → ∀ b, b < rpF k → a * b % rpF k = 0 → a = 0 ∨ b = 0 := by decide +kernel
theorem six_prod {k : Nat} (hk : k < 6) {a : Nat} (ha : a < rpF k) (a0 : a ≠ 0) {b : Nat} (hb : b < rpF k) (b0 : b ≠ 0) : a * b % rpF k ≠ 0 := fun h => (six_prod0 k hk a ha b hb h).elim a0 b0
theorem six_apart : ∀ k, k < 6 → ∀ j, j < 6 → rpF j ≠ rpF k → rpF j % rpF k ≠ 0 := by decide +kernel
theorem six_hit : ∀ k, k < 6 → ∀ a, a < rpF k → a ≠ 0 → ∀ b, b < rpF k → ∀ r, r < rpF k → ∃ j, j < rpF k ∧ (b + j * a) % rpF k = r := by decide +kernel
/-- The first one of n, n + P, .. that leaves r modulo p. -/
def nrS (p r P : Nat) : Nat → Nat → Nat
  | 0, n => n
  | f + 1, n => if n % p = r then n else nrS p r P f (n + P)
theorem nrS_hit {p r P n : Nat} (h : n % p = r) : ∀ f, nrS p r P f n = n
  | 0 => rfl
  | f + 1 => by rw [nrS, if_pos h]
theorem nrS_miss {p r P n f : Nat} (h : ¬ n % p = r) : nrS p r P (f + 1) n = nrS p r P f (n + P) := by rw [nrS, if_neg h]
theorem nrS_le (p r P : Nat) : ∀ f n, nrS p r P f n ≤ n + f * P
  | 0, n => by simp [nrS]
  | f + 1, n => by
    rw [nrS, Nat.succ_mul]
    split
    · omega
    · have := nrS_le p r P f (n + P)
      omega
/-- The number behind the first i primes, and their product. -/
def nrG (ps rs : List Int) : Nat → Nat × Nat
  | 0 => (0, 1)
  | i + 1 => (nrS (ivL ps i).toNat (ivL rs i).toNat (nrG ps rs i).2 (ivL ps i).toNat (nrG ps rs i).1, (nrG ps rs i).2 * (ivL ps i).toNat)
theorem dpB_idx {ps : List Int} (h : dpB ps = true) {i : Nat} (hi : i < ps.length) : ∃ k, k < 6 ∧ (ivL ps i).toNat = rpF k ∧ ivL ps i = (rpF k : Int) := by
  have h2 := (dpB_iff.1 h).2 i hi
  rw [dfB, Bool.and_eq_true] at h2
  obtain ⟨k, hk, e⟩ := reB_iff.1 h2.1
  exact ⟨k, hk, by rw [e, Int.toNat_natCast], e⟩
theorem dpB_ne {ps : List Int} (h : dpB ps = true) {i j : Nat} (hi : i < ps.length) (hj : j < i) : ivL ps j ≠ ivL ps i := by
  have h2 := (dpB_iff.1 h).2 i hi
  rw [dfB, Bool.and_eq_true, Bool.not_eq_true'] at h2
  intro e
  have : hasF (ps.take i) (ivL ps i) = true := hasF_yes (k := j) (by rw [List.length_take]; omega) (by rw [ivL_take hj]; exact e)
  rw [this] at h2
  exact absurd h2.2 (by simp)
/-- The product of the first j primes is no multiple of a later one. -/
theorem nrG_apart {ps rs : List Int} (h : dpB ps = true) {i : Nat} (hi : i < ps.length) : ∀ j, j ≤ i → (nrG ps rs j).2 % (ivL ps i).toNat ≠ 0 := by
  obtain ⟨k, hk, e, e'⟩ := dpB_idx h hi
  obtain ⟨p2, p13⟩ := rpF_all k hk
  rw [e]
  intro j
  induction j with
  | zero => intro _; show 1 % rpF k ≠ 0; rw [Nat.mod_eq_of_lt (by omega)]; omega
  | succ j ih =>
    intro hj
    obtain ⟨k', hk', f, f'⟩ := dpB_idx h (i := j) (by omega)
    have hne : rpF k' ≠ rpF k := fun hh => dpB_ne h hi (j := j) (by omega) (by rw [e', f', hh])
    show (nrG ps rs j).2 * (ivL ps j).toNat % rpF k ≠ 0
    rw [f, Nat.mul_mod]
    exact six_prod hk (Nat.mod_lt _ (by omega)) (ih (by omega)) (Nat.mod_lt _ (by omega)) (six_apart k hk k' hk' hne)
theorem nrG_hit {ps rs : List Int} (h : dpB ps = true) {i : Nat} (hi : i < ps.length) (n r : Nat) (hr : r < (ivL ps i).toNat) : ∃ j, j < (ivL ps i).toNat ∧ (n + j * (nrG ps rs i).2) % (ivL ps i).toNat = r := by
  have h0 := nrG_apart (rs := rs) h hi i (Nat.le_refl _)
  obtain ⟨k, hk, e, e'⟩ := dpB_idx h hi
  obtain ⟨p2, p13⟩ := rpF_all k hk
  rw [e] at h0 hr ⊢
  obtain ⟨j, hj, hh⟩ := six_hit k hk ((nrG ps rs i).2 % rpF k) (Nat.mod_lt _ (by omega)) h0 (n % rpF k) (Nat.mod_lt _ (by omega)) r hr
  refine ⟨j, hj, ?_⟩
  rw [← hh]
  simp [Nat.add_mod, Nat.mul_mod]
theorem nrS_found {p r P : Nat} : ∀ f n, (∃ j, j < f ∧ (n + j * P) % p = r) → ∃ j, j < f ∧ nrS p r P f n = n + j * P ∧ (n + j * P) % p = r
  | 0, n, h => by obtain ⟨j, hj, _⟩ := h; omega
  | f + 1, n, h => by
    by_cases hr : n % p = r
    · exact ⟨0, by omega, by rw [nrS_hit hr]; simp, by simpa using hr⟩
    · obtain ⟨j, hj, hh⟩ := h
      have hj0 : j ≠ 0 := fun e => hr (by rw [e] at hh; simpa using hh)
      obtain ⟨j, rfl⟩ := Nat.exists_eq_succ_of_ne_zero hj0
      obtain ⟨i, hi, e, e2⟩ := nrS_found (p := p) (r := r) (P := P) f (n + P) ⟨j, by omega, by rw [show n + P + j * P = n + (j + 1) * P by rw [Nat.succ_mul]; omega]; exact hh⟩
      refine ⟨i + 1, by omega, ?_, ?_⟩
      · rw [nrS_miss hr, e, Nat.succ_mul]; omega
      · rw [show n + (i + 1) * P = n + P + i * P by rw [Nat.succ_mul]; omega]; exact e2
theorem nrG_step {ps rs : List Int} (h : dpB ps = true) {i : Nat} (hi : i < ps.length) (hr : (ivL rs i).toNat < (ivL ps i).toNat) : ∃ j, j < (ivL ps i).toNat ∧ (nrG ps rs (i + 1)).1 = (nrG ps rs i).1 + j * (nrG ps rs i).2 ∧ (nrG ps rs (i + 1)).1 % (ivL ps i).toNat = (ivL rs i).toNat := by
  obtain ⟨j, hj, e, e2⟩ := nrS_found (p := (ivL ps i).toNat) (r := (ivL rs i).toNat) (P := (nrG ps rs i).2) (ivL ps i).toNat (nrG ps rs i).1 (nrG_hit h hi _ _ hr)
  exact ⟨j, hj, e, by show nrS _ _ _ _ _ % _ = _; rw [e]; exact e2⟩
/-- Remainders that are fit for the primes. -/
def rtB (ps rs : List Int) : Bool := decide (rs.length = ps.length) && (List.range rs.length).all fun i => inB (ivL rs i) 0 (ivL ps i - 1)
theorem rtB_iff {ps rs : List Int} : rtB ps rs = true ↔ rs.length = ps.length ∧ ∀ i, i < rs.length → inB (ivL rs i) 0 (ivL ps i - 1) = true := by
  rw [rtB, Bool.and_eq_true, decide_eq_true_eq, List.all_eq_true]
  simp
theorem rtB_no {ps rs : List Int} {i : Nat} (hi : i < rs.length) (h : inB (ivL rs i) 0 (ivL ps i - 1) = false) : rtB ps rs = false := by
  rw [Bool.eq_false_iff]
  intro hh
  rw [(rtB_iff.1 hh).2 i hi] at h
  cases h
theorem nrG_bound {ps rs : List Int} (h : dpB ps = true) (h2 : rtB ps rs = true) : ∀ i, i ≤ ps.length → (nrG ps rs i).1 < (nrG ps rs i).2 ∧ (nrG ps rs i).2 ≤ 13 ^ i ∧ 1 ≤ (nrG ps rs i).2
  | 0, _ => by simp [nrG]
  | i + 1, hi => by
    obtain ⟨a, b, c⟩ := nrG_bound h h2 i (by omega)
    obtain ⟨k, hk, e, e'⟩ := dpB_idx h (i := i) (by omega)
    obtain ⟨p2, p13⟩ := rpF_all k hk
    obtain ⟨hl, hr⟩ := rtB_iff.1 h2
    have hri := inB_true.1 (hr i (by omega))
    obtain ⟨j, hj, e1, _⟩ := nrG_step (rs := rs) h (i := i) (by omega) (by omega)
    have e2 : (nrG ps rs (i + 1)).2 = (nrG ps rs i).2 * (ivL ps i).toNat := rfl
    rw [e1, e2, e]
    rw [e] at hj
    have h3 := Nat.mul_le_mul b p13
    have h4 : (j + 1) * (nrG ps rs i).2 ≤ rpF k * (nrG ps rs i).2 := Nat.mul_le_mul (by omega) (Nat.le_refl _)
    rw [Nat.succ_mul, Nat.mul_comm (rpF k)] at h4
    refine ⟨by omega, by rw [Nat.pow_succ]; omega, Nat.mul_pos (by omega) (by omega)⟩
theorem nrG_small {ps rs : List Int} (h : dpB ps = true) (h2 : rtB ps rs = true) {i : Nat} (hi : i ≤ ps.length) : (nrG ps rs i).1 ≤ 4826809 ∧ (nrG ps rs i).2 ≤ 4826809 ∧ 1 ≤ (nrG ps rs i).2 := by
  obtain ⟨a, b, c⟩ := nrG_bound h h2 i hi
  have h6 := (dpB_iff.1 h).1
  have : 13 ^ i ≤ 13 ^ 6 := Nat.pow_le_pow_right (by omega) (by omega)
  omega
def nwO (ps rs : List Int) : Bool := dpB ps && rtB ps rs
def nwV (ps rs : List Int) : Int := if nwO ps rs then ((nrG ps rs ps.length).1 : Int) else 0
theorem nwV_no {ps rs : List Int} (h : nwO ps rs = false) : nwV ps rs = 0 := by rw [nwV, h]; rfl
theorem nwV_yes {ps rs : List Int} (h : nwO ps rs = true) : nwV ps rs = ((nrG ps rs ps.length).1 : Int) := by rw [nwV, h]; rfl

set_option maxRecDepth 100000 in
set_option maxHeartbeats 3200000 in
theorem spec_NumberWithRests_c (w : World) (A : Option Addr) (m c : Nat) (ps : List Int) (hA : Il w A ps) (hm : m = ps.length) (hn : m ≤ 1048576) (hmc : m ≤ c) (A2 : Option Addr) (m2 c2 : Nat) (rs : List Int) (hB : Il w A2 rs) (hm2 : m2 = rs.length) (hn2 : m2 ≤ 1048576) :
    Calls Try.prog 53 #[.slice A m c, .slice A2 m2 c2] w fun en w' => en = .returned (.tuple #[.int .i64 (nwV ps rs), .bool (nwO ps rs)]) ∧ Below w.heap.size w w' := by
  have Hm := Lib.hid hm
  have Hm2 := Lib.hid hm2
  clear hm hm2
  have hpr := rePrimes_c w A m c ps hA Hm.out hn hmc
  cases hd : dpB ps with
  | false =>
    have ho : nwO ps rs = false := by rw [nwO, hd]; rfl
    rw [nwV_no ho, ho]
    rw [hd] at hpr
    have Hpr := Lib.hid hpr
    clear ho hpr
    go_enter Try.func53, Try.ntmps53
    go_wp2_with fail
    refine Hpr.out.mono ?_
    rintro e w1 ⟨rfl, rfl⟩
    go_wp2
    go_ret2
    exact ⟨rfl, Below.refl _ _⟩
  | true =>
    rw [hd] at hpr
    have Hpr := Lib.hid hpr
    clear hpr
    by_cases hmm : m2 = m
    rotate_left
    · have ho : nwO ps rs = false := by rw [nwO, rtB, decide_eq_false (by have := Hm.out; have := Hm2.out; omega), Bool.false_and, Bool.and_false]
      rw [nwV_no ho, ho]
      have hne : ((m2 : Int) != (m : Int)) = true := by rw [bne, beq_eq_false_iff_ne.2 (by omega)]; rfl
      clear ho
      go_enter Try.func53, Try.ntmps53
      go_wp2_with fail
      refine Hpr.out.mono ?_
      rintro e w1 ⟨rfl, rfl⟩
      go_wp2
      go_ret2
      exact ⟨rfl, Below.refl _ _⟩
    subst hmm
    have h6 : m2 ≤ 6 := by have := Hm.out; have := (dpB_iff.1 hd).1; omega
    have Hd := Lib.hid hd
    obtain ⟨T, hT⟩ : ∃ T, (nwV ps rs, nwO ps rs) = T := ⟨_, rfl⟩
    have hT1 : nwV ps rs = T.1 := by rw [← hT]
    have hT2 : nwO ps rs = T.2 := by rw [← hT]
    rw [hT1, hT2]
    have HT1 := Lib.hid hT1
    have HT2 := Lib.hid hT2
    have Hat := Lib.hid (fun i (hi : i < m2) => dpB_idx hd (i := i) (by have := Hm.out; omega))
    clear hT hT1 hT2 hd
    have hne : ((m2 : Int) != (m2 : Int)) = false := by simp
    have HA := Lib.hid (fun k (hk : k < m2) => show ∃ b off, A = some ⟨b, off, none⟩ ∧ w.cell? ⟨b, off + k, none⟩ = some (.int .i64 (ivL ps k)) by
      obtain ⟨b, off, e, _, h⟩ := hA (by have := Hm.out; omega)
      exact ⟨b, off, e, h k (by have := Hm.out; omega)⟩)
    have HB := Lib.hid (fun k (hk : k < m2) => show ∃ b off, A2 = some ⟨b, off, none⟩ ∧ w.cell? ⟨b, off + k, none⟩ = some (.int .i64 (ivL rs k)) by
      obtain ⟨b, off, e, _, h⟩ := hB (by have := Hm2.out; omega)
      exact ⟨b, off, e, h k (by have := Hm2.out; omega)⟩)
    go_enter Try.func53, Try.ntmps53
    go_wp2_with fail
    refine Hpr.out.mono ?_
    rintro e w1 ⟨rfl, rfl⟩
    go_wp2_with fail
    go_loop [24] (fun i => ∃ k : Nat, k ≤ m2 ∧ i = .int .i64 (k : Int) ∧ (∀ j, j < k → inB (ivL rs j) 0 (ivL ps j - 1) = true)) (fun i => m2 - (intOf i).toNat)
    case atStart => exact ⟨0, Nat.zero_le _, rfl, fun j hj => by omega⟩
    case round =>
      obtain ⟨k, hk, rfl, hall⟩ := hrel
      have Hall := Lib.hid hall
      clear hall
      by_cases hlt : k < m2
      · obtain ⟨b, off, rfl, hck⟩ := HA.out k hlt
        obtain ⟨b2, off2, rfl, hck2⟩ := HB.out k hlt
        obtain ⟨q, hq, hqe, hqi⟩ := Hat.out k hlt
        obtain ⟨p2, p13⟩ := rpF_all q hq
        have hki : (k : Int) < (m2 : Int) := by omega
        obtain ⟨x, hx⟩ : ∃ x, ivL rs k = x := ⟨_, rfl⟩
        obtain ⟨y, hy⟩ : ∃ y, ivL ps k = y := ⟨_, rfl⟩
        have hy2 : 2 ≤ y := by rw [← hy, hqi]; omega
        have hy13 : y ≤ 13 := by rw [← hy, hqi]; omega
        rw [hx] at hck2
        rw [hy] at hck
        clear hqi hqe
        cases hin : inB x 0 (y - 1) with
        | false =>
          have ho : nwO ps rs = false := by rw [nwO, rtB_no (i := k) (by have := Hm2.out; omega) (by rw [hx, hy]; exact hin), Bool.and_false]
          have H1 : Hid (T.1 = 0) := by show _ = _; rw [← HT1.out, nwV_no ho]
          have H2 : Hid (T.2 = false) := by show _ = _; rw [← HT2.out, ho]
          have Hin := Lib.hid hin
          clear ho hx hy hin
          go_wp2_with fail
          refine (l1In_c _ _ _ _).mono ?_
          rw [Hin.out]
          rintro e w5 ⟨rfl, rfl⟩
          go_wp2
          go_ret2
          exact ⟨by rw [H1.out, H2.out]; rfl, Below.refl _ _⟩
        | true =>
          have Hall2 := Lib.hid (fun j (hj : j < k + 1) => show inB (ivL rs j) 0 (ivL ps j - 1) = true by
            rcases Nat.lt_succ_iff_lt_or_eq.1 hj with h | h
            · exact Hall.out j h
            · rw [h, hx, hy]; exact hin)
          have Hin := Lib.hid hin
          clear hx hy hin
          go_wp2_with fail
          refine (l1In_c _ _ _ _).mono ?_
          rw [Hin.out]
          rintro e w5 ⟨rfl, rfl⟩
          go_wp2
          go_round
          case rel => exact ⟨k + 1, by omega, by go_num, Hall2.out⟩
          case measure => simp [intOf]; omega
      · have hrt : rtB ps rs = true := rtB_iff.2 ⟨by have := Hm.out; have := Hm2.out; omega, fun j hj => Hall.out j (by have := Hm2.out; omega)⟩
        have ho : nwO ps rs = true := by rw [nwO, Hd.out, hrt]; rfl
        have H1 : Hid (T.1 = ((nrG ps rs m2).1 : Int)) := by show _ = _; rw [← HT1.out, nwV_yes ho, Hm.out]
        have H2 : Hid (T.2 = true) := by show _ = _; rw [← HT2.out, ho]
        have Hr := Lib.hid (fun i (hi : i < m2) => inB_true.1 (Hall.out i (by omega)))
        have Hsm := Lib.hid (fun i (hi : i ≤ m2) => nrG_small Hd.out hrt (i := i) (by have := Hm.out; omega))
        have Hst := Lib.hid (fun i (hi : i < m2) (h : (ivL rs i).toNat < (ivL ps i).toNat) => nrG_hit (rs := rs) Hd.out (i := i) (by have := Hm.out; omega) (nrG ps rs i).1 (ivL rs i).toNat h)
        clear hrt ho Hall
        go_wp2_with fail
        go_loopw [8, 9, 40] (fun n P i wr => ∃ k : Nat, k ≤ m2 ∧ i = .int .i64 (k : Int) ∧ n = .int .i64 ((nrG ps rs k).1 : Int) ∧ P = .int .i64 ((nrG ps rs k).2 : Int) ∧ ∃ d, wr = w.drewN d) (fun _ _ i _ => m2 - (intOf i).toNat)
        case atStart => exact ⟨0, Nat.zero_le _, rfl, rfl, rfl, 0, rfl⟩
        case round =>
          obtain ⟨k, hk, rfl, rfl, rfl, d, rfl⟩ := hrel
          by_cases hlt : k < m2
          · obtain ⟨b, off, rfl, hck⟩ := HA.out k hlt
            obtain ⟨b2, off2, rfl, hck2⟩ := HB.out k hlt
            obtain ⟨q, hq, hqe, hqi⟩ := Hat.out k hlt
            obtain ⟨p2, p13⟩ := rpF_all q hq
            have hrk := Hr.out k hlt
            have hki : (k : Int) < (m2 : Int) := by omega
            obtain ⟨p, hp⟩ : ∃ p, rpF q = p := ⟨_, rfl⟩
            rw [hp] at p2 p13 hqe hqi
            rw [hqi] at hck hrk
            obtain ⟨r, hr⟩ := Int.eq_ofNat_of_zero_le hrk.1
            rw [hr] at hck2 hrk
            have hrn : (ivL rs k).toNat = r := by rw [hr]; rfl
            have hz : ((p : Int) == 0) = false := beq_eq_false_iff_ne.2 (by omega)
            have hit := Hst.out k hlt (by rw [hrn, hqe]; omega)
            rw [hrn, hqe] at hit
            have hst1 : (nrG ps rs (k + 1)).1 = nrS p r (nrG ps rs k).2 p (nrG ps rs k).1 := by show nrS _ _ _ _ _ = _; rw [hrn, hqe]
            have hst2 : (nrG ps rs (k + 1)).2 = (nrG ps rs k).2 * p := by show (nrG ps rs k).2 * _ = _; rw [hqe]
            have hs1 := Hsm.out k (by omega)
            have hs2 := Hsm.out (k + 1) (by omega)
            obtain ⟨N, hN⟩ : ∃ N, (nrG ps rs (k + 1)).1 = N := ⟨_, rfl⟩
            obtain ⟨P, hP⟩ : ∃ P, (nrG ps rs k).2 = P := ⟨_, rfl⟩
            rw [hN] at hst1 hs2
            rw [hP] at hst1 hst2 hs1 hit ⊢
            have HN := Lib.hid hN
            have Hst2 : Hid ((((nrG ps rs (k + 1)).2 : Nat) : Int) = (P : Int) * (p : Int)) := by show _ = _; rw [hst2, Int.natCast_mul]
            have hPp : (P : Int) * (p : Int) ≤ 4826809 := by rw [← Int.natCast_mul, ← hst2]; omega
            have hPp0 : 0 ≤ (P : Int) * (p : Int) := Int.mul_nonneg (by omega) (by omega)
            have Hst1 := Lib.hid hst1.symm
            have Hit := Lib.hid hit
            have hN9 : N ≤ 4826809 := hs2.1
            have hP1 : 1 ≤ P := hs1.2.2
            have hP9 : P ≤ 4826809 := hs1.2.1
            have hG9 := hs1.1
            clear hqe hqi hr hrn hp hN hP hst1 hst2 hit hs1 hs2
            have hckd : (w.drewN d).cell? ⟨b, off + k, none⟩ = some (.int .i64 (p : Int)) := hck
            go_wp2_with fail
            have hckw := fun d : Nat => show (w.drewN d).cell? ⟨b, off + k, none⟩ = some (.int .i64 (p : Int)) from hck
            have hckw2 := fun d : Nat => show (w.drewN d).cell? ⟨b2, off2 + k, none⟩ = some (.int .i64 (r : Int)) from hck2
            go_loopw [8] (fun u wr => ∃ n f : Nat, u = .int .i64 (n : Int) ∧ n ≤ 4826809 ∧ Hid (nrS p r P f n = N) ∧ Hid (∃ j, j < f ∧ (n + j * P) % p = r) ∧ ∃ d, wr = w.drewN d) (fun u _ => N + 1 - (intOf u).toNat)
            case atStart => exact ⟨_, p, rfl, hG9, Hst1, Hit, d, rfl⟩
            case round =>
              obtain ⟨n, f, rfl, hn9, hS, hJ, d2, rfl⟩ := hrel
              obtain ⟨y, hy⟩ : ∃ y, (n : Int) % (p : Int) = y := ⟨_, rfl⟩
              by_cases hyr : y = (r : Int)
              · have hnr : n % p = r := by have h3 : ((n % p : Nat) : Int) = (r : Int) := by rw [Int.natCast_emod, hy, hyr]
                                           omega
                have Hn : Hid (n = N) := by show _ = _; rw [← hS.out, nrS_hit hnr]
                have hyb : (y != (r : Int)) = false := by rw [bne, beq_iff_eq.2 hyr]; rfl
                clear hnr hyr
                go_wp2_with fail
                go_quiet (fail)
                go_wp2
                go_roundw
                case rel => exact ⟨k + 1, by omega, by go_num, by rw [HN.out, ← Hn.out], by rw [Hst2.out], d2 + nq, rfl⟩
                case measure => simp [intOf]; omega
              · have hnr : ¬ n % p = r := fun h => hyr (by rw [← hy, ← Int.natCast_emod, h])
                obtain ⟨j, hj, e1, e2⟩ := nrS_found f n hJ.out
                rw [hS.out] at e1
                have hj0 : j ≠ 0 := fun e => hnr (by rw [e] at e2; simpa using e2)
                obtain ⟨j, rfl⟩ := Nat.exists_eq_succ_of_ne_zero hj0
                obtain ⟨f, rfl⟩ : ∃ f', f = f' + 1 := ⟨f - 1, by omega⟩
                have hle : n + P ≤ N := by rw [e1, Nat.succ_mul]; omega
                have Hn : Hid (nrS p r P f (n + P) = N) := by show _ = _; rw [← hS.out, nrS_miss hnr]
                have HJ : Hid (∃ j, j < f ∧ (n + P + j * P) % p = r) := ⟨j, by omega, by rw [show n + P + j * P = n + (j + 1) * P by rw [Nat.succ_mul]; omega]; exact e2⟩
                have hyb : (y != (r : Int)) = true := by rw [bne, beq_eq_false_iff_ne.2 hyr]; rfl
                clear hnr hyr e1 e2 hj0 hj
                go_wp2_with fail
                go_quiet (fail)
                go_wp2
                go_roundw
                case rel => exact ⟨n + P, f, by go_num, by omega, Hn, HJ, d2 + nq, rfl⟩
                case measure => simp [intOf]; omega
          · have Hk2 := Lib.hid (show k = m2 by omega)
            go_wp2
            go_ret2
            exact ⟨by rw [H1.out, H2.out, ← Hk2.out]; rfl, below_drewN (Below.refl _ _) _⟩

end Go.Proofs.Ytgnmookklplnmaa
