import Derived.Test.YtaapfapejekkfaaG4
import Derived.Test.YtaapfapejekkfaaK3
namespace Go.Proofs.Ytaapfapejekkfaa
open Go.RowKit
set_option linter.unusedVariables false
set_option linter.unusedSimpArgs false

/-- A callee that leaves the world as it is, called in a region that draws its order. -/
theorem qcallS {P : Program} {f : FuncId} {args : Array Value} {w : World} {n : Nat} {v : Value} (h : Calls P f args (w.drewN n) fun e w' => e = .returned v ∧ w.drewN n = w') :
    Calls P f args (w.drewN n) fun e w'' => e = .returned v ∧ ∃ m, w'' = w.drewN m := h.mono fun _ _ hh => ⟨hh.1, n, hh.2.symm⟩

/-! Factors that came in. -/
def pA (ps : List (List Int)) (i : Nat) : Int := ivL (psL ps i) 0
def eA (ps : List (List Int)) (i : Nat) : Int := ivL (psL ps i) 1
def befA (ps : List (List Int)) : Nat → Int
  | 0 => 0
  | i + 1 => pA ps i
/-- Whether list i is a prime, greater than the one before, and an exponent. -/
def sB (ps : List (List Int)) (i : Nat) : Bool := decide ((psL ps i).length = 2 ∧ primeB (pA ps i).toNat = true ∧ pA ps i ≤ 1000000000 ∧ 1 ≤ eA ps i ∧ befA ps i < pA ps i)
theorem sB_true {ps : List (List Int)} {i : Nat} : sB ps i = true ↔ (psL ps i).length = 2 ∧ primeB (pA ps i).toNat = true ∧ pA ps i ≤ 1000000000 ∧ 1 ≤ eA ps i ∧ befA ps i < pA ps i := by rw [sB, decide_eq_true_eq]
theorem sB_false {ps : List (List Int)} {i : Nat} (h : ¬ ((psL ps i).length = 2 ∧ primeB (pA ps i).toNat = true ∧ pA ps i ≤ 1000000000 ∧ 1 ≤ eA ps i ∧ befA ps i < pA ps i)) : sB ps i = false := decide_eq_false h
def prodE (ps : List (List Int)) : Nat → Nat
  | 0 => 1
  | i + 1 => prodE ps i * (pA ps i).toNat ^ (eA ps i).toNat
theorem sB_two {ps : List (List Int)} {i : Nat} (h : sB ps i = true) : 2 ≤ (pA ps i).toNat := primeB_two (sB_true.1 h).2.1
theorem prodE_pos {ps : List (List Int)} : ∀ i, (∀ j, j < i → sB ps j = true) → 1 ≤ prodE ps i
  | 0, _ => Nat.le_refl _
  | i + 1, h => by
    have h1 := prodE_pos i fun j hj => h j (by omega)
    have h2 := sB_two (h i (by omega))
    have h3 : 1 ≤ (pA ps i).toNat ^ (eA ps i).toNat := Nat.one_le_pow _ _ (by omega)
    exact Nat.mul_pos h1 h3
theorem prodE_mono {ps : List (List Int)} : ∀ (d i : Nat), (∀ j, j < i + d → sB ps j = true) → prodE ps i ≤ prodE ps (i + d)
  | 0, i, _ => Nat.le_refl _
  | d + 1, i, h => by
    have h1 := prodE_mono d i fun j hj => h j (by omega)
    have h2 := sB_two (h (i + d) (by omega))
    have h3 : 1 ≤ (pA ps (i + d)).toNat ^ (eA ps (i + d)).toNat := Nat.one_le_pow _ _ (by omega)
    have h4 : prodE ps (i + d) ≤ prodE ps (i + (d + 1)) := by
      show _ ≤ prodE ps (i + d) * _
      exact Nat.le_mul_of_pos_right _ h3
    omega
def strB (ps : List (List Int)) : Bool := decide (ps.length ≤ 30 ∧ ∀ i, i < ps.length → sB ps i = true)
theorem strB_true {ps : List (List Int)} : strB ps = true ↔ ps.length ≤ 30 ∧ ∀ i, i < ps.length → sB ps i = true := by rw [strB, decide_eq_true_eq]
theorem strB_len {ps : List (List Int)} (h : ¬ ps.length ≤ 30) : strB ps = false := decide_eq_false fun hh => h hh.1
theorem strB_at {ps : List (List Int)} {i : Nat} (hi : i < ps.length) (h : sB ps i = false) : strB ps = false := decide_eq_false fun hh => by rw [hh.2 i hi] at h; cases h
def okN (ps : List (List Int)) : Bool := strB ps && decide (prodE ps ps.length ≤ 1000000000)
theorem okN_str {ps : List (List Int)} (h : strB ps = false) : okN ps = false := by rw [okN, h]; rfl
theorem okN_prod {ps : List (List Int)} {i j : Nat} (hi : i < ps.length) (hj : j ≤ (eA ps i).toNat) (h : 1000000000 < prodE ps i * (pA ps i).toNat ^ j) : okN ps = false := by
  rw [okN]
  cases hs : strB ps with
  | false => rfl
  | true =>
    rw [Bool.true_and]
    refine decide_eq_false fun hh => ?_
    obtain ⟨_, hall⟩ := strB_true.1 hs
    have h1 := prodE_mono (ps := ps) (ps.length - (i + 1)) (i + 1) fun k hk => hall k (by omega)
    rw [show i + 1 + (ps.length - (i + 1)) = ps.length by omega] at h1
    have h2 := sB_two (hall i hi)
    have h3 : (pA ps i).toNat ^ j ≤ (pA ps i).toNat ^ (eA ps i).toNat := Nat.pow_le_pow_right (by omega) hj
    have h4 : prodE ps i * (pA ps i).toNat ^ j ≤ prodE ps (i + 1) := Nat.mul_le_mul_left _ h3
    omega
theorem okN_e30 {ps : List (List Int)} {i : Nat} (hi : i < ps.length) (h : 30 < eA ps i) : okN ps = false := by
  cases hs : strB ps with
  | false => exact okN_str hs
  | true =>
    obtain ⟨_, hall⟩ := strB_true.1 hs
    refine okN_prod hi (j := 31) (by omega) ?_
    have h1 := prodE_pos i fun k hk => hall k (by omega)
    have h2 := sB_two (hall i hi)
    have h3 : 2 ^ 31 ≤ (pA ps i).toNat ^ 31 := Nat.pow_le_pow_left h2 _
    have h4 := Nat.le_mul_of_pos_left ((pA ps i).toNat ^ 31) (show 0 < prodE ps i by omega)
    omega
theorem okN_yes {ps : List (List Int)} (h : ps.length ≤ 30) (h2 : ∀ j, j < ps.length → sB ps j = true) (h3 : prodE ps ps.length ≤ 1000000000) : okN ps = true := by
  rw [okN, strB_true.2 ⟨h, h2⟩, decide_eq_true h3]; rfl
def nV (ps : List (List Int)) : Int := if okN ps then (prodE ps ps.length : Int) else 0
theorem nV_no {ps : List (List Int)} (h : okN ps = false) : nV ps = 0 := by rw [nV, h]; rfl
theorem nV_yes {ps : List (List Int)} (h : okN ps = true) : nV ps = (prodE ps ps.length : Int) := by rw [nV, h]; rfl
theorem all_succ {ps : List (List Int)} {i : Nat} (h : ∀ j, j < i → sB ps j = true) (h2 : sB ps i = true) : ∀ j, j < i + 1 → sB ps j = true := fun j hj => by
  rcases Nat.lt_succ_iff_lt_or_eq.1 hj with h3 | h3
  · exact h j h3
  · rw [h3]; exact h2
theorem prodE_succ (ps : List (List Int)) (i : Nat) : prodE ps (i + 1) = prodE ps i * (pA ps i).toNat ^ (eA ps i).toNat := rfl

set_option maxRecDepth 100000 in
set_option maxHeartbeats 1000000 in
theorem areFactors_c (A : Option Addr) (c : Nat) (ps : List (List Int)) (w : World) (hA : Lr w A ps) (hl : ps.length ≤ 1048576) (hlen : ∀ i, i < ps.length → (psL ps i).length ≤ 9223372036854775807) :
    Calls Try.prog 192 #[.slice A ps.length c] w fun en w' => en = .returned (.bool (strB ps)) ∧ Below w.heap.size w w' := by
  by_cases h30 : ps.length ≤ 30
  · go_enter Try.func192, Try.ntmps192
    go_wp2
    go_loopw [3, 13] (fun b i wr => ∃ k : Nat, k ≤ ps.length ∧ i = .int .i64 (k : Int) ∧ b = .int .i64 (befA ps k) ∧ (∀ j, j < k → sB ps j = true) ∧ Below w.heap.size w wr) (fun _ i _ => ps.length - (intOf i).toNat)
    case atStart => exact ⟨0, Nat.zero_le _, rfl, rfl, fun j hj => by omega, Below.refl _ _⟩
    case round =>
      obtain ⟨k, hk, rfl, rfl, hall, hbel⟩ := hrel
      have Hall := Lib.hid hall
      clear hall
      by_cases hlt : k < ps.length
      · obtain ⟨b, off, rfl, hb, hr⟩ := hA (by omega)
        obtain ⟨A1, c1, q1, r1⟩ := hr k hlt
        have hc0 := (hbel.cell (p := ⟨b, off + k, none⟩) hb).trans q1
        have Hno := Lib.hid (fun h => strB_at hlt (sB_false (ps := ps) (i := k) h))
        have hL9 := hlen k hlt
        have hb0 : 0 ≤ befA ps k := by
          cases k with
          | zero => exact Int.le_refl _
          | succ k => have := sB_two (Hall.out k (by omega)); show 0 ≤ pA ps k; omega
        by_cases hl2 : (psL ps k).length = 2
        · rw [hl2] at hc0
          obtain ⟨b1, off1, rfl, hb1, hr1⟩ := r1 (by omega)
          have p0 := (hbel.cell (p := ⟨b1, off1 + 0, none⟩) hb1).trans (hr1 0 (by omega))
          have e0 := (hbel.cell (p := ⟨b1, off1 + 1, none⟩) hb1).trans (hr1 1 (by omega))
          rw [Nat.add_zero] at p0
          obtain ⟨x, hx⟩ : ∃ x, pA ps k = x := ⟨_, rfl⟩
          obtain ⟨y, hy⟩ : ∃ y, eA ps k = y := ⟨_, rfl⟩
          obtain ⟨z, hz⟩ : ∃ z, befA ps k = z := ⟨_, rfl⟩
          rw [show ivL (psL ps k) 0 = x from hx] at p0
          rw [show ivL (psL ps k) 1 = y from hy] at e0
          rw [hz] at hb0 ⊢
          have HX := Lib.hid hx
          have HY := Lib.hid hy
          have HZ := Lib.hid hz
          have HL2 := Lib.hid hl2
          clear hx hy hz hl2 hr hr1 q1 hL9
          by_cases hxz : z < x
          · by_cases hy1 : 1 ≤ y
            · have hbx := hb
              cases hok : isPOk x with
              | false =>
                have Hn := Lib.hid (Hno.out (by rw [HX.out]; rintro ⟨_, _, h9, _⟩; rw [isPOk, inB_false] at hok; omega))
                have Hok := Lib.hid hok
                have Hpv : Hid (isPV x = false) := by show _ = _; rw [isPV, hok]; rfl
                clear hok
                go_wp2_with fail
                refine (impl_IsPrime_c _ x).mono ?_
                rw [Hok.out, Hpv.out]
                rintro e w1 ⟨rfl, b1'⟩
                go_wp2
                go_ret
                exact ⟨by rw [Hn.out]; rfl, hbel.trans (b1'.mono hbel.size)⟩
              | true =>
                have hx9 : x ≤ 1000000000 := (inB_true.1 hok).2
                cases hpr : primeB x.toNat with
                | false =>
                  have Hn := Lib.hid (Hno.out (by rw [HX.out]; rintro ⟨_, h9, _⟩; rw [hpr] at h9; cases h9))
                  have Hok := Lib.hid hok
                  have Hpv : Hid (isPV x = false) := by show _ = _; rw [isPV, hok, hpr]; rfl
                  clear hok hpr
                  go_wp2_with fail
                  refine (impl_IsPrime_c _ x).mono ?_
                  rw [Hok.out, Hpv.out]
                  rintro e w1 ⟨rfl, b1'⟩
                  go_wp2
                  go_ret
                  exact ⟨by rw [Hn.out]; rfl, hbel.trans (b1'.mono hbel.size)⟩
                | true =>
                  have Hs := Lib.hid (sB_true.2 (show (psL ps k).length = 2 ∧ primeB (pA ps k).toNat = true ∧ pA ps k ≤ 1000000000 ∧ 1 ≤ eA ps k ∧ befA ps k < pA ps k by rw [HX.out, HY.out, HZ.out]; exact ⟨HL2.out, hpr, hx9, hy1, hxz⟩))
                  have Hok := Lib.hid hok
                  have Hpv : Hid (isPV x = true) := by show _ = _; rw [isPV, hok, hpr]; rfl
                  have hh1 := hbel.size
                  clear hok hpr
                  go_wp2_with fail
                  refine (impl_IsPrime_c _ x).mono ?_
                  rw [Hok.out, Hpv.out]
                  rintro e w1 ⟨rfl, b1'⟩
                  have p1 := (b1'.cell (p := ⟨b1, off1, none⟩) (Nat.lt_of_lt_of_le hb1 hh1)).trans p0
                  go_wp2
                  go_roundw
                  case rel => exact ⟨k + 1, by omega, by go_num, by rw [show befA ps (k + 1) = pA ps k from rfl, HX.out], all_succ Hall.out Hs.out, hbel.trans (b1'.mono hbel.size)⟩
                  case measure => simp [intOf]; omega
            · have Hn := Lib.hid (Hno.out (by rw [HY.out]; rintro ⟨_, _, _, h9, _⟩; omega))
              go_wp2
              go_ret
              exact ⟨by rw [Hn.out]; rfl, hbel⟩
          · have Hn := Lib.hid (Hno.out (by rw [HX.out, HZ.out]; rintro ⟨_, _, _, _, h9⟩; omega))
            go_wp2
            go_ret
            exact ⟨by rw [Hn.out]; rfl, hbel⟩
        · have Hn := Lib.hid (Hno.out (fun h => hl2 h.1))
          have hne : (((psL ps k).length : Int) != 2) = true := by simp; omega
          clear r1 hr q1 hl2
          go_wp2
          go_ret
          exact ⟨by rw [Hn.out]; rfl, hbel⟩
      · have hkn : k = ps.length := by omega
        have Hy := Lib.hid (strB_true.2 ⟨h30, fun j hj => Hall.out j (by omega)⟩)
        clear hkn
        go_wp2
        go_ret
        exact ⟨by rw [Hy.out]; rfl, hbel⟩
  · rw [strB_len h30]
    have h31 : (30 : Int) < (ps.length : Int) := by omega
    go_enter Try.func192, Try.ntmps192
    go_wp2
    go_ret
    exact ⟨rfl, Below.refl _ _⟩

set_option maxRecDepth 100000 in
set_option maxHeartbeats 1000000 in
theorem impl_NumberOfFactors_c (w : World) (A : Option Addr) (c : Nat) (ps : List (List Int)) (hA : Lr w A ps) (hl : ps.length ≤ 1048576) (hlen : ∀ i, i < ps.length → (psL ps i).length ≤ 9223372036854775807) :
    Calls Try.prog 38 #[.slice A ps.length c] w fun en w' => en = .returned (.tuple #[.int .i64 (nV ps), .bool (okN ps)]) ∧ Below w.heap.size w w' := by
  have Hlen := Lib.hid hlen
  clear hlen
  cases hg : strB ps with
  | false =>
    have ho : okN ps = false := okN_str hg
    rw [nV_no ho, ho]
    clear ho
    go_enter Try.func38, Try.ntmps38
    go_wp2_with fail
    refine (areFactors_c _ _ ps _ hA hl Hlen.out).mono ?_
    rintro e w1 ⟨rfl, b1⟩
    have hA_1 := hA.below b1
    go_wp2
    go_ret2
    exact ⟨rfl, b1⟩
  | true =>
    obtain ⟨h30, hall⟩ := strB_true.1 hg
    have Hall := Lib.hid hall
    clear hall
    have Hg := Lib.hid hg
    go_enter Try.func38, Try.ntmps38
    go_wp2_with fail
    refine (areFactors_c _ _ ps _ hA hl Hlen.out).mono ?_
    rintro e w1 ⟨rfl, b1⟩
    have hA_1 := hA.below b1
    go_wp2
    go_loop [4, 12] (fun a i => ∃ k : Nat, k ≤ ps.length ∧ i = .int .i64 (k : Int) ∧ a = .int .i64 (prodE ps k : Int) ∧ prodE ps k ≤ 1000000000) (fun _ i => ps.length - (intOf i).toNat)
    case atStart => exact ⟨0, Nat.zero_le _, rfl, rfl, by rw [prodE]; omega⟩
    case round =>
      obtain ⟨k, hk, rfl, rfl, hle⟩ := hrel
      by_cases hlt : k < ps.length
      · obtain ⟨b, off, rfl, hb, hr⟩ := hA_1 (by omega)
        obtain ⟨A1, c1, q1, r1⟩ := hr k hlt
        obtain ⟨s1, s2, s3, s4, s5⟩ := sB_true.1 (Hall.out k hlt)
        have s6 := sB_two (Hall.out k hlt)
        rw [s1] at q1
        obtain ⟨bq, offq, rfl, hbq, hr1⟩ := r1 (by omega)
        have p0 := hr1 0 (by omega)
        have e0 := hr1 1 (by omega)
        rw [Nat.add_zero] at p0
        obtain ⟨p, hp⟩ : ∃ p : Nat, pA ps k = (p : Int) := ⟨(pA ps k).toNat, by omega⟩
        obtain ⟨E, hE⟩ : ∃ E : Nat, eA ps k = (E : Int) := ⟨(eA ps k).toNat, by omega⟩
        obtain ⟨N0, hN0⟩ : ∃ N0, prodE ps k = N0 := ⟨_, rfl⟩
        have Hpr := Lib.hid (fun j (hj : j ≤ E) => okN_prod (ps := ps) (i := k) (j := j) hlt (by rw [hE, Int.toNat_natCast]; exact hj))
        have Hsu := Lib.hid (prodE_succ ps k)
        have hpos := prodE_pos k fun j hj => Hall.out j (by omega)
        rw [show ivL (psL ps k) 0 = (p : Int) from hp] at p0
        rw [show ivL (psL ps k) 1 = (E : Int) from hE] at e0
        rw [hp, Int.toNat_natCast, hN0] at Hpr
        rw [hp, hE, Int.toNat_natCast, Int.toNat_natCast, hN0] at Hsu
        rw [hp] at s3
        rw [hp, Int.toNat_natCast] at s6
        rw [hN0] at hle hpos ⊢
        clear hr hr1 s1 s2 s4 s5 hp hE hN0
        go_wp2_with fail
        go_loop [4, 19] (fun a i => ∃ j : Nat, j ≤ E ∧ i = .int .i64 (j : Int) ∧ a = .int .i64 ((N0 * p ^ j : Nat) : Int) ∧ N0 * p ^ j ≤ 1000000000 ∧ 1 ≤ N0 * p ^ j) (fun a _ => 1000000001 - (intOf a).toNat)
        case atStart => exact ⟨0, Nat.zero_le _, rfl, by simp, by simpa using hle, by simpa using hpos⟩
        case round =>
          obtain ⟨j, hj, rfl, rfl, hn9, hn1⟩ := hrel
          have hj30 : j ≤ 29 := by
            rcases Nat.lt_or_ge j 30 with h | h
            · omega
            · have h2 := Nat.pow_le_pow_right (show 0 < 2 by omega) h
              have h3 := Nat.pow_le_pow_left s6 j
              have h4 := Nat.le_mul_of_pos_left (p ^ j) (show 0 < N0 by omega)
              omega
          obtain ⟨M, hM⟩ : ∃ M, N0 * p ^ j = M := ⟨_, rfl⟩
          have hM2 : N0 * p ^ (j + 1) = M * p := by rw [← hM, Nat.pow_succ, Nat.mul_assoc]
          rw [hM] at hn9 hn1 ⊢
          have HM := Lib.hid hM
          have HM2 := Lib.hid hM2
          clear hM hM2
          have hz : ((p : Int) == 0) = false := beq_eq_false_iff_ne.2 (by omega)
          have hdv : (1000000000 : Int) / (p : Int) < (M : Int) ↔ (1000000000 : Int) < (M : Int) * (p : Int) := Int.ediv_lt_iff_lt_mul (by omega)
          have hq0 : 0 ≤ (1000000000 : Int) / (p : Int) := Int.ediv_nonneg (by omega) (by omega)
          have hq1 : (1000000000 : Int) / (p : Int) ≤ 1000000000 := Int.ediv_le_self _ (by omega)
          have hm0 : 0 ≤ (M : Int) * (p : Int) := Int.mul_nonneg (by omega) (by omega)
          have hmc : ((M * p : Nat) : Int) = (M : Int) * (p : Int) := Int.natCast_mul _ _
          have Hmc := Lib.hid hmc
          by_cases hjE : j < E
          · by_cases hbig : (1000000000 : Int) < (M : Int) * (p : Int)
            · have ho := Hpr.out (j + 1) (by omega) (by rw [HM2.out]; omega)
              have Ho := Lib.hid ho
              have Hv := Lib.hid (nV_no ho)
              have hd := hdv.2 hbig
              clear hdv hmc ho
              go_wp2
              go_ret2
              exact ⟨by rw [Ho.out, Hv.out]; rfl, b1⟩
            · have hd : (M : Int) ≤ (1000000000 : Int) / (p : Int) := by
                rcases Int.lt_or_le ((1000000000 : Int) / (p : Int)) (M : Int) with h | h
                · exact absurd (hdv.1 h) hbig
                · exact h
              have hMp : M < M * p := by
                have h2 : M * 2 ≤ M * p := Nat.mul_le_mul_left _ s6
                omega
              have HMp := Lib.hid hMp
              have hb9 : (M : Int) * (p : Int) ≤ 1000000000 := by omega
              have Hb9 : Hid (M * p ≤ 1000000000) := by show _ ≤ _; omega
              clear hdv hmc hMp hbig
              go_wp2
              go_round
              case rel => exact ⟨j + 1, hjE, by go_num, by rw [HM2.out, Hmc.out], by rw [HM2.out]; exact Hb9.out, by rw [HM2.out]; have := HMp.out; omega⟩
              case measure =>
                have := HMp.out
                have := Hmc.out
                simp only [intOf]
                simp
                omega
          · have hjj : j = E := by omega
            have Hnx : Hid (prodE ps (k + 1) = M) := by show _ = _; rw [Hsu.out, ← hjj]; exact HM.out
            clear hdv hmc hjj
            go_wp2
            go_round
            case rel => exact ⟨k + 1, by omega, by go_num, by rw [Hnx.out], by rw [Hnx.out]; exact hn9⟩
            case measure => simp [intOf]; omega
      · have hkn : k = ps.length := by omega
        subst hkn
        have ho := okN_yes h30 (fun j hj => Hall.out j hj) hle
        have Ho := Lib.hid ho
        have Hv := Lib.hid (nV_yes ho)
        clear ho
        go_wp2
        go_ret2
        exact ⟨by rw [Ho.out, Hv.out]; rfl, b1⟩

end Go.Proofs.Ytaapfapejekkfaa
