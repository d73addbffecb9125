import Derived.Test.YtbaimgdnajompaaB7
import Derived.Deep.LoopGhost
namespace Go.Proofs.Ytbaimgdnajompaa
open Go.RowKit
set_option linter.unusedVariables false
set_option linter.unusedSimpArgs false

/-- The j-th number of at least 0 that rule K crosses out. -/
def numF (rs : List (Int × Int)) (K j : Nat) : Int := reL rs K + (j : Int) * evL rs K
theorem numF_zero (rs : List (Int × Int)) (K : Nat) : numF rs K 0 = reL rs K := by simp [numF]
theorem numF_succ (rs : List (Int × Int)) (K j : Nat) : numF rs K (j + 1) = numF rs K j + evL rs K := by
  unfold numF
  rw [show ((j + 1 : Nat) : Int) = (j : Int) + 1 by omega, Int.add_mul]
  omega
theorem numF_ge (rs : List (Int × Int)) (K j : Nat) (h1 : 2 ≤ evL rs K) (h2 : 0 ≤ reL rs K) : (j : Int) ≤ numF rs K j := by
  induction j with
  | zero => rw [numF_zero]; omega
  | succ j ih => rw [numF_succ]; omega
/-- Rule K is needless: all of its numbers below P are crossed out by others. -/
def needF (rs : List (Int × Int)) (K : Nat) (P : Int) : Bool := decide (∀ j : Nat, j < 100001 → numF rs K j < P → leftF (rs.eraseIdx K) (numF rs K j) = false)
theorem needF_no {rs : List (Int × Int)} {K j : Nat} {P : Int} (hj : j < 100001) (h : numF rs K j < P) (hl : leftF (rs.eraseIdx K) (numF rs K j) = true) : needF rs K P = false :=
  decide_eq_false fun hh => by rw [hh j hj h] at hl; cases hl
theorem needF_yes {rs : List (Int × Int)} {K J : Nat} {P : Int} (hJ : P ≤ numF rs K J) (he : 2 ≤ evL rs K) (h : ∀ j, j < J → leftF (rs.eraseIdx K) (numF rs K j) = false) : needF rs K P = true := by
  refine decide_eq_true fun j _ hp => h j ?_
  rcases Nat.lt_or_ge j J with hlt | hge
  · exact hlt
  · exfalso
    have : numF rs K J ≤ numF rs K j := by
      clear hp
      induction j with
      | zero => have : J = 0 := by omega
                subst this; omega
      | succ j ih =>
        rcases Nat.lt_or_ge j J with h3 | h3
        · have : J = j + 1 := by omega
          subst this; omega
        · have := ih (by omega) h3
          rw [numF_succ]; omega
    omega
theorem good_erase {rs : List (Int × Int)} (h : goodL rs = true) (K : Nat) : goodL (rs.eraseIdx K) = true := by
  refine goodL_true ?_ fun k hk => ?_
  · have := good_len h
    have := List.length_eraseIdx_le rs K
    omega
  · have hm : (rs.eraseIdx K)[k] ∈ rs := List.mem_of_mem_eraseIdx (List.getElem_mem hk)
    have hg := good_mem h _ hm
    rw [evL_ext hk] at hg
    exact okR_true.2 hg

set_option maxRecDepth 100000 in
set_option maxHeartbeats 1600000 in
theorem siNeedless_c (w : World) (A : Option Addr) (m c : Nat) (rs : List (Int × Int)) (hA : Rl w A rs) (hm : m = rs.length) (hg : goodL rs = true) (hmc : m ≤ c) (K : Nat) (hK : K < m) (P : Int) (hP0 : 0 ≤ P) (hP1 : P ≤ 100000) :
    Calls Try.prog 78 #[.slice A m c, .int .i64 (K : Int), .int .i64 P] w fun en w' => en = .returned (.bool (needF rs K P)) ∧ Below w.heap.size w w' := by
  have Hm := Lib.hid hm
  have hKl : K < rs.length := by omega
  have h12 : m ≤ 12 := by rw [hm]; exact good_len hg
  obtain ⟨e1, e2, e3, e4⟩ := okR_at hg hKl
  have Hge := Lib.hid (good_erase hg K)
  have hki : (K : Int) < (m : Int) := by omega
  clear hm hg
  go_enter Try.func78, Try.ntmps78
  go_wp2_with fail
  refine (siWithout_c _ _ _ _ rs hA Hm.out h12 hmc K hK).mono ?_
  rintro e w1 ⟨⟨v1, rfl, o1⟩, b1⟩
  have hA_1 := hA.below b1
  obtain ⟨A2, c2, rfl⟩ := o1.shape
  have hL := Rl_of_own' o1
  obtain ⟨b, off, rfl, hb, hr⟩ := hA (by omega)
  have hx0 := (b1.cell (p := ⟨b, off + K * 2, none⟩) hb).trans (hr K hKl).1
  have hx1 := (b1.cell (p := ⟨b, off + K * 2 + 1, none⟩) hb).trans (hr K hKl).2
  go_wp2
  go_loopg [8] 100001 (fun g s wr => ∃ j : Nat, j + g = 100001 ∧ s = .int .i64 (numF rs K j) ∧ numF rs K j ≤ 100060 ∧ (∀ i, i < j → leftF (rs.eraseIdx K) (numF rs K i) = false) ∧ Below w.heap.size w wr ∧ Rl wr A2 (rs.eraseIdx K))
  case atStart => exact ⟨0, by omega, by rw [numF_zero], by rw [numF_zero]; omega, by omega, b1, hL⟩
  case round =>
    obtain ⟨j, hj, rfl, hle, hall, hbel, hLr⟩ := hrel
    have Hall := Lib.hid hall
    clear hall hx0 hx1
    have hge := numF_ge rs K j e1 e3
    have hs := hbel.size
    have hy0 := (hbel.cell (p := ⟨b, off + K * 2, none⟩) hb).trans (hr K hKl).1
    by_cases hlt : numF rs K j < P
    · cases hl : leftF (rs.eraseIdx K) (numF rs K j) with
      | true =>
        have Hn := Lib.hid (needF_no (by omega) hlt hl)
        go_wp2_with fail
        refine (siLeft_c _ _ _ (rs.eraseIdx K) _ _ hLr rfl Hge.out (by omega) (by omega)).mono ?_
        rintro e w5 ⟨rfl, b5⟩
        go_wp2
        go_ret
        exact ⟨by rw [Hn.out]; rfl, hbel.trans (b5.mono hs)⟩
      | false =>
        have Hl := Lib.hid hl
        go_wp2_with fail
        refine (siLeft_c _ _ _ (rs.eraseIdx K) _ _ hLr rfl Hge.out (by omega) (by omega)).mono ?_
        rintro e w5 ⟨rfl, b5⟩
        have hL5 := hLr.below b5
        have hy5 := (b5.cell (p := ⟨b, off + K * 2, none⟩) (Nat.lt_of_lt_of_le hb hs)).trans hy0
        go_wp2
        go_roundg (100000 - j)
        case measure => omega
        case rel =>
          refine ⟨j + 1, by omega, by rw [numF_succ], by rw [numF_succ]; omega, fun i hi => ?_, hbel.trans (b5.mono hs), hL5⟩
          rcases Nat.lt_succ_iff_lt_or_eq.1 hi with h | h
          · exact Hall.out i h
          · rw [h]; exact Hl.out
    · have Hn := Lib.hid (needF_yes (by omega : P ≤ numF rs K j) e1 Hall.out)
      go_wp2
      go_ret
      exact ⟨by rw [Hn.out]; rfl, hbel⟩

theorem leftF_iff (rs : List (Int × Int)) (n : Int) : leftF rs n = true ↔ ∀ r ∈ rs, crossF r.1 r.2 n = false := by
  rw [leftF, decide_eq_true_eq, fIdx, List.findIdx_eq_length]
theorem erase_no {rs : List (Int × Int)} {K : Nat} {n : Int} (h : ∀ i, i < rs.length → i ≠ K → crossAt rs n i = false) : leftF (rs.eraseIdx K) n = true := by
  rw [leftF_iff]
  intro r hr
  rw [List.mem_eraseIdx_iff_getElem] at hr
  obtain ⟨i, hi, hne, rfl⟩ := hr
  rw [← crossAt_get hi]
  exact h i hi hne
theorem erase_yes {rs : List (Int × Int)} {K i : Nat} {n : Int} (hi : i < rs.length) (hne : i ≠ K) (h : crossAt rs n i = true) : leftF (rs.eraseIdx K) n = false := by
  cases hl : leftF (rs.eraseIdx K) n with
  | false => rfl
  | true =>
    rw [leftF_iff] at hl
    have := hl rs[i] (List.mem_eraseIdx_iff_getElem.2 ⟨i, hi, hne, rfl⟩)
    rw [← crossAt_get hi, h] at this
    cases this

set_option maxRecDepth 100000 in
set_option maxHeartbeats 3000000 in
theorem isNeedless_c (w : World) (A : Option Addr) (m c : Nat) (rs : List (Int × Int)) (hA : Rl w A rs) (hm : m = rs.length) (hg : goodL rs = true) (K : Nat) (hK : K < m) (P : Int) (hP0 : 0 ≤ P) (hP1 : P ≤ 100000) :
    Calls Try.prog 79 #[.slice A m c, .int .i64 (K : Int), .int .i64 P] w fun en w' => en = .returned (.bool (needF rs K P)) ∧ Below w.heap.size w w' := by
  have Hm := Lib.hid hm
  have hKl : K < rs.length := by omega
  have h12 : m ≤ 12 := by rw [hm]; exact good_len hg
  obtain ⟨e1, e2, e3, e4⟩ := okR_at hg hKl
  have Hg := Lib.hid hg
  have hki : (K : Int) < (m : Int) := by omega
  clear hm hg
  obtain ⟨b, off, rfl, hb, hr⟩ := hA (by omega)
  have hx0 := (hr K hKl).1
  have hx1 := (hr K hKl).2
  go_enter Try.func79, Try.ntmps79
  go_wp2
  go_step3
  go_wp2
  go_step3
  go_wp2
  go_loopg [7] 100001 (fun g s wr => ∃ j : Nat, j + g = 100001 ∧ s = .int .i64 (numF rs K j) ∧ numF rs K j ≤ 100060 ∧ (∀ i, i < j → leftF (rs.eraseIdx K) (numF rs K i) = false) ∧ Below w.heap.size w wr)
  case atStart => exact ⟨0, by omega, by rw [numF_zero], by rw [numF_zero]; omega, by omega, Below.refl _ _⟩
  case round =>
    obtain ⟨j, hj, rfl, hle, hall, hbel⟩ := hrel
    have Hall := Lib.hid hall
    clear hall hx0 hx1
    have hge := numF_ge rs K j e1 e3
    have hs := hbel.size
    by_cases hlt : numF rs K j < P
    · obtain ⟨wo, hwo⟩ : ∃ wo : World, wo = wr := ⟨_, rfl⟩
      subst hwo
      go_wp2
      go_loopg [27] m (fun g s wr => ∃ i : Nat, i + g = m ∧ s = .int .i64 (i : Int) ∧ (∀ q, q < i → q ≠ K → crossAt rs (numF rs K j) q = false) ∧ Below w.heap.size w wr)
      case atStart => exact ⟨0, by omega, rfl, by omega, hbel⟩
      case round =>
        obtain ⟨i, hi, rfl, hq, hbel2⟩ := hrel
        have Hq := Lib.hid hq
        clear hq
        have hs2 := hbel2.size
        by_cases hil : i < m
        · have hil1 : i < rs.length := by have := Hm.out; omega
          have hc0 := (hbel2.cell (p := ⟨b, off + i * 2, none⟩) hb).trans (hr i hil1).1
          have hc1 := (hbel2.cell (p := ⟨b, off + i * 2 + 1, none⟩) hb).trans (hr i hil1).2
          obtain ⟨f1, f2, f3, f4⟩ := okR_at Hg.out hil1
          by_cases hik : i = K
          · have hne : ((i : Int) != (K : Int)) = false := by simp; omega
            have Hik := Lib.hid hik
            clear hik
            go_wp2
            go_roundg (m - i - 1)
            case measure => omega
            case rel =>
              refine ⟨i + 1, by omega, by go_num, fun q hq hqk => ?_, hbel2.alloc hs2 _⟩
              rcases Nat.lt_succ_iff_lt_or_eq.1 hq with h | h
              · exact Hq.out q h hqk
              · exact absurd (h.trans Hik.out) hqk
          · have hne : ((i : Int) != (K : Int)) = true := by simp; omega
            cases hc : crossAt rs (numF rs K j) i with
            | true =>
              have Hl := Lib.hid (erase_yes hil1 hik hc)
              have hd : crossF (evL rs i) (reL rs i) (numF rs K j) = true := hc
              go_wp2_with fail
              refine (crosses_c _ _ _ _ (by omega) (by omega) f1 f2).mono ?_
              rintro e w5 ⟨rfl, b5⟩
              have hb5 : Below w.heap.size w w5 := (hbel2.alloc hs2 _).trans (b5.mono (by simp; omega))
              have hy5 := (hb5.cell (p := ⟨b, off + K * 2, none⟩) hb).trans (hr K hKl).1
              go_wp2
              go_roundg (100000 - j)
              case measure => omega
              case rel =>
                refine ⟨j + 1, by omega, by rw [numF_succ], by rw [numF_succ]; omega, fun i hi => ?_, hb5⟩
                rcases Nat.lt_succ_iff_lt_or_eq.1 hi with h | h
                · exact Hall.out i h
                · rw [h]; exact Hl.out
            | false =>
              have Hc := Lib.hid hc
              have hd : crossF (evL rs i) (reL rs i) (numF rs K j) = false := hc
              go_wp2_with fail
              refine (crosses_c _ _ _ _ (by omega) (by omega) f1 f2).mono ?_
              rintro e w5 ⟨rfl, b5⟩
              have hb5 : Below w.heap.size w w5 := (hbel2.alloc hs2 _).trans (b5.mono (by simp; omega))
              go_wp2
              go_roundg (m - i - 1)
              case measure => omega
              case rel =>
                refine ⟨i + 1, by omega, by go_num, fun q hq hqk => ?_, hb5⟩
                rcases Nat.lt_succ_iff_lt_or_eq.1 hq with h | h
                · exact Hq.out q h hqk
                · rw [h]; exact Hc.out
        · have Hl := Lib.hid (erase_no (rs := rs) (K := K) (n := numF rs K j) fun q hq hqk => Hq.out q (by have := Hm.out; omega) hqk)
          have Hn := Lib.hid (needF_no (by omega) hlt Hl.out)
          go_wp2
          try rw [Exit.noGoto_ret]
          go_ret
          exact ⟨by rw [Hn.out]; rfl, hbel2⟩
    · have Hn := Lib.hid (needF_yes (by omega : P ≤ numF rs K j) e1 Hall.out)
      go_wp2
      try rw [Exit.noGoto_ret]
      go_ret
      exact ⟨by rw [Hn.out]; rfl, hbel⟩

end Go.Proofs.Ytbaimgdnajompaa
