import Derived.Test.YtoapidcbmlnjcaaB4
import Derived.Test.YtoapidcbmlnjcaaG0
namespace Go.Proofs.Ytoapidcbmlnjcaa
open Go.RowKit
set_option linter.unusedVariables false
set_option linter.unusedSimpArgs false

/-! Numbers of a period that are left. -/
def lfQ (rs : List (Int × Int)) (n : Nat) : Bool := leftF rs (n : Int)
def gpA (rs : List (Int × Int)) : List Int := if perOk rs then flF (lfQ rs) 0 (perF rs).toNat else []
def gpO (rs : List (Int × Int)) : Bool := perOk rs && decide (0 < (gpA rs).length)
theorem gpA_bad {rs : List (Int × Int)} (h : perOk rs = false) : gpA rs = [] := by rw [gpA, h]; rfl
theorem gpO_bad {rs : List (Int × Int)} (h : perOk rs = false) : gpO rs = false := by rw [gpO, h]; rfl
theorem gpA_ok {rs : List (Int × Int)} (h : perOk rs = true) : gpA rs = flF (lfQ rs) 0 (perF rs).toNat := by rw [gpA, h]; rfl
theorem gpO_ok {rs : List (Int × Int)} (h : perOk rs = true) : gpO rs = decide (0 < (gpA rs).length) := by rw [gpO, h]; rfl
theorem gpA_no {rs : List (Int × Int)} (h : gpO rs = false) : gpA rs = [] := by
  cases hp : perOk rs with
  | false => exact gpA_bad hp
  | true =>
    rw [gpO_ok hp, decide_eq_false_iff_not] at h
    exact List.eq_nil_of_length_eq_zero (by omega)
theorem gpO_parts {rs : List (Int × Int)} (h : gpO rs = true) : perOk rs = true ∧ 0 < (gpA rs).length := by
  rw [gpO, Bool.and_eq_true, decide_eq_true_eq] at h
  exact h
theorem gpA_len (rs : List (Int × Int)) : (gpA rs).length ≤ 100000 := by
  cases hp : perOk rs with
  | false => rw [gpA_bad hp]; exact Nat.zero_le _
  | true =>
    have := flF_len (lfQ rs) 0 (perF rs).toNat
    have := (perOk_parts hp).2.2.2
    rw [gpA_ok hp]
    omega
theorem gpA_at {rs : List (Int × Int)} {k : Nat} (h : k < (gpA rs).length) : 0 ≤ ivL (gpA rs) k ∧ ivL (gpA rs) k < perF rs ∧ leftF rs (ivL (gpA rs) k) = true := by
  cases hp : perOk rs with
  | false => rw [gpA_bad hp] at h; simp at h
  | true =>
    have hm : ivL (gpA rs) k ∈ gpA rs := by simp [ivL, h]
    rw [gpA_ok hp] at hm
    obtain ⟨n, h1, h2, h3, h4⟩ := flF_mem.1 hm
    have := (perOk_parts hp).2.2
    rw [← gpA_ok hp] at h1
    rw [h1]
    exact ⟨by omega, by omega, h4⟩

set_option maxRecDepth 100000 in
set_option maxHeartbeats 1000000 in
theorem gpLeft_c (w : World) (A : Option Addr) (m c : Nat) (rs : List (Int × Int)) (hA : Rl w A rs) (hm : m = rs.length) (hn : m ≤ 1048576) :
    Calls Try.prog 85 #[.slice A m c] w fun en w' => (∃ v, en = .returned (.tuple #[v, .bool (gpO rs)]) ∧ OwnI w' w.heap.size v (gpA rs)) ∧ Below w.heap.size w w' := by
  have Hm := Lib.hid hm
  clear hm
  cases hg : goodL rs with
  | false =>
    have ho : perOk rs = false := by first | (simp [perOk, hg]; done) | (rw [perOk, Decidable.not_not.1 hz]; simp)
    rw [gpA_bad ho, gpO_bad ho]
    try (have hzb : (perF rs == 0) = true := by simpa using hz)
    clear ho
    try clear hz
    go_enter Try.func85, Try.ntmps85
    go_wp2_with fail
    refine (good_c _ _ _ rs _ hA Hm.out hn).mono ?_
    rintro e w1 ⟨rfl, b1⟩
    have hA_1 := hA.below b1
    go_wp2
    go_ret2
    exact ⟨⟨_, rfl, OwnI.nil _ _⟩, b1⟩
  | true =>
    by_cases hz : ¬ perF rs = 0
    rotate_left
    · skip
      have ho : perOk rs = false := by first | (simp [perOk, hg]; done) | (rw [perOk, Decidable.not_not.1 hz]; simp)
      rw [gpA_bad ho, gpO_bad ho]
      try (have hzb : (perF rs == 0) = true := by simpa using hz)
      clear ho
      try clear hz
      go_enter Try.func85, Try.ntmps85
      go_wp2_with fail
      refine (good_c _ _ _ rs _ hA Hm.out hn).mono ?_
      rintro e w1 ⟨rfl, b1⟩
      have hA_1 := hA.below b1
      go_wp2_with fail
      refine (siPeriod_c _ _ _ _ rs hA_1 Hm.out (Lib.hid hg).out).mono ?_
      rintro e w2 ⟨rfl, b2⟩
      have hA_2 := hA_1.below b2
      have bb2 := b1.trans (b2.mono b1.size)
      go_wp2
      go_ret2
      exact ⟨⟨_, rfl, OwnI.nil _ _⟩, bb2⟩
    · skip
      have ho : perOk rs = true := by simp [perOk, *]
      have hzb : (perF rs == 0) = false := by simpa using hz
      obtain ⟨pl1, pl2⟩ := perF_le hg
      clear ho hz
      have Hg := Lib.hid hg
      go_enter Try.func85, Try.ntmps85
      go_wp2_with fail
      refine (good_c _ _ _ rs _ hA Hm.out hn).mono ?_
      rintro e w1 ⟨rfl, b1⟩
      have hA_1 := hA.below b1
      go_wp2_with fail
      refine (siPeriod_c _ _ _ _ rs hA_1 Hm.out (Lib.hid hg).out).mono ?_
      rintro e w2 ⟨rfl, b2⟩
      have hA_2 := hA_1.below b2
      have bb2 := b1.trans (b2.mono b1.size)
      go_wp2
      go_loopw [4, 5] (fun v i wr => ∃ k : Nat, (k : Int) ≤ perF rs ∧ i = .int .i64 (k : Int) ∧ OwnI wr w.heap.size v (flF (lfQ rs) 0 k) ∧ Below w.heap.size w wr) (fun _ i _ => (perF rs - intOf i).toNat)
      case atStart => exact ⟨0, pl1, rfl, OwnI.nil _ _, bb2⟩
      case round =>
        obtain ⟨k, hk, rfl, hown, hbel⟩ := hrel
        have Hown := Lib.hid hown
        clear hown
        have hs := hbel.size
        have hR := hA.below hbel
        have hcl := flF_len (lfQ rs) 0 k
        have Hl := Lib.hid (show (flF (lfQ rs) 0 k).length ≤ 100000 by omega)
        clear hcl
        by_cases hlt : (k : Int) < perF rs
        · cases hl : leftF rs (k : Int) with
          | true =>
            have Hy := Lib.hid (flF_yes (p := lfQ rs) (a := 0) (k := k) (by rw [Nat.zero_add]; exact hl))
            rw [Nat.zero_add] at Hy
            go_wp2_with fail
            refine (siPeriod_c _ _ _ _ rs hR Hm.out Hg.out).mono ?_
            rintro e w5 ⟨rfl, b5⟩
            have hR2 := hR.below b5
            go_wp2_with fail
            refine (siLeft_c _ _ _ rs _ _ hR2 Hm.out Hg.out (by omega) (by omega)).mono ?_
            rintro e w6 ⟨rfl, b6⟩
            have b56 := (hbel.trans (b5.mono hs)).trans (b6.mono (Nat.le_trans hs b5.size))
            have Hown6 := Lib.hid (OwnI.below (OwnI.below Hown.out b5) b6)
            have hs6 := b56.size
            go_wp2_with (at_builtin; refine wp_app_int _ rfl _ _ rfl w.heap.size _ _ rfl Hown6.out _ rfl (by have := Hl.out; omega) hs6 ?_; intro v' w7 hown7 b7)
            go_roundw
            case rel => exact ⟨k + 1, by omega, by go_num, by rw [Hy.out]; exact hown7, b56.trans b7⟩
            case measure => simp [intOf]; omega
          | false =>
            have Hy := Lib.hid (flF_no (p := lfQ rs) (a := 0) (k := k) (by rw [Nat.zero_add]; exact hl))
            go_wp2_with fail
            refine (siPeriod_c _ _ _ _ rs hR Hm.out Hg.out).mono ?_
            rintro e w5 ⟨rfl, b5⟩
            have hR2 := hR.below b5
            go_wp2_with fail
            refine (siLeft_c _ _ _ rs _ _ hR2 Hm.out Hg.out (by omega) (by omega)).mono ?_
            rintro e w6 ⟨rfl, b6⟩
            have b56 := (hbel.trans (b5.mono hs)).trans (b6.mono (Nat.le_trans hs b5.size))
            have Hown6 := Lib.hid (OwnI.below (OwnI.below Hown.out b5) b6)
            go_wp2
            go_roundw
            case rel => exact ⟨k + 1, by omega, by go_num, by rw [Hy.out]; exact Hown6.out, b56⟩
            case measure => simp [intOf]; omega
        · have hkP : perF rs ≤ (k : Int) := by omega
          have HL : Hid (gpA rs = flF (lfQ rs) 0 k) := by show _ = _; rw [gpA_ok (by rw [perOk, Hg.out, hzb]; rfl), show (perF rs).toNat = k by omega]
          obtain ⟨L, hL⟩ : ∃ L, flF (lfQ rs) 0 k = L := ⟨_, rfl⟩
          rw [hL] at Hown Hl HL
          clear hL
          go_wp2_with fail
          refine (siPeriod_c _ _ _ _ rs hR Hm.out Hg.out).mono ?_
          rintro e w5 ⟨rfl, b5⟩
          have Hown5 := Lib.hid (OwnI.below Hown.out b5)
          have HO : Hid (gpO rs = decide (0 < L.length)) := by show _ = _; rw [gpO_ok (by rw [perOk, Hg.out, hzb]; rfl), HL.out]
          obtain ⟨A5, m5, c5, hv, hm5⟩ : ∃ A5 m5 c5, _ = Value.slice A5 m5 c5 ∧ m5 = L.length := by obtain ⟨A, c, e⟩ := Hown5.out.shape; exact ⟨A, _, c, e, rfl⟩
          subst hv
          have hm9 : m5 ≤ 100000 := by have := Hl.out; omega
          rw [← hm5] at HO
          clear hm5
          go_wp2
          go_ret2
          exact ⟨⟨_, by rw [HO.out]; first | rfl | (congr 3; simp), by rw [HL.out]; exact Hown5.out⟩, hbel.trans (b5.mono hs)⟩

end Go.Proofs.Ytoapidcbmlnjcaa
