import Derived.Test.YtbaimgdnajompaaB3
namespace Go.Proofs.Ytbaimgdnajompaa
open Go.RowKit
set_option linter.unusedVariables false
set_option linter.unusedSimpArgs false

def perOk (rs : List (Int × Int)) : Bool := goodL rs && !(perF rs == 0)
def perV (rs : List (Int × Int)) : Int := if goodL rs then perF rs else 0
theorem perV_no {rs : List (Int × Int)} (h : perOk rs = false) : perV rs = 0 := by
  rw [perV]
  cases hg : goodL rs with
  | false => rfl
  | true => simpa [perOk, hg] using h
theorem perOk_parts {rs : List (Int × Int)} (h : perOk rs = true) : goodL rs = true ∧ ¬ perF rs = 0 ∧ 1 ≤ perF rs ∧ perF rs ≤ 100000 := by
  simp only [perOk, Bool.and_eq_true, Bool.not_eq_true', beq_eq_false_iff_ne] at h
  have := perF_le h.1
  exact ⟨h.1, h.2, by omega, by omega⟩

set_option maxRecDepth 100000 in
set_option maxHeartbeats 400000 in
theorem spec_PeriodOfRules_c (w : World) (A : Option Addr) (m c : Nat) (rs : List (Int × Int)) (hA : Rl w A rs) (hm : m = rs.length) (hn : m ≤ 1048576) :
    Calls Try.prog 53 #[.slice A m c] w fun en w' => en = .returned (.tuple #[.int .i64 (perV rs), .bool (perOk rs)]) ∧ Below w.heap.size w w' := by
  have Hm := Lib.hid hm
  clear hm
  cases hg : goodL rs with
  | false =>
    have ho : perOk rs = false := by first | (simp [perOk, hg]; done) | (rw [perOk, Decidable.not_not.1 hz]; simp)
    rw [perV_no ho, ho]
    try (have hzb : (perF rs == 0) = true := by simpa using hz)
    try (have Hg := Lib.hid hg)
    clear ho
    try clear hz
    go_enter Try.func53, Try.ntmps53
    go_wp2_with fail
    refine (good_c _ _ _ rs _ hA Hm.out hn).mono ?_
    rintro e w1 ⟨rfl, b1⟩
    have hA_1 := hA.below b1
    go_wp2
    go_ret2
    exact ⟨rfl, b1⟩
  | true =>
    by_cases hz : ¬ perF rs = 0
    rotate_left
    · skip
      have ho : perOk rs = false := by first | (simp [perOk, hg]; done) | (rw [perOk, Decidable.not_not.1 hz]; simp)
      rw [perV_no ho, ho]
      try (have hzb : (perF rs == 0) = true := by simpa using hz)
      try (have Hg := Lib.hid hg)
      clear ho
      try clear hz
      go_enter Try.func53, Try.ntmps53
      go_wp2_with fail
      refine (good_c _ _ _ rs _ hA Hm.out hn).mono ?_
      rintro e w1 ⟨rfl, b1⟩
      have hA_1 := hA.below b1
      go_wp2_with fail
      refine (siPeriod_c _ _ _ _ rs hA_1 Hm.out (Lib.hid hg).out).mono ?_
      rintro e w2 ⟨rfl, b2⟩
      have hA_2 := hA_1.below b2
      have bb2 := b1.trans (b2.mono b1.size)
      go_wp2
      go_ret2
      exact ⟨rfl, bb2⟩
    · skip
      have ho : perOk rs = true := by simp [perOk, *]
      rw [show perV rs = perF rs by simp [perV, *], ho]
      have hzb : (perF rs == 0) = false := by simpa using hz
      clear ho
      have Hg := Lib.hid hg
      go_enter Try.func53, Try.ntmps53
      go_wp2_with fail
      refine (good_c _ _ _ rs _ hA Hm.out hn).mono ?_
      rintro e w1 ⟨rfl, b1⟩
      have hA_1 := hA.below b1
      go_wp2_with fail
      refine (siPeriod_c _ _ _ _ rs hA_1 Hm.out (Lib.hid hg).out).mono ?_
      rintro e w2 ⟨rfl, b2⟩
      have hA_2 := hA_1.below b2
      have bb2 := b1.trans (b2.mono b1.size)
      go_wp2_with fail
      refine (siPeriod_c _ _ _ _ rs hA_2 Hm.out Hg.out).mono ?_
      rintro e w3 ⟨rfl, b3⟩
      have hA_3 := hA_2.below b3
      have bb3 := bb2.trans (b3.mono bb2.size)
      go_wp2
      go_ret2
      exact ⟨rfl, bb3⟩

set_option maxRecDepth 100000 in
set_option maxHeartbeats 1000000 in
theorem impl_PeriodOfRules_c (w : World) (A : Option Addr) (m c : Nat) (rs : List (Int × Int)) (hA : Rl w A rs) (hm : m = rs.length) (hn : m ≤ 1048576) :
    Calls Try.prog 54 #[.slice A m c] w fun en w' => en = .returned (.tuple #[.int .i64 (perV rs), .bool (perOk rs)]) ∧ Below w.heap.size w w' := by
  have Hm := Lib.hid hm
  clear hm
  cases hg : goodL rs with
  | false =>
    have ho : perOk rs = false := by simp [perOk, hg]
    rw [perV_no ho, ho]
    clear ho
    go_enter Try.func54, Try.ntmps54
    go_wp2_with fail
    refine (implAreRules_c _ _ _ rs _ hA Hm.out hn).mono ?_
    rintro e w1 ⟨rfl, b1⟩
    have hA_1 := hA.below b1
    go_wp2
    go_ret2
    exact ⟨rfl, b1⟩
  | true =>
    have h12 : m ≤ 12 := by rw [Hm.out]; exact good_len hg
    have Hg := Lib.hid hg
    go_enter Try.func54, Try.ntmps54
    go_wp2_with fail
    refine (implAreRules_c _ _ _ rs _ hA Hm.out hn).mono ?_
    rintro e w1 ⟨rfl, b1⟩
    have hA_1 := hA.below b1
    go_wp2
    go_loopw [4, 12] (fun t i wr => ∃ (k : Nat) (p : Int), k ≤ m ∧ i = .int .i64 k ∧ t = .int .i64 p ∧ 1 ≤ p ∧ p ≤ 100000 ∧ perGo (rs.drop k) p = perF rs ∧ Below w.heap.size w wr) (fun _ i _ => m - (intOf i).toNat)
    case atStart => exact ⟨0, 1, Nat.zero_le _, rfl, rfl, by omega, by omega, rfl, b1⟩
    case round =>
      obtain ⟨k, p, hk, rfl, rfl, p1, p2, hper, hbel⟩ := hrel
      have Hper := Lib.hid hper
      clear hper
      by_cases hlt : k < m
      · have hlt1 : k < rs.length := by have := Hm.out; omega
        obtain ⟨b, off, rfl, hb, hr⟩ := hA (by omega)
        have hc0 := (hbel.cell (p := ⟨b, off + k * 2, none⟩) hb).trans (hr k hlt1).1
        have hc1 := (hbel.cell (p := ⟨b, off + k * 2 + 1, none⟩) hb).trans (hr k hlt1).2
        obtain ⟨e1, e2, e3, e4⟩ := okR_at Hg.out hlt1
        have hs := hbel.size
        have m1 := lcmF_pos p (evL rs k) p1 (by omega)
        have m2 := lcmF_le p (evL rs k) 100000 100000 p1 (by omega) p2 (by omega)
        by_cases hbig : 100000 < lcmF p (evL rs k)
        · have Hs2 := Lib.hid ((perGo_drop hlt1 p).trans (if_pos hbig))
          go_wp2_with fail
          refine (lcm_c _ _ _ p1 p2 (by omega) (by omega)).mono ?_
          rintro e w3 ⟨rfl, n3, rfl⟩
          go_wp2
          go_ret2
          have h := Hs2.out
          rw [Hper.out] at h
          have ho : perOk rs = false := by rw [perOk, h]; simp
          exact ⟨by rw [perV_no ho, ho]; rfl, below_drewN (hbel.alloc hs _) _⟩
        · have Hs2 := Lib.hid ((perGo_drop hlt1 p).trans (if_neg hbig))
          go_wp2_with fail
          refine (lcm_c _ _ _ p1 p2 (by omega) (by omega)).mono ?_
          rintro e w3 ⟨rfl, n3, rfl⟩
          go_wp2
          go_roundw
          case rel =>
            have h := Hs2.out
            rw [Hper.out] at h
            exact ⟨k + 1, lcmF p (evL rs k), by omega, by go_num, rfl, m1, by omega, h.symm, below_drewN (hbel.alloc hs _) _⟩
          case measure => simp [intOf]; omega
      · go_wp2
        go_ret2
        have hkm : k = rs.length := by have := Hm.out; omega
        have h := Hper.out
        rw [hkm, perGo_end] at h
        have ho : perOk rs = true := by rw [perOk, Hg.out, ← h]; simp; omega
        have hv : perV rs = p := by rw [perV, Hg.out, h]; rfl
        exact ⟨by rw [hv, ho]; rfl, hbel⟩

def lipV (rs : List (Int × Int)) : Int := if perOk rs then (cntF (leftF rs) 0 (perF rs).toNat : Int) else 0
theorem lip_no {rs : List (Int × Int)} (h : perOk rs = false) : lipV rs = 0 := by rw [lipV, h]; rfl
theorem lip_yes {rs : List (Int × Int)} (h : perOk rs = true) : lipV rs = (cntF (leftF rs) 0 (perF rs).toNat : Int) := by rw [lipV, h]; rfl

set_option maxRecDepth 100000 in
set_option maxHeartbeats 1000000 in
theorem spec_LeftInPeriod_c (w : World) (A : Option Addr) (m c : Nat) (rs : List (Int × Int)) (hA : Rl w A rs) (hm : m = rs.length) (hn : m ≤ 1048576) :
    Calls Try.prog 55 #[.slice A m c] w fun en w' => en = .returned (.tuple #[.int .i64 (lipV rs), .bool (perOk rs)]) ∧ Below w.heap.size w w' := by
  have Hm := Lib.hid hm
  clear hm
  cases hg : goodL rs with
  | false =>
    have ho : perOk rs = false := by first | (simp [perOk, hg]; done) | (rw [perOk, Decidable.not_not.1 hz]; simp)
    rw [lip_no ho, ho]
    try (have hzb : (perF rs == 0) = true := by simpa using hz)
    clear ho
    try clear hz
    go_enter Try.func55, Try.ntmps55
    go_wp2_with fail
    refine (good_c _ _ _ rs _ hA Hm.out hn).mono ?_
    rintro e w1 ⟨rfl, b1⟩
    have hA_1 := hA.below b1
    go_wp2
    go_ret2
    exact ⟨rfl, b1⟩
  | true =>
    by_cases hz : ¬ perF rs = 0
    rotate_left
    · skip
      have ho : perOk rs = false := by first | (simp [perOk, hg]; done) | (rw [perOk, Decidable.not_not.1 hz]; simp)
      rw [lip_no ho, ho]
      try (have hzb : (perF rs == 0) = true := by simpa using hz)
      clear ho
      try clear hz
      go_enter Try.func55, Try.ntmps55
      go_wp2_with fail
      refine (good_c _ _ _ rs _ hA Hm.out hn).mono ?_
      rintro e w1 ⟨rfl, b1⟩
      have hA_1 := hA.below b1
      go_wp2_with fail
      refine (siPeriod_c _ _ _ _ rs hA_1 Hm.out (Lib.hid hg).out).mono ?_
      rintro e w2 ⟨rfl, b2⟩
      have hA_2 := hA_1.below b2
      have bb2 := b1.trans (b2.mono b1.size)
      go_wp2
      go_ret2
      exact ⟨rfl, bb2⟩
    · skip
      have ho : perOk rs = true := by simp [perOk, *]
      rw [lip_yes ho, ho]
      have hzb : (perF rs == 0) = false := by simpa using hz
      obtain ⟨pl1, pl2⟩ := perF_le hg
      clear ho hz
      have Hg := Lib.hid hg
      go_enter Try.func55, Try.ntmps55
      go_wp2_with fail
      refine (good_c _ _ _ rs _ hA Hm.out hn).mono ?_
      rintro e w1 ⟨rfl, b1⟩
      have hA_1 := hA.below b1
      go_wp2_with fail
      refine (siPeriod_c _ _ _ _ rs hA_1 Hm.out (Lib.hid hg).out).mono ?_
      rintro e w2 ⟨rfl, b2⟩
      have hA_2 := hA_1.below b2
      have bb2 := b1.trans (b2.mono b1.size)
      go_wp2
      go_loopw [4, 5] (fun t i wr => ∃ k : Nat, (k : Int) ≤ perF rs ∧ i = .int .i64 (k : Int) ∧ t = .int .i64 (cntF (leftF rs) 0 k : Int) ∧ Below w.heap.size w wr) (fun _ i _ => (perF rs - intOf i).toNat)
      case atStart => exact ⟨0, pl1, rfl, rfl, bb2⟩
      case round =>
        obtain ⟨k, hk, rfl, rfl, hbel⟩ := hrel
        have hs := hbel.size
        have hR := hA.below hbel
        have hcl := cntF_le (leftF rs) 0 k
        by_cases hlt : (k : Int) < perF rs
        · have e0 : ((0 : Nat) : Int) + (k : Int) = (k : Int) := by omega
          cases hl : leftF rs (k : Int) with
          | true =>
            have Hy := Lib.hid (cntF_yes (p := leftF rs) (lo := 0) (k := k) (by rw [e0]; exact hl))
            clear e0
            go_wp2_with fail
            refine (siPeriod_c _ _ _ _ rs hR Hm.out Hg.out).mono ?_
            rintro e w5 ⟨rfl, b5⟩
            have hR2 := hR.below b5
            go_wp2_with fail
            refine (siLeft_c _ _ _ rs _ _ hR2 Hm.out Hg.out (by omega) (by omega)).mono ?_
            rintro e w6 ⟨rfl, b6⟩
            go_wp2
            go_roundw
            case rel => exact ⟨k + 1, by omega, by go_num, by rw [Hy.out]; go_num, (hbel.trans (b5.mono hs)).trans (b6.mono (Nat.le_trans hs b5.size))⟩
            case measure => simp [intOf]; omega
          | false =>
            have Hy := Lib.hid (cntF_no (p := leftF rs) (lo := 0) (k := k) (by rw [e0]; exact hl))
            clear e0
            go_wp2_with fail
            refine (siPeriod_c _ _ _ _ rs hR Hm.out Hg.out).mono ?_
            rintro e w5 ⟨rfl, b5⟩
            have hR2 := hR.below b5
            go_wp2_with fail
            refine (siLeft_c _ _ _ rs _ _ hR2 Hm.out Hg.out (by omega) (by omega)).mono ?_
            rintro e w6 ⟨rfl, b6⟩
            go_wp2
            go_roundw
            case rel => exact ⟨k + 1, by omega, by go_num, by rw [Hy.out], (hbel.trans (b5.mono hs)).trans (b6.mono (Nat.le_trans hs b5.size))⟩
            case measure => simp [intOf]; omega
        · have hkP : perF rs ≤ (k : Int) := by omega
          go_wp2_with fail
          refine (siPeriod_c _ _ _ _ rs hR Hm.out Hg.out).mono ?_
          rintro e w5 ⟨rfl, b5⟩
          go_wp2
          go_ret2
          have : (perF rs).toNat = k := by omega
          exact ⟨by rw [this]; rfl, hbel.trans (b5.mono hs)⟩

end Go.Proofs.Ytbaimgdnajompaa
