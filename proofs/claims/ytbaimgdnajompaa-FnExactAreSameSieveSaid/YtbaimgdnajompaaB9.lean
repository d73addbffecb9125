import Derived.Test.YtbaimgdnajompaaB8
namespace Go.Proofs.Ytbaimgdnajompaa
open Go.RowKit
set_option linter.unusedVariables false
set_option linter.unusedSimpArgs false

/-- The needless ones of the first k rules. -/
def needL (rs : List (Int × Int)) (k : Nat) : List Int := ((List.range k).filter fun i => needF rs i (perF rs)).map fun i : Nat => (i : Int)
theorem needL_yes {rs : List (Int × Int)} {k : Nat} (h : needF rs k (perF rs) = true) : needL rs (k + 1) = needL rs k ++ [(k : Int)] := by
  simp [needL, List.range_succ, List.filter_append, h]
theorem needL_no {rs : List (Int × Int)} {k : Nat} (h : needF rs k (perF rs) = false) : needL rs (k + 1) = needL rs k := by
  simp [needL, List.range_succ, List.filter_append, h]
theorem needL_len (rs : List (Int × Int)) (k : Nat) : (needL rs k).length ≤ k := by
  unfold needL
  rw [List.length_map]
  exact Nat.le_trans (List.length_filter_le _ _) (by simp)
def needV (rs : List (Int × Int)) : List Int := if perOk rs then needL rs rs.length else []
theorem needV_no {rs : List (Int × Int)} (h : perOk rs = false) : needV rs = [] := by rw [needV, h]; rfl
theorem needV_yes {rs : List (Int × Int)} (h : perOk rs = true) : needV rs = needL rs rs.length := by rw [needV, h]; rfl
theorem needV_len (rs : List (Int × Int)) : (needV rs).length ≤ 1048576 := by
  rw [needV]
  split
  · rename_i h
    have h1 := good_len (perOk_parts h).1
    have h2 := needL_len rs rs.length
    omega
  · exact Nat.zero_le _

set_option maxRecDepth 100000 in
set_option maxHeartbeats 1600000 in
theorem spec_NeedlessRules_c (w : World) (A : Option Addr) (m c : Nat) (rs : List (Int × Int)) (hA : Rl w A rs) (hm : m = rs.length) (hn : m ≤ 1048576) (hmc : m ≤ c) :
    Calls Try.prog 48 #[.slice A m c] w fun en w' => (∃ v, en = .returned (.tuple #[v, .bool (perOk rs)]) ∧ OwnI w' w.heap.size v (needV rs)) ∧ Below w.heap.size w w' := by
  have Hm := Lib.hid hm
  clear hm
  cases hg : goodL rs with
  | false =>
    have ho : perOk rs = false := by first | (simp [perOk, hg]; done) | (rw [perOk, Decidable.not_not.1 hz]; simp)
    rw [needV_no ho, ho]
    try (have hzb : (perF rs == 0) = true := by simpa using hz)
    clear ho
    try clear hz
    go_enter Try.func48, Try.ntmps48
    go_wp2_with fail
    refine (good_c _ _ _ rs _ hA Hm.out hn).mono ?_
    rintro e w1 ⟨rfl, b1⟩
    have hA_1 := hA.below b1
    go_wp2
    go_ret2
    exact ⟨⟨_, rfl, OwnI.nil _ _⟩, b1⟩
  | true =>
    by_cases hz : ¬ perF rs = 0
    rotate_left
    · skip
      have ho : perOk rs = false := by first | (simp [perOk, hg]; done) | (rw [perOk, Decidable.not_not.1 hz]; simp)
      rw [needV_no ho, ho]
      try (have hzb : (perF rs == 0) = true := by simpa using hz)
      clear ho
      try clear hz
      go_enter Try.func48, Try.ntmps48
      go_wp2_with fail
      refine (good_c _ _ _ rs _ hA Hm.out hn).mono ?_
      rintro e w1 ⟨rfl, b1⟩
      have hA_1 := hA.below b1
      go_wp2_with fail
      refine (siPeriod_c _ _ _ _ rs hA_1 Hm.out (Lib.hid hg).out).mono ?_
      rintro e w2 ⟨rfl, b2⟩
      have hA_2 := hA_1.below b2
      have bb2 := b1.trans (b2.mono b1.size)
      go_wp2
      go_ret2
      exact ⟨⟨_, rfl, OwnI.nil _ _⟩, bb2⟩
    · skip
      have ho : perOk rs = true := by simp [perOk, *]
      rw [needV_yes ho, ho]
      have hzb : (perF rs == 0) = false := by simpa using hz
      obtain ⟨pl1, pl2⟩ := perF_le hg
      have h12 : m ≤ 12 := by rw [Hm.out]; exact good_len hg
      clear ho hz
      have Hg := Lib.hid hg
      go_enter Try.func48, Try.ntmps48
      go_wp2_with fail
      refine (good_c _ _ _ rs _ hA Hm.out hn).mono ?_
      rintro e w1 ⟨rfl, b1⟩
      have hA_1 := hA.below b1
      go_wp2_with fail
      refine (siPeriod_c _ _ _ _ rs hA_1 Hm.out (Lib.hid hg).out).mono ?_
      rintro e w2 ⟨rfl, b2⟩
      have hA_2 := hA_1.below b2
      have bb2 := b1.trans (b2.mono b1.size)
      go_wp2
      go_loopw [4, 16] (fun v i wr => ∃ k : Nat, k ≤ m ∧ i = .int .i64 (k : Int) ∧ OwnI wr w.heap.size v (needL rs k) ∧ Below w.heap.size w wr) (fun _ i _ => m - (intOf i).toNat)
      case atStart => exact ⟨0, Nat.zero_le _, rfl, OwnI.nil _ _, bb2⟩
      case round =>
        obtain ⟨k, hk, rfl, hown, hbel⟩ := hrel
        have Hown := Lib.hid hown
        clear hown
        have hs := hbel.size
        have hR := hA.below hbel
        by_cases hlt : k < m
        · have hul := needL_len rs k
          cases hl : needF rs k (perF rs) with
          | true =>
            have Hy := Lib.hid (needL_yes hl)
            go_wp2_with fail
            refine (siPeriod_c _ _ _ _ rs hR Hm.out Hg.out).mono ?_
            rintro e w5 ⟨rfl, b5⟩
            have hR5 := hR.below b5
            have hb5 := hbel.trans (b5.mono hs)
            go_wp2_with fail
            refine (siNeedless_c _ _ _ _ rs hR5 Hm.out Hg.out hmc k hlt _ pl1 pl2).mono ?_
            rintro e w6 ⟨rfl, b6⟩
            have hb6 := hb5.trans (b6.mono hb5.size)
            have hown1 := (OwnI.below (OwnI.below Hown.out b5) b6)
            have hs6 := hb6.size
            go_wp2_with (at_builtin; refine wp_app_int _ rfl _ _ rfl w.heap.size _ _ rfl hown1 _ rfl (by omega) hs6 ?_; intro v' w7 hown2 b7)
            go_roundw
            case rel => exact ⟨k + 1, by omega, by go_num, by rw [Hy.out]; exact hown2, hb6.trans b7⟩
            case measure => simp [intOf]; omega
          | false =>
            have Hy := Lib.hid (needL_no hl)
            go_wp2_with fail
            refine (siPeriod_c _ _ _ _ rs hR Hm.out Hg.out).mono ?_
            rintro e w5 ⟨rfl, b5⟩
            have hR5 := hR.below b5
            have hb5 := hbel.trans (b5.mono hs)
            go_wp2_with fail
            refine (siNeedless_c _ _ _ _ rs hR5 Hm.out Hg.out hmc k hlt _ pl1 pl2).mono ?_
            rintro e w6 ⟨rfl, b6⟩
            have hb6 := hb5.trans (b6.mono hb5.size)
            go_wp2
            go_roundw
            case rel => exact ⟨k + 1, by omega, by go_num, by rw [Hy.out]; exact OwnI.below (OwnI.below Hown.out b5) b6, hb6⟩
            case measure => simp [intOf]; omega
        · go_wp2
          go_ret2
          have hkm : k = rs.length := by have := Hm.out; omega
          exact ⟨⟨_, rfl, by rw [← hkm]; exact Hown.out⟩, hbel⟩

set_option maxRecDepth 100000 in
set_option maxHeartbeats 1600000 in
theorem impl_NeedlessRules_c (w : World) (A : Option Addr) (m c : Nat) (rs : List (Int × Int)) (hA : Rl w A rs) (hm : m = rs.length) (hn : m ≤ 1048576) (hmc : m ≤ c) :
    Calls Try.prog 49 #[.slice A m c] w fun en w' => (∃ v, en = .returned (.tuple #[v, .bool (perOk rs)]) ∧ OwnI w' w.heap.size v (needV rs)) ∧ Below w.heap.size w w' := by
  have Hm := Lib.hid hm
  clear hm
  cases ho : perOk rs with
  | false =>
    rw [needV_no ho]
    go_enter Try.func49, Try.ntmps49
    go_wp2_with fail
    refine (impl_PeriodOfRules_c _ _ _ _ rs hA Hm.out hn).mono ?_
    rintro e w1 ⟨rfl, b1⟩
    have hA_1 := hA.below b1
    go_wp2
    go_ret2
    exact ⟨⟨_, rfl, OwnI.nil _ _⟩, b1⟩
  | true =>
    rw [needV_yes ho]
    obtain ⟨hg, hz, pl1, pl2⟩ := perOk_parts ho
    have hpv : perV rs = perF rs := by rw [perV, hg]; rfl
    have Hpv := Lib.hid hpv
    have pm1 : 1 ≤ perV rs := by omega
    have pm2 : perV rs ≤ 100000 := by omega
    have h12 : m ≤ 12 := by rw [Hm.out]; exact good_len hg
    have Hg := Lib.hid hg
    clear hg hz hpv pl1 pl2
    have Ho := Lib.hid ho
    go_enter Try.func49, Try.ntmps49
    go_wp2_with fail
    refine (impl_PeriodOfRules_c _ _ _ _ rs hA Hm.out hn).mono ?_
    rintro e w1 ⟨rfl, b1⟩
    have hA_1 := hA.below b1
    go_wp2
    go_loopw [6, 17] (fun v i wr => ∃ k : Nat, k ≤ m ∧ i = .int .i64 (k : Int) ∧ OwnI wr w.heap.size v (needL rs k) ∧ Below w.heap.size w wr) (fun _ i _ => m - (intOf i).toNat)
    case atStart => exact ⟨0, Nat.zero_le _, rfl, OwnI.nil _ _, b1⟩
    case round =>
      obtain ⟨k, hk, rfl, hown, hbel⟩ := hrel
      have Hown := Lib.hid hown
      clear hown
      have hs := hbel.size
      have hR := hA.below hbel
      by_cases hlt : k < m
      · have hul := needL_len rs k
        cases hl : needF rs k (perV rs) with
        | true =>
          have Hy := Lib.hid (needL_yes (rs := rs) (k := k) (by rw [← Hpv.out]; exact hl))
          go_wp2_with fail
          refine (isNeedless_c _ _ _ _ rs hR Hm.out Hg.out k hlt _ (by omega) pm2).mono ?_
          rintro e w6 ⟨rfl, b6⟩
          have hb6 := hbel.trans (b6.mono hs)
          have hown1 := OwnI.below Hown.out b6
          have hs6 := hb6.size
          go_wp2_with (at_builtin; refine wp_app_int _ rfl _ _ rfl w.heap.size _ _ rfl hown1 _ rfl (by omega) hs6 ?_; intro v' w7 hown2 b7)
          go_roundw
          case rel => exact ⟨k + 1, by omega, by go_num, by rw [Hy.out]; exact hown2, hb6.trans b7⟩
          case measure => simp [intOf]; omega
        | false =>
          have Hy := Lib.hid (needL_no (rs := rs) (k := k) (by rw [← Hpv.out]; exact hl))
          go_wp2_with fail
          refine (isNeedless_c _ _ _ _ rs hR Hm.out Hg.out k hlt _ (by omega) pm2).mono ?_
          rintro e w6 ⟨rfl, b6⟩
          have hb6 := hbel.trans (b6.mono hs)
          go_wp2
          go_roundw
          case rel => exact ⟨k + 1, by omega, by go_num, by rw [Hy.out]; exact OwnI.below Hown.out b6, hb6⟩
          case measure => simp [intOf]; omega
      · go_wp2
        go_ret2
        have hkm : k = rs.length := by have := Hm.out; omega
        exact ⟨⟨_, rfl, by rw [← hkm]; exact Hown.out⟩, hbel⟩

end Go.Proofs.Ytbaimgdnajompaa
