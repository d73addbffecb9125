import Derived.Test.YtjoklbkbggdlgaaB1
namespace Go.Proofs.Ytjoklbkbggdlgaa
open Go.RowKit
set_option linter.unusedVariables false
set_option linter.unusedSimpArgs false

def okC (rs : List (Int × Int)) (k n : Int) : Bool := okM rs n && inB k 0 ((rs.length : Int) - 1)
def crossP (rs : List (Int × Int)) (K : Nat) (x : Int) : Bool := decide (fIdx rs x = K)
def crossV (rs : List (Int × Int)) (k n : Int) : List Int := if okC rs k n then upF (crossP rs k.toNat) n.toNat else []
theorem crossV_no {rs : List (Int × Int)} {k n : Int} (h : okC rs k n = false) : crossV rs k n = [] := by rw [crossV, h]; rfl
theorem crossV_yes {rs : List (Int × Int)} {K M : Nat} (h : okC rs (K : Int) (M : Int) = true) : crossV rs (K : Int) (M : Int) = upF (crossP rs K) M := by rw [crossV, h, Int.toNat_natCast, Int.toNat_natCast]; rfl
theorem crossP_firstI {rs : List (Int × Int)} {K : Nat} {x : Int} (hK : K < rs.length) : (firstI rs x == (K : Int)) = crossP rs K x := by
  have := fIdx_le rs x
  rw [Bool.eq_iff_iff]
  simp only [beq_iff_eq, crossP, decide_eq_true_eq, firstI]
  split <;> omega
theorem crossP_firstK {rs : List (Int × Int)} {K : Nat} {x : Int} (hK : K < rs.length) : (crossedB rs x && (firstK rs x == (K : Int))) = crossP rs K x := by
  have := fIdx_le rs x
  rw [Bool.eq_iff_iff]
  simp only [Bool.and_eq_true, beq_iff_eq, crossP, decide_eq_true_eq, firstK, crossedB]
  split <;> omega

set_option maxRecDepth 100000 in
set_option maxHeartbeats 1000000 in
theorem spec_CrossedBy_c (w : World) (A : Option Addr) (m c : Nat) (rs : List (Int × Int)) (hA : Rl w A rs) (hm : m = rs.length) (hn : m ≤ 1048576) (k n : Int) :
    Calls Try.prog 30 #[.slice A m c, .int .i64 k, .int .i64 n] w fun en w' => (∃ v, en = .returned (.tuple #[v, .bool (okC rs k n)]) ∧ OwnI w' w.heap.size v (crossV rs k n)) ∧ Below w.heap.size w w' := by
  have hml : ((m : Int) - 1) = ((rs.length : Int) - 1) := by rw [hm]
  rw [show okC rs k n = (okM rs n && inB k 0 ((m : Int) - 1)) by rw [hml]; rfl]
  have Hc := Lib.hid (show okC rs k n = (okM rs n && inB k 0 ((m : Int) - 1)) by rw [hml]; rfl)
  have Hm := Lib.hid hm
  clear hm hml
  cases hg : okM rs n with
  | false =>
    have ho : okC rs k n = false := by rw [Hc.out]; simp [*]
    rw [crossV_no ho]
    clear ho
    go_enter Try.func30, Try.ntmps30
    go_wp2_with fail
    refine (siMost_c _ _ _ _ rs hA Hm.out hn _).mono ?_
    rintro e w1 ⟨rfl, b1⟩
    have hA_1 := hA.below b1
    go_wp2
    go_ret2
    exact ⟨⟨_, rfl, OwnI.nil _ _⟩, b1⟩
  | true =>
    cases hk : inB k 0 ((m : Int) - 1) with
    | false =>
      have ho : okC rs k n = false := by rw [Hc.out]; simp [*]
      rw [crossV_no ho]
      clear ho
      go_enter Try.func30, Try.ntmps30
      go_wp2_with fail
      refine (siMost_c _ _ _ _ rs hA Hm.out hn _).mono ?_
      rintro e w1 ⟨rfl, b1⟩
      have hA_1 := hA.below b1
      go_wp2_with fail
      refine (l1In_c _ _ _ _).mono ?_
      rintro e w2 ⟨rfl, rfl⟩
      go_wp2
      go_ret2
      exact ⟨⟨_, rfl, OwnI.nil _ _⟩, b1⟩
    | true =>
      have ho : okC rs k n = true := by rw [Hc.out, hg, hk]; rfl
      obtain ⟨g1, g2, g3⟩ := okM_most hg
      obtain ⟨k2, k3⟩ := inB_true.1 hk
      obtain ⟨M, rfl⟩ := Int.eq_ofNat_of_zero_le g2
      obtain ⟨K, rfl⟩ := Int.eq_ofNat_of_zero_le k2
      rw [crossV_yes ho]
      have G1 := Lib.hid g1
      have hKl : K < rs.length := by have := Hm.out; omega
      clear g1 ho
      have Hg := Lib.hid hg
      have Hk := Lib.hid hk
      go_enter Try.func30, Try.ntmps30
      go_wp2_with fail
      refine (siMost_c _ _ _ _ rs hA Hm.out hn _).mono ?_
      rintro e w1 ⟨rfl, b1⟩
      have hA_1 := hA.below b1
      go_wp2_with fail
      refine (l1In_c _ _ _ _).mono ?_
      rintro e w2 ⟨rfl, rfl⟩
      go_wp2
      go_loopw [8, 9] (fun v i wr => ∃ j : Nat, j ≤ M ∧ i = .int .i64 ((j : Int) + 1) ∧ OwnI wr w.heap.size v (upF (crossP rs K) j) ∧ Below w.heap.size w wr) (fun _ i _ => M + 1 - (intOf i).toNat)
      case atStart => exact ⟨0, Nat.zero_le _, rfl, OwnI.nil _ _, b1⟩
      case round =>
        obtain ⟨j, hj, rfl, hown, hbel⟩ := hrel
        have Hown := Lib.hid hown
        clear hown
        have hs := hbel.size
        have hR := hA.below hbel
        by_cases hlt : j < M
        · have hul := upF_len (crossP rs K) j
          cases hl : crossP rs K ((j : Int) + 1) with
          | true =>
            have Hy := Lib.hid (upF_yes hl)
            have hd := (crossP_firstI (x := (j : Int) + 1) hKl).trans hl
            go_wp2_with fail
            refine (siFirst_c _ _ _ rs _ _ hR Hm.out G1.out (by omega) (by omega)).mono ?_
            rintro e w5 ⟨rfl, b5⟩
            have hown1 := OwnI.below Hown.out b5
            have hs1 := b5.size
            go_wp2_with (at_builtin; refine wp_app_int _ rfl _ _ rfl w.heap.size _ _ rfl hown1 _ rfl (by omega) (by omega) ?_; intro v' w6 hown2 b6)
            go_roundw
            case rel => exact ⟨j + 1, by omega, by go_num, by rw [Hy.out]; exact hown2, (hbel.trans (b5.mono hs)).trans b6⟩
            case measure => simp [intOf]; omega
          | false =>
            have Hy := Lib.hid (upF_no hl)
            have hd := (crossP_firstI (x := (j : Int) + 1) hKl).trans hl
            go_wp2_with fail
            refine (siFirst_c _ _ _ rs _ _ hR Hm.out G1.out (by omega) (by omega)).mono ?_
            rintro e w5 ⟨rfl, b5⟩
            go_wp2
            go_roundw
            case rel => exact ⟨j + 1, by omega, by go_num, by rw [Hy.out]; exact OwnI.below Hown.out b5, hbel.trans (b5.mono hs)⟩
            case measure => simp [intOf]; omega
        · go_wp2
          go_ret2
          have hkM : j = M := by omega
          subst hkM
          exact ⟨⟨_, rfl, Hown.out⟩, hbel⟩

set_option maxRecDepth 100000 in
set_option maxHeartbeats 1600000 in
theorem impl_CrossedBy_c (w : World) (A : Option Addr) (m c : Nat) (rs : List (Int × Int)) (hA : Rl w A rs) (hm : m = rs.length) (hn : m ≤ 1048576) (k n : Int) :
    Calls Try.prog 20 #[.slice A m c, .int .i64 k, .int .i64 n] w fun en w' => (∃ v, en = .returned (.tuple #[v, .bool (okC rs k n)]) ∧ OwnI w' w.heap.size v (crossV rs k n)) ∧ Below w.heap.size w w' := by
  have Hc := Lib.hid (show okC rs k n = (goodL rs && mostB n && decide (0 ≤ k ∧ k ≤ (m : Int) - 1)) by rw [hm]; rfl)
  have Hm := Lib.hid hm
  clear hm
  cases hg : goodL rs with
  | false =>
    have hq : okC rs k n = false := by rw [Hc.out]; first | (simp [*]; done) | (rw [decide_eq_false (by omega), Bool.and_false])
    rw [crossV_no hq, hq]
    clear hq
    go_enter Try.func20, Try.ntmps20
    go_wp2_with fail
    refine (implAreRules_c _ _ _ rs _ hA Hm.out hn).mono ?_
    rintro e w1 ⟨rfl, b1⟩
    have hA_1 := hA.below b1
    go_wp2
    go_ret2
    exact ⟨⟨_, rfl, OwnI.nil _ _⟩, b1⟩
  | true =>
    by_cases hk : 0 ≤ k
    rotate_left
    · skip
      have hq : okC rs k n = false := by rw [Hc.out]; first | (simp [*]; done) | (rw [decide_eq_false (by omega), Bool.and_false])
      rw [crossV_no hq, hq]
      clear hq
      go_enter Try.func20, Try.ntmps20
      go_wp2_with fail
      refine (implAreRules_c _ _ _ rs _ hA Hm.out hn).mono ?_
      rintro e w1 ⟨rfl, b1⟩
      have hA_1 := hA.below b1
      go_wp2
      go_ret2
      exact ⟨⟨_, rfl, OwnI.nil _ _⟩, b1⟩
    · skip
      by_cases hl : k < (m : Int)
      rotate_left
      · skip
        have hq : okC rs k n = false := by rw [Hc.out]; first | (simp [*]; done) | (rw [decide_eq_false (by omega), Bool.and_false])
        rw [crossV_no hq, hq]
        clear hq
        go_enter Try.func20, Try.ntmps20
        go_wp2_with fail
        refine (implAreRules_c _ _ _ rs _ hA Hm.out hn).mono ?_
        rintro e w1 ⟨rfl, b1⟩
        have hA_1 := hA.below b1
        go_wp2
        go_ret2
        exact ⟨⟨_, rfl, OwnI.nil _ _⟩, b1⟩
      · skip
        cases ho : mostB n with
        | false =>
          have hq : okC rs k n = false := by rw [Hc.out]; first | (simp [*]; done) | (rw [decide_eq_false (by omega), Bool.and_false])
          rw [crossV_no hq, hq]
          clear hq
          go_enter Try.func20, Try.ntmps20
          go_wp2_with fail
          refine (implAreRules_c _ _ _ rs _ hA Hm.out hn).mono ?_
          rintro e w1 ⟨rfl, b1⟩
          have hA_1 := hA.below b1
          go_wp2_with fail
          refine (isMost_c _ _).mono ?_
          rintro e w2 ⟨rfl, rfl⟩
          go_wp2
          go_ret2
          exact ⟨⟨_, rfl, OwnI.nil _ _⟩, b1⟩
        | true =>
          have hq : okC rs k n = true := by rw [Hc.out, hg, ho, decide_eq_true (by omega)]; rfl
          obtain ⟨g2, g3⟩ := mostB_true.1 ho
          obtain ⟨M, rfl⟩ := Int.eq_ofNat_of_zero_le g2
          obtain ⟨K, rfl⟩ := Int.eq_ofNat_of_zero_le hk
          rw [crossV_yes hq, hq]
          have hKl : K < rs.length := by have := Hm.out; omega
          have hKm : K < m := by omega
          have hd1 : decide (m ≤ K) = false := decide_eq_false (by omega)
          clear hq
          have Hg := Lib.hid hg
          have Ho := Lib.hid ho
          go_enter Try.func20, Try.ntmps20
          go_wp2_with fail
          refine (implAreRules_c _ _ _ rs _ hA Hm.out hn).mono ?_
          rintro e w1 ⟨rfl, b1⟩
          have hA_1 := hA.below b1
          go_wp2_with fail
          refine (isMost_c _ _).mono ?_
          rintro e w2 ⟨rfl, rfl⟩
          go_wp2
          go_loopw [8, 9] (fun v i wr => ∃ j : Nat, j ≤ M ∧ i = .int .i64 ((j : Int) + 1) ∧ OwnI wr w.heap.size v (upF (crossP rs K) j) ∧ Below w.heap.size w wr) (fun _ i _ => M + 1 - (intOf i).toNat)
          case atStart => exact ⟨0, Nat.zero_le _, rfl, OwnI.nil _ _, b1⟩
          case round =>
            obtain ⟨j, hj, rfl, hown, hbel⟩ := hrel
            have Hown := Lib.hid hown
            clear hown
            have hs := hbel.size
            have hR := hA.below hbel
            by_cases hlt : j < M
            · have hul := upF_len (crossP rs K) j
              have hd := crossP_firstK (x := (j : Int) + 1) hKl
              cases hl : crossP rs K ((j : Int) + 1) with
              | true =>
                have Hy := Lib.hid (upF_yes hl)
                rw [hl, Bool.and_eq_true] at hd
                obtain ⟨hd1, hd2⟩ := hd
                go_wp2_with fail
                refine (firstCrosser_c _ _ _ rs _ _ hR Hm.out Hg.out (by omega) (by omega)).mono ?_
                rintro e w5 ⟨rfl, b5⟩
                have hown1 := OwnI.below Hown.out b5
                have hs1 := b5.size
                go_wp2_with (at_builtin; refine wp_app_int _ rfl _ _ rfl w.heap.size _ _ rfl hown1 _ rfl (by omega) (by omega) ?_; intro v' w6 hown2 b6)
                go_roundw
                case rel => exact ⟨j + 1, by omega, by go_num, by rw [Hy.out]; exact hown2, (hbel.trans (b5.mono hs)).trans b6⟩
                case measure => simp [intOf]; omega
              | false =>
                have Hy := Lib.hid (upF_no hl)
                rw [hl] at hd
                cases hd1 : crossedB rs ((j : Int) + 1) with
                | false =>
                  clear hd
                  go_wp2_with fail
                  refine (firstCrosser_c _ _ _ rs _ _ hR Hm.out Hg.out (by omega) (by omega)).mono ?_
                  rintro e w5 ⟨rfl, b5⟩
                  go_wp2
                  go_roundw
                  case rel => exact ⟨j + 1, by omega, by go_num, by rw [Hy.out]; exact OwnI.below Hown.out b5, hbel.trans (b5.mono hs)⟩
                  case measure => simp [intOf]; omega
                | true =>
                  rw [hd1, Bool.true_and] at hd
                  go_wp2_with fail
                  refine (firstCrosser_c _ _ _ rs _ _ hR Hm.out Hg.out (by omega) (by omega)).mono ?_
                  rintro e w5 ⟨rfl, b5⟩
                  go_wp2
                  go_roundw
                  case rel => exact ⟨j + 1, by omega, by go_num, by rw [Hy.out]; exact OwnI.below Hown.out b5, hbel.trans (b5.mono hs)⟩
                  case measure => simp [intOf]; omega
            · go_wp2
              go_ret2
              have hkM : j = M := by omega
              subst hkM
              exact ⟨⟨_, rfl, Hown.out⟩, hbel⟩

theorem crossV_len (rs : List (Int × Int)) (k n : Int) : (crossV rs k n).length ≤ 1048576 := by
  rw [crossV]
  split
  · rename_i h
    simp only [okC, Bool.and_eq_true] at h
    have h1 := (okM_most h.1).2
    exact Nat.le_trans (upF_len _ _) (by omega)
  · exact Nat.zero_le _

end Go.Proofs.Ytjoklbkbggdlgaa
