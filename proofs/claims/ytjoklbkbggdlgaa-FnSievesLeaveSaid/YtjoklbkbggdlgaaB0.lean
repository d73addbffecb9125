import Derived.Test.YtjoklbkbggdlgaaA9
namespace Go.Proofs.Ytjoklbkbggdlgaa
open Go.RowKit
set_option linter.unusedVariables false
set_option linter.unusedSimpArgs false


def cntV (rs : List (Int × Int)) (n : Int) : Int := if okM rs n then ((upF (leftF rs) n.toNat).length : Int) else 0

set_option maxRecDepth 100000 in
set_option maxHeartbeats 400000 in
theorem spec_CountLeft_c (w : World) (A : Option Addr) (m c : Nat) (rs : List (Int × Int)) (hA : Rl w A rs) (hm : m = rs.length) (hn : m ≤ 1048576) (n : Int) :
    Calls Try.prog 10 #[.slice A m c, .int .i64 n] w fun en w' => en = .returned (.tuple #[.int .i64 (cntV rs n), .bool (okM rs n)]) ∧ Below w.heap.size w w' := by
  have Hm := Lib.hid hm
  clear hm
  cases hg : okM rs n with
  | false =>
    rw [show cntV rs n = 0 by rw [cntV, hg]; rfl]
    go_enter Try.func10, Try.ntmps10
    go_wp2_with fail
    refine (siMost_c _ _ _ _ rs hA Hm.out hn _).mono ?_
    rintro e w1 ⟨rfl, b1⟩
    have hA_1 := hA.below b1
    go_wp2
    go_ret2
    exact ⟨rfl, b1⟩
  | true =>
    obtain ⟨g1, g2, g3⟩ := okM_most hg
    obtain ⟨M, rfl⟩ := Int.eq_ofNat_of_zero_le g2
    rw [show cntV rs (M : Int) = ((upF (leftF rs) M).length : Int) by rw [cntV, hg, Int.toNat_natCast]; rfl]
    have G1 := Lib.hid g1
    clear g1
    have Hg := Lib.hid hg
    go_enter Try.func10, Try.ntmps10
    go_wp2_with fail
    refine (siMost_c _ _ _ _ rs hA Hm.out hn _).mono ?_
    rintro e w1 ⟨rfl, b1⟩
    have hA_1 := hA.below b1
    go_wp2_with fail
    refine (siList_c _ _ _ _ rs hA_1 Hm.out G1.out M (by omega)).mono ?_
    rintro e w2 ⟨⟨v2, rfl, o2⟩, b2⟩
    have hA_2 := hA_1.below b2
    have bb2 := b1.trans (b2.mono b1.size)
    obtain ⟨A2, c2, rfl⟩ := o2.shape
    go_wp2
    go_ret2
    exact ⟨rfl, bb2⟩

/-- How many of lo, .., lo + k - 1 have p. -/
def cntF (p : Int → Bool) (lo : Nat) : Nat → Nat
  | 0 => 0
  | k + 1 => cntF p lo k + if p ((lo : Int) + (k : Int)) then 1 else 0
theorem cntF_yes {p : Int → Bool} {lo k : Nat} (h : p ((lo : Int) + (k : Int)) = true) : cntF p lo (k + 1) = cntF p lo k + 1 := by rw [cntF, if_pos h]
theorem cntF_no {p : Int → Bool} {lo k : Nat} (h : p ((lo : Int) + (k : Int)) = false) : cntF p lo (k + 1) = cntF p lo k := by rw [cntF, if_neg (by rw [h]; exact Bool.false_ne_true)]; rfl
theorem cntF_le (p : Int → Bool) (lo k : Nat) : cntF p lo k ≤ k := by
  induction k with
  | zero => exact Nat.le_refl _
  | succ k ih => rw [cntF]; split <;> omega
theorem cntF_up (p : Int → Bool) (k : Nat) : cntF p 1 k = (upF p k).length := by
  induction k with
  | zero => rfl
  | succ k ih =>
    have e : ((1 : Nat) : Int) + (k : Int) = (k : Int) + 1 := by omega
    cases h : p ((k : Int) + 1) with
    | true => rw [cntF_yes (by rw [e]; exact h), upF_yes h, ih, List.length_append]; rfl
    | false => rw [cntF_no (by rw [e]; exact h), upF_no h, ih]

def okB (rs : List (Int × Int)) (lo hi : Int) : Bool := goodL rs && mostB lo && mostB hi
def btwV (rs : List (Int × Int)) (lo hi : Int) : Int := if okB rs lo hi then (cntF (leftF rs) lo.toNat (hi.toNat + 1 - lo.toNat) : Int) else 0
theorem okB_eq (rs : List (Int × Int)) (lo hi : Int) : okB rs lo hi = (okM rs lo && okM rs hi) := by unfold okB okM; cases goodL rs <;> cases mostB lo <;> cases mostB hi <;> rfl
theorem btwV_no {rs : List (Int × Int)} {lo hi : Int} (h : okB rs lo hi = false) : btwV rs lo hi = 0 := by rw [btwV, h]; rfl
theorem btwV_yes {rs : List (Int × Int)} {L M : Nat} (h : okB rs (L : Int) (M : Int) = true) : btwV rs (L : Int) (M : Int) = (cntF (leftF rs) L (M + 1 - L) : Int) := by
  rw [btwV, h, Int.toNat_natCast, Int.toNat_natCast]; rfl
theorem btw_cnt (rs : List (Int × Int)) (n : Int) : btwV rs 1 n = cntV rs n ∧ okB rs 1 n = okM rs n := by
  have h1 : mostB 1 = true := mostB_true.2 (by omega)
  have h2 : okB rs 1 n = okM rs n := by simp [okB, okM, h1]
  refine ⟨?_, h2⟩
  rw [btwV, cntV, h2]
  cases h : okM rs n with
  | false => rfl
  | true => rw [if_pos rfl, if_pos rfl, ← cntF_up]; rfl

set_option maxRecDepth 100000 in
set_option maxHeartbeats 1000000 in
theorem spec_CountBetween_c (w : World) (A : Option Addr) (m c : Nat) (rs : List (Int × Int)) (hA : Rl w A rs) (hm : m = rs.length) (hn : m ≤ 1048576) (lo hi : Int) :
    Calls Try.prog 23 #[.slice A m c, .int .i64 lo, .int .i64 hi] w fun en w' => en = .returned (.tuple #[.int .i64 (btwV rs lo hi), .bool (okB rs lo hi)]) ∧ Below w.heap.size w w' := by
  have Hm := Lib.hid hm
  clear hm
  cases hg : okM rs lo with
  | false =>
    have ho : okB rs lo hi = false := by rw [okB_eq]; simp [*]
    rw [btwV_no ho, ho]
    clear ho
    go_enter Try.func23, Try.ntmps23
    go_wp2_with fail
    refine (siMost_c _ _ _ _ rs hA Hm.out hn _).mono ?_
    rintro e w1 ⟨rfl, b1⟩
    have hA_1 := hA.below b1
    go_wp2
    go_ret2
    exact ⟨rfl, b1⟩
  | true =>
    cases hk : okM rs hi with
    | false =>
      have ho : okB rs lo hi = false := by rw [okB_eq]; simp [*]
      rw [btwV_no ho, ho]
      clear ho
      go_enter Try.func23, Try.ntmps23
      go_wp2_with fail
      refine (siMost_c _ _ _ _ rs hA Hm.out hn _).mono ?_
      rintro e w1 ⟨rfl, b1⟩
      have hA_1 := hA.below b1
      go_wp2_with fail
      refine (siMost_c _ _ _ _ rs hA_1 Hm.out hn _).mono ?_
      rintro e w2 ⟨rfl, b2⟩
      have hA_2 := hA_1.below b2
      have bb2 := b1.trans (b2.mono b1.size)
      go_wp2
      go_ret2
      exact ⟨rfl, bb2⟩
    | true =>
      have ho : okB rs lo hi = true := by rw [okB_eq, hg, hk]; rfl
      obtain ⟨g1, g2, g3⟩ := okM_most hg
      obtain ⟨k1, k2, k3⟩ := okM_most hk
      obtain ⟨L, rfl⟩ := Int.eq_ofNat_of_zero_le g2
      obtain ⟨M, rfl⟩ := Int.eq_ofNat_of_zero_le k2
      rw [btwV_yes ho, ho]
      have G1 := Lib.hid g1
      clear g1 k1 ho
      have Hg := Lib.hid hg
      have Hk := Lib.hid hk
      go_enter Try.func23, Try.ntmps23
      go_wp2_with fail
      refine (siMost_c _ _ _ _ rs hA Hm.out hn _).mono ?_
      rintro e w1 ⟨rfl, b1⟩
      have hA_1 := hA.below b1
      go_wp2_with fail
      refine (siMost_c _ _ _ _ rs hA_1 Hm.out hn _).mono ?_
      rintro e w2 ⟨rfl, b2⟩
      have hA_2 := hA_1.below b2
      have bb2 := b1.trans (b2.mono b1.size)
      go_wp2
      go_loopw [8, 9] (fun t i wr => ∃ k : Nat, k ≤ M + 1 - L ∧ i = .int .i64 ((L : Int) + (k : Int)) ∧ t = .int .i64 (cntF (leftF rs) L k : Int) ∧ Below w.heap.size w wr) (fun _ i _ => L + M + 1 - (intOf i).toNat)
      case atStart => exact ⟨0, Nat.zero_le _, by go_num, rfl, bb2⟩
      case round =>
        obtain ⟨k, hk, rfl, rfl, hbel⟩ := hrel
        have hs := hbel.size
        have hR := hA.below hbel
        have hcl := cntF_le (leftF rs) L k
        by_cases hlt : L + k ≤ M
        · cases hl : leftF rs ((L : Int) + (k : Int)) with
          | true =>
            have Hy := Lib.hid (cntF_yes hl)
            go_wp2_with fail
            refine (siLeft_c _ _ _ rs _ _ hR Hm.out G1.out (by omega) (by omega)).mono ?_
            rintro e w5 ⟨rfl, b5⟩
            go_wp2
            go_roundw
            case rel => exact ⟨k + 1, by omega, by go_num, by rw [Hy.out]; go_num, hbel.trans (b5.mono hs)⟩
            case measure => simp [intOf]; omega
          | false =>
            have Hy := Lib.hid (cntF_no hl)
            go_wp2_with fail
            refine (siLeft_c _ _ _ rs _ _ hR Hm.out G1.out (by omega) (by omega)).mono ?_
            rintro e w5 ⟨rfl, b5⟩
            go_wp2
            go_roundw
            case rel => exact ⟨k + 1, by omega, by go_num, by rw [Hy.out], hbel.trans (b5.mono hs)⟩
            case measure => simp [intOf]; omega
        · have hkM : k = M + 1 - L := by omega
          have Hk2 := Lib.hid hkM
          clear hkM
          go_wp2
          go_ret2
          exact ⟨by rw [← Hk2.out]; rfl, hbel⟩

set_option maxRecDepth 100000 in
set_option maxHeartbeats 1000000 in
theorem impl_CountBetween_c (w : World) (A : Option Addr) (m c : Nat) (rs : List (Int × Int)) (hA : Rl w A rs) (hm : m = rs.length) (hn : m ≤ 1048576) (lo hi : Int) :
    Calls Try.prog 22 #[.slice A m c, .int .i64 lo, .int .i64 hi] w fun en w' => en = .returned (.tuple #[.int .i64 (btwV rs lo hi), .bool (okB rs lo hi)]) ∧ Below w.heap.size w w' := by
  have Hm := Lib.hid hm
  clear hm
  cases hg : goodL rs with
  | false =>
    have ho : okB rs lo hi = false := by simp [okB, *]
    rw [btwV_no ho, ho]
    clear ho
    go_enter Try.func22, Try.ntmps22
    go_wp2_with fail
    refine (implAreRules_c _ _ _ rs _ hA Hm.out hn).mono ?_
    rintro e w1 ⟨rfl, b1⟩
    have hA_1 := hA.below b1
    go_wp2
    go_ret2
    exact ⟨rfl, b1⟩
  | true =>
    cases hl : mostB lo with
    | false =>
      have ho : okB rs lo hi = false := by simp [okB, *]
      rw [btwV_no ho, ho]
      clear ho
      go_enter Try.func22, Try.ntmps22
      go_wp2_with fail
      refine (implAreRules_c _ _ _ rs _ hA Hm.out hn).mono ?_
      rintro e w1 ⟨rfl, b1⟩
      have hA_1 := hA.below b1
      go_wp2_with fail
      refine (isMost_c _ _).mono ?_
      rintro e w2 ⟨rfl, rfl⟩
      go_wp2
      go_ret2
      exact ⟨rfl, b1⟩
    | true =>
      cases hh : mostB hi with
      | false =>
        have ho : okB rs lo hi = false := by simp [okB, *]
        rw [btwV_no ho, ho]
        clear ho
        go_enter Try.func22, Try.ntmps22
        go_wp2_with fail
        refine (implAreRules_c _ _ _ rs _ hA Hm.out hn).mono ?_
        rintro e w1 ⟨rfl, b1⟩
        have hA_1 := hA.below b1
        go_wp2_with fail
        refine (isMost_c _ _).mono ?_
        rintro e w2 ⟨rfl, rfl⟩
        go_wp2_with fail
        refine (isMost_c _ _).mono ?_
        rintro e w3 ⟨rfl, rfl⟩
        go_wp2
        go_ret2
        exact ⟨rfl, b1⟩
      | true =>
        have ho : okB rs lo hi = true := by simp [okB, *]
        obtain ⟨g2, g3⟩ := mostB_true.1 hl
        obtain ⟨k2, k3⟩ := mostB_true.1 hh
        obtain ⟨L, rfl⟩ := Int.eq_ofNat_of_zero_le g2
        obtain ⟨M, rfl⟩ := Int.eq_ofNat_of_zero_le k2
        rw [btwV_yes ho, ho]
        clear ho
        have Hg := Lib.hid hg
        have Hl := Lib.hid hl
        have Hh := Lib.hid hh
        go_enter Try.func22, Try.ntmps22
        go_wp2_with fail
        refine (implAreRules_c _ _ _ rs _ hA Hm.out hn).mono ?_
        rintro e w1 ⟨rfl, b1⟩
        have hA_1 := hA.below b1
        go_wp2_with fail
        refine (isMost_c _ _).mono ?_
        rintro e w2 ⟨rfl, rfl⟩
        go_wp2_with fail
        refine (isMost_c _ _).mono ?_
        rintro e w3 ⟨rfl, rfl⟩
        go_wp2_with fail
        refine (leftNumbers_c _ _ _ _ rs hA_1 Hm.out Hg.out).mono ?_
        rintro e w4 ⟨rfl, b4⟩
        have hA_4 := hA_1.below b4
        have bb4 := b1.trans (b4.mono b1.size)
        go_wp2_with (refine wp_store_arr w4 rs rfl (.tmp 8) (.tmp 25) rfl rfl rfl ?_; intro W2 h2 hs2 bW)
        have hWs : w4.heap.size < W2.heap.size := by omega
        have H2 := Lib.hid h2
        have Hs2 := Lib.hid hs2
        clear h2 hs2
        go_loop [9, 10] (fun t i => ∃ k : Nat, k ≤ M + 1 - L ∧ i = .int .i64 ((L : Int) + (k : Int)) ∧ t = .int .i64 (cntF (leftF rs) L k : Int)) (fun _ i => L + M + 1 - (intOf i).toNat)
        case atStart => exact ⟨0, Nat.zero_le _, by go_num, rfl⟩
        case round =>
          obtain ⟨k, hk, rfl, rfl⟩ := hrel
          have hcl := cntF_le (leftF rs) L k
          by_cases hlt : L + k ≤ M
          · have hcell : W2.cell? ⟨w4.heap.size, L + k, none⟩ = some (.bool (leftF rs ((L : Int) + (k : Int)))) := by
              have h := (cell_of_row W2 w4.heap.size (L + k) _ _ _ H2.out).trans (leftArr_get rs (j := L + k) (by omega))
              simpa using h
            cases hl : leftF rs ((L : Int) + (k : Int)) with
            | true =>
              have Hy := Lib.hid (cntF_yes hl)
              go_wp2
              go_round
              case rel => exact ⟨k + 1, by omega, by go_num, by rw [Hy.out]; go_num⟩
              case measure => simp [intOf]; omega
            | false =>
              have Hy := Lib.hid (cntF_no hl)
              go_wp2
              go_round
              case rel => exact ⟨k + 1, by omega, by go_num, by rw [Hy.out]⟩
              case measure => simp [intOf]; omega
          · have hkM : k = M + 1 - L := by omega
            have Hk2 := Lib.hid hkM
            clear hkM
            go_wp2
            go_ret2
            exact ⟨by rw [← Hk2.out]; rfl, (bb4).trans (bW.mono (bb4).size)⟩

set_option maxRecDepth 100000 in
set_option maxHeartbeats 400000 in
theorem impl_CountLeft_c (w : World) (A : Option Addr) (m c : Nat) (rs : List (Int × Int)) (hA : Rl w A rs) (hm : m = rs.length) (hn : m ≤ 1048576) (n : Int) :
    Calls Try.prog 9 #[.slice A m c, .int .i64 n] w fun en w' => en = .returned (.tuple #[.int .i64 (cntV rs n), .bool (okM rs n)]) ∧ Below w.heap.size w w' := by
  have Hm := Lib.hid hm
  clear hm
  rw [← (btw_cnt rs n).1, ← (btw_cnt rs n).2]
  go_enter Try.func9, Try.ntmps9
  go_wp2_with fail
  refine (impl_CountBetween_c _ _ _ _ rs hA Hm.out hn _ _).mono ?_
  rintro e w1 ⟨rfl, b1⟩
  have hA_1 := hA.below b1
  go_wp2
  go_ret2
  exact ⟨rfl, b1⟩

end Go.Proofs.Ytjoklbkbggdlgaa
