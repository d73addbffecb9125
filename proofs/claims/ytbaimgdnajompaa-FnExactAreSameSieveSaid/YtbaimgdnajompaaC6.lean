import Derived.Test.YtbaimgdnajompaaC5
import Derived.Test.YtbaimgdnajompaaC3
namespace Go.Proofs.Ytbaimgdnajompaa
open Go.RowKit
set_option linter.unusedVariables false
set_option linter.unusedSimpArgs false

theorem good_both {xs ys : List (Int × Int)} (hx : goodL xs = true) (hy : goodL ys = true) : ∀ k, k < (xs ++ ys).length → 2 ≤ evL (xs ++ ys) k ∧ evL (xs ++ ys) k ≤ 60 := by
  intro k hk
  have hm : (xs ++ ys)[k] ∈ xs ++ ys := List.getElem_mem hk
  rw [evL_ext hk] at hm
  rcases List.mem_append.1 hm with h | h
  · have := good_mem hx _ h; exact ⟨this.1, this.2.1⟩
  · have := good_mem hy _ h; exact ⟨this.1, this.2.1⟩

set_option maxRecDepth 100000 in
set_option maxHeartbeats 1000000 in
theorem siPeriodE_c (w : World) (A : Option Addr) (m c : Nat) (rs : List (Int × Int)) (hA : Rl w A rs) (hm : m = rs.length) (hg : ∀ k, k < rs.length → 2 ≤ evL rs k ∧ evL rs k ≤ 60) (h24 : m ≤ 24) :
    Calls Try.prog 77 #[.slice A m c] w fun en w' => en = .returned (.int .i64 (perF rs)) ∧ Below w.heap.size w w' := by
  have Hm := Lib.hid hm
  have Hg := Lib.hid hg
  clear hm hg
  go_enter Try.func77, Try.ntmps77
  go_wp2
  go_loopw [3, 8] (fun t i wr => ∃ (k : Nat) (p : Int), k ≤ m ∧ i = .int .i64 k ∧ t = .int .i64 p ∧ 1 ≤ p ∧ p ≤ 100000 ∧ perGo (rs.drop k) p = perF rs ∧ Below w.heap.size w wr) (fun _ i _ => m - (intOf i).toNat)
  case atStart => exact ⟨0, 1, Nat.zero_le _, rfl, rfl, by omega, by omega, rfl, Below.refl _ _⟩
  case round =>
    obtain ⟨k, p, hk, rfl, rfl, p1, p2, hper, hbel⟩ := hrel
    have Hper := Lib.hid hper
    clear hper
    by_cases hlt : k < m
    · have hlt1 : k < rs.length := by have := Hm.out; omega
      obtain ⟨b, off, rfl, hb, hr⟩ := hA (by omega)
      have hc0 := (hbel.cell (p := ⟨b, off + k * 2, none⟩) hb).trans (hr k hlt1).1
      have hc1 := (hbel.cell (p := ⟨b, off + k * 2 + 1, none⟩) hb).trans (hr k hlt1).2
      obtain ⟨e1, e2⟩ := Hg.out k hlt1
      have hs := hbel.size
      have g1 := gcdF_pos p (evL rs k) p1
      have g2 := gcdF_le p (evL rs k) p1
      obtain ⟨q1, q2⟩ := lcm_parts p (evL rs k) p1 (by omega)
      have m1 : 1 ≤ p / gcdF p (evL rs k) * evL rs k := lcmF_pos p (evL rs k) p1 (by omega)
      have m2 : p / gcdF p (evL rs k) * evL rs k ≤ 10000000000 := lcmF_le p (evL rs k) 100000 100000 p1 (by omega) p2 (by omega)
      have g0 : (gcdF p (evL rs k) == 0) = false := by simp; omega
      by_cases hbig : 100000 < p / gcdF p (evL rs k) * evL rs k
      · have Hs2 := Lib.hid ((perGo_drop hlt1 p).trans (if_pos (show 100000 < lcmF p (evL rs k) from hbig)))
        go_wp2_with fail
        go_quiet ((go_at_call 88; exact qcallD (siCommon_c _ _ _ (by omega) (by omega) (by omega) (by omega))))
        go_wp2
        go_ret
        refine ⟨?_, below_drewN (hbel.alloc hs _) _⟩
        have h := Hs2.out
        rw [Hper.out] at h
        rw [h]; rfl
      · have Hs2 := Lib.hid ((perGo_drop hlt1 p).trans (if_neg (show ¬ 100000 < lcmF p (evL rs k) from hbig)))
        go_wp2_with fail
        go_quiet ((go_at_call 88; exact qcallD (siCommon_c _ _ _ (by omega) (by omega) (by omega) (by omega))))
        go_wp2
        go_roundw
        case rel =>
          have h := Hs2.out
          rw [Hper.out] at h
          exact ⟨k + 1, lcmF p (evL rs k), by omega, by go_num, rfl, m1, by show p / gcdF p (evL rs k) * evL rs k ≤ 100000; omega, h.symm, below_drewN (hbel.alloc hs _) _⟩
        case measure => simp [intOf]; omega
    · go_wp2
      go_ret
      have hkm : k = rs.length := by have := Hm.out; omega
      have h := Hper.out
      rw [hkm, perGo_end] at h
      exact ⟨by rw [← h]; rfl, hbel⟩

/-- Are two lists of rules the same sieve? -/
def sameK (xs ys : List (Int × Int)) : Bool := goodL xs && goodL ys && !(perF (xs ++ ys) == 0)
def sameV (xs ys : List (Int × Int)) : Bool := sameK xs ys && sameF (leftF xs) (leftF ys) (perF (xs ++ ys)).toNat
theorem sameV_no {xs ys : List (Int × Int)} (h : sameK xs ys = false) : sameV xs ys = false := by rw [sameV, h]; rfl
theorem sameV_yes {xs ys : List (Int × Int)} (h : sameK xs ys = true) : sameV xs ys = sameF (leftF xs) (leftF ys) (perF (xs ++ ys)).toNat := by rw [sameV, h]; rfl
theorem sameF_false {p q : Int → Bool} {k j : Nat} (hj : j < k) (h : p (j : Int) ≠ q (j : Int)) : sameF p q k = false := decide_eq_false fun hall => h (hall j hj)
theorem sameF_true {p q : Int → Bool} {k : Nat} (h : ∀ j : Nat, j < k → p (j : Int) = q (j : Int)) : sameF p q k = true := decide_eq_true h

set_option maxRecDepth 100000 in
set_option maxHeartbeats 1600000 in
theorem spec_AreSame_no (w : World) (A : Option Addr) (m c : Nat) (xs : List (Int × Int)) (hA : Rl w A xs) (hm : m = xs.length) (hn : m ≤ 1048576) (B : Option Addr) (m2 c2 : Nat) (ys : List (Int × Int)) (hB : Rl w B ys) (hm2 : m2 = ys.length) (hn2 : m2 ≤ 1048576) (hz : perF (xs ++ ys) = 0) :
    Calls Try.prog 61 #[.slice A m c, .slice B m2 c2] w fun en w' => en = .returned (.tuple #[.bool (sameV xs ys), .bool (sameK xs ys)]) ∧ Below w.heap.size w w' := by
  have Hm := Lib.hid hm
  have Hm2 := Lib.hid hm2
  have ho : sameK xs ys = false := by simp [sameK, hz]
  rw [sameV_no ho, ho]
  have Hz := Lib.hid hz
  clear hm hm2 hz ho
  cases hg : goodL xs with
  | false =>
    skip
    go_enter Try.func61, Try.ntmps61
    go_wp2_with fail
    refine (good_c _ _ _ xs _ hA Hm.out hn).mono ?_
    rintro e w1 ⟨rfl, b1⟩
    have hA_1 := hA.below b1
    have hB_1 := hB.below b1
    go_wp2
    go_ret2
    exact ⟨rfl, b1⟩
  | true =>
    cases hg2 : goodL ys with
    | false =>
      skip
      go_enter Try.func61, Try.ntmps61
      go_wp2_with fail
      refine (good_c _ _ _ xs _ hA Hm.out hn).mono ?_
      rintro e w1 ⟨rfl, b1⟩
      have hA_1 := hA.below b1
      have hB_1 := hB.below b1
      go_wp2_with fail
      refine (good_c _ _ _ ys _ hB_1 Hm2.out hn2).mono ?_
      rintro e w2 ⟨rfl, b2⟩
      have hA_2 := hA_1.below b2
      have hB_2 := hB_1.below b2
      have bb2 := b1.trans (b2.mono b1.size)
      go_wp2
      go_ret2
      exact ⟨rfl, bb2⟩
    | true =>
      have h12 : m ≤ 12 := by rw [Hm.out]; exact good_len hg
      have h13 : m2 ≤ 12 := by rw [Hm2.out]; exact good_len hg2
      have Hg := Lib.hid hg
      have Hg2 := Lib.hid hg2
      go_enter Try.func61, Try.ntmps61
      go_wp2_with fail
      refine (good_c _ _ _ xs _ hA Hm.out hn).mono ?_
      rintro e w1 ⟨rfl, b1⟩
      have hA_1 := hA.below b1
      have hB_1 := hB.below b1
      go_wp2_with fail
      refine (good_c _ _ _ ys _ hB_1 Hm2.out hn2).mono ?_
      rintro e w2 ⟨rfl, b2⟩
      have hA_2 := hA_1.below b2
      have hB_2 := hB_1.below b2
      have bb2 := b1.trans (b2.mono b1.size)
      have hA0 := Rl.below hA_2 ((Below.refl _ _).alloc (Nat.le_refl _) (.cells #[] 25))
      go_wp2_with (at_builtin; first | (refine wp_app_rules _ rfl _ _ rfl w.heap.size _ [] rfl (OwnR.mono (own_empty0 _) (bb2).size) _ _ _ xs rfl hA0 Hm.out (by have := Hm.out; simp; omega) (by have := (bb2).size; simp; omega) ?_; intro v5 w5 o5 b5; rw [List.nil_append] at o5; have hb5 := ((bb2).alloc (bb2).size _).trans b5; have hB5 := Rl.below hB hb5) | (refine wp_app_rules w5 rfl _ _ rfl w.heap.size v5 xs rfl o5 _ _ _ ys rfl hB5 Hm2.out (by have := Hm.out; have := Hm2.out; omega) hb5.size ?_; intro v6 w6 o6 b6; obtain ⟨A6, n6, c6, rfl, e6, l6⟩ := o6.form; have hb6 := hb5.trans b6; have O6 := Lib.hid o6; have E6 := Lib.hid e6; clear o6 e6))
      have h24 : n6 ≤ 24 := by have := E6.out; rw [List.length_append] at this; have := Hm.out; have := Hm2.out; omega
      have hR6 := Rl_of_own O6.out E6.out
      refine (siPeriodE_c _ _ _ _ (xs ++ ys) hR6 E6.out (good_both Hg.out Hg2.out) h24).mono ?_
      rintro e w7 ⟨rfl, b7⟩
      rw [Hz.out]
      go_wp2
      go_ret2
      exact ⟨rfl, hb6.trans (b7.mono hb6.size)⟩

set_option maxRecDepth 100000 in
set_option maxHeartbeats 1600000 in
theorem spec_AreSame_yes (w : World) (A : Option Addr) (m c : Nat) (xs : List (Int × Int)) (hA : Rl w A xs) (hm : m = xs.length) (hn : m ≤ 1048576) (B : Option Addr) (m2 c2 : Nat) (ys : List (Int × Int)) (hB : Rl w B ys) (hm2 : m2 = ys.length) (hn2 : m2 ≤ 1048576) (hz : ¬ perF (xs ++ ys) = 0) :
    Calls Try.prog 61 #[.slice A m c, .slice B m2 c2] w fun en w' => en = .returned (.tuple #[.bool (sameV xs ys), .bool (sameK xs ys)]) ∧ Below w.heap.size w w' := by
  have Hm := Lib.hid hm
  have Hm2 := Lib.hid hm2
  clear hm hm2
  cases hg : goodL xs with
  | false =>
    have ho : sameK xs ys = false := by simp [sameK, *]
    rw [sameV_no ho, ho]
    clear ho hz
    go_enter Try.func61, Try.ntmps61
    go_wp2_with fail
    refine (good_c _ _ _ xs _ hA Hm.out hn).mono ?_
    rintro e w1 ⟨rfl, b1⟩
    have hA_1 := hA.below b1
    have hB_1 := hB.below b1
    go_wp2
    go_ret2
    exact ⟨rfl, b1⟩
  | true =>
    cases hg2 : goodL ys with
    | false =>
      have ho : sameK xs ys = false := by simp [sameK, *]
      rw [sameV_no ho, ho]
      clear ho hz
      go_enter Try.func61, Try.ntmps61
      go_wp2_with fail
      refine (good_c _ _ _ xs _ hA Hm.out hn).mono ?_
      rintro e w1 ⟨rfl, b1⟩
      have hA_1 := hA.below b1
      have hB_1 := hB.below b1
      go_wp2_with fail
      refine (good_c _ _ _ ys _ hB_1 Hm2.out hn2).mono ?_
      rintro e w2 ⟨rfl, b2⟩
      have hA_2 := hA_1.below b2
      have hB_2 := hB_1.below b2
      have bb2 := b1.trans (b2.mono b1.size)
      go_wp2
      go_ret2
      exact ⟨rfl, bb2⟩
    | true =>
      have h12 : m ≤ 12 := by rw [Hm.out]; exact good_len hg
      have h13 : m2 ≤ 12 := by rw [Hm2.out]; exact good_len hg2
      have ho : sameK xs ys = true := by simp [sameK, *]
      rw [sameV_yes ho, ho]
      have hp := perGo_le (xs ++ ys) 1 (by omega) (by omega) (fun r hr => by rcases List.mem_append.1 hr with h | h; exact good_one hg r h; exact good_one hg2 r h)
      obtain ⟨P, hP⟩ : ∃ P : Nat, perF (xs ++ ys) = (P : Int) := ⟨(perF (xs ++ ys)).toNat, by have : 0 ≤ perF (xs ++ ys) := hp.1; omega⟩
      have hP5 : P ≤ 100000 := by have : perF (xs ++ ys) ≤ 100000 := hp.2; omega
      have hP0 : ((P : Int) == 0) = false := by simp; omega
      rw [hP, Int.toNat_natCast]
      have HP := Lib.hid hP
      clear ho hz hp hP
      have Hg := Lib.hid hg
      have Hg2 := Lib.hid hg2
      go_enter Try.func61, Try.ntmps61
      go_wp2_with fail
      refine (good_c _ _ _ xs _ hA Hm.out hn).mono ?_
      rintro e w1 ⟨rfl, b1⟩
      have hA_1 := hA.below b1
      have hB_1 := hB.below b1
      go_wp2_with fail
      refine (good_c _ _ _ ys _ hB_1 Hm2.out hn2).mono ?_
      rintro e w2 ⟨rfl, b2⟩
      have hA_2 := hA_1.below b2
      have hB_2 := hB_1.below b2
      have bb2 := b1.trans (b2.mono b1.size)
      have hA0 := Rl.below hA_2 ((Below.refl _ _).alloc (Nat.le_refl _) (.cells #[] 25))
      go_wp2_with (at_builtin; first | (refine wp_app_rules _ rfl _ _ rfl w.heap.size _ [] rfl (OwnR.mono (own_empty0 _) (bb2).size) _ _ _ xs rfl hA0 Hm.out (by have := Hm.out; simp; omega) (by have := (bb2).size; simp; omega) ?_; intro v5 w5 o5 b5; rw [List.nil_append] at o5; have hb5 := ((bb2).alloc (bb2).size _).trans b5; have hB5 := Rl.below hB hb5) | (refine wp_app_rules w5 rfl _ _ rfl w.heap.size v5 xs rfl o5 _ _ _ ys rfl hB5 Hm2.out (by have := Hm.out; have := Hm2.out; omega) hb5.size ?_; intro v6 w6 o6 b6; obtain ⟨A6, n6, c6, rfl, e6, l6⟩ := o6.form; have hb6 := hb5.trans b6; have O6 := Lib.hid o6; have E6 := Lib.hid e6; clear o6 e6))
      have h24 : n6 ≤ 24 := by have := E6.out; rw [List.length_append] at this; have := Hm.out; have := Hm2.out; omega
      have hR6 := Rl_of_own O6.out E6.out
      refine (siPeriodE_c _ _ _ _ (xs ++ ys) hR6 E6.out (good_both Hg.out Hg2.out) h24).mono ?_
      rintro e w7 ⟨rfl, b7⟩
      rw [HP.out]
      have hb7 := hb6.trans (b7.mono hb6.size)
      have hR7 := Rl.below hR6 b7
      go_wp2
      go_loopw [7] (fun i wr => ∃ k : Nat, k ≤ P ∧ i = .int .i64 (k : Int) ∧ (∀ j : Nat, j < k → leftF xs (j : Int) = leftF ys (j : Int)) ∧ Rl wr A6 (xs ++ ys) ∧ Below w.heap.size w wr) (fun i _ => P - (intOf i).toNat)
      case atStart => exact ⟨0, Nat.zero_le _, rfl, fun j hj => absurd hj (by omega), hR7, hb7⟩
      case round =>
        obtain ⟨k, hk, rfl, hall, hR, hbel⟩ := hrel
        have Hall := Lib.hid hall
        clear hall
        have hs := hbel.size
        have hA1 := Rl.below hA hbel
        have hB1 := Rl.below hB hbel
        by_cases hlt : (k : Int) < (P : Int)
        · have hltN : k < P := by omega
          by_cases he : leftF xs (k : Int) = leftF ys (k : Int)
          · have Hall2 := Lib.hid (show ∀ j : Nat, j < k + 1 → leftF xs (j : Int) = leftF ys (j : Int) from fun j hj => by rcases Nat.lt_succ_iff_lt_or_eq.1 hj with h | rfl; exact Hall.out j h; exact he)
            have He := Lib.hid he
            have hself : (leftF ys (k : Int) != leftF ys (k : Int)) = false := by simp
            clear he
            go_wp2_with fail
            refine (siPeriodE_c _ _ _ _ (xs ++ ys) hR E6.out (good_both Hg.out Hg2.out) h24).mono ?_
            rintro e w8 ⟨rfl, b8⟩
            rw [HP.out]
            have hb8 := hbel.trans (b8.mono hs)
            go_wp2_with fail
            refine (siLeft_c _ _ _ xs _ _ (Rl.below hA hb8) Hm.out Hg.out (by omega) (by omega)).mono ?_
            rintro e w9 ⟨rfl, b9⟩
            have hb9 := hb8.trans (b9.mono hb8.size)
            go_wp2_with fail
            refine (siLeft_c _ _ _ ys _ _ (Rl.below hB hb9) Hm2.out Hg2.out (by omega) (by omega)).mono ?_
            rintro e w10 ⟨rfl, b10⟩
            have hb10 := hb9.trans (b10.mono hb9.size)
            have hR10 := Rl.below (Rl.below (Rl.below hR b8) b9) b10
            rw [He.out]
            go_wp2
            go_roundw
            case rel => exact ⟨k + 1, by omega, by go_num, Hall2.out, hR10, hb10⟩
            case measure => simp [intOf]; omega
          · have hf : sameF (leftF xs) (leftF ys) P = false := sameF_false hltN he
            have hne : (!(leftF xs (k : Int) == leftF ys (k : Int))) = true := by simpa using he
            have Hf := Lib.hid hf
            clear hf
            go_wp2_with fail
            refine (siPeriodE_c _ _ _ _ (xs ++ ys) hR E6.out (good_both Hg.out Hg2.out) h24).mono ?_
            rintro e w8 ⟨rfl, b8⟩
            rw [HP.out]
            have hb8 := hbel.trans (b8.mono hs)
            go_wp2_with fail
            refine (siLeft_c _ _ _ xs _ _ (Rl.below hA hb8) Hm.out Hg.out (by omega) (by omega)).mono ?_
            rintro e w9 ⟨rfl, b9⟩
            have hb9 := hb8.trans (b9.mono hb8.size)
            go_wp2_with fail
            refine (siLeft_c _ _ _ ys _ _ (Rl.below hB hb9) Hm2.out Hg2.out (by omega) (by omega)).mono ?_
            rintro e w10 ⟨rfl, b10⟩
            have hb10 := hb9.trans (b10.mono hb9.size)
            go_wp2
            go_ret2
            exact ⟨by rw [Hf.out]; rfl, hb10⟩
        · go_wp2_with fail
          refine (siPeriodE_c _ _ _ _ (xs ++ ys) hR E6.out (good_both Hg.out Hg2.out) h24).mono ?_
          rintro e w8 ⟨rfl, b8⟩
          rw [HP.out]
          have hb8 := hbel.trans (b8.mono hs)
          go_wp2
          go_ret2
          have hkP : k = P := by omega
          subst hkP
          exact ⟨by rw [sameF_true Hall.out]; rfl, hb8⟩

end Go.Proofs.Ytbaimgdnajompaa
