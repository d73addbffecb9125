import Derived.Test.YtmjjpgafecmljaaG6
namespace Go.Proofs.Ytmjjpgafecmljaa
open Go.RowKit
set_option linter.unusedVariables false
set_option linter.unusedSimpArgs false

/-- Primes whose squares are at most m. -/
def crB (m n : Nat) : Bool := primeB n && decide (n * n ≤ m)
def crOk (m : Int) : Bool := inB m 0 600
def crA (m : Int) : List Int := if crOk m then flF (crB m.toNat) 2 (m.toNat + 1 - 2) else []
theorem crA_no {m : Int} (h : crOk m = false) : crA m = [] := by rw [crA, h]; rfl
theorem crA_yes {m : Nat} (h : crOk (m : Int) = true) : crA (m : Int) = flF (crB m) 2 (m + 1 - 2) := by rw [crA, h, Int.toNat_natCast]; rfl
theorem crA_len (m : Int) : (crA m).length ≤ 1048576 := by
  cases h : crOk m with
  | false => rw [crA_no h]; exact Nat.zero_le _
  | true =>
    rw [crA, h, if_pos rfl]
    have := flF_len (crB m.toNat) 2 (m.toNat + 1 - 2)
    have := inB_true.1 h
    omega
def crZ (m : Nat) (x : Int) : Bool := decide (x * x ≤ (m : Int))
theorem cr_filter (m : Nat) : (prB 2 m).filter (crZ m) = flF (crB m) 2 (m + 1 - 2) := flF_filterZ (q := fun n => decide (n * n ≤ m)) fun n _ _ => by
  rw [crZ, ← Int.natCast_mul]
  exact decide_eq_decide.2 (by omega)
theorem cr_end {m k : Nat} (h : m < (2 + k) * (2 + k)) (hk : k ≤ m + 1 - 2) : flF (crB m) 2 (m + 1 - 2) = flF (crB m) 2 k := by
  rw [show m + 1 - 2 = k + (m + 1 - 2 - k) by omega]
  exact flF_cut fun n h1 h2 => by
    have := Nat.mul_le_mul h1 h1
    rw [crB, decide_eq_false (by omega), Bool.and_false]

set_option maxRecDepth 100000 in
set_option maxHeartbeats 800000 in
theorem spec_CrossersUpTo_c (w : World) (m : Int) :
    Calls Try.prog 22 #[.int .i64 m] w fun en w' => (∃ v, en = .returned (.tuple #[v, .bool (crOk m)]) ∧ OwnI w' w.heap.size v (crA m)) ∧ Below w.heap.size w w' := by
  cases hg : inB m 0 600 with
  | false =>
    have ho : crOk m = false := hg
    rw [crA_no ho, ho]
    clear ho
    go_enter Try.func22, Try.ntmps22
    go_wp2_with fail
    refine (l1In_c _ _ _ _).mono ?_
    rintro e w1 ⟨rfl, rfl⟩
    go_wp2
    go_ret2
    exact ⟨⟨_, rfl, OwnI.nil _ _⟩, (Below.refl _ _)⟩
  | true =>
    have ho : crOk m = true := hg
    obtain ⟨n1, n2⟩ := inB_true.1 hg
    obtain ⟨M, rfl⟩ := Int.eq_ofNat_of_zero_le n1
    rw [crA_yes ho, ho]
    clear ho
    obtain ⟨T, hT⟩ : ∃ T, flF (crB M) 2 (M + 1 - 2) = T := ⟨_, rfl⟩
    rw [hT]
    have HT := Lib.hid hT
    clear hT
    have Hg := Lib.hid hg
    go_enter Try.func22, Try.ntmps22
    go_wp2_with fail
    refine (l1In_c _ _ _ _).mono ?_
    rintro e w1 ⟨rfl, rfl⟩
    go_wp2
    go_loopw [4, 5] (fun v i wr => ∃ k : Nat, k ≤ 598 ∧ k ≤ M + 1 - 2 ∧ i = .int .i64 ((k : Int) + 2) ∧ OwnI wr w.heap.size v (flF (crB M) 2 k) ∧ Below w.heap.size w wr) (fun _ i _ => 603 - (intOf i).toNat)
    case atStart => exact ⟨0, Nat.zero_le _, Nat.zero_le _, rfl, World.ownsRow_nil _ _ _ _, Below.refl _ _⟩
    case round =>
      rename_i v
      obtain ⟨k, hk9, hk, rfl, hown, hbel⟩ := hrel
      have Hown := Lib.hid hown
      have Hk := Lib.hid hk
      clear hown hk
      have hs := hbel.size
      have E2 := Lib.hid (show ((k : Int) + 2).toNat = 2 + k by omega)
      have hul := flF_len (crB M) 2 k
      have Hl := Lib.hid (show (flF (crB M) 2 k).length ≤ 1048575 by omega)
      clear hul
      have hsq : (2 + k) * (2 + k) ≤ 600 * 600 := Nat.mul_le_mul (by omega) (by omega)
      have hge : 2 * (2 + k) ≤ (2 + k) * (2 + k) := Nat.mul_le_mul_right _ (by omega)
      have hS : ((k : Int) + 2) * ((k : Int) + 2) = (((2 + k) * (2 + k) : Nat) : Int) := by
        rw [Int.natCast_mul, show ((2 + k : Nat) : Int) = (k : Int) + 2 by omega]
      have hs0 : 0 ≤ ((k : Int) + 2) * ((k : Int) + 2) := by rw [hS]; omega
      have hs9 : ((k : Int) + 2) * ((k : Int) + 2) ≤ 360000 := by rw [hS]; omega
      by_cases hlt : ((k : Int) + 2) * ((k : Int) + 2) ≤ (M : Int)
      · have hlt2 : (2 + k) * (2 + k) ≤ M := by rw [hS] at hlt; omega
        have Hk1 := Lib.hid (show k + 1 ≤ M + 1 - 2 by omega)
        have Hk2 := Lib.hid (show k + 1 ≤ 598 by omega)
        cases hp : primeB (2 + k) with
        | true =>
          have Hy := Lib.hid (flF_yes (p := crB M) (a := 2) (k := k) (by rw [crB, hp, decide_eq_true hlt2]; rfl))
          clear hlt2 hS hsq hge
          go_wp2_with fail
          refine (prIs_c _ _ (by omega)).mono ?_
          rw [E2.out, hp]
          rintro e w1 ⟨rfl, rfl⟩
          go_wp2_with (at_builtin; refine wp_app_int _ rfl _ _ rfl w.heap.size _ _ rfl Hown.out _ rfl (by have := Hl.out; omega) (by omega) ?_; intro v' w2 hown2 b2)
          go_roundw
          case rel => exact ⟨k + 1, Hk2.out, Hk1.out, by simp; omega, by rw [Hy.out, Nat.add_comm 2 k]; exact hown2, hbel.trans b2⟩
          case measure => simp [intOf]; omega
        | false =>
          have Hy := Lib.hid (flF_no (p := crB M) (a := 2) (k := k) (by rw [crB, hp]; rfl))
          clear hlt2 hS hsq hge
          go_wp2_with fail
          refine (prIs_c _ _ (by omega)).mono ?_
          rw [E2.out, hp]
          rintro e w1 ⟨rfl, rfl⟩
          go_wp2
          go_roundw
          case rel => exact ⟨k + 1, Hk2.out, Hk1.out, by simp; omega, by rw [Hy.out]; exact Hown.out, hbel⟩
          case measure => simp [intOf]; omega
      · have Ht := Lib.hid (HT.out.symm.trans (cr_end (by rw [hS] at hlt; omega) Hk.out))
        clear hS hsq hge
        go_wp2
        go_ret2
        exact ⟨⟨_, rfl, by rw [Ht.out]; exact Hown.out⟩, hbel⟩

set_option maxRecDepth 100000 in
set_option maxHeartbeats 800000 in
theorem impl_CrossersUpTo_c (w : World) (m : Int) :
    Calls Try.prog 21 #[.int .i64 m] w fun en w' => (∃ v, en = .returned (.tuple #[v, .bool (crOk m)]) ∧ OwnI w' w.heap.size v (crA m)) ∧ Below w.heap.size w w' := by
  cases hg : inB m 0 600 with
  | false =>
    have ho : crOk m = false := hg
    rw [crA_no ho, ho]
    clear ho
    go_enter Try.func21, Try.ntmps21
    go_wp2_with fail
    refine (isMostI_c _ _).mono ?_
    rintro e w1 ⟨rfl, rfl⟩
    go_wp2
    go_ret2
    exact ⟨⟨_, rfl, OwnI.nil _ _⟩, (Below.refl _ _)⟩
  | true =>
    have ho : crOk m = true := hg
    obtain ⟨n1, n2⟩ := inB_true.1 hg
    obtain ⟨M, rfl⟩ := Int.eq_ofNat_of_zero_le n1
    rw [crA_yes ho, ho, ← cr_filter]
    clear ho
    have hPl := prB_len 2 M
    obtain ⟨xs, hxs⟩ : ∃ xs, prB 2 M = xs := ⟨_, rfl⟩
    have hat := prB_at 2 M
    rw [hxs] at hat hPl ⊢
    have Hat := Lib.hid hat
    have Hxs := Lib.hid hxs
    clear hat hxs
    have Hg := Lib.hid hg
    go_enter Try.func21, Try.ntmps21
    go_wp2_with fail
    refine (isMostI_c _ _).mono ?_
    rintro e w1 ⟨rfl, rfl⟩
    go_wp2_with fail
    refine (primesBetween_i _ 2 _ (by omega) (by omega) n1 (by omega) (by omega)).mono ?_
    rintro e w2 ⟨⟨v2, rfl, o2⟩, b2⟩
    have o3 : OwnI w2 w.heap.size v2 (prB 2 M) := o2
    rw [Hxs.out] at o3
    clear o2
    have hs2 := b2.size
    obtain ⟨A, c, rfl⟩ := o3.shape
    go_wp2_with fail
    go_loopw [4, 13] (fun v i wr => ∃ k : Nat, k ≤ xs.length ∧ i = .int .i64 (k : Int) ∧ OwnI wr w2.heap.size v ((xs.take k).filter (crZ M)) ∧ Below w2.heap.size w2 wr) (fun _ i _ => xs.length - (intOf i).toNat)
    case atStart => exact ⟨0, Nat.zero_le _, rfl, World.ownsRow_nil _ _ _ _, Below.refl _ _⟩
    case round =>
      rename_i v
      obtain ⟨k, hk, rfl, hown, hbel⟩ := hrel
      have Hown := Lib.hid hown
      clear hown
      have hs := hbel.size
      have hul := filter_take_len xs (crZ M) k
      have Hl := Lib.hid (show ((xs.take k).filter (crZ M)).length ≤ 1048575 by omega)
      clear hul
      by_cases hlt : k < xs.length
      · obtain ⟨g, rfl, _, hg2, hc⟩ := o3.cell hlt
        obtain ⟨n, hn, n3, n4, _⟩ := Hat.out k hlt
        have hc0 := (hbel.cell (p := ⟨g, k, none⟩) hg2).trans hc
        rw [show xs.getD k 0 = (n : Int) from hn] at hc0
        clear hc
        have hn6 : n ≤ 600 := by omega
        have hs1 : (n : Int) * (n : Int) ≤ 360000 := by
          have := Nat.mul_le_mul hn6 hn6
          have h3 : ((n * n : Nat) : Int) ≤ 360000 := by omega
          rwa [Int.natCast_mul] at h3
        have hs0 : 0 ≤ (n : Int) * (n : Int) := Int.mul_nonneg (by omega) (by omega)
        by_cases hq : (n : Int) * (n : Int) ≤ (M : Int)
        · have Hy := Lib.hid (filter_take_yes hlt (z := crZ M) (by rw [hn, crZ]; exact decide_eq_true hq))
          rw [hn] at Hy
          clear hn
          go_wp2_with (at_builtin; refine wp_app_int _ rfl _ _ rfl w2.heap.size _ _ rfl Hown.out _ rfl (by have := Hl.out; omega) hs ?_; intro v' w4 hown4 b4)
          go_roundw
          case rel => exact ⟨k + 1, by omega, by go_num, by rw [Hy.out]; exact hown4, hbel.trans b4⟩
          case measure => simp [intOf]; omega
        · have Hy := Lib.hid (filter_take_no hlt (z := crZ M) (by rw [hn, crZ]; exact decide_eq_false hq))
          clear hn
          go_wp2
          go_roundw
          case rel => exact ⟨k + 1, by omega, by go_num, by rw [Hy.out]; exact Hown.out, hbel⟩
          case measure => simp [intOf]; omega
      · have Hk := Lib.hid (filter_take_all (z := crZ M) hlt)
        go_wp2
        go_ret2
        exact ⟨⟨_, rfl, by rw [← Hk.out]; exact OwnI.mono Hown.out hs2⟩, b2.trans (hbel.mono hs2)⟩

end Go.Proofs.Ytmjjpgafecmljaa
