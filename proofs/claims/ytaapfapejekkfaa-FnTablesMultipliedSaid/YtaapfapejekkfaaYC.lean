import Derived.Test.YtaapfapejekkfaaYB
import Derived.Test.YtaapfapejekkfaaY6
namespace Go.Proofs.Ytaapfapejekkfaa
open Go.RowKit
set_option linter.unusedVariables false
set_option linter.unusedSimpArgs false

theorem tb0_small (M : Nat) : smallL (tbL 0 M) := fun k => by
  by_cases hk : k < M
  · have : ivL (tbL 0 M) k = 1 := by simp [ivL, tbL, hk, tbF]
    omega
  · have : ivL (tbL 0 M) k = 0 := by simp [ivL, tbL, hk]
    omega
def soL (xs : List Int) : List Int := ovL xs (tbL 0 xs.length) xs.length
def soO (xs : List Int) : Bool := tabB xs && tabB (soL xs)
def soR (xs : List Int) : List Int := if soO xs then soL xs else []
theorem soR_no {xs : List Int} (h : soO xs = false) : soR xs = [] := by rw [soR, h]; rfl
theorem soR_yes {xs : List Int} (h : soO xs = true) : soR xs = soL xs := by rw [soR, h]; rfl
theorem soR_len (xs : List Int) : (soR xs).length ≤ 1048576 := by
  cases h : soO xs with
  | false => rw [soR_no h]; exact Nat.zero_le _
  | true =>
    rw [soR_yes h, soL, ovL_len]
    simp only [soO, Bool.and_eq_true] at h
    have := (tabB_small h.1).2.2
    omega
set_option maxRecDepth 100000 in
set_option maxHeartbeats 800000 in
theorem spec_SumOverDivisors_c (w : World) (A : Option Addr) (m c : Nat) (xs : List Int) (hA : Il w A xs) (hm : m = xs.length) (hn : m ≤ 1048576) :
    Calls Try.prog 122 #[.slice A m c] w fun en w' => (∃ v, en = .returned (.tuple #[v, .bool (soO xs)]) ∧ OwnI w' w.heap.size v (soR xs)) ∧ Below w.heap.size w w' := by
  have Hm := Lib.hid hm
  clear hm
  cases hg : tabB xs with
  | false =>
    have ho : soO xs = false := by rw [soO, hg]; rfl
    rw [soR_no ho, ho]
    clear ho
    go_enter Try.func122, Try.ntmps122
    go_wp2_with fail
    refine (dvIs_c _ _ _ _ xs hA Hm.out hn).mono ?_
    rintro e w1 ⟨rfl, rfl⟩
    go_wp2
    go_ret2
    exact ⟨⟨_, rfl, OwnI.nil _ _⟩, (Below.refl _ _)⟩
  | true =>
    obtain ⟨x1, x2, x3⟩ := tabB_small hg
    have hO : soO xs = tabB (ovL xs (tbL 0 m) m) := by rw [soO, hg, Bool.true_and, soL, Hm.out]
    have hR : soO xs = true → soR xs = ovL xs (tbL 0 m) m := fun h => by rw [soR_yes h, soL, Hm.out]
    have Hx := Lib.hid x1
    have Hm9 : m ≤ 200 := by have := Hm.out; omega
    have HO := Lib.hid hO
    have HR := Lib.hid hR
    have HN := Lib.hid (fun h => soR_no (xs := xs) h)
    have Hy := Lib.hid (tb0_small m)
    have htl := tbL_len 0 m
    clear x1 x2 x3 hO hR
    obtain ⟨K, hK⟩ : ∃ K, tbL 0 m = K := ⟨_, rfl⟩
    have HK := Lib.hid hK
    rw [hK] at HO HR Hy htl
    obtain ⟨L, hL⟩ : ∃ L, ovL xs K m = L := ⟨_, rfl⟩
    have hLl := ovL_len xs K m
    have HL := Lib.hid hL
    rw [hL] at HO HR hLl
    have Htl := Lib.hid htl
    clear hL hK htl
    have Hg := Lib.hid hg
    go_enter Try.func122, Try.ntmps122
    go_wp2_with fail
    refine (dvIs_c _ _ _ _ xs hA Hm.out hn).mono ?_
    rintro e w1 ⟨rfl, rfl⟩
    go_wp2_with fail
    refine (dvTable0_c _ m (by omega)).mono ?_
    rw [HK.out]
    rintro e w4 ⟨⟨v4, rfl, o4⟩, b4⟩
    obtain ⟨A4, c4, rfl⟩ := o4.shape
    have I4 := Lib.hid (Il_of_own o4)
    rw [Htl.out]
    have hA4 := hA.below b4
    clear o4
    go_wp2_with fail
    refine (dvOver_c _ _ _ _ xs hA4 Hm.out _ _ K I4.out Htl.out.symm Hm9 Hx.out Hy.out).mono ?_
    rw [HL.out]
    rintro e w5 ⟨⟨v5, rfl, o5⟩, b5⟩
    have b45 := b4.trans (b5.mono b4.size)
    have o5 := OwnI.mono o5 b4.size
    obtain ⟨A5, c5, rfl⟩ := o5.shape
    have I5 := Lib.hid (Il_of_own o5)
    have O5 := Lib.hid o5
    rw [hLl] at O5
    clear o5
    cases ht : tabB L with
    | false =>
      have Ht := Lib.hid (ht ▸ dvIs_c w5 A5 _ c5 L I5.out rfl (by omega))
      have Ho := Lib.hid (HO.out.trans ht)
      rw [hLl] at Ht
      clear ht
      go_wp2_with fail
      refine Ht.out.mono ?_
      rintro e w6 ⟨rfl, rfl⟩
      go_wp2
      go_ret2
      exact ⟨⟨_, by rw [Ho.out]; rfl, by rw [HN.out Ho.out]; exact OwnI.nil _ _⟩, b45⟩
    | true =>
      have Ht := Lib.hid (ht ▸ dvIs_c w5 A5 _ c5 L I5.out rfl (by omega))
      have Ho := Lib.hid (HO.out.trans ht)
      rw [hLl] at Ht
      clear ht
      go_wp2_with fail
      refine Ht.out.mono ?_
      rintro e w6 ⟨rfl, rfl⟩
      go_wp2
      go_ret2
      exact ⟨⟨_, by rw [Ho.out]; rfl, by rw [HR.out Ho.out]; exact O5.out⟩, b45⟩

end Go.Proofs.Ytaapfapejekkfaa
