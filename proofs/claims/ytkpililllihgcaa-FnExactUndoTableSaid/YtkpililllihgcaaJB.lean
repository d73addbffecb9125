import Derived.Test.YtkpililllihgcaaJA
import Derived.Test.YtkpililllihgcaaJ7
namespace Go.Proofs.Ytkpililllihgcaa
open Go.RowKit
set_option linter.unusedVariables false
set_option linter.unusedSimpArgs false

theorem smallL_tab {xs : List Int} (h : smallL xs) (h1 : 1 ≤ xs.length) (h9 : xs.length ≤ 200) : tabB xs = true := by
  rw [tabB, inB_true.2 ⟨by omega, by omega⟩, Bool.true_and]
  exact allB_true fun k _ => inB_true.2 (h k)
theorem ones_tab {M : Nat} (h1 : 1 ≤ M) (h9 : M ≤ 200) : tabB (tbL 0 M) = true := smallL_tab (tb0_small M) (by rw [tbL_len]; exact h1) (by rw [tbL_len]; exact h9)
set_option maxRecDepth 100000 in
set_option maxHeartbeats 400000 in
theorem impl_SumOverDivisors_c (w : World) (A : Option Addr) (m c : Nat) (xs : List Int) (hA : Il w A xs) (hm : m = xs.length) (hn : m ≤ 1048576) :
    Calls Try.prog 40 #[.slice A m c] w fun en w' => (∃ v, en = .returned (.tuple #[v, .bool (soO xs)]) ∧ OwnI w' w.heap.size v (soR xs)) ∧ Below w.heap.size w w' := by
  have Ht := Lib.hid (fun W => impl_TableOf_c W 0 (m : Int))
  by_cases hM : 1 ≤ m ∧ m ≤ 200
  · have ho : tbOk ((0 : Nat) : Int) (m : Int) = true := by rw [tbOk, show inB ((0 : Nat) : Int) 0 6 = true from rfl]; exact inB_true.2 ⟨by omega, by omega⟩
    have ha : tbA 0 (m : Int) = tbL 0 m := tbA_yes ho
    rw [show tbOk 0 (m : Int) = true from ho, ha] at Ht
    have Hov := Lib.hid (fun W hW A2 c2 hA2 => impl_OverDivisors_c W A m c xs hW hm hn A2 m c2 (tbL 0 m) hA2 (tbL_len 0 m).symm hn)
    have hoO : ovO xs (tbL 0 m) = soO xs := by
      rw [ovO, ovP, soO, soL, ones_tab hM.1 hM.2, ← hm, decide_eq_true (show m = (tbL 0 m).length from (tbL_len 0 m).symm), Bool.and_true, Bool.and_true]
    have hoR : ovR xs (tbL 0 m) = soR xs := by rw [ovR, hoO, soR, soL, ← hm]
    rw [hoO, hoR] at Hov
    have HA := Lib.hid hA
    have Hl := Lib.hid (tbL_len 0 m)
    obtain ⟨l, hl⟩ : ∃ l, tbL 0 m = l := ⟨_, rfl⟩
    rw [hl] at Ht Hov Hl
    clear ho ha hm hA hoO hoR hl
    go_enter Try.func40, Try.ntmps40
    go_wp2_with fail
    refine (Ht.out _).mono ?_
    rintro e w1 ⟨⟨v, rfl, o1⟩, b1⟩
    obtain ⟨A1, c1, rfl⟩ := o1.shape
    rw [Hl.out] at o1 ⊢
    have HI := Lib.hid (Il_of_own_n o1 Hl.out.symm)
    clear o1
    go_wp2_with fail
    refine (Hov.out _ (HA.out.below b1) _ _ HI.out).mono ?_
    rintro e w2 ⟨⟨v2, rfl, o2⟩, b2⟩
    have o2b := OwnI.mono o2 b1.size
    go_wp2
    go_ret2
    exact ⟨⟨_, rfl, o2b⟩, b1.trans (b2.mono b1.size)⟩
  · have hx : tabB xs = false := by rw [tabB, ← hm, show inB (m : Int) 1 200 = false from inB_false.2 (by omega)]; rfl
    have ho : tbOk 0 (m : Int) = false := by rw [tbOk, show inB (m : Int) 1 200 = false from inB_false.2 (by omega), Bool.and_false]
    have hs : soO xs = false := by rw [soO, hx]; rfl
    rw [soR_no hs, hs]
    rw [ho, tbA_no ho] at Ht
    clear hm hA hx ho hs hM
    go_enter Try.func40, Try.ntmps40
    go_wp2_with fail
    refine (Ht.out _).mono ?_
    rintro e w1 ⟨⟨v, rfl, o1⟩, b1⟩
    obtain ⟨A1, c1, rfl⟩ := o1.shape
    clear o1
    go_wp2
    go_ret2
    exact ⟨⟨_, rfl, OwnI.nil _ _⟩, b1⟩
end Go.Proofs.Ytkpililllihgcaa
