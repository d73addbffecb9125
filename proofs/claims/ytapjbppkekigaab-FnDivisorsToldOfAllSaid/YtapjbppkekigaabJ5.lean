import Derived.Test.YtapjbppkekigaabJ4
import Derived.Test.YtapjbppkekigaabP9
namespace Go.Proofs.Ytapjbppkekigaab
open Go.RowKit
set_option linter.unusedVariables false
set_option linter.unusedSimpArgs false

/-- How long a slice is. -/
def slLn : Value → Nat
  | .slice _ n _ => n
  | _ => 0
set_option maxRecDepth 100000 in
set_option maxHeartbeats 1600000 in
theorem impl_SumWay_c (w : World) (n s : Int) :
    Calls Try.prog 23 #[.int .i64 n, .int .i64 s] w fun en w' => (∃ v, en = .returned (.tuple #[v, .bool (swOk n s)]) ∧ OwnI w' w.heap.size v (swA n s)) ∧ Below w.heap.size w w' := by
  have Hd0 := Lib.hid (fun W => isDivided_c n W)
  cases hg : dvOk n with
  | false =>
    have ho : swOk n s = false := by show (inB n 1 1000000 && _) = false; rw [show inB n 1 1000000 = false from hg]; rfl
    rw [swA_no ho, ho]
    rw [hg] at Hd0
    clear hg ho
    go_enter Try.func23, Try.ntmps23
    go_wp2_with fail
    refine (Hd0.out _).mono ?_
    rintro e w1 ⟨rfl, rfl⟩
    go_wp2
    go_ret2
    exact ⟨⟨_, rfl, OwnI.nil _ _⟩, Below.refl _ _⟩
  | true =>
    rw [hg] at Hd0
    by_cases h1 : 0 ≤ s
    · by_cases h2 : s ≤ 20
      · have ho : swOk n s = true := by show (inB n 1 1000000 && _) = true; rw [show inB n 1 1000000 = true from hg]; exact inB_true.2 ⟨h1, h2⟩
        obtain ⟨n1, n2⟩ := inB_true.1 hg
        obtain ⟨N, rfl⟩ := Int.eq_ofNat_of_zero_le (Int.le_trans (by omega) n1)
        obtain ⟨M, rfl⟩ := Int.eq_ofNat_of_zero_le h1
        rw [swA_yes ho, ho]
        clear ho
        have N1 : 1 ≤ N := by omega
        have N9 : N ≤ 1000000 := by omega
        have M9 : M ≤ 20 := by omega
        obtain ⟨T, hT⟩ : ∃ T, swF M N = T := ⟨_, rfl⟩
        have HT := Lib.hid hT
        rw [hT]
        clear n1 n2 hT hg
        go_enter Try.func23, Try.ntmps23
        go_wp2_with fail
        refine (Hd0.out _).mono ?_
        rintro e w1 ⟨rfl, rfl⟩
        go_wp2_with fail
        go_loopw [0, 6] (fun x v wr => ∃ (n l : Nat) (pre : List Int) (A : Option Addr) (c : Nat), x = .int .i64 (n : Int) ∧ v = .slice A (l + 1) c ∧ n ≤ 2000000000 ∧ pre.length = l ∧ l ≤ M ∧ T = pre ++ swF (M - l) n ∧ OwnI wr w.heap.size (.slice A (l + 1) c) (pre ++ [(n : Int)]) ∧ Below w.heap.size w wr) (fun _ v _ => 30 - slLn v)
        case atStart => exact ⟨N, 0, [], _, _, rfl, rfl, by omega, rfl, Nat.zero_le _, HT.out.symm, own_one _ _ (Nat.le_refl _) _, (Below.refl _ _).alloc (Nat.le_refl _) _⟩
        case round =>
          obtain ⟨n, l, pre, A, c, rfl, rfl, hn9, hpl, hlM, hTT, hown, hbel⟩ := hrel
          have Hown := Lib.hid hown
          have HTT := Lib.hid hTT
          have Hpl := Lib.hid hpl
          have hs := hbel.size
          clear hown hTT hpl
          by_cases hlt : l < M
          · cases hgn : dvOk (n : Int) with
            | true =>
              obtain ⟨g1, g2⟩ := inB_true.1 hgn
              have g1n : 1 ≤ n := by omega
              have g2n : n ≤ 1000000 := by omega
              have hsm := dvS_small g1n g2n
              have hst := stN_is g1n
              have Hc := Lib.hid (fun W => sumStep_c W n g1n (by omega))
              rw [hst] at Hc
              have HX := Lib.hid (show T = (pre ++ [(n : Int)]) ++ swF (M - (l + 1)) (stN n) by rw [HTT.out, show M - l = (M - (l + 1)) + 1 by omega, swF, if_pos ⟨g1n, g2n⟩]; simp)
              obtain ⟨m, hm⟩ : ∃ m, stN n = m := ⟨_, rfl⟩
              rw [hm] at hst HX Hc
              have hm9 : m ≤ 2000000000 := by omega
              have Hl := Lib.hid (show (pre ++ [(n : Int)]).length = l + 1 by rw [List.length_append, List.length_singleton, Hpl.out])
              have Hg2 := Lib.hid (fun W => hgn ▸ isDivided_c (n : Int) W)
              clear hm hgn hst hsm
              go_wp2_with fail
              refine (Hg2.out _).mono ?_
              rintro e w5 ⟨rfl, rfl⟩
              go_wp2_with fail
              refine (Hc.out _).mono ?_
              rintro e w1 ⟨rfl, b1⟩
              have Hown1 := Lib.hid (OwnI.below Hown.out b1)
              have hs1 := b1.size
              go_wp2_with (at_builtin; refine wp_app_int _ rfl _ _ rfl w.heap.size _ _ rfl Hown1.out _ rfl (by have := Hl.out; omega) (by omega) ?_; intro v' w2 hown2 b2; obtain ⟨A2, c2, rfl⟩ := hown2.shape; have Hown2 := Lib.hid hown2; clear hown2)
              go_roundw
              case rel =>
                have e2 : (pre ++ [(n : Int)] ++ [(m : Int)]).length = l + 1 + 1 := by rw [List.length_append, Hl.out]; rfl
                have h := Hown2.out
                rw [e2] at h
                exact ⟨m, l + 1, pre ++ [(n : Int)], A2, c2, rfl, by rw [Hpl.out], hm9, Hl.out, by omega, HX.out, h, (hbel.trans (b1.mono hs)).trans b2⟩
              case measure => have := Hpl.out; simp [slLn]; omega
            | false =>
              have HX := Lib.hid (show T = pre ++ [(n : Int)] by rw [HTT.out, show M - l = (M - (l + 1)) + 1 by omega, swF, if_neg (fun h => by rw [show dvOk (n : Int) = true from inB_true.2 (by omega)] at hgn; cases hgn)])
              have Hg2 := Lib.hid (fun W => hgn ▸ isDivided_c (n : Int) W)
              clear hgn
              go_wp2_with fail
              refine (Hg2.out _).mono ?_
              rintro e w5 ⟨rfl, rfl⟩
              go_wp2
              go_ret2
              exact ⟨⟨_, rfl, by rw [HX.out]; exact Hown.out⟩, hbel⟩
          · have hs0 : l = M := by omega
            subst hs0
            have HX := Lib.hid (show T = pre ++ [(n : Int)] by rw [HTT.out, Nat.sub_self]; rfl)
            go_wp2
            go_ret2
            exact ⟨⟨_, rfl, by rw [HX.out]; exact Hown.out⟩, hbel⟩
      · have ho : swOk n s = false := by show (_ && inB s 0 20) = false; rw [show inB s 0 20 = false from inB_false.2 (by omega), Bool.and_false]
        rw [swA_no ho, ho]
        clear hg ho
        go_enter Try.func23, Try.ntmps23
        go_wp2_with fail
        refine (Hd0.out _).mono ?_
        rintro e w1 ⟨rfl, rfl⟩
        go_wp2
        go_ret2
        exact ⟨⟨_, rfl, OwnI.nil _ _⟩, Below.refl _ _⟩
    · have ho : swOk n s = false := by show (_ && inB s 0 20) = false; rw [show inB s 0 20 = false from inB_false.2 (by omega), Bool.and_false]
      rw [swA_no ho, ho]
      clear hg ho
      go_enter Try.func23, Try.ntmps23
      go_wp2_with fail
      refine (Hd0.out _).mono ?_
      rintro e w1 ⟨rfl, rfl⟩
      go_wp2
      go_ret2
      exact ⟨⟨_, rfl, OwnI.nil _ _⟩, Below.refl _ _⟩
end Go.Proofs.Ytapjbppkekigaab
