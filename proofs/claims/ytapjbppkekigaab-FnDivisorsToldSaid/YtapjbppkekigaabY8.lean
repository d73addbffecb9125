import Derived.Test.YtapjbppkekigaabY7
namespace Go.Proofs.Ytapjbppkekigaab
open Go.RowKit
set_option linter.unusedVariables false
set_option linter.unusedSimpArgs false

/-- The way of sum steps. -/
def swF : Nat → Nat → List Int
  | 0, n => [(n : Int)]
  | s + 1, n => if 1 ≤ n ∧ n ≤ 1000000 then (n : Int) :: swF s (stN n) else [(n : Int)]
theorem swF_len : ∀ s n, (swF s n).length ≤ s + 1
  | 0, n => Nat.le_refl _
  | s + 1, n => by
    have := swF_len s (stN n)
    rw [swF]
    split <;> simp <;> omega
def swOk (n s : Int) : Bool := inB n 1 1000000 && inB s 0 20
def swA (n s : Int) : List Int := if swOk n s then swF s.toNat n.toNat else []
theorem swA_no {n s : Int} (h : swOk n s = false) : swA n s = [] := by rw [swA, h]; rfl
theorem swA_yes {n s : Nat} (h : swOk (n : Int) (s : Int) = true) : swA (n : Int) (s : Int) = swF s n := by rw [swA, h, Int.toNat_natCast, Int.toNat_natCast]; rfl
theorem swA_len (n s : Int) : (swA n s).length ≤ 1048576 := by
  cases h : swOk n s with
  | false => rw [swA_no h]; exact Nat.zero_le _
  | true =>
    rw [swA, h, if_pos rfl]
    rw [swOk, Bool.and_eq_true] at h
    have := inB_true.1 h.2
    have := swF_len s.toNat n.toNat
    omega

set_option maxRecDepth 100000 in
set_option maxHeartbeats 1600000 in
theorem spec_SumWay_c (w : World) (n s : Int) :
    Calls Try.prog 24 #[.int .i64 n, .int .i64 s] w fun en w' => (∃ v, en = .returned (.tuple #[v, .bool (swOk n s)]) ∧ OwnI w' w.heap.size v (swA n s)) ∧ Below w.heap.size w w' := by
  cases hg : inB n 1 1000000 with
  | false =>
    have ho : swOk n s = false := by first | (simp [swOk, *]; done) | (simp [swOk, inB]; omega)
    rw [swA_no ho, ho]
    clear ho
    go_enter Try.func24, Try.ntmps24
    go_wp2_with fail
    refine (dvGood_c _ _).mono ?_
    rintro e w1 ⟨rfl, rfl⟩
    go_wp2
    go_ret2
    exact ⟨⟨_, rfl, OwnI.nil _ _⟩, (Below.refl _ _)⟩
  | true =>
    cases hh : inB s 0 20 with
    | false =>
      have ho : swOk n s = false := by first | (simp [swOk, *]; done) | (simp [swOk, inB]; omega)
      rw [swA_no ho, ho]
      clear ho
      go_enter Try.func24, Try.ntmps24
      go_wp2_with fail
      refine (dvGood_c _ _).mono ?_
      rintro e w1 ⟨rfl, rfl⟩
      go_wp2_with fail
      refine (l1In_c _ _ _ _).mono ?_
      rintro e w2 ⟨rfl, rfl⟩
      go_wp2
      go_ret2
      exact ⟨⟨_, rfl, OwnI.nil _ _⟩, (Below.refl _ _)⟩
    | true =>
      have ho : swOk n s = true := by rw [swOk, hg, hh]; rfl
      obtain ⟨n1, n2⟩ := inB_true.1 hg
      obtain ⟨s1, s2⟩ := inB_true.1 hh
      obtain ⟨N, rfl⟩ := Int.eq_ofNat_of_zero_le (Int.le_trans (by omega) n1)
      obtain ⟨M, rfl⟩ := Int.eq_ofNat_of_zero_le s1
      rw [swA_yes ho, ho]
      clear ho
      have N1 : 1 ≤ N := by omega
      have N9 : N ≤ 1000000 := by omega
      have M9 : M ≤ 20 := by omega
      obtain ⟨T, hT⟩ : ∃ T, swF M N = T := ⟨_, rfl⟩
      have HT := Lib.hid hT
      rw [hT]
      clear n1 n2 s1 s2 hT
      have Hg := Lib.hid hg
      have Hh := Lib.hid hh
      go_enter Try.func24, Try.ntmps24
      go_wp2_with fail
      refine (dvGood_c _ _).mono ?_
      rintro e w1 ⟨rfl, rfl⟩
      go_wp2_with fail
      refine (l1In_c _ _ _ _).mono ?_
      rintro e w2 ⟨rfl, rfl⟩
      go_wp2_with fail
      go_loopw [0, 1, 6] (fun x y v wr => ∃ (n s : Nat) (pre : List Int), x = .int .i64 (n : Int) ∧ y = .int .i64 (s : Int) ∧ n ≤ 2000000000 ∧ pre.length + s ≤ 20 ∧ T = pre ++ swF s n ∧ OwnI wr w.heap.size v (pre ++ [(n : Int)]) ∧ Below w.heap.size w wr) (fun _ y _ _ => (intOf y).toNat)
      case atStart => exact ⟨N, M, [], rfl, rfl, by omega, by simp; omega, by rw [HT.out]; rfl, own_one _ _ (Nat.le_refl _) _, (Below.refl _ _).alloc (Nat.le_refl _) _⟩
      case round =>
        obtain ⟨n, s, pre, rfl, rfl, hn9, hps, hTT, hown, hbel⟩ := hrel
        have Hown := Lib.hid hown
        have HTT := Lib.hid hTT
        have hs := hbel.size
        clear hown hTT
        by_cases hlt : 0 < s
        · obtain ⟨s', rfl⟩ : ∃ s', s = s' + 1 := ⟨s - 1, by omega⟩
          cases hgn : inB (n : Int) 1 1000000 with
          | true =>
            obtain ⟨g1, g2⟩ := inB_true.1 hgn
            have g1n : 1 ≤ n := by omega
            have g2n : n ≤ 1000000 := by omega
            have hsm := dvS_small g1n g2n
            have hst := stN_is g1n
            have Hc := Lib.hid (fun W => dvSum_c W n g1n (by omega))
            have HX := Lib.hid (show T = (pre ++ [(n : Int)]) ++ swF s' (stN n) by rw [HTT.out, swF, if_pos ⟨g1n, g2n⟩]; simp)
            obtain ⟨S, hS⟩ : ∃ S, dvS n = S := ⟨_, rfl⟩
            rw [hS] at hsm hst Hc
            obtain ⟨m, hm⟩ : ∃ m, stN n = m := ⟨_, rfl⟩
            rw [hm] at hst HX
            have Hl := Lib.hid (show (pre ++ [(n : Int)]).length ≤ 1000 by simp; omega)
            have Hg2 := Lib.hid (fun W => hgn ▸ dvGood_c (n : Int) W)
            clear hS hm hgn
            go_wp2_with fail
            refine (Hg2.out _).mono ?_
            rintro e w5 ⟨rfl, rfl⟩
            go_wp2_with fail
            refine (Hc.out _).mono ?_
            rintro e w1 ⟨rfl, b1⟩
            have hown1 := OwnI.below Hown.out b1
            have hs1 := b1.size
            go_wp2_with (at_builtin; refine wp_app_int _ rfl _ _ rfl w.heap.size _ _ rfl hown1 _ rfl (by have := Hl.out; omega) (by omega) ?_; intro v' w2 hown2 b2)
            go_roundw
            case rel => exact ⟨m, s', pre ++ [(n : Int)], rfl, by go_num, by omega, by simp; omega, HX.out, hown2, (hbel.trans (b1.mono hs)).trans b2⟩
            case measure => first | (simp [intOf]; done) | (simp [intOf]; omega)
          | false =>
            have HX := Lib.hid (show T = pre ++ [(n : Int)] by rw [HTT.out, swF, if_neg (fun h => by rw [inB_true.2 (by omega)] at hgn; cases hgn)])
            have Hg2 := Lib.hid (fun W => hgn ▸ dvGood_c (n : Int) W)
            clear hgn
            go_wp2_with fail
            refine (Hg2.out _).mono ?_
            rintro e w5 ⟨rfl, rfl⟩
            go_wp2
            go_ret2
            exact ⟨⟨_, rfl, by rw [HX.out]; exact Hown.out⟩, hbel⟩
        · have hs0 : s = 0 := by omega
          subst hs0
          have HX := Lib.hid (show T = pre ++ [(n : Int)] by rw [HTT.out]; rfl)
          go_wp2
          go_ret2
          exact ⟨⟨_, rfl, by rw [HX.out]; exact Hown.out⟩, hbel⟩

end Go.Proofs.Ytapjbppkekigaab
