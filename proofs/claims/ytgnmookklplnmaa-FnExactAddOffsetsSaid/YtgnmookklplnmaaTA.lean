import Derived.Test.YtgnmookklplnmaaT9
namespace Go.Proofs.Ytgnmookklplnmaa
open Go.RowKit
set_option linter.unusedVariables false
set_option linter.unusedSimpArgs false

/-- Whether an offset may be added to a pattern that stays open. -/
def adB (xs : List Int) (x : Nat) : Bool := !hasF xs (x : Int) && decide (¬ xs.length = 8) && decide (clX (insF xs (x : Int)) 0 = 0)
theorem adB_yes {xs : List Int} {x : Nat} (h1 : hasF xs (x : Int) = false) (h2 : ¬ xs.length = 8) (h3 : clX (insF xs (x : Int)) 0 = 0) : adB xs x = true := by rw [adB, h1, decide_eq_true h2, decide_eq_true h3]; rfl
theorem adB_no1 {xs : List Int} {x : Nat} (h1 : hasF xs (x : Int) = true) : adB xs x = false := by rw [adB, h1]; rfl
theorem adB_no2 {xs : List Int} {x : Nat} (h2 : xs.length = 8) : adB xs x = false := by rw [adB, decide_eq_false (by omega), Bool.and_false, Bool.false_and]
theorem adB_no3 {xs : List Int} {x : Nat} (h3 : ¬ clX (insF xs (x : Int)) 0 = 0) : adB xs x = false := by rw [adB, decide_eq_false h3, Bool.and_false]
def aoF (xs : List Int) : Nat → List Int
  | 0 => []
  | x + 1 => if adB xs x then aoF xs x ++ [(x : Int)] else aoF xs x
theorem aoF_yes {xs : List Int} {x : Nat} (h : adB xs x = true) : aoF xs (x + 1) = aoF xs x ++ [(x : Int)] := by rw [aoF, if_pos h]
theorem aoF_no {xs : List Int} {x : Nat} (h : adB xs x = false) : aoF xs (x + 1) = aoF xs x := by rw [aoF, if_neg (by rw [h]; exact Bool.false_ne_true)]
theorem aoF_len (xs : List Int) : ∀ x, (aoF xs x).length ≤ x
  | 0 => Nat.le_refl _
  | x + 1 => by
    have := aoF_len xs x
    rw [aoF]
    split
    · rw [List.length_append, List.length_singleton]; omega
    · omega
def aoO (xs : List Int) (M : Int) : Bool := goodP xs && decide (clX xs 0 = 0) && inB M 0 60
def aoV (xs : List Int) (M : Int) : List Int := if aoO xs M then aoF xs (M.toNat + 1) else []
theorem aoV_no {xs : List Int} {M : Int} (h : aoO xs M = false) : aoV xs M = [] := by rw [aoV, h]; rfl
theorem aoV_yes {xs : List Int} {M : Nat} (h : aoO xs (M : Int) = true) : aoV xs (M : Int) = aoF xs (M + 1) := by rw [aoV, h, Int.toNat_natCast]; rfl
theorem aoV_len (xs : List Int) (M : Int) : (aoV xs M).length ≤ 61 := by
  cases h : aoO xs M with
  | false => rw [aoV_no h]; simp
  | true =>
    have h2 := h
    rw [aoO, Bool.and_eq_true] at h2
    obtain ⟨m0, m6⟩ := inB_true.1 h2.2
    obtain ⟨K, rfl⟩ := Int.eq_ofNat_of_zero_le m0
    rw [aoV_yes h]
    have := aoF_len xs (K + 1)
    omega
theorem insF_small {xs : List Int} {s : Int} (h : ∀ x ∈ xs, 0 ≤ x ∧ x ≤ 1000000) (hs : 0 ≤ s ∧ s ≤ 1000000) : ∀ k, k < (insF xs s).length → 0 ≤ ivL (insF xs s) k ∧ ivL (insF xs s) k ≤ 1000000 := fun k hk => by
  have hm : ivL (insF xs s) k ∈ insF xs s := by
    rw [show ivL (insF xs s) k = (insF xs s)[k] by simp [ivL, hk]]
    exact List.getElem_mem _
  rw [insF, List.mem_append, List.mem_append, List.mem_singleton] at hm
  rcases hm with (hm | hm) | hm
  · exact h _ (List.mem_of_mem_take hm)
  · rw [insF, hm]; exact hs
  · exact h _ (List.mem_of_mem_drop hm)

set_option maxRecDepth 100000 in
set_option maxHeartbeats 3200000 in
theorem spec_AddOffsets_c (w : World) (A : Option Addr) (m : Nat) (xs : List Int) (hA : Il w A xs) (hm : m = xs.length) (hn : m ≤ 1048576) (M : Int) :
    Calls Try.prog 57 #[.slice A m m, .int .i64 M] w fun en w' => (∃ v, en = .returned (.tuple #[v, .bool (aoO xs M)]) ∧ OwnI w' w.heap.size v (aoV xs M)) ∧ Below w.heap.size w w' := by
  have Hm := Lib.hid hm
  clear hm
  cases hg : goodP xs with
  | false =>
    have ho : aoO xs M = false := by first | (simp [aoO, *]; done) | (rw [aoO, decide_eq_false hz, Bool.and_false, Bool.false_and])
    rw [aoV_no ho, ho]
    clear ho
    go_enter Try.func57, Try.ntmps57
    go_wp2_with fail
    refine (reGood_c _ _ _ _ xs hA Hm.out hn).mono ?_
    rintro e w1 ⟨rfl, b1⟩
    have hA_1 := hA.below b1
    go_wp2
    go_ret2
    exact ⟨⟨_, rfl, OwnI.nil _ _⟩, b1⟩
  | true =>
    by_cases hz : clX xs 0 = 0
    rotate_left
    · skip
      have ho : aoO xs M = false := by first | (simp [aoO, *]; done) | (rw [aoO, decide_eq_false hz, Bool.and_false, Bool.false_and])
      rw [aoV_no ho, ho]
      clear ho
      go_enter Try.func57, Try.ntmps57
      go_wp2_with fail
      refine (reGood_c _ _ _ _ xs hA Hm.out hn).mono ?_
      rintro e w1 ⟨rfl, b1⟩
      have hA_1 := hA.below b1
      go_wp2_with fail
      refine (reClosing_c _ _ _ _ xs hA_1 Hm.out hn (goodP_small (Lib.hid hg).out)).mono ?_
      rintro e w2 ⟨rfl, b2⟩
      have hA_2 := hA_1.below b2
      have bb2 := b1.trans (b2.mono b1.size)
      go_wp2
      go_ret2
      exact ⟨⟨_, rfl, OwnI.nil _ _⟩, bb2⟩
    · skip
      cases hk : inB M 0 60 with
      | false =>
        have ho : aoO xs M = false := by first | (simp [aoO, *]; done) | (rw [aoO, decide_eq_false hz, Bool.and_false, Bool.false_and])
        rw [aoV_no ho, ho]
        clear ho
        go_enter Try.func57, Try.ntmps57
        go_wp2_with fail
        refine (reGood_c _ _ _ _ xs hA Hm.out hn).mono ?_
        rintro e w1 ⟨rfl, b1⟩
        have hA_1 := hA.below b1
        go_wp2_with fail
        refine (reClosing_c _ _ _ _ xs hA_1 Hm.out hn (goodP_small (Lib.hid hg).out)).mono ?_
        rintro e w2 ⟨rfl, b2⟩
        have hA_2 := hA_1.below b2
        have bb2 := b1.trans (b2.mono b1.size)
        go_wp2_with fail
        refine (l1In_c _ _ _ _).mono ?_
        rintro e w3 ⟨rfl, rfl⟩
        go_wp2
        go_ret2
        exact ⟨⟨_, rfl, OwnI.nil _ _⟩, bb2⟩
      | true =>
        have ho : aoO xs M = true := by simp [aoO, *]
        obtain ⟨m0, m6⟩ := inB_true.1 hk
        obtain ⟨K, rfl⟩ := Int.eq_ofNat_of_zero_le m0
        rw [aoV_yes ho, ho]
        clear ho
        have Hx := Lib.hid (goodP_small hg)
        have hm1 : 1 ≤ m := by have := Hm.out; have := (goodP_parts hg).1; omega
        have hm8 : m ≤ 8 := by have := Hm.out; have := (goodP_parts hg).2.1; omega
        have Hfirst := Lib.hid (goodP_parts hg).2.2.1
        have Hmem := Lib.hid (fun x (hx : x ∈ xs) => show 0 ≤ x ∧ x ≤ 1000000 by have := goodP_mem hg hx; omega)
        have Hg := Lib.hid hg
        have Hk := Lib.hid hk
        go_enter Try.func57, Try.ntmps57
        go_wp2_with fail
        refine (reGood_c _ _ _ _ xs hA Hm.out hn).mono ?_
        rintro e w1 ⟨rfl, b1⟩
        have hA_1 := hA.below b1
        go_wp2_with fail
        refine (reClosing_c _ _ _ _ xs hA_1 Hm.out hn (goodP_small (Lib.hid hg).out)).mono ?_
        rintro e w2 ⟨rfl, b2⟩
        have hA_2 := hA_1.below b2
        have bb2 := b1.trans (b2.mono b1.size)
        go_wp2_with fail
        refine (l1In_c _ _ _ _).mono ?_
        rintro e w3 ⟨rfl, rfl⟩
        obtain ⟨b, off, rfl, hb, hr⟩ := (hA_2) (by have := Hm.out; omega)
        have Hat := Lib.hid (show IsAt _ b off xs from hr)
        clear hr
        go_wp2_with fail
        go_loopw [6, 7] (fun v i wr => ∃ x : Nat, x ≤ K + 1 ∧ i = .int .i64 (x : Int) ∧ OwnI wr w2.heap.size v (aoF xs x) ∧ Below w2.heap.size w2 wr) (fun _ i _ => K + 1 - (intOf i).toNat)
        case atStart => exact ⟨0, by omega, rfl, OwnI.nil _ _, Below.refl _ _⟩
        case round =>
          obtain ⟨x, hx, rfl, hown, hbel⟩ := hrel
          have Hown := Lib.hid hown
          have Hlr := Lib.hid (aoF_len xs x)
          clear hown
          have hs := hbel.size
          have R2 := Lib.hid ((hA_2).below hbel)
          by_cases hlt : x < K + 1
          · have hxK : (x : Int) ≤ (K : Int) := by omega
            cases hh : hasF xs (x : Int) with
            | true =>
              have Hy := Lib.hid (aoF_no (adB_no1 hh))
              have Hh := Lib.hid hh
              clear hh
              go_wp2_with fail
              refine (l1Has_c _ _ _ _ xs R2.out Hm.out hn _).mono ?_
              rw [Hh.out]
              rintro e w5 ⟨rfl, rfl⟩
              go_wp2
              go_roundw
              case rel => exact ⟨x + 1, by omega, by go_num, by rw [Hy.out]; exact Hown.out, hbel⟩
              case measure => simp [intOf]; omega
            | false =>
              have Hhas := Lib.hid hh
              have hx1 : 1 ≤ x := by
                rcases Nat.eq_zero_or_pos x with h | h
                · exfalso
                  rw [h, show ((0 : Nat) : Int) = 0 from rfl, hasF_yes (k := 0) (by have := Hm.out; omega) Hfirst.out] at hh
                  cases hh
                · exact h
              clear hh
              by_cases h8 : m = 8
              · have Hy := Lib.hid (aoF_no (adB_no2 (x := x) (xs := xs) (by rw [← Hm.out]; exact h8)))
                have hm8b : ((m : Int) == 8) = true := by rw [h8]; rfl
                clear h8
                go_wp2_with fail
                refine (l1Has_c _ _ _ _ xs R2.out Hm.out hn _).mono ?_
                rw [Hhas.out]
                rintro e w5 ⟨rfl, rfl⟩
                go_wp2
                go_roundw
                case rel => exact ⟨x + 1, by omega, by go_num, by rw [Hy.out]; exact Hown.out, hbel⟩
                case measure => simp [intOf]; omega
              · have hm8b : ((m : Int) == 8) = false := beq_eq_false_iff_ne.2 (by omega)
                have H8 := Lib.hid h8
                clear h8
                have Hsm := Lib.hid (insF_small (s := (x : Int)) Hmem.out (by omega))
                go_wp2_with fail
                refine (l1Has_c _ _ _ _ xs R2.out Hm.out hn _).mono ?_
                rw [Hhas.out]
                rintro e w5 ⟨rfl, rfl⟩
                go_wp2_with fail
                go_loop [8] (fun i => ∃ k : Nat, k ≤ m ∧ i = .int .i64 (k : Int) ∧ (∀ j, j < k → ivL xs j < (x : Int))) (fun i => m - (intOf i).toNat)
                case atStart => exact ⟨0, Nat.zero_le _, rfl, fun j hj => by omega⟩
                case round =>
                  obtain ⟨k, hk, rfl, hall⟩ := hrel
                  have Hall := Lib.hid hall
                  clear hall
                  by_cases hltk : k < m
                  · have hck := (IsAt.below Hat.out hb hbel) k (by have := Hm.out; omega)
                    obtain ⟨y, hye⟩ : ∃ y, ivL xs k = y := ⟨_, rfl⟩
                    rw [hye] at hck
                    by_cases hyx : y < (x : Int)
                    · have Hall2 := Lib.hid (fun j (hj : j < k + 1) => show ivL xs j < (x : Int) by
                        rcases Nat.lt_succ_iff_lt_or_eq.1 hj with h | h
                        · exact Hall.out j h
                        · rw [h, hye]; exact hyx)
                      clear hye
                      go_wp2
                      go_round
                      case rel => exact ⟨k + 1, by omega, by go_num, Hall2.out⟩
                      case measure => simp [intOf]; omega
                    · have Hpos := Lib.hid (posF_at (xs := xs) (s := (x : Int)) (k := k) (by have := Hm.out; omega) Hall.out (by omega))
                      have hk0 : ¬ k = 0 := by
                        intro h
                        rw [h, Hfirst.out] at hye
                        omega
                      clear hye
                      have Htk := Lib.hid ((IsAt.below Hat.out hb hbel).take k)
                      have Hkl := Lib.hid (show k = (xs.take k).length by have := Hm.out; rw [List.length_take]; omega)
                      go_wp2_with fail
                      refine (l1Own_c _ _ _ _ _ (xs.take k) (Nat.lt_of_lt_of_le hb hbel.size) Htk.out Hkl.out (by omega)).mono ?_
                      rintro e w5 ⟨⟨v5, rfl, o5⟩, b5⟩
                      have O5 := Lib.hid o5
                      have h5 := hbel.trans (b5.mono hs)
                      have hs5 := b5.size
                      have Hl2 := Lib.hid (show (xs.take k).length ≤ 1048576 by rw [List.length_take]; omega)
                      have Hk3 := Lib.hid (show m - k = (xs.drop k).length by have := Hm.out; rw [List.length_drop]; omega)
                      have Hl3 := Lib.hid (show (xs.take k ++ [(x : Int)]).length + (xs.drop k).length ≤ 1048576 by have := Hm.out; simp only [List.length_append, List.length_take, List.length_drop, List.length_singleton]; omega)
                      obtain ⟨Ys, hYs⟩ : ∃ Ys, xs.take k ++ [(x : Int)] ++ xs.drop k = Ys := ⟨_, rfl⟩
                      have hYi : insF xs (x : Int) = Ys := by rw [insF, Hpos.out]; exact hYs
                      have HYs := Lib.hid hYs
                      have HYi := Lib.hid hYi
                      have HYl := Lib.hid (show Ys.length ≤ 1048576 by have := Hl3.out; rw [← hYs, List.length_append]; omega)
                      have HYx := Lib.hid (show ∀ k, k < Ys.length → 0 ≤ ivL Ys k ∧ ivL Ys k ≤ 1000000 by rw [← hYi]; exact Hsm.out)
                      clear o5 hYs hYi
                      go_wp2_with (at_builtin; first | (refine wp_app_int _ rfl _ _ rfl wr.heap.size _ (xs.take k) rfl O5.out _ rfl Hl2.out hs5 ?_; intro v6 w6 o6 b6; have h6 := b5.trans b6; have hat6 := Lib.hid (IsAt.below Hat.out hb (hbel.trans (h6.mono hs)))) | (refine wp_app_ints w6 rfl _ _ rfl wr.heap.size v6 (xs.take k ++ [(x : Int)]) rfl o6 b _ _ _ (xs.drop k) rfl Hk3.out (by have h := hat6.out.drop k; first | exact h | (rwa [Nat.zero_add] at h)) Hl3.out h6.size ?_; intro v7 w7 o7 g7; have h7 := h6.trans (below_of_grown g7 h6.size (fun q hq => (World.ownsRow.lt o6 q hq).1)); rw [HYs.out] at o7; obtain ⟨A7, c7, rfl⟩ := o7.shape; have Il7 := Il_of_own o7; clear o7))
                      have hs7 := h7.size
                      cases hz : clX Ys 0 == 0 with
                      | true =>
                        have Hy := Lib.hid (aoF_yes (adB_yes Hhas.out (by rw [← Hm.out]; exact H8.out) (by rw [HYi.out]; exact beq_iff_eq.1 hz)))
                        have hz2 : ((clX Ys 0 : Nat) : Int) = 0 := by rw [beq_iff_eq.1 hz]; rfl
                        have Hz := Lib.hid hz2
                        clear hz hz2
                        refine (reClosing_c _ _ _ _ Ys Il7 rfl HYl.out HYx.out).mono ?_
                        rw [Hz.out]
                        rintro e w8 ⟨rfl, b8⟩
                        have h8 := h7.trans (b8.mono hs7)
                        have hown8 := Lib.hid (OwnI.below Hown.out h8)
                        have hs8 := h8.size
                        go_wp2_with (at_builtin; refine wp_app_int _ rfl _ _ rfl w2.heap.size _ _ rfl hown8.out _ rfl (by have := Hlr.out; omega) (by omega) ?_; intro v9 w9 o9 b9)
                        go_roundw
                        case rel => exact ⟨x + 1, by omega, by go_num, by rw [Hy.out]; exact o9, (hbel.trans (h8.mono hs)).trans b9⟩
                        case measure => simp [intOf]; omega
                      | false =>
                        have hz1 : ¬ clX Ys 0 = 0 := beq_eq_false_iff_ne.1 hz
                        have Hy := Lib.hid (aoF_no (adB_no3 (by rw [HYi.out]; exact hz1)))
                        obtain ⟨Z, hZ⟩ : ∃ Z, clX Ys 0 = Z := ⟨_, rfl⟩
                        rw [hZ] at hz1
                        have Hz := Lib.hid hZ
                        have hzb : ((Z : Int) == 0) = false := beq_eq_false_iff_ne.2 (by omega)
                        clear hz hZ hz1
                        refine (reClosing_c _ _ _ _ Ys Il7 rfl HYl.out HYx.out).mono ?_
                        rw [Hz.out]
                        rintro e w8 ⟨rfl, b8⟩
                        have h8 := h7.trans (b8.mono hs7)
                        have hown8 := Lib.hid (OwnI.below Hown.out h8)
                        go_wp2
                        go_roundw
                        case rel => exact ⟨x + 1, by omega, by go_num, by rw [Hy.out]; exact hown8.out, hbel.trans (h8.mono hs)⟩
                        case measure => simp [intOf]; omega
                  · have hkm : k = m := by omega
                    subst hkm
                    have Hpos : Hid (posF xs (x : Int) = k) := by show _ = _; rw [posF_end (fun j hj => Hall.out j (by have := Hm.out; omega))]; exact Hm.out.symm
                    have hk0 : ¬ k = 0 := by omega
                    have Htk := Lib.hid ((IsAt.below Hat.out hb hbel).take k)
                    have Hkl := Lib.hid (show k = (xs.take k).length by have := Hm.out; rw [List.length_take]; omega)
                    go_wp2_with fail
                    refine (l1Own_c _ _ _ _ _ (xs.take k) (Nat.lt_of_lt_of_le hb hbel.size) Htk.out Hkl.out (by omega)).mono ?_
                    rintro e w5 ⟨⟨v5, rfl, o5⟩, b5⟩
                    have O5 := Lib.hid o5
                    have h5 := hbel.trans (b5.mono hs)
                    have hs5 := b5.size
                    have Hl2 := Lib.hid (show (xs.take k).length ≤ 1048576 by rw [List.length_take]; omega)
                    have Hk3 := Lib.hid (show 0 = (xs.drop k).length by have := Hm.out; rw [List.length_drop]; omega)
                    have Hl3 := Lib.hid (show (xs.take k ++ [(x : Int)]).length + (xs.drop k).length ≤ 1048576 by have := Hm.out; simp only [List.length_append, List.length_take, List.length_drop, List.length_singleton]; omega)
                    obtain ⟨Ys, hYs⟩ : ∃ Ys, xs.take k ++ [(x : Int)] ++ xs.drop k = Ys := ⟨_, rfl⟩
                    have hYi : insF xs (x : Int) = Ys := by rw [insF, Hpos.out]; exact hYs
                    have HYs := Lib.hid hYs
                    have HYi := Lib.hid hYi
                    have HYl := Lib.hid (show Ys.length ≤ 1048576 by have := Hl3.out; rw [← hYs, List.length_append]; omega)
                    have HYx := Lib.hid (show ∀ k, k < Ys.length → 0 ≤ ivL Ys k ∧ ivL Ys k ≤ 1000000 by rw [← hYi]; exact Hsm.out)
                    clear o5 hYs hYi
                    go_wp2_with (at_builtin; first | (refine wp_app_int _ rfl _ _ rfl wr.heap.size _ (xs.take k) rfl O5.out _ rfl Hl2.out hs5 ?_; intro v6 w6 o6 b6; have h6 := b5.trans b6; have hat6 := Lib.hid (IsAt.below Hat.out hb (hbel.trans (h6.mono hs)))) | (refine wp_app_ints w6 rfl _ _ rfl wr.heap.size v6 (xs.take k ++ [(x : Int)]) rfl o6 b _ _ _ (xs.drop k) rfl Hk3.out (fun j hj => absurd hj (by have := Hk3.out; omega)) Hl3.out h6.size ?_; intro v7 w7 o7 g7; have h7 := h6.trans (below_of_grown g7 h6.size (fun q hq => (World.ownsRow.lt o6 q hq).1)); rw [HYs.out] at o7; obtain ⟨A7, c7, rfl⟩ := o7.shape; have Il7 := Il_of_own o7; clear o7))
                    have hs7 := h7.size
                    cases hz : clX Ys 0 == 0 with
                    | true =>
                      have Hy := Lib.hid (aoF_yes (adB_yes Hhas.out (by rw [← Hm.out]; exact H8.out) (by rw [HYi.out]; exact beq_iff_eq.1 hz)))
                      have hz2 : ((clX Ys 0 : Nat) : Int) = 0 := by rw [beq_iff_eq.1 hz]; rfl
                      have Hz := Lib.hid hz2
                      clear hz hz2
                      refine (reClosing_c _ _ _ _ Ys Il7 rfl HYl.out HYx.out).mono ?_
                      rw [Hz.out]
                      rintro e w8 ⟨rfl, b8⟩
                      have h8 := h7.trans (b8.mono hs7)
                      have hown8 := Lib.hid (OwnI.below Hown.out h8)
                      have hs8 := h8.size
                      go_wp2_with (at_builtin; refine wp_app_int _ rfl _ _ rfl w2.heap.size _ _ rfl hown8.out _ rfl (by have := Hlr.out; omega) (by omega) ?_; intro v9 w9 o9 b9)
                      go_roundw
                      case rel => exact ⟨x + 1, by omega, by go_num, by rw [Hy.out]; exact o9, (hbel.trans (h8.mono hs)).trans b9⟩
                      case measure => simp [intOf]; omega
                    | false =>
                      have hz1 : ¬ clX Ys 0 = 0 := beq_eq_false_iff_ne.1 hz
                      have Hy := Lib.hid (aoF_no (adB_no3 (by rw [HYi.out]; exact hz1)))
                      obtain ⟨Z, hZ⟩ : ∃ Z, clX Ys 0 = Z := ⟨_, rfl⟩
                      rw [hZ] at hz1
                      have Hz := Lib.hid hZ
                      have hzb : ((Z : Int) == 0) = false := beq_eq_false_iff_ne.2 (by omega)
                      clear hz hZ hz1
                      refine (reClosing_c _ _ _ _ Ys Il7 rfl HYl.out HYx.out).mono ?_
                      rw [Hz.out]
                      rintro e w8 ⟨rfl, b8⟩
                      have h8 := h7.trans (b8.mono hs7)
                      have hown8 := Lib.hid (OwnI.below Hown.out h8)
                      go_wp2
                      go_roundw
                      case rel => exact ⟨x + 1, by omega, by go_num, by rw [Hy.out]; exact hown8.out, hbel.trans (h8.mono hs)⟩
                      case measure => simp [intOf]; omega
          · have Hy : Hid (aoF xs x = aoF xs (K + 1)) := by show _ = _; rw [show x = K + 1 by omega]
            go_wp2
            go_ret2
            exact ⟨⟨_, rfl, OwnI.mono (by rw [← Hy.out]; exact Hown.out) (bb2).size⟩, (bb2).trans (hbel.mono (bb2).size)⟩

end Go.Proofs.Ytgnmookklplnmaa
