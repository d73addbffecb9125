import Derived.Test.YtbaimgdnajompaaC6
namespace Go.Proofs.Ytbaimgdnajompaa
open Go.RowKit
set_option linter.unusedVariables false
set_option linter.unusedSimpArgs false

theorem sameK_no {xs ys : List (Int × Int)} (k : perOk xs = false ∨ perOk ys = false) : sameK xs ys = false := by
  cases ha : goodL xs with
  | false => simp [sameK, ha]
  | true =>
    cases hb : goodL ys with
    | false => simp [sameK, hb]
    | true => simp [sameK, perF_both_no ha hb k]
theorem sameK_big {xs ys : List (Int × Int)} (ka : perOk xs = true) (kb : perOk ys = true) (h : 100000 < lcmF (perF xs) (perF ys)) : sameK xs ys = false := by
  simp [sameK, perF_both ka kb, h]
theorem sameK_yes {xs ys : List (Int × Int)} (ka : perOk xs = true) (kb : perOk ys = true) (h : ¬ 100000 < lcmF (perF xs) (perF ys)) : sameK xs ys = true ∧ perF (xs ++ ys) = lcmF (perF xs) (perF ys) := by
  have h2 := (perF_both ka kb).trans (if_neg h)
  obtain ⟨ha, _, a1, _⟩ := perOk_parts ka
  obtain ⟨hb, _, b1, _⟩ := perOk_parts kb
  have h3 := lcmF_pos _ _ a1 b1
  refine ⟨?_, h2⟩
  have h4 : (perF (xs ++ ys) == 0) = false := by rw [h2]; simp; omega
  simp [sameK, ha, hb, h4]
theorem perV_is {xs : List (Int × Int)} (h : perOk xs = true) : perV xs = perF xs := by rw [perV, (perOk_parts h).1]; rfl

set_option maxRecDepth 100000 in
set_option maxHeartbeats 1600000 in
theorem impl_AreSame_1 (w : World) (A : Option Addr) (m c : Nat) (xs : List (Int × Int)) (hA : Rl w A xs) (hm : m = xs.length) (hn : m ≤ 1048576) (B : Option Addr) (m2 c2 : Nat) (ys : List (Int × Int)) (hB : Rl w B ys) (hm2 : m2 = ys.length) (hn2 : m2 ≤ 1048576) (hk : perOk xs = false) :
    Calls Try.prog 62 #[.slice A m c, .slice B m2 c2] w fun en w' => en = .returned (.tuple #[.bool (sameV xs ys), .bool (sameK xs ys)]) ∧ Below w.heap.size w w' := by
  have Hm := Lib.hid hm
  have Hm2 := Lib.hid hm2
  clear hm hm2
  have ho : sameK xs ys = false := sameK_no (.inl hk)
  rw [sameV_no ho, ho]
  clear ho
  go_enter Try.func62, Try.ntmps62
  go_wp2_with fail
  refine (impl_PeriodOfRules_c _ _ _ _ xs hA Hm.out hn).mono ?_
  rintro e w1 ⟨rfl, b1⟩
  have hA_1 := hA.below b1
  have hB_1 := hB.below b1
  go_wp2_with fail
  refine (impl_PeriodOfRules_c _ _ _ _ ys hB_1 Hm2.out hn2).mono ?_
  rintro e w2 ⟨rfl, b2⟩
  have hA_2 := hA_1.below b2
  have hB_2 := hB_1.below b2
  have bb2 := b1.trans (b2.mono b1.size)
  go_wp2
  go_ret2
  exact ⟨rfl, bb2⟩

set_option maxRecDepth 100000 in
set_option maxHeartbeats 1600000 in
theorem impl_AreSame_2 (w : World) (A : Option Addr) (m c : Nat) (xs : List (Int × Int)) (hA : Rl w A xs) (hm : m = xs.length) (hn : m ≤ 1048576) (B : Option Addr) (m2 c2 : Nat) (ys : List (Int × Int)) (hB : Rl w B ys) (hm2 : m2 = ys.length) (hn2 : m2 ≤ 1048576) (hk : perOk xs = true) (hk2 : perOk ys = false) :
    Calls Try.prog 62 #[.slice A m c, .slice B m2 c2] w fun en w' => en = .returned (.tuple #[.bool (sameV xs ys), .bool (sameK xs ys)]) ∧ Below w.heap.size w w' := by
  have Hm := Lib.hid hm
  have Hm2 := Lib.hid hm2
  clear hm hm2
  have ho : sameK xs ys = false := sameK_no (.inr hk2)
  rw [sameV_no ho, ho]
  clear ho
  go_enter Try.func62, Try.ntmps62
  go_wp2_with fail
  refine (impl_PeriodOfRules_c _ _ _ _ xs hA Hm.out hn).mono ?_
  rintro e w1 ⟨rfl, b1⟩
  have hA_1 := hA.below b1
  have hB_1 := hB.below b1
  go_wp2_with fail
  refine (impl_PeriodOfRules_c _ _ _ _ ys hB_1 Hm2.out hn2).mono ?_
  rintro e w2 ⟨rfl, b2⟩
  have hA_2 := hA_1.below b2
  have hB_2 := hB_1.below b2
  have bb2 := b1.trans (b2.mono b1.size)
  go_wp2
  go_ret2
  exact ⟨rfl, bb2⟩

set_option maxRecDepth 100000 in
set_option maxHeartbeats 1600000 in
theorem impl_AreSame_3 (w : World) (A : Option Addr) (m c : Nat) (xs : List (Int × Int)) (hA : Rl w A xs) (hm : m = xs.length) (hn : m ≤ 1048576) (B : Option Addr) (m2 c2 : Nat) (ys : List (Int × Int)) (hB : Rl w B ys) (hm2 : m2 = ys.length) (hn2 : m2 ≤ 1048576) (hk : perOk xs = true) (hk2 : perOk ys = true) (hl : 100000 < lcmF (perF xs) (perF ys)) :
    Calls Try.prog 62 #[.slice A m c, .slice B m2 c2] w fun en w' => en = .returned (.tuple #[.bool (sameV xs ys), .bool (sameK xs ys)]) ∧ Below w.heap.size w w' := by
  have Hm := Lib.hid hm
  have Hm2 := Lib.hid hm2
  clear hm hm2
  have ho : sameK xs ys = false := sameK_big hk hk2 hl
  rw [sameV_no ho, ho]
  clear ho
  obtain ⟨ha, _, a1, a2⟩ := perOk_parts hk
  obtain ⟨hb, _, y1, y2⟩ := perOk_parts hk2
  have Va := Lib.hid (perV_is hk)
  have Vb := Lib.hid (perV_is hk2)
  clear ha hb
  go_enter Try.func62, Try.ntmps62
  go_wp2_with fail
  refine (impl_PeriodOfRules_c _ _ _ _ xs hA Hm.out hn).mono ?_
  rintro e w1 ⟨rfl, b1⟩
  have hA_1 := hA.below b1
  have hB_1 := hB.below b1
  go_wp2_with fail
  refine (impl_PeriodOfRules_c _ _ _ _ ys hB_1 Hm2.out hn2).mono ?_
  rintro e w2 ⟨rfl, b2⟩
  have hA_2 := hA_1.below b2
  have hB_2 := hB_1.below b2
  have bb2 := b1.trans (b2.mono b1.size)
  rw [Va.out, Vb.out]
  go_wp2_with fail
  refine (lcm_c _ _ _ a1 a2 y1 y2).mono ?_
  rintro e w3 ⟨rfl, n3, rfl⟩
  go_wp2
  go_ret2
  exact ⟨rfl, below_drewN (bb2) _⟩

set_option maxRecDepth 100000 in
set_option maxHeartbeats 1600000 in
theorem impl_AreSame_4 (w : World) (A : Option Addr) (m c : Nat) (xs : List (Int × Int)) (hA : Rl w A xs) (hm : m = xs.length) (hn : m ≤ 1048576) (B : Option Addr) (m2 c2 : Nat) (ys : List (Int × Int)) (hB : Rl w B ys) (hm2 : m2 = ys.length) (hn2 : m2 ≤ 1048576) (hk : perOk xs = true) (hk2 : perOk ys = true) (hl : ¬ 100000 < lcmF (perF xs) (perF ys)) :
    Calls Try.prog 62 #[.slice A m c, .slice B m2 c2] w fun en w' => en = .returned (.tuple #[.bool (sameV xs ys), .bool (sameK xs ys)]) ∧ Below w.heap.size w w' := by
  have Hm := Lib.hid hm
  have Hm2 := Lib.hid hm2
  clear hm hm2
  obtain ⟨ha, _, a1, a2⟩ := perOk_parts hk
  obtain ⟨hb, _, y1, y2⟩ := perOk_parts hk2
  have Va := Lib.hid (perV_is hk)
  have Vb := Lib.hid (perV_is hk2)
  obtain ⟨ho, hp⟩ := sameK_yes hk hk2 hl
  have hpos := lcmF_pos _ _ a1 y1
  obtain ⟨P, hP⟩ : ∃ P : Nat, lcmF (perF xs) (perF ys) = (P : Int) := ⟨(lcmF (perF xs) (perF ys)).toNat, by omega⟩
  have hP5 : P ≤ 100000 := by omega
  have hPi : ¬ 100000 < (P : Int) := by omega
  have hsame := same_Rs (leftF xs) (leftF ys) P
  rw [sameV_yes ho, ho, hp, hP, Int.toNat_natCast, ← hsame]
  have HP := Lib.hid hP
  have Ha := Lib.hid ha
  have Hb := Lib.hid hb
  clear ho hp hpos hP hsame hl ha hb
  go_enter Try.func62, Try.ntmps62
  go_wp2_with fail
  refine (impl_PeriodOfRules_c _ _ _ _ xs hA Hm.out hn).mono ?_
  rintro e w1 ⟨rfl, b1⟩
  have hA_1 := hA.below b1
  have hB_1 := hB.below b1
  go_wp2_with fail
  refine (impl_PeriodOfRules_c _ _ _ _ ys hB_1 Hm2.out hn2).mono ?_
  rintro e w2 ⟨rfl, b2⟩
  have hA_2 := hA_1.below b2
  have hB_2 := hB_1.below b2
  have bb2 := b1.trans (b2.mono b1.size)
  rw [Va.out, Vb.out]
  go_wp2_with fail
  refine (lcm_c _ _ _ a1 a2 y1 y2).mono ?_
  rintro e w3 ⟨rfl, n3, rfl⟩
  rw [HP.out]
  have hb3 := below_drewN (bb2) n3
  have hA3 := Rl.below hA hb3
  go_wp2_with fail
  refine (leftRests_c _ _ _ P xs _ hA3 Hm.out Ha.out hP5).mono ?_
  rintro e w4 ⟨rfl, o4, b4⟩
  have hb4 := hb3.trans (b4.mono hb3.size)
  have hB4 := Rl.below hB hb4
  go_wp2_with fail
  refine (leftRests_c _ _ _ P ys _ hB4 Hm2.out Hb.out hP5).mono ?_
  rintro e w5 ⟨rfl, o5, b5⟩
  have hb5 := hb4.trans (b5.mono hb4.size)
  have o4' := map_below o4 b5 (Nat.le_refl _)
  go_wp2_with fail
  refine (mapsEq_c _ _ _ _ _ _ _ o4' o5).mono ?_
  rintro e w6 ⟨rfl, b6⟩
  go_wp2
  go_ret2
  exact ⟨rfl, hb5.trans (b6.mono hb5.size)⟩

theorem spec_AreSameSieve_c (w : World) (A : Option Addr) (m c : Nat) (xs : List (Int × Int)) (hA : Rl w A xs) (hm : m = xs.length) (hn : m ≤ 1048576) (B : Option Addr) (m2 c2 : Nat) (ys : List (Int × Int)) (hB : Rl w B ys) (hm2 : m2 = ys.length) (hn2 : m2 ≤ 1048576) :
    Calls Try.prog 61 #[.slice A m c, .slice B m2 c2] w fun en w' => en = .returned (.tuple #[.bool (sameV xs ys), .bool (sameK xs ys)]) ∧ Below w.heap.size w w' := by
  by_cases hz : perF (xs ++ ys) = 0
  · exact spec_AreSame_no w A m c xs hA hm hn B m2 c2 ys hB hm2 hn2 hz
  · exact spec_AreSame_yes w A m c xs hA hm hn B m2 c2 ys hB hm2 hn2 hz
theorem impl_AreSameSieve_c (w : World) (A : Option Addr) (m c : Nat) (xs : List (Int × Int)) (hA : Rl w A xs) (hm : m = xs.length) (hn : m ≤ 1048576) (B : Option Addr) (m2 c2 : Nat) (ys : List (Int × Int)) (hB : Rl w B ys) (hm2 : m2 = ys.length) (hn2 : m2 ≤ 1048576) :
    Calls Try.prog 62 #[.slice A m c, .slice B m2 c2] w fun en w' => en = .returned (.tuple #[.bool (sameV xs ys), .bool (sameK xs ys)]) ∧ Below w.heap.size w w' := by
  cases hk : perOk xs with
  | false => exact impl_AreSame_1 w A m c xs hA hm hn B m2 c2 ys hB hm2 hn2 hk
  | true =>
    cases hk2 : perOk ys with
    | false => exact impl_AreSame_2 w A m c xs hA hm hn B m2 c2 ys hB hm2 hn2 hk hk2
    | true =>
      by_cases hl : 100000 < lcmF (perF xs) (perF ys)
      · exact impl_AreSame_3 w A m c xs hA hm hn B m2 c2 ys hB hm2 hn2 hk hk2 hl
      · exact impl_AreSame_4 w A m c xs hA hm hn B m2 c2 ys hB hm2 hn2 hk hk2 hl

end Go.Proofs.Ytbaimgdnajompaa
