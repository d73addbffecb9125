import Derived.Test.YtaapfapejekkfaaW1
namespace Go.Proofs.Ytaapfapejekkfaa
open Go.RowKit
set_option linter.unusedVariables false
set_option linter.unusedSimpArgs false

theorem csV_len (rs : List (Int × Int)) : csV rs = ((spV rs).length : Int) := by
  cases h : whB rs with
  | false => rw [csV_no h, spV_no h]; rfl
  | true => rw [csV_yes h, spV_yes h]

theorem WheelV.parts {w : World} {B : Nat} {v : Value} {rs : List (Int × Int)} (h : WheelV w B v rs) : ∃ A1 c1 A2 c2, v = .agg #[.int .i64 (whP rs : Int), .slice A1 (spV rs).length c1, .slice A2 (stV rs).length c2] ∧ HeadI w B (.slice A1 (spV rs).length c1) (spV rs) ∧ OwnI w B (.slice A2 (stV rs).length c2) (stV rs) := by
  obtain ⟨vs, vt, rfl, hh, ht⟩ := h
  obtain ⟨A1, c1, rfl⟩ := hh.shape
  obtain ⟨A2, c2, rfl⟩ := ht.shape
  exact ⟨A1, c1, A2, c2, rfl, hh, ht⟩

set_option maxRecDepth 100000 in
set_option maxHeartbeats 400000 in
theorem impl_CountSpokes_c (w : World) (A : Option Addr) (m c : Nat) (rs : List (Int × Int)) (hA : Rl w A rs) (hm : m = rs.length) (hn : m ≤ 1048576) :
    Calls Try.prog 57 #[.slice A m c] w fun en w' => en = .returned (.tuple #[.int .i64 (csV rs), .bool (whB rs)]) ∧ Below w.heap.size w w' := by
  have Hm := Lib.hid hm
  clear hm
  have Hcs := Lib.hid (csV_len rs)
  go_enter Try.func57, Try.ntmps57
  go_wp2_with fail
  refine (wheelOf_c _ _ _ _ rs hA Hm.out hn).mono ?_
  rintro e w1 ⟨⟨v1, rfl, hv⟩, b1⟩
  obtain ⟨A1, c1, A2, c2, rfl, hh, ht⟩ := hv.parts
  go_wp2
  go_ret2
  exact ⟨by rw [Hcs.out]; rfl, b1.alloc b1.size _⟩

set_option maxRecDepth 100000 in
set_option maxHeartbeats 400000 in
theorem impl_SpokesOf_c (w : World) (A : Option Addr) (m c : Nat) (rs : List (Int × Int)) (hA : Rl w A rs) (hm : m = rs.length) (hn : m ≤ 1048576) :
    Calls Try.prog 53 #[.slice A m c] w fun en w' => (∃ v, en = .returned (.tuple #[v, .bool (whB rs)]) ∧ HeadI w' w.heap.size v (spV rs)) ∧ Below w.heap.size w w' := by
  have Hm := Lib.hid hm
  clear hm
  go_enter Try.func53, Try.ntmps53
  go_wp2_with fail
  refine (wheelOf_c _ _ _ _ rs hA Hm.out hn).mono ?_
  rintro e w1 ⟨⟨v1, rfl, hv⟩, b1⟩
  obtain ⟨A1, c1, A2, c2, rfl, hh, ht⟩ := hv.parts
  go_wp2
  go_ret2
  exact ⟨⟨_, rfl, hh.below ((Below.refl _ _).alloc (Nat.le_refl _) _)⟩, b1.alloc b1.size _⟩

set_option maxRecDepth 100000 in
set_option maxHeartbeats 400000 in
theorem impl_StepsOf_c (w : World) (A : Option Addr) (m c : Nat) (rs : List (Int × Int)) (hA : Rl w A rs) (hm : m = rs.length) (hn : m ≤ 1048576) :
    Calls Try.prog 55 #[.slice A m c] w fun en w' => (∃ v, en = .returned (.tuple #[v, .bool (whB rs)]) ∧ OwnI w' w.heap.size v (stV rs)) ∧ Below w.heap.size w w' := by
  have Hm := Lib.hid hm
  clear hm
  go_enter Try.func55, Try.ntmps55
  go_wp2_with fail
  refine (wheelOf_c _ _ _ _ rs hA Hm.out hn).mono ?_
  rintro e w1 ⟨⟨v1, rfl, hv⟩, b1⟩
  obtain ⟨A1, c1, A2, c2, rfl, hh, ht⟩ := hv.parts
  go_wp2
  go_ret2
  exact ⟨⟨_, rfl, ht.below ((Below.refl _ _).alloc (Nat.le_refl _) _)⟩, b1.alloc b1.size _⟩

set_option maxRecDepth 100000 in
set_option maxHeartbeats 400000 in
theorem impl_IsSpoke_c (w : World) (A : Option Addr) (m c : Nat) (rs : List (Int × Int)) (hA : Rl w A rs) (hm : m = rs.length) (hn : m ≤ 1048576) (n : Int) :
    Calls Try.prog 49 #[.slice A m c, .int .i64 n] w fun en w' => en = .returned (.tuple #[.bool (isW rs n), .bool (isO rs n)]) ∧ Below w.heap.size w w' := by
  have Hm := Lib.hid hm
  clear hm
  have hw := wheelOf_c w A m c rs hA Hm.out hn
  cases hg : whB rs with
  | false =>
    have ho : isO rs n = false := by simp [isO, *]
    rw [isW_no ho, ho]
    rw [hg] at hw
    have Hw := Lib.hid hw
    clear ho hw
    go_enter Try.func49, Try.ntmps49
    go_wp2_with fail
    refine Hw.out.mono ?_
    rintro e w1 ⟨⟨v1, rfl, hv⟩, b1⟩
    obtain ⟨A1, c1, A2, c2, rfl, hh, ht⟩ := hv.parts
    go_wp2
    go_ret2
    exact ⟨rfl, b1.alloc b1.size _⟩
  | true =>
    rw [hg] at hw
    have Hw := Lib.hid hw
    clear hw
    cases hk : inB n 0 1000000000 with
    | false =>
      have ho : isO rs n = false := by simp [isO, *]
      rw [isW_no ho, ho]
      clear ho
      go_enter Try.func49, Try.ntmps49
      go_wp2_with fail
      refine Hw.out.mono ?_
      rintro e w1 ⟨⟨v1, rfl, hv⟩, b1⟩
      obtain ⟨A1, c1, A2, c2, rfl, hh, ht⟩ := hv.parts
      go_wp2_with fail
      refine (isFar_c _ _).mono ?_
      rw [hk]
      rintro e w2 ⟨rfl, rfl⟩
      go_wp2
      go_ret2
      exact ⟨rfl, b1.alloc b1.size _⟩
    | true =>
      have ho : isO rs n = true := by simp [isO, *]
      rw [isW_yes ho, ho]
      obtain ⟨n1, n2⟩ := inB_true.1 hk
      have Hgl := Lib.hid (whB_parts hg).1
      clear ho
      go_enter Try.func49, Try.ntmps49
      go_wp2_with fail
      refine Hw.out.mono ?_
      rintro e w1 ⟨⟨v1, rfl, hv⟩, b1⟩
      obtain ⟨A1, c1, A2, c2, rfl, hh, ht⟩ := hv.parts
      have b2 := b1.alloc b1.size (.cells #[.int .i64 (whP rs : Int), Value.slice A1 (spV rs).length c1, Value.slice A2 (stV rs).length c2] 130)
      have R2 := hA.below b2
      go_wp2_with fail
      refine (isFar_c _ _).mono ?_
      rw [hk]
      rintro e w2 ⟨rfl, rfl⟩
      go_wp2_with fail
      refine (isLeft_c _ _ _ rs _ _ R2 Hm.out Hgl.out (by omega) (by omega)).mono ?_
      rintro e w3 ⟨rfl, b3⟩
      go_wp2
      go_ret2
      exact ⟨rfl, b2.trans (b3.mono b2.size)⟩

end Go.Proofs.Ytaapfapejekkfaa
