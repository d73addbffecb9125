import Derived.Test.YtaapfapejekkfaaGD
import Derived.Test.YtaapfapejekkfaaG6
namespace Go.Proofs.Ytaapfapejekkfaa
open Go.RowKit Go.Maps
set_option linter.unusedVariables false
set_option linter.unusedSimpArgs false

set_option maxRecDepth 100000 in
set_option maxHeartbeats 1000000 in
theorem isSmooth_c (w : World) (N : Nat) (bo : Int) (h1 : 1 ≤ N) (h9 : N ≤ 1000000000) :
    Calls Try.prog 193 #[.int .i64 (N : Int), .int .i64 bo] w fun en w' => en = .returned (.bool (smB N bo)) ∧ Below w.heap.size w w' := by
  have hnd := fks_nodup N
  go_enter Try.func193, Try.ntmps193
  go_wp2_with fail
  refine (exponentsOf_c _ N h1 h9).mono ?_
  rintro e w2 ⟨rfl, ⟨D, hown, hK, -⟩, b2⟩
  have hK2 := fks_keys h1 hK
  have HK2 := Lib.hid hK2
  have hs2 := b2.size
  clear hK hK2
  go_wp2_with (first
    | (at_range; refine wpList_range_own _ rfl _ 116 rfl 3 3 keyI Try.underlying116 _ w.heap.size N _ rfl hown ?_; intro w0 hrg0 hg0 hs0)
    | go_in)
  go_frame
  go_loopw [5] (fun _ wr => ∃ (left : Lit → Bool) (cnt : Nat) (rem : List Nat), wr.ranges Try.prog 3 (plainElem Try.prog 3) w.heap.size w2.heap.size N D left cnt ∧ KeysL left rem ∧ rem.Nodup ∧ (∀ p ∈ rem, p ∈ fks N) ∧ (∀ p ∈ fks N, p ∈ rem ∨ (p : Int) ≤ bo) ∧ Below w.heap.size w wr) (fun _ wr => wr.rangeLeft w.heap.size w2.heap.size)
  case atStart => exact ⟨_, _, fks N, hrg0, HK2.out, hnd, fun p hp => hp, fun p hp => .inl hp, b2.grown hg0 hs2 (fun j hj => by cases hj)⟩
  case round =>
    clear hrg0 hg0 hs0 HK2 hown hnd
    obtain ⟨left, cnt, rem, hrg, hKL, hnr, hsub, hall, hbel⟩ := hrel
    have Hsub := Lib.hid hsub
    have Hall := Lib.hid hall
    have HKL := Lib.hid hKL
    clear hsub hall hKL
    go_wp2_with (first
      | (at_next; refine wpList_next_ranges_ii _ rfl _ rfl 3 3 .i64 .i64 keyI Try.underlying3 Try.underlying3 w.heap.size w2.heap.size N _ _ _ rfl hrg ?_ ?_)
      | go_in)
    · intro _ hl0
      have He := Lib.hid (HKL.out.none hl0)
      have Hy := Lib.hid (smB_yes (N := N) (b := bo) fun p hp => (Hall.out p hp).resolve_left (by rw [He.out]; exact List.not_mem_nil))
      clear hl0
      go_wp2
      go_ret
      exact ⟨by rw [Hy.out]; rfl, hbel⟩
    · intro x c w1 cnt1 hwx hwc hlx hat hrg1 hlt hg1 hs1 hen
      obtain ⟨p, rfl, hp⟩ := HKL.out.mem hlx
      have hbel1 := hbel.grown hg1 hbel.size (fun j hj => by cases hj; exact hs2)
      have hpf := Hsub.out p hp
      by_cases hb : (p : Int) ≤ bo
      · have HKL2 := Lib.hid (HKL.out.step hnr p)
        have Hnr2 := Lib.hid (hnr.erase p)
        have Hsub2 := Lib.hid (fun y (hy : y ∈ rem.erase p) => Hsub.out y (List.mem_of_mem_erase hy))
        have Hall2 := Lib.hid (fun y (hy : y ∈ fks N) => show y ∈ rem.erase p ∨ (y : Int) ≤ bo by
          by_cases e : y = p
          · subst e; exact .inr hb
          · rcases Hall.out y hy with h | h
            · exact .inl ((hnr.mem_erase_iff).2 ⟨e, h⟩)
            · exact .inr h)
        clear hwx hwc hlx hat hp hpf
        go_wp2
        go_roundw
        case rel => exact ⟨_, cnt1, rem.erase p, hrg1, HKL2.out, Hnr2.out, Hsub2.out, Hall2.out, hbel1⟩
        case measure => rw [hrg1.left_eq, hrg.left_eq]; exact hlt
      · have Hno := Lib.hid (smB_no hpf (show bo < (p : Int) by omega))
        clear hwx hwc hlx hat hp hpf
        go_wp2
        go_ret
        exact ⟨by rw [Hno.out]; rfl, hbel1⟩

def isOk (n b : Int) : Bool := inB n 1 1000000000 && decide (1 ≤ b)
def isV (n b : Int) : Bool := isOk n b && smB n.toNat b
theorem isV_no {n b : Int} (h : isOk n b = false) : isV n b = false := by rw [isV, h]; rfl
theorem isV_yes {n : Nat} {b : Int} (h : isOk (n : Int) b = true) : isV (n : Int) b = smB n b := by rw [isV, h, Int.toNat_natCast]; rfl
set_option maxRecDepth 100000 in
set_option maxHeartbeats 400000 in
theorem spec_IsSmooth_c (w : World) (n b : Int) :
    Calls Try.prog 43 #[.int .i64 n, .int .i64 b] w fun en w' => en = .returned (.tuple #[.bool (isV n b), .bool (isOk n b)]) ∧ Below w.heap.size w w' := by
  cases hg : inB n 1 1000000000 with
  | false =>
    have ho : isOk n b = false := by simp [isOk, *]
    rw [isV_no ho, ho]
    clear ho
    go_enter Try.func43, Try.ntmps43
    go_wp2_with fail
    refine (prFactored_c _ _).mono ?_
    rintro e w1 ⟨rfl, rfl⟩
    go_wp2
    go_ret2
    exact ⟨rfl, (Below.refl _ _)⟩
  | true =>
    by_cases hh : 1 ≤ b
    rotate_left
    · skip
      have ho : isOk n b = false := by simp [isOk, *]
      rw [isV_no ho, ho]
      clear ho
      go_enter Try.func43, Try.ntmps43
      go_wp2_with fail
      refine (prFactored_c _ _).mono ?_
      rintro e w1 ⟨rfl, rfl⟩
      go_wp2
      go_ret2
      exact ⟨rfl, (Below.refl _ _)⟩
    · skip
      have ho : isOk n b = true := by simp [isOk, *]
      obtain ⟨n1, n2⟩ := inB_true.1 hg
      obtain ⟨N, rfl⟩ := Int.eq_ofNat_of_zero_le (Int.le_trans (by omega) n1)
      rw [isV_yes ho, ho]
      clear ho
      have Hg := Lib.hid hg
      go_enter Try.func43, Try.ntmps43
      go_wp2_with fail
      refine (prFactored_c _ _).mono ?_
      rintro e w1 ⟨rfl, rfl⟩
      go_wp2_with fail
      refine (prSmooth_c _ N b (by omega) (by omega)).mono ?_
      rintro e w2 ⟨rfl, b2⟩
      go_wp2
      go_ret2
      exact ⟨rfl, b2⟩
set_option maxRecDepth 100000 in
set_option maxHeartbeats 400000 in
theorem impl_IsSmooth_c (w : World) (n b : Int) :
    Calls Try.prog 39 #[.int .i64 n, .int .i64 b] w fun en w' => en = .returned (.tuple #[.bool (isV n b), .bool (isOk n b)]) ∧ Below w.heap.size w w' := by
  cases hg : inB n 1 1000000000 with
  | false =>
    have ho : isOk n b = false := by simp [isOk, *]
    rw [isV_no ho, ho]
    clear ho
    go_enter Try.func39, Try.ntmps39
    go_wp2_with fail
    refine (isFactored_c _ _).mono ?_
    rintro e w1 ⟨rfl, rfl⟩
    go_wp2
    go_ret2
    exact ⟨rfl, (Below.refl _ _)⟩
  | true =>
    by_cases hh : 1 ≤ b
    rotate_left
    · skip
      have ho : isOk n b = false := by simp [isOk, *]
      rw [isV_no ho, ho]
      clear ho
      go_enter Try.func39, Try.ntmps39
      go_wp2_with fail
      refine (isFactored_c _ _).mono ?_
      rintro e w1 ⟨rfl, rfl⟩
      go_wp2
      go_ret2
      exact ⟨rfl, (Below.refl _ _)⟩
    · skip
      have ho : isOk n b = true := by simp [isOk, *]
      obtain ⟨n1, n2⟩ := inB_true.1 hg
      obtain ⟨N, rfl⟩ := Int.eq_ofNat_of_zero_le (Int.le_trans (by omega) n1)
      rw [isV_yes ho, ho]
      clear ho
      have Hg := Lib.hid hg
      go_enter Try.func39, Try.ntmps39
      go_wp2_with fail
      refine (isFactored_c _ _).mono ?_
      rintro e w1 ⟨rfl, rfl⟩
      go_wp2_with fail
      refine (isSmooth_c _ N b (by omega) (by omega)).mono ?_
      rintro e w2 ⟨rfl, b2⟩
      go_wp2
      go_ret2
      exact ⟨rfl, b2⟩

end Go.Proofs.Ytaapfapejekkfaa
