import Derived.Test.YtkpililllihgcabZ2
import Derived.Test.YtkpililllihgcabU4
import Derived.Test.YtkpililllihgcabP0
import Derived.Deep.RegionLaw
namespace Go.Proofs.Ytkpililllihgcab
open Go.RowKit
set_option linter.unusedVariables false
set_option linter.unusedSimpArgs false

set_option maxRecDepth 100000 in
set_option maxHeartbeats 400000 in
theorem isSumOfThree_c (w : World) (N : Nat) (h1 : 1 ≤ N) (h9 : N ≤ 200000) :
    Calls Try.prog 63 #[.int .i64 (N : Int)] w fun e w' => e = .returned (.bool (t3B N)) ∧ Below w.heap.size w w' := by
  go_enter Try.func63, Try.ntmps63
  go_wp2
  go_loopw [0] (fun i wr => ∃ y : Nat, i = .int .i64 (y : Int) ∧ 1 ≤ y ∧ y ≤ N ∧ strR 4 y = strR 4 N ∧ w = wr) (fun i _ => (intOf i).toNat)
  case atStart => exact ⟨N, rfl, h1, Nat.le_refl _, rfl, rfl⟩
  case round =>
    obtain ⟨y, rfl, hy1, hyx, hr, rfl⟩ := hrel
    by_cases hm : y % 4 = 0
    · obtain ⟨e1, e2⟩ := str_yes (p := 4) (by omega) hy1 hm
      have hm2 : ((y : Int) % 4 == 0) = true := by rw [beq_iff_eq]; omega
      obtain ⟨Y, hY⟩ : ∃ Y, y / 4 = Y := ⟨_, rfl⟩
      rw [hY] at e2
      have hYi : (y : Int) / 4 = (Y : Int) := by omega
      have hY1 : 1 ≤ Y := by omega
      have hY2 : Y < y := by omega
      have He := Lib.hid (e2.symm.trans hr)
      clear hr hm hY e1 e2
      go_wp2_with fail
      go_roundw
      case rel => exact ⟨Y, rfl, hY1, by omega, He.out, by first | rfl | trivial⟩
      case measure => simp [intOf]; omega
    · obtain ⟨e1, e2⟩ := str_no (p := 4) hy1 hm
      have hm2 : ((y : Int) % 4 == 0) = false := beq_eq_false_iff_ne.2 (by omega)
      have Hb : Hid (t3B N = ((y : Int) % 8 != 7)) := by
        show _ = _
        rw [t3B, ← hr, e2, Bool.eq_iff_iff]
        simp
        omega
      clear hr hm e1 e2
      go_wp2
      go_ret
      exact ⟨by rw [Hb.out]; rfl, Below.refl _ _⟩

set_option maxRecDepth 100000 in
set_option maxHeartbeats 400000 in
theorem told_IsSumOfThree_c (w : World) (n : Int) :
    Calls Try.prog 44 #[.int .i64 n, .func (.func 63) #[] #[]] w fun en w' => en = .returned (.tuple #[.bool (t3V n), .bool (sqOk n)]) ∧ Below w.heap.size w w' := by
  have Hc := Lib.hid (fun W => toldB_c W n 100000 (by omega) 63 (fun N => t3B N) (fun _ _ => rfl) fun W N a b => isSumOfThree_c W N a (by omega))
  go_enter Try.func44, Try.ntmps44
  go_wp2_with fail
  refine (Hc.out _).mono ?_
  rintro e w2 ⟨rfl, b2⟩
  go_wp2
  go_ret2
  exact ⟨rfl, b2⟩
theorem impl_IsSumOfThree_c (w : World) (n : Int) :
    Calls Try.prog 35 #[.int .i64 n] w fun en w' => en = .returned (.tuple #[.bool (t3V n), .bool (sqOk n)]) ∧ Below w.heap.size w w' := by
  go_enter Try.func35, Try.ntmps35
  go_wp2_with fail
  refine (told_IsSumOfThree_c _ _).mono ?_
  rintro e w2 ⟨rfl, b2⟩
  go_wp2
  go_ret2
  exact ⟨rfl, b2⟩

theorem twB_no {N p : Nat} (h : p ∈ fks N) (h2 : (p : Int) % 4 = 3) (h3 : (exF N p : Int) % 2 ≠ 0) : sq2B N = false := by
  obtain ⟨x, hx, rfl⟩ := fks_mem.1 h
  rw [exF_of hx] at h3
  rw [sq2B, List.all_eq_false]
  refine ⟨x, hx, ?_⟩
  have e1 : x.1 % 4 = 3 := by omega
  have e2 : x.2 % 2 = 1 := by omega
  rw [twG, e1, e2]
  decide
theorem twB_yes {N : Nat} (h : ∀ p ∈ fks N, ¬ ((p : Int) % 4 = 3 ∧ (exF N p : Int) % 2 ≠ 0)) : sq2B N = true := by
  rw [sq2B, List.all_eq_true]
  intro x hx
  have h2 := h x.1 (fks_mem.2 ⟨x, hx, rfl⟩)
  rw [exF_of hx] at h2
  rw [twG, Bool.not_eq_true', Bool.and_eq_false_iff, beq_eq_false_iff_ne, beq_eq_false_iff_ne]
  by_cases e : x.1 % 4 = 3
  · right
    intro e2
    exact h2 ⟨by omega, by omega⟩
  · exact .inl e
set_option maxRecDepth 100000 in
set_option maxHeartbeats 1000000 in
theorem isSumOfTwo_c (w : World) (N : Nat) (h1 : 1 ≤ N) (h9 : N ≤ 200000) :
    Calls Try.prog 62 #[.int .i64 (N : Int)] w fun en w' => en = .returned (.bool (sq2B N)) ∧ Below w.heap.size w w' := by
  have hnd := fks_nodup N
  have Hps := Lib.hid (fks_pos h1)
  go_enter Try.func62, Try.ntmps62
  go_wp2_with fail
  refine (exponentsOf_c _ N h1 (by omega)).mono ?_
  rintro e w2 ⟨rfl, ⟨D, hown, hK, hC⟩, b2⟩
  have hK2 := fks_keys h1 hK
  have HK2 := Lib.hid hK2
  have HC := Lib.hid hC
  have hs2 := b2.size
  clear hK hK2 hC
  go_wp2_with (first
    | (at_range; refine wpList_range_own _ rfl _ 49 rfl 3 3 keyI Try.underlying49 _ w.heap.size N _ rfl hown ?_; intro w0 hrg0 hg0 hs0)
    | go_in)
  go_frame
  go_loopw [3, 4] (fun _ _ wr => ∃ (left : Lit → Bool) (cnt : Nat) (rem : List Nat), wr.ranges Try.prog 3 (plainElem Try.prog 3) w.heap.size w2.heap.size N D left cnt ∧ KeysL left rem ∧ rem.Nodup ∧ (∀ p ∈ rem, p ∈ fks N) ∧ (∀ p ∈ fks N, p ∈ rem ∨ ¬ ((p : Int) % 4 = 3 ∧ (exF N p : Int) % 2 ≠ 0)) ∧ Below w.heap.size w wr) (fun _ _ wr => wr.rangeLeft w.heap.size w2.heap.size)
  case atStart => exact ⟨_, _, fks N, hrg0, HK2.out, hnd, fun p hp => hp, fun p hp => .inl hp, b2.grown hg0 hs2 (fun j hj => by cases hj)⟩
  case round =>
    clear hrg0 hg0 hs0 HK2 hown hnd
    obtain ⟨left, cnt, rem, hrg, hKL, hnr, hsub, hall, hbel⟩ := hrel
    have Hsub := Lib.hid hsub
    have Hall := Lib.hid hall
    have HKL := Lib.hid hKL
    clear hsub hall hKL
    go_wp2_with (first
      | (at_next; refine wpList_next_ranges_ii _ rfl _ rfl 3 3 .i64 .i64 keyI Try.underlying3 Try.underlying3 w.heap.size w2.heap.size N _ _ _ rfl hrg ?_ ?_)
      | go_in)
    · intro _ hl0
      have He := Lib.hid (HKL.out.none hl0)
      have Hy := Lib.hid (twB_yes (N := N) fun p hp => (Hall.out p hp).resolve_left (by rw [He.out]; exact List.not_mem_nil))
      clear hl0
      go_wp2
      go_ret
      exact ⟨by rw [Hy.out]; rfl, hbel⟩
    · intro x c w1 cnt1 hwx hwc hlx hat hrg1 hlt hg1 hs1 hen
      obtain ⟨p, rfl, hp⟩ := HKL.out.mem hlx
      obtain rfl := HC.out.val hat
      have hbel1 := hbel.grown hg1 hbel.size (fun j hj => by cases hj; exact hs2)
      have hpf := Hsub.out p hp
      obtain ⟨hp2, hpN⟩ := Hps.out p hpf
      have hee := exF_le h1 p
      have Hno := Lib.hid (fun a b => twB_no hpf a b)
      have HKL2 := Lib.hid (HKL.out.step hnr p)
      have Hnr2 := Lib.hid (hnr.erase p)
      have Hsub2 := Lib.hid (fun y (hy : y ∈ rem.erase p) => Hsub.out y (List.mem_of_mem_erase hy))
      have Hall2 : Hid (¬ ((p : Int) % 4 = 3 ∧ (exF N p : Int) % 2 ≠ 0) → ∀ y ∈ fks N, y ∈ rem.erase p ∨ ¬ ((y : Int) % 4 = 3 ∧ (exF N y : Int) % 2 ≠ 0)) := fun hx y hy => by
        by_cases e2 : y = p
        · subst e2; exact .inr hx
        · rcases Hall.out y hy with h | h
          · exact .inl ((hnr.mem_erase_iff).2 ⟨e2, h⟩)
          · exact .inr h
      obtain ⟨e, he⟩ : ∃ e, exF N p = e := ⟨_, rfl⟩
      rw [he] at hee hat hen Hno Hall2
      clear hwx hwc hlx hat hp hpf he Hall HKL Hsub hnr
      by_cases h3 : (p : Int) % 4 = 3
      · have hb1 : ((p : Int) % 4 == 3) = true := by rw [beq_iff_eq]; exact h3
        by_cases h2 : (e : Int) % 2 = 0
        · have hb2 : ((e : Int) % 2 != 0) = false := by rw [h2]; rfl
          have Ha := Lib.hid (Hall2.out fun hx => hx.2 h2)
          clear h3 h2 Hall2 Hno
          go_wp2
          go_roundw
          case rel => exact ⟨_, cnt1, rem.erase p, hrg1, HKL2.out, Hnr2.out, Hsub2.out, Ha.out, hbel1⟩
          case measure => rw [hrg1.left_eq, hrg.left_eq]; exact hlt
        · have hb2 : ((e : Int) % 2 != 0) = true := bne_iff_ne.2 h2
          have Hn := Lib.hid (Hno.out h3 h2)
          clear h3 h2 Hall2 Hno
          go_wp2
          go_ret
          exact ⟨by rw [Hn.out]; rfl, hbel1⟩
      · have hb1 : ((p : Int) % 4 == 3) = false := beq_eq_false_iff_ne.2 h3
        have Ha := Lib.hid (Hall2.out fun hx => h3 hx.1)
        clear h3 Hall2 Hno
        go_wp2
        go_roundw
        case rel => exact ⟨_, cnt1, rem.erase p, hrg1, HKL2.out, Hnr2.out, Hsub2.out, Ha.out, hbel1⟩
        case measure => rw [hrg1.left_eq, hrg.left_eq]; exact hlt

set_option maxRecDepth 100000 in
set_option maxHeartbeats 400000 in
theorem told_IsSumOfTwo_c (w : World) (n : Int) :
    Calls Try.prog 44 #[.int .i64 n, .func (.func 62) #[] #[]] w fun en w' => en = .returned (.tuple #[.bool (i2V n), .bool (sqOk n)]) ∧ Below w.heap.size w w' := by
  have Hc := Lib.hid (fun W => toldB_c W n 100000 (by omega) 62 (fun N => sq2B N) (fun _ _ => rfl) fun W N a b => isSumOfTwo_c W N a (by omega))
  go_enter Try.func44, Try.ntmps44
  go_wp2_with fail
  refine (Hc.out _).mono ?_
  rintro e w2 ⟨rfl, b2⟩
  go_wp2
  go_ret2
  exact ⟨rfl, b2⟩
theorem impl_IsSumOfTwo_c (w : World) (n : Int) :
    Calls Try.prog 33 #[.int .i64 n] w fun en w' => en = .returned (.tuple #[.bool (i2V n), .bool (sqOk n)]) ∧ Below w.heap.size w w' := by
  go_enter Try.func33, Try.ntmps33
  go_wp2_with fail
  refine (told_IsSumOfTwo_c _ _).mono ?_
  rintro e w2 ⟨rfl, b2⟩
  go_wp2
  go_ret2
  exact ⟨rfl, b2⟩


set_option maxRecDepth 100000 in
set_option maxHeartbeats 800000 in
theorem countSquareFree_c (w : World) (N : Nat) (h1 : 1 ≤ N) (h9 : N ≤ 100000) :
    Calls Try.prog 51 #[.int .i64 (N : Int)] w fun e w' => e = .returned (.int .i64 (csS N (rtF N))) ∧ Below w.heap.size w w' := by
  have hrt := rtF_lt (n := N) (by omega)
  obtain ⟨T, hT⟩ : ∃ T, rtF N = T := ⟨_, rfl⟩
  have HT := Lib.hid hT
  rw [hT] at hrt ⊢
  clear hT
  go_enter Try.func51, Try.ntmps51
  go_wp2
  go_loopw [3, 4] (fun s r wr => ∃ k : Nat, k ≤ T ∧ r = .int .i64 ((k : Int) + 1) ∧ s = .int .i64 (csS N k) ∧ Below w.heap.size w wr) (fun _ i _ => 449 - (intOf i).toNat)
  case atStart => exact ⟨0, Nat.zero_le _, rfl, rfl, Below.refl _ _⟩
  case round =>
    obtain ⟨k, hk, rfl, rfl, hbel⟩ := hrel
    have hs := hbel.size
    have hbn := csS_bound N k
    have hb9 : k * N ≤ 44700000 := by have := Nat.mul_le_mul (show k ≤ 447 by omega) h9; omega
    obtain ⟨D, hD⟩ : ∃ D, (k + 1) * (k + 1) = D := ⟨_, rfl⟩
    have hDi : ((k : Int) + 1) * ((k : Int) + 1) = (D : Int) := cast_sq hD
    have hD9 : D ≤ 200704 := by have := Nat.mul_le_mul (show k + 1 ≤ 448 by omega) (show k + 1 ≤ 448 by omega); omega
    have hD1 : 1 ≤ D := by have := Nat.mul_le_mul (show 1 ≤ k + 1 by omega) (show 1 ≤ k + 1 by omega); omega
    have hz : ((D : Int) == 0) = false := beq_eq_false_iff_ne.2 (by omega)
    have HD := Lib.hid hD
    have Hst := Lib.hid (show csS N (k + 1) = csS N k + sgF (k + 1) * ((N / D : Nat) : Int) by rw [csS, hD])
    clear hD
    obtain ⟨S, hS⟩ : ∃ S, csS N k = S := ⟨_, rfl⟩
    rw [hS] at hbn Hst ⊢
    have hbS : -44700000 ≤ S ∧ S ≤ 44700000 := by omega
    clear hbn hb9
    have HS := Lib.hid hS
    clear hS
    by_cases hlt : D ≤ N
    · have hk2 : k + 1 ≤ T := by rw [← HT.out]; exact rtF_more (by rw [HD.out]; exact hlt)
      have hq := Nat.div_le_self N D
      obtain ⟨Q, hQ⟩ : ∃ Q, N / D = Q := ⟨_, rfl⟩
      have hQi : (N : Int) / (D : Int) = (Q : Int) := by rw [← hQ, Int.natCast_ediv]
      rw [hQ] at hq Hst
      have hg := sg_mul (k + 1) Q
      have hgb := sgF_bound (k + 1)
      have Hc := Lib.hid (fun W => sign_c W (k + 1) (by omega) (by omega))
      rw [show ((k + 1 : Nat) : Int) = (k : Int) + 1 by omega] at Hc
      obtain ⟨G, hG⟩ : ∃ G, sgF (k + 1) = G := ⟨_, rfl⟩
      rw [hG] at hg hgb Hst Hc
      obtain ⟨M, hM⟩ : ∃ M, G * (Q : Int) = M := ⟨_, rfl⟩
      rw [hM] at hg Hst
      have hw1 : IntKind.i64.wrap (D : Int) = (D : Int) := IntWalk.i64_in _ (by omega)
      have hw2 : IntKind.i64.wrap (Q : Int) = (Q : Int) := IntWalk.i64_in _ (by omega)
      have hw3 : IntKind.i64.wrap M = M := IntWalk.i64_in _ (by omega)
      have hw4 : IntKind.i64.wrap (S + M) = S + M := IntWalk.i64_in _ (by omega)
      have hne : ¬ D = 0 := by omega
      clear hG hQ
      go_wp2_with fail
      go_region_law (first | (go_simp; go_at_call 49; (refine (Hc.out _).mono ?_; rintro e w5 ⟨rfl, b5⟩)) | fail)
      all_goals clear hw1 hw2 hw3 hw4 hne
      all_goals go_wp2_with fail
      all_goals go_roundw
      all_goals try (case rel => exact ⟨k + 1, hk2, by go_num, by rw [Hst.out], (hbel.trans (show Below w.heap.size wr wr.drew from ⟨rfl, rfl, rfl, Nat.le_refl _, fun _ _ => rfl⟩)).trans (b5.mono hs)⟩)
      all_goals try (case measure => simp [intOf]; omega)
    · have Hk := Lib.hid (show k = T by rw [← HT.out]; exact rtF_stop (by rw [HT.out]; exact hk) (by rw [HD.out]; omega))
      go_wp2
      go_ret
      exact ⟨by rw [← Hk.out, HS.out]; rfl, hbel⟩

set_option maxRecDepth 100000 in
set_option maxHeartbeats 400000 in
theorem told_CountSquareFree_c (w : World) (n : Int) :
    Calls Try.prog 46 #[.int .i64 n, .func (.func 51) #[] #[]] w fun en w' => en = .returned (.tuple #[.int .i64 (cqV n), .bool (sqOk n)]) ∧ Below w.heap.size w w' := by
  have Hc := Lib.hid (fun W => toldI_c W n 100000 (by omega) 51 (fun N => csS N (rtF N)) (fun _ _ => rfl) fun W N a b => countSquareFree_c W N a (by omega))
  go_enter Try.func46, Try.ntmps46
  go_wp2_with fail
  refine (Hc.out _).mono ?_
  rintro e w2 ⟨rfl, b2⟩
  go_wp2
  go_ret2
  exact ⟨rfl, b2⟩
theorem impl_CountSquareFree_c (w : World) (n : Int) :
    Calls Try.prog 22 #[.int .i64 n] w fun en w' => en = .returned (.tuple #[.int .i64 (cqV n), .bool (sqOk n)]) ∧ Below w.heap.size w w' := by
  go_enter Try.func22, Try.ntmps22
  go_wp2_with fail
  refine (told_CountSquareFree_c _ _).mono ?_
  rintro e w2 ⟨rfl, b2⟩
  go_wp2
  go_ret2
  exact ⟨rfl, b2⟩

end Go.Proofs.Ytkpililllihgcab
