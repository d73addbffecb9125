import Derived.Test.YtehppjdiegoeeaaZ0
import Derived.Test.YtehppjdiegoeeaaGD
import Derived.Test.YtehppjdiegoeeaaU1
namespace Go.Proofs.Ytehppjdiegoeeaa
open Go.RowKit Go.Maps
set_option linter.unusedVariables false
set_option linter.unusedSimpArgs false

theorem exF_le {N : Nat} (h1 : 1 ≤ N) (p : Nat) : exF N p ≤ N := by
  by_cases h : p ∈ pf N
  · obtain ⟨x, hx, rfl⟩ := fks_mem.1 ((mem_pf h1).1 h)
    rw [exF_of hx]
    exact (facs_lt N h1 x hx).2.2.2.2
  · rw [exF, List.count_eq_zero.2 h]; exact Nat.zero_le _
theorem CntsD.val {D : DataW Unit} {N p : Nat} {c : Int} (h : CntsD D (pf N)) (hat : ∀ zd, D.atKey (.int .i64 (p : Int)) zd = .lit (.int .i64 c)) : c = (exF N p : Int) := CntsD.at h (hat _)
theorem len_erase {p : Nat} {l : List Nat} (h : p ∈ l) : l.length = (l.erase p).length + 1 := by
  have := List.length_erase_of_mem h
  have := List.length_pos_of_mem h
  omega

set_option maxRecDepth 100000 in
set_option maxHeartbeats 1000000 in
theorem sign_c (w : World) (N : Nat) (h1 : 1 ≤ N) (h9 : N ≤ 1000000000) :
    Calls Try.prog 43 #[.int .i64 (N : Int)] w fun en w' => en = .returned (.int .i64 (sgF N)) ∧ Below w.heap.size w w' := by
  have hnd := fks_nodup N
  obtain ⟨T, hT⟩ : ∃ T, sgF N = T := ⟨_, rfl⟩
  rw [hT]
  have Hz : Hid (∀ p ∈ fks N, 2 ≤ exF N p → T = 0) := fun p hp h => by rw [← hT]; exact sg_zero h1 hp h
  have Ho : Hid ((∀ p ∈ fks N, exF N p ≤ 1) → T = altF (fks N).length) := fun h => by rw [← hT]; exact sg_ones h1 h
  clear hT
  go_enter Try.func43, Try.ntmps43
  go_wp2_with fail
  refine (exponentsOf_c _ N h1 (by omega)).mono ?_
  rintro e w2 ⟨rfl, ⟨D, hown, hK, hC⟩, b2⟩
  have hK2 := fks_keys h1 hK
  have HK2 := Lib.hid hK2
  have HC := Lib.hid hC
  have hs2 := b2.size
  clear hK hK2 hC
  go_wp2_with (first
    | (at_range; refine wpList_range_own _ rfl _ 58 rfl 3 3 keyI Try.underlying58 _ w.heap.size N _ rfl hown ?_; intro w0 hrg0 hg0 hs0)
    | go_in)
  go_frame
  go_loopw [3, 5] (fun a _ wr => ∃ (left : Lit → Bool) (cnt : Nat) (rem : List Nat) (k : Nat), a = .int .i64 (altF k) ∧ wr.ranges Try.prog 3 (plainElem Try.prog 3) w.heap.size w2.heap.size N D left cnt ∧ KeysL left rem ∧ rem.Nodup ∧ (∀ p ∈ rem, p ∈ fks N) ∧ (∀ p ∈ fks N, p ∈ rem ∨ exF N p ≤ 1) ∧ k + rem.length = (fks N).length ∧ Below w.heap.size w wr) (fun _ _ wr => wr.rangeLeft w.heap.size w2.heap.size)
  case atStart => exact ⟨_, _, fks N, 0, rfl, hrg0, HK2.out, hnd, fun p hp => hp, fun p hp => .inl hp, Nat.zero_add _, b2.grown hg0 hs2 (fun j hj => by cases hj)⟩
  case round =>
    clear hrg0 hg0 hs0 HK2 hown hnd
    obtain ⟨left, cnt, rem, k, rfl, hrg, hKL, hnr, hsub, hall, hlen, hbel⟩ := hrel
    have Hsub := Lib.hid hsub
    have Hall := Lib.hid hall
    have HKL := Lib.hid hKL
    have Hlen := Lib.hid hlen
    have hab := altF_bound k
    have Has := Lib.hid (altF_prev k)
    obtain ⟨a, ha⟩ : ∃ a, altF k = a := ⟨_, rfl⟩
    rw [ha] at hab Has ⊢
    have Ha := Lib.hid ha
    clear hsub hall hKL hlen ha
    go_wp2_with (first
      | (at_next; refine wpList_next_ranges_ii _ rfl _ rfl 3 3 .i64 .i64 keyI Try.underlying3 Try.underlying3 w.heap.size w2.heap.size N _ _ _ rfl hrg ?_ ?_)
      | go_in)
    · intro _ hl0
      have He := Lib.hid (HKL.out.none hl0)
      have Hy := Lib.hid (Ho.out fun p hp => (Hall.out p hp).resolve_left (by rw [He.out]; exact List.not_mem_nil))
      have Hk : Hid (k = (fks N).length) := by show _ = _; have := Hlen.out; rw [He.out] at this; simpa using this
      clear hl0
      go_wp2
      go_ret
      exact ⟨by rw [Hy.out, ← Hk.out, Ha.out]; rfl, hbel⟩
    · intro x c w1 cnt1 hwx hwc hlx hat hrg1 hlt hg1 hs1 hen
      obtain ⟨p, rfl, hp⟩ := HKL.out.mem hlx
      obtain rfl := HC.out.val hat
      have hbel1 := hbel.grown hg1 hbel.size (fun j hj => by cases hj; exact hs2)
      have hpf := Hsub.out p hp
      have hee := exF_le h1 p
      have Hle := Lib.hid (len_erase hp)
      have Hz1 := Lib.hid (Hz.out p hpf)
      obtain ⟨e, he⟩ : ∃ e, exF N p = e := ⟨_, rfl⟩
      rw [he] at hee hat hen Hz1
      by_cases hb : e ≤ 1
      · have HKL2 := Lib.hid (HKL.out.step hnr p)
        have Hnr2 := Lib.hid (hnr.erase p)
        have Hsub2 := Lib.hid (fun y (hy : y ∈ rem.erase p) => Hsub.out y (List.mem_of_mem_erase hy))
        have Hall2 := Lib.hid (fun y (hy : y ∈ fks N) => show y ∈ rem.erase p ∨ exF N y ≤ 1 by
          by_cases e2 : y = p
          · subst e2; exact .inr (by rw [he]; exact hb)
          · rcases Hall.out y hy with h | h
            · exact .inl ((hnr.mem_erase_iff).2 ⟨e2, h⟩)
            · exact .inr h)
        have Hl2 : Hid (k + 1 + (rem.erase p).length = (fks N).length) := by show _ = _; have := Hlen.out; have := Hle.out; omega
        clear hwx hwc hlx hat hp hpf he
        go_wp2
        go_roundw
        case rel => exact ⟨_, cnt1, rem.erase p, k + 1, by rw [Has.out], hrg1, HKL2.out, Hnr2.out, Hsub2.out, Hall2.out, Hl2.out, hbel1⟩
        case measure => rw [hrg1.left_eq, hrg.left_eq]; exact hlt
      · have Hno := Lib.hid (Hz1.out (by omega))
        clear hwx hwc hlx hat hp hpf he
        go_wp2
        go_ret
        exact ⟨by rw [Hno.out]; rfl, hbel1⟩

set_option maxRecDepth 100000 in
theorem isSquareFree_c (w : World) (N : Nat) (h1 : 1 ≤ N) (h9 : N ≤ 200000) :
    Calls Try.prog 35 #[.int .i64 (N : Int)] w fun en w' => en = .returned (.bool (sfB N)) ∧ Below w.heap.size w w' := by
  have Hs := Lib.hid (sf_bne h1)
  have hb := sgF_bound N
  obtain ⟨S, hS⟩ : ∃ S, sgF N = S := ⟨_, rfl⟩
  have Hc := Lib.hid (fun W => sign_c W N h1 (by omega))
  rw [hS] at Hs hb Hc
  go_enter Try.func35, Try.ntmps35
  go_wp2_with fail
  refine (Hc.out _).mono ?_
  rintro e w2 ⟨rfl, b2⟩
  go_wp2
  go_ret
  exact ⟨by rw [Hs.out]; rfl, b2⟩

set_option maxRecDepth 100000 in
set_option maxHeartbeats 1000000 in
theorem squarePart_c (w : World) (N : Nat) (h1 : 1 ≤ N) (h9 : N ≤ 200000) :
    Calls Try.prog 39 #[.int .i64 (N : Int)] w fun en w' => en = .returned (.int .i64 (sqG N : Int)) ∧ Below w.heap.size w w' := by
  have hnd := fks_nodup N
  have hle := sqG_le h1
  have Hps := Lib.hid (fks_pos h1)
  obtain ⟨T, hT⟩ : ∃ T, sqG N = T := ⟨_, rfl⟩
  rw [hT] at hle ⊢
  have HT : Hid (hpL N (fks N) = T) := by show _ = _; rw [hpL_all h1, hT]
  clear hT
  go_enter Try.func39, Try.ntmps39
  go_wp2_with fail
  refine (exponentsOf_c _ N h1 (by omega)).mono ?_
  rintro e w2 ⟨rfl, ⟨D, hown, hK, hC⟩, b2⟩
  have hK2 := fks_keys h1 hK
  have HK2 := Lib.hid hK2
  have HC := Lib.hid hC
  have hs2 := b2.size
  clear hK hK2 hC
  go_wp2_with (first
    | (at_range; refine wpList_range_own _ rfl _ 58 rfl 3 3 keyI Try.underlying58 _ w.heap.size N _ rfl hown ?_; intro w0 hrg0 hg0 hs0)
    | go_in)
  go_frame
  go_loopw [3, 4, 5] (fun a _ _ wr => ∃ (left : Lit → Bool) (cnt : Nat) (rem : List Nat) (k : Nat), a = .int .i64 (k : Int) ∧ wr.ranges Try.prog 3 (plainElem Try.prog 3) w.heap.size w2.heap.size N D left cnt ∧ KeysL left rem ∧ rem.Nodup ∧ (∀ p ∈ rem, p ∈ fks N) ∧ k * hpL N rem = T ∧ 1 ≤ k ∧ Below w.heap.size w wr) (fun _ _ _ wr => wr.rangeLeft w.heap.size w2.heap.size)
  case atStart => exact ⟨_, _, fks N, 1, rfl, hrg0, HK2.out, hnd, fun p hp => hp, by rw [Nat.one_mul]; exact HT.out, Nat.le_refl _, b2.grown hg0 hs2 (fun j hj => by cases hj)⟩
  case round =>
    clear hrg0 hg0 hs0 HK2 hown hnd HT
    obtain ⟨left, cnt, rem, k, rfl, hrg, hKL, hnr, hsub, hpr, hk1, hbel⟩ := hrel
    have Hsub := Lib.hid hsub
    have HKL := Lib.hid hKL
    have Hpr := Lib.hid hpr
    clear hsub hKL hpr
    go_wp2_with (first
      | (at_next; refine wpList_next_ranges_ii _ rfl _ rfl 3 3 .i64 .i64 keyI Try.underlying3 Try.underlying3 w.heap.size w2.heap.size N _ _ _ rfl hrg ?_ ?_)
      | go_in)
    · intro _ hl0
      have He := Lib.hid (HKL.out.none hl0)
      have Hk : Hid (k = T) := by show _ = _; have := Hpr.out; rw [He.out] at this; simpa [hpL] using this
      clear hl0
      go_wp2
      go_ret
      exact ⟨by rw [← Hk.out]; rfl, hbel⟩
    · intro x c w1 cnt1 hwx hwc hlx hat hrg1 hlt hg1 hs1 hen
      obtain ⟨p, rfl, hp⟩ := HKL.out.mem hlx
      obtain rfl := HC.out.val hat
      have hbel1 := hbel.grown hg1 hbel.size (fun j hj => by cases hj; exact hs2)
      have hpf := Hsub.out p hp
      have hee := exF_le h1 p
      obtain ⟨hp2, hpN⟩ := Hps.out p hpf
      have her := hpL_erase (N := N) hp
      have hrp := hpL_pos (N := N) (l := rem.erase p) fun y hy => (Hps.out y (Hsub.out y (List.mem_of_mem_erase hy))).1
      obtain ⟨R, hR⟩ : ∃ R, hpL N (rem.erase p) = R := ⟨_, rfl⟩
      obtain ⟨e, he⟩ : ∃ e, exF N p = e := ⟨_, rfl⟩
      rw [he, hR] at her
      rw [he] at hee hat hen
      rw [hR] at hrp
      have Hm : Hid (k * (p ^ (e / 2) * R) = T) := by show _ = _; rw [← her]; exact Hpr.out
      have HKL2 := Lib.hid (HKL.out.step hnr p)
      have Hnr2 := Lib.hid (hnr.erase p)
      have Hsub2 := Lib.hid (fun y (hy : y ∈ rem.erase p) => Hsub.out y (List.mem_of_mem_erase hy))
      have HR := Lib.hid hR
      obtain ⟨d, hd⟩ : ∃ d, e / 2 = d := ⟨_, rfl⟩
      have hdi : (e : Int) / 2 = (d : Int) := by rw [← hd]; omega
      rw [hd] at Hm
      have hkT : ∀ j, j ≤ d → 1 ≤ k * p ^ j ∧ k * p ^ j ≤ T := fun j hj => by
        have h3 : 1 ≤ p ^ j := Nat.pow_pos (by omega)
        refine ⟨Nat.mul_pos hk1 h3, ?_⟩
        have h4 := Nat.pow_le_pow_right (n := p) (by omega) hj
        have h5 := Nat.mul_le_mul h4 hrp
        rw [Nat.mul_one] at h5
        have h6 := Nat.mul_le_mul (Nat.le_refl k) h5
        have := Hm.out
        omega
      have HkT := Lib.hid hkT
      clear hwx hwc hlx hat hp hpf he her hR hd hkT Hpr HKL Hsub hnr
      go_wp2_with fail
      go_loop [3, 16] (fun a i => ∃ j : Nat, j ≤ d ∧ i = .int .i64 (j : Int) ∧ a = .int .i64 ((k * p ^ j : Nat) : Int)) (fun _ i => d - (intOf i).toNat)
      case atStart => exact ⟨0, Nat.zero_le _, rfl, by simp⟩
      case round =>
        obtain ⟨j, hj, rfl, rfl⟩ := hrel
        by_cases hlt2 : j < d
        · obtain ⟨k1, k2⟩ := HkT.out j hj
          obtain ⟨k3, k4⟩ := HkT.out (j + 1) (by omega)
          have hst : k * p ^ (j + 1) = k * p ^ j * p := by rw [Nat.pow_succ, Nat.mul_assoc]
          obtain ⟨a, ha⟩ : ∃ a, k * p ^ j = a := ⟨_, rfl⟩
          obtain ⟨a', ha'⟩ : ∃ a', k * p ^ (j + 1) = a' := ⟨_, rfl⟩
          rw [ha, ha'] at hst
          rw [ha] at k1 k2 ⊢
          rw [ha'] at k3 k4
          have hmi : (a : Int) * (p : Int) = (a' : Int) := by rw [hst, Int.natCast_mul]
          have Ha' := Lib.hid ha'
          clear hst ha ha'
          go_wp2
          go_round
          case rel => exact ⟨j + 1, by omega, by go_num, by rw [Ha'.out]⟩
          case measure => simp [intOf]; omega
        · have Hj := Lib.hid (show j = d by omega)
          have Hk2 := Lib.hid (HkT.out d (Nat.le_refl _))
          go_wp2
          go_roundw
          case rel => exact ⟨_, cnt1, rem.erase p, k * p ^ d, by rw [← Hj.out], hrg1, HKL2.out, Hnr2.out, Hsub2.out, by rw [HR.out, Nat.mul_assoc]; exact Hm.out, Hk2.out.1, hbel1⟩
          case measure => rw [hrg1.left_eq, hrg.left_eq]; exact hlt

end Go.Proofs.Ytehppjdiegoeeaa
