import Derived.Test.YtapjbppkekigaabJ0
import Derived.Test.YtapjbppkekigaabY5
import Derived.Test.YtapjbppkekigaabZ1
namespace Go.Proofs.Ytapjbppkekigaab
open Go.RowKit
set_option linter.unusedVariables false
set_option linter.unusedSimpArgs false

theorem rtF_up {n k : Nat} (h : (k + 1) * (k + 1) ≤ n) : k + 1 ≤ rtF n := by
  have h1 := (rtF_parts n).2
  rcases Nat.lt_or_ge (rtF n) (k + 1) with h2 | h2
  · have := Nat.mul_le_mul h2 h2
    simp only [Nat.succ_eq_add_one] at this
    omega
  · exact h2
theorem rtF_at {n k : Nat} (hk : k ≤ rtF n) (h : n < (k + 1) * (k + 1)) : k = rtF n := by
  rcases Nat.lt_or_ge k (rtF n) with h1 | h1
  · have h2 := (rtF_parts n).1
    have := Nat.mul_le_mul h1 h1
    simp only [Nat.succ_eq_add_one] at this
    omega
  · omega
theorem rtF_four {n : Nat} (h : n ≤ 4000000000) : rtF n ≤ 63245 := by
  have h1 := (rtF_parts n).1
  have := sq_lt_of (d := rtF n) (n := n) (b := 63246) h1 (by omega)
  omega
theorem id_bound {L : List Int} {n : Nat} (h : ∀ x ∈ L, 1 ≤ x ∧ x ≤ (n : Int)) : ∀ x ∈ L, -((n : Nat) : Int) ≤ (fun x : Int => x) x ∧ (fun x : Int => x) x ≤ ((n : Nat) : Int) := fun x hx => by
  have := h x hx
  show -((n : Nat) : Int) ≤ x ∧ x ≤ ((n : Nat) : Int)
  omega
set_option maxRecDepth 100000 in
set_option maxHeartbeats 800000 in
theorem divs_c (w : World) (N : Nat) (h1 : 1 ≤ N) (h9 : N ≤ 4000000000) :
    Calls Try.prog 47 #[.int .i64 (N : Int)] w fun en w' => (∃ v, en = .returned v ∧ OwnI w' w.heap.size v (dvI N (rtF N))) ∧ Below w.heap.size w w' := by
  have hrt := rtF_four h9
  have Hm := Lib.hid (fun k => rtF_up (n := N) (k := k))
  have Hst := Lib.hid (fun k => rtF_at (n := N) (k := k))
  obtain ⟨T, hT⟩ : ∃ T, rtF N = T := ⟨_, rfl⟩
  rw [hT] at hrt Hm Hst ⊢
  clear hT
  go_enter Try.func47, Try.ntmps47
  go_wp2
  go_loopw [3, 4] (fun v i wr => ∃ k : Nat, k ≤ T ∧ i = .int .i64 ((k : Int) + 1) ∧ OwnI wr w.heap.size v (dvI N k) ∧ Below w.heap.size w wr) (fun _ i _ => T + 2 - (intOf i).toNat)
  case atStart => exact ⟨0, Nat.zero_le _, rfl, OwnI.nil _ _, Below.refl _ _⟩
  case round =>
    obtain ⟨k, hk, rfl, hown, hbel⟩ := hrel
    have Hown := Lib.hid hown
    clear hown
    have hs := hbel.size
    have Hl := Lib.hid (show (dvI N k).length ≤ 126490 by have := dvI_len N k; omega)
    obtain ⟨D, hD⟩ : ∃ D, (k + 1) * (k + 1) = D := ⟨_, rfl⟩
    have hDi : ((k : Int) + 1) * ((k : Int) + 1) = (D : Int) := cast_sq hD
    have hD9 : D ≤ 4000056516 := by have := Nat.mul_le_mul (show k + 1 ≤ 63246 by omega) (show k + 1 ≤ 63246 by omega); omega
    have HD := Lib.hid hD
    clear hD
    have hz : (((k : Int) + 1) == 0) = false := beq_eq_false_iff_ne.2 (by omega)
    by_cases hlt : D ≤ N
    · have hk2 : k + 1 ≤ T := Hm.out k (by rw [HD.out]; exact hlt)
      by_cases hm : N % (k + 1) = 0
      · have hm2 : ((N : Int) % ((k : Int) + 1) != 0) = false := by rw [show (k : Int) + 1 = ((k + 1 : Nat) : Int) by omega, ← Int.natCast_emod, hm]; rfl
        by_cases hd : D = N
        · have hd2 : ((D : Int) != (N : Int)) = false := by rw [hd]; simp
          have Hy := Lib.hid (dvI_one (n := N) (k := k) hm (by rw [HD.out]; exact hd))
          clear hm hd
          go_wp2_with (at_builtin; refine wp_app_int _ rfl _ _ rfl w.heap.size _ _ rfl Hown.out _ rfl (by have := Hl.out; omega) hs ?_; intro v' w6 hown6 b6)
          go_roundw
          case rel => exact ⟨k + 1, hk2, by go_num, by rw [Hy.out]; exact hown6, hbel.trans b6⟩
          case measure => simp [intOf]; omega
        · have hd2 : ((D : Int) != (N : Int)) = true := bne_iff_ne.2 (by omega)
          have Hy := Lib.hid (dvI_two (n := N) (k := k) hm (by rw [HD.out]; exact hd))
          have hq := Nat.div_le_self N (k + 1)
          obtain ⟨Q, hQ⟩ : ∃ Q, N / (k + 1) = Q := ⟨_, rfl⟩
          have hQi : (N : Int) / ((k : Int) + 1) = (Q : Int) := by rw [← hQ, show (k : Int) + 1 = ((k + 1 : Nat) : Int) by omega, Int.natCast_ediv]
          rw [hQ] at hq Hy
          clear hm hd hQ
          have Hl6 : Hid ((dvI N k ++ [(k : Int) + 1]).length ≤ 126491) := by show _ ≤ _; rw [List.length_append, List.length_singleton]; have := Hl.out; omega
          go_wp2_with (at_builtin; first
            | (refine wp_app_int _ rfl _ _ rfl w.heap.size _ _ rfl Hown.out _ rfl (by have := Hl.out; omega) hs ?_; intro v' w6 hown6 b6; have Hown6 := Lib.hid hown6; have hs6 := Nat.le_trans hs b6.size; clear hown6)
            | (refine wp_app_int _ rfl _ _ rfl w.heap.size _ _ rfl Hown6.out _ rfl (by have := Hl6.out; omega) hs6 ?_; intro v7 w7 hown7 b7))
          go_roundw
          case rel => exact ⟨k + 1, hk2, by go_num, by rw [Hy.out]; exact hown7, (hbel.trans b6).trans b7⟩
          case measure => simp [intOf]; omega
      · have hm2 : ((N : Int) % ((k : Int) + 1) != 0) = true := by rw [show (k : Int) + 1 = ((k + 1 : Nat) : Int) by omega, ← Int.natCast_emod]; exact bne_iff_ne.2 (by omega)
        have Hy := Lib.hid (dvI_no (n := N) (k := k) hm)
        clear hm
        go_wp2_with fail
        go_roundw
        case rel => exact ⟨k + 1, hk2, by go_num, by rw [Hy.out]; exact Hown.out, hbel⟩
        case measure => simp [intOf]; omega
    · have Hk := Lib.hid (Hst.out k hk (by rw [HD.out]; omega))
      go_wp2
      go_ret
      exact ⟨⟨_, rfl, by rw [← Hk.out]; exact Hown.out⟩, hbel⟩

set_option maxRecDepth 100000 in
set_option maxHeartbeats 400000 in
theorem countDivisors_c (w : World) (N : Nat) (h1 : 1 ≤ N) (h9 : N ≤ 4000000000) :
    Calls Try.prog 34 #[.int .i64 (N : Int)] w fun en w' => en = .returned (.int .i64 ((dvD N).length : Int)) ∧ Below w.heap.size w w' := by
  have Hd := Lib.hid (fun W => divs_c W N h1 h9)
  have HC := Lib.hid (dvI_cnt h1)
  obtain ⟨L, hL⟩ : ∃ L, dvI N (rtF N) = L := ⟨_, rfl⟩
  rw [hL] at HC Hd
  clear hL
  rw [← HC.out]
  go_enter Try.func34, Try.ntmps34
  go_wp2_with fail
  refine (Hd.out _).mono ?_
  rintro e w2 ⟨⟨v, rfl, o2⟩, b2⟩
  obtain ⟨A, c, rfl⟩ := o2.shape
  clear o2
  go_wp2
  go_ret
  exact ⟨rfl, b2⟩

set_option maxRecDepth 100000 in
set_option maxHeartbeats 800000 in
theorem sumDivisors_c (w : World) (N : Nat) (h1 : 1 ≤ N) (h9 : N ≤ 4000000000) :
    Calls Try.prog 35 #[.int .i64 (N : Int)] w fun en w' => en = .returned (.int .i64 (dvS N)) ∧ Below w.heap.size w w' := by
  have HC := Lib.hid (dvI_dvS h1)
  have Hd := Lib.hid (fun W => divs_c W N h1 h9)
  have Hmem := Lib.hid (dvI_mem h1 (rtF N))
  have hlen := dvI_len N (rtF N)
  have hrt := rtF_four h9
  obtain ⟨L, hL⟩ : ∃ L, dvI N (rtF N) = L := ⟨_, rfl⟩
  rw [hL] at HC Hd Hmem hlen
  clear hL
  rw [← HC.out]
  clear HC
  have Hb := Lib.hid (fun k hk => suT_bound (f := fun x => x) (l := L) (b := N) (id_bound Hmem.out) k hk)
  have Ha := Lib.hid (suT_all (f := fun x => x) (l := L))
  go_enter Try.func35, Try.ntmps35
  go_wp2_with fail
  refine (Hd.out _).mono ?_
  rintro e w2 ⟨⟨v, rfl, o2⟩, b2⟩
  obtain ⟨A, c, rfl⟩ := o2.shape
  have HI := Lib.hid (Il_of_own o2)
  clear o2
  go_wp2
  go_loop [3, 5, 9] (fun a _ i => ∃ k : Nat, k ≤ L.length ∧ i = .int .i64 (k : Int) ∧ a = .int .i64 (suT (fun x => x) L k)) (fun _ _ i => L.length - (intOf i).toNat)
  case atStart => exact ⟨0, Nat.zero_le _, rfl, rfl⟩
  case round =>
    obtain ⟨k, hk, rfl, rfl⟩ := hrel
    have hb := Hb.out k hk
    have hkn : k * N ≤ 505960000000000 := by have := Nat.mul_le_mul (show k ≤ 126490 by omega) h9; omega
    by_cases hlt : k < L.length
    · obtain ⟨b, off, rfl, hbb, hr⟩ := HI.out (by omega)
      have hck := hr k hlt
      have hx := Hmem.out (ivL L k) (by simp [ivL, hlt])
      have Hst := Lib.hid (suT_succ (f := fun x => x) hlt)
      obtain ⟨x, hx0⟩ : ∃ x, ivL L k = x := ⟨_, rfl⟩
      obtain ⟨S, hS⟩ : ∃ S, suT (fun x => x) L k = S := ⟨_, rfl⟩
      rw [hx0] at hck hx Hst
      rw [hS] at hb Hst ⊢
      clear hx0 hS hr
      have hb9 : -505960000000000 ≤ S ∧ S ≤ 505960000000000 := by omega
      clear hb hkn
      go_wp2
      go_round
      case rel => exact ⟨k + 1, by omega, by go_num, by rw [Hst.out]⟩
      case measure => simp [intOf]; omega
    · have Hk := Lib.hid (show k = L.length by omega)
      have He : Hid (suF (fun x => x) L = suT (fun x => x) L k) := by show _ = _; rw [Hk.out, Ha.out]
      obtain ⟨S, hS⟩ : ∃ S, suT (fun x => x) L k = S := ⟨_, rfl⟩
      rw [hS] at He ⊢
      clear hS hb hkn
      go_wp2
      go_ret
      exact ⟨by rw [He.out]; rfl, b2⟩

theorem dvS_four {n : Nat} (h1 : 1 ≤ n) (h : n ≤ 4000000000) : 0 ≤ dvS n ∧ dvS n ≤ 600000000000000 := by
  have h2 := dvS_le h1
  have h3 := rtF_four h
  have := Nat.mul_le_mul h3 h
  omega
set_option maxRecDepth 100000 in
set_option maxHeartbeats 400000 in
theorem sumStep_c (w : World) (N : Nat) (h1 : 1 ≤ N) (h9 : N ≤ 4000000000) :
    Calls Try.prog 41 #[.int .i64 (N : Int)] w fun en w' => en = .returned (.int .i64 (dvS N - (N : Int))) ∧ Below w.heap.size w w' := by
  have Hd := Lib.hid (fun W => sumDivisors_c W N h1 h9)
  have hb := dvS_four h1 h9
  obtain ⟨S, hS⟩ : ∃ S, dvS N = S := ⟨_, rfl⟩
  rw [hS] at Hd hb ⊢
  clear hS
  go_enter Try.func41, Try.ntmps41
  go_wp2_with fail
  refine (Hd.out _).mono ?_
  rintro e w2 ⟨rfl, b2⟩
  go_wp2
  go_ret
  exact ⟨rfl, b2⟩


set_option maxRecDepth 100000 in
set_option maxHeartbeats 1000000 in
theorem totient_c (w : World) (N : Nat) (h1 : 1 ≤ N) (h9 : N ≤ 1000000000) :
    Calls Try.prog 37 #[.int .i64 (N : Int)] w fun en w' => en = .returned (.int .i64 (toF N : Int)) ∧ Below w.heap.size w w' := by
  have hnd := fks_nodup N
  have Hps := Lib.hid (fks_pos h1)
  obtain ⟨K0, hK0, hT0⟩ := toF_is h1
  obtain ⟨T, hT⟩ : ∃ T, toF N = T := ⟨_, rfl⟩
  rw [hT] at hT0 ⊢
  have HT0 := Lib.hid hT0.symm
  have HK0 := Lib.hid hK0
  clear hT hT0 hK0
  go_enter Try.func37, Try.ntmps37
  go_wp2_with fail
  refine (exponentsOf_c _ N h1 (by omega)).mono ?_
  rintro e w2 ⟨rfl, ⟨D, hown, hK, hC⟩, b2⟩
  have hK2 := fks_keys h1 hK
  have HK2 := Lib.hid hK2
  have hs2 := b2.size
  clear hK hK2 hC
  go_wp2_with (first
    | (at_range; refine wpList_range_own _ rfl _ 53 rfl 3 3 keyI Try.underlying53 _ w.heap.size N _ rfl hown ?_; intro w0 hrg0 hg0 hs0)
    | go_in)
  go_frame
  go_loopw [3, 4] (fun a _ wr => ∃ (left : Lit → Bool) (cnt : Nat) (rem : List Nat) (c K : Nat), a = .int .i64 (c : Int) ∧ wr.ranges Try.prog 3 (plainElem Try.prog 3) w.heap.size w2.heap.size N D left cnt ∧ KeysL left rem ∧ rem.Nodup ∧ (∀ p ∈ rem, p ∈ fks N) ∧ c = K * prodL rem ∧ K * prodM rem = T ∧ c ≤ N ∧ Below w.heap.size w wr) (fun _ _ wr => wr.rangeLeft w.heap.size w2.heap.size)
  case atStart => exact ⟨_, _, fks N, N, K0, rfl, hrg0, HK2.out, hnd, fun p hp => hp, HK0.out, HT0.out, Nat.le_refl _, b2.grown hg0 hs2 (fun j hj => by cases hj)⟩
  case round =>
    clear hrg0 hg0 hs0 HK2 hown hnd HT0 HK0
    obtain ⟨left, cnt, rem, c, K, rfl, hrg, hKL, hnr, hsub, hc, hT, hcN, hbel⟩ := hrel
    have Hsub := Lib.hid hsub
    have HKL := Lib.hid hKL
    have Hc := Lib.hid hc
    have HT := Lib.hid hT
    clear hsub hKL hc hT
    go_wp2_with (first
      | (at_next; refine wpList_next_ranges_ii _ rfl _ rfl 3 3 .i64 .i64 keyI Try.underlying3 Try.underlying3 w.heap.size w2.heap.size N _ _ _ rfl hrg ?_ ?_)
      | go_in)
    · intro _ hl0
      have He := Lib.hid (HKL.out.none hl0)
      have Hk : Hid (c = T) := by show _ = _; have h1 := Hc.out; have h2 := HT.out; rw [He.out] at h1 h2; simp [prodL, prodM] at h1 h2; omega
      clear hl0
      go_wp2
      go_ret
      exact ⟨by rw [← Hk.out]; rfl, hbel⟩
    · intro x d w1 cnt1 hwx hwc hlx hat hrg1 hlt hg1 hs1 hen
      obtain ⟨p, rfl, hp⟩ := HKL.out.mem hlx
      have hbel1 := hbel.grown hg1 hbel.size (fun j hj => by cases hj; exact hs2)
      have hpf := Hsub.out p hp
      obtain ⟨hp2, hpN⟩ := Hps.out p hpf
      obtain ⟨X, hX⟩ : ∃ X, prodL (rem.erase p) = X := ⟨_, rfl⟩
      have e1 := prodL_erase hp
      rw [hX] at e1
      have hcX : c = K * (p * X) := by rw [← e1]; exact Hc.out
      obtain ⟨s1, s2⟩ := tot_step (K := K) (X := X) (p := p) (by omega)
      rw [← hcX] at s1 s2
      have hq := Nat.div_le_self c p
      obtain ⟨Q, hQ⟩ : ∃ Q, c / p = Q := ⟨_, rfl⟩
      have hQi : (c : Int) / (p : Int) = (Q : Int) := by rw [← hQ, Int.natCast_ediv]
      rw [hQ] at s1 hq
      have hz : ((p : Int) == 0) = false := beq_eq_false_iff_ne.2 (by omega)
      have Hc2 : Hid (c - Q = K * (p - 1) * prodL (rem.erase p)) := by show _ = _; rw [hX]; exact s1
      have HT2 : Hid (K * (p - 1) * prodM (rem.erase p) = T) := by show _ = _; rw [← HT.out, prodM_erase hp, Nat.mul_assoc]
      have HKL2 := Lib.hid (HKL.out.step hnr p)
      have Hnr2 := Lib.hid (hnr.erase p)
      have Hsub2 := Lib.hid (fun y (hy : y ∈ rem.erase p) => Hsub.out y (List.mem_of_mem_erase hy))
      clear hwx hwc hlx hat hp hpf hX e1 hcX s1 s2 hQ
      go_wp2
      go_roundw
      case rel => exact ⟨_, cnt1, rem.erase p, c - Q, K * (p - 1), by go_num, hrg1, HKL2.out, Hnr2.out, Hsub2.out, Hc2.out, HT2.out, by omega, hbel1⟩
      case measure => rw [hrg1.left_eq, hrg.left_eq]; exact hlt

end Go.Proofs.Ytapjbppkekigaab
