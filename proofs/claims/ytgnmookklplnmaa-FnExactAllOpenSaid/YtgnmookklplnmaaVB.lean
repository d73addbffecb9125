import Derived.Test.YtgnmookklplnmaaVA
namespace Go.Proofs.Ytgnmookklplnmaa
open Go.RowKit
set_option linter.unusedVariables false
set_option linter.unusedSimpArgs false

/-- An array of numbers, its cells. -/
def arN (xs : List Nat) : Array Value := (xs.map fun x : Nat => Value.int .i64 (x : Int)).toArray
theorem arN_size (xs : List Nat) : (arN xs).size = xs.length := by simp [arN]
theorem arN_get {xs : List Nat} {k : Nat} (h : k < xs.length) : (arN xs)[k]? = some (.int .i64 (ivN xs k : Int)) := by
  rw [ivN_get]
  simp [arN, h]
theorem arN_one (xs : List Nat) : (arN xs).all (·.oneCell') = true := by
  rw [Array.all_eq_true_iff_forall_mem]
  intro x hx
  unfold arN at hx
  simp only [List.mem_toArray, List.mem_map] at hx
  obtain ⟨j, _, rfl⟩ := hx
  rfl
theorem arN_set {xs ys : List Nat} {k x : Nat} (hl : ys.length = xs.length) (hk : k < xs.length) (hx : ivN ys k = x) (h : ∀ i, i < xs.length → i ≠ k → ivN ys i = ivN xs i) : (arN xs).setIfInBounds k (.int .i64 (x : Int)) = arN ys := by
  apply Array.ext_getElem?
  intro i
  by_cases hi : i < xs.length
  · by_cases hik : i = k
    · subst hik
      rw [Array.getElem?_setIfInBounds_self_of_lt (by rw [arN_size]; exact hk), arN_get (by omega), hx]
    · rw [Array.getElem?_setIfInBounds_ne (by omega), arN_get hi, arN_get (by omega), h i hi hik]
  · rw [Array.getElem?_eq_none (by rw [Array.size_setIfInBounds, arN_size]; omega), Array.getElem?_eq_none (by rw [arN_size]; omega)]
theorem ntF_iv {k c x : Nat} {xs : List Nat} {i : Nat} (h : i < xs.length) : ivN (ntF k c x xs) i = if k ≤ i ∧ i < k + c then x + 2 * (i - k) else ivN xs i := by
  rw [ivN_get, ivN_get, List.getD_eq_getElem?_getD, List.getD_eq_getElem?_getD, ntF_get _ _ _ _ _ h]
  split <;> rfl

theorem size_oP : (Try.prog.info? 62).map (·.size) = some 8 := by kernel_rfl
set_option maxRecDepth 100000 in
set_option maxHeartbeats 1600000 in
theorem nextPattern_c (w : World) (n : Nat) (p q : List Nat) (h2 : 2 ≤ n) (h6 : n ≤ 6) (hp : p.length = 8) (hq : q.length = 8) (hp6 : leN p = true) (hne : ivN p (nxK p q (n - 2)) ≠ ivN q (nxK p q (n - 2))) :
    Calls Try.prog 110 #[.agg (arN p), .agg (arN q), .int .i64 (n : Int)] w fun en w' => en = .returned (.agg (arN (nxF n p q))) ∧ Below w.heap.size w w' := by
  have hKl := nxK_le p q (n - 2)
  obtain ⟨K, hK⟩ : ∃ K, nxK p q (n - 2) = K := ⟨_, rfl⟩
  rw [hK] at hne hKl
  have HK := Lib.hid hK
  have Hp6 := Lib.hid (fun k (hk : k < 8) => show ivN p k ≤ 60 by
    rw [ivN_get]
    have hk2 : k < p.length := by omega
    simp only [List.getD_eq_getElem?_getD, List.getElem?_eq_getElem hk2, Option.getD_some]
    exact leN_at hp6 _ (List.getElem_mem hk2))
  have Hne := Lib.hid hne
  have Hp := Lib.hid hp
  have Hq := Lib.hid hq
  clear hK hp6 hne hp hq
  obtain ⟨v, hv⟩ : ∃ v, ivN p K = v := ⟨_, rfl⟩
  have hv6 : v ≤ 60 := by rw [← hv]; exact Hp6.out K (by omega)
  have Hv := Lib.hid hv
  have Hend : Hid (nxF n p q = ntF K (n - 1 - K) (v + 2) p) := by show _ = _; rw [nxF, HK.out, hv]
  clear hv
  go_enter Try.func110, Try.ntmps110
  go_wp2
  obtain ⟨W0, hW0⟩ : ∃ W0, ((w.alloc (.cells (arN p) 62)).alloc (.cells (arN q) 62)).alloc (.cells #[.int .i64 0, .int .i64 0, .int .i64 0, .int .i64 0, .int .i64 0, .int .i64 0, .int .i64 0, .int .i64 0] 62) = W0 := ⟨_, rfl⟩
  have b0 : Below w.heap.size w W0 := by rw [← hW0]; exact (((Below.refl _ w).alloc (Nat.le_refl _) _).alloc (by simp) _).alloc (by simp; omega) _
  have hP : W0.heap[w.heap.size]? = some (.cells (arN p) 62 (0, 0)) := by
    rw [← hW0]
    exact ((heap_alloc_old _ _ (by simp; omega)).trans (heap_alloc_old _ _ (by simp))).trans (heap_alloc_new w _)
  have hQ : W0.heap[w.heap.size + 1]? = some (.cells (arN q) 62 (0, 0)) := by
    rw [← hW0]
    have h := heap_alloc_new (w.alloc (.cells (arN p) 62)) (.cells (arN q) 62)
    rw [World.size_alloc] at h
    exact (heap_alloc_old _ _ (by simp)).trans h
  have hZ : W0.heap[w.heap.size + 1 + 1]? = some (.cells #[.int .i64 0, .int .i64 0, .int .i64 0, .int .i64 0, .int .i64 0, .int .i64 0, .int .i64 0, .int .i64 0] 62 (0, 0)) := by
    rw [← hW0]
    have h := heap_alloc_new ((w.alloc (.cells (arN p) 62)).alloc (.cells (arN q) 62)) (.cells #[.int .i64 0, .int .i64 0, .int .i64 0, .int .i64 0, .int .i64 0, .int .i64 0, .int .i64 0, .int .i64 0] 62)
    rw [World.size_alloc, World.size_alloc] at h
    exact h
  rw [hW0]
  clear hW0
  have HP := Lib.hid hP
  have HQ := Lib.hid hQ
  have HZ := Lib.hid hZ
  clear hP hQ hZ
  have hn2 : (n : Int) - 2 = ((n - 2 : Nat) : Int) := by omega
  rw [hn2]
  go_loopw [7] (fun i wr => ∃ k : Nat, k ≤ n - 2 ∧ i = .int .i64 (k : Int) ∧ Hid (nxK p q k = K) ∧ ∃ d, wr = W0.drewN d) (fun i _ => (intOf i).toNat)
  case atStart => exact ⟨n - 2, Nat.le_refl _, rfl, HK, 0, rfl⟩
  case round =>
    obtain ⟨k, hk, rfl, hD, d, rfl⟩ := hrel
    have hcp : W0.cell? ⟨w.heap.size, k, none⟩ = some (.int .i64 (ivN p k : Int)) := (cell_of_row W0 w.heap.size k _ _ _ HP.out).trans (arN_get (by have := Hp.out; omega))
    have hcq : W0.cell? ⟨w.heap.size + 1, k, none⟩ = some (.int .i64 (ivN q k : Int)) := (cell_of_row W0 (w.heap.size + 1) k _ _ _ HQ.out).trans (arN_get (by have := Hq.out; omega))
    have hk8 : (k : Int) < 8 := by omega
    by_cases hpq : ivN p k = ivN q k
    · have hk0 : k ≠ 0 := fun e => Hne.out (by rw [← hD.out, e]; exact (show ivN p 0 = ivN q 0 by rw [← e]; exact hpq))
      obtain ⟨j, rfl⟩ := Nat.exists_eq_succ_of_ne_zero hk0
      have Hy : Hid (nxK p q j = K) := by show _ = _; rw [← hD.out]; exact (nxK_same hpq).symm
      obtain ⟨x, hx⟩ : ∃ x, ivN p (j + 1) = x := ⟨_, rfl⟩
      rw [Nat.succ_eq_add_one, ← hpq, hx] at hcq
      rw [Nat.succ_eq_add_one, hx] at hcp
      have hxb : ((x : Int) == (x : Int)) = true := beq_iff_eq.2 rfl
      clear hx hpq
      go_wp2_with fail
      go_quiet (fail)
      go_wp2
      go_roundw
      case rel => exact ⟨j, by omega, by go_num, Hy, _, rfl⟩
      case measure => simp [intOf]
    · have hkK : k = K := by
        rw [← hD.out]
        cases k with
        | zero => rfl
        | succ j => exact (nxK_other hpq).symm
      subst hkK
      obtain ⟨y, hy⟩ : ∃ y, ivN q k = y := ⟨_, rfl⟩
      rw [hy] at hcq hpq
      rw [Hv.out] at hcp hpq
      have hxb : ((v : Int) == (y : Int)) = false := beq_eq_false_iff_ne.2 (by omega)
      have hfp : W0.frozen? ⟨w.heap.size, k, none⟩ = false := frozen_of_row W0 w.heap.size k _ _ HP.out
      have Hst : Hid ((arN p).setIfInBounds k (.int .i64 ((v : Int) + 2)) = arN (ntF k 1 (v + 2) p)) := by
        show _ = _
        have h := arN_set (xs := p) (ys := ntF k 1 (v + 2) p) (k := k) (x := v + 2) (ntF_len _ _ _ _) (by have := Hp.out; omega) (by rw [ntF_iv (by have := Hp.out; omega), if_pos (by omega)]; omega) (fun i hi hik => by rw [ntF_iv hi, if_neg (by omega)])
        rwa [Int.natCast_add] at h
      clear hy hpq
      go_wp2_with fail
      go_quiet (fail)
      go_wp2
      go_loopw [7] (fun i wr => ∃ c : Nat, 1 ≤ c ∧ k + c ≤ n - 1 ∧ i = .int .i64 ((k : Int) + (c : Int)) ∧ wr.heap[w.heap.size]? = some (.cells (arN (ntF k c (v + 2) p)) 62 (0, 0)) ∧ wr.heap[w.heap.size + 1 + 1]? = some (.cells #[.int .i64 0, .int .i64 0, .int .i64 0, .int .i64 0, .int .i64 0, .int .i64 0, .int .i64 0, .int .i64 0] 62 (0, 0)) ∧ Below w.heap.size w wr) (fun i _ => n - (intOf i).toNat)
      case atStart => exact ⟨1, Nat.le_refl _, by omega, rfl, (heap_setCell_same _ _ _ _ _ _ HP.out).trans (by rw [Hst.out]), (heap_setCell_other _ ⟨w.heap.size, k, none⟩ _ _ (by simp; omega)).trans HZ.out, (below_drewN b0 _).setCell (Nat.le_refl _) _⟩
      case round =>
        obtain ⟨c, hc1, hcn, rfl, hR, hZ, hbel⟩ := hrel
        have HR := Lib.hid hR
        have HZ2 := Lib.hid hZ
        clear hR hZ
        by_cases hlt : k + c < n - 1
        · have hcl : wr.cell? ⟨w.heap.size, k + c - 1, none⟩ = some (.int .i64 ((v + 2 * c : Nat) : Int)) := by
            rw [cell_of_row wr w.heap.size (k + c - 1) _ _ _ HR.out, arN_get (by rw [ntF_len]; have := Hp.out; omega), ntF_iv (by have := Hp.out; omega), if_pos (by omega), show v + 2 + 2 * (k + c - 1 - k) = v + 2 * c by omega]
          have hcz : ∃ z, wr.cell? ⟨w.heap.size, k + c, none⟩ = some z := ⟨_, (cell_of_row wr w.heap.size (k + c) _ _ _ HR.out).trans (arN_get (by rw [ntF_len]; have := Hp.out; omega))⟩
          obtain ⟨z, hcz⟩ := hcz
          have hfz : wr.frozen? ⟨w.heap.size, k + c, none⟩ = false := frozen_of_row wr w.heap.size (k + c) _ _ HR.out
          have e1 : (k : Int) + (c : Int) - 1 = ((k + c - 1 : Nat) : Int) := by omega
          have e2 : ((k + c : Nat) : Int) = (k : Int) + (c : Int) := by omega
          have hi1 : (k : Int) + (c : Int) < (n : Int) - 1 := by omega
          have Hst2 : Hid ((arN (ntF k c (v + 2) p)).setIfInBounds (k + c) (.int .i64 (((v + 2 * c : Nat) : Int) + 2)) = arN (ntF k (c + 1) (v + 2) p)) := by
            show _ = _
            have h := arN_set (xs := ntF k c (v + 2) p) (ys := ntF k (c + 1) (v + 2) p) (k := k + c) (x := v + 2 * c + 2) (by rw [ntF_len, ntF_len]) (by rw [ntF_len]; have := Hp.out; omega) (by rw [ntF_iv (by have := Hp.out; omega), if_pos (by omega)]; omega) (fun i hi hik => by
              rw [ntF_len] at hi
              rw [ntF_iv hi, ntF_iv hi]
              by_cases h1 : k ≤ i ∧ i < k + c
              · rw [if_pos h1, if_pos (by omega)]
              · rw [if_neg h1, if_neg (by omega)])
            rwa [Int.natCast_add] at h
          go_wp2
          go_roundw
          case rel => exact ⟨c + 1, by omega, by omega, by go_num, (heap_setCell_same _ _ _ _ _ _ HR.out).trans (by rw [← Hst2.out]; rfl), (heap_setCell_other _ ⟨w.heap.size, k + c, none⟩ _ _ (by simp; omega)).trans HZ2.out, hbel.setCell (Nat.le_refl _) _⟩
          case measure => simp [intOf]; omega
        · have hce : n - 1 - k = c := by omega
          have Hce : Hid (nxF n p q = ntF k c (v + 2) p) := by show _ = _; rw [Hend.out, hce]
          have Hs8 := Lib.hid size_oP
          have hi1 : ¬ (k : Int) + (c : Int) < (n : Int) - 1 := by omega
          have Hl8 : Hid ((arN (ntF k c (v + 2) p)).size = 8) := by show _ = _; rw [arN_size, ntF_len]; exact Hp.out
          go_wp2_with (first | (refine wpList_load_row rfl 62 (.tmp 3) rfl w.heap.size rfl _ _ _ _ HR.out Try.underlying62 rfl (Hs8.out.trans (by rw [Hl8.out])) ?_) | (refine wpList_store_row rfl 62 (.tmp 6) (.tmp 39) rfl (w.heap.size + 1 + 1) (arN (ntF k c (v + 2) p)) rfl rfl _ _ HZ2.out (Hs8.out.trans (by rw [Hl8.out])) Hl8.out.symm (arN_one _) ?_))
          refine bodyPost_ret (results_cell_row rfl _ _ (w.heap.size + 1 + 1) _ (arN (ntF k c (v + 2) p)) _ _ rfl (setRow_heap wr _ _ _ _ _ HZ2.out) Try.underlying62 rfl (Hs8.out.trans (by rw [Hl8.out]))) rfl ⟨by rw [Hce.out], ?_⟩
          exact hbel.trans ⟨rfl, rfl, rfl, by simp, fun i hi => setRow_other wr _ _ _ (by omega)⟩

end Go.Proofs.Ytgnmookklplnmaa
