import Derived.Test.YtoapidcbmlnjcaaG5
import Derived.Test.YtoapidcbmlnjcaaP6
import Derived.Test.YtoapidcbmlnjcaaSh
namespace Go.Proofs.Ytoapidcbmlnjcaa
open Go.RowKit
set_option linter.unusedVariables false
set_option linter.unusedSimpArgs false

theorem pr9_six : pr9.take 6 = [2, 3, 5, 7, 11, 13] := by
  rw [← pr9_first (by decide)]
  decide +kernel
theorem pr9_at {k : Nat} (hk : k < 6) : ivL pr9 k = (rpF k : Int) := by
  rw [← ivL_take (xs := pr9) hk, pr9_six]
  match k, hk with
  | 0, _ => rfl
  | 1, _ => rfl
  | 2, _ => rfl
  | 3, _ => rfl
  | 4, _ => rfl
  | 5, _ => rfl
theorem reB_six (p : Int) : reB p = ([2, 3, 5, 7, 11, 13] : List Int).contains p := by
  rw [Bool.eq_iff_iff, reB_iff, List.contains_iff_mem]
  constructor
  · rintro ⟨k, hk, rfl⟩
    match k, hk with
    | 0, _ => decide
    | 1, _ => decide
    | 2, _ => decide
    | 3, _ => decide
    | 4, _ => decide
    | 5, _ => decide
  · intro h
    simp only [List.mem_cons, List.not_mem_nil, or_false] at h
    rcases h with rfl | rfl | rfl | rfl | rfl | rfl
    · exact ⟨0, by decide, rfl⟩
    · exact ⟨1, by decide, rfl⟩
    · exact ⟨2, by decide, rfl⟩
    · exact ⟨3, by decide, rfl⟩
    · exact ⟨4, by decide, rfl⟩
    · exact ⟨5, by decide, rfl⟩
set_option maxRecDepth 100000 in
set_option maxHeartbeats 400000 in
theorem isPrimeTold_c (p : Int) (w : World) :
    Calls Try.prog 135 #[.int .i64 p] w fun en w' => en = .returned (.bool (reB p)) ∧ Below w.heap.size w w' := by
  obtain ⟨B, hB⟩ : ∃ B, reB p = B := ⟨_, rfl⟩
  have Hr := Lib.hid ((reB_six p).symm.trans hB)
  rw [hB]
  clear hB
  have hfp := firstPrimes_c w 6 (by decide)
  have Hfp := Lib.hid hfp
  clear hfp
  go_enter Try.func135, Try.ntmps135
  go_wp2_with fail
  refine Hfp.out.mono ?_
  rintro e w1 ⟨⟨g, c, rfl, hg1, hg2, hc⟩, b1⟩
  have hct := (Try.slices_Contains_int g 0 6 c (pr9.take 6) p w1 (by rw [pr9_six]; decide) (by omega) (fun j hj => by
    rw [pr9_six] at hj
    rw [Nat.zero_add]
    refine (hc j hj).trans ?_
    rw [← ivL_take (xs := pr9) hj]
    rfl))
  rw [List.take_take, Nat.min_self, pr9_six, Hr.out] at hct
  have Hct := Lib.hid hct
  clear hc hct
  go_wp2_with fail
  refine Hct.out.mono ?_
  rintro e w2 ⟨rfl, rfl⟩
  go_wp2
  go_ret
  exact ⟨rfl, b1⟩

theorem nodup_le : ∀ (ys zs : List Int), ys.Nodup → (∀ y, y ∈ ys → y ∈ zs) → ys.length ≤ zs.length
  | [], _, _, _ => Nat.zero_le _
  | y :: ys, zs, h, hm => by
    rw [List.nodup_cons] at h
    have hz := hm y (List.mem_cons_self ..)
    have ih := nodup_le ys (zs.erase y) h.2 fun x hx => (List.mem_erase_of_ne (fun e => h.1 (by rw [← e]; exact hx))).2 (hm x (List.mem_cons_of_mem _ hx))
    rw [List.length_erase_of_mem hz] at ih
    have := List.length_pos_of_mem hz
    rw [List.length_cons]
    omega
/-- Different ones of the first six primes are at most six. -/
theorem dp_six {xs : List Int} (h : ∀ i, i < xs.length → dfB xs i = true) : xs.length ≤ 6 := by
  refine nodup_le xs [2, 3, 5, 7, 11, 13] ?_ ?_
  · rw [List.nodup_iff_pairwise_ne, List.pairwise_iff_getElem]
    intro i j hi hj hij he
    have h2 := h j hj
    rw [dfB, Bool.and_eq_true, Bool.not_eq_true'] at h2
    have h3 : hasF (xs.take j) (ivL xs j) = true := hasF_mem.2 (by
      rw [List.mem_iff_getElem]
      exact ⟨i, by rw [List.length_take]; omega, by rw [List.getElem_take, he]; simp [ivL, hj]⟩)
    rw [h3] at h2
    exact absurd h2.2 (by simp)
  · intro y hy
    obtain ⟨i, hi, rfl⟩ := List.mem_iff_getElem.1 hy
    have h2 := h i hi
    rw [dfB, Bool.and_eq_true, reB_six, List.contains_iff_mem] at h2
    rw [show xs[i] = ivL xs i by simp [ivL, hi]]
    exact h2.1
theorem dp_all {xs : List Int} (h : ∀ i, i < xs.length → dfB xs i = true) : dpB xs = true := dpB_iff.2 ⟨dp_six h, h⟩
theorem hasF_contains (xs : List Int) (x : Int) : xs.contains x = hasF xs x := by rw [Bool.eq_iff_iff, hasF_mem, List.contains_iff_mem]

set_option maxRecDepth 100000 in
set_option maxHeartbeats 1600000 in
theorem arePrimesTold_c (w : World) (A : Option Addr) (m c : Nat) (xs : List Int) (hA : Il w A xs) (hm : m = xs.length) (hn : m ≤ 1048576) (hmc : m ≤ c) :
    Calls Try.prog 120 #[.slice A m c] w fun en w' => en = .returned (.bool (dpB xs)) ∧ Below w.heap.size w w' := by
  have Hm := Lib.hid hm
  clear hm
  obtain ⟨T, hT⟩ : ∃ T, dpB xs = T := ⟨_, rfl⟩
  rw [hT]
  have HT := Lib.hid hT
  clear hT
  go_enter Try.func120, Try.ntmps120
  go_wp2
  go_loopw [7] (fun i wr => ∃ k : Nat, k ≤ m ∧ i = .int .i64 (k : Int) ∧ (∀ j, j < k → dfB xs j = true) ∧ Below w.heap.size w wr) (fun i _ => m - (intOf i).toNat)
  case atStart => exact ⟨0, Nat.zero_le _, rfl, fun j hj => by omega, Below.refl _ _⟩
  case round =>
    obtain ⟨k, hk, rfl, hall, hbel⟩ := hrel
    have Hall := Lib.hid hall
    clear hall
    have hs := hbel.size
    by_cases hlt : k < m
    · obtain ⟨b, off, rfl, hb, hr⟩ := hA (by have := Hm.out; omega)
      have hck := (hbel.cell (p := ⟨b, off + k, none⟩) hb).trans (hr k (by have := Hm.out; omega))
      have hcw : ∀ j, j < xs.length → wr.cell? ⟨b, off + j, none⟩ = some (.int .i64 (xs.getD j 0)) := fun j hj => (hbel.cell (p := ⟨b, off + j, none⟩) hb).trans (hr j hj)
      obtain ⟨x, hx⟩ : ∃ x, ivL xs k = x := ⟨_, rfl⟩
      rw [hx] at hck
      have Hd : Hid (dfB xs k = (reB x && !hasF (xs.take k) x)) := by show _ = _; rw [dfB, hx]
      have Hcw := Lib.hid hcw
      clear hx hr hcw
      cases hre : reB x with
      | false =>
        have Hy : Hid (T = false) := by show _ = _; rw [← HT.out]; exact dpB_no (i := k) (by have := Hm.out; omega) (by rw [Hd.out, hre]; rfl)
        have Hre := Lib.hid hre
        clear hre
        go_wp2_with fail
        refine (isPrimeTold_c _ _).mono ?_
        rw [Hre.out]
        rintro e w1 ⟨rfl, b1⟩
        go_wp2
        go_ret
        exact ⟨by rw [Hy.out]; rfl, hbel.trans (b1.mono hs)⟩
      | true =>
        have Hre := Lib.hid hre
        have hkc : (k : Int) ≤ (c : Int) := by omega
        have Hct : Hid (∀ W : World, (∀ j, j < xs.length → W.cell? ⟨b, off + j, none⟩ = some (.int .i64 (xs.getD j 0))) → Calls Try.prog 136 #[.slice (some ⟨b, off, none⟩) k c, .int .i64 x] W fun e w' => e = .returned (.bool (hasF (xs.take k) x)) ∧ w' = W) := fun W hc => by
          have h := Try.slices_Contains_int b off k c xs x W (by have := Hm.out; omega) (by omega) hc
          rwa [hasF_contains] at h
        cases hh : hasF (xs.take k) x with
        | true =>
          have Hy : Hid (T = false) := by show _ = _; rw [← HT.out]; exact dpB_no (i := k) (by have := Hm.out; omega) (by rw [Hd.out, hre, hh]; rfl)
          have Hh := Lib.hid hh
          clear hre hh
          go_wp2_with fail
          refine (isPrimeTold_c _ _).mono ?_
          rw [Hre.out]
          rintro e w1 ⟨rfl, b1⟩
          have Hcw1 := Lib.hid (fun j (hj : j < xs.length) => (b1.cell (p := ⟨b, off + j, none⟩) (Nat.lt_of_lt_of_le hb hs)).trans (Hcw.out j hj))
          go_wp2_with fail
          refine (Hct.out _ Hcw1.out).mono ?_
          rw [Hh.out]
          rintro e w2 ⟨rfl, rfl⟩
          go_wp2
          go_ret
          exact ⟨by rw [Hy.out]; rfl, hbel.trans (b1.mono hs)⟩
        | false =>
          have Hall2 := Lib.hid (fun j (hj : j < k + 1) => show dfB xs j = true by
            rcases Nat.lt_succ_iff_lt_or_eq.1 hj with h | h
            · exact Hall.out j h
            · rw [h, Hd.out, hre, hh]; rfl)
          have Hh := Lib.hid hh
          clear hre hh
          go_wp2_with fail
          refine (isPrimeTold_c _ _).mono ?_
          rw [Hre.out]
          rintro e w1 ⟨rfl, b1⟩
          have Hcw1 := Lib.hid (fun j (hj : j < xs.length) => (b1.cell (p := ⟨b, off + j, none⟩) (Nat.lt_of_lt_of_le hb hs)).trans (Hcw.out j hj))
          go_wp2_with fail
          refine (Hct.out _ Hcw1.out).mono ?_
          rw [Hh.out]
          rintro e w2 ⟨rfl, rfl⟩
          go_wp2
          go_roundw
          case rel => exact ⟨k + 1, by omega, by go_num, Hall2.out, hbel.trans (b1.mono hs)⟩
          case measure => simp [intOf]; omega
    · have Hy : Hid (T = true) := by show _ = _; rw [← HT.out]; exact dp_all fun j hj => Hall.out j (by have := Hm.out; omega)
      go_wp2
      go_ret
      exact ⟨by rw [Hy.out]; rfl, hbel⟩

end Go.Proofs.Ytoapidcbmlnjcaa
