import Derived.Test.YtihnlacajfakgaaE7
import Derived.Lib.SliceRun
import Derived.Laws.CopyOwn
namespace Go.Proofs.Ytihnlacajfakgaa
open Go.RowKit
set_option linter.unusedVariables false
set_option linter.unusedSimpArgs false

/-- Cells of an owned row, set one behind the other. -/
theorem own_setCells {B : Nat} {e : TypeId} {size g n cap : Nat} : ∀ (vs : List Value) (o : Nat) (w : World) (xs : List Value), w.ownsRow B e size (.slice (some ⟨g, 0, none⟩) n cap) n xs →
    ∃ ys, (w.setCells g o vs).ownsRow B e size (.slice (some ⟨g, 0, none⟩) n cap) n ys ∧ w.grownBy (w.setCells g o vs) (some g) ∧ (∀ i, i < o → ys[i]? = xs[i]?) ∧ (∀ j, j < vs.length → o + j < n * size → ys[o + j]? = vs[j]?)
  | [], o, w, xs, h => ⟨xs, h, World.grownBy.refl _ _, fun _ _ => rfl, fun j hj => by simp at hj⟩
  | v :: r, o, w, xs, h => by
    have h1 := h.stored o v
    obtain ⟨ys, h2, g2, k2, m2⟩ := own_setCells r (o + 1) _ _ h1.1
    refine ⟨ys, h2, grown_trans h1.2 g2, fun i hi => ?_, fun j hj hb => ?_⟩
    · rw [k2 i (by omega), List.getElem?_set_ne (by omega)]
    · cases j with
      | zero =>
        rw [Nat.add_zero, k2 o (by omega), List.getElem?_set_self (by rw [h.1]; omega)]
        rfl
      | succ j =>
        have := m2 j (by simpa using hj) (by omega)
        rw [show o + 1 + j = o + (j + 1) by omega] at this
        rw [this]
        rfl
/-- A shorter part of an owned row, from its beginning on. -/
theorem own_cut {w : World} {B : Nat} {e : TypeId} {size g n n' cap : Nat} {xs : List Value} (h : w.ownsRow B e size (.slice (some ⟨g, 0, none⟩) n cap) n xs) (hn : n' ≤ n) : w.ownsRow B e size (.slice (some ⟨g, 0, none⟩) n' cap) n' (xs.take (n' * size)) := by
  have hm : n' * size ≤ n * size := Nat.mul_le_mul_right _ hn
  rcases h.2 with ⟨h', _⟩ | ⟨g', cap', cur, h', hb, hg, hnc, hcm, hcs, htake⟩
  · simp at h'
  · simp only [Value.slice.injEq, Option.some.injEq, Addr.mk.injEq, and_true, true_and] at h'
    obtain ⟨rfl, rfl⟩ := h'
    refine ⟨by rw [List.length_take, h.1]; omega, .inr ⟨g, cap, cur, rfl, hb, hg, by omega, hcm, hcs, ?_⟩⟩
    rw [← htake, List.take_take, Nat.min_eq_left hm]
theorem own_some {w : World} {B : Nat} {e : TypeId} {size g n cap : Nat} {xs : List Value} (h : w.ownsRow B e size (.slice (some ⟨g, 0, none⟩) n cap) n xs) (j : Nat) (hj : j < n * size) : (w.cell? ⟨g, j, none⟩).isSome = true ∧ w.frozen? ⟨g, j, none⟩ = false := by
  obtain ⟨u, h1, h2⟩ := own_get h j hj
  exact ⟨by rw [h1]; rfl, h2⟩
theorem own_cap {w : World} {B : Nat} {e : TypeId} {size g n cap : Nat} {xs : List Value} (h : w.ownsRow B e size (.slice (some ⟨g, 0, none⟩) n cap) n xs) : n ≤ cap ∧ cap ≤ maxLen := by
  rcases h.2 with ⟨h', _⟩ | ⟨g', cap', cur, h', hb, hg, hnc, hcm, hcs, htake⟩
  · simp at h'
  · simp only [Value.slice.injEq, Option.some.injEq, Addr.mk.injEq, and_true, true_and] at h'
    obtain ⟨rfl, rfl⟩ := h'
    exact ⟨hnc, hcm⟩

theorem zeroI (w : World) : (zeroValue 3).run Try.prog w = .ok (.int .i64 0) w := by kernel_rfl
/-- clear(s), s the rest of a row of ints. -/
theorem run_clearI (w : World) (ty : TypeId) (g o n c : Nat) (hn : 0 < n) (hc : ∀ j, j < n → (w.cell? ⟨g, o + j, none⟩).isSome = true ∧ w.frozen? ⟨g, o + j, none⟩ = false) :
    ∃ zs, (Builtin.clear_ #[22] ty #[.slice (some ⟨g, o, none⟩) n c]).run Try.prog w = .ok (.tuple #[]) (w.setCells g o zs) := by
  refine ⟨(Builtin.zeroCells #[.int .i64 0] n).toList, ?_⟩
  have hl : (Builtin.zeroCells #[.int .i64 0] n).toList.length = n := by simp [size_zeroCells]
  have hst := run_storeCells_cells (P := Try.prog) g o (Builtin.zeroCells #[.int .i64 0] n).toList 0 w (fun j hj => by simpa using (hc j (by omega)).1) (fun j hj => by simpa using (hc j (by omega)).2) (by
    intro v hv
    rw [Array.mem_toList_iff, Builtin.zeroCells, Array.mem_map] at hv
    obtain ⟨i, _, rfl⟩ := hv
    have h2 : #[Value.int .i64 0].size = 1 := rfl
    rw [h2, Nat.mod_one]
    rfl)
  obtain ⟨m, rfl⟩ : ∃ m, n = m + 1 := ⟨n - 1, by omega⟩
  simp [Builtin.clear_, run_underlying Try.underlying22, zeroI, Value.cells, hst]

theorem mapI_erase {xs : List Int} {K n : Nat} (hn : n = xs.length) (hK : K < n) {ys : List Value} (hl : ys.length = n - 1) (h1 : ∀ i, i < K → ys[i]? = (xs.map (Value.int .i64))[i]?)
    (h2 : ∀ j, j < ((xs.drop (K + 1)).map (Value.int .i64)).length → ys[K + j]? = ((xs.drop (K + 1)).map (Value.int .i64))[j]?) : ys = (xs.eraseIdx K).map (Value.int .i64) := by
  have hd : ((xs.drop (K + 1)).map (Value.int .i64)).length = n - (K + 1) := by rw [List.length_map, List.length_drop, hn]
  rw [List.eraseIdx_eq_take_drop_succ, List.map_append]
  have ht : ((xs.take K).map (Value.int .i64)).length = K := by rw [List.length_map, List.length_take]; omega
  apply List.ext_getElem?
  intro i
  by_cases hi : i < K
  · rw [List.getElem?_append_left (by omega), h1 i hi, List.getElem?_map, List.getElem?_map, List.getElem?_take, if_pos hi]
  · by_cases hi2 : i < n - 1
    · rw [List.getElem?_append_right (by omega), ht]
      have := h2 (i - K) (by omega)
      rwa [show K + (i - K) = i by omega] at this
    · rw [List.getElem?_eq_none (by omega), List.getElem?_eq_none (by rw [List.length_append]; omega)]

set_option maxHeartbeats 4000000 in
set_option maxRecDepth 1000000 in
/-- slices.Delete(s, K, K+1) on a row of ints that the call owns: the number goes, in place. -/
theorem delete_i (w : World) (B g n cap K : Nat) (xs : List Int) (hown : OwnI w B (.slice (some ⟨g, 0, none⟩) n cap) xs) (hn : n = xs.length) (hK : K < n) :
    Calls Try.prog 75 #[.slice (some ⟨g, 0, none⟩) n cap, .int .i64 (K : Int), .int .i64 ((K : Int) + 1)] w fun en w' =>
      en = .returned (.slice (some ⟨g, 0, none⟩) (K + (n - (K + 1))) cap) ∧ OwnI w' B (.slice (some ⟨g, 0, none⟩) (K + (n - (K + 1))) cap) (xs.eraseIdx K) ∧ w.grownBy w' (some g) := by
  obtain ⟨i0, hi0, hz0, hz1, hz2⟩ := info_parts info_I
  have hown0 := OwnI.own_n hown hn
  obtain ⟨hc1, hc2⟩ := own_cap hown0
  have hmx : cap ≤ 9223372036854775807 := hc2
  obtain ⟨news, hnews⟩ : ∃ news, news = (xs.drop (K + 1)).map (Value.int .i64) := ⟨_, rfl⟩
  have hlen : news.length = (n - (K + 1)) * 1 := by rw [hnews, List.length_map, List.length_drop, hn, Nat.mul_one]
  have hcell : ∀ j u, news[j]? = some u → w.drew.cell? ⟨g, K + 1 + j, none⟩ = some u := fun j u h => by
    have hj : j < news.length := (List.getElem?_eq_some_iff.1 h).1
    have h3 := hown0.cellAt (K + 1 + j) (by omega)
    rw [hnews, List.getElem?_map, List.getElem?_drop] at h
    rw [List.getElem?_map, h] at h3
    exact h3
  obtain ⟨A, hA, hsrc⟩ : ∃ A : Addr, (if cap = K + 1 then some (⟨g, 0, none⟩ : Addr) else some ⟨g, K + 1, none⟩) = some A ∧ Hid (∀ j u, news[j]? = some u → w.drew.cell? (A.add j) = some u) := by
    by_cases h : cap = K + 1
    · refine ⟨⟨g, 0, none⟩, by simp [h], fun j u hu => ?_⟩
      have h0 : news.length = 0 := by rw [hlen]; omega
      rw [List.length_eq_zero_iff.1 h0] at hu
      simp at hu
    · refine ⟨⟨g, K + 1, none⟩, by simp [h], fun j u hu => ?_⟩
      rw [Go.WideShapes.add_plain]
      exact hcell j u hu
  have s1 : Hid (news.length = (n - (K + 1)) * 1) := hlen
  have s2 : Hid (∀ u ∈ news, u.oneCell' = true) := by
    intro u hu
    rw [hnews] at hu
    exact one_ints _ u hu
  have s3 : Hid (∀ t, t < news.length → (w.drew.cell? ⟨g, 0 + K * 1 + t, none⟩).isSome = true ∧ w.drew.frozen? ⟨g, 0 + K * 1 + t, none⟩ = false) := by
    intro t ht
    rw [hlen] at ht
    exact own_some (World.ownsRow.drew hown0) _ (by omega)
  obtain ⟨W1, hW1⟩ : ∃ W1, W1 = w.drew.setCells g (0 + K * 1) news := ⟨_, rfl⟩
  obtain ⟨ys, o1, g1, k1, m1⟩ := own_setCells news (0 + K * 1) w.drew _ (World.ownsRow.drew hown0)
  rw [← hW1] at o1 g1
  obtain ⟨zs, hcl⟩ : ∃ zs : TypeId → List Value, ∀ ty, (Builtin.clear_ #[22] ty #[.slice (some ⟨g, K + (n - (K + 1)), none⟩) (n - (K + (n - (K + 1)))) (cap - (K + (n - (K + 1))))]).run Try.prog W1 = .ok (.tuple #[]) (W1.setCells g (K + (n - (K + 1))) (zs ty)) :=
    ⟨fun ty => (run_clearI W1 ty g _ _ _ (by omega) (fun j hj => own_some o1 _ (by omega))).choose, fun ty => (run_clearI W1 ty g _ _ _ (by omega) (fun j hj => own_some o1 _ (by omega))).choose_spec⟩
  have hend : Hid (∀ ty, OwnI (W1.setCells g (K + (n - (K + 1))) (zs ty)) B (.slice (some ⟨g, 0, none⟩) (K + (n - (K + 1))) cap) (xs.eraseIdx K) ∧ w.grownBy (W1.setCells g (K + (n - (K + 1))) (zs ty)) (some g)) := fun ty => by
    obtain ⟨us, o2, g2, k2, _⟩ := own_setCells (zs ty) (K + (n - (K + 1))) W1 ys o1
    have o3 := own_cut o2 (n' := K + (n - (K + 1))) (by omega)
    have gd : w.grownBy w.drew (some g) := ⟨rfl, rfl, rfl, Nat.le_refl _, fun _ _ _ => rfl⟩
    have el : (xs.eraseIdx K).length = K + (n - (K + 1)) := by rw [List.length_eraseIdx, if_pos (by omega)]; omega
    have eu : us.take ((K + (n - (K + 1))) * 1) = (xs.eraseIdx K).map (Value.int .i64) := by
      refine mapI_erase hn hK (by rw [o3.1]; omega) (fun i hi => ?_) (fun j hj => ?_)
      · rw [List.getElem?_take, if_pos (by omega), k2 i (by omega), k1 i (by omega)]
      · rw [← hnews] at hj ⊢
        have := m1 j hj (by omega)
        rw [Nat.zero_add, Nat.mul_one] at this
        rw [List.getElem?_take, if_pos (by omega), k2 _ (by omega), this]
    rw [eu] at o3
    refine ⟨?_, grown_trans (grown_trans gd g1) g2⟩
    unfold OwnI
    rw [el]
    exact o3
  have hW : Hid (W1 = w.drew.setCells g (0 + K * 1) news) := hW1
  have hne : ((K : Int) == (K : Int) + 1) = false := by simp; omega
  have hic : K ≤ cap := by omega
  have hjc : K + 1 ≤ cap := by omega
  have hp0 : (0 : Int) ≤ (K : Int) + 1 := by omega
  have hp1 : (K : Int) + 1 ≤ (n : Int) := by omega
  have hp2 : ((K : Int) + 1).toNat = K + 1 := by omega
  have hp3 : (n : Int) ≤ (cap : Int) := by omega
  have hp4 : (K : Int) ≤ (K : Int) + 1 := by omega
  clear hW1 hown hown0 hnews hlen hcell o1 g1 k1 m1 hn
  go_enter Try.func75, Try.ntmps75
  go_wp2_with fail
  go_region_law (refine step_append_room rfl (.tmp 22) (.tmp 25) 22 rfl 3 i0 1 Try.underlying22 hi0 hz1 g 0 K cap (by simp [Act.eval, Act.put]) A (n - (K + 1)) (cap - (K + 1)) news (by simp [Act.eval, Act.put]) s1.out hsrc.out s2.out (by omega) s3.out ?_; rw [← hW.out])
  go_wp2
  go_ret
  exact ⟨rfl, (hend.out _).1, (hend.out _).2⟩

end Go.Proofs.Ytihnlacajfakgaa
