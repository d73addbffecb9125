import Derived.Test.YtbaimgdnajompaaC1
namespace Go.Proofs.Ytbaimgdnajompaa
open Go.RowKit
set_option linter.unusedVariables false
set_option linter.unusedSimpArgs false

theorem cellsR_append (xs ys : List (Int × Int)) : cellsR (xs ++ ys) = cellsR xs ++ cellsR ys := by simp [cellsR]
theorem cellsR_take (rs : List (Int × Int)) (K : Nat) (hK : K ≤ rs.length) : cellsR (rs.take K) = (cellsR rs).take (K * 2) := by
  have h := cellsR_append (rs.take K) (rs.drop K)
  rw [List.take_append_drop] at h
  rw [h, List.take_append_of_le_length (by rw [cellsR_length, List.length_take]; omega), List.take_of_length_le (l := cellsR (rs.take K)) (by rw [cellsR_length, List.length_take]; omega)]
theorem cells_erase {rs : List (Int × Int)} {K n : Nat} (hn : n = rs.length) (hK : K < n) {ys : List Value} (hl : ys.length = (n - 1) * 2) (h1 : ∀ i, i < K * 2 → ys[i]? = (cellsR rs)[i]?)
    (h2 : ∀ j, j < (cellsR (rs.drop (K + 1))).length → ys[K * 2 + j]? = (cellsR (rs.drop (K + 1)))[j]?) : ys = cellsR (rs.eraseIdx K) := by
  have hd : (cellsR (rs.drop (K + 1))).length = (n - (K + 1)) * 2 := by rw [cellsR_length, List.length_drop, hn]
  have ht : (cellsR (rs.take K)).length = K * 2 := by rw [cellsR_length, List.length_take]; omega
  rw [List.eraseIdx_eq_take_drop_succ, cellsR_append]
  apply List.ext_getElem?
  intro i
  by_cases hi : i < K * 2
  · rw [List.getElem?_append_left (by omega), h1 i hi, cellsR_take rs K (by omega), List.getElem?_take, if_pos hi]
  · by_cases hi2 : i < (n - 1) * 2
    · rw [List.getElem?_append_right (by omega), ht]
      have := h2 (i - K * 2) (by omega)
      rwa [show K * 2 + (i - K * 2) = i by omega] at this
    · rw [List.getElem?_eq_none (by omega), List.getElem?_eq_none (by rw [List.length_append]; omega)]

set_option maxHeartbeats 4000000 in
set_option maxRecDepth 1000000 in
/-- slices.Delete(kept, K, K+1) on a row of rules that the call owns: the rule goes, in place. -/
theorem delete_c (w : World) (B g n cap K : Nat) (rs : List (Int × Int)) (hown : OwnR w B (.slice (some ⟨g, 0, none⟩) n cap) rs) (hn : n = rs.length) (hK : K < n) :
    Calls Try.prog 81 #[.slice (some ⟨g, 0, none⟩) n cap, .int .i64 (K : Int), .int .i64 ((K : Int) + 1)] w fun en w' =>
      en = .returned (.slice (some ⟨g, 0, none⟩) (K + (n - (K + 1))) cap) ∧ OwnR w' B (.slice (some ⟨g, 0, none⟩) (K + (n - (K + 1))) cap) (rs.eraseIdx K) ∧ w.grownBy w' (some g) := by
  obtain ⟨i0, hi0, hz0, hz1, hz2⟩ := info_parts info_R
  have hown0 := OwnR.own_n hown hn
  obtain ⟨hc1, hc2⟩ := own_cap hown0
  have hmx : cap ≤ 9223372036854775807 := hc2
  obtain ⟨news, hnews⟩ : ∃ news, news = cellsR (rs.drop (K + 1)) := ⟨_, rfl⟩
  have hlen : news.length = (n - (K + 1)) * 2 := by rw [hnews, cellsR_length, List.length_drop, hn]
  have hcell : ∀ j u, news[j]? = some u → w.drew.cell? ⟨g, (K + 1) * 2 + j, none⟩ = some u := fun j u h => by
    have hj : j < news.length := (List.getElem?_eq_some_iff.1 h).1
    have h3 := hown0.cellAt ((K + 1) * 2 + j) (by omega)
    have e1 : cellsR rs = cellsR (rs.take (K + 1)) ++ news := by rw [hnews, ← cellsR_append, List.take_append_drop]
    have e2 : (cellsR (rs.take (K + 1))).length = (K + 1) * 2 := by rw [cellsR_length, List.length_take]; omega
    rw [e1, List.getElem?_append_right (by omega), e2, show (K + 1) * 2 + j - (K + 1) * 2 = j by omega, h] at h3
    exact h3
  obtain ⟨A, hA, hsrc⟩ : ∃ A : Addr, (if cap = K + 1 then some (⟨g, 0, none⟩ : Addr) else some ⟨g, (K + 1) * 2, none⟩) = some A ∧ Hid (∀ j u, news[j]? = some u → w.drew.cell? (A.add j) = some u) := by
    by_cases h : cap = K + 1
    · refine ⟨⟨g, 0, none⟩, by simp [h], fun j u hu => ?_⟩
      have h0 : news.length = 0 := by rw [hlen]; omega
      rw [List.length_eq_zero_iff.1 h0] at hu
      simp at hu
    · refine ⟨⟨g, (K + 1) * 2, none⟩, by simp [h], fun j u hu => ?_⟩
      rw [Go.WideShapes.add_plain]
      exact hcell j u hu
  have s1 : Hid (news.length = (n - (K + 1)) * 2) := hlen
  have s2 : Hid (∀ u ∈ news, u.oneCell' = true) := by
    intro u hu
    rw [hnews] at hu
    simp only [cellsR, List.mem_flatMap] at hu
    obtain ⟨r, _, hr⟩ := hu
    simp at hr
    rcases hr with rfl | rfl <;> rfl
  have s3 : Hid (∀ t, t < news.length → (w.drew.cell? ⟨g, 0 + K * 2 + t, none⟩).isSome = true ∧ w.drew.frozen? ⟨g, 0 + K * 2 + t, none⟩ = false) := by
    intro t ht
    rw [hlen] at ht
    exact own_some (World.ownsRow.drew hown0) _ (by omega)
  obtain ⟨W1, hW1⟩ : ∃ W1, W1 = w.drew.setCells g (0 + K * 2) news := ⟨_, rfl⟩
  obtain ⟨ys, o1, g1, k1, m1⟩ := own_setCells news (0 + K * 2) w.drew _ (World.ownsRow.drew hown0)
  rw [← hW1] at o1 g1
  obtain ⟨zs, hcl⟩ : ∃ zs : TypeId → List Value, ∀ ty, (Builtin.clear_ #[31] ty #[.slice (some ⟨g, (K + (n - (K + 1))) * 2, none⟩) (n - (K + (n - (K + 1)))) (cap - (K + (n - (K + 1))))]).run Try.prog W1 = .ok (.tuple #[]) (W1.setCells g ((K + (n - (K + 1))) * 2) (zs ty)) :=
    ⟨fun ty => (run_clearR W1 ty g _ _ _ (by omega) (fun j hj => own_some o1 _ (by omega))).choose, fun ty => (run_clearR W1 ty g _ _ _ (by omega) (fun j hj => own_some o1 _ (by omega))).choose_spec⟩
  have hend : Hid (∀ ty, OwnR (W1.setCells g ((K + (n - (K + 1))) * 2) (zs ty)) B (.slice (some ⟨g, 0, none⟩) (K + (n - (K + 1))) cap) (rs.eraseIdx K) ∧ w.grownBy (W1.setCells g ((K + (n - (K + 1))) * 2) (zs ty)) (some g)) := fun ty => by
    obtain ⟨us, o2, g2, k2, _⟩ := own_setCells (zs ty) ((K + (n - (K + 1))) * 2) W1 ys o1
    have o3 := own_cut o2 (n' := K + (n - (K + 1))) (by omega)
    have gd : w.grownBy w.drew (some g) := ⟨rfl, rfl, rfl, Nat.le_refl _, fun _ _ _ => rfl⟩
    have el : (rs.eraseIdx K).length = K + (n - (K + 1)) := by rw [List.length_eraseIdx, if_pos (by omega)]; omega
    have eu : us.take ((K + (n - (K + 1))) * 2) = cellsR (rs.eraseIdx K) := by
      refine cells_erase hn hK (by rw [o3.1]; omega) (fun i hi => ?_) (fun j hj => ?_)
      · rw [List.getElem?_take, if_pos (by omega), k2 i (by omega), k1 i (by omega)]
      · rw [← hnews] at hj ⊢
        have := m1 j hj (by omega)
        rw [Nat.zero_add] at this
        rw [List.getElem?_take, if_pos (by omega), k2 _ (by omega), this]
    rw [eu] at o3
    refine ⟨?_, grown_trans (grown_trans gd g1) g2⟩
    unfold OwnR
    rw [el]
    exact o3
  have hW : Hid (W1 = w.drew.setCells g (0 + K * 2) news) := hW1
  have hne : ((K : Int) == (K : Int) + 1) = false := by simp; omega
  have hic : K ≤ cap := by omega
  have hjc : K + 1 ≤ cap := by omega
  have hp0 : (0 : Int) ≤ (K : Int) + 1 := by omega
  have hp1 : (K : Int) + 1 ≤ (n : Int) := by omega
  have hp2 : ((K : Int) + 1).toNat = K + 1 := by omega
  have hp3 : (n : Int) ≤ (cap : Int) := by omega
  have hp4 : (K : Int) ≤ (K : Int) + 1 := by omega
  clear hW1 hown hown0 hnews hlen hcell o1 g1 k1 m1 hn
  go_enter Try.func81, Try.ntmps81
  go_wp2_with fail
  go_region_law (refine step_append_room rfl (.tmp 22) (.tmp 25) 31 rfl 25 i0 2 Try.underlying31 hi0 hz1 g 0 K cap (by simp [Act.eval, Act.put]) A (n - (K + 1)) (cap - (K + 1)) news (by simp [Act.eval, Act.put]) s1.out hsrc.out s2.out (by omega) s3.out ?_; rw [← hW.out])
  go_wp2
  go_ret
  exact ⟨rfl, (hend.out _).1, (hend.out _).2⟩

end Go.Proofs.Ytbaimgdnajompaa
