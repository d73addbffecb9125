import Derived.Test.YtaapfapejekkfaaO2
import Derived.Test.YtaapfapejekkfaaGB
namespace Go.Proofs.Ytaapfapejekkfaa
open Go.RowKit
set_option maxRecDepth 100000
set_option linter.unusedVariables false
set_option linter.unusedSimpArgs false

set_option maxHeartbeats 1000000 in
theorem factored_c (w : World) (bp : Nat) (A : Option Addr) (n c k : Nat) (h : Cur w bp A n c k) (hn : n ≤ 4294967296) (hk : k ≤ 4294967200) :
    Calls Try.prog 194 #[.pointer (some ⟨bp, 0, none⟩)] w fun en w' => (∃ v : Int, en = .returned (.int .i64 v)) ∧ (∃ k', k' ≤ k + 8 ∧ Cur w' bp A n c k') ∧ w.grownBy w' (some bp) := by
  have HC := Lib.hid h
  clear h
  go_enter Try.func194, Try.ntmps194
  go_wp2_with fail
  refine (pick_c _ bp A n c k 8 HC.out hn (by omega) (by omega) (by omega)).mono ?_
  rintro e w1 ⟨⟨x, rfl, hx⟩, ⟨k1, hk1, hc1⟩, g1⟩
  have HC1 := Lib.hid hc1
  clear hc1
  by_cases h0 : x = 0
  · have e0 : ((x : Int) == 0) = true := by rw [beq_iff_eq]; omega
    clear h0
    go_wp2_with fail
    refine (among_c _ bp A n c k1 _ 8 _ [0, -1, 1, 1000000000, 1000000001, 999999937, 999950884, 4611686018427387904] (HC1.out.alloc _) (Il_alloc _ _ _ _ rfl) (by have := HC1.out.lt; omega) hn (by omega) rfl (by omega) (by omega)).mono ?_
    rintro e w2 ⟨⟨v, rfl, _⟩, ⟨k2, hk2, hc2⟩, g2⟩
    have HC2 := Lib.hid hc2
    clear hc2
    go_wp2
    go_ret
    exact ⟨⟨_, rfl⟩, ⟨k2, by omega, HC2.out⟩, grown_trans g1 (grown_trans (World.grownBy_alloc _ _ _) g2)⟩
  · have e0 : ((x : Int) == 0) = false := by rw [beq_eq_false_iff_ne]; omega
    clear h0
    by_cases h1 : x = 1
    · have e1 : ((x : Int) == 1) = true := by rw [beq_iff_eq]; omega
      clear h1
      go_wp2_with fail
      refine (among_c _ bp A n c k1 _ 9 _ [360, 1024, 59049, 30030, 510510, 9699690, 223092870, 65537, 99991] (HC1.out.alloc _) (Il_alloc _ _ _ _ rfl) (by have := HC1.out.lt; omega) hn (by omega) rfl (by omega) (by omega)).mono ?_
      rintro e w2 ⟨⟨v, rfl, _⟩, ⟨k2, hk2, hc2⟩, g2⟩
      have HC2 := Lib.hid hc2
      clear hc2
      go_wp2
      go_ret
      exact ⟨⟨_, rfl⟩, ⟨k2, by omega, HC2.out⟩, grown_trans g1 (grown_trans (World.grownBy_alloc _ _ _) g2)⟩
    · have e1 : ((x : Int) == 1) = false := by rw [beq_eq_false_iff_ne]; omega
      clear h1
      go_wp2_with fail
      refine (pick_c _ bp A n c k1 700 HC1.out hn (by omega) (by omega) (by omega)).mono ?_
      rintro e w2 ⟨⟨v, rfl, hv⟩, ⟨k2, hk2, hc2⟩, g2⟩
      have HC2 := Lib.hid hc2
      clear hc2
      go_wp2
      go_ret
      exact ⟨⟨_, rfl⟩, ⟨k2, by omega, HC2.out⟩, grown_trans g1 g2⟩
set_option maxHeartbeats 1000000 in
theorem DrawIsPrime_c (w : World) (A : Option Addr) (n c : Nat) (hB : Byt w w.heap.size A n) (hn : n ≤ 4294967296) :
    Calls Try.prog 180 #[.slice A n c] w fun en w' => (∃ v : Int, en = .returned (.int .i64 v)) ∧ Below w.heap.size w w' := by
  have HC := Lib.hid (cur_new w A n c hB)
  clear hB
  go_enter Try.func180, Try.ntmps180
  go_wp2_with fail
  refine (factored_c _ w.heap.size A n c 0 HC.out hn (by omega)).mono ?_
  rintro e w1 ⟨⟨v, rfl⟩, -, g1⟩
  have B := below_cur g1
  go_wp2
  go_ret
  exact ⟨⟨_, rfl⟩, B⟩
set_option maxHeartbeats 1000000 in
theorem DrawFactorsOf_c (w : World) (A : Option Addr) (n c : Nat) (hB : Byt w w.heap.size A n) (hn : n ≤ 4294967296) :
    Calls Try.prog 28 #[.slice A n c] w fun en w' => (∃ v : Int, en = .returned (.int .i64 v)) ∧ Below w.heap.size w w' := by
  go_enter Try.func28, Try.ntmps28
  go_wp2_with fail
  refine (DrawIsPrime_c _ A n c hB hn).mono ?_
  rintro e w1 ⟨⟨v, rfl⟩, B⟩
  go_wp2
  go_ret
  exact ⟨⟨_, rfl⟩, B⟩
set_option maxHeartbeats 1000000 in
theorem DrawIsSmooth_c (w : World) (A : Option Addr) (n c : Nat) (hB : Byt w w.heap.size A n) (hn : n ≤ 4294967296) :
    Calls Try.prog 42 #[.slice A n c] w fun en w' => (∃ v u : Int, en = .returned (.tuple #[.int .i64 v, .int .i64 u])) ∧ Below w.heap.size w w' := by
  have HC := Lib.hid (cur_new w A n c hB)
  clear hB
  go_enter Try.func42, Try.ntmps42
  go_wp2_with fail
  refine (factored_c _ w.heap.size A n c 0 HC.out hn (by omega)).mono ?_
  rintro e w2 ⟨⟨v, rfl⟩, ⟨k2, hk2, hc2⟩, g1⟩
  have HC2 := Lib.hid hc2
  have hlt := hc2.lt
  clear hc2
  go_wp2_with fail
  refine (among_c _ w.heap.size A n c k2 w2.heap.size 10 _ [1, 2, 3, 5, 7, 13, 1000, 4611686018427387904, 0, -1] (HC2.out.alloc _) (Il_new _ _ _ _ _ rfl rfl) (by omega) hn (by omega) rfl (by omega) (by omega)).mono ?_
  rintro e w3 ⟨⟨u, rfl, _⟩, -, g3⟩
  have B := below_cur (grown_trans g1 (grown_trans (World.grownBy_alloc _ _ _) g3))
  go_wp2
  go_ret2
  exact ⟨⟨_, _, rfl⟩, B⟩
/-- A world that has grown keeps a slice of slices that lies elsewhere. -/
theorem OwnLL.grown {w w' : World} {B g : Nat} {v : Value} {ps : List (List Int)} (h : OwnLL w B v ps) (hg : w.grownBy w' (some g)) (hB : g < B) : OwnLL w' B v ps := by
  obtain ⟨vs, h1, h2, h3⟩ := h
  have kept : ∀ {e : TypeId} {s : Nat} {u : Value} {n : Nat} {xs : List Value}, w.ownsRow B e s u n xs → w'.ownsRow B e s u n xs := fun {e s u n xs} hr =>
    kept_if hr hg fun q hq e2 => by
      injection e2 with e2
      have := (World.ownsRow.lt hr q hq).1
      omega
  exact ⟨vs, kept h1, fun i hi => by
    obtain ⟨u, hu, ho⟩ := h2 i hi
    exact ⟨u, hu, kept ho⟩, h3⟩
theorem cell_old (w : World) (o : Obj) (a : Addr) (h : a.block < w.heap.size) : (w.alloc o).cell? a = w.cell? a := ((Below.refl w.heap.size w).alloc (Nat.le_refl _) o).cell h
theorem cell_top0 (w : World) (g : Nat) (h : g = w.heap.size) (u v : Value) (t : TypeId) : (w.alloc (.cells #[u, v] t)).cell? ⟨g, 0, none⟩ = some u := by subst h; simp
theorem cell_top1 (w : World) (g : Nat) (h : g = w.heap.size) (u v : Value) (t : TypeId) : (w.alloc (.cells #[u, v] t)).cell? ⟨g, 1, none⟩ = some v := by subst h; simp
theorem cell_topO (w : World) (g : Nat) (h : g = w.heap.size) (u : Value) (t : TypeId) : (w.alloc (.cells #[u] t)).cell? ⟨g, 0, none⟩ = some u := by subst h; simp
theorem Lr_two (w : World) (x y x' y' : Int) (t1 t2 t3 : TypeId) (g1 g2 g3 : Nat) (h1 : g1 = w.heap.size) (h2 : g2 = w.heap.size + 1) (h3 : g3 = w.heap.size + 1 + 1) :
    Lr (((w.alloc (.cells #[.int .i64 x, .int .i64 y] t1)).alloc (.cells #[.int .i64 x', .int .i64 y'] t2)).alloc (.cells #[.slice (some ⟨g1, 0, none⟩) 2 2, .slice (some ⟨g2, 0, none⟩) 2 2] t3)) (some ⟨g3, 0, none⟩) [[x, y], [x', y']] := fun _ => by
  refine ⟨g3, 0, rfl, by simp; omega, fun i hi => ?_⟩
  have hi2 : i = 0 ∨ i = 1 := by simp at hi; omega
  rcases hi2 with rfl | rfl
  · refine ⟨some ⟨g1, 0, none⟩, 2, cell_top0 _ _ (by simp; omega) _ _ _, fun _ => ⟨g1, 0, rfl, by simp; omega, fun k hk => ?_⟩⟩
    have hk2 : k = 0 ∨ k = 1 := by simp [psL] at hk; omega
    rcases hk2 with rfl | rfl
    · rw [cell_old _ _ _ (by simp; omega), cell_old _ _ _ (by simp; omega)]; exact cell_top0 _ _ h1 _ _ _
    · rw [cell_old _ _ _ (by simp; omega), cell_old _ _ _ (by simp; omega)]; exact cell_top1 _ _ h1 _ _ _
  · refine ⟨some ⟨g2, 0, none⟩, 2, cell_top1 _ _ (by simp; omega) _ _ _, fun _ => ⟨g2, 0, rfl, by simp; omega, fun k hk => ?_⟩⟩
    have hk2 : k = 0 ∨ k = 1 := by simp [psL] at hk; omega
    rcases hk2 with rfl | rfl
    · rw [cell_old _ _ _ (by simp; omega)]; exact cell_top0 _ _ (by simp; omega) _ _ _
    · rw [cell_old _ _ _ (by simp; omega)]; exact cell_top1 _ _ (by simp; omega) _ _ _
theorem Lr_one (w : World) (x y : Int) (t1 t2 : TypeId) (g1 g2 : Nat) (h1 : g1 = w.heap.size) (h2 : g2 = w.heap.size + 1) :
    Lr ((w.alloc (.cells #[.int .i64 x, .int .i64 y] t1)).alloc (.cells #[.slice (some ⟨g1, 0, none⟩) 2 2] t2)) (some ⟨g2, 0, none⟩) [[x, y]] := fun _ => by
  refine ⟨g2, 0, rfl, by simp; omega, fun i hi => ?_⟩
  obtain rfl : i = 0 := by simp at hi; omega
  refine ⟨some ⟨g1, 0, none⟩, 2, cell_topO _ _ (by simp; omega) _ _, fun _ => ⟨g1, 0, rfl, by simp; omega, fun k hk => ?_⟩⟩
  have hk2 : k = 0 ∨ k = 1 := by simp [psL] at hk; omega
  rcases hk2 with rfl | rfl
  · rw [cell_old _ _ _ (by simp; omega)]; exact cell_top0 _ _ h1 _ _ _
  · rw [cell_old _ _ _ (by simp; omega)]; exact cell_top1 _ _ h1 _ _ _
theorem lens_app {ps : List (List Int)} {y : List Int} (h : ∀ i, i < ps.length → (psL ps i).length ≤ 100) (hy : y.length ≤ 100) : ∀ i, i < (ps ++ [y]).length → (psL (ps ++ [y]) i).length ≤ 100 := fun i hi => by
  rw [List.length_append, List.length_singleton] at hi
  by_cases h1 : i < ps.length
  · rw [psL_app_lt h1]; exact h i h1
  · obtain rfl : i = ps.length := by omega
    rw [psL_app_eq]; exact hy
theorem Cur.below {w w' : World} {bp n c k : Nat} {A : Option Addr} (h : Cur w bp A n c k) (hb : Below w.heap.size w w') : Cur w' bp A n c k := by
  have hlt := h.lt
  obtain ⟨s, h1, h2⟩ := h
  exact ⟨s, by rw [hb.block bp hlt]; exact h1, h2.below (hb.mono (Nat.le_of_lt hlt))⟩
set_option maxHeartbeats 2000000 in
theorem DrawNumberOfFactors_c (w : World) (A : Option Addr) (n c : Nat) (hB : Byt w w.heap.size A n) (hn : n ≤ 4294967296) :
    Calls Try.prog 40 #[.slice A n c] w fun en w' => (∃ A' c' ps, en = .returned (.slice A' ps.length c') ∧ Lr w' A' ps ∧ ps.length ≤ 31 ∧ ∀ i, i < ps.length → (psL ps i).length ≤ 100) ∧ Below w.heap.size w w' := by
  have HC := Lib.hid (cur_new w A n c hB)
  clear hB
  go_enter Try.func40, Try.ntmps40
  go_wp2_with fail
  refine (factored_c _ w.heap.size A n c 0 HC.out hn (by omega)).mono ?_
  rintro e w2 ⟨⟨v, rfl⟩, ⟨k2, hk2, hc2⟩, g1⟩
  have HC2 := Lib.hid hc2
  have hlt := hc2.lt
  clear hc2
  cases hf : inB v 1 1000000000 with
  | false =>
    go_wp2_with fail
    refine (prFactored_c v _).mono ?_
    rw [hf]
    rintro e w3 ⟨rfl, rfl⟩
    go_wp2
    go_ret
    exact ⟨⟨_, _, [[2, 1], [4, 1]], rfl, Lr_two _ _ _ _ _ _ _ _ _ _ _ rfl (by simp) (by simp), by decide, by decide⟩, below_cur (grown_trans g1 (grown_trans (World.grownBy_alloc _ _ _) (grown_trans (World.grownBy_alloc _ _ _) (World.grownBy_alloc _ _ _))))⟩
  | true =>
    obtain ⟨n1, n2⟩ := inB_true.1 hf
    obtain ⟨N, rfl⟩ := Int.eq_ofNat_of_zero_le (Int.le_trans (by omega) n1)
    have hN1 : 1 ≤ N := by omega
    have hN9 : N ≤ 1000000000 := by omega
    have hfl := flL_len hN1 hN9
    have Hlen : Hid (∀ i, i < (flL N).length → (psL (flL N) i).length ≤ 100) := fun i hi => by
      have hi2 : i < (facs N).length := by rw [flL, List.length_map] at hi; exact hi
      rw [flL_get hi2]
      show 2 ≤ 100
      omega
    have F := Lib.hid (fun W => prFactors_c W N hN1 hN9)
    obtain ⟨PS, hPS⟩ : ∃ x, flL N = x := ⟨_, rfl⟩
    rw [hPS] at F Hlen hfl
    clear hPS
    go_wp2_with fail
    refine (prFactored_c _ _).mono ?_
    rw [hf]
    rintro e w3 ⟨rfl, rfl⟩
    go_wp2_with fail
    refine (F.out _).mono ?_
    rintro e w4 ⟨⟨v4, rfl, o4⟩, b4⟩
    have HC4 := Lib.hid (HC2.out.below b4)
    have hs4 := b4.size
    have B4 := (below_cur g1).trans (b4.mono (below_cur g1).size)
    have Ho4 := Lib.hid o4
    clear o4 F
    go_wp2_with fail
    refine (pick_c _ w.heap.size A n c k2 12 HC4.out hn (by omega) (by omega) (by omega)).mono ?_
    rintro e w5 ⟨⟨x, rfl, hx⟩, ⟨k5, hk5, hc5⟩, g5⟩
    have HC5 := Lib.hid hc5
    have hlt5 := hc5.lt
    have Ho5 := Lib.hid (Ho4.out.grown g5 hlt)
    have hs5 : w2.heap.size ≤ w5.heap.size := Nat.le_trans hs4 g5.size
    have B5 := B4.trans ((grown_below g5 (by omega)))
    clear hc5
    by_cases h0 : x = 0
    · have e0 : ((x : Int) == 0) = true := by rw [beq_iff_eq]; omega
      clear h0
      have Ho2 := Lib.hid (own_two w5 w2.heap.size hs5 2 1)
      go_wp2_with (at_builtin; (refine wp_app_ll _ _ rfl _ _ rfl w2.heap.size _ _ rfl w5 Ho5.out ((Below.refl _ _).alloc (Nat.le_refl _) _) _ Ho2.out (fun q hq => by simp [Value.ownBlock] at hq; omega) _ rfl (by simp) (by omega) (by simp; omega) ?_); intro v' w6 o6 b6)
      go_wp2
      go_ret
      obtain ⟨A6, c6, rfl⟩ := o6.shape
      exact ⟨⟨_, _, _, rfl, Lr_of_own o6, by rw [List.length_append, List.length_singleton]; omega, lens_app Hlen.out (by decide)⟩, (B5.alloc B5.size _).trans (b6.mono (by omega))⟩
    have e0 : ((x : Int) == 0) = false := by rw [beq_eq_false_iff_ne]; omega
    clear h0
    by_cases h1 : x = 1
    · have e1 : ((x : Int) == 1) = true := by rw [beq_iff_eq]; omega
      clear h1
      go_wp2_with fail
      refine (pick_c _ w.heap.size A n c k5 3 HC5.out hn (by omega) (by omega) (by omega)).mono ?_
      rintro e w7 ⟨⟨y, rfl, hy⟩, -, g7⟩
      have Ho7 := Lib.hid (Ho5.out.grown g7 hlt)
      have hs7 : w2.heap.size ≤ w7.heap.size := Nat.le_trans hs5 g7.size
      have B7 := B5.trans ((grown_below g7 (by omega)))
      have Ho2 := Lib.hid (own_two w7 w2.heap.size hs7 999999937 (y : Int))
      go_wp2_with (at_builtin; (refine wp_app_ll _ _ rfl _ _ rfl w2.heap.size _ _ rfl w7 Ho7.out ((Below.refl _ _).alloc (Nat.le_refl _) _) _ Ho2.out (fun q hq => by simp [Value.ownBlock] at hq; omega) _ rfl (by simp) (by omega) (by simp; omega) ?_); intro v' w6 o6 b6)
      go_wp2
      go_ret
      obtain ⟨A6, c6, rfl⟩ := o6.shape
      exact ⟨⟨_, _, _, rfl, Lr_of_own o6, by rw [List.length_append, List.length_singleton]; omega, lens_app Hlen.out (by simp)⟩, (B7.alloc B7.size _).trans (b6.mono (by omega))⟩
    have e1 : ((x : Int) == 1) = false := by rw [beq_eq_false_iff_ne]; omega
    clear h1
    by_cases h2 : x = 2
    · have e2 : ((x : Int) == 2) = true := by rw [beq_iff_eq]; omega
      clear h2
      go_wp2_with fail
      refine (among_c _ w.heap.size A n c k5 w5.heap.size 4 _ [0, 1, -3, 4611686018427387904] (HC5.out.alloc _) (Il_new _ _ _ _ _ rfl rfl) (by omega) hn (by omega) rfl (by omega) (by omega)).mono ?_
      rintro e w7 ⟨⟨y, rfl, _⟩, -, g7⟩
      have g7' := grown_trans (World.grownBy_alloc w5 _ (some w.heap.size)) g7
      have Ho7 := Lib.hid (Ho5.out.grown g7' hlt)
      have hs7 : w2.heap.size ≤ w7.heap.size := Nat.le_trans hs5 g7'.size
      have B7 := B5.trans ((grown_below g7' (by omega)))
      have Ho2 := Lib.hid (own_two w7 w2.heap.size hs7 y 1)
      go_wp2_with (at_builtin; (refine wp_app_ll _ _ rfl _ _ rfl w2.heap.size _ _ rfl w7 Ho7.out ((Below.refl _ _).alloc (Nat.le_refl _) _) _ Ho2.out (fun q hq => by simp [Value.ownBlock] at hq; omega) _ rfl (by simp) (by omega) (by simp; omega) ?_); intro v' w6 o6 b6)
      go_wp2
      go_ret
      obtain ⟨A6, c6, rfl⟩ := o6.shape
      exact ⟨⟨_, _, _, rfl, Lr_of_own o6, by rw [List.length_append, List.length_singleton]; omega, lens_app Hlen.out (by simp)⟩, (B7.alloc B7.size _).trans (b6.mono (by omega))⟩
    have e2 : ((x : Int) == 2) = false := by rw [beq_eq_false_iff_ne]; omega
    clear h2
    by_cases h3 : x = 3
    · have e3 : ((x : Int) == 3) = true := by rw [beq_iff_eq]; omega
      clear h3
      go_wp2_with fail
      refine (among_c _ w.heap.size A n c k5 w5.heap.size 5 _ [29, 30, 31, 0, 4611686018427387904] (HC5.out.alloc _) (Il_new _ _ _ _ _ rfl rfl) (by omega) hn (by omega) rfl (by omega) (by omega)).mono ?_
      rintro e w7 ⟨⟨y, rfl, _⟩, -, g7⟩
      have g7' := grown_trans (World.grownBy_alloc w5 _ (some w.heap.size)) g7
      have B7 := B5.trans ((grown_below g7' (by omega)))
      go_wp2
      go_ret
      exact ⟨⟨_, _, [[2, y]], rfl, Lr_one _ _ _ _ _ _ _ rfl (by simp), by show 1 ≤ 31; omega, lens_app (ps := []) (fun i hi => by simp at hi) (by simp)⟩, (B7.alloc B7.size _).alloc (by simp; have := B7.size; omega) _⟩
    have e3 : ((x : Int) == 3) = false := by rw [beq_eq_false_iff_ne]; omega
    clear h3
    obtain ⟨A6, c6, rfl⟩ := Ho5.out.shape
    go_wp2
    go_ret
    exact ⟨⟨_, _, _, rfl, Lr_of_own Ho5.out, by omega, Hlen.out⟩, B5⟩

end Go.Proofs.Ytaapfapejekkfaa
