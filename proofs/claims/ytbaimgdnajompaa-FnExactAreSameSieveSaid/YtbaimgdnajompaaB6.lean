import Derived.Test.YtbaimgdnajompaaB5
namespace Go.Proofs.Ytbaimgdnajompaa
open Go.RowKit
set_option linter.unusedVariables false
set_option linter.unusedSimpArgs false

theorem OwnR.mono {w : World} {B B' : Nat} {v : Value} {xs : List (Int × Int)} (h : OwnR w B v xs) (hB : B' ≤ B) : OwnR w B' v xs := by
  refine ⟨h.1, ?_⟩
  rcases h.2 with h2 | ⟨g, cap, cur, e, hg, r⟩
  · exact .inl h2
  · exact .inr ⟨g, cap, cur, e, Nat.le_trans hB hg, r⟩

set_option maxRecDepth 100000 in
set_option maxHeartbeats 1000000 in
theorem impl_MoveRules_c (w : World) (A : Option Addr) (m c : Nat) (rs : List (Int × Int)) (hA : Rl w A rs) (hm : m = rs.length) (hn : m ≤ 1048576) (n : Int) :
    Calls Try.prog 58 #[.slice A m c, .int .i64 n] w fun en w' => (∃ v, en = .returned (.tuple #[v, .bool (okN rs n)]) ∧ OwnR w' w.heap.size v (moveV rs n)) ∧ Below w.heap.size w w' := by
  have Hm := Lib.hid hm
  clear hm
  have hmk := fun W => mk_full Try.underlying31 info_R m (by omega) (by omega) W
  cases hg : goodL rs with
  | false =>
    have ho : okN rs n = false := by simp [okN, *]
    rw [moveV_no ho, ho]
    clear ho hmk
    go_enter Try.func58, Try.ntmps58
    go_wp2_with fail
    refine (implAreRules_c _ _ _ rs _ hA Hm.out hn).mono ?_
    rintro e w1 ⟨rfl, b1⟩
    have hA_1 := hA.below b1
    go_wp2
    go_ret2
    exact ⟨⟨_, rfl, OwnR.nil _ _⟩, b1⟩
  | true =>
    cases hk : numB n with
    | false =>
      have ho : okN rs n = false := by simp [okN, *]
      rw [moveV_no ho, ho]
      clear ho hmk
      go_enter Try.func58, Try.ntmps58
      go_wp2_with fail
      refine (implAreRules_c _ _ _ rs _ hA Hm.out hn).mono ?_
      rintro e w1 ⟨rfl, b1⟩
      have hA_1 := hA.below b1
      go_wp2_with fail
      refine (isNumber_c _ _).mono ?_
      rintro e w2 ⟨rfl, rfl⟩
      go_wp2
      go_ret2
      exact ⟨⟨_, rfl, OwnR.nil _ _⟩, b1⟩
    | true =>
      have ho : okN rs n = true := by simp [okN, *]
      rw [moveV_yes ho, ho]
      obtain ⟨k1, k2⟩ := numB_true.1 hk
      have h12 : m ≤ 12 := by rw [Hm.out]; exact good_len hg
      clear ho
      have Hg := Lib.hid hg
      have Hk := Lib.hid hk
      go_enter Try.func58, Try.ntmps58
      go_wp2_with fail
      refine (implAreRules_c _ _ _ rs _ hA Hm.out hn).mono ?_
      rintro e w1 ⟨rfl, b1⟩
      have hA_1 := hA.below b1
      go_wp2_with fail
      refine (isNumber_c _ _).mono ?_
      rintro e w2 ⟨rfl, rfl⟩
      go_wp2_with fail
      clear hmk
      have hml := mk_owns (e := 25) #[.int .i64 0, .int .i64 0] 2 m (by unfold maxLen; omega) w1
      go_loopw [22] (fun i wr => ∃ k : Nat, k ≤ m ∧ i = .int .i64 k ∧ (∃ xs, wr.ownsRow w1.heap.size 25 2 (.slice (some ⟨w1.heap.size, 0, none⟩) m m) m xs ∧ ∀ j, j < k → xs[j * 2]? = some (.int .i64 (evL rs j)) ∧ xs[j * 2 + 1]? = some (.int .i64 (fMove n (evL rs j) (reL rs j)))) ∧ Below w1.heap.size w1 wr) (fun i _ => m - (intOf i).toNat)
      case atStart => exact ⟨0, Nat.zero_le _, rfl, ⟨_, hml, by omega⟩, (Below.refl _ _).alloc (Nat.le_refl _) _⟩
      case round =>
        clear hml
        obtain ⟨k, hk, rfl, ⟨xs, hown, hxs⟩, hbel⟩ := hrel
        have Hxs := Lib.hid hxs
        have Hown := Lib.hid hown
        clear hxs hown
        have bz := (b1).size
        by_cases hlt : k < m
        · have hlt1 : k < rs.length := by have := Hm.out; omega
          obtain ⟨b, off, rfl, hb, hr⟩ := hA (by omega)
          have hbw := ((b1).trans (hbel.mono bz))
          have hc0 := (hbw.cell (p := ⟨b, off + k * 2, none⟩) hb).trans (hr k hlt1).1
          have hc1 := (hbw.cell (p := ⟨b, off + k * 2 + 1, none⟩) hb).trans (hr k hlt1).2
          obtain ⟨e1, e2, e3, e4⟩ := okR_at Hg.out hlt1
          have hs := hbel.size
          obtain ⟨x0, hx0, hf0⟩ := own_get Hown.out (k * 2) (by omega)
          obtain ⟨x1, hx1, hf1⟩ := own_get Hown.out (k * 2 + 1) (by omega)
          have hg : w1.heap.size < wr.heap.size := (Hown.out.lt _ rfl).2
          have Hmf := Lib.hid (show fMove n (evL rs k) (reL rs k) = restF (reL rs k + n) (evL rs k) from rfl)
          have hki : (k : Int) < (m : Int) := by omega
          go_wp2_with fail
          obtain ⟨W, hd0, hd1, hsz, hbel2, hown1, hy0, hy1, hz0, hz1, hWe⟩ : ∃ W, W.cell? ⟨wr.heap.size, 0, none⟩ = some (.int .i64 (evL rs k)) ∧ W.cell? ⟨wr.heap.size, 1, none⟩ = some (.int .i64 (reL rs k)) ∧ wr.heap.size < W.heap.size ∧ Below w1.heap.size w1 W ∧ W.ownsRow w1.heap.size 25 2 (.slice (some ⟨w1.heap.size, 0, none⟩) m m) m xs ∧
              W.cell? ⟨w1.heap.size, k * 2, none⟩ = some x0 ∧ W.cell? ⟨w1.heap.size, k * 2 + 1, none⟩ = some x1 ∧ W.frozen? ⟨w1.heap.size, k * 2, none⟩ = false ∧ W.frozen? ⟨w1.heap.size, k * 2 + 1, none⟩ = false ∧
              wr.alloc (.cells #[.int .i64 (evL rs k), .int .i64 (reL rs k)] 25) = W :=
            ⟨_, by simp, by simp, by simp, hbel.alloc hs _, World.ownsRow.alloc Hown.out _, (World.cell?_alloc_past _ _ _ hg).trans hx0, (World.cell?_alloc_past _ _ _ hg).trans hx1, (World.frozen?_alloc_past _ _ _ hg).trans hf0, (World.frozen?_alloc_past _ _ _ hg).trans hf1, rfl⟩
          rw [hWe]
          clear hWe
          have Hown1 := Lib.hid hown1
          clear hown1 hx0 hx1 hf0 hf1
          have hp1 : -1000000000 ≤ reL rs k + n := by omega
          have hp2 : reL rs k + n ≤ 1000000000 := by omega
          have hw : IntKind.i64.wrap (reL rs k + n) = reL rs k + n := IntWalk.i64_in _ (by omega)
          go_still_tail 13, (by kernel_rfl)
          still_call (scall (restOf_c _ _ _ hp1 hp2 e1 e2))
          clear hw
          repeat still_step
          refine wpStill_nil ?_
          go_wp2
          go_roundw
          case rel =>
            have h2 := (World.ownsRow.drew Hown1.out).stored (k * 2) (.int .i64 (evL rs k))
            have h3 := h2.1.stored (k * 2 + 1) (.int .i64 (restF (reL rs k + n) (evL rs k)))
            refine ⟨k + 1, by omega, by go_num, ⟨_, h3.1, fun j hj => ?_⟩, (hbel2.drew.setCell (Nat.le_refl _) _).setCell (Nat.le_refl _) _⟩
            have hxl : xs.length = m * 2 := Hown.out.1
            rcases Nat.lt_succ_iff_lt_or_eq.1 hj with h | h
            · have := Hxs.out j h
              rw [List.getElem?_set_ne (by omega), List.getElem?_set_ne (by omega), List.getElem?_set_ne (by omega), List.getElem?_set_ne (by omega)]
              exact this
            · subst h
              rw [List.getElem?_set_ne (by omega), List.getElem?_set_self (by omega), List.getElem?_set_self (by rw [List.length_set]; omega), Hmf.out]
              exact ⟨rfl, rfl⟩
          case measure => simp [intOf]; omega
        · go_wp2
          go_ret2
          have hkn : k = m := by omega
          subst hkn
          refine ⟨⟨_, rfl, ?_⟩, (b1).trans (hbel.mono bz)⟩
          have h := Hown.out
          have hl := Hm.out
          subst hl
          have : xs = cellsR (movA (fMove n) rs) := cellsR_of (by rw [movA_len]; exact h.1) fun j hj => by
            rw [movA_len] at hj
            rw [(movA_get (fMove n) hj).1, (movA_get (fMove n) hj).2]
            exact Hxs.out j hj
          subst this
          have h' : OwnR wr w1.heap.size (.slice (some ⟨w1.heap.size, 0, none⟩) rs.length rs.length) (movA (fMove n) rs) := by unfold OwnR; rw [movA_len]; exact h
          exact OwnR.mono h' bz

set_option maxRecDepth 100000 in
set_option maxHeartbeats 1000000 in
theorem impl_MirrorRules_c (w : World) (A : Option Addr) (m c : Nat) (rs : List (Int × Int)) (hA : Rl w A rs) (hm : m = rs.length) (hn : m ≤ 1048576) :
    Calls Try.prog 60 #[.slice A m c] w fun en w' => (∃ v, en = .returned (.tuple #[v, .bool (goodL rs)]) ∧ OwnR w' w.heap.size v (mirrorV rs)) ∧ Below w.heap.size w w' := by
  have Hm := Lib.hid hm
  clear hm
  have hmk := fun W => mk_full Try.underlying31 info_R m (by omega) (by omega) W
  cases hg : goodL rs with
  | false =>
    rw [mirrorV_no hg]
    clear hmk
    go_enter Try.func60, Try.ntmps60
    go_wp2_with fail
    refine (implAreRules_c _ _ _ rs _ hA Hm.out hn).mono ?_
    rintro e w1 ⟨rfl, b1⟩
    have hA_1 := hA.below b1
    go_wp2
    go_ret2
    exact ⟨⟨_, rfl, OwnR.nil _ _⟩, b1⟩
  | true =>
    rw [mirrorV_yes hg]
    have h12 : m ≤ 12 := by rw [Hm.out]; exact good_len hg
    have Hg := Lib.hid hg
    go_enter Try.func60, Try.ntmps60
    go_wp2_with fail
    refine (implAreRules_c _ _ _ rs _ hA Hm.out hn).mono ?_
    rintro e w1 ⟨rfl, b1⟩
    have hA_1 := hA.below b1
    go_wp2_with fail
    clear hmk
    have hml := mk_owns (e := 25) #[.int .i64 0, .int .i64 0] 2 m (by unfold maxLen; omega) w1
    go_loopw [15] (fun i wr => ∃ k : Nat, k ≤ m ∧ i = .int .i64 k ∧ (∃ xs, wr.ownsRow w1.heap.size 25 2 (.slice (some ⟨w1.heap.size, 0, none⟩) m m) m xs ∧ ∀ j, j < k → xs[j * 2]? = some (.int .i64 (evL rs j)) ∧ xs[j * 2 + 1]? = some (.int .i64 (fMirror (evL rs j) (reL rs j)))) ∧ Below w1.heap.size w1 wr) (fun i _ => m - (intOf i).toNat)
    case atStart => exact ⟨0, Nat.zero_le _, rfl, ⟨_, hml, by omega⟩, (Below.refl _ _).alloc (Nat.le_refl _) _⟩
    case round =>
      clear hml
      obtain ⟨k, hk, rfl, ⟨xs, hown, hxs⟩, hbel⟩ := hrel
      have Hxs := Lib.hid hxs
      have Hown := Lib.hid hown
      clear hxs hown
      have bz := (b1).size
      by_cases hlt : k < m
      · have hlt1 : k < rs.length := by have := Hm.out; omega
        obtain ⟨b, off, rfl, hb, hr⟩ := hA (by omega)
        have hbw := ((b1).trans (hbel.mono bz))
        have hc0 := (hbw.cell (p := ⟨b, off + k * 2, none⟩) hb).trans (hr k hlt1).1
        have hc1 := (hbw.cell (p := ⟨b, off + k * 2 + 1, none⟩) hb).trans (hr k hlt1).2
        obtain ⟨e1, e2, e3, e4⟩ := okR_at Hg.out hlt1
        have hs := hbel.size
        obtain ⟨x0, hx0, hf0⟩ := own_get Hown.out (k * 2) (by omega)
        obtain ⟨x1, hx1, hf1⟩ := own_get Hown.out (k * 2 + 1) (by omega)
        have hg : w1.heap.size < wr.heap.size := (Hown.out.lt _ rfl).2
        have Hmf := Lib.hid (show fMirror (evL rs k) (reL rs k) = restF (-reL rs k) (evL rs k) from rfl)
        have hki : (k : Int) < (m : Int) := by omega
        go_wp2_with fail
        obtain ⟨W, hd0, hd1, hsz, hbel2, hown1, hy0, hy1, hz0, hz1, hWe⟩ : ∃ W, W.cell? ⟨wr.heap.size, 0, none⟩ = some (.int .i64 (evL rs k)) ∧ W.cell? ⟨wr.heap.size, 1, none⟩ = some (.int .i64 (reL rs k)) ∧ wr.heap.size < W.heap.size ∧ Below w1.heap.size w1 W ∧ W.ownsRow w1.heap.size 25 2 (.slice (some ⟨w1.heap.size, 0, none⟩) m m) m xs ∧
            W.cell? ⟨w1.heap.size, k * 2, none⟩ = some x0 ∧ W.cell? ⟨w1.heap.size, k * 2 + 1, none⟩ = some x1 ∧ W.frozen? ⟨w1.heap.size, k * 2, none⟩ = false ∧ W.frozen? ⟨w1.heap.size, k * 2 + 1, none⟩ = false ∧
            wr.alloc (.cells #[.int .i64 (evL rs k), .int .i64 (reL rs k)] 25) = W :=
          ⟨_, by simp, by simp, by simp, hbel.alloc hs _, World.ownsRow.alloc Hown.out _, (World.cell?_alloc_past _ _ _ hg).trans hx0, (World.cell?_alloc_past _ _ _ hg).trans hx1, (World.frozen?_alloc_past _ _ _ hg).trans hf0, (World.frozen?_alloc_past _ _ _ hg).trans hf1, rfl⟩
        rw [hWe]
        clear hWe
        have Hown1 := Lib.hid hown1
        clear hown1 hx0 hx1 hf0 hf1
        have hp1 : -1000000000 ≤ -reL rs k := by omega
        have hp2 : -reL rs k ≤ 1000000000 := by omega
        have hw : IntKind.i64.wrap (-reL rs k) = -reL rs k := IntWalk.i64_in _ (by omega)
        go_still_tail 12, (by kernel_rfl)
        still_call (scall (restOf_c _ _ _ hp1 hp2 e1 e2))
        clear hw
        repeat still_step
        refine wpStill_nil ?_
        go_wp2
        go_roundw
        case rel =>
          have h2 := (World.ownsRow.drew Hown1.out).stored (k * 2) (.int .i64 (evL rs k))
          have h3 := h2.1.stored (k * 2 + 1) (.int .i64 (restF (-reL rs k) (evL rs k)))
          refine ⟨k + 1, by omega, by go_num, ⟨_, h3.1, fun j hj => ?_⟩, (hbel2.drew.setCell (Nat.le_refl _) _).setCell (Nat.le_refl _) _⟩
          have hxl : xs.length = m * 2 := Hown.out.1
          rcases Nat.lt_succ_iff_lt_or_eq.1 hj with h | h
          · have := Hxs.out j h
            rw [List.getElem?_set_ne (by omega), List.getElem?_set_ne (by omega), List.getElem?_set_ne (by omega), List.getElem?_set_ne (by omega)]
            exact this
          · subst h
            rw [List.getElem?_set_ne (by omega), List.getElem?_set_self (by omega), List.getElem?_set_self (by rw [List.length_set]; omega), Hmf.out]
            exact ⟨rfl, rfl⟩
        case measure => simp [intOf]; omega
      · go_wp2
        go_ret2
        have hkn : k = m := by omega
        subst hkn
        refine ⟨⟨_, rfl, ?_⟩, (b1).trans (hbel.mono bz)⟩
        have h := Hown.out
        have hl := Hm.out
        subst hl
        have : xs = cellsR (movA (fMirror) rs) := cellsR_of (by rw [movA_len]; exact h.1) fun j hj => by
          rw [movA_len] at hj
          rw [(movA_get (fMirror) hj).1, (movA_get (fMirror) hj).2]
          exact Hxs.out j hj
        subst this
        have h' : OwnR wr w1.heap.size (.slice (some ⟨w1.heap.size, 0, none⟩) rs.length rs.length) (movA (fMirror) rs) := by unfold OwnR; rw [movA_len]; exact h
        exact OwnR.mono h' bz

end Go.Proofs.Ytbaimgdnajompaa
