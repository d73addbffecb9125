import Derived.Test.YtgldlcfkdblphaaK2
import Derived.Test.YtgldlcfkdblphaaE1
import Derived.Deep.Matrix
namespace Go.Proofs.Ytgldlcfkdblphaa
open Go.ChangeShapes Go.WideShapes Go.ChangeAt Go.RowKit Go.Deep
set_option linter.unusedVariables false
set_option linter.unusedSimpArgs false

set_option maxRecDepth 100000 in
theorem szIntS_yes (A : Option Addr) (n c : Nat) (l : Int) (w : World) (h0 : (n : Int) ≤ l) (hl : l ≤ 1048576) :
    Calls Try.prog 85 #[.slice A n c, .int .i64 l] w fun en w' => en = .returned (.int .i64 (l - (n : Int))) ∧ w = w' := by
  go_enter Try.func85, Try.ntmps85
  go_wp2
  go_ret
  exact ⟨rfl, rfl⟩
set_option maxRecDepth 100000 in
theorem szIntS_no (A : Option Addr) (n c : Nat) (l : Int) (w : World) (h0 : l < (n : Int)) (hl : 0 ≤ l) (hn : n ≤ 9223372036854775807) :
    Calls Try.prog 85 #[.slice A n c, .int .i64 l] w fun en w' => en = .returned (.int .i64 (-1)) ∧ w = w' := by
  go_enter Try.func85, Try.ntmps85
  go_wp2
  go_ret
  exact ⟨rfl, rfl⟩
set_option maxRecDepth 100000 in
set_option maxHeartbeats 800000 in
theorem szSS_yes (A : Option Addr) (n c : Nat) (ps : List (List Int)) (w : World) (hA : Lr w A ps) (hn : n = ps.length) (hs : n + sumL ps n ≤ 1048576) :
    Calls Try.prog 42 #[.slice A n c, .int .i64 1048576] w fun en w' => en = .returned (.int .i64 (1048576 - (n : Int) - (sumL ps n : Int))) ∧ w = w' := by
  subst hn
  have Hs := Lib.hid hs
  have hl1 : ps.length ≤ 1048576 := by omega
  clear hs
  go_enter Try.func42, Try.ntmps42
  go_wp2
  go_loop [1, 5] (fun q i => ∃ k : Nat, k ≤ ps.length ∧ i = .int .i64 (k : Int) ∧ q = .int .i64 (1048576 - (ps.length : Int) - (sumL ps k : Int))) (fun _ i => ps.length - (intOf i).toNat)
  case atStart => exact ⟨0, Nat.zero_le _, rfl, by rw [sumL_zero]; simp⟩
  case round =>
    obtain ⟨k, hk, rfl, rfl⟩ := hrel
    by_cases hlt : k < ps.length
    · obtain ⟨b, off, rfl, hb, hr⟩ := hA (by omega)
      obtain ⟨A1, c1, q1, _⟩ := hr k hlt
      have hsl := sumL_len hlt
      have hss := sumL_succ hlt
      have hb1 : ((psL ps k).length : Int) ≤ 1048576 - (ps.length : Int) - (sumL ps k : Int) := by have := Hs.out; omega
      have hb2 : 1048576 - (ps.length : Int) - (sumL ps k : Int) ≤ 1048576 := by omega
      have E1 := Lib.hid (show 1048576 - (ps.length : Int) - (sumL ps k : Int) - ((psL ps k).length : Int) = 1048576 - (ps.length : Int) - (sumL ps (k + 1) : Int) by omega)
      clear hsl hss
      go_wp2_with fail
      refine (szIntS_yes _ _ _ _ _ hb1 hb2).mono ?_
      rintro e w1 ⟨rfl, rfl⟩
      go_wp2
      go_round
      case rel => exact ⟨k + 1, by omega, by go_num, by rw [E1.out]⟩
      case measure => simp [intOf]; omega
    · have hkn : k = ps.length := by omega
      have Hk := Lib.hid hkn
      clear hkn
      go_wp2
      go_ret
      exact ⟨by rw [Hk.out]; rfl, rfl⟩
set_option maxRecDepth 100000 in
set_option maxHeartbeats 800000 in
theorem szSS_no (A : Option Addr) (n c : Nat) (ps : List (List Int)) (w : World) (hA : Lr w A ps) (hn : n = ps.length) (hn9 : n ≤ 9223372036854775807) (hlen : ∀ i, i < ps.length → (psL ps i).length ≤ 9223372036854775807) (hs : ¬ n + sumL ps n ≤ 1048576) :
    Calls Try.prog 42 #[.slice A n c, .int .i64 1048576] w fun en w' => en = .returned (.int .i64 (-1)) ∧ w = w' := by
  subst hn
  have Hs := Lib.hid hs
  have Hlen := Lib.hid hlen
  clear hs hlen
  by_cases hl1 : ps.length ≤ 1048576
  · go_enter Try.func42, Try.ntmps42
    go_wp2
    go_loop [1, 5] (fun q i => ∃ k : Nat, k ≤ ps.length ∧ i = .int .i64 (k : Int) ∧ q = .int .i64 (1048576 - (ps.length : Int) - (sumL ps k : Int)) ∧ ps.length + sumL ps k ≤ 1048576) (fun _ i => ps.length - (intOf i).toNat)
    case atStart => exact ⟨0, Nat.zero_le _, rfl, by rw [sumL_zero]; simp, by rw [sumL_zero]; omega⟩
    case round =>
      obtain ⟨k, hk, rfl, rfl, hle⟩ := hrel
      by_cases hlt : k < ps.length
      · obtain ⟨b, off, rfl, hb, hr⟩ := hA (by omega)
        obtain ⟨A1, c1, q1, _⟩ := hr k hlt
        have hss := sumL_succ hlt
        have hl9 := Hlen.out k hlt
        by_cases hfit : ps.length + sumL ps k + (psL ps k).length ≤ 1048576
        · have hb1 : ((psL ps k).length : Int) ≤ 1048576 - (ps.length : Int) - (sumL ps k : Int) := by omega
          have hb2 : 1048576 - (ps.length : Int) - (sumL ps k : Int) ≤ 1048576 := by omega
          have E1 := Lib.hid (show 1048576 - (ps.length : Int) - (sumL ps k : Int) - ((psL ps k).length : Int) = 1048576 - (ps.length : Int) - (sumL ps (k + 1) : Int) by omega)
          have E2 := Lib.hid (show ps.length + sumL ps (k + 1) ≤ 1048576 by omega)
          clear hss
          go_wp2_with fail
          refine (szIntS_yes _ _ _ _ _ hb1 hb2).mono ?_
          rintro e w1 ⟨rfl, rfl⟩
          go_wp2
          go_round
          case rel => exact ⟨k + 1, by omega, by go_num, by rw [E1.out], E2.out⟩
          case measure => simp [intOf]; omega
        · have hb1 : 1048576 - (ps.length : Int) - (sumL ps k : Int) < ((psL ps k).length : Int) := by omega
          have hb2 : 0 ≤ 1048576 - (ps.length : Int) - (sumL ps k : Int) := by omega
          clear hss
          go_wp2_with fail
          refine (szIntS_no _ _ _ _ _ hb1 hb2 hl9).mono ?_
          rintro e w1 ⟨rfl, rfl⟩
          go_wp2
          go_ret
          exact ⟨rfl, rfl⟩
      · have hkn : k = ps.length := by omega
        rw [hkn] at hle
        exact absurd hle Hs.out
  · have hl2 : (1048576 : Int) < (ps.length : Int) := by omega
    go_enter Try.func42, Try.ntmps42
    go_wp2
    go_ret
    exact ⟨rfl, rfl⟩

set_option maxRecDepth 100000 in
set_option maxHeartbeats 800000 in
theorem toIntSS_c (A : Option Addr) (c : Nat) (n : Nat) (ps : List (List Int)) (w : World) (hA : Lr w A ps) (hn : n = ps.length) (hs : n + sumL ps n ≤ 1048576) :
    Calls Try.prog 44 #[.slice A n c] w fun en w' => en = .returned (.slice (some ⟨w.heap.size, 0, none⟩) n n) ∧ OwnLL w' w.heap.size (.slice (some ⟨w.heap.size, 0, none⟩) n n) ps ∧ Below w.heap.size w w' := by
  subst hn
  have Hs := Lib.hid hs
  have hl1 : ps.length ≤ 1048576 := by omega
  clear hs
  have hmk := fun W => mk_full Try.underlying34 info_LI ps.length (by omega) (by omega) W
  have hml := mk_owns (e := 25) #[.slice none 0 0] 1 ps.length (by unfold maxLen; omega) w
  rw [Nat.mul_one] at hml
  go_enter Try.func44, Try.ntmps44
  go_wp2_with fail
  clear hmk
  go_loopw [4] (fun i wr => ∃ (k : Nat) (vs : List Value), k ≤ ps.length ∧ i = .int .i64 (k : Int) ∧ wr.ownsRow w.heap.size 25 1 (.slice (some ⟨w.heap.size, 0, none⟩) ps.length ps.length) ps.length vs ∧ (∀ j, j < k → ∃ u, vs[j]? = some u ∧ OwnI wr (w.heap.size + 1) u (psL ps j)) ∧ (∀ (i j : Nat) (u u' : Value), i < j → j < k → vs[i]? = some u → vs[j]? = some u' → ∀ q, u.ownBlock = some q → u'.ownBlock ≠ some q) ∧ w.heap.size < wr.heap.size ∧ Below w.heap.size w wr) (fun i _ => ps.length - (intOf i).toNat)
  case atStart => exact ⟨0, _, Nat.zero_le _, rfl, hml, by omega, by omega, by simp, (Below.refl _ _).alloc (Nat.le_refl _) _⟩
  case round =>
    clear hml
    obtain ⟨k, vs, hk, rfl, hown, hin, hdis, hsz, hbel⟩ := hrel
    have Hown := Lib.hid hown
    have Hin := Lib.hid hin
    have Hdis := Lib.hid hdis
    clear hown hin hdis
    by_cases hlt : k < ps.length
    · obtain ⟨b, off, rfl, hb, hr⟩ := hA (by omega)
      obtain ⟨A1, c1, q1, r1⟩ := hr k hlt
      have hlen : (psL ps k).length ≤ 1048576 := by have := sumL_len hlt; have := Hs.out; omega
      have hc0 := (hbel.cell (p := ⟨b, off + k, none⟩) hb).trans q1
      have R1 := Lib.hid (r1.below hbel)
      have hvl : vs.length = ps.length * 1 := Hown.out.1
      obtain ⟨x0, hx0, hf0⟩ := own_get Hown.out k (by omega)
      clear q1 r1
      go_wp2_with fail
      refine (toIntS_c A1 c1 _ (psL ps k) _ R1.out rfl hlen).mono ?_
      rintro e w1 ⟨rfl, o1, b1⟩
      have hy0 := (b1.cell (p := ⟨w.heap.size, k, none⟩) hsz).trans hx0
      have hy1 := (b1.frozen (p := ⟨w.heap.size, k, none⟩) hsz).trans hf0
      have Hown1 := Lib.hid (own_below Hown.out b1)
      have Ho1 := Lib.hid (OwnI.mono o1 (show w.heap.size + 1 ≤ wr.heap.size by omega))
      have Hin1 := Lib.hid (fun j (hj : j < k) => show ∃ u, vs[j]? = some u ∧ OwnI w1 (w.heap.size + 1) u (psL ps j) ∧ ∀ q, u.ownBlock = some q → q < wr.heap.size from by
        obtain ⟨u, a, o⟩ := Hin.out j hj
        exact ⟨u, a, o.below b1, fun q hq => (World.ownsRow.lt o q hq).2⟩)
      have hs1 := b1.size
      clear o1 hx0 hf0
      go_wp2
      go_roundw
      case rel =>
        have st := Hown1.out.stored k (.slice (some ⟨wr.heap.size, 0, none⟩) (psL ps k).length (psL ps k).length)
        have kp : ∀ {u : Value} {xs : List Int}, OwnI w1 (w.heap.size + 1) u xs → OwnI (w1.setCell ⟨w.heap.size, k, none⟩ (.slice (some ⟨wr.heap.size, 0, none⟩) (psL ps k).length (psL ps k).length)) (w.heap.size + 1) u xs := fun {u} {xs} o =>
          kept_if o st.2 fun q hq e => by
            have := (World.ownsRow.lt o q hq).1
            simp [Value.ownBlock] at e
            omega
        refine ⟨k + 1, _, by omega, by go_num, st.1, fun j hj => ?_, fun i j u u' hij hj e1 e2 q hq => ?_, by simp; omega, (hbel.trans (b1.mono hbel.size)).setCell (Nat.le_refl _) _⟩
        · rcases Nat.lt_succ_iff_lt_or_eq.1 hj with h | h
          · obtain ⟨u, a, o, _⟩ := Hin1.out j h
            exact ⟨u, by rw [List.getElem?_set_ne (by omega)]; exact a, kp o⟩
          · subst h
            exact ⟨_, List.getElem?_set_self (by omega), kp Ho1.out⟩
        · rw [List.getElem?_set_ne (by omega)] at e1
          rcases Nat.lt_succ_iff_lt_or_eq.1 hj with h | h
          · rw [List.getElem?_set_ne (by omega)] at e2
            exact Hdis.out i j u u' hij h e1 e2 q hq
          · subst h
            rw [List.getElem?_set_self (by omega)] at e2
            injection e2 with e2
            subst e2
            obtain ⟨u2, a, _, hl⟩ := Hin1.out i hij
            rw [e1] at a
            injection a with a
            subst a
            have := hl q hq
            simp [Value.ownBlock]
            omega
      case measure => simp [intOf]; omega
    · have hkn : k = ps.length := by omega
      have Hk := Lib.hid hkn
      clear hkn
      go_wp2
      go_ret
      refine ⟨rfl, ⟨vs, Hown.out, fun i hi => ?_, fun i j u u' hij e1 e2 => ?_⟩, hbel⟩
      · obtain ⟨u, a, o⟩ := Hin.out i (by have := Hk.out; omega)
        exact ⟨u, a, OwnI.mono o (Nat.le_succ _)⟩
      · have hj : j < ps.length := by
          have h1 := (List.getElem?_eq_some_iff.1 e2).1
          have h2 := Hown.out.1
          omega
        exact Hdis.out i j u u' hij (by have := Hk.out; omega) e1 e2

section
variable {H : Type} {enc : TypeId × Value → H} {W : World} {base b0 : Nat} {r : Reach} {held : Bool}
/-- An argument of type [][]int reads as lists of numbers. -/
theorem open_intLL {v : Value} {d : DataW H} {p : List MemPlace} (hval : Value.okWide Try.prog W r b0 34 v) (h : DataW.Trod enc Try.prog W base (fun _ => true) held 34 v d p) :
    ∃ A n c ps, v = .slice A n c ∧ n = ps.length ∧ n ≤ 9223372036854775807 ∧ (∀ i, i < ps.length → (psL ps i).length ≤ 9223372036854775807) ∧ Lr W A ps := by
  obtain ⟨a0, len, cap, rfl⟩ := okWide_slice Try.underlying34 hval
  obtain ⟨fuel, hf⟩ := h
  rcases open_int_rows Try.underlying34 Try.underlying25 Try.underlying3 (by kernel_rfl) (by kernel_rfl) hf with ⟨hcs, _⟩ | ⟨a, l, c, A, L, C, Z, hcs, _, hl, hm, _, hx⟩
  · simp [Value.cells] at hcs
    obtain ⟨rfl, rfl, rfl⟩ := hcs
    exact ⟨none, 0, 0, [], rfl, rfl, by omega, fun i h => by simp at h, fun h => by simp at h⟩
  · simp [Value.cells] at hcs
    obtain ⟨rfl, rfl, rfl⟩ := hcs
    have hm' : len ≤ 9223372036854775807 := by unfold maxLen at hm; omega
    have hps : ∀ i, i < len → psL ((List.range len).map fun i => (Z i).take (L i)) i = (Z i).take (L i) := fun i hi => by simp [psL, hi]
    have hLz : ∀ i, i < len → ((Z i).take (L i)).length = L i := fun i hi => by
      obtain ⟨_, h1, h2, h3, _⟩ := hx i (by omega)
      rw [List.length_take, h3]
      omega
    refine ⟨some a, len, cap, (List.range len).map fun i => (Z i).take (L i), rfl, by simp, hm', fun i hi => ?_, fun hp => ?_⟩
    · have hi' : i < len := by simpa using hi
      obtain ⟨_, h1, h2, _⟩ := hx i (by omega)
      rw [hps i hi', hLz i hi']
      unfold maxLen at h2
      omega
    · have hlen : 0 < len := by simpa using hp
      obtain ⟨c0, _⟩ := hx 0 (by omega)
      obtain ⟨b, off, rfl⟩ := addr_plain c0
      refine ⟨b, off, rfl, World.block_lt_of_cell? W _ (by simpa [add_plain] using c0), fun i hi => ?_⟩
      have hi' : i < len := by simpa using hi
      obtain ⟨g0, h1, h2, h3, h4, h5, h6⟩ := hx i (by omega)
      rw [add_plain] at g0
      rw [hps i hi']
      refine ⟨A i, C i, by rw [g0, hLz i hi'], fun hp2 => ?_⟩
      rw [hLz i hi'] at hp2
      cases hA : A i with
      | none => have := h5 hA; omega
      | some a' =>
        obtain ⟨_, hc⟩ := h6 a' hA
        have hc0 := hc 0 (by omega)
        obtain ⟨b', off', rfl⟩ := addr_plain hc0
        refine ⟨b', off', rfl, World.block_lt_of_cell? W _ (by simpa [add_plain] using hc0), fun k hk => ?_⟩
        rw [hLz i hi'] at hk
        have := hc k (by omega)
        rw [add_plain] at this
        rw [this, ivL]
        simp [List.getD_eq_getElem?_getD, List.getElem?_take, hk]
end

end Go.Proofs.Ytgldlcfkdblphaa
