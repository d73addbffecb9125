import Derived.Test.YtoapidcbmlnjcaaK1
namespace Go.Proofs.Ytoapidcbmlnjcaa
open Go.RowKit
set_option linter.unusedVariables false
set_option linter.unusedSimpArgs false

theorem own_shape {w : World} {B : Nat} {e : TypeId} {size : Nat} {v : Value} {n : Nat} {xs : List Value} (h : w.ownsRow B e size v n xs) : ∃ A c, v = .slice A n c := by
  rcases h.2 with ⟨e, h0⟩ | ⟨g, cap, cur, e, _⟩
  · exact ⟨none, 0, by rw [e, h0]⟩
  · exact ⟨_, _, e⟩
/-- The rows of a slice of slices hold k, k + 1, k + 2, .. one behind the other. -/
def MarkedLL (w : World) (B : Nat) (v : Value) (ps : List (List Int)) (k : Int) : Prop :=
  ∃ vs : List Value, w.ownsRow B 30 1 v ps.length vs ∧ ∀ i, i < ps.length → ∃ u, vs[i]? = some u ∧ MarkedK w B 3 u (psL ps i).length (k + (sumL ps i : Int))
theorem MarkedLL.below {w w' : World} {B : Nat} {v : Value} {ps : List (List Int)} {k : Int} (h : MarkedLL w B v ps k) (hb : Below w.heap.size w w') : MarkedLL w' B v ps k := by
  obtain ⟨vs, h1, h2⟩ := h
  exact ⟨vs, own_below h1 hb, fun i hi => by obtain ⟨u, a, b⟩ := h2 i hi; exact ⟨u, a, b.below hb⟩⟩

set_option maxRecDepth 100000 in
set_option maxHeartbeats 800000 in
theorem markIntSS_c (A : Option Addr) (B n c : Nat) (ps : List (List Int)) (w : World) (h0 : OwnLL w B (.slice A n c) ps) (hB : B ≤ w.heap.size) (hn : n = ps.length) (hn1 : n ≤ 1048576) (hs : sumL ps ps.length ≤ 1048576) :
    Calls Try.prog 39 #[.slice A n c, .int .i64 1] w fun en w' => en = .returned (.int .i64 (1 + (sumL ps ps.length : Int))) ∧ MarkedLL w' B (.slice A n c) ps 1 ∧ Below B w w' := by
  obtain ⟨vs, h1, h2, h3⟩ := h0
  subst hn
  have Hs := Lib.hid hs
  have H3 := Lib.hid h3
  clear h3 hs
  go_enter Try.func39, Try.ntmps39
  go_wp2
  go_loopw [1, 5] (fun q i wr => ∃ k : Nat, k ≤ ps.length ∧ i = .int .i64 k ∧ q = .int .i64 (1 + (sumL ps k : Int)) ∧ wr.ownsRow B 30 1 (.slice A ps.length c) ps.length vs ∧ (∀ i, i < ps.length → ∃ u, vs[i]? = some u ∧ ∃ cells, wr.ownsRow B 3 1 u (psL ps i).length cells ∧ (i < k → ∀ j, j < (psL ps i).length → cells[j]? = some (.int .i64 (1 + (sumL ps i : Int) + (j : Int))))) ∧ Below B w wr) (fun _ i _ => ps.length - (intOf i).toNat)
  case atStart => exact ⟨0, Nat.zero_le _, rfl, rfl, h1, fun i hi => by obtain ⟨u, a, b⟩ := h2 i hi; exact ⟨u, a, _, b, fun h => by omega⟩, Below.refl _ _⟩
  case round =>
    clear h1 h2
    obtain ⟨k, hk, rfl, rfl, hout, hin, hbel⟩ := hrel
    have Hout := Lib.hid hout
    have Hin := Lib.hid hin
    clear hout hin
    by_cases hlt1 : k < ps.length
    · have hsl := sumL_len hlt1
      have hsb : sumL ps k + (psL ps k).length ≤ 1048576 := by have := Hs.out; omega
      have Hss := Lib.hid (sumL_succ hlt1)
      clear hsl
      have hp := own_form Hout.out (by omega)
      obtain ⟨g, rfl, hg1, hg2⟩ := hp
      obtain ⟨u, hu, cells, ho, _⟩ := Hin.out k hlt1
      have Hu := Lib.hid hu
      have hc0 := (World.ownsRow.cellAt Hout.out k (by omega)).trans hu
      obtain ⟨A1, c1, rfl⟩ := own_shape ho
      have Ho := Lib.hid ho
      clear ho hu
      go_wp2_with fail
      refine (markIntS_k A1 B _ c1 cells _ _ Ho.out (by omega) (by omega) (by omega)).mono ?_
      rintro e w1 ⟨rfl, mk, gr⟩
      have b1 := below_of_grown gr (Nat.le_trans hB hbel.size) fun q hq => (World.ownsRow.lt Ho.out q hq).1
      have Hout1 := Lib.hid (kept_if Hout.out gr fun q hq e => own_ne Hout.out Ho.out (by decide) q hq e)
      have Hin1 := Lib.hid (fun i (hi : i < ps.length) => show ∃ u, vs[i]? = some u ∧ ∃ cells, w1.ownsRow B 3 1 u (psL ps i).length cells ∧ (i < k + 1 → ∀ j, j < (psL ps i).length → cells[j]? = some (.int .i64 (1 + (sumL ps i : Int) + (j : Int)))) from by
        by_cases hik : i = k
        · subst hik
          obtain ⟨cs, o, m⟩ := mk
          exact ⟨_, Hu.out, cs, o, fun _ => m⟩
        · obtain ⟨u, hu, cs, o, m⟩ := Hin.out i hi
          refine ⟨u, hu, cs, kept_if o gr fun q hq e => ?_, fun h => m (by omega)⟩
          rcases Nat.lt_or_gt_of_ne hik with h | h
          · exact H3.out i k _ _ h hu Hu.out q hq e
          · exact H3.out k i _ _ h Hu.out hu q e hq)
      clear mk gr
      have e1 : (1 : Int) + (sumL ps k : Int) + ((psL ps k).length : Int) = 1 + (sumL ps (k + 1) : Int) := by rw [Hss.out]; omega
      have E1 := Lib.hid e1
      clear e1
      go_wp2
      go_roundw
      case rel => exact ⟨k + 1, by omega, by go_num, by rw [E1.out], Hout1.out, Hin1.out, hbel.trans b1⟩
      case measure => simp [intOf]; omega
    · have hkn : k = ps.length := by omega
      have Hk := Lib.hid hkn
      clear hkn
      go_wp2
      go_ret
      refine ⟨by rw [Hk.out]; rfl, ⟨vs, Hout.out, fun i hi => ?_⟩, hbel⟩
      obtain ⟨u, hu, cs, o, m⟩ := Hin.out i hi
      exact ⟨u, hu, cs, o, m (by have := Hk.out; omega)⟩
set_option maxRecDepth 100000 in
set_option maxHeartbeats 800000 in
theorem heldIntSS_c (A : Option Addr) (B n c : Nat) (ps : List (List Int)) (w : World) (h0 : MarkedLL w B (.slice A n c) ps 1) (hn : n = ps.length) (hn1 : n ≤ 1048576) (hs : sumL ps ps.length ≤ 1048576) :
    Calls Try.prog 40 #[.slice A n c, .int .i64 1] w fun en w' => en = .returned (.int .i64 (1 + (sumL ps ps.length : Int))) ∧ w = w' := by
  obtain ⟨vs, h1, h2⟩ := h0
  subst hn
  have Hs := Lib.hid hs
  have H1 := Lib.hid h1
  have H2 := Lib.hid h2
  clear hs h1 h2
  go_enter Try.func40, Try.ntmps40
  go_wp2
  go_loop [1, 5] (fun q i => ∃ k : Nat, k ≤ ps.length ∧ i = .int .i64 k ∧ q = .int .i64 (1 + (sumL ps k : Int))) (fun _ i => ps.length - (intOf i).toNat)
  case atStart => exact ⟨0, Nat.zero_le _, rfl, rfl⟩
  case round =>
    obtain ⟨k, hk, rfl, rfl⟩ := hrel
    by_cases hlt1 : k < ps.length
    · have hsl := sumL_len hlt1
      have hsb : sumL ps k + (psL ps k).length ≤ 1048576 := by have := Hs.out; omega
      have Hss := Lib.hid (sumL_succ hlt1)
      clear hsl
      have hp := own_form H1.out (by omega)
      obtain ⟨g, rfl, hg1, hg2⟩ := hp
      obtain ⟨u, hu, mk⟩ := H2.out k hlt1
      have hc0 := (World.ownsRow.cellAt H1.out k (by omega)).trans hu
      obtain ⟨A1, c1, rfl⟩ : ∃ A1 c1, u = .slice A1 (psL ps k).length c1 := by obtain ⟨cs, o, _⟩ := mk; exact own_shape o
      clear hu
      have Mk := Lib.hid mk
      clear mk
      go_wp2_with fail
      refine (heldIntS_k A1 B _ c1 _ _ Mk.out (by omega) (by omega) (by omega)).mono ?_
      rintro e w1 ⟨rfl, rfl⟩
      have e1 : (1 : Int) + (sumL ps k : Int) + ((psL ps k).length : Int) = 1 + (sumL ps (k + 1) : Int) := by rw [Hss.out]; omega
      have E1 := Lib.hid e1
      clear e1
      go_wp2
      go_round
      case rel => exact ⟨k + 1, by omega, by go_num, by rw [E1.out]⟩
      case measure => simp [intOf]; omega
    · have hkn : k = ps.length := by omega
      have Hk := Lib.hid hkn
      clear hkn
      go_wp2
      go_ret
      exact ⟨by rw [Hk.out]; rfl, rfl⟩

end Go.Proofs.Ytoapidcbmlnjcaa
