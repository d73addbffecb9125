import Derived.Test.YtaapfapejekkfaaA2
namespace Go.Proofs.Ytaapfapejekkfaa
open Go.RowKit
set_option linter.unusedVariables false
set_option linter.unusedSimpArgs false

theorem info_R : (Try.prog.info? 69).map (fun i => (i.zero, i.size, i.bytes)) = some (some (.agg #[.int .i64 0, .int .i64 0]), 2, 16) := by kernel_rfl




def cellsR (rs : List (Int × Int)) : List Value := rs.flatMap fun r => [.int .i64 r.1, .int .i64 r.2]
theorem cellsR_length (rs : List (Int × Int)) : (cellsR rs).length = rs.length * 2 := by
  induction rs with
  | nil => rfl
  | cons r rs ih => simp only [cellsR, List.flatMap_cons, List.length_append, List.length_cons, List.length_nil] at ih ⊢; omega
theorem cellsR_get (rs : List (Int × Int)) : ∀ k, k < rs.length → (cellsR rs)[k * 2]? = some (.int .i64 (evL rs k)) ∧ (cellsR rs)[k * 2 + 1]? = some (.int .i64 (reL rs k)) := by
  induction rs with
  | nil => intro k h; simp at h
  | cons r rs ih =>
    intro k h
    cases k with
    | zero => exact ⟨rfl, rfl⟩
    | succ k =>
      have := ih k (by simpa using h)
      have e1 : (k + 1) * 2 = k * 2 + 2 := by omega
      rw [e1]
      exact this
theorem evL_ext {rs : List (Int × Int)} {k : Nat} (h : k < rs.length) : rs[k] = (evL rs k, reL rs k) := by
  simp [evL, reL, List.getElem?_eq_getElem h]
/-- A list of cells that holds the rules one by one is cellsR. -/
theorem cellsR_of {rs : List (Int × Int)} {xs : List Value} (hl : xs.length = rs.length * 2) (h : ∀ k, k < rs.length → xs[k * 2]? = some (.int .i64 (evL rs k)) ∧ xs[k * 2 + 1]? = some (.int .i64 (reL rs k))) : xs = cellsR rs := by
  apply List.ext_getElem?
  intro i
  by_cases hi : i < rs.length * 2
  · have h1 := h (i / 2) (by omega)
    have h2 := cellsR_get rs (i / 2) (by omega)
    rcases Nat.mod_two_eq_zero_or_one i with he | he
    · have e : i = i / 2 * 2 := by omega
      rw [e, h1.1, h2.1]
    · have e : i = i / 2 * 2 + 1 := by omega
      rw [e, h1.2, h2.2]
  · rw [List.getElem?_eq_none (by omega), List.getElem?_eq_none (by rw [cellsR_length]; omega)]

def OwnR (w : World) (B : Nat) (v : Value) (rs : List (Int × Int)) : Prop := w.ownsRow B 69 2 v rs.length (cellsR rs)


set_option maxHeartbeats 400000 in
theorem toRuleS_c (A : Option Addr) (c : Nat) (n : Nat) (rs : List (Int × Int)) (w : World) (hA : Rl w A rs) (hn : n = rs.length) (hn1 : n ≤ 1048576) :
    Calls Try.prog 178 #[.slice A n c] w fun en w' => en = .returned (.slice (some ⟨w.heap.size, 0, none⟩) n n) ∧ OwnR w' w.heap.size (.slice (some ⟨w.heap.size, 0, none⟩) n n) rs ∧ Below w.heap.size w w' := by
  have Hn := Lib.hid hn
  clear hn
  have hmk := fun W => mk_full Try.underlying22 info_R n (by omega) (by omega) W
  have hml := mk_owns (e := 69) #[.int .i64 0, .int .i64 0] 2 n (by unfold maxLen; omega) w
  go_enter Try.func178, Try.ntmps178
  go_wp2_with fail
  clear hmk
  go_loopw [4] (fun i wr => ∃ k : Nat, k ≤ n ∧ i = .int .i64 k ∧ (∃ xs, wr.ownsRow w.heap.size 69 2 (.slice (some ⟨w.heap.size, 0, none⟩) n n) n xs ∧ ∀ j, j < k → xs[j * 2]? = some (.int .i64 (evL rs j)) ∧ xs[j * 2 + 1]? = some (.int .i64 (reL rs j))) ∧ Below w.heap.size w wr) (fun i _ => n - (intOf i).toNat)
  case atStart => exact ⟨0, Nat.zero_le _, rfl, ⟨_, hml, by omega⟩, (Below.refl _ _).alloc (Nat.le_refl _) _⟩
  case round =>
    clear hml
    obtain ⟨k, hk, rfl, ⟨xs, hown, hxs⟩, hbel⟩ := hrel
    have Hxs := Lib.hid hxs
    have Hown := Lib.hid hown
    clear hxs hown
    by_cases hlt : k < n
    · have hlt1 : k < rs.length := by have := Hn.out; omega
      obtain ⟨b, off, rfl, hb, hr⟩ := hA (by omega)
      have hc0 := (hbel.cell (p := ⟨b, off + k * 2, none⟩) hb).trans (hr k hlt1).1
      have hc1 := (hbel.cell (p := ⟨b, off + k * 2 + 1, none⟩) hb).trans (hr k hlt1).2
      have hs := hbel.size
      obtain ⟨x0, hx0, hf0⟩ := own_get Hown.out (k * 2) (by omega)
      obtain ⟨x1, hx1, hf1⟩ := own_get Hown.out (k * 2 + 1) (by omega)
      have hg : w.heap.size < wr.heap.size := (Hown.out.lt _ rfl).2
      go_wp2_with (go_at_call 295; refine (toRule_c _ _ _).mono ?_; rintro e w' ⟨rfl, hb1⟩; have hy0 := (hb1.cell (p := ⟨w.heap.size, k * 2, none⟩) hg).trans hx0; have hy1 := (hb1.cell (p := ⟨w.heap.size, k * 2 + 1, none⟩) hg).trans hx1; have hz0 := (hb1.frozen (p := ⟨w.heap.size, k * 2, none⟩) hg).trans hf0; have hz1 := (hb1.frozen (p := ⟨w.heap.size, k * 2 + 1, none⟩) hg).trans hf1)
      go_roundw
      case rel =>
        have h1 := own_below Hown.out hb1
        have h2 := (h1.stored (k * 2) (.int .i64 (evL rs k))).1
        have h3 := (h2.stored (k * 2 + 1) (.int .i64 (reL rs k))).1
        refine ⟨k + 1, by omega, by go_num, ⟨_, h3, fun j hj => ?_⟩, ((hbel.trans (hb1.mono hs)).setCell (Nat.le_refl _) _).setCell (Nat.le_refl _) _⟩
        have hxl : xs.length = n * 2 := Hown.out.1
        rcases Nat.lt_succ_iff_lt_or_eq.1 hj with h | h
        · have := Hxs.out j h
          rw [List.getElem?_set_ne (by omega), List.getElem?_set_ne (by omega), List.getElem?_set_ne (by omega), List.getElem?_set_ne (by omega)]
          exact this
        · subst h
          rw [List.getElem?_set_ne (by omega), List.getElem?_set_self (by omega), List.getElem?_set_self (by rw [List.length_set]; omega)]
          exact ⟨rfl, rfl⟩
      case measure => simp [intOf]; omega
    · go_wp2
      go_ret
      have hkn : k = n := by omega
      subst hkn
      refine ⟨rfl, ?_, hbel⟩
      have h := Hown.out
      have hl := Hn.out
      subst hl
      have : xs = cellsR rs := cellsR_of h.1 Hxs.out
      subst this
      exact h

end Go.Proofs.Ytaapfapejekkfaa
