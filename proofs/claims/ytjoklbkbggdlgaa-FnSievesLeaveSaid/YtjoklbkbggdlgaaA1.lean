import Derived.Test.YtjoklbkbggdlgaaA0
namespace Go.Proofs.Ytjoklbkbggdlgaa
open Go.RowKit
set_option linter.unusedVariables false
set_option linter.unusedSimpArgs false

def evL (rs : List (Int × Int)) (k : Nat) : Int := (rs.getD k (0, 0)).1
def reL (rs : List (Int × Int)) (k : Nat) : Int := (rs.getD k (0, 0)).2
/-- The slice (b, off) reads as the rules rs (each two cells). -/
def RulesAt (w : World) (b off : Nat) (rs : List (Int × Int)) : Prop :=
  ∀ k, k < rs.length → w.cell? ⟨b, off + k * 2, none⟩ = some (.int .i64 (evL rs k)) ∧ w.cell? ⟨b, off + k * 2 + 1, none⟩ = some (.int .i64 (reL rs k))

def okAt (rs : List (Int × Int)) (k : Nat) : Bool := okR (evL rs k) (reL rs k)
def goodL (rs : List (Int × Int)) : Bool := decide (rs.length ≤ 12) && decide (∀ k, k < rs.length → okAt rs k = true)
theorem goodL_true {rs : List (Int × Int)} (h : rs.length ≤ 12) (h2 : ∀ k, k < rs.length → okAt rs k = true) : goodL rs = true := by simp [goodL, h]; exact h2
theorem goodL_false {rs : List (Int × Int)} (h : ¬ rs.length ≤ 12) : goodL rs = false := by simp [goodL]; omega
theorem goodL_false' {rs : List (Int × Int)} {k : Nat} (h : k < rs.length) (h2 : okAt rs k = false) : goodL rs = false := by
  simp only [goodL, Bool.and_eq_false_iff, decide_eq_false_iff_not]
  exact .inr fun hh => by rw [hh k h] at h2; cases h2

set_option maxHeartbeats 400000 in
theorem siGood_c (b off c : Nat) (rs : List (Int × Int)) (w : World) (hb : b < w.heap.size) (hr : RulesAt w b off rs) (hn : rs.length ≤ 1048576) :
    Calls Try.prog 52 #[.slice (some ⟨b, off, none⟩) rs.length c] w fun en w' => en = .returned (.bool (goodL rs)) ∧ Below w.heap.size w w' := by
  by_cases h12 : rs.length ≤ 12
  · go_enter Try.func52, Try.ntmps52
    go_wp2
    go_loopw [10] (fun i wr => ∃ k : Nat, k ≤ rs.length ∧ i = .int .i64 k ∧ (∀ j, j < k → okAt rs j = true) ∧ Below w.heap.size w wr) (fun i _ => rs.length - (intOf i).toNat)
    case atStart => exact ⟨0, Nat.zero_le _, rfl, by omega, Below.refl _ _⟩
    case round =>
      obtain ⟨k, hk, rfl, hall, hbel⟩ := hrel
      have Hall := Lib.hid hall
      clear hall
      by_cases hlt : k < rs.length
      · have hc0 := (hbel.cell (p := ⟨b, off + k * 2, none⟩) hb).trans (hr k hlt).1
        have hc1 := (hbel.cell (p := ⟨b, off + k * 2 + 1, none⟩) hb).trans (hr k hlt).2
        cases hok : okAt rs k with
        | true =>
          have hok' : okR (evL rs k) (reL rs k) = true := hok
          go_wp2_with (go_at_call 65; refine (siRule_c _ _ _).mono ?_; rintro e w' ⟨rfl, hb1⟩)
          go_roundw
          case rel => exact ⟨k + 1, by omega, by go_num, fun j hj => by rcases Nat.lt_succ_iff_lt_or_eq.1 hj with h | h; exact Hall.out j h; rw [h]; exact hok, (hbel.alloc hbel.size _).trans (hb1.mono (by simp; have := hbel.size; omega))⟩
          case measure => simp [intOf]; omega
        | false =>
          have hok' : okR (evL rs k) (reL rs k) = false := hok
          go_wp2_with (go_at_call 65; refine (siRule_c _ _ _).mono ?_; rintro e w' ⟨rfl, hb1⟩)
          go_ret
          exact ⟨by rw [goodL_false' hlt hok]; rfl, (hbel.alloc hbel.size _).trans (hb1.mono (by simp; have := hbel.size; omega))⟩
      · go_wp2
        go_ret
        exact ⟨by rw [goodL_true h12 fun j hj => Hall.out j (by omega)]; rfl, hbel⟩
  · rw [goodL_false h12]
    go_enter Try.func52, Try.ntmps52
    go_wp2
    go_ret
    exact ⟨rfl, Below.refl _ _⟩

end Go.Proofs.Ytjoklbkbggdlgaa
