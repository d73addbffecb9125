import Derived.Test.YtbgoimhgmgldpaaR4
import Derived.Test.YtbgoimhgmgldpaaP7
namespace Go.Proofs.Ytbgoimhgmgldpaa
open Go.RowKit
set_option linter.unusedVariables false
set_option linter.unusedSimpArgs false

/-- Whether a list has a rule. -/
def hsR (rs : List (Int × Int)) (e r : Int) : Bool := decide ((e, r) ∈ rs)
theorem hsR_yes {rs : List (Int × Int)} {e r : Int} {k : Nat} (hk : k < rs.length) (h1 : evL rs k = e) (h2 : reL rs k = r) : hsR rs e r = true := by
  refine decide_eq_true (List.mem_iff_getElem.2 ⟨k, hk, ?_⟩)
  simp only [evL, reL, List.getD_eq_getElem?_getD, List.getElem?_eq_getElem hk, Option.getD_some] at h1 h2
  exact Prod.ext h1 h2
theorem hsR_no {rs : List (Int × Int)} {e r : Int} (h : ∀ k, k < rs.length → ¬ (evL rs k = e ∧ reL rs k = r)) : hsR rs e r = false := by
  refine decide_eq_false fun hm => ?_
  obtain ⟨k, hk, he⟩ := List.mem_iff_getElem.1 hm
  refine h k hk ?_
  simp only [evL, reL, List.getD_eq_getElem?_getD, List.getElem?_eq_getElem hk, Option.getD_some, he]
  exact ⟨trivial, trivial⟩
theorem eq_rule (a b c d : Int) (w : World) : (Op.equalIn 10000 53 (.agg #[.int .i64 a, .int .i64 b]) (.agg #[.int .i64 c, .int .i64 d])).run Try.prog w = .ok (decide (a = c ∧ b = d)) w := by
  have hu := Try.underlying53
  by_cases ha : a = c
  · subst ha
    by_cases hb : b = d
    · subst hb
      rw [decide_eq_true ⟨rfl, rfl⟩]
      go_simp
    · rw [decide_eq_false fun h => hb h.2]
      have h2 : (b == d) = false := beq_eq_false_iff_ne.2 hb
      go_simp
  · rw [decide_eq_false fun h => ha h.1]
    have h1 : (a == c) = false := beq_eq_false_iff_ne.2 ha
    go_simp
set_option maxRecDepth 100000 in
set_option maxHeartbeats 800000 in
theorem pzHas_c (w : World) (A : Option Addr) (m c : Nat) (rs : List (Int × Int)) (hA : Rl w A rs) (hm : m = rs.length) (hn : m ≤ 1048576) (e r : Int) :
    Calls Try.prog 78 #[.slice A m c, .agg #[.int .i64 e, .int .i64 r]] w fun en w' => en = .returned (.bool (hsR rs e r)) ∧ Below w.heap.size w w' := by
  have Hm := Lib.hid hm
  clear hm
  have Hyes := Lib.hid (fun k hk => hsR_yes (rs := rs) (e := e) (r := r) (k := k) hk)
  have Hno := Lib.hid (hsR_no (rs := rs) (e := e) (r := r))
  obtain ⟨T, hT⟩ : ∃ T, hsR rs e r = T := ⟨_, rfl⟩
  rw [hT] at Hyes Hno ⊢
  clear hT
  have HA := Lib.hid hA
  clear hA
  go_enter Try.func78, Try.ntmps78
  go_wp2
  go_loopw [6, 9] (fun _ i wr => ∃ k : Nat, k ≤ m ∧ i = .int .i64 (k : Int) ∧ (∀ j, j < k → ¬ (evL rs j = e ∧ reL rs j = r)) ∧ wr.cell? ⟨w.heap.size, 0, none⟩ = some (.int .i64 e) ∧ wr.cell? ⟨w.heap.size, 1, none⟩ = some (.int .i64 r) ∧ w.heap.size < wr.heap.size ∧ Below w.heap.size w wr) (fun _ i _ => m - (intOf i).toNat)
  case atStart => exact ⟨0, Nat.zero_le _, rfl, fun j h => by omega, by simp, by simp, by simp, (Below.refl _ _).alloc (Nat.le_refl _) _⟩
  case round =>
    obtain ⟨k, hk, rfl, hall, hc0, hc1, hlt0, hbel⟩ := hrel
    have Hall := Lib.hid hall
    clear hall
    by_cases hlt : k < m
    · have hlt1 : k < rs.length := by have := Hm.out; omega
      obtain ⟨b, off, rfl, hb, hr⟩ := HA.out (by omega)
      have hx0 := (hbel.cell (p := ⟨b, off + k * 2, none⟩) hb).trans (hr k hlt1).1
      have hx1 := (hbel.cell (p := ⟨b, off + k * 2 + 1, none⟩) hb).trans (hr k hlt1).2
      have Hy := Lib.hid (Hyes.out k hlt1)
      obtain ⟨x, hx⟩ : ∃ x, evL rs k = x := ⟨_, rfl⟩
      obtain ⟨y, hy⟩ : ∃ y, reL rs k = y := ⟨_, rfl⟩
      rw [hx] at hx0 Hy
      rw [hy] at hx1 Hy
      have HX := Lib.hid (show evL rs k = x ∧ reL rs k = y from ⟨hx, hy⟩)
      have heq := eq_rule x y e r
      have hkm : (k : Int) < (m : Int) := by omega
      have hd0 : ∀ o : Obj, (wr.alloc o).cell? ⟨w.heap.size, 0, none⟩ = some (.int .i64 e) := fun o => (((Below.refl wr.heap.size wr).alloc (Nat.le_refl _) o).cell (p := ⟨w.heap.size, 0, none⟩) hlt0).trans hc0
      have hd1 : ∀ o : Obj, (wr.alloc o).cell? ⟨w.heap.size, 1, none⟩ = some (.int .i64 r) := fun o => (((Below.refl wr.heap.size wr).alloc (Nat.le_refl _) o).cell (p := ⟨w.heap.size, 1, none⟩) hlt0).trans hc1
      have hbx := fun o : Obj => hbel.alloc hbel.size o
      have Hbx := Lib.hid hbx
      have Hd0 := Lib.hid hd0
      have Hd1 := Lib.hid hd1
      by_cases he : x = e ∧ y = r
      · rw [decide_eq_true he] at heq
        have HT := Lib.hid (Hy.out he.1 he.2)
        clear hx hy he hbx
        go_wp2
        go_ret
        exact ⟨by rw [HT.out]; rfl, Hbx.out _⟩
      · rw [decide_eq_false he] at heq
        have HN := Lib.hid (fun (h : evL rs k = e ∧ reL rs k = r) => he (by rw [← HX.out.1, ← HX.out.2]; exact h))
        clear hx hy he hbx
        go_wp2
        go_roundw
        case rel => exact ⟨k + 1, by omega, by go_num, fun j hj => by
          rcases Nat.lt_succ_iff_lt_or_eq.1 hj with h | h
          · exact Hall.out j h
          · rw [h]; exact HN.out, Hd0.out _, Hd1.out _, by simp; omega, Hbx.out _⟩
        case measure => simp [intOf]; omega
    · have HT := Lib.hid (Hno.out fun j hj => Hall.out j (by have := Hm.out; omega))
      go_wp2
      go_ret
      exact ⟨by rw [HT.out]; rfl, hbel⟩
end Go.Proofs.Ytbgoimhgmgldpaa
