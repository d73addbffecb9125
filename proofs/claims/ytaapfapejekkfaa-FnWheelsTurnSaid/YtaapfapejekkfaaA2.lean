import Derived.Test.YtaapfapejekkfaaA1
import Derived.StillTailTactics
namespace Go.Proofs.Ytaapfapejekkfaa
open Go.RowKit
set_option linter.unusedVariables false
set_option linter.unusedSimpArgs false

set_option maxHeartbeats 400000 in
theorem toRule_c (e r : Int) (w : World) :
    Calls Try.prog 295 #[.agg #[.int .i64 e, .int .i64 r]] w fun en w' => en = .returned (.agg #[.int .i64 e, .int .i64 r]) ∧ Below w.heap.size w w' := by
  go_enter Try.func295, Try.ntmps295
  go_wp2
  exact bodyPost_ret (v := .agg #[.int .i64 e, .int .i64 r]) (by simp [results, Try.results295, go_sem]) rfl ⟨rfl, (((Below.refl _ _).alloc (Nat.le_refl _) _).alloc (by simp) _).alloc (by simp; omega) _⟩

def sameR (e r e2 r2 : Int) : Bool := decide (e = e2 ∧ r = r2)
theorem sameR_true {e r e2 r2 : Int} : sameR e r e2 r2 = true ↔ e = e2 ∧ r = r2 := by simp [sameR]
theorem sameR_false {e r e2 r2 : Int} : sameR e r e2 r2 = false ↔ ¬ (e = e2 ∧ r = r2) := by simp only [sameR, decide_eq_false_iff_not]
set_option maxRecDepth 100000 in
set_option maxHeartbeats 400000 in
theorem eqRule_c (e r e2 r2 : Int) (w : World) :
    Calls Try.prog 293 #[.agg #[.int .i64 e, .int .i64 r], .agg #[.int .i64 e2, .int .i64 r2]] w fun en w' => en = .returned (.bool (sameR e r e2 r2)) ∧ Below w.heap.size w w' := by
  by_cases h1 : e = e2
  · subst h1
    by_cases h2 : r = r2
    · subst h2
      go_enter Try.func293, Try.ntmps293
      go_wp2
      go_ret
      exact ⟨by rw [sameR_true.2 ⟨rfl, rfl⟩]; rfl, ((Below.refl _ _).alloc (Nat.le_refl _) _).alloc (by simp) _⟩
    · go_enter Try.func293, Try.ntmps293
      go_wp2
      go_ret
      exact ⟨by rw [sameR_false.2 (by omega)]; rfl, ((Below.refl _ _).alloc (Nat.le_refl _) _).alloc (by simp) _⟩
  · go_enter Try.func293, Try.ntmps293
    go_wp2
    go_ret
    exact ⟨by rw [sameR_false.2 (by omega)]; rfl, ((Below.refl _ _).alloc (Nat.le_refl _) _).alloc (by simp) _⟩

theorem szRuleS_c (A : Option Addr) (n c : Nat) (l : Int) (w : World) (hl : l = 1048576) (hn : n ≤ 9223372036854775807) :
    Calls Try.prog 176 #[.slice A n c, .int .i64 l] w fun en w' => en = .returned (.int .i64 (if n ≤ 1048576 then 1048576 - (n : Int) else -1)) ∧ w = w' := by
  subst hl
  by_cases h : n ≤ 1048576
  · rw [if_pos h]
    go_enter Try.func176, Try.ntmps176
    go_wp2
    go_ret
    exact ⟨rfl, rfl⟩
  · rw [if_neg h]
    go_enter Try.func176, Try.ntmps176
    go_wp2
    go_ret
    exact ⟨rfl, rfl⟩

theorem szR_yes (A : Option Addr) (n c : Nat) (w : World) (hn : n ≤ 1048576) :
    Calls Try.prog 176 #[.slice A n c, .int .i64 1048576] w fun en w' => en = .returned (.int .i64 (1048576 - (n : Int))) ∧ w = w' := by
  have h := szRuleS_c A n c 1048576 w rfl (by omega)
  rw [if_pos hn] at h
  exact h
theorem szR_no (A : Option Addr) (n c : Nat) (w : World) (hn : n ≤ 9223372036854775807) (h1 : ¬ n ≤ 1048576) :
    Calls Try.prog 176 #[.slice A n c, .int .i64 1048576] w fun en w' => en = .returned (.int .i64 (-1)) ∧ w = w' := by
  have h := szRuleS_c A n c 1048576 w rfl hn
  rw [if_neg h1] at h
  exact h

def Rl (w : World) (A : Option Addr) (rs : List (Int × Int)) : Prop :=
  0 < rs.length → ∃ b off, A = some ⟨b, off, none⟩ ∧ b < w.heap.size ∧ RulesAt w b off rs

def okEq (rs ss : List (Int × Int)) (k : Nat) : Bool := sameR (evL rs k) (reL rs k) (evL ss k) (reL ss k)
def eqL (rs ss : List (Int × Int)) : Bool := decide (rs = ss)
theorem eqL_true {rs ss : List (Int × Int)} (hl : rs.length = ss.length) (h : ∀ k, k < rs.length → okEq rs ss k = true) : eqL rs ss = true := by
  refine decide_eq_true (List.ext_getElem hl fun k h1 h2 => ?_)
  have := sameR_true.1 (h k h1)
  simp only [evL, reL, List.getD_eq_getElem?_getD, List.getElem?_eq_getElem h1, List.getElem?_eq_getElem h2, Option.getD_some] at this
  exact Prod.ext this.1 this.2
theorem eqL_false {rs ss : List (Int × Int)} (h : ¬ rs.length = ss.length) : eqL rs ss = false := decide_eq_false fun e => h (by rw [e])
theorem eqL_false' {rs ss : List (Int × Int)} {k : Nat} (h : okEq rs ss k = false) : eqL rs ss = false := decide_eq_false fun e => by
  subst e
  rw [okEq, sameR_true.2 ⟨rfl, rfl⟩] at h
  cases h

set_option maxRecDepth 100000 in
set_option maxHeartbeats 400000 in
theorem eqRuleS_c (A B : Option Addr) (n m c d : Nat) (rs ss : List (Int × Int)) (w : World) (hA : Rl w A rs) (hB : Rl w B ss) (hn : n = rs.length) (hm : m = ss.length) (hn1 : n ≤ 1048576) (hm1 : m ≤ 1048576) :
    Calls Try.prog 173 #[.slice A n c, .slice B m d] w fun en w' => en = .returned (.bool (eqL rs ss)) ∧ Below w.heap.size w w' := by
  have Hn := Lib.hid hn
  have Hm := Lib.hid hm
  clear hn hm
  by_cases hl : n = m
  · have hl2 : ((n : Int) != (m : Int)) = false := by simp [hl]
    have Hl := Lib.hid hl
    clear hl
    go_enter Try.func173, Try.ntmps173
    go_wp2
    go_loopw [5] (fun i wr => ∃ k : Nat, k ≤ n ∧ i = .int .i64 k ∧ (∀ j, j < k → okEq rs ss j = true) ∧ Below w.heap.size w wr) (fun i _ => n - (intOf i).toNat)
    case atStart => exact ⟨0, Nat.zero_le _, rfl, by omega, Below.refl _ _⟩
    case round =>
      obtain ⟨k, hk, rfl, hall, hbel⟩ := hrel
      have Hall := Lib.hid hall
      clear hall
      by_cases hlt : k < n
      · have hlt1 : k < rs.length := by have := Hn.out; omega
        have hlt2 : k < ss.length := by have := Hl.out; have := Hm.out; omega
        have hlt3 : k < m := by have := Hl.out; omega
        obtain ⟨b, off, rfl, hb, hr⟩ := hA (by omega)
        obtain ⟨b2, off2, rfl, hb2, hr2⟩ := hB (by omega)
        have hc0 := (hbel.cell (p := ⟨b, off + k * 2, none⟩) hb).trans (hr k hlt1).1
        have hc1 := (hbel.cell (p := ⟨b, off + k * 2 + 1, none⟩) hb).trans (hr k hlt1).2
        have hd0 := (hbel.cell (p := ⟨b2, off2 + k * 2, none⟩) hb2).trans (hr2 k hlt2).1
        have hd1 := (hbel.cell (p := ⟨b2, off2 + k * 2 + 1, none⟩) hb2).trans (hr2 k hlt2).2
        have hs := hbel.size
        cases hok : okEq rs ss k with
        | true =>
          have hok' : sameR (evL rs k) (reL rs k) (evL ss k) (reL ss k) = true := hok
          go_wp2_with fail
          go_still_tail 8, (by kernel_rfl)
          go_wp2_with (go_at_call 293; refine (eqRule_c _ _ _ _ _).mono ?_; rintro e w' ⟨rfl, hb1⟩)
          go_roundw
          case rel => exact ⟨k + 1, by omega, by go_num, fun j hj => by rcases Nat.lt_succ_iff_lt_or_eq.1 hj with h | h; exact Hall.out j h; rw [h]; exact hok, hbel.drew.trans (hb1.mono (by simp; omega))⟩
          case measure => simp [intOf]; omega
        | false =>
          have hok' : sameR (evL rs k) (reL rs k) (evL ss k) (reL ss k) = false := hok
          go_wp2_with fail
          go_still_tail 8, (by kernel_rfl)
          go_wp2_with (go_at_call 293; refine (eqRule_c _ _ _ _ _).mono ?_; rintro e w' ⟨rfl, hb1⟩)
          go_ret
          exact ⟨by rw [eqL_false' hok]; rfl, hbel.drew.trans (hb1.mono (by simp; omega))⟩
      · go_wp2
        go_ret
        exact ⟨by rw [eqL_true (by rw [← Hn.out, ← Hm.out, Hl.out]) fun j hj => Hall.out j (by have := Hn.out; omega)]; rfl, hbel⟩
  · have hl2 : ((n : Int) != (m : Int)) = true := by simp; omega
    rw [eqL_false (by rw [← Hn.out, ← Hm.out]; exact hl)]
    go_enter Try.func173, Try.ntmps173
    go_wp2
    go_ret
    exact ⟨rfl, Below.refl _ _⟩

end Go.Proofs.Ytaapfapejekkfaa
