import Derived.Test.YtfhaeplamahcpaaDoorD1
import Derived.Deep.RegionHeld3
namespace Go.Proofs.YtfhaeplamahcpaaDoor
open Go.RowKit
set_option maxRecDepth 100000
set_option linter.unusedVariables false
set_option linter.unusedSimpArgs false

theorem numT_small {n : Int} (h : n < 10) : numT n = ⟨#[dig n]⟩ := by rw [numT, if_pos h]
theorem numT_big {n : Int} (h : ¬ n < 10) : numT n = ⟨#[dig (n / 10), dig (n % 10)]⟩ := by rw [numT, if_neg h]
theorem l1Num_c (n : Int) (w : World) (h0 : 0 ≤ n) (h1 : n < 100) :
    Calls Tryd.prog 23 #[.int .i64 n] w fun en w' => en = .returned (.string (numT n)) ∧ Below w.heap.size w w' := by
  by_cases h : n < 10
  · rw [numT_small h]
    exact l1Num_one n w h0 h
  · rw [numT_big h]
    exact l1Num_two n w (by omega) h1

/-- The same: two cells of another block are as they were. -/
theorem l1Num_keep (n : Int) (w : World) (g : Nat) (x y : Value) (h0 : 0 ≤ n) (h1 : n < 100) (hg : g < w.heap.size) (c0 : w.cell? ⟨g, 0, none⟩ = some x) (c1 : w.cell? ⟨g, 1, none⟩ = some y) :
    Calls Tryd.prog 23 #[.int .i64 n] w fun en w' => en = .returned (.string (numT n)) ∧ Below w.heap.size w w' ∧ g < w'.heap.size ∧ w'.cell? ⟨g, 0, none⟩ = some x ∧ w'.cell? ⟨g, 1, none⟩ = some y :=
  (l1Num_c n w h0 h1).mono fun _ _ ⟨he, hb⟩ => ⟨he, hb, Nat.lt_of_lt_of_le hg hb.size, (hb.cell (p := ⟨g, 0, none⟩) hg).trans c0, (hb.cell (p := ⟨g, 1, none⟩) hg).trans c1⟩

/-- A rule's text. -/
def ruleT (e r : Int) : ByteArray := (numT e ++ ⟨#[58]⟩) ++ numT r
/-- The text of the first k rules. -/
def txt (rs : List (Int × Int)) : Nat → ByteArray
  | 0 => ⟨#[]⟩
  | k + 1 => (if k = 0 then txt rs k else txt rs k ++ ⟨#[44]⟩) ++ ruleT (evL rs k) (reL rs k)
theorem txt_zero (rs : List (Int × Int)) : txt rs 0 = ⟨#[]⟩ := rfl
theorem txt_one (rs : List (Int × Int)) : txt rs 1 = txt rs 0 ++ ruleT (evL rs 0) (reL rs 0) := rfl
theorem txt_succ (rs : List (Int × Int)) (k : Nat) (h : 0 < k) : txt rs (k + 1) = (txt rs k ++ ⟨#[44]⟩) ++ ruleT (evL rs k) (reL rs k) := by
  rw [txt, if_neg (by omega)]
theorem numT_size (n : Int) : (numT n).size ≤ 2 := by
  unfold numT
  split
  · show (1 : Nat) ≤ 2; omega
  · show (2 : Nat) ≤ 2; omega
theorem ruleT_size (e r : Int) : (ruleT e r).size ≤ 5 := by
  have := numT_size e
  have := numT_size r
  have h3 : (⟨#[58]⟩ : ByteArray).size = 1 := rfl
  rw [ruleT, ByteArray.size_append, ByteArray.size_append, h3]
  omega
theorem txt_size (rs : List (Int × Int)) : ∀ k, (txt rs k).size ≤ 6 * k
  | 0 => Nat.le_refl _
  | k + 1 => by
    have h1 := txt_size rs k
    have h2 := ruleT_size (evL rs k) (reL rs k)
    rw [txt]
    split
    · rw [ByteArray.size_append]; omega
    · rw [ByteArray.size_append, ByteArray.size_append]
      have : (⟨#[44]⟩ : ByteArray).size = 1 := rfl
      omega
theorem addS (a b : ByteArray) (h : a.size + b.size ≤ 1000) : ∀ w : World, (Op.stringOp .add a b).run Tryd.prog w = .ok (.string (a ++ b)) w :=
  fun w => run_string_add_sum w _ _ (by omega)
theorem addRule (e r : Int) : ∀ w : World, (Op.stringOp .add (numT e ++ ⟨#[58]⟩) (numT r)).run Tryd.prog w = .ok (.string (ruleT e r)) w :=
  addS _ _ (by have h3 : (⟨#[58]⟩ : ByteArray).size = 1 := rfl; have := numT_size e; have := numT_size r; rw [ByteArray.size_append, h3]; omega)
theorem addColon (e : Int) : ∀ w : World, (Op.stringOp .add (numT e) ⟨#[58]⟩).run Tryd.prog w = .ok (.string (numT e ++ ⟨#[58]⟩)) w :=
  addS _ _ (by have h3 : (⟨#[58]⟩ : ByteArray).size = 1 := rfl; have := numT_size e; rw [h3]; omega)
theorem addFirst (rs : List (Int × Int)) : ∀ w : World, (Op.stringOp .add (txt rs 0) (ruleT (evL rs 0) (reL rs 0))).run Tryd.prog w = .ok (.string (txt rs (0 + 1))) w :=
  addS _ _ (by have := ruleT_size (evL rs 0) (reL rs 0); have := txt_size rs 0; omega)
def txtC (rs : List (Int × Int)) (k : Nat) : ByteArray := txt rs k ++ ⟨#[44]⟩
theorem addComma (rs : List (Int × Int)) (k : Nat) (h : k ≤ 12) : ∀ w : World, (Op.stringOp .add (txt rs k) ⟨#[44]⟩).run Tryd.prog w = .ok (.string (txtC rs k)) w :=
  addS _ _ (by have h3 : (⟨#[44]⟩ : ByteArray).size = 1 := rfl; have := txt_size rs k; rw [h3]; omega)
theorem addNext (rs : List (Int × Int)) (k : Nat) (h0 : 0 < k) (h : k ≤ 12) : ∀ w : World, (Op.stringOp .add (txtC rs k) (ruleT (evL rs k) (reL rs k))).run Tryd.prog w = .ok (.string (txt rs (k + 1))) w := by
  rw [txt_succ rs k h0]
  exact addS _ _ (by have h3 : (⟨#[44]⟩ : ByteArray).size = 1 := rfl; have := ruleT_size (evL rs k) (reL rs k); have := txt_size rs k; rw [txtC, ByteArray.size_append, h3]; omega)
def textF (rs : List (Int × Int)) : ByteArray := if rs.length = 0 then ⟨#[45]⟩ else txt rs rs.length

set_option maxHeartbeats 1600000 in
theorem siText_c (w : World) (A : Option Addr) (m c : Nat) (rs : List (Int × Int)) (hA : Rl w A rs) (hm : m = rs.length) (hg : goodL rs = true) :
    Calls Tryd.prog 15 #[.slice A m c] w fun en w' => en = .returned (.string (textF rs)) ∧ Below w.heap.size w w' := by
  have Hm := Lib.hid hm
  have Hg := Lib.hid hg
  have h12 : m ≤ 12 := by rw [hm]; exact good_len hg
  clear hm hg
  by_cases h0 : m = 0
  · subst h0
    rw [textF, if_pos Hm.out.symm]
    go_enter Tryd.func15, Tryd.ntmps15
    go_wp2
    go_ret
    exact ⟨rfl, Below.refl _ _⟩
  · have hT : textF rs = txt rs m := by rw [textF, if_neg (by rw [← Hm.out]; exact h0), Hm.out]
    rw [hT]
    have hmb : (m == 0) = false := by simp; omega
    have hmb2 : ((m : Int) == 0) = false := by simp; omega
    clear hT
    go_enter Tryd.func15, Tryd.ntmps15
    go_wp2
    go_loopw [3, 11] (fun t i wr => ∃ k : Nat, k ≤ m ∧ i = .int .i64 k ∧ t = .string (txt rs k) ∧ Below w.heap.size w wr) (fun _ i _ => m - (intOf i).toNat)
    case atStart => exact ⟨0, Nat.zero_le _, rfl, rfl, Below.refl _ _⟩
    case round =>
      obtain ⟨k, hk, rfl, rfl, hbel⟩ := hrel
      by_cases hlt : k < m
      · have hlt1 : k < rs.length := by have := Hm.out; omega
        obtain ⟨b, off, rfl, hb, hr⟩ := hA (by omega)
        have hc0 := (hbel.cell (p := ⟨b, off + k * 2, none⟩) hb).trans (hr k hlt1).1
        have hc1 := (hbel.cell (p := ⟨b, off + k * 2 + 1, none⟩) hb).trans (hr k hlt1).2
        obtain ⟨e1, e2, r1, r2⟩ := okR_at Hg.out hlt1
        have hs := hbel.size
        have hk3 : (k : Int) < (m : Int) := by omega
        have hn1 : 0 ≤ evL rs k := by omega
        have hn2 : evL rs k < 100 := by omega
        have hn4 : reL rs k < 100 := by omega
        have a1 := addColon (evL rs k)
        have a2 := addRule (evL rs k) (reL rs k)
        by_cases hk0 : k = 0
        · subst hk0
          simp only [Nat.zero_mul, Nat.add_zero] at hc0 hc1
          have a3 := addFirst rs
          have hm0 : 0 < (m : Int) := by omega
          generalize evL rs 0 = ev at *
          generalize reL rs 0 = rv at *
          go_wp2_with fail
          obtain ⟨W, hd0, hd1, hsz, hbel2, hWe⟩ : ∃ W, W.cell? ⟨wr.heap.size, 0, none⟩ = some (.int .i64 ev) ∧ W.cell? ⟨wr.heap.size, 1, none⟩ = some (.int .i64 rv) ∧ wr.heap.size < W.heap.size ∧ Below w.heap.size w W ∧ wr.alloc (.cells #[.int .i64 ev, .int .i64 rv] 32) = W := ⟨_, by simp, by simp, by simp, hbel.alloc hs _, rfl⟩
          rw [hWe]
          clear hWe
          have hd0' : W.drew.cell? ⟨wr.heap.size, 0, none⟩ = some (.int .i64 ev) := hd0
          have hd1' : W.drew.cell? ⟨wr.heap.size, 1, none⟩ = some (.int .i64 rv) := hd1
          have hsz' : wr.heap.size < W.drew.heap.size := hsz
          go_region_held3 (fun w' => w'.cell? ⟨wr.heap.size, 0, none⟩ = some (.int .i64 ev) ∧ w'.cell? ⟨wr.heap.size, 1, none⟩ = some (.int .i64 rv))
            (first | exact ⟨hd0', hd1'⟩ | exact ⟨f5, g5⟩ | exact ⟨f6, g6⟩)
            (first | (go_at_call 23; (with_reducible refine (l1Num_keep ev W.drew wr.heap.size _ _ hn1 hn2 hsz' hd0' hd1').mono ?_); rintro e w5 ⟨rfl, b5, s5, f5, g5⟩) | (go_at_call 23; (with_reducible refine (l1Num_keep rv w5 wr.heap.size _ _ r1 hn4 s5 f5 g5).mono ?_); rintro e w6 ⟨rfl, b6, s6, f6, g6⟩))
          have b56 := (hbel2.drew.trans (b5.mono hbel2.drew.size))
          go_wp2
          go_roundw
          case rel => exact ⟨0 + 1, by omega, by go_num, rfl, b56.trans (b6.mono b56.size)⟩
          case measure => simp [intOf]; omega
        · have hk1 : 0 < k := by omega
          have hkz2 : (0 : Int) < (k : Int) := by omega
          have a3 := addComma rs k (by omega)
          have a4 := addNext rs k hk1 (by omega)
          clear hk0
          generalize evL rs k = ev at *
          generalize reL rs k = rv at *
          go_wp2_with fail
          obtain ⟨W, hd0, hd1, hsz, hbel2, hWe⟩ : ∃ W, W.cell? ⟨wr.heap.size, 0, none⟩ = some (.int .i64 ev) ∧ W.cell? ⟨wr.heap.size, 1, none⟩ = some (.int .i64 rv) ∧ wr.heap.size < W.heap.size ∧ Below w.heap.size w W ∧ wr.alloc (.cells #[.int .i64 ev, .int .i64 rv] 32) = W := ⟨_, by simp, by simp, by simp, hbel.alloc hs _, rfl⟩
          rw [hWe]
          clear hWe
          have hd0' : W.drew.cell? ⟨wr.heap.size, 0, none⟩ = some (.int .i64 ev) := hd0
          have hd1' : W.drew.cell? ⟨wr.heap.size, 1, none⟩ = some (.int .i64 rv) := hd1
          have hsz' : wr.heap.size < W.drew.heap.size := hsz
          go_region_held3 (fun w' => w'.cell? ⟨wr.heap.size, 0, none⟩ = some (.int .i64 ev) ∧ w'.cell? ⟨wr.heap.size, 1, none⟩ = some (.int .i64 rv))
            (first | exact ⟨hd0', hd1'⟩ | exact ⟨f5, g5⟩ | exact ⟨f6, g6⟩)
            (first | (go_at_call 23; (with_reducible refine (l1Num_keep ev W.drew wr.heap.size _ _ hn1 hn2 hsz' hd0' hd1').mono ?_); rintro e w5 ⟨rfl, b5, s5, f5, g5⟩) | (go_at_call 23; (with_reducible refine (l1Num_keep rv w5 wr.heap.size _ _ r1 hn4 s5 f5 g5).mono ?_); rintro e w6 ⟨rfl, b6, s6, f6, g6⟩))
          have b56 := (hbel2.drew.trans (b5.mono hbel2.drew.size))
          go_wp2
          go_roundw
          case rel => exact ⟨k + 1, by omega, by go_num, rfl, b56.trans (b6.mono b56.size)⟩
          case measure => simp [intOf]; omega
      · have hkm : k = m := by omega
        have Hk := Lib.hid hkm
        clear hkm
        go_wp2
        go_ret
        exact ⟨by rw [← Hk.out]; rfl, hbel⟩

end Go.Proofs.YtfhaeplamahcpaaDoor
