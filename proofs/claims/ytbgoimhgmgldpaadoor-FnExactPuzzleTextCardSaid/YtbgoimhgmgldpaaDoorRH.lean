import Derived.Test.YtbgoimhgmgldpaaDoorRT
import Derived.Laws.IdiomStrings
namespace Go.Proofs.YtbgoimhgmgldpaaDoor
open Go.RowKit
set_option linter.unusedVariables false
set_option linter.unusedSimpArgs false

theorem byN_lt (s : ByteArray) (i : Nat) : byN s i < 256 := by
  unfold byN
  split
  · exact UInt8.toNat_lt _
  · decide
/-- A text's bytes in cells of their own. -/
def BytsAt (w : World) (g : Nat) (s : ByteArray) : Prop := g < w.heap.size ∧ ∀ j, j < s.size → w.cell? ⟨g, j, none⟩ = some (.int .u8 (byN s j : Int)) ∧ w.frozen? ⟨g, j, none⟩ = false
theorem BytsAt.below {w w' : World} {g : Nat} {s : ByteArray} (h : BytsAt w g s) (hb : Below w.heap.size w w') : BytsAt w' g s :=
  ⟨Nat.lt_of_lt_of_le h.1 hb.size, fun j hj => ⟨(hb.cell (p := ⟨g, j, none⟩) h.1).trans (h.2 j hj).1, (hb.frozen (p := ⟨g, j, none⟩) h.1).trans (h.2 j hj).2⟩⟩
theorem bytes_new (s : ByteArray) (w : World) : ∃ c W, (∀ src, Tryd.prog.underlying src = some .string → (convert src 46 (.string s)).run Tryd.prog w = .ok (.slice (some ⟨w.heap.size, 0, none⟩) s.size c) W) ∧ Below w.heap.size w W ∧ BytsAt W w.heap.size s := by
  refine ⟨_, _, fun src hsrc => run_bytes_of_string w src 46 5 s hsrc Tryd.underlying46 Tryd.underlying5, ?_, ?_, ?_⟩
  · exact ((Below.refl w.heap.size w).drew).alloc (Nat.le_refl _) _
  · simp
  · intro j hj
    have hj2 : j < s.data.size := hj
    constructor
    · have := World.cell?_alloc_mark w.drew (bytesRow s (grownCap w s.size 0 5)) 5 ((bytesRow s (grownCap w s.size 0 5)).size, (bytesRow s (grownCap w s.size 0 5)).size + 1) j
      refine this.trans ?_
      rw [bytesRow_at s _ j hj2, byN, dif_pos hj]
      rfl
    · have := World.frozen?_alloc_mark w.drew (bytesRow s (grownCap w s.size 0 5)) 5 (bytesRow s (grownCap w s.size 0 5)).size ((bytesRow s (grownCap w s.size 0 5)).size + 1) j
      refine this.trans ?_
      have hsz : j < (bytesRow s (grownCap w s.size 0 5)).size := by
        simp only [bytesRow, Array.size_append, Array.size_map]
        omega
      rw [decide_eq_false (by omega), Bool.false_and]
set_option maxRecDepth 100000 in
theorem isSign_c (b : Nat) (w : World) :
    Calls Tryd.prog 28 #[.int .u8 (b : Int)] w fun en w' => en = .returned (.bool (sgB b)) ∧ w = w' := by
  by_cases h1 : b = 111
  · subst h1
    go_enter Tryd.func28, Tryd.ntmps28
    go_wp2
    go_ret
    exact ⟨rfl, rfl⟩
  by_cases h2 : b = 120
  · subst h2
    go_enter Tryd.func28, Tryd.ntmps28
    go_wp2
    go_ret
    exact ⟨rfl, rfl⟩
  by_cases h3 : b = 63
  · subst h3
    go_enter Tryd.func28, Tryd.ntmps28
    go_wp2
    go_ret
    exact ⟨rfl, rfl⟩
  have hb1 : ((b : Int) == 111) = false := beq_eq_false_iff_ne.2 (by omega)
  have hb2 : ((b : Int) == 120) = false := beq_eq_false_iff_ne.2 (by omega)
  have hb3 : ((b : Int) == 63) = false := beq_eq_false_iff_ne.2 (by omega)
  have hs : sgB b = false := by
    cases hq : sgB b with
    | false => rfl
    | true => have := sgB_iff.1 hq; omega
  rw [hs]
  clear hs
  go_enter Tryd.func28, Tryd.ntmps28
  go_wp2
  go_ret
  exact ⟨rfl, rfl⟩
set_option maxRecDepth 100000 in
theorem isPatternLength_c (n : Int) (w : World) :
    Calls Tryd.prog 29 #[.int .i64 n] w fun en w' => en = .returned (.bool (inB n 1 48)) ∧ w = w' := by
  by_cases h1 : 1 ≤ n
  · by_cases h2 : n ≤ 48
    · rw [inB_true.2 ⟨h1, h2⟩]
      go_enter Tryd.func29, Tryd.ntmps29
      go_wp2
      go_ret
      exact ⟨rfl, rfl⟩
    · rw [inB_false.2 (by omega)]
      go_enter Tryd.func29, Tryd.ntmps29
      go_wp2
      go_ret
      exact ⟨rfl, rfl⟩
  · rw [inB_false.2 (by omega)]
    go_enter Tryd.func29, Tryd.ntmps29
    go_wp2
    go_ret
    exact ⟨rfl, rfl⟩
set_option maxRecDepth 100000 in
theorem isPuzzleCount_c (n : Int) (w : World) :
    Calls Tryd.prog 23 #[.int .i64 n] w fun en w' => en = .returned (.bool (inB n 0 3)) ∧ w = w' := by
  by_cases h1 : 0 ≤ n
  · by_cases h2 : n ≤ 3
    · rw [inB_true.2 ⟨h1, h2⟩]
      go_enter Tryd.func23, Tryd.ntmps23
      go_wp2
      go_ret
      exact ⟨rfl, rfl⟩
    · rw [inB_false.2 (by omega)]
      go_enter Tryd.func23, Tryd.ntmps23
      go_wp2
      go_ret
      exact ⟨rfl, rfl⟩
  · rw [inB_false.2 (by omega)]
    go_enter Tryd.func23, Tryd.ntmps23
    go_wp2
    go_ret
    exact ⟨rfl, rfl⟩
set_option maxRecDepth 100000 in
set_option maxHeartbeats 800000 in
theorem isSignPattern_c (w : World) (s : ByteArray) (hs : (s.size : Int) ≤ 1000000000) :
    Calls Tryd.prog 22 #[.string s] w fun en w' => en = .returned (.bool (patB s)) ∧ Below w.heap.size w w' := by
  obtain ⟨c, W, hcv, b1, hB⟩ := bytes_new s w
  have hcv := hcv _ Tryd.underlying9
  have HB := Lib.hid hB
  have B1 := Lib.hid b1
  obtain ⟨T, hT⟩ : ∃ T, patB s = T := ⟨_, rfl⟩
  rw [hT]
  have Hno := Lib.hid (fun i (hi : i < s.size) h => hT.symm.trans (patB_no hi h))
  have Hyes : Hid ((∀ i, i < s.size → sgB (byN s i) = true) → inB (s.size : Int) 1 48 = T) := Lib.hid (fun h => by
    rw [← hT, patB]
    have : ((List.range s.size).all fun i => sgB (byN s i)) = true := by
      rw [List.all_eq_true]; exact fun i hi => h i (List.mem_range.1 hi)
    rw [this, Bool.and_true, inB]
    exact decide_eq_decide.2 (by omega))
  clear hT hB b1
  go_enter Tryd.func22, Tryd.ntmps22
  go_wp2
  clear hcv
  go_loopw [8] (fun i wr => ∃ k : Nat, k ≤ s.size ∧ i = .int .i64 (k : Int) ∧ wr = W ∧ ∀ j, j < k → sgB (byN s j) = true) (fun i _ => s.size - (intOf i).toNat)
  case atStart => exact ⟨0, Nat.zero_le _, rfl, rfl, fun j h => by omega⟩
  case round =>
    obtain ⟨k, hk, rfl, rfl, hall⟩ := hrel
    have Hall := Lib.hid hall
    clear hall
    by_cases hlt : k < s.size
    · have hki : (k : Int) < (s.size : Int) := by omega
      have hc := (HB.out.2 k hlt).1
      cases hq : sgB (byN s k) with
      | true =>
        have Hc := isSign_c (byN s k) wr
        rw [hq] at Hc
        have HC := Lib.hid Hc
        have Hq := Lib.hid hq
        clear hq Hc
        go_wp2_with fail
        refine HC.out.mono ?_
        rintro e w5 ⟨rfl, rfl⟩
        go_wp2
        go_roundw
        case rel => exact ⟨k + 1, by omega, by go_num, by first | rfl | trivial, fun j hj => by
          rcases Nat.lt_succ_iff_lt_or_eq.1 hj with h | h
          · exact Hall.out j h
          · rw [h]; exact Hq.out⟩
        case measure => simp [intOf]; omega
      | false =>
        have Hc := isSign_c (byN s k) wr
        rw [hq] at Hc
        have HC := Lib.hid Hc
        have Hq := Lib.hid (Hno.out k hlt hq)
        clear hq Hc
        go_wp2_with fail
        refine HC.out.mono ?_
        rintro e w5 ⟨rfl, rfl⟩
        go_wp2
        go_ret
        exact ⟨by rw [Hq.out]; rfl, B1.out⟩
    · have Hy := Lib.hid (Hyes.out fun j hj => Hall.out j (by omega))
      have hki : ¬ (k : Int) < (s.size : Int) := by omega
      go_wp2_with fail
      refine (isPatternLength_c _ _).mono ?_
      rintro e w5 ⟨rfl, rfl⟩
      go_wp2
      go_ret
      exact ⟨by rw [Hy.out]; rfl, B1.out⟩
set_option maxRecDepth 100000 in
set_option maxHeartbeats 800000 in
theorem impl_IsPuzzle_c (w : World) (s : ByteArray) (n : Int) (hs : (s.size : Int) ≤ 1000000000) :
    Calls Tryd.prog 14 #[.agg #[.string s, .int .i64 n]] w fun en w' => en = .returned (.bool (pzB s n)) ∧ Below w.heap.size w w' := by
  have Hp := fun W => isSignPattern_c W s hs
  cases hg : patB s with
  | false =>
    have ho : pzB s n = false := by rw [pzB, hg]; rfl
    rw [hg] at Hp
    have HP := Lib.hid Hp
    rw [ho]
    clear ho hg Hp
    go_enter Tryd.func14, Tryd.ntmps14
    go_wp2_with fail
    refine (HP.out _).mono ?_
    rintro e w2 ⟨rfl, b2⟩
    go_wp2
    go_ret
    exact ⟨rfl, ((Below.refl _ _).alloc (Nat.le_refl _) _).trans (b2.mono (by simp))⟩
  | true =>
    have ho : pzB s n = inB n 0 3 := by rw [pzB, hg]; rfl
    rw [hg] at Hp
    have HP := Lib.hid Hp
    rw [ho]
    clear ho hg Hp
    have hsz : w.heap.size < (w.alloc (.cells #[.string s, .int .i64 n] 27)).heap.size := by simp
    have hc1 : (w.alloc (.cells #[.string s, .int .i64 n] 27)).cell? ⟨w.heap.size, 1, none⟩ = some (.int .i64 n) := by simp
    go_enter Tryd.func14, Tryd.ntmps14
    go_wp2_with fail
    refine (HP.out _).mono ?_
    rintro e w2 ⟨rfl, b2⟩
    have hc := (b2.cell (p := ⟨w.heap.size, 1, none⟩) hsz).trans hc1
    clear hc1
    go_wp2_with fail
    refine (isPuzzleCount_c _ _).mono ?_
    rintro e w3 ⟨rfl, rfl⟩
    go_wp2
    go_ret
    exact ⟨rfl, ((Below.refl _ _).alloc (Nat.le_refl _) _).trans (b2.mono (by simp))⟩

end Go.Proofs.YtbgoimhgmgldpaaDoor
