import Derived.Test.YtbgoimhgmgldpaaR2
import Derived.Laws.RangeAny
import Derived.Deep.RegionHeld3
namespace Go.Proofs.Ytbgoimhgmgldpaa
open Go.RowKit
set_option linter.unusedVariables false
set_option linter.unusedSimpArgs false

/-- Whether the rule crosses out no number that is left; one number of it. -/
def fitA (s : ByteArray) (e r : Int) (i : Nat) : Bool := !(byN s i == 111 && decide (restF ((i : Int) + 1) e = r))
def fitB (s : ByteArray) (e r : Int) : Bool := (List.range s.size).all (fitA s e r)
theorem fitB_no {s : ByteArray} {e r : Int} {i : Nat} (hi : i < s.size) (h : fitA s e r i = false) : fitB s e r = false := by
  rw [fitB, List.all_eq_false]
  exact ⟨i, List.mem_range.2 hi, by rw [h]; decide⟩
theorem fitB_yes {s : ByteArray} {e r : Int} (h : ∀ i, i < s.size → fitA s e r i = true) : fitB s e r = true := by
  rw [fitB, List.all_eq_true]
  exact fun i hi => h i (List.mem_range.1 hi)
theorem cell_iter {w : World} {s : ByteArray} {p g i : Nat} {u : Value} (hg : g < w.heap.size) (h : w.cell? ⟨g, i, none⟩ = some u) : (w.iter s p).cell? ⟨g, i, none⟩ = some u :=
  (((Below.refl w.heap.size w).alloc (Nat.le_refl _) (.stringIter s p)).cell (p := ⟨g, i, none⟩) hg).trans h
set_option maxRecDepth 100000 in
set_option maxHeartbeats 800000 in
theorem pzFits_c (w : World) (s : ByteArray) (e r : Int) (hp : patB s = true) (h2 : 2 ≤ e) (h60 : e ≤ 60) :
    Calls Try.prog 69 #[.string s, .agg #[.int .i64 e, .int .i64 r]] w fun en w' => en = .returned (.bool (fitB s e r)) ∧ Below w.heap.size w w' := by
  obtain ⟨p1, p2, p3⟩ := patB_parts hp
  obtain ⟨T, hT⟩ : ∃ T, fitB s e r = T := ⟨_, rfl⟩
  rw [hT]
  have Hyes := Lib.hid (fun h => hT.symm.trans (fitB_yes h))
  have Hno := Lib.hid (fun i (hi : i < s.size) h => hT.symm.trans (fitB_no hi h))
  have Hp3 := Lib.hid p3
  clear hT p3 hp
  go_enter Try.func69, Try.ntmps69
  go_wp2
  go_loopw [5] (fun _ wr => ∃ (k : Nat) (W : World), wr = W.iter s k ∧ W.heap.size = w.heap.size + 1 ∧ Below w.heap.size w W ∧ W.cell? ⟨w.heap.size, 0, none⟩ = some (.int .i64 e) ∧ W.cell? ⟨w.heap.size, 1, none⟩ = some (.int .i64 r) ∧ k ≤ s.size ∧ ∀ j, j < k → fitA s e r j = true) (fun _ wr => s.size - wr.iterPos (w.heap.size + 1))
  case atStart => exact ⟨0, _, rfl, by simp, (Below.refl _ _).alloc (Nat.le_refl _) _, by simp, by simp, Nat.zero_le _, fun j h => by omega⟩
  case round =>
    obtain ⟨k, W, rfl, hW, hB, hc0, hc1, hk, hall⟩ := hrel
    have Hall := Lib.hid hall
    clear hall
    by_cases hlt : k < s.size
    · have hby := byN_at hlt
      have hsg := sgB_iff.1 (Hp3.out k hlt)
      obtain ⟨b, hb⟩ : ∃ b, byN s k = b := ⟨_, rfl⟩
      rw [hb] at hby hsg
      have hki : (k : Int) < (s.size : Int) := by omega
      have hk0 : (0 : Int) ≤ (k : Int) := Int.natCast_nonneg k
      have Hfit : Hid (fitA s e r k = !(b == 111 && decide (restF ((k : Int) + 1) e = r))) := by show _ = _; rw [fitA, hb]
      have hnx : ∀ ty, (Instr.next (.pointer (some ⟨w.heap.size + 1, 0, none⟩)) true ty).run Try.prog (W.iter s k) = .ok (.tuple #[.bool true, .int .i64 (k : Int), .int .i32 ((s[k]'hlt).toNat : Int)]) (W.iter s (k + 1)) := fun ty => by
        rw [← hW]
        exact run_next_ascii W s k ty hlt (by omega)
      have hd0 := cell_iter (s := s) (p := k + 1) (g := w.heap.size) (by omega) hc0
      have hd1 := cell_iter (s := s) (p := k + 1) (g := w.heap.size) (by omega) hc1
      have Hsr := Lib.hid (fun W2 => siRest_c ((k : Int) + 1) e W2 (by omega) (by omega) h2 h60)
      clear hb
      have hm0 : (W.iter s k).iterPos (w.heap.size + 1) = k := by rw [← hW]; exact World.iterPos_iter W s k
      have hm1 : (W.iter s (k + 1)).drew.iterPos (w.heap.size + 1) = k + 1 := by rw [← hW]; exact World.iterPos_iter W.drew s (k + 1)
      have hBV : Below w.heap.size w (W.iter s (k + 1)).drew := (hB.trans (((Below.refl _ _).alloc (Nat.le_refl _) _).mono (by omega))).drew
      have hrelV : ∃ W2 : World, (W.iter s (k + 1)).drew = W2.iter s (k + 1) ∧ W2.heap.size = w.heap.size + 1 ∧ Below w.heap.size w W2 ∧ W2.cell? ⟨w.heap.size, 0, none⟩ = some (.int .i64 e) ∧ W2.cell? ⟨w.heap.size, 1, none⟩ = some (.int .i64 r) := ⟨W.drew, rfl, hW, hB.drew, hc0, hc1⟩
      have HrelV := Lib.hid hrelV
      obtain ⟨V, hV⟩ : ∃ V, W.iter s (k + 1) = V := ⟨_, rfl⟩
      rw [hV] at hd0 hd1 hnx hm1 hBV HrelV
      have HBV := Lib.hid hBV
      have Hm0 := Lib.hid hm0
      have Hm1 := Lib.hid hm1
      have hd0' : V.drew.cell? ⟨w.heap.size, 0, none⟩ = some (.int .i64 e) := hd0
      have hd1' : V.drew.cell? ⟨w.heap.size, 1, none⟩ = some (.int .i64 r) := hd1
      clear hV hm0 hm1 hBV hrelV
      by_cases hb1 : b = 111
      · subst hb1
        have hw : IntKind.i64.wrap ((k : Int) + 1) = (k : Int) + 1 := IntWalk.i64_in _ (by omega)
        obtain ⟨q, hq⟩ : ∃ q, restF ((k : Int) + 1) e = q := ⟨_, rfl⟩
        have Hsr2 := Hsr.out
        have Hfit2 := Hfit.out
        rw [hq] at Hfit2
        simp only [hq] at Hsr2
        have HS := Lib.hid Hsr2
        by_cases hqr : q = r
        · have Hy := Lib.hid (Hno.out k hlt (by rw [Hfit2, decide_eq_true hqr]; rfl))
          have hqb : (q == r) = true := beq_iff_eq.2 hqr
          clear Hsr2 Hfit2 hq hqr hsg
          go_wp2_with fail
          go_region_held3 (fun w' => w'.cell? ⟨w.heap.size, 0, none⟩ = some (.int .i64 e) ∧ w'.cell? ⟨w.heap.size, 1, none⟩ = some (.int .i64 r))
            (first | exact ⟨hd0', hd1'⟩ | exact ⟨hd0, hd1⟩ | go_keep)
            (first | (go_at_call 80; refine (HS.out _).mono ?_; rintro e w5 ⟨rfl, rfl⟩))
          go_wp2
          go_ret
          exact ⟨by rw [Hy.out]; rfl, HBV.out⟩
        · have Hf : Hid (fitA s e r k = true) := by show _ = _; rw [Hfit2, decide_eq_false hqr]; rfl
          have hqb : (q == r) = false := beq_eq_false_iff_ne.2 hqr
          clear Hsr2 Hfit2 hq hqr hsg
          go_wp2_with fail
          go_region_held3 (fun w' => w'.cell? ⟨w.heap.size, 0, none⟩ = some (.int .i64 e) ∧ w'.cell? ⟨w.heap.size, 1, none⟩ = some (.int .i64 r))
            (first | exact ⟨hd0', hd1'⟩ | exact ⟨hd0, hd1⟩ | go_keep)
            (first | (go_at_call 80; refine (HS.out _).mono ?_; rintro e w5 ⟨rfl, rfl⟩))
          go_wp2
          go_roundw
          case rel =>
            obtain ⟨W2, e2, s2, b2, x0, x1⟩ := HrelV.out
            exact ⟨k + 1, W2, e2, s2, b2, x0, x1, by omega, fun j hj => by
              rcases Nat.lt_succ_iff_lt_or_eq.1 hj with h | h
              · exact Hall.out j h
              · rw [h]; exact Hf.out⟩
          case measure => rw [Hm0.out, Hm1.out]; omega
      · have Hf : Hid (fitA s e r k = true) := by show _ = _; rw [Hfit.out, show (b == 111) = false from beq_eq_false_iff_ne.2 hb1]; rfl
        rcases hsg with h | h | h
        · omega
        · subst h
          clear hb1
          go_wp2_with fail
          go_region
          go_wp2
          go_roundw
          case rel =>
            obtain ⟨W2, e2, s2, b2, x0, x1⟩ := HrelV.out
            exact ⟨k + 1, W2, e2, s2, b2, x0, x1, by omega, fun j hj => by
              rcases Nat.lt_succ_iff_lt_or_eq.1 hj with h | h
              · exact Hall.out j h
              · rw [h]; exact Hf.out⟩
          case measure => rw [Hm0.out, Hm1.out]; omega
        · subst h
          clear hb1
          go_wp2_with fail
          go_region
          go_wp2
          go_roundw
          case rel =>
            obtain ⟨W2, e2, s2, b2, x0, x1⟩ := HrelV.out
            exact ⟨k + 1, W2, e2, s2, b2, x0, x1, by omega, fun j hj => by
              rcases Nat.lt_succ_iff_lt_or_eq.1 hj with h | h
              · exact Hall.out j h
              · rw [h]; exact Hf.out⟩
          case measure => rw [Hm0.out, Hm1.out]; omega
    · have Hy := Lib.hid (Hyes.out fun j hj => Hall.out j (by omega))
      have hnx : ∀ ty, (Instr.next (.pointer (some ⟨w.heap.size + 1, 0, none⟩)) true ty).run Try.prog (W.iter s k) = .ok (.tuple #[.bool false]) (W.iter s k) := fun ty => by
        rw [← hW]
        exact run_next_end W s k ty hlt
      go_wp2
      go_ret
      exact ⟨by rw [Hy.out]; rfl, hB.trans (((Below.refl _ _).alloc (Nat.le_refl _) _).mono (by omega))⟩

end Go.Proofs.Ytbgoimhgmgldpaa
