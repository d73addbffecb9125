import Derived.Test.YtkpililllihgcabZ5
import Derived.Test.YtkpililllihgcabU6
namespace Go.Proofs.Ytkpililllihgcab
open Go.RowKit
set_option linter.unusedVariables false
set_option linter.unusedSimpArgs false

/- The first sum of two squares. -/
def fsO (n : Nat) : Nat → Nat → Option (Nat × Nat)
  | 0, _ => none
  | f + 1, a => if 2 * (a * a) ≤ n then (if tsB n a then some (a, rtF (n - a * a)) else fsO n f (a + 1)) else none
theorem fsO_hit {n a : Nat} (ha : a ≤ 449) (h : 2 * (a * a) ≤ n) (h2 : tsB n a = true) : fsO n (500 - a) a = some (a, rtF (n - a * a)) := by
  rw [show 500 - a = (499 - a) + 1 by omega, fsO, if_pos h, if_pos h2]
theorem fsO_miss {n a : Nat} (ha : a ≤ 449) (h : 2 * (a * a) ≤ n) (h2 : tsB n a = false) : fsO n (500 - a) a = fsO n (500 - (a + 1)) (a + 1) := by
  have e : 500 - a = (500 - (a + 1)) + 1 := by omega
  conv => lhs; rw [e]
  rw [fsO, if_pos h, if_neg (by rw [h2]; exact Bool.false_ne_true)]
theorem fsO_stop {n a : Nat} (ha : a ≤ 449) (h : ¬ 2 * (a * a) ≤ n) : fsO n (500 - a) a = none := by
  rw [show 500 - a = (499 - a) + 1 by omega, fsO, if_neg h]
/-- The sum as a value: 0 and 0 if there is none. -/
def fsP (o : Option (Nat × Nat)) : Nat × Nat := o.getD (0, 0)
theorem results_cell1 {fn : Func} {p : Tmp} {ty : TypeId} (h : fn.results = #[.cell p ty]) (tmps : Array Value) (P : Program) (w : World) :
    (results fn tmps).run P w = (asAddr (tmps.getD p undef) >>= fun a => loadVar ty a).run P w := by
  simp [results, h, Sem.run_bind]
theorem info_S2 : (Try.prog.info? 55).map (·.size) = some 2 := by kernel_rfl
set_option maxRecDepth 100000 in
set_option maxHeartbeats 1000000 in
theorem firstSum_c (w : World) (N L : Nat) (h9 : N ≤ 200000) (hL : L ≤ 400) :
    Calls Try.prog 73 #[.int .i64 (N : Int), .int .i64 (L : Int)] w fun en w' => en = .returned (.agg #[.int .i64 ((fsP (fsO N (500 - L) L)).1 : Int), .int .i64 ((fsP (fsO N (500 - L) L)).2 : Int)]) ∧ Below w.heap.size w w' := by
  obtain ⟨T, hT⟩ : ∃ T, fsO N (500 - L) L = T := ⟨_, rfl⟩
  rw [hT]
  have HT := Lib.hid hT
  clear hT
  have hz1 : (w.alloc (.cells #[.int .i64 0, .int .i64 0] 55)).heap[w.heap.size]? = some (.cells #[.int .i64 0, .int .i64 0] 55 (0, 0)) := heap_alloc_new w _
  have b0 : Below w.heap.size w (w.alloc (.cells #[.int .i64 0, .int .i64 0] 55)) := (Below.refl _ _).alloc (Nat.le_refl _) _
  have hsz : w.heap.size < (w.alloc (.cells #[.int .i64 0, .int .i64 0] 55)).heap.size := by simp
  have hssz : (w.alloc (.cells #[.int .i64 0, .int .i64 0] 55)).heap.size = w.heap.size + 1 := by simp
  have Hz1 := Lib.hid hz1
  have B0 := Lib.hid b0
  clear hz1 b0
  go_enter Try.func73, Try.ntmps73
  go_wp2
  generalize hW0 : w.alloc (.cells #[.int .i64 0, .int .i64 0] 55) = W0 at *
  clear hW0
  go_loopw [5, 6] (fun i _ wr => ∃ a : Nat, i = .int .i64 (a : Int) ∧ a ≤ 449 ∧ fsO N (500 - a) a = T ∧ Below W0.heap.size W0 wr) (fun i _ _ => 500 - (intOf i).toNat)
  case atStart => exact ⟨L, rfl, by omega, HT.out, Below.refl _ _⟩
  case round =>
    obtain ⟨a, rfl, ha, hT, hbel⟩ := hrel
    have hs := hbel.size
    have Hblk := Lib.hid ((hbel.block w.heap.size hsz).trans Hz1.out)
    have Hc0 := cell_of_row wr w.heap.size 0 _ _ _ Hblk.out
    have Hc1 := cell_of_row wr w.heap.size 1 _ _ _ Hblk.out
    have Hf := fun k => frozen_of_row wr w.heap.size k _ _ Hblk.out
    have HT2 := Lib.hid hT
    clear hT
    obtain ⟨D, hD⟩ : ∃ D, a * a = D := ⟨_, rfl⟩
    have hDi : (a : Int) * (a : Int) = (D : Int) := cast_sq hD
    have hD2 : 2 * (a : Int) * (a : Int) = 2 * (D : Int) := by rw [Int.mul_assoc, hDi]
    have hD9 : D ≤ 201601 := by have := Nat.mul_le_mul ha ha; omega
    have HD := Lib.hid hD
    clear hD
    by_cases hlt : 2 * D ≤ N
    · have ha9 := sq_lt_of (d := a) (n := D) (b := 317) (by rw [HD.out]; exact Nat.le_refl _) (by omega)
      have hrl := rtF_lt (n := N - D) (by omega)
      have Hc := Lib.hid (fun W => rootOf_c W (N - D) (by omega))
      rw [show ((N - D : Nat) : Int) = (N : Int) - (D : Int) by omega] at Hc
      obtain ⟨R, hR⟩ : ∃ R, rtF (N - D) = R := ⟨_, rfl⟩
      rw [hR] at hrl Hc
      obtain ⟨E, hE⟩ : ∃ E, R * R = E := ⟨_, rfl⟩
      have hEi : (R : Int) * (R : Int) = (E : Int) := cast_sq hE
      have hE9 : E ≤ 200704 := by have := Nat.mul_le_mul (show R ≤ 448 by omega) (show R ≤ 448 by omega); omega
      by_cases he : E = N - D
      · have he2 : ((D : Int) + (E : Int) == (N : Int)) = true := by rw [beq_iff_eq]; omega
        have Hy := Lib.hid ((fsO_hit ha (by rw [HD.out]; exact hlt) (by rw [tsB, HD.out, hR, hE, beq_iff_eq]; exact he)).symm.trans HT2.out)
        have HR := Lib.hid (show rtF (N - a * a) = R by rw [HD.out, hR])
        clear hR hE he
        go_wp2_with fail
        refine (Hc.out _).mono ?_
        rintro e w1 ⟨rfl, b1⟩
        have hlt1 : w.heap.size < w1.heap.size := Nat.lt_of_lt_of_le (Nat.lt_of_lt_of_le hsz hs) b1.size
        have Hblk1 := Lib.hid ((b1.block w.heap.size (Nat.lt_of_lt_of_le hsz hs)).trans Hblk.out)
        have hc0 := cell_of_row w1 w.heap.size 0 _ _ _ Hblk1.out
        have hc1 := cell_of_row w1 w.heap.size 1 _ _ _ Hblk1.out
        have hf := fun k => frozen_of_row w1 w.heap.size k _ _ Hblk1.out
        have hb01 := B0.out.trans ((hbel.trans (b1.mono hs)).mono B0.out.size)
        clear Hc0 Hc1 Hf
        go_wp2
        try simp only [Exit.inBlock, Exit.then]
        refine bodyPost_ret (v := .agg #[.int .i64 (a : Int), .int .i64 (R : Int)]) (by rw [results_cell1 rfl]; go_simp) rfl ⟨by rw [← Hy.out, HR.out]; rfl, ?_⟩
        exact (hb01.setCell (Nat.le_refl _) _).setCell (Nat.le_refl _) _
      · have he2 : ((D : Int) + (E : Int) == (N : Int)) = false := beq_eq_false_iff_ne.2 (by omega)
        have Hy := Lib.hid ((fsO_miss ha (by rw [HD.out]; exact hlt) (by rw [tsB, HD.out, hR, hE]; exact beq_eq_false_iff_ne.2 he)).symm.trans HT2.out)
        clear hR hE he Hc0 Hc1 Hf
        go_wp2_with fail
        refine (Hc.out _).mono ?_
        rintro e w1 ⟨rfl, b1⟩
        go_wp2
        go_roundw
        case rel => exact ⟨a + 1, by go_num, by omega, Hy.out, hbel.trans (b1.mono hs)⟩
        case measure => simp [intOf]; omega
    · have Hy := Lib.hid ((fsO_stop ha (by rw [HD.out]; exact hlt)).symm.trans HT2.out)
      go_wp2
      try simp only [Exit.inBlock, Exit.then]
      have hb01 := B0.out.trans (hbel.mono B0.out.size)
      refine bodyPost_ret (v := .agg #[.int .i64 0, .int .i64 0]) (by rw [results_cell1 rfl]; go_simp) rfl ⟨by rw [← Hy.out]; rfl, ?_⟩
      exact (hb01.setCell (Nat.le_refl _) _).setCell (Nat.le_refl _) _

end Go.Proofs.Ytkpililllihgcab
