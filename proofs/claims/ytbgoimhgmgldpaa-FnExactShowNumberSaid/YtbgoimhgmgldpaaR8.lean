import Derived.Test.YtbgoimhgmgldpaaR2
import Derived.Laws.ResultCell
import Derived.Laws.DeepStrings4
import Derived.Deep.QuietTactic
import Derived.BigQuiet
namespace Go.Proofs.Ytbgoimhgmgldpaa
open Go.RowKit
set_option linter.unusedVariables false
set_option linter.unusedSimpArgs false

/-- A text with another sign at the place of k + 1. -/
def putS (s : ByteArray) (k : Nat) (g : ByteArray) : ByteArray := s.extract 0 k ++ g ++ s.extract (k + 1) s.size
theorem putS_size {s : ByteArray} {k : Nat} {g : ByteArray} (hk : k < s.size) (hg : g.size = 1) : (putS s k g).size = s.size := by
  rw [putS, ByteArray.size_append, ByteArray.size_append, ByteArray.size_extract, ByteArray.size_extract]
  omega
theorem results_cell1 {fn : Func} {p : Tmp} {ty : TypeId} (h : fn.results = #[.cell p ty]) (tmps : Array Value) (P : Program) (w : World) :
    (results fn tmps).run P w = (asAddr (tmps.getD p undef) >>= fun a => loadVar ty a).run P w := by
  simp [results, h, Sem.run_bind]
set_option maxRecDepth 100000 in
set_option maxHeartbeats 1200000 in
theorem pzPut_c (w : World) (s g : ByteArray) (k : Nat) (R n : Int) (hn : n = (k : Int) + 1) (hk : k < s.size) (hs : s.size ≤ 48) (hg : g.size = 1) :
    Calls Try.prog 82 #[.agg #[.string s, .int .i64 R], .int .i64 n, .string g] w fun en w' => en = .returned (.agg #[.string (putS s k g), .int .i64 R]) ∧ Below w.heap.size w w' := by
  have hx0 : (1 : Int) ≤ n := by omega
  have hx1 : (0 : Int) ≤ n - 1 := by omega
  have hx2 : n - 1 ≤ (s.size : Int) := by omega
  have hx3 : (0 : Int) ≤ n := by omega
  have hx4 : n ≤ (s.size : Int) := by omega
  have hw : IntKind.i64.wrap (n - 1) = n - 1 := IntWalk.i64_in _ (by omega)
  have t1 : (n - 1).toNat = k := by omega
  have t2 : n.toNat = k + 1 := by omega
  have e1 : (s.extract 0 k).size = k := by rw [ByteArray.size_extract]; omega
  have e2 : (s.extract (k + 1) s.size).size = s.size - (k + 1) := by rw [ByteArray.size_extract]; omega
  have e3 : (s.extract 0 k ++ g).size = k + 1 := by rw [ByteArray.size_append, e1, hg]
  have a1 := addP (s.extract 0 k) g (by omega)
  have a2 := addP (s.extract 0 k ++ g) (s.extract (k + 1) s.size) (by omega)
  rw [show s.extract 0 k ++ g ++ s.extract (k + 1) s.size = putS s k g from rfl] at a2
  obtain ⟨T, hT⟩ : ∃ T, putS s k g = T := ⟨_, rfl⟩
  rw [hT] at a2 ⊢
  clear hT e1 e2 e3 hn hk hs hg
  go_enter Try.func82, Try.ntmps82
  go_wp2
  obtain ⟨W, hW⟩ : ∃ W, (w.alloc (.cells #[.string s, .int .i64 R] 26)).alloc (.cells #[.string ⟨#[]⟩, .int .i64 0] 26) = W := ⟨_, rfl⟩
  have hb0 : W.heap[w.heap.size]? = some (.cells #[.string s, .int .i64 R] 26 (0, 0)) := by rw [← hW]; exact (((Below.refl _ _).alloc (Nat.le_refl _) _).block w.heap.size (by simp)).trans (heap_alloc_new _ _)
  have hb1 : W.heap[w.heap.size + 1]? = some (.cells #[.string ⟨#[]⟩, .int .i64 0] 26 (0, 0)) := by rw [← hW]; exact by simpa using heap_alloc_new (w.alloc (.cells #[.string s, .int .i64 R] 26)) (.cells #[.string ⟨#[]⟩, .int .i64 0] 26)
  have bW : Below w.heap.size w W := by rw [← hW]; exact ((Below.refl _ _).alloc (Nat.le_refl _) _).alloc (by simp) _
  rw [show W = W from rfl] at hW
  first | rw [hW] | skip
  clear hW
  have hc0 : W.cell? ⟨w.heap.size, 0, none⟩ = some (.string s) := cell_of_row W w.heap.size 0 _ _ _ hb0
  have hc1 : W.cell? ⟨w.heap.size, 1, none⟩ = some (.int .i64 R) := cell_of_row W w.heap.size 1 _ _ _ hb0
  have hd0 : W.cell? ⟨w.heap.size + 1, 0, none⟩ = some (.string ⟨#[]⟩) := cell_of_row W (w.heap.size + 1) 0 _ _ _ hb1
  have hd1 : W.cell? ⟨w.heap.size + 1, 1, none⟩ = some (.int .i64 0) := cell_of_row W (w.heap.size + 1) 1 _ _ _ hb1
  have hs1 : w.heap.size ≠ w.heap.size + 1 := by omega
  have hf0 := fun k => frozen_of_row W w.heap.size k _ _ hb0
  have hf1 := fun k => frozen_of_row W (w.heap.size + 1) k _ _ hb1
  have B := Lib.hid bW
  clear hb0 hb1 bW
  go_still_tail 12, (by kernel_rfl)
  go_wp2
  refine bodyPost_ret (v := .agg #[.string T, .int .i64 R]) (by rw [results_cell1 rfl]; go_simp) rfl ⟨rfl, ?_⟩
  exact (((B.out.setCell (Nat.le_refl _) _).setCell (Nat.le_add_right _ _) _).setCell (Nat.le_add_right _ _) _).drew
--MARK
/-- Whether a puzzle has the number n, and whether it is unknown there. -/
def nuB (s : ByteArray) (R n : Int) : Bool := pzB s R && inB n 1 (s.size : Int)
def uk (s : ByteArray) (n : Int) : Bool := byN s (n - 1).toNat == 63
def shB (s : ByteArray) (R n : Int) : Bool := nuB s R n && uk s n
def hdB (s : ByteArray) (R n : Int) : Bool := nuB s R n && !uk s n
/-- The text, or none, and the rules, or 0. -/
def txS (b : Bool) (s : ByteArray) (n : Int) (g : ByteArray) : ByteArray := if b then putS s (n - 1).toNat g else ⟨#[]⟩
def txN (b : Bool) (R : Int) : Int := if b then R else 0
theorem pzB_pat1 {s : ByteArray} {n : Int} (h : pzB s n = true) : patB s = true := by rw [pzB, Bool.and_eq_true] at h; exact h.1
set_option maxRecDepth 100000 in
set_option maxHeartbeats 2000000 in
theorem spec_ShowNumber_c (w : World) (s : ByteArray) (R n : Int) (l : Bool) (hs : (s.size : Int) ≤ 1000000000) :
    Calls Try.prog 48 #[.agg #[.string s, .int .i64 R], .int .i64 n, .bool l] w fun en w' => en = .returned (.tuple #[.agg #[.string (txS (shB s R n) s n (if l = true then ⟨#[111]⟩ else ⟨#[120]⟩)), .int .i64 (txN (shB s R n) R)], .bool (shB s R n)]) ∧ Below w.heap.size w w' := by
  have Hg := Lib.hid (fun W => pzGood_c W s R hs)
  cases hg : pzB s R with
  | false =>
    have ho : shB s R n = false := by simp [shB, nuB, hg]
    rw [ho]
    rw [show txS false s n (if l = true then ⟨#[111]⟩ else ⟨#[120]⟩) = ⟨#[]⟩ from rfl, show txN false R = 0 from rfl]
    rw [hg] at Hg
    clear ho hg
    go_enter Try.func48, Try.ntmps48
    go_wp2_with fail
    obtain ⟨W, hW⟩ : ∃ W, (w.alloc (.cells #[.string s, .int .i64 R] 26)).alloc (.cells #[.string ⟨#[]⟩, .int .i64 0] 26) = W := ⟨_, rfl⟩
    have hb0 : W.heap[w.heap.size]? = some (.cells #[.string s, .int .i64 R] 26 (0, 0)) := by rw [← hW]; exact (((Below.refl _ _).alloc (Nat.le_refl _) _).block w.heap.size (by simp)).trans (heap_alloc_new _ _)
    have hb1 : W.heap[w.heap.size + 1]? = some (.cells #[.string ⟨#[]⟩, .int .i64 0] 26 (0, 0)) := by rw [← hW]; exact by simpa using heap_alloc_new (w.alloc (.cells #[.string s, .int .i64 R] 26)) (.cells #[.string ⟨#[]⟩, .int .i64 0] 26)
    have bW : Below w.heap.size w W := by rw [← hW]; exact ((Below.refl _ _).alloc (Nat.le_refl _) _).alloc (by simp) _
    have zW : W.heap.size = w.heap.size + 2 := by rw [← hW]; simp
    rw [hW]
    clear hW
    refine (Hg.out _).mono ?_
    rintro e w2 ⟨rfl, b2⟩
    have hB0 := (b2.block w.heap.size (by omega)).trans hb0
    have hB1 := (b2.block (w.heap.size + 1) (by omega)).trans hb1
    have HB := Lib.hid (bW.trans (b2.mono (by omega)))
    have z2 : w.heap.size + 2 ≤ w2.heap.size := by have := b2.size; omega
    clear hb0 hb1 bW b2 zW
    have hc0 : w2.cell? ⟨w.heap.size, 0, none⟩ = some (.string s) := cell_of_row w2 w.heap.size 0 _ _ _ hB0
    have hc1 : w2.cell? ⟨w.heap.size, 1, none⟩ = some (.int .i64 R) := cell_of_row w2 w.heap.size 1 _ _ _ hB0
    have hd0 : w2.cell? ⟨w.heap.size + 1, 0, none⟩ = some (.string ⟨#[]⟩) := cell_of_row w2 (w.heap.size + 1) 0 _ _ _ hB1
    have hd1 : w2.cell? ⟨w.heap.size + 1, 1, none⟩ = some (.int .i64 0) := cell_of_row w2 (w.heap.size + 1) 1 _ _ _ hB1
    have hf1 := fun k => frozen_of_row w2 (w.heap.size + 1) k _ _ hB1
    have HB1 := Lib.hid hB1
    clear hB0 hB1
    go_wp2
    refine bodyPost_ret (v := .tuple #[.agg #[.string ⟨#[]⟩, .int .i64 0], .bool false]) (by rw [results_cell_tmp rfl]; go_simp) rfl ⟨rfl, ?_⟩
    first | exact HB.out | exact (HB.out.setCell (Nat.le_add_right _ _) _).setCell (Nat.le_add_right _ _) _
  | true =>
    have hp := patB_parts (pzB_pat1 hg)
    cases hi : inB n 1 (s.size : Int) with
    | false =>
      have ho : shB s R n = false := by simp [shB, nuB, hi]
      rw [ho]
      rw [show txS false s n (if l = true then ⟨#[111]⟩ else ⟨#[120]⟩) = ⟨#[]⟩ from rfl, show txN false R = 0 from rfl]
      rw [hg] at Hg
      have Hi := Lib.hid hi
      clear ho hg hi hp
      go_enter Try.func48, Try.ntmps48
      go_wp2_with fail
      obtain ⟨W, hW⟩ : ∃ W, (w.alloc (.cells #[.string s, .int .i64 R] 26)).alloc (.cells #[.string ⟨#[]⟩, .int .i64 0] 26) = W := ⟨_, rfl⟩
      have hb0 : W.heap[w.heap.size]? = some (.cells #[.string s, .int .i64 R] 26 (0, 0)) := by rw [← hW]; exact (((Below.refl _ _).alloc (Nat.le_refl _) _).block w.heap.size (by simp)).trans (heap_alloc_new _ _)
      have hb1 : W.heap[w.heap.size + 1]? = some (.cells #[.string ⟨#[]⟩, .int .i64 0] 26 (0, 0)) := by rw [← hW]; exact by simpa using heap_alloc_new (w.alloc (.cells #[.string s, .int .i64 R] 26)) (.cells #[.string ⟨#[]⟩, .int .i64 0] 26)
      have bW : Below w.heap.size w W := by rw [← hW]; exact ((Below.refl _ _).alloc (Nat.le_refl _) _).alloc (by simp) _
      have zW : W.heap.size = w.heap.size + 2 := by rw [← hW]; simp
      rw [hW]
      clear hW
      refine (Hg.out _).mono ?_
      rintro e w2 ⟨rfl, b2⟩
      have hB0 := (b2.block w.heap.size (by omega)).trans hb0
      have hB1 := (b2.block (w.heap.size + 1) (by omega)).trans hb1
      have HB := Lib.hid (bW.trans (b2.mono (by omega)))
      have z2 : w.heap.size + 2 ≤ w2.heap.size := by have := b2.size; omega
      clear hb0 hb1 bW b2 zW
      have hc0 : w2.cell? ⟨w.heap.size, 0, none⟩ = some (.string s) := cell_of_row w2 w.heap.size 0 _ _ _ hB0
      have hc1 : w2.cell? ⟨w.heap.size, 1, none⟩ = some (.int .i64 R) := cell_of_row w2 w.heap.size 1 _ _ _ hB0
      have hd0 : w2.cell? ⟨w.heap.size + 1, 0, none⟩ = some (.string ⟨#[]⟩) := cell_of_row w2 (w.heap.size + 1) 0 _ _ _ hB1
      have hd1 : w2.cell? ⟨w.heap.size + 1, 1, none⟩ = some (.int .i64 0) := cell_of_row w2 (w.heap.size + 1) 1 _ _ _ hB1
      have hf1 := fun k => frozen_of_row w2 (w.heap.size + 1) k _ _ hB1
      have HB1 := Lib.hid hB1
      clear hB0 hB1
      go_wp2_with fail
      refine (l1In_c _ _ _ _).mono ?_
      rw [Hi.out]
      rintro e w3 ⟨rfl, rfl⟩
      go_wp2
      refine bodyPost_ret (v := .tuple #[.agg #[.string ⟨#[]⟩, .int .i64 0], .bool false]) (by rw [results_cell_tmp rfl]; go_simp) rfl ⟨rfl, ?_⟩
      first | exact HB.out | exact (HB.out.setCell (Nat.le_add_right _ _) _).setCell (Nat.le_add_right _ _) _
    | true =>
      obtain ⟨i1, i2⟩ := inB_true.1 hi
      obtain ⟨k, hk⟩ := Int.eq_ofNat_of_zero_le (show 0 ≤ n - 1 by omega)
      have hkn : n = (k : Int) + 1 := by omega
      subst hkn
      have hks : k < s.size := by omega
      have hs48 := hp.2.1
      have hu : uk s ((k : Int) + 1) = (byN s k == 63) := by rw [uk, show ((k : Int) + 1 - 1).toNat = k by omega]
      have hby := byN_at hks
      have hBn : shB s R ((k : Int) + 1) = (byN s k == 63) := by rw [shB, nuB, hg, hi, hu]; rfl
      obtain ⟨b, hb⟩ : ∃ b, byN s k = b := ⟨_, rfl⟩
      rw [hb] at hby hBn
      rw [hBn]
      rw [hg] at Hg
      have Hi := Lib.hid hi
      have hw : IntKind.i64.wrap (k : Int) = (k : Int) := IntWalk.i64_in _ (by omega)
      have hkt : ((k : Int) + 1 - 1).toNat = k := by omega
      have hx1 : (0 : Int) ≤ (k : Int) := by omega
      have hx2 : (k : Int) < (s.size : Int) := by omega
      clear hg hi hu hb hBn hk
      by_cases h63 : b = 63
      · subst h63
        rw [show ((63 : Nat) == 63) = true from rfl]
        cases l with
        | true =>
          rw [show (if true = true then (⟨#[111]⟩ : ByteArray) else ⟨#[120]⟩) = ⟨#[111]⟩ from rfl]
          have Hput := Lib.hid (fun W => pzPut_c W s ⟨#[111]⟩ k R ((k : Int) + 1) rfl hks hs48 rfl)
          rw [show txS true s ((k : Int) + 1) ⟨#[111]⟩ = putS s k ⟨#[111]⟩ by rw [txS, if_pos rfl, hkt], show txN true R = R from rfl]
          obtain ⟨T, hT⟩ : ∃ T, putS s k ⟨#[111]⟩ = T := ⟨_, rfl⟩
          rw [hT] at Hput ⊢
          clear hT
          go_enter Try.func48, Try.ntmps48
          go_wp2_with fail
          obtain ⟨W, hW⟩ : ∃ W, (w.alloc (.cells #[.string s, .int .i64 R] 26)).alloc (.cells #[.string ⟨#[]⟩, .int .i64 0] 26) = W := ⟨_, rfl⟩
          have hb0 : W.heap[w.heap.size]? = some (.cells #[.string s, .int .i64 R] 26 (0, 0)) := by rw [← hW]; exact (((Below.refl _ _).alloc (Nat.le_refl _) _).block w.heap.size (by simp)).trans (heap_alloc_new _ _)
          have hb1 : W.heap[w.heap.size + 1]? = some (.cells #[.string ⟨#[]⟩, .int .i64 0] 26 (0, 0)) := by rw [← hW]; exact by simpa using heap_alloc_new (w.alloc (.cells #[.string s, .int .i64 R] 26)) (.cells #[.string ⟨#[]⟩, .int .i64 0] 26)
          have bW : Below w.heap.size w W := by rw [← hW]; exact ((Below.refl _ _).alloc (Nat.le_refl _) _).alloc (by simp) _
          have zW : W.heap.size = w.heap.size + 2 := by rw [← hW]; simp
          rw [hW]
          clear hW
          refine (Hg.out _).mono ?_
          rintro e w2 ⟨rfl, b2⟩
          have hB0 := (b2.block w.heap.size (by omega)).trans hb0
          have hB1 := (b2.block (w.heap.size + 1) (by omega)).trans hb1
          have HB := Lib.hid (bW.trans (b2.mono (by omega)))
          have z2 : w.heap.size + 2 ≤ w2.heap.size := by have := b2.size; omega
          clear hb0 hb1 bW b2 zW
          have hc0 : w2.cell? ⟨w.heap.size, 0, none⟩ = some (.string s) := cell_of_row w2 w.heap.size 0 _ _ _ hB0
          have hc1 : w2.cell? ⟨w.heap.size, 1, none⟩ = some (.int .i64 R) := cell_of_row w2 w.heap.size 1 _ _ _ hB0
          have hd0 : w2.cell? ⟨w.heap.size + 1, 0, none⟩ = some (.string ⟨#[]⟩) := cell_of_row w2 (w.heap.size + 1) 0 _ _ _ hB1
          have hd1 : w2.cell? ⟨w.heap.size + 1, 1, none⟩ = some (.int .i64 0) := cell_of_row w2 (w.heap.size + 1) 1 _ _ _ hB1
          have hf1 := fun k => frozen_of_row w2 (w.heap.size + 1) k _ _ hB1
          have HB1 := Lib.hid hB1
          clear hB0 hB1
          go_wp2_with fail
          refine (l1In_c _ _ _ _).mono ?_
          rw [Hi.out]
          rintro e w3 ⟨rfl, rfl⟩
          go_wp2_with fail
          refine (Hput.out _).mono ?_
          rintro e w4 ⟨rfl, b4⟩
          have hE1 := (b4.block (w.heap.size + 1) (by omega)).trans HB1.out
          have HB4 := Lib.hid (HB.out.trans (b4.mono (by omega)))
          have he0 : w4.cell? ⟨w.heap.size + 1, 0, none⟩ = some (.string ⟨#[]⟩) := cell_of_row w4 (w.heap.size + 1) 0 _ _ _ hE1
          have he1 : w4.cell? ⟨w.heap.size + 1, 1, none⟩ = some (.int .i64 0) := cell_of_row w4 (w.heap.size + 1) 1 _ _ _ hE1
          have hg1 := fun k => frozen_of_row w4 (w.heap.size + 1) k _ _ hE1
          clear hd0 hd1 hc0 hc1 hf1 hE1 b4
          go_wp2
          refine bodyPost_ret (v := .tuple #[.agg #[.string T, .int .i64 R], .bool true]) (by rw [results_cell_tmp rfl]; go_simp) rfl ⟨rfl, ?_⟩
          exact (HB4.out.setCell (Nat.le_add_right _ _) _).setCell (Nat.le_add_right _ _) _
        | false =>
          rw [show (if false = true then (⟨#[111]⟩ : ByteArray) else ⟨#[120]⟩) = ⟨#[120]⟩ from rfl]
          have Hput := Lib.hid (fun W => pzPut_c W s ⟨#[120]⟩ k R ((k : Int) + 1) rfl hks hs48 rfl)
          rw [show txS true s ((k : Int) + 1) ⟨#[120]⟩ = putS s k ⟨#[120]⟩ by rw [txS, if_pos rfl, hkt], show txN true R = R from rfl]
          obtain ⟨T, hT⟩ : ∃ T, putS s k ⟨#[120]⟩ = T := ⟨_, rfl⟩
          rw [hT] at Hput ⊢
          clear hT
          go_enter Try.func48, Try.ntmps48
          go_wp2_with fail
          obtain ⟨W, hW⟩ : ∃ W, (w.alloc (.cells #[.string s, .int .i64 R] 26)).alloc (.cells #[.string ⟨#[]⟩, .int .i64 0] 26) = W := ⟨_, rfl⟩
          have hb0 : W.heap[w.heap.size]? = some (.cells #[.string s, .int .i64 R] 26 (0, 0)) := by rw [← hW]; exact (((Below.refl _ _).alloc (Nat.le_refl _) _).block w.heap.size (by simp)).trans (heap_alloc_new _ _)
          have hb1 : W.heap[w.heap.size + 1]? = some (.cells #[.string ⟨#[]⟩, .int .i64 0] 26 (0, 0)) := by rw [← hW]; exact by simpa using heap_alloc_new (w.alloc (.cells #[.string s, .int .i64 R] 26)) (.cells #[.string ⟨#[]⟩, .int .i64 0] 26)
          have bW : Below w.heap.size w W := by rw [← hW]; exact ((Below.refl _ _).alloc (Nat.le_refl _) _).alloc (by simp) _
          have zW : W.heap.size = w.heap.size + 2 := by rw [← hW]; simp
          rw [hW]
          clear hW
          refine (Hg.out _).mono ?_
          rintro e w2 ⟨rfl, b2⟩
          have hB0 := (b2.block w.heap.size (by omega)).trans hb0
          have hB1 := (b2.block (w.heap.size + 1) (by omega)).trans hb1
          have HB := Lib.hid (bW.trans (b2.mono (by omega)))
          have z2 : w.heap.size + 2 ≤ w2.heap.size := by have := b2.size; omega
          clear hb0 hb1 bW b2 zW
          have hc0 : w2.cell? ⟨w.heap.size, 0, none⟩ = some (.string s) := cell_of_row w2 w.heap.size 0 _ _ _ hB0
          have hc1 : w2.cell? ⟨w.heap.size, 1, none⟩ = some (.int .i64 R) := cell_of_row w2 w.heap.size 1 _ _ _ hB0
          have hd0 : w2.cell? ⟨w.heap.size + 1, 0, none⟩ = some (.string ⟨#[]⟩) := cell_of_row w2 (w.heap.size + 1) 0 _ _ _ hB1
          have hd1 : w2.cell? ⟨w.heap.size + 1, 1, none⟩ = some (.int .i64 0) := cell_of_row w2 (w.heap.size + 1) 1 _ _ _ hB1
          have hf1 := fun k => frozen_of_row w2 (w.heap.size + 1) k _ _ hB1
          have HB1 := Lib.hid hB1
          clear hB0 hB1
          go_wp2_with fail
          refine (l1In_c _ _ _ _).mono ?_
          rw [Hi.out]
          rintro e w3 ⟨rfl, rfl⟩
          go_wp2_with fail
          refine (Hput.out _).mono ?_
          rintro e w4 ⟨rfl, b4⟩
          have hE1 := (b4.block (w.heap.size + 1) (by omega)).trans HB1.out
          have HB4 := Lib.hid (HB.out.trans (b4.mono (by omega)))
          have he0 : w4.cell? ⟨w.heap.size + 1, 0, none⟩ = some (.string ⟨#[]⟩) := cell_of_row w4 (w.heap.size + 1) 0 _ _ _ hE1
          have he1 : w4.cell? ⟨w.heap.size + 1, 1, none⟩ = some (.int .i64 0) := cell_of_row w4 (w.heap.size + 1) 1 _ _ _ hE1
          have hg1 := fun k => frozen_of_row w4 (w.heap.size + 1) k _ _ hE1
          clear hd0 hd1 hc0 hc1 hf1 hE1 b4
          go_wp2
          refine bodyPost_ret (v := .tuple #[.agg #[.string T, .int .i64 R], .bool true]) (by rw [results_cell_tmp rfl]; go_simp) rfl ⟨rfl, ?_⟩
          exact (HB4.out.setCell (Nat.le_add_right _ _) _).setCell (Nat.le_add_right _ _) _
      · have hbb : (b == 63) = false := beq_eq_false_iff_ne.2 h63
        have hbi : ((b : Int) == 63) = false := beq_eq_false_iff_ne.2 (by omega)
        have hbd : ((b : Int) != 63) = true := by rw [bne, hbi]; rfl
        rw [hbb]
        rw [show txS false s ((k : Int) + 1) (if l = true then ⟨#[111]⟩ else ⟨#[120]⟩) = ⟨#[]⟩ from rfl, show txN false R = 0 from rfl]
        go_enter Try.func48, Try.ntmps48
        go_wp2_with fail
        obtain ⟨W, hW⟩ : ∃ W, (w.alloc (.cells #[.string s, .int .i64 R] 26)).alloc (.cells #[.string ⟨#[]⟩, .int .i64 0] 26) = W := ⟨_, rfl⟩
        have hb0 : W.heap[w.heap.size]? = some (.cells #[.string s, .int .i64 R] 26 (0, 0)) := by rw [← hW]; exact (((Below.refl _ _).alloc (Nat.le_refl _) _).block w.heap.size (by simp)).trans (heap_alloc_new _ _)
        have hb1 : W.heap[w.heap.size + 1]? = some (.cells #[.string ⟨#[]⟩, .int .i64 0] 26 (0, 0)) := by rw [← hW]; exact by simpa using heap_alloc_new (w.alloc (.cells #[.string s, .int .i64 R] 26)) (.cells #[.string ⟨#[]⟩, .int .i64 0] 26)
        have bW : Below w.heap.size w W := by rw [← hW]; exact ((Below.refl _ _).alloc (Nat.le_refl _) _).alloc (by simp) _
        have zW : W.heap.size = w.heap.size + 2 := by rw [← hW]; simp
        rw [hW]
        clear hW
        refine (Hg.out _).mono ?_
        rintro e w2 ⟨rfl, b2⟩
        have hB0 := (b2.block w.heap.size (by omega)).trans hb0
        have hB1 := (b2.block (w.heap.size + 1) (by omega)).trans hb1
        have HB := Lib.hid (bW.trans (b2.mono (by omega)))
        have z2 : w.heap.size + 2 ≤ w2.heap.size := by have := b2.size; omega
        clear hb0 hb1 bW b2 zW
        have hc0 : w2.cell? ⟨w.heap.size, 0, none⟩ = some (.string s) := cell_of_row w2 w.heap.size 0 _ _ _ hB0
        have hc1 : w2.cell? ⟨w.heap.size, 1, none⟩ = some (.int .i64 R) := cell_of_row w2 w.heap.size 1 _ _ _ hB0
        have hd0 : w2.cell? ⟨w.heap.size + 1, 0, none⟩ = some (.string ⟨#[]⟩) := cell_of_row w2 (w.heap.size + 1) 0 _ _ _ hB1
        have hd1 : w2.cell? ⟨w.heap.size + 1, 1, none⟩ = some (.int .i64 0) := cell_of_row w2 (w.heap.size + 1) 1 _ _ _ hB1
        have hf1 := fun k => frozen_of_row w2 (w.heap.size + 1) k _ _ hB1
        have HB1 := Lib.hid hB1
        clear hB0 hB1
        go_wp2_with fail
        refine (l1In_c _ _ _ _).mono ?_
        rw [Hi.out]
        rintro e w3 ⟨rfl, rfl⟩
        go_wp2
        refine bodyPost_ret (v := .tuple #[.agg #[.string ⟨#[]⟩, .int .i64 0], .bool false]) (by rw [results_cell_tmp rfl]; go_simp) rfl ⟨rfl, ?_⟩
        first | exact HB.out | exact (HB.out.setCell (Nat.le_add_right _ _) _).setCell (Nat.le_add_right _ _) _
set_option maxRecDepth 100000 in
set_option maxHeartbeats 2000000 in
theorem spec_HideNumber_c (w : World) (s : ByteArray) (R n : Int) (hs : (s.size : Int) ≤ 1000000000) :
    Calls Try.prog 51 #[.agg #[.string s, .int .i64 R], .int .i64 n] w fun en w' => en = .returned (.tuple #[.agg #[.string (txS (hdB s R n) s n ⟨#[63]⟩), .int .i64 (txN (hdB s R n) R)], .bool (hdB s R n)]) ∧ Below w.heap.size w w' := by
  have Hg := Lib.hid (fun W => pzGood_c W s R hs)
  cases hg : pzB s R with
  | false =>
    have ho : hdB s R n = false := by simp [hdB, nuB, hg]
    rw [ho]
    rw [show txS false s n ⟨#[63]⟩ = ⟨#[]⟩ from rfl, show txN false R = 0 from rfl]
    rw [hg] at Hg
    clear ho hg
    go_enter Try.func51, Try.ntmps51
    go_wp2_with fail
    obtain ⟨W, hW⟩ : ∃ W, (w.alloc (.cells #[.string s, .int .i64 R] 26)).alloc (.cells #[.string ⟨#[]⟩, .int .i64 0] 26) = W := ⟨_, rfl⟩
    have hb0 : W.heap[w.heap.size]? = some (.cells #[.string s, .int .i64 R] 26 (0, 0)) := by rw [← hW]; exact (((Below.refl _ _).alloc (Nat.le_refl _) _).block w.heap.size (by simp)).trans (heap_alloc_new _ _)
    have hb1 : W.heap[w.heap.size + 1]? = some (.cells #[.string ⟨#[]⟩, .int .i64 0] 26 (0, 0)) := by rw [← hW]; exact by simpa using heap_alloc_new (w.alloc (.cells #[.string s, .int .i64 R] 26)) (.cells #[.string ⟨#[]⟩, .int .i64 0] 26)
    have bW : Below w.heap.size w W := by rw [← hW]; exact ((Below.refl _ _).alloc (Nat.le_refl _) _).alloc (by simp) _
    have zW : W.heap.size = w.heap.size + 2 := by rw [← hW]; simp
    rw [hW]
    clear hW
    refine (Hg.out _).mono ?_
    rintro e w2 ⟨rfl, b2⟩
    have hB0 := (b2.block w.heap.size (by omega)).trans hb0
    have hB1 := (b2.block (w.heap.size + 1) (by omega)).trans hb1
    have HB := Lib.hid (bW.trans (b2.mono (by omega)))
    have z2 : w.heap.size + 2 ≤ w2.heap.size := by have := b2.size; omega
    clear hb0 hb1 bW b2 zW
    have hc0 : w2.cell? ⟨w.heap.size, 0, none⟩ = some (.string s) := cell_of_row w2 w.heap.size 0 _ _ _ hB0
    have hc1 : w2.cell? ⟨w.heap.size, 1, none⟩ = some (.int .i64 R) := cell_of_row w2 w.heap.size 1 _ _ _ hB0
    have hd0 : w2.cell? ⟨w.heap.size + 1, 0, none⟩ = some (.string ⟨#[]⟩) := cell_of_row w2 (w.heap.size + 1) 0 _ _ _ hB1
    have hd1 : w2.cell? ⟨w.heap.size + 1, 1, none⟩ = some (.int .i64 0) := cell_of_row w2 (w.heap.size + 1) 1 _ _ _ hB1
    have hf1 := fun k => frozen_of_row w2 (w.heap.size + 1) k _ _ hB1
    have HB1 := Lib.hid hB1
    clear hB0 hB1
    go_wp2
    refine bodyPost_ret (v := .tuple #[.agg #[.string ⟨#[]⟩, .int .i64 0], .bool false]) (by rw [results_cell_tmp rfl]; go_simp) rfl ⟨rfl, ?_⟩
    first | exact HB.out | exact (HB.out.setCell (Nat.le_add_right _ _) _).setCell (Nat.le_add_right _ _) _
  | true =>
    have hp := patB_parts (pzB_pat1 hg)
    cases hi : inB n 1 (s.size : Int) with
    | false =>
      have ho : hdB s R n = false := by simp [hdB, nuB, hi]
      rw [ho]
      rw [show txS false s n ⟨#[63]⟩ = ⟨#[]⟩ from rfl, show txN false R = 0 from rfl]
      rw [hg] at Hg
      have Hi := Lib.hid hi
      clear ho hg hi hp
      go_enter Try.func51, Try.ntmps51
      go_wp2_with fail
      obtain ⟨W, hW⟩ : ∃ W, (w.alloc (.cells #[.string s, .int .i64 R] 26)).alloc (.cells #[.string ⟨#[]⟩, .int .i64 0] 26) = W := ⟨_, rfl⟩
      have hb0 : W.heap[w.heap.size]? = some (.cells #[.string s, .int .i64 R] 26 (0, 0)) := by rw [← hW]; exact (((Below.refl _ _).alloc (Nat.le_refl _) _).block w.heap.size (by simp)).trans (heap_alloc_new _ _)
      have hb1 : W.heap[w.heap.size + 1]? = some (.cells #[.string ⟨#[]⟩, .int .i64 0] 26 (0, 0)) := by rw [← hW]; exact by simpa using heap_alloc_new (w.alloc (.cells #[.string s, .int .i64 R] 26)) (.cells #[.string ⟨#[]⟩, .int .i64 0] 26)
      have bW : Below w.heap.size w W := by rw [← hW]; exact ((Below.refl _ _).alloc (Nat.le_refl _) _).alloc (by simp) _
      have zW : W.heap.size = w.heap.size + 2 := by rw [← hW]; simp
      rw [hW]
      clear hW
      refine (Hg.out _).mono ?_
      rintro e w2 ⟨rfl, b2⟩
      have hB0 := (b2.block w.heap.size (by omega)).trans hb0
      have hB1 := (b2.block (w.heap.size + 1) (by omega)).trans hb1
      have HB := Lib.hid (bW.trans (b2.mono (by omega)))
      have z2 : w.heap.size + 2 ≤ w2.heap.size := by have := b2.size; omega
      clear hb0 hb1 bW b2 zW
      have hc0 : w2.cell? ⟨w.heap.size, 0, none⟩ = some (.string s) := cell_of_row w2 w.heap.size 0 _ _ _ hB0
      have hc1 : w2.cell? ⟨w.heap.size, 1, none⟩ = some (.int .i64 R) := cell_of_row w2 w.heap.size 1 _ _ _ hB0
      have hd0 : w2.cell? ⟨w.heap.size + 1, 0, none⟩ = some (.string ⟨#[]⟩) := cell_of_row w2 (w.heap.size + 1) 0 _ _ _ hB1
      have hd1 : w2.cell? ⟨w.heap.size + 1, 1, none⟩ = some (.int .i64 0) := cell_of_row w2 (w.heap.size + 1) 1 _ _ _ hB1
      have hf1 := fun k => frozen_of_row w2 (w.heap.size + 1) k _ _ hB1
      have HB1 := Lib.hid hB1
      clear hB0 hB1
      go_wp2_with fail
      refine (l1In_c _ _ _ _).mono ?_
      rw [Hi.out]
      rintro e w3 ⟨rfl, rfl⟩
      go_wp2
      refine bodyPost_ret (v := .tuple #[.agg #[.string ⟨#[]⟩, .int .i64 0], .bool false]) (by rw [results_cell_tmp rfl]; go_simp) rfl ⟨rfl, ?_⟩
      first | exact HB.out | exact (HB.out.setCell (Nat.le_add_right _ _) _).setCell (Nat.le_add_right _ _) _
    | true =>
      obtain ⟨i1, i2⟩ := inB_true.1 hi
      obtain ⟨k, hk⟩ := Int.eq_ofNat_of_zero_le (show 0 ≤ n - 1 by omega)
      have hkn : n = (k : Int) + 1 := by omega
      subst hkn
      have hks : k < s.size := by omega
      have hs48 := hp.2.1
      have hu : uk s ((k : Int) + 1) = (byN s k == 63) := by rw [uk, show ((k : Int) + 1 - 1).toNat = k by omega]
      have hby := byN_at hks
      have hBn : hdB s R ((k : Int) + 1) = !(byN s k == 63) := by rw [hdB, nuB, hg, hi, hu]; rfl
      obtain ⟨b, hb⟩ : ∃ b, byN s k = b := ⟨_, rfl⟩
      rw [hb] at hby hBn
      rw [hBn]
      rw [hg] at Hg
      have Hi := Lib.hid hi
      have hw : IntKind.i64.wrap (k : Int) = (k : Int) := IntWalk.i64_in _ (by omega)
      have hkt : ((k : Int) + 1 - 1).toNat = k := by omega
      have hx1 : (0 : Int) ≤ (k : Int) := by omega
      have hx2 : (k : Int) < (s.size : Int) := by omega
      clear hg hi hu hb hBn hk
      by_cases h63 : b = 63
      · subst h63
        rw [show (!((63 : Nat) == 63)) = false from rfl]
        rw [show txS false s ((k : Int) + 1) ⟨#[63]⟩ = ⟨#[]⟩ from rfl, show txN false R = 0 from rfl]
        go_enter Try.func51, Try.ntmps51
        go_wp2_with fail
        obtain ⟨W, hW⟩ : ∃ W, (w.alloc (.cells #[.string s, .int .i64 R] 26)).alloc (.cells #[.string ⟨#[]⟩, .int .i64 0] 26) = W := ⟨_, rfl⟩
        have hb0 : W.heap[w.heap.size]? = some (.cells #[.string s, .int .i64 R] 26 (0, 0)) := by rw [← hW]; exact (((Below.refl _ _).alloc (Nat.le_refl _) _).block w.heap.size (by simp)).trans (heap_alloc_new _ _)
        have hb1 : W.heap[w.heap.size + 1]? = some (.cells #[.string ⟨#[]⟩, .int .i64 0] 26 (0, 0)) := by rw [← hW]; exact by simpa using heap_alloc_new (w.alloc (.cells #[.string s, .int .i64 R] 26)) (.cells #[.string ⟨#[]⟩, .int .i64 0] 26)
        have bW : Below w.heap.size w W := by rw [← hW]; exact ((Below.refl _ _).alloc (Nat.le_refl _) _).alloc (by simp) _
        have zW : W.heap.size = w.heap.size + 2 := by rw [← hW]; simp
        rw [hW]
        clear hW
        refine (Hg.out _).mono ?_
        rintro e w2 ⟨rfl, b2⟩
        have hB0 := (b2.block w.heap.size (by omega)).trans hb0
        have hB1 := (b2.block (w.heap.size + 1) (by omega)).trans hb1
        have HB := Lib.hid (bW.trans (b2.mono (by omega)))
        have z2 : w.heap.size + 2 ≤ w2.heap.size := by have := b2.size; omega
        clear hb0 hb1 bW b2 zW
        have hc0 : w2.cell? ⟨w.heap.size, 0, none⟩ = some (.string s) := cell_of_row w2 w.heap.size 0 _ _ _ hB0
        have hc1 : w2.cell? ⟨w.heap.size, 1, none⟩ = some (.int .i64 R) := cell_of_row w2 w.heap.size 1 _ _ _ hB0
        have hd0 : w2.cell? ⟨w.heap.size + 1, 0, none⟩ = some (.string ⟨#[]⟩) := cell_of_row w2 (w.heap.size + 1) 0 _ _ _ hB1
        have hd1 : w2.cell? ⟨w.heap.size + 1, 1, none⟩ = some (.int .i64 0) := cell_of_row w2 (w.heap.size + 1) 1 _ _ _ hB1
        have hf1 := fun k => frozen_of_row w2 (w.heap.size + 1) k _ _ hB1
        have HB1 := Lib.hid hB1
        clear hB0 hB1
        go_wp2_with fail
        refine (l1In_c _ _ _ _).mono ?_
        rw [Hi.out]
        rintro e w3 ⟨rfl, rfl⟩
        go_wp2
        refine bodyPost_ret (v := .tuple #[.agg #[.string ⟨#[]⟩, .int .i64 0], .bool false]) (by rw [results_cell_tmp rfl]; go_simp) rfl ⟨rfl, ?_⟩
        first | exact HB.out | exact (HB.out.setCell (Nat.le_add_right _ _) _).setCell (Nat.le_add_right _ _) _
      · have hbb : (!(b == 63)) = true := by rw [show (b == 63) = false from beq_eq_false_iff_ne.2 h63]; rfl
        have hbi : ((b : Int) == 63) = false := beq_eq_false_iff_ne.2 (by omega)
        rw [hbb]
        have Hput := Lib.hid (fun W => pzPut_c W s ⟨#[63]⟩ k R ((k : Int) + 1) rfl hks hs48 rfl)
        rw [show txS true s ((k : Int) + 1) ⟨#[63]⟩ = putS s k ⟨#[63]⟩ by rw [txS, if_pos rfl, hkt], show txN true R = R from rfl]
        obtain ⟨T, hT⟩ : ∃ T, putS s k ⟨#[63]⟩ = T := ⟨_, rfl⟩
        rw [hT] at Hput ⊢
        clear hT
        go_enter Try.func51, Try.ntmps51
        go_wp2_with fail
        obtain ⟨W, hW⟩ : ∃ W, (w.alloc (.cells #[.string s, .int .i64 R] 26)).alloc (.cells #[.string ⟨#[]⟩, .int .i64 0] 26) = W := ⟨_, rfl⟩
        have hb0 : W.heap[w.heap.size]? = some (.cells #[.string s, .int .i64 R] 26 (0, 0)) := by rw [← hW]; exact (((Below.refl _ _).alloc (Nat.le_refl _) _).block w.heap.size (by simp)).trans (heap_alloc_new _ _)
        have hb1 : W.heap[w.heap.size + 1]? = some (.cells #[.string ⟨#[]⟩, .int .i64 0] 26 (0, 0)) := by rw [← hW]; exact by simpa using heap_alloc_new (w.alloc (.cells #[.string s, .int .i64 R] 26)) (.cells #[.string ⟨#[]⟩, .int .i64 0] 26)
        have bW : Below w.heap.size w W := by rw [← hW]; exact ((Below.refl _ _).alloc (Nat.le_refl _) _).alloc (by simp) _
        have zW : W.heap.size = w.heap.size + 2 := by rw [← hW]; simp
        rw [hW]
        clear hW
        refine (Hg.out _).mono ?_
        rintro e w2 ⟨rfl, b2⟩
        have hB0 := (b2.block w.heap.size (by omega)).trans hb0
        have hB1 := (b2.block (w.heap.size + 1) (by omega)).trans hb1
        have HB := Lib.hid (bW.trans (b2.mono (by omega)))
        have z2 : w.heap.size + 2 ≤ w2.heap.size := by have := b2.size; omega
        clear hb0 hb1 bW b2 zW
        have hc0 : w2.cell? ⟨w.heap.size, 0, none⟩ = some (.string s) := cell_of_row w2 w.heap.size 0 _ _ _ hB0
        have hc1 : w2.cell? ⟨w.heap.size, 1, none⟩ = some (.int .i64 R) := cell_of_row w2 w.heap.size 1 _ _ _ hB0
        have hd0 : w2.cell? ⟨w.heap.size + 1, 0, none⟩ = some (.string ⟨#[]⟩) := cell_of_row w2 (w.heap.size + 1) 0 _ _ _ hB1
        have hd1 : w2.cell? ⟨w.heap.size + 1, 1, none⟩ = some (.int .i64 0) := cell_of_row w2 (w.heap.size + 1) 1 _ _ _ hB1
        have hf1 := fun k => frozen_of_row w2 (w.heap.size + 1) k _ _ hB1
        have HB1 := Lib.hid hB1
        clear hB0 hB1
        go_wp2_with fail
        refine (l1In_c _ _ _ _).mono ?_
        rw [Hi.out]
        rintro e w3 ⟨rfl, rfl⟩
        go_wp2_with fail
        refine (Hput.out _).mono ?_
        rintro e w4 ⟨rfl, b4⟩
        have hE1 := (b4.block (w.heap.size + 1) (by omega)).trans HB1.out
        have HB4 := Lib.hid (HB.out.trans (b4.mono (by omega)))
        have he0 : w4.cell? ⟨w.heap.size + 1, 0, none⟩ = some (.string ⟨#[]⟩) := cell_of_row w4 (w.heap.size + 1) 0 _ _ _ hE1
        have he1 : w4.cell? ⟨w.heap.size + 1, 1, none⟩ = some (.int .i64 0) := cell_of_row w4 (w.heap.size + 1) 1 _ _ _ hE1
        have hg1 := fun k => frozen_of_row w4 (w.heap.size + 1) k _ _ hE1
        clear hd0 hd1 hc0 hc1 hf1 hE1 b4
        go_wp2
        refine bodyPost_ret (v := .tuple #[.agg #[.string T, .int .i64 R], .bool true]) (by rw [results_cell_tmp rfl]; go_simp) rfl ⟨rfl, ?_⟩
        exact (HB4.out.setCell (Nat.le_add_right _ _) _).setCell (Nat.le_add_right _ _) _
end Go.Proofs.Ytbgoimhgmgldpaa
