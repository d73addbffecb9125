import Derived.Test.YtbgoimhgmgldpaaRH
import Derived.Test.YtbgoimhgmgldpaaR8
import Derived.Laws.BytesArg
import Derived.IntWalk
namespace Go.Proofs.Ytbgoimhgmgldpaa
open Go.RowKit
set_option linter.unusedVariables false
set_option linter.unusedSimpArgs false

/-- The bytes of a text with one put in. -/
def pbL (s : ByteArray) (k : Nat) (g : UInt8) : List Int := (List.range s.size).map fun j : Nat => if j = k then ((g.toNat : Nat) : Int) else ((byN s j : Nat) : Int)
theorem pbL_len (s : ByteArray) (k : Nat) (g : UInt8) : (pbL s k g).length = s.size := by simp [pbL]
theorem pbL_at {s : ByteArray} {k j : Nat} {g : UInt8} (h : j < s.size) : (pbL s k g)[j]? = some (if j = k then ((g.toNat : Nat) : Int) else ((byN s j : Nat) : Int)) := by
  rw [pbL, List.getElem?_map, List.getElem?_range h]; rfl
theorem pbL_getD {s : ByteArray} {k j : Nat} {g : UInt8} (h : j < s.size) : (pbL s k g).getD j 0 = if j = k then ((g.toNat : Nat) : Int) else ((byN s j : Nat) : Int) := by
  rw [List.getD_eq_getElem?_getD, pbL_at h]; rfl
theorem ba_extP {a b : ByteArray} (h : a.data.toList = b.data.toList) : a = b := by
  cases a; cases b
  simp only at h
  congr
  exact Array.toList_inj.1 h
theorem pbL_str {s : ByteArray} {k : Nat} {g : UInt8} (hk : k < s.size) : strOfNums (pbL s k g) = putS s k ⟨#[g]⟩ := by
  apply ba_extP
  have hl : s.data.toList.length = s.size := by simp
  have e : (putS s k ⟨#[g]⟩).data.toList = s.data.toList.set k g := by
    rw [putS, ByteArray.data_append, ByteArray.data_append, Array.toList_append, Array.toList_append, ByteArray.data_extract, ByteArray.data_extract, Array.toList_extract, Array.toList_extract,
      List.extract_eq_take_drop, List.extract_eq_take_drop, List.set_eq_take_append_cons_drop, if_pos (by rw [hl]; exact hk), List.drop_zero, Nat.sub_zero, List.append_assoc, List.singleton_append,
      List.take_of_length_le (l := s.data.toList.drop (k + 1)) (by rw [List.length_drop, hl]; exact Nat.le_refl _)]
  rw [e, strOfNums_data]
  apply List.ext_getElem?
  intro i
  by_cases hi : i < s.size
  · rw [List.getElem?_map, pbL_at hi, List.getElem?_set]
    by_cases hik : i = k
    · subst hik
      rw [if_pos rfl, if_pos rfl, if_pos (by rw [hl]; exact hi)]
      simp
    · rw [if_neg hik, if_neg (fun h => hik h.symm), List.getElem?_eq_getElem (by rw [hl]; exact hi), byN, dif_pos hi]
      simp [ByteArray.getElem_eq_getElem_data]
  · rw [List.getElem?_eq_none (by rw [List.length_map, pbL_len]; omega), List.getElem?_eq_none (by rw [List.length_set, hl]; omega)]
set_option maxRecDepth 100000 in
set_option maxHeartbeats 1200000 in
theorem withSign_c (w : World) (s : ByteArray) (g : UInt8) (k : Nat) (R n : Int) (hn : n = (k : Int) + 1) (hk : k < s.size) (hs : s.size ≤ 48) :
    Calls Try.prog 84 #[.agg #[.string s, .int .i64 R], .int .i64 n, .int .u8 (g.toNat : Int)] w fun en w' => en = .returned (.agg #[.string (putS s k ⟨#[g]⟩), .int .i64 R]) ∧ Below w.heap.size w w' := by
  subst hn
  obtain ⟨W1, hW⟩ : ∃ W, (w.alloc (.cells #[.string s, .int .i64 R] 26)).alloc (.cells #[.string ⟨#[]⟩, .int .i64 0] 26) = W := ⟨_, rfl⟩
  have hb0 : W1.heap[w.heap.size]? = some (.cells #[.string s, .int .i64 R] 26 (0, 0)) := by rw [← hW]; exact (((Below.refl _ _).alloc (Nat.le_refl _) _).block w.heap.size (by simp)).trans (heap_alloc_new _ _)
  have hb1 : W1.heap[w.heap.size + 1]? = some (.cells #[.string ⟨#[]⟩, .int .i64 0] 26 (0, 0)) := by rw [← hW]; exact by simpa using heap_alloc_new (w.alloc (.cells #[.string s, .int .i64 R] 26)) (.cells #[.string ⟨#[]⟩, .int .i64 0] 26)
  have bW : Below w.heap.size w W1 := by rw [← hW]; exact ((Below.refl _ _).alloc (Nat.le_refl _) _).alloc (by simp) _
  have zW : W1.heap.size = w.heap.size + 2 := by rw [← hW]; simp
  obtain ⟨c, W, hcv0, b1, hB⟩ := bytes_new s W1
  have hcv := hcv0 _ Try.underlying9
  clear hcv0
  have r0 := (b1.block w.heap.size (by omega)).trans hb0
  have r1 := (b1.block (w.heap.size + 1) (by omega)).trans hb1
  have hc0 : W1.cell? ⟨w.heap.size, 0, none⟩ = some (.string s) := cell_of_row W1 w.heap.size 0 _ _ _ hb0
  have hx := (hB.2 k hk).1
  have hf := (hB.2 k hk).2
  obtain ⟨G, hG⟩ : ∃ G, W1.heap.size = G := ⟨_, rfl⟩
  rw [hG] at hcv hB b1 hx hf zW
  have hGn : G ≠ w.heap.size := by omega
  have hGn1 : G ≠ w.heap.size + 1 := by omega
  have e0 : (W.setCell ⟨G, k, none⟩ (.int .u8 (g.toNat : Int))).heap[w.heap.size]? = some (.cells #[.string s, .int .i64 R] 26 (0, 0)) := by
    rw [show (W.setCell ⟨G, k, none⟩ (.int .u8 (g.toNat : Int))).heap[w.heap.size]? = W.heap[w.heap.size]? from by simp only [World.setCell, Array.getElem?_modify]; rw [if_neg hGn]]
    exact r0
  have e1 : (W.setCell ⟨G, k, none⟩ (.int .u8 (g.toNat : Int))).heap[w.heap.size + 1]? = some (.cells #[.string ⟨#[]⟩, .int .i64 0] 26 (0, 0)) := by
    rw [show (W.setCell ⟨G, k, none⟩ (.int .u8 (g.toNat : Int))).heap[w.heap.size + 1]? = W.heap[w.heap.size + 1]? from by simp only [World.setCell, Array.getElem?_modify]; rw [if_neg hGn1]]
    exact r1
  have hcells : ∀ i, i < s.size → (W.setCell ⟨G, k, none⟩ (.int .u8 (g.toNat : Int))).cell? ⟨G, 0 + i, none⟩ = some (.int .u8 ((pbL s k g).getD i 0)) := fun i hi => by
    rw [Nat.zero_add, pbL_getD hi]
    by_cases hik : i = k
    · subst hik
      rw [if_pos rfl]
      exact World.cell?_setCell_same _ _ _ hx
    · rw [if_neg hik, World.cell?_setCell_other _ _ _ _ (by simp [hik])]
      exact (hB.2 i hi).1
  have hback := run_convert_bytes_arg (P := Try.prog) (W.setCell ⟨G, k, none⟩ (.int .u8 (g.toNat : Int))) 86 5 Try.underlying86 Try.underlying5 G 0 s.size c (pbL s k g) (pbL_len s k g) hcells
  rw [pbL_str hk] at hback
  replace hback := hback 9 Try.underlying9
  have BW : Below w.heap.size w (W.setCell ⟨G, k, none⟩ (.int .u8 (g.toNat : Int))) := (bW.trans (b1.mono (by omega))).setCell (by simp; omega) _
  obtain ⟨V, hV⟩ : ∃ V, W.setCell ⟨G, k, none⟩ (.int .u8 (g.toNat : Int)) = V := ⟨_, rfl⟩
  rw [hV] at e0 e1 hback BW
  have hd1 : V.cell? ⟨w.heap.size, 1, none⟩ = some (.int .i64 R) := cell_of_row V w.heap.size 1 _ _ _ e0
  have hr0 : V.cell? ⟨w.heap.size + 1, 0, none⟩ = some (.string ⟨#[]⟩) := cell_of_row V (w.heap.size + 1) 0 _ _ _ e1
  have hr1 : V.cell? ⟨w.heap.size + 1, 1, none⟩ = some (.int .i64 0) := cell_of_row V (w.heap.size + 1) 1 _ _ _ e1
  have hfr := fun k => frozen_of_row V (w.heap.size + 1) k _ _ e1
  have HB := Lib.hid BW
  have HW := Lib.hid hW
  have HV := Lib.hid hV
  have hki : (k : Int) < (s.size : Int) := by omega
  have hk0 : (0 : Int) ≤ (k : Int) := by omega
  obtain ⟨T, hT⟩ : ∃ T, putS s k ⟨#[g]⟩ = T := ⟨_, rfl⟩
  rw [hT] at hback ⊢
  clear hT hcells BW hW hV e0 e1 hb0 hb1 bW r0 r1 hB b1
  go_enter Try.func84, Try.ntmps84
  go_wp2_with fail
  rw [HW.out, hcv]
  clear HW hcv hG zW hGn hGn1
  go_wp2_with fail
  rw [HV.out, hback]
  go_wp2
  refine bodyPost_ret (v := .agg #[.string T, .int .i64 R]) (by rw [results_cell1 rfl]; go_simp) rfl ⟨rfl, ?_⟩
  exact (HB.out.setCell (Nat.le_add_right _ _) _).setCell (Nat.le_add_right _ _) _
theorem ws111 (w : World) (s : ByteArray) (k : Nat) (R : Int) (hk : k < s.size) (hs : s.size ≤ 48) :
    Calls Try.prog 84 #[.agg #[.string s, .int .i64 R], .int .i64 ((k : Int) + 1), .int .u8 111] w fun en w' => en = .returned (.agg #[.string (putS s k ⟨#[111]⟩), .int .i64 R]) ∧ Below w.heap.size w w' :=
  withSign_c w s 111 k R _ rfl hk hs
theorem ws120 (w : World) (s : ByteArray) (k : Nat) (R : Int) (hk : k < s.size) (hs : s.size ≤ 48) :
    Calls Try.prog 84 #[.agg #[.string s, .int .i64 R], .int .i64 ((k : Int) + 1), .int .u8 120] w fun en w' => en = .returned (.agg #[.string (putS s k ⟨#[120]⟩), .int .i64 R]) ∧ Below w.heap.size w w' :=
  withSign_c w s 120 k R _ rfl hk hs
theorem ws63 (w : World) (s : ByteArray) (k : Nat) (R : Int) (hk : k < s.size) (hs : s.size ≤ 48) :
    Calls Try.prog 84 #[.agg #[.string s, .int .i64 R], .int .i64 ((k : Int) + 1), .int .u8 63] w fun en w' => en = .returned (.agg #[.string (putS s k ⟨#[63]⟩), .int .i64 R]) ∧ Below w.heap.size w w' :=
  withSign_c w s 63 k R _ rfl hk hs
set_option maxRecDepth 100000 in
set_option maxHeartbeats 800000 in
theorem isNumberOf_c (w : World) (s : ByteArray) (R n : Int) (hs : (s.size : Int) ≤ 1000000000) :
    Calls Try.prog 83 #[.agg #[.string s, .int .i64 R], .int .i64 n] w fun en w' => en = .returned (.bool (nuB s R n)) ∧ Below w.heap.size w w' := by
  have Hp := Lib.hid (fun W => impl_IsPuzzle_c W s R hs)
  have b0 : Below w.heap.size w (w.alloc (.cells #[.string s, .int .i64 R] 26)) := (Below.refl _ _).alloc (Nat.le_refl _) _
  have c0 : (w.alloc (.cells #[.string s, .int .i64 R] 26)).cell? ⟨w.heap.size, 0, none⟩ = some (.string s) := by simp
  have z0 : w.heap.size < (w.alloc (.cells #[.string s, .int .i64 R] 26)).heap.size := by simp
  have B0 := Lib.hid b0
  have C0 := Lib.hid c0
  have Z0 := Lib.hid z0
  clear b0 c0 z0
  cases hg : pzB s R with
  | false =>
    rw [show nuB s R n = false by rw [nuB, hg]; rfl]
    rw [hg] at Hp
    clear hg
    go_enter Try.func83, Try.ntmps83
    go_wp2_with fail
    refine (Hp.out _).mono ?_
    rintro e w2 ⟨rfl, b2⟩
    go_wp2
    go_ret
    exact ⟨rfl, B0.out.trans (b2.mono B0.out.size)⟩
  | true =>
    rw [show nuB s R n = inB n 1 (s.size : Int) by rw [nuB, hg]; rfl]
    rw [hg] at Hp
    clear hg
    by_cases h1 : 1 ≤ n
    rotate_left
    · rw [inB_false.2 (show ¬ (1 ≤ n ∧ n ≤ (s.size : Int)) by omega)]
      go_enter Try.func83, Try.ntmps83
      go_wp2_with fail
      refine (Hp.out _).mono ?_
      rintro e w2 ⟨rfl, b2⟩
      go_wp2
      go_ret
      exact ⟨rfl, B0.out.trans (b2.mono B0.out.size)⟩
    by_cases h2 : n ≤ (s.size : Int)
    · rw [inB_true.2 ⟨h1, h2⟩]
      go_enter Try.func83, Try.ntmps83
      go_wp2_with fail
      refine (Hp.out _).mono ?_
      rintro e w2 ⟨rfl, b2⟩
      have hc := (b2.cell (p := ⟨w.heap.size, 0, none⟩) Z0.out).trans C0.out
      go_wp2
      go_ret
      exact ⟨rfl, B0.out.trans (b2.mono B0.out.size)⟩
    · rw [inB_false.2 (show ¬ (1 ≤ n ∧ n ≤ (s.size : Int)) by omega)]
      go_enter Try.func83, Try.ntmps83
      go_wp2_with fail
      refine (Hp.out _).mono ?_
      rintro e w2 ⟨rfl, b2⟩
      have hc := (b2.cell (p := ⟨w.heap.size, 0, none⟩) Z0.out).trans C0.out
      go_wp2
      go_ret
      exact ⟨by show Ending.returned (.bool (decide (n ≤ (s.size : Int)))) = _; rw [decide_eq_false (by omega)], B0.out.trans (b2.mono B0.out.size)⟩
set_option maxRecDepth 100000 in
set_option maxHeartbeats 1600000 in
theorem impl_ShowNumber_c (w : World) (s : ByteArray) (R n : Int) (l : Bool) (hs : (s.size : Int) ≤ 1000000000) :
    Calls Try.prog 49 #[.agg #[.string s, .int .i64 R], .int .i64 n, .bool l] w fun en w' => en = .returned (.tuple #[.agg #[.string (txS (shB s R n) s n (if l = true then ⟨#[111]⟩ else ⟨#[120]⟩)), .int .i64 (txN (shB s R n) R)], .bool (shB s R n)]) ∧ Below w.heap.size w w' := by
  have Hg := Lib.hid (fun W => isNumberOf_c W s R n hs)
  cases hg : nuB s R n with
  | false =>
    rw [show shB s R n = false by rw [shB, hg]; rfl]
    rw [show txS false s n (if l = true then ⟨#[111]⟩ else ⟨#[120]⟩) = ⟨#[]⟩ from rfl, show txN false R = 0 from rfl]
    rw [hg] at Hg
    clear hg
    go_enter Try.func49, Try.ntmps49
    go_wp2_with fail
    obtain ⟨W, hW⟩ : ∃ W, (w.alloc (.cells #[.string s, .int .i64 R] 26)).alloc (.cells #[.string ⟨#[]⟩, .int .i64 0] 26) = W := ⟨_, rfl⟩
    have hb0 : W.heap[w.heap.size]? = some (.cells #[.string s, .int .i64 R] 26 (0, 0)) := by rw [← hW]; exact (((Below.refl _ _).alloc (Nat.le_refl _) _).block w.heap.size (by simp)).trans (heap_alloc_new _ _)
    have hb1 : W.heap[w.heap.size + 1]? = some (.cells #[.string ⟨#[]⟩, .int .i64 0] 26 (0, 0)) := by rw [← hW]; exact by simpa using heap_alloc_new (w.alloc (.cells #[.string s, .int .i64 R] 26)) (.cells #[.string ⟨#[]⟩, .int .i64 0] 26)
    have bW : Below w.heap.size w W := by rw [← hW]; exact ((Below.refl _ _).alloc (Nat.le_refl _) _).alloc (by simp) _
    have zW : W.heap.size = w.heap.size + 2 := by rw [← hW]; simp
    rw [hW]
    clear hW
    refine (Hg.out _).mono ?_
    rintro e w2 ⟨rfl, b2⟩
    have hB0 := (b2.block w.heap.size (by omega)).trans hb0
    have hB1 := (b2.block (w.heap.size + 1) (by omega)).trans hb1
    have HB := Lib.hid (bW.trans (b2.mono (by omega)))
    have z2 : w.heap.size + 2 ≤ w2.heap.size := by have := b2.size; omega
    clear hb0 hb1 bW b2 zW
    have hc0 : w2.cell? ⟨w.heap.size, 0, none⟩ = some (.string s) := cell_of_row w2 w.heap.size 0 _ _ _ hB0
    have hc1 : w2.cell? ⟨w.heap.size, 1, none⟩ = some (.int .i64 R) := cell_of_row w2 w.heap.size 1 _ _ _ hB0
    have HB1 := Lib.hid hB1
    have Z2 := Lib.hid z2
    clear hB0 hB1 z2
    have hd0 : w2.cell? ⟨w.heap.size + 1, 0, none⟩ = some (.string ⟨#[]⟩) := cell_of_row w2 (w.heap.size + 1) 0 _ _ _ HB1.out
    have hd1 : w2.cell? ⟨w.heap.size + 1, 1, none⟩ = some (.int .i64 0) := cell_of_row w2 (w.heap.size + 1) 1 _ _ _ HB1.out
    have hf1 := fun k => frozen_of_row w2 (w.heap.size + 1) k _ _ HB1.out
    go_wp2
    refine bodyPost_ret (v := .tuple #[.agg #[.string ⟨#[]⟩, .int .i64 0], .bool false]) (by rw [results_cell_tmp rfl]; go_simp) rfl ⟨rfl, ?_⟩
    first | exact HB.out | exact (HB.out.setCell (Nat.le_add_right _ _) _).setCell (Nat.le_add_right _ _) _
  | true =>
    have hg2 : pzB s R = true ∧ inB n 1 (s.size : Int) = true := by rw [nuB, Bool.and_eq_true] at hg; exact hg
    have hs48 := (patB_parts (pzB_pat1 hg2.1)).2.1
    obtain ⟨i1, i2⟩ := inB_true.1 hg2.2
    obtain ⟨k, hk⟩ := Int.eq_ofNat_of_zero_le (show 0 ≤ n - 1 by omega)
    have hkn : n = (k : Int) + 1 := by omega
    subst hkn
    have hks : k < s.size := by omega
    have hu : uk s ((k : Int) + 1) = (byN s k == 63) := by rw [uk, show ((k : Int) + 1 - 1).toNat = k by omega]
    have hby := byN_at hks
    have hkt : ((k : Int) + 1 - 1).toNat = k := by omega
    have hBn : shB s R ((k : Int) + 1) = (byN s k == 63) := by rw [shB, hg, hu]; rfl
    obtain ⟨b, hb⟩ : ∃ b, byN s k = b := ⟨_, rfl⟩
    rw [hb] at hby hBn
    rw [hBn]
    rw [hg] at Hg
    have hx1 : (0 : Int) ≤ (k : Int) := by omega
    have hx2 : (k : Int) < (s.size : Int) := by omega
    clear hg hg2 hu hb hBn hk i1 i2
    by_cases h63 : b = 63
    · subst h63
      rw [show ((63 : Nat) == 63) = true from rfl]
      cases l with
      | true =>
        rw [show txS true s ((k : Int) + 1) (if true = true then ⟨#[111]⟩ else ⟨#[120]⟩) = putS s k ⟨#[111]⟩ by rw [txS, if_pos rfl, hkt]; rfl, show txN true R = R from rfl]
        clear hkt
        go_enter Try.func49, Try.ntmps49
        go_wp2_with fail
        obtain ⟨W, hW⟩ : ∃ W, (w.alloc (.cells #[.string s, .int .i64 R] 26)).alloc (.cells #[.string ⟨#[]⟩, .int .i64 0] 26) = W := ⟨_, rfl⟩
        have hb0 : W.heap[w.heap.size]? = some (.cells #[.string s, .int .i64 R] 26 (0, 0)) := by rw [← hW]; exact (((Below.refl _ _).alloc (Nat.le_refl _) _).block w.heap.size (by simp)).trans (heap_alloc_new _ _)
        have hb1 : W.heap[w.heap.size + 1]? = some (.cells #[.string ⟨#[]⟩, .int .i64 0] 26 (0, 0)) := by rw [← hW]; exact by simpa using heap_alloc_new (w.alloc (.cells #[.string s, .int .i64 R] 26)) (.cells #[.string ⟨#[]⟩, .int .i64 0] 26)
        have bW : Below w.heap.size w W := by rw [← hW]; exact ((Below.refl _ _).alloc (Nat.le_refl _) _).alloc (by simp) _
        have zW : W.heap.size = w.heap.size + 2 := by rw [← hW]; simp
        rw [hW]
        clear hW
        refine (Hg.out _).mono ?_
        rintro e w2 ⟨rfl, b2⟩
        have hB0 := (b2.block w.heap.size (by omega)).trans hb0
        have hB1 := (b2.block (w.heap.size + 1) (by omega)).trans hb1
        have HB := Lib.hid (bW.trans (b2.mono (by omega)))
        have z2 : w.heap.size + 2 ≤ w2.heap.size := by have := b2.size; omega
        clear hb0 hb1 bW b2 zW
        have hc0 : w2.cell? ⟨w.heap.size, 0, none⟩ = some (.string s) := cell_of_row w2 w.heap.size 0 _ _ _ hB0
        have hc1 : w2.cell? ⟨w.heap.size, 1, none⟩ = some (.int .i64 R) := cell_of_row w2 w.heap.size 1 _ _ _ hB0
        have HB1 := Lib.hid hB1
        have Z2 := Lib.hid z2
        clear hB0 hB1 z2
        go_wp2_with fail
        refine (ws111 w2 s k R hks hs48).mono ?_
        rintro e w5 ⟨rfl, b5⟩
        have hB5 := (b5.block (w.heap.size + 1) (by have := Z2.out; omega)).trans HB1.out
        have hd0 : w5.cell? ⟨w.heap.size + 1, 0, none⟩ = some (.string ⟨#[]⟩) := cell_of_row w5 (w.heap.size + 1) 0 _ _ _ hB5
        have hd1 : w5.cell? ⟨w.heap.size + 1, 1, none⟩ = some (.int .i64 0) := cell_of_row w5 (w.heap.size + 1) 1 _ _ _ hB5
        have hf1 := fun k => frozen_of_row w5 (w.heap.size + 1) k _ _ hB5
        have HB5 := Lib.hid (HB.out.trans (b5.mono HB.out.size))
        clear hB5 b5
        go_wp2
        refine bodyPost_ret (v := .tuple #[.agg #[.string (putS s k ⟨#[111]⟩), .int .i64 R], .bool true]) (by rw [results_cell_tmp rfl]; go_simp) rfl ⟨rfl, ?_⟩
        exact (HB5.out.setCell (Nat.le_add_right _ _) _).setCell (Nat.le_add_right _ _) _
      | false =>
        rw [show txS true s ((k : Int) + 1) (if false = true then ⟨#[111]⟩ else ⟨#[120]⟩) = putS s k ⟨#[120]⟩ by rw [txS, if_pos rfl, hkt]; rfl, show txN true R = R from rfl]
        clear hkt
        go_enter Try.func49, Try.ntmps49
        go_wp2_with fail
        obtain ⟨W, hW⟩ : ∃ W, (w.alloc (.cells #[.string s, .int .i64 R] 26)).alloc (.cells #[.string ⟨#[]⟩, .int .i64 0] 26) = W := ⟨_, rfl⟩
        have hb0 : W.heap[w.heap.size]? = some (.cells #[.string s, .int .i64 R] 26 (0, 0)) := by rw [← hW]; exact (((Below.refl _ _).alloc (Nat.le_refl _) _).block w.heap.size (by simp)).trans (heap_alloc_new _ _)
        have hb1 : W.heap[w.heap.size + 1]? = some (.cells #[.string ⟨#[]⟩, .int .i64 0] 26 (0, 0)) := by rw [← hW]; exact by simpa using heap_alloc_new (w.alloc (.cells #[.string s, .int .i64 R] 26)) (.cells #[.string ⟨#[]⟩, .int .i64 0] 26)
        have bW : Below w.heap.size w W := by rw [← hW]; exact ((Below.refl _ _).alloc (Nat.le_refl _) _).alloc (by simp) _
        have zW : W.heap.size = w.heap.size + 2 := by rw [← hW]; simp
        rw [hW]
        clear hW
        refine (Hg.out _).mono ?_
        rintro e w2 ⟨rfl, b2⟩
        have hB0 := (b2.block w.heap.size (by omega)).trans hb0
        have hB1 := (b2.block (w.heap.size + 1) (by omega)).trans hb1
        have HB := Lib.hid (bW.trans (b2.mono (by omega)))
        have z2 : w.heap.size + 2 ≤ w2.heap.size := by have := b2.size; omega
        clear hb0 hb1 bW b2 zW
        have hc0 : w2.cell? ⟨w.heap.size, 0, none⟩ = some (.string s) := cell_of_row w2 w.heap.size 0 _ _ _ hB0
        have hc1 : w2.cell? ⟨w.heap.size, 1, none⟩ = some (.int .i64 R) := cell_of_row w2 w.heap.size 1 _ _ _ hB0
        have HB1 := Lib.hid hB1
        have Z2 := Lib.hid z2
        clear hB0 hB1 z2
        go_wp2_with fail
        refine (ws120 w2 s k R hks hs48).mono ?_
        rintro e w5 ⟨rfl, b5⟩
        have hB5 := (b5.block (w.heap.size + 1) (by have := Z2.out; omega)).trans HB1.out
        have hd0 : w5.cell? ⟨w.heap.size + 1, 0, none⟩ = some (.string ⟨#[]⟩) := cell_of_row w5 (w.heap.size + 1) 0 _ _ _ hB5
        have hd1 : w5.cell? ⟨w.heap.size + 1, 1, none⟩ = some (.int .i64 0) := cell_of_row w5 (w.heap.size + 1) 1 _ _ _ hB5
        have hf1 := fun k => frozen_of_row w5 (w.heap.size + 1) k _ _ hB5
        have HB5 := Lib.hid (HB.out.trans (b5.mono HB.out.size))
        clear hB5 b5
        go_wp2
        refine bodyPost_ret (v := .tuple #[.agg #[.string (putS s k ⟨#[120]⟩), .int .i64 R], .bool true]) (by rw [results_cell_tmp rfl]; go_simp) rfl ⟨rfl, ?_⟩
        exact (HB5.out.setCell (Nat.le_add_right _ _) _).setCell (Nat.le_add_right _ _) _
    · have hb1 : ((b : Int) == 63) = false := beq_eq_false_iff_ne.2 (by omega)
      have hb2 : ((b : Int) != 63) = true := by rw [bne, hb1]; rfl
      rw [beq_eq_false_iff_ne.2 h63]
      rw [show txS false s ((k : Int) + 1) (if l = true then ⟨#[111]⟩ else ⟨#[120]⟩) = ⟨#[]⟩ from rfl, show txN false R = 0 from rfl]
      clear hkt
      go_enter Try.func49, Try.ntmps49
      go_wp2_with fail
      obtain ⟨W, hW⟩ : ∃ W, (w.alloc (.cells #[.string s, .int .i64 R] 26)).alloc (.cells #[.string ⟨#[]⟩, .int .i64 0] 26) = W := ⟨_, rfl⟩
      have hb0 : W.heap[w.heap.size]? = some (.cells #[.string s, .int .i64 R] 26 (0, 0)) := by rw [← hW]; exact (((Below.refl _ _).alloc (Nat.le_refl _) _).block w.heap.size (by simp)).trans (heap_alloc_new _ _)
      have hb1 : W.heap[w.heap.size + 1]? = some (.cells #[.string ⟨#[]⟩, .int .i64 0] 26 (0, 0)) := by rw [← hW]; exact by simpa using heap_alloc_new (w.alloc (.cells #[.string s, .int .i64 R] 26)) (.cells #[.string ⟨#[]⟩, .int .i64 0] 26)
      have bW : Below w.heap.size w W := by rw [← hW]; exact ((Below.refl _ _).alloc (Nat.le_refl _) _).alloc (by simp) _
      have zW : W.heap.size = w.heap.size + 2 := by rw [← hW]; simp
      rw [hW]
      clear hW
      refine (Hg.out _).mono ?_
      rintro e w2 ⟨rfl, b2⟩
      have hB0 := (b2.block w.heap.size (by omega)).trans hb0
      have hB1 := (b2.block (w.heap.size + 1) (by omega)).trans hb1
      have HB := Lib.hid (bW.trans (b2.mono (by omega)))
      have z2 : w.heap.size + 2 ≤ w2.heap.size := by have := b2.size; omega
      clear hb0 hb1 bW b2 zW
      have hc0 : w2.cell? ⟨w.heap.size, 0, none⟩ = some (.string s) := cell_of_row w2 w.heap.size 0 _ _ _ hB0
      have hc1 : w2.cell? ⟨w.heap.size, 1, none⟩ = some (.int .i64 R) := cell_of_row w2 w.heap.size 1 _ _ _ hB0
      have HB1 := Lib.hid hB1
      have Z2 := Lib.hid z2
      clear hB0 hB1 z2
      have hd0 : w2.cell? ⟨w.heap.size + 1, 0, none⟩ = some (.string ⟨#[]⟩) := cell_of_row w2 (w.heap.size + 1) 0 _ _ _ HB1.out
      have hd1 : w2.cell? ⟨w.heap.size + 1, 1, none⟩ = some (.int .i64 0) := cell_of_row w2 (w.heap.size + 1) 1 _ _ _ HB1.out
      have hf1 := fun k => frozen_of_row w2 (w.heap.size + 1) k _ _ HB1.out
      go_wp2
      refine bodyPost_ret (v := .tuple #[.agg #[.string ⟨#[]⟩, .int .i64 0], .bool false]) (by rw [results_cell_tmp rfl]; go_simp) rfl ⟨rfl, ?_⟩
      first | exact HB.out | exact (HB.out.setCell (Nat.le_add_right _ _) _).setCell (Nat.le_add_right _ _) _
set_option maxRecDepth 100000 in
set_option maxHeartbeats 1600000 in
theorem impl_HideNumber_c (w : World) (s : ByteArray) (R n : Int) (hs : (s.size : Int) ≤ 1000000000) :
    Calls Try.prog 52 #[.agg #[.string s, .int .i64 R], .int .i64 n] w fun en w' => en = .returned (.tuple #[.agg #[.string (txS (hdB s R n) s n ⟨#[63]⟩), .int .i64 (txN (hdB s R n) R)], .bool (hdB s R n)]) ∧ Below w.heap.size w w' := by
  have Hg := Lib.hid (fun W => isNumberOf_c W s R n hs)
  cases hg : nuB s R n with
  | false =>
    rw [show hdB s R n = false by rw [hdB, hg]; rfl]
    rw [show txS false s n ⟨#[63]⟩ = ⟨#[]⟩ from rfl, show txN false R = 0 from rfl]
    rw [hg] at Hg
    clear hg
    go_enter Try.func52, Try.ntmps52
    go_wp2_with fail
    obtain ⟨W, hW⟩ : ∃ W, (w.alloc (.cells #[.string s, .int .i64 R] 26)).alloc (.cells #[.string ⟨#[]⟩, .int .i64 0] 26) = W := ⟨_, rfl⟩
    have hb0 : W.heap[w.heap.size]? = some (.cells #[.string s, .int .i64 R] 26 (0, 0)) := by rw [← hW]; exact (((Below.refl _ _).alloc (Nat.le_refl _) _).block w.heap.size (by simp)).trans (heap_alloc_new _ _)
    have hb1 : W.heap[w.heap.size + 1]? = some (.cells #[.string ⟨#[]⟩, .int .i64 0] 26 (0, 0)) := by rw [← hW]; exact by simpa using heap_alloc_new (w.alloc (.cells #[.string s, .int .i64 R] 26)) (.cells #[.string ⟨#[]⟩, .int .i64 0] 26)
    have bW : Below w.heap.size w W := by rw [← hW]; exact ((Below.refl _ _).alloc (Nat.le_refl _) _).alloc (by simp) _
    have zW : W.heap.size = w.heap.size + 2 := by rw [← hW]; simp
    rw [hW]
    clear hW
    refine (Hg.out _).mono ?_
    rintro e w2 ⟨rfl, b2⟩
    have hB0 := (b2.block w.heap.size (by omega)).trans hb0
    have hB1 := (b2.block (w.heap.size + 1) (by omega)).trans hb1
    have HB := Lib.hid (bW.trans (b2.mono (by omega)))
    have z2 : w.heap.size + 2 ≤ w2.heap.size := by have := b2.size; omega
    clear hb0 hb1 bW b2 zW
    have hc0 : w2.cell? ⟨w.heap.size, 0, none⟩ = some (.string s) := cell_of_row w2 w.heap.size 0 _ _ _ hB0
    have hc1 : w2.cell? ⟨w.heap.size, 1, none⟩ = some (.int .i64 R) := cell_of_row w2 w.heap.size 1 _ _ _ hB0
    have HB1 := Lib.hid hB1
    have Z2 := Lib.hid z2
    clear hB0 hB1 z2
    have hd0 : w2.cell? ⟨w.heap.size + 1, 0, none⟩ = some (.string ⟨#[]⟩) := cell_of_row w2 (w.heap.size + 1) 0 _ _ _ HB1.out
    have hd1 : w2.cell? ⟨w.heap.size + 1, 1, none⟩ = some (.int .i64 0) := cell_of_row w2 (w.heap.size + 1) 1 _ _ _ HB1.out
    have hf1 := fun k => frozen_of_row w2 (w.heap.size + 1) k _ _ HB1.out
    go_wp2
    refine bodyPost_ret (v := .tuple #[.agg #[.string ⟨#[]⟩, .int .i64 0], .bool false]) (by rw [results_cell_tmp rfl]; go_simp) rfl ⟨rfl, ?_⟩
    first | exact HB.out | exact (HB.out.setCell (Nat.le_add_right _ _) _).setCell (Nat.le_add_right _ _) _
  | true =>
    have hg2 : pzB s R = true ∧ inB n 1 (s.size : Int) = true := by rw [nuB, Bool.and_eq_true] at hg; exact hg
    have hs48 := (patB_parts (pzB_pat1 hg2.1)).2.1
    obtain ⟨i1, i2⟩ := inB_true.1 hg2.2
    obtain ⟨k, hk⟩ := Int.eq_ofNat_of_zero_le (show 0 ≤ n - 1 by omega)
    have hkn : n = (k : Int) + 1 := by omega
    subst hkn
    have hks : k < s.size := by omega
    have hu : uk s ((k : Int) + 1) = (byN s k == 63) := by rw [uk, show ((k : Int) + 1 - 1).toNat = k by omega]
    have hby := byN_at hks
    have hkt : ((k : Int) + 1 - 1).toNat = k := by omega
    have hBn : hdB s R ((k : Int) + 1) = !(byN s k == 63) := by rw [hdB, hg, hu]; rfl
    obtain ⟨b, hb⟩ : ∃ b, byN s k = b := ⟨_, rfl⟩
    rw [hb] at hby hBn
    rw [hBn]
    rw [hg] at Hg
    have hx1 : (0 : Int) ≤ (k : Int) := by omega
    have hx2 : (k : Int) < (s.size : Int) := by omega
    clear hg hg2 hu hb hBn hk i1 i2
    by_cases h63 : b = 63
    · subst h63
      rw [show (!((63 : Nat) == 63)) = false from rfl]
      rw [show txS false s ((k : Int) + 1) ⟨#[63]⟩ = ⟨#[]⟩ from rfl, show txN false R = 0 from rfl]
      clear hkt
      go_enter Try.func52, Try.ntmps52
      go_wp2_with fail
      obtain ⟨W, hW⟩ : ∃ W, (w.alloc (.cells #[.string s, .int .i64 R] 26)).alloc (.cells #[.string ⟨#[]⟩, .int .i64 0] 26) = W := ⟨_, rfl⟩
      have hb0 : W.heap[w.heap.size]? = some (.cells #[.string s, .int .i64 R] 26 (0, 0)) := by rw [← hW]; exact (((Below.refl _ _).alloc (Nat.le_refl _) _).block w.heap.size (by simp)).trans (heap_alloc_new _ _)
      have hb1 : W.heap[w.heap.size + 1]? = some (.cells #[.string ⟨#[]⟩, .int .i64 0] 26 (0, 0)) := by rw [← hW]; exact by simpa using heap_alloc_new (w.alloc (.cells #[.string s, .int .i64 R] 26)) (.cells #[.string ⟨#[]⟩, .int .i64 0] 26)
      have bW : Below w.heap.size w W := by rw [← hW]; exact ((Below.refl _ _).alloc (Nat.le_refl _) _).alloc (by simp) _
      have zW : W.heap.size = w.heap.size + 2 := by rw [← hW]; simp
      rw [hW]
      clear hW
      refine (Hg.out _).mono ?_
      rintro e w2 ⟨rfl, b2⟩
      have hB0 := (b2.block w.heap.size (by omega)).trans hb0
      have hB1 := (b2.block (w.heap.size + 1) (by omega)).trans hb1
      have HB := Lib.hid (bW.trans (b2.mono (by omega)))
      have z2 : w.heap.size + 2 ≤ w2.heap.size := by have := b2.size; omega
      clear hb0 hb1 bW b2 zW
      have hc0 : w2.cell? ⟨w.heap.size, 0, none⟩ = some (.string s) := cell_of_row w2 w.heap.size 0 _ _ _ hB0
      have hc1 : w2.cell? ⟨w.heap.size, 1, none⟩ = some (.int .i64 R) := cell_of_row w2 w.heap.size 1 _ _ _ hB0
      have HB1 := Lib.hid hB1
      have Z2 := Lib.hid z2
      clear hB0 hB1 z2
      have hd0 : w2.cell? ⟨w.heap.size + 1, 0, none⟩ = some (.string ⟨#[]⟩) := cell_of_row w2 (w.heap.size + 1) 0 _ _ _ HB1.out
      have hd1 : w2.cell? ⟨w.heap.size + 1, 1, none⟩ = some (.int .i64 0) := cell_of_row w2 (w.heap.size + 1) 1 _ _ _ HB1.out
      have hf1 := fun k => frozen_of_row w2 (w.heap.size + 1) k _ _ HB1.out
      go_wp2
      refine bodyPost_ret (v := .tuple #[.agg #[.string ⟨#[]⟩, .int .i64 0], .bool false]) (by rw [results_cell_tmp rfl]; go_simp) rfl ⟨rfl, ?_⟩
      first | exact HB.out | exact (HB.out.setCell (Nat.le_add_right _ _) _).setCell (Nat.le_add_right _ _) _
    · have hb1 : ((b : Int) == 63) = false := beq_eq_false_iff_ne.2 (by omega)
      have hb2 : ((b : Int) != 63) = true := by rw [bne, hb1]; rfl
      rw [beq_eq_false_iff_ne.2 h63]
      rw [show (!false) = true from rfl, show txS true s ((k : Int) + 1) ⟨#[63]⟩ = putS s k ⟨#[63]⟩ by rw [txS, if_pos rfl, hkt], show txN true R = R from rfl]
      clear hkt
      go_enter Try.func52, Try.ntmps52
      go_wp2_with fail
      obtain ⟨W, hW⟩ : ∃ W, (w.alloc (.cells #[.string s, .int .i64 R] 26)).alloc (.cells #[.string ⟨#[]⟩, .int .i64 0] 26) = W := ⟨_, rfl⟩
      have hb0 : W.heap[w.heap.size]? = some (.cells #[.string s, .int .i64 R] 26 (0, 0)) := by rw [← hW]; exact (((Below.refl _ _).alloc (Nat.le_refl _) _).block w.heap.size (by simp)).trans (heap_alloc_new _ _)
      have hb1 : W.heap[w.heap.size + 1]? = some (.cells #[.string ⟨#[]⟩, .int .i64 0] 26 (0, 0)) := by rw [← hW]; exact by simpa using heap_alloc_new (w.alloc (.cells #[.string s, .int .i64 R] 26)) (.cells #[.string ⟨#[]⟩, .int .i64 0] 26)
      have bW : Below w.heap.size w W := by rw [← hW]; exact ((Below.refl _ _).alloc (Nat.le_refl _) _).alloc (by simp) _
      have zW : W.heap.size = w.heap.size + 2 := by rw [← hW]; simp
      rw [hW]
      clear hW
      refine (Hg.out _).mono ?_
      rintro e w2 ⟨rfl, b2⟩
      have hB0 := (b2.block w.heap.size (by omega)).trans hb0
      have hB1 := (b2.block (w.heap.size + 1) (by omega)).trans hb1
      have HB := Lib.hid (bW.trans (b2.mono (by omega)))
      have z2 : w.heap.size + 2 ≤ w2.heap.size := by have := b2.size; omega
      clear hb0 hb1 bW b2 zW
      have hc0 : w2.cell? ⟨w.heap.size, 0, none⟩ = some (.string s) := cell_of_row w2 w.heap.size 0 _ _ _ hB0
      have hc1 : w2.cell? ⟨w.heap.size, 1, none⟩ = some (.int .i64 R) := cell_of_row w2 w.heap.size 1 _ _ _ hB0
      have HB1 := Lib.hid hB1
      have Z2 := Lib.hid z2
      clear hB0 hB1 z2
      go_wp2_with fail
      refine (ws63 w2 s k R hks hs48).mono ?_
      rintro e w5 ⟨rfl, b5⟩
      have hB5 := (b5.block (w.heap.size + 1) (by have := Z2.out; omega)).trans HB1.out
      have hd0 : w5.cell? ⟨w.heap.size + 1, 0, none⟩ = some (.string ⟨#[]⟩) := cell_of_row w5 (w.heap.size + 1) 0 _ _ _ hB5
      have hd1 : w5.cell? ⟨w.heap.size + 1, 1, none⟩ = some (.int .i64 0) := cell_of_row w5 (w.heap.size + 1) 1 _ _ _ hB5
      have hf1 := fun k => frozen_of_row w5 (w.heap.size + 1) k _ _ hB5
      have HB5 := Lib.hid (HB.out.trans (b5.mono HB.out.size))
      clear hB5 b5
      go_wp2
      refine bodyPost_ret (v := .tuple #[.agg #[.string (putS s k ⟨#[63]⟩), .int .i64 R], .bool true]) (by rw [results_cell_tmp rfl]; go_simp) rfl ⟨rfl, ?_⟩
      exact (HB5.out.setCell (Nat.le_add_right _ _) _).setCell (Nat.le_add_right _ _) _

end Go.Proofs.Ytbgoimhgmgldpaa
