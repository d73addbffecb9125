import Derived.Test.YtjoklbkbggdlgaaE1
import Derived.IntWalk
import Derived.Laws.BitsLemmas
import Derived.Laws.Bits64
import Derived.RangeFuncBox
namespace Go.Proofs.Ytjoklbkbggdlgaa
open Go.RowKit
set_option linter.unusedVariables false
set_option linter.unusedSimpArgs false

theorem grown_drewN (w : World) (n : Nat) (r : Option Nat) : w.grownBy (w.drewN n) r := ⟨rfl, rfl, rfl, Nat.le_refl _, fun _ _ _ => rfl⟩
theorem grown_set (W : World) (b i : Nat) (v : Value) : W.grownBy (W.setCell ⟨b, i, none⟩ v) (some b) :=
  ⟨rfl, rfl, rfl, (KeepsWalks.setCell W _ v).size, fun k _ hk => heap_setCell_other W ⟨b, i, none⟩ k v (fun e => hk (by rw [e]))⟩
theorem and255 (Z : Int) : ∃ x : Nat, wrap64 (bits .and .u64 (IntKind.u64.wrap Z / 1099511627776) 255) = (x : Int) ∧ x ≤ 255 := by
  have hz : 0 ≤ IntKind.u64.wrap Z ∧ IntKind.u64.wrap Z < 18446744073709551616 := by rw [IntKind.wrap_u64]; omega
  have h := bits_mask .u64 63 (by decide) (fun n h0 h1 => by rw [IntKind.wrap_u64]; omega) 8 (by decide) (IntKind.u64.wrap Z / 1099511627776) (by omega) (by omega)
  rw [show ((2 : Int) ^ 8 - 1) = 255 by decide, show ((2 : Int) ^ 8) = 256 by decide] at h
  rw [h]
  refine ⟨(IntKind.u64.wrap Z / 1099511627776 % 256).toNat, ?_, by omega⟩
  rw [IntWalk.wrap64_in _ (by omega)]
  omega
/-- A slice of bytes, read; it lies below the block L. -/
def Byt (w : World) (L : Nat) (A : Option Addr) (n : Nat) : Prop :=
  0 < n → ∃ b off, A = some ⟨b, off, none⟩ ∧ b < L ∧ ∀ k, k < n → ∃ x : Nat, x ≤ 255 ∧ w.cell? ⟨b, off + k, none⟩ = some (.int .u8 (x : Int))
theorem Byt.below {w w' : World} {L n : Nat} {A : Option Addr} (h : Byt w L A n) (hb : Below L w w') : Byt w' L A n := fun hp => by
  obtain ⟨b, off, e, hL, hc⟩ := h hp
  refine ⟨b, off, e, hL, fun k hk => ?_⟩
  obtain ⟨x, hx, hy⟩ := hc k hk
  exact ⟨x, hx, (hb.cell (p := ⟨b, off + k, none⟩) hL).trans hy⟩
theorem Byt.mono {w : World} {L L' n : Nat} {A : Option Addr} (h : Byt w L A n) (hl : L ≤ L') : Byt w L' A n := fun hp => by
  obtain ⟨b, off, e, hL, hc⟩ := h hp
  exact ⟨b, off, e, by omega, hc⟩
theorem heap_drewN (w : World) (n : Nat) : (w.drewN n).heap = w.heap := by induction n generalizing w with | zero => rfl | succ n ih => exact ih _
/-- A cursor at bp over bytes; k bytes are drawn. -/
def Cur (w : World) (bp : Nat) (A : Option Addr) (n c k : Nat) : Prop :=
  ∃ s : Int, w.heap[bp]? = some (.cells #[.slice A n c, .int .i64 (k : Int), .int .u64 s] 57 (0, 0)) ∧ Byt w bp A n
theorem cur_cells {w : World} {bp : Nat} {v0 v1 v2 : Value} {t : TypeId} (h : w.heap[bp]? = some (.cells #[v0, v1, v2] t (0, 0))) :
    w.cell? ⟨bp, 0, none⟩ = some v0 ∧ w.cell? ⟨bp, 1, none⟩ = some v1 ∧ w.cell? ⟨bp, 2, none⟩ = some v2 ∧ w.frozen? ⟨bp, 1, none⟩ = false ∧ w.frozen? ⟨bp, 2, none⟩ = false := by
  refine ⟨?_, ?_, ?_, ?_, ?_⟩ <;> simp [World.cell?, World.frozen?, h]
theorem cur_set {w : World} {bp : Nat} {v0 v1 v2 : Value} {t : TypeId} (h : w.heap[bp]? = some (.cells #[v0, v1, v2] t (0, 0))) (q : Nat) (u1 u2 : Value) :
    (((w.drewN q).setCell ⟨bp, 1, none⟩ u1).setCell ⟨bp, 2, none⟩ u2).heap[bp]? = some (.cells #[v0, u1, u2] t (0, 0)) :=
  heap_setCell_same _ bp 2 #[v0, u1, v2] t u2 (heap_setCell_same _ bp 1 #[v0, v1, v2] t u1 (by rw [heap_drewN]; exact h))
theorem Cur.lt {w : World} {bp : Nat} {A : Option Addr} {n c k : Nat} (h : Cur w bp A n c k) : bp < w.heap.size := by
  obtain ⟨s, h, _⟩ := h
  exact (Array.getElem?_eq_some_iff.1 h).1
theorem grown_below {w w' : World} {bp : Nat} (h : w.grownBy w' (some bp)) (hb : bp ≤ w.heap.size) : Below bp w w' := (Below.refl bp w).grown h hb (fun k hk => by injection hk with hk; omega)
/-- What the drawing of a byte leaves. -/
theorem cur_next {w : World} {bp n c k : Nat} {A : Option Addr} {s : Int} (hh : w.heap[bp]? = some (.cells #[.slice A n c, .int .i64 (k : Int), .int .u64 s] 57 (0, 0))) (hB : Byt w bp A n) (q1 q2 : Nat) (S : Int) :
    Cur ((((w.drewN q1).setCell ⟨bp, 1, none⟩ (.int .i64 ((k : Int) + 1))).setCell ⟨bp, 2, none⟩ (.int .u64 S)).drewN q2) bp A n c (k + 1) ∧
    w.grownBy ((((w.drewN q1).setCell ⟨bp, 1, none⟩ (.int .i64 ((k : Int) + 1))).setCell ⟨bp, 2, none⟩ (.int .u64 S)).drewN q2) (some bp) := by
  have hg : w.grownBy ((((w.drewN q1).setCell ⟨bp, 1, none⟩ (.int .i64 ((k : Int) + 1))).setCell ⟨bp, 2, none⟩ (.int .u64 S)).drewN q2) (some bp) :=
    grown_trans (grown_trans (grown_trans (grown_drewN w q1 _) (grown_set _ bp 1 _)) (grown_set _ bp 2 _)) (grown_drewN _ q2 _)
  exact ⟨⟨S, cur_set hh q1 _ _, hB.below (grown_below hg (Nat.le_of_lt (Array.getElem?_eq_some_iff.1 hh).1))⟩, hg⟩

set_option maxRecDepth 100000 in
set_option maxHeartbeats 1000000 in
theorem next_c (w : World) (bp : Nat) (A : Option Addr) (n c k : Nat) (h : Cur w bp A n c k) (hn : n ≤ 4294967296) (hk : k ≤ 4294967296) :
    Calls Try.prog 79 #[.pointer (some ⟨bp, 0, none⟩)] w fun en w' => (∃ x : Nat, en = .returned (.int .i64 (x : Int)) ∧ x ≤ 255) ∧ Cur w' bp A n c (k + 1) ∧ w.grownBy w' (some bp) := by
  obtain ⟨s, hh, hB⟩ := h
  have HB := Lib.hid hB
  have HN := Lib.hid (fun q1 q2 S => cur_next hh hB q1 q2 S)
  obtain ⟨h0, h1, h2, f1, f2⟩ := cur_cells hh
  clear hB hh
  by_cases hlt : k < n
  · obtain ⟨b, off, rfl, hb, hc⟩ := HB.out (by omega)
    obtain ⟨x, hx, hcx⟩ := hc k hlt
    have hki : (k : Int) < (n : Int) := by omega
    have hke : (k : Int) + 1 ≤ (n : Int) := by omega
    have hne : bp ≠ b := by omega
    clear hc
    go_enter Try.func79, Try.ntmps79
    go_wp2_with fail
    go_quiet (fail)
    go_wp2_with fail
    go_quiet (fail)
    go_wp2_with fail
    go_quiet (fail)
    go_wp2
    go_ret
    exact ⟨⟨x, rfl, hx⟩, HN.out _ _ _⟩
  · have hki : ¬ ((k : Int) < (n : Int)) := by omega
    have hke : ¬ ((k : Int) + 1 ≤ (n : Int)) := by omega
    go_enter Try.func79, Try.ntmps79
    go_wp2_with fail
    go_quiet (fail)
    go_wp2_with fail
    go_quiet (fail)
    go_wp2
    go_ret
    obtain ⟨x, e, hx⟩ := and255 (IntKind.u64.wrap (IntKind.u64.wrap (s * 6364136223846793005)) + 1442695040888963407)
    exact ⟨⟨x, by rw [← e]; rfl, hx⟩, HN.out _ _ _⟩
set_option maxRecDepth 100000 in
set_option maxHeartbeats 1000000 in
theorem pick_c (w : World) (bp : Nat) (A : Option Addr) (n c k m : Nat) (h : Cur w bp A n c k) (hn : n ≤ 4294967296) (hk : k ≤ 4294967290) (hm : 1 ≤ m) (hm9 : m ≤ 1048576) :
    Calls Try.prog 59 #[.pointer (some ⟨bp, 0, none⟩), .int .i64 (m : Int)] w fun en w' => (∃ x : Nat, en = .returned (.int .i64 (x : Int)) ∧ x < m) ∧ (∃ k', k' ≤ k + 2 ∧ Cur w' bp A n c k') ∧ w.grownBy w' (some bp) := by
  have HC := Lib.hid h
  clear h
  by_cases h1 : m ≤ 1
  · have hi : (m : Int) ≤ 1 := by omega
    go_enter Try.func59, Try.ntmps59
    go_wp2
    go_ret
    exact ⟨⟨0, rfl, by omega⟩, ⟨k, by omega, HC.out⟩, World.grownBy.refl _ _⟩
  · have hi : ¬ ((m : Int) ≤ 1) := by omega
    have hm0 : ((m : Int) == 0) = false := by simp; omega
    by_cases h2 : 200 < m
    · have hj : (200 : Int) < (m : Int) := by omega
      go_enter Try.func59, Try.ntmps59
      go_wp2_with fail
      refine (next_c _ bp A n c k HC.out hn (by omega)).mono ?_
      rintro e w1 ⟨⟨x, rfl, hx⟩, hc1, g1⟩
      have HC1 := Lib.hid hc1
      clear hc1
      go_wp2_with fail
      refine (next_c _ bp A n c (k + 1) HC1.out hn (by omega)).mono ?_
      rintro e w2 ⟨⟨y, rfl, hy⟩, hc2, g2⟩
      have HC2 := Lib.hid hc2
      clear hc2
      go_wp2
      go_ret
      exact ⟨⟨(x * 256 + y) % m, by simp, Nat.mod_lt _ (by omega)⟩, ⟨k + 2, by omega, HC2.out⟩, grown_trans g1 g2⟩
    · have hj : ¬ ((200 : Int) < (m : Int)) := by omega
      go_enter Try.func59, Try.ntmps59
      go_wp2_with fail
      refine (next_c _ bp A n c k HC.out hn (by omega)).mono ?_
      rintro e w1 ⟨⟨x, rfl, hx⟩, hc1, g1⟩
      have HC1 := Lib.hid hc1
      clear hc1
      go_wp2
      go_ret
      exact ⟨⟨x % m, by simp, Nat.mod_lt _ (by omega)⟩, ⟨k + 1, by omega, HC1.out⟩, g1⟩
set_option maxRecDepth 100000 in
theorem one_cur_c (w : World) (bp : Nat) (A : Option Addr) (n c k m : Nat) (h : Cur w bp A n c k) (hn : n ≤ 4294967296) (hk : k ≤ 4294967290) (hm : 1 ≤ m) (hm9 : m ≤ 1048576) :
    Calls Try.prog 57 #[.pointer (some ⟨bp, 0, none⟩), .int .i64 (m : Int)] w fun en w' => (∃ b : Bool, en = .returned (.bool b)) ∧ (∃ k', k' ≤ k + 2 ∧ Cur w' bp A n c k') ∧ w.grownBy w' (some bp) := by
  have HC := Lib.hid h
  clear h
  go_enter Try.func57, Try.ntmps57
  go_wp2_with fail
  refine (pick_c _ bp A n c k m HC.out hn hk hm hm9).mono ?_
  rintro e w1 ⟨⟨x, rfl, hx⟩, ⟨k', hk', hc1⟩, g1⟩
  have HC1 := Lib.hid hc1
  clear hc1
  go_wp2
  go_ret
  exact ⟨⟨_, rfl⟩, ⟨k', hk', HC1.out⟩, g1⟩

theorem heap_new (w : World) (o : Obj) : (w.alloc o).heap[w.heap.size]? = some o := by show (w.heap.push o)[w.heap.size]? = some o; simp
theorem Il_alloc (w : World) (xs : List Int) (t : TypeId) (arr : Array Value) (h : arr = (xs.map (Value.int .i64)).toArray) : Il (w.alloc (.cells arr t)) (some ⟨w.heap.size, 0, none⟩) xs := fun hp => by
  subst h
  refine ⟨w.heap.size, 0, rfl, by simp, fun k hk => ?_⟩
  show (match (w.alloc _).heap[w.heap.size]? with | some (.cells c _ _) => c[0 + k]? | _ => none) = _
  rw [heap_new]
  simp [ivL, hk]
theorem Il_new (w : World) (xs : List Int) (t : TypeId) (arr : Array Value) (g : Nat) (hg : g = w.heap.size) (h : arr = (xs.map (Value.int .i64)).toArray) : Il (w.alloc (.cells arr t)) (some ⟨g, 0, none⟩) xs := by subst hg; exact Il_alloc w xs t arr h
theorem Cur.alloc {w : World} {bp n c k : Nat} {A : Option Addr} (h : Cur w bp A n c k) (o : Obj) : Cur (w.alloc o) bp A n c k := by
  obtain ⟨s, hh, hB⟩ := h
  have hlt := (Array.getElem?_eq_some_iff.1 hh).1
  exact ⟨s, ((World.grownBy_alloc w o none).block bp hlt (by simp)).trans hh, hB.below ((Below.refl bp w).grown (World.grownBy_alloc w o none) (Nat.le_of_lt hlt) (fun k hk => by simp at hk))⟩
set_option maxRecDepth 100000 in
theorem among_c (w : World) (bp : Nat) (A : Option Addr) (n c k g m d : Nat) (xs : List Int) (h : Cur w bp A n c k) (hX : Il w (some ⟨g, 0, none⟩) xs) (hg : g ≠ bp) (hn : n ≤ 4294967296) (hk : k ≤ 4294967290) (hx : m = xs.length) (hm : 1 ≤ m) (hm9 : m ≤ 1048576) :
    Calls Try.prog 58 #[.pointer (some ⟨bp, 0, none⟩), .slice (some ⟨g, 0, none⟩) m d] w fun en w' => (∃ v : Int, en = .returned (.int .i64 v) ∧ v ∈ xs) ∧ (∃ k', k' ≤ k + 2 ∧ Cur w' bp A n c k') ∧ w.grownBy w' (some bp) := by
  have HC := Lib.hid h
  have HX := Lib.hid hX
  have Hx := Lib.hid hx
  clear h hX hx
  go_enter Try.func58, Try.ntmps58
  go_wp2_with fail
  refine (pick_c _ bp A n c k m HC.out hn hk hm hm9).mono ?_
  rintro e w1 ⟨⟨x, rfl, hx⟩, ⟨k', hk', hc1⟩, g1⟩
  have HC1 := Lib.hid hc1
  obtain ⟨b, off, e, hb, hc⟩ := HX.out (by have := Hx.out; omega)
  injection e with e
  injection e with e1 e2
  subst e2
  rw [← e1] at hc
  clear e1 hb
  have hcx := g1.cell (hc x (by have := Hx.out; omega)) (by simpa using hg)
  have hcy : w1.cell? ⟨g, x, none⟩ = some (.int .i64 (ivL xs x)) := by simpa using hcx
  have hxi : (x : Int) < (m : Int) := by omega
  have HM := Lib.hid (show ivL xs x ∈ xs by rw [ivL, List.getD_eq_getElem?_getD, List.getElem?_eq_getElem (show x < xs.length by have := Hx.out; omega)]; exact List.getElem_mem _)
  clear hc1 hc
  go_wp2
  go_ret
  exact ⟨⟨_, rfl, HM.out⟩, ⟨k', hk', HC1.out⟩, g1⟩
set_option maxRecDepth 100000 in
theorem upTo_c (w : World) (bp : Nat) (A : Option Addr) (n c k : Nat) (h : Cur w bp A n c k) (hn : n ≤ 4294967296) (hk : k ≤ 4294967280) :
    Calls Try.prog 47 #[.pointer (some ⟨bp, 0, none⟩)] w fun en w' => (∃ v : Int, en = .returned (.int .i64 v)) ∧ (∃ k', k' ≤ k + 4 ∧ Cur w' bp A n c k') ∧ w.grownBy w' (some bp) := by
  have HC := Lib.hid h
  clear h
  go_enter Try.func47, Try.ntmps47
  go_wp2_with fail
  refine (one_cur_c _ bp A n c k 12 HC.out hn (by omega) (by omega) (by omega)).mono ?_
  rintro e w1 ⟨⟨b, rfl⟩, ⟨k1, hk1, hc1⟩, g1⟩
  have HC1 := Lib.hid hc1
  clear hc1
  cases b with
  | true =>
    go_wp2_with fail
    refine (among_c _ bp A n c k1 _ 5 _ [-1, 0, 600, 601, 4611686018427387904] (HC1.out.alloc _) (Il_alloc _ _ _ _ rfl) (by have := HC1.out.lt; omega) hn (by omega) rfl (by omega) (by omega)).mono ?_
    rintro e w2 ⟨⟨v, rfl, _⟩, ⟨k2, hk2, hc2⟩, g2⟩
    have HC2 := Lib.hid hc2
    clear hc2
    go_wp2
    go_ret
    exact ⟨⟨_, rfl⟩, ⟨k2, by omega, HC2.out⟩, grown_trans g1 (grown_trans (World.grownBy_alloc _ _ _) g2)⟩
  | false =>
    go_wp2_with fail
    refine (pick_c _ bp A n c k1 120 HC1.out hn (by omega) (by omega) (by omega)).mono ?_
    rintro e w2 ⟨⟨v, rfl, _⟩, ⟨k2, hk2, hc2⟩, g2⟩
    have HC2 := Lib.hid hc2
    clear hc2
    go_wp2
    go_ret
    exact ⟨⟨_, rfl⟩, ⟨k2, by omega, HC2.out⟩, grown_trans g1 g2⟩
theorem cur_new (w : World) (A : Option Addr) (n c : Nat) (hB : Byt w w.heap.size A n) : Cur (w.alloc (.cells #[.slice A n c, .int .i64 0, .int .u64 0] 57)) w.heap.size A n c 0 :=
  ⟨0, heap_new w _, hB.below ((Below.refl _ w).grown (World.grownBy_alloc w _ none) (Nat.le_refl _) (fun k hk => by simp at hk))⟩
theorem below_cur {w w' : World} {o : Obj} (g : (w.alloc o).grownBy w' (some w.heap.size)) : Below w.heap.size w w' :=
  ((Below.refl _ w).grown (World.grownBy_alloc w o none) (Nat.le_refl _) (fun k hk => by simp at hk)).grown g (by simp) (fun k hk => by injection hk with hk; omega)
set_option maxRecDepth 100000 in
theorem big_c (w : World) (A B : Option Addr) (n c m d : Nat) (hn : n ≤ 9223372036854775807) (hm : m ≤ 9223372036854775807) :
    Calls Try.prog 5 #[.slice A n c, .slice B m d] w fun en w' => en = .returned (.bool (!decide (n + m ≤ 1048576))) ∧ w = w' := by
  by_cases h1 : n ≤ 1048576
  · have hi : ¬ ((1048576 : Int) < (n : Int)) := by omega
    by_cases h2 : n + m ≤ 1048576
    · have hj : ¬ ((1048576 : Int) - (n : Int) < (m : Int)) := by omega
      rw [decide_eq_true h2]
      go_enter Try.func5, Try.ntmps5
      go_wp2
      go_ret
      exact ⟨rfl, rfl⟩
    · have hj : (1048576 : Int) - (n : Int) < (m : Int) := by omega
      rw [decide_eq_false h2]
      go_enter Try.func5, Try.ntmps5
      go_wp2
      go_ret
      exact ⟨rfl, rfl⟩
  · have hi : (1048576 : Int) < (n : Int) := by omega
    rw [decide_eq_false (show ¬ (n + m ≤ 1048576) by omega)]
    go_enter Try.func5, Try.ntmps5
    go_wp2
    go_ret
    exact ⟨rfl, rfl⟩

end Go.Proofs.Ytjoklbkbggdlgaa
