import Derived.Test.YtaapfapejekkfaaE1
import Derived.IntWalk
import Derived.Laws.BitsLemmas
import Derived.Laws.Bits64
import Derived.RangeFuncBox
import Derived.Test.YtaapfapejekkfaaL0
import Derived.Test.YtaapfapejekkfaaE0
import Derived.Test.YtaapfapejekkfaaY6
namespace Go.Proofs.Ytaapfapejekkfaa
open Go.RowKit
set_option linter.unusedVariables false
set_option linter.unusedSimpArgs false

theorem grown_drewN (w : World) (n : Nat) (r : Option Nat) : w.grownBy (w.drewN n) r := ⟨rfl, rfl, rfl, Nat.le_refl _, fun _ _ _ => rfl⟩
theorem grown_set (W : World) (b i : Nat) (v : Value) : W.grownBy (W.setCell ⟨b, i, none⟩ v) (some b) :=
  ⟨rfl, rfl, rfl, (KeepsWalks.setCell W _ v).size, fun k _ hk => heap_setCell_other W ⟨b, i, none⟩ k v (fun e => hk (by rw [e]))⟩
theorem and255 (Z : Int) : ∃ x : Nat, wrap64 (bits .and .u64 (IntKind.u64.wrap Z / 1099511627776) 255) = (x : Int) ∧ x ≤ 255 := by
  have hz : 0 ≤ IntKind.u64.wrap Z ∧ IntKind.u64.wrap Z < 18446744073709551616 := by rw [IntKind.wrap_u64]; omega
  have h := bits_mask .u64 63 (by decide) (fun n h0 h1 => by rw [IntKind.wrap_u64]; omega) 8 (by decide) (IntKind.u64.wrap Z / 1099511627776) (by omega) (by omega)
  rw [show ((2 : Int) ^ 8 - 1) = 255 by decide, show ((2 : Int) ^ 8) = 256 by decide] at h
  rw [h]
  refine ⟨(IntKind.u64.wrap Z / 1099511627776 % 256).toNat, ?_, by omega⟩
  rw [IntWalk.wrap64_in _ (by omega)]
  omega
/-- A slice of bytes, read; it lies below the block L. -/
def Byt (w : World) (L : Nat) (A : Option Addr) (n : Nat) : Prop :=
  0 < n → ∃ b off, A = some ⟨b, off, none⟩ ∧ b < L ∧ ∀ k, k < n → ∃ x : Nat, x ≤ 255 ∧ w.cell? ⟨b, off + k, none⟩ = some (.int .u8 (x : Int))
theorem Byt.below {w w' : World} {L n : Nat} {A : Option Addr} (h : Byt w L A n) (hb : Below L w w') : Byt w' L A n := fun hp => by
  obtain ⟨b, off, e, hL, hc⟩ := h hp
  refine ⟨b, off, e, hL, fun k hk => ?_⟩
  obtain ⟨x, hx, hy⟩ := hc k hk
  exact ⟨x, hx, (hb.cell (p := ⟨b, off + k, none⟩) hL).trans hy⟩
theorem Byt.mono {w : World} {L L' n : Nat} {A : Option Addr} (h : Byt w L A n) (hl : L ≤ L') : Byt w L' A n := fun hp => by
  obtain ⟨b, off, e, hL, hc⟩ := h hp
  exact ⟨b, off, e, by omega, hc⟩
theorem heap_drewN (w : World) (n : Nat) : (w.drewN n).heap = w.heap := by induction n generalizing w with | zero => rfl | succ n ih => exact ih _
/-- A cursor at bp over bytes; k bytes are drawn. -/
def Cur (w : World) (bp : Nat) (A : Option Addr) (n c k : Nat) : Prop :=
  ∃ s : Int, w.heap[bp]? = some (.cells #[.slice A n c, .int .i64 (k : Int), .int .u64 s] 127 (0, 0)) ∧ Byt w bp A n
theorem cur_cells {w : World} {bp : Nat} {v0 v1 v2 : Value} {t : TypeId} (h : w.heap[bp]? = some (.cells #[v0, v1, v2] t (0, 0))) :
    w.cell? ⟨bp, 0, none⟩ = some v0 ∧ w.cell? ⟨bp, 1, none⟩ = some v1 ∧ w.cell? ⟨bp, 2, none⟩ = some v2 ∧ w.frozen? ⟨bp, 1, none⟩ = false ∧ w.frozen? ⟨bp, 2, none⟩ = false := by
  refine ⟨?_, ?_, ?_, ?_, ?_⟩ <;> simp [World.cell?, World.frozen?, h]
theorem cur_set {w : World} {bp : Nat} {v0 v1 v2 : Value} {t : TypeId} (h : w.heap[bp]? = some (.cells #[v0, v1, v2] t (0, 0))) (q : Nat) (u1 u2 : Value) :
    (((w.drewN q).setCell ⟨bp, 1, none⟩ u1).setCell ⟨bp, 2, none⟩ u2).heap[bp]? = some (.cells #[v0, u1, u2] t (0, 0)) :=
  heap_setCell_same _ bp 2 #[v0, u1, v2] t u2 (heap_setCell_same _ bp 1 #[v0, v1, v2] t u1 (by rw [heap_drewN]; exact h))
theorem Cur.lt {w : World} {bp : Nat} {A : Option Addr} {n c k : Nat} (h : Cur w bp A n c k) : bp < w.heap.size := by
  obtain ⟨s, h, _⟩ := h
  exact (Array.getElem?_eq_some_iff.1 h).1
theorem grown_below {w w' : World} {bp : Nat} (h : w.grownBy w' (some bp)) (hb : bp ≤ w.heap.size) : Below bp w w' := (Below.refl bp w).grown h hb (fun k hk => by injection hk with hk; omega)
/-- What the drawing of a byte leaves. -/
theorem cur_next {w : World} {bp n c k : Nat} {A : Option Addr} {s : Int} (hh : w.heap[bp]? = some (.cells #[.slice A n c, .int .i64 (k : Int), .int .u64 s] 127 (0, 0))) (hB : Byt w bp A n) (q1 q2 : Nat) (S : Int) :
    Cur ((((w.drewN q1).setCell ⟨bp, 1, none⟩ (.int .i64 ((k : Int) + 1))).setCell ⟨bp, 2, none⟩ (.int .u64 S)).drewN q2) bp A n c (k + 1) ∧
    w.grownBy ((((w.drewN q1).setCell ⟨bp, 1, none⟩ (.int .i64 ((k : Int) + 1))).setCell ⟨bp, 2, none⟩ (.int .u64 S)).drewN q2) (some bp) := by
  have hg : w.grownBy ((((w.drewN q1).setCell ⟨bp, 1, none⟩ (.int .i64 ((k : Int) + 1))).setCell ⟨bp, 2, none⟩ (.int .u64 S)).drewN q2) (some bp) :=
    grown_trans (grown_trans (grown_trans (grown_drewN w q1 _) (grown_set _ bp 1 _)) (grown_set _ bp 2 _)) (grown_drewN _ q2 _)
  exact ⟨⟨S, cur_set hh q1 _ _, hB.below (grown_below hg (Nat.le_of_lt (Array.getElem?_eq_some_iff.1 hh).1))⟩, hg⟩

set_option maxRecDepth 100000 in
set_option maxHeartbeats 1000000 in
theorem next_c (w : World) (bp : Nat) (A : Option Addr) (n c k : Nat) (h : Cur w bp A n c k) (hn : n ≤ 4294967296) (hk : k ≤ 4294967296) :
    Calls Try.prog 296 #[.pointer (some ⟨bp, 0, none⟩)] w fun en w' => (∃ x : Nat, en = .returned (.int .i64 (x : Int)) ∧ x ≤ 255) ∧ Cur w' bp A n c (k + 1) ∧ w.grownBy w' (some bp) := by
  obtain ⟨s, hh, hB⟩ := h
  have HB := Lib.hid hB
  have HN := Lib.hid (fun q1 q2 S => cur_next hh hB q1 q2 S)
  obtain ⟨h0, h1, h2, f1, f2⟩ := cur_cells hh
  clear hB hh
  by_cases hlt : k < n
  · obtain ⟨b, off, rfl, hb, hc⟩ := HB.out (by omega)
    obtain ⟨x, hx, hcx⟩ := hc k hlt
    have hki : (k : Int) < (n : Int) := by omega
    have hke : (k : Int) + 1 ≤ (n : Int) := by omega
    have hne : bp ≠ b := by omega
    clear hc
    go_enter Try.func296, Try.ntmps296
    go_wp2_with fail
    go_quiet (fail)
    go_wp2_with fail
    go_quiet (fail)
    go_wp2_with fail
    go_quiet (fail)
    go_wp2
    go_ret
    exact ⟨⟨x, rfl, hx⟩, HN.out _ _ _⟩
  · have hki : ¬ ((k : Int) < (n : Int)) := by omega
    have hke : ¬ ((k : Int) + 1 ≤ (n : Int)) := by omega
    go_enter Try.func296, Try.ntmps296
    go_wp2_with fail
    go_quiet (fail)
    go_wp2_with fail
    go_quiet (fail)
    go_wp2
    go_ret
    obtain ⟨x, e, hx⟩ := and255 (IntKind.u64.wrap (IntKind.u64.wrap (s * 6364136223846793005)) + 1442695040888963407)
    exact ⟨⟨x, by rw [← e]; rfl, hx⟩, HN.out _ _ _⟩
set_option maxRecDepth 100000 in
set_option maxHeartbeats 1000000 in
theorem pick_c (w : World) (bp : Nat) (A : Option Addr) (n c k m : Nat) (h : Cur w bp A n c k) (hn : n ≤ 4294967296) (hk : k ≤ 4294967290) (hm : 1 ≤ m) (hm9 : m ≤ 1048576) :
    Calls Try.prog 195 #[.pointer (some ⟨bp, 0, none⟩), .int .i64 (m : Int)] w fun en w' => (∃ x : Nat, en = .returned (.int .i64 (x : Int)) ∧ x < m) ∧ (∃ k', k' ≤ k + 2 ∧ Cur w' bp A n c k') ∧ w.grownBy w' (some bp) := by
  have HC := Lib.hid h
  clear h
  by_cases h1 : m ≤ 1
  · have hi : (m : Int) ≤ 1 := by omega
    go_enter Try.func195, Try.ntmps195
    go_wp2
    go_ret
    exact ⟨⟨0, rfl, by omega⟩, ⟨k, by omega, HC.out⟩, World.grownBy.refl _ _⟩
  · have hi : ¬ ((m : Int) ≤ 1) := by omega
    have hm0 : ((m : Int) == 0) = false := by simp; omega
    by_cases h2 : 200 < m
    · have hj : (200 : Int) < (m : Int) := by omega
      go_enter Try.func195, Try.ntmps195
      go_wp2_with fail
      refine (next_c _ bp A n c k HC.out hn (by omega)).mono ?_
      rintro e w1 ⟨⟨x, rfl, hx⟩, hc1, g1⟩
      have HC1 := Lib.hid hc1
      clear hc1
      go_wp2_with fail
      refine (next_c _ bp A n c (k + 1) HC1.out hn (by omega)).mono ?_
      rintro e w2 ⟨⟨y, rfl, hy⟩, hc2, g2⟩
      have HC2 := Lib.hid hc2
      clear hc2
      go_wp2
      go_ret
      exact ⟨⟨(x * 256 + y) % m, by simp, Nat.mod_lt _ (by omega)⟩, ⟨k + 2, by omega, HC2.out⟩, grown_trans g1 g2⟩
    · have hj : ¬ ((200 : Int) < (m : Int)) := by omega
      go_enter Try.func195, Try.ntmps195
      go_wp2_with fail
      refine (next_c _ bp A n c k HC.out hn (by omega)).mono ?_
      rintro e w1 ⟨⟨x, rfl, hx⟩, hc1, g1⟩
      have HC1 := Lib.hid hc1
      clear hc1
      go_wp2
      go_ret
      exact ⟨⟨x % m, by simp, Nat.mod_lt _ (by omega)⟩, ⟨k + 1, by omega, HC1.out⟩, g1⟩
set_option maxRecDepth 100000 in
theorem one_cur_c (w : World) (bp : Nat) (A : Option Addr) (n c k m : Nat) (h : Cur w bp A n c k) (hn : n ≤ 4294967296) (hk : k ≤ 4294967290) (hm : 1 ≤ m) (hm9 : m ≤ 1048576) :
    Calls Try.prog 219 #[.pointer (some ⟨bp, 0, none⟩), .int .i64 (m : Int)] w fun en w' => (∃ b : Bool, en = .returned (.bool b)) ∧ (∃ k', k' ≤ k + 2 ∧ Cur w' bp A n c k') ∧ w.grownBy w' (some bp) := by
  have HC := Lib.hid h
  clear h
  go_enter Try.func219, Try.ntmps219
  go_wp2_with fail
  refine (pick_c _ bp A n c k m HC.out hn hk hm hm9).mono ?_
  rintro e w1 ⟨⟨x, rfl, hx⟩, ⟨k', hk', hc1⟩, g1⟩
  have HC1 := Lib.hid hc1
  clear hc1
  go_wp2
  go_ret
  exact ⟨⟨_, rfl⟩, ⟨k', hk', HC1.out⟩, g1⟩

theorem heap_new (w : World) (o : Obj) : (w.alloc o).heap[w.heap.size]? = some o := by show (w.heap.push o)[w.heap.size]? = some o; simp
theorem Il_alloc (w : World) (xs : List Int) (t : TypeId) (arr : Array Value) (h : arr = (xs.map (Value.int .i64)).toArray) : Il (w.alloc (.cells arr t)) (some ⟨w.heap.size, 0, none⟩) xs := fun hp => by
  subst h
  refine ⟨w.heap.size, 0, rfl, by simp, fun k hk => ?_⟩
  show (match (w.alloc _).heap[w.heap.size]? with | some (.cells c _ _) => c[0 + k]? | _ => none) = _
  rw [heap_new]
  simp [ivL, hk]
theorem Il_new (w : World) (xs : List Int) (t : TypeId) (arr : Array Value) (g : Nat) (hg : g = w.heap.size) (h : arr = (xs.map (Value.int .i64)).toArray) : Il (w.alloc (.cells arr t)) (some ⟨g, 0, none⟩) xs := by subst hg; exact Il_alloc w xs t arr h
theorem Cur.alloc {w : World} {bp n c k : Nat} {A : Option Addr} (h : Cur w bp A n c k) (o : Obj) : Cur (w.alloc o) bp A n c k := by
  obtain ⟨s, hh, hB⟩ := h
  have hlt := (Array.getElem?_eq_some_iff.1 hh).1
  exact ⟨s, ((World.grownBy_alloc w o none).block bp hlt (by simp)).trans hh, hB.below ((Below.refl bp w).grown (World.grownBy_alloc w o none) (Nat.le_of_lt hlt) (fun k hk => by simp at hk))⟩
set_option maxRecDepth 100000 in
theorem among_c (w : World) (bp : Nat) (A : Option Addr) (n c k g m d : Nat) (xs : List Int) (h : Cur w bp A n c k) (hX : Il w (some ⟨g, 0, none⟩) xs) (hg : g ≠ bp) (hn : n ≤ 4294967296) (hk : k ≤ 4294967290) (hx : m = xs.length) (hm : 1 ≤ m) (hm9 : m ≤ 1048576) :
    Calls Try.prog 196 #[.pointer (some ⟨bp, 0, none⟩), .slice (some ⟨g, 0, none⟩) m d] w fun en w' => (∃ v : Int, en = .returned (.int .i64 v) ∧ v ∈ xs) ∧ (∃ k', k' ≤ k + 2 ∧ Cur w' bp A n c k') ∧ w.grownBy w' (some bp) := by
  have HC := Lib.hid h
  have HX := Lib.hid hX
  have Hx := Lib.hid hx
  clear h hX hx
  go_enter Try.func196, Try.ntmps196
  go_wp2_with fail
  refine (pick_c _ bp A n c k m HC.out hn hk hm hm9).mono ?_
  rintro e w1 ⟨⟨x, rfl, hx⟩, ⟨k', hk', hc1⟩, g1⟩
  have HC1 := Lib.hid hc1
  obtain ⟨b, off, e, hb, hc⟩ := HX.out (by have := Hx.out; omega)
  injection e with e
  injection e with e1 e2
  subst e2
  rw [← e1] at hc
  clear e1 hb
  have hcx := g1.cell (hc x (by have := Hx.out; omega)) (by simpa using hg)
  have hcy : w1.cell? ⟨g, x, none⟩ = some (.int .i64 (ivL xs x)) := by simpa using hcx
  have hxi : (x : Int) < (m : Int) := by omega
  have HM := Lib.hid (show ivL xs x ∈ xs by rw [ivL, List.getD_eq_getElem?_getD, List.getElem?_eq_getElem (show x < xs.length by have := Hx.out; omega)]; exact List.getElem_mem _)
  clear hc1 hc
  go_wp2
  go_ret
  exact ⟨⟨_, rfl, HM.out⟩, ⟨k', hk', HC1.out⟩, g1⟩
set_option maxRecDepth 100000 in
theorem upTo_c (w : World) (bp : Nat) (A : Option Addr) (n c k : Nat) (h : Cur w bp A n c k) (hn : n ≤ 4294967296) (hk : k ≤ 4294967280) :
    Calls Try.prog 212 #[.pointer (some ⟨bp, 0, none⟩)] w fun en w' => (∃ v : Int, en = .returned (.int .i64 v)) ∧ (∃ k', k' ≤ k + 4 ∧ Cur w' bp A n c k') ∧ w.grownBy w' (some bp) := by
  have HC := Lib.hid h
  clear h
  go_enter Try.func212, Try.ntmps212
  go_wp2_with fail
  refine (one_cur_c _ bp A n c k 12 HC.out hn (by omega) (by omega) (by omega)).mono ?_
  rintro e w1 ⟨⟨b, rfl⟩, ⟨k1, hk1, hc1⟩, g1⟩
  have HC1 := Lib.hid hc1
  clear hc1
  cases b with
  | true =>
    go_wp2_with fail
    refine (among_c _ bp A n c k1 _ 5 _ [-1, 0, 600, 601, 4611686018427387904] (HC1.out.alloc _) (Il_alloc _ _ _ _ rfl) (by have := HC1.out.lt; omega) hn (by omega) rfl (by omega) (by omega)).mono ?_
    rintro e w2 ⟨⟨v, rfl, _⟩, ⟨k2, hk2, hc2⟩, g2⟩
    have HC2 := Lib.hid hc2
    clear hc2
    go_wp2
    go_ret
    exact ⟨⟨_, rfl⟩, ⟨k2, by omega, HC2.out⟩, grown_trans g1 (grown_trans (World.grownBy_alloc _ _ _) g2)⟩
  | false =>
    go_wp2_with fail
    refine (pick_c _ bp A n c k1 120 HC1.out hn (by omega) (by omega) (by omega)).mono ?_
    rintro e w2 ⟨⟨v, rfl, _⟩, ⟨k2, hk2, hc2⟩, g2⟩
    have HC2 := Lib.hid hc2
    clear hc2
    go_wp2
    go_ret
    exact ⟨⟨_, rfl⟩, ⟨k2, by omega, HC2.out⟩, grown_trans g1 g2⟩
theorem cur_new (w : World) (A : Option Addr) (n c : Nat) (hB : Byt w w.heap.size A n) : Cur (w.alloc (.cells #[.slice A n c, .int .i64 0, .int .u64 0] 127)) w.heap.size A n c 0 :=
  ⟨0, heap_new w _, hB.below ((Below.refl _ w).grown (World.grownBy_alloc w _ none) (Nat.le_refl _) (fun k hk => by simp at hk))⟩
theorem below_cur {w w' : World} {o : Obj} (g : (w.alloc o).grownBy w' (some w.heap.size)) : Below w.heap.size w w' :=
  ((Below.refl _ w).grown (World.grownBy_alloc w o none) (Nat.le_refl _) (fun k hk => by simp at hk)).grown g (by simp) (fun k hk => by injection hk with hk; omega)
set_option maxRecDepth 100000 in
theorem big_c (w : World) (A B : Option Addr) (n c m d : Nat) (hn : n ≤ 9223372036854775807) (hm : m ≤ 9223372036854775807) :
    Calls Try.prog 27 #[.slice A n c, .slice B m d] w fun en w' => en = .returned (.bool (!decide (n + m ≤ 1048576))) ∧ w = w' := by
  by_cases h1 : n ≤ 1048576
  · have hi : ¬ ((1048576 : Int) < (n : Int)) := by omega
    by_cases h2 : n + m ≤ 1048576
    · have hj : ¬ ((1048576 : Int) - (n : Int) < (m : Int)) := by omega
      rw [decide_eq_true h2]
      go_enter Try.func27, Try.ntmps27
      go_wp2
      go_ret
      exact ⟨rfl, rfl⟩
    · have hj : (1048576 : Int) - (n : Int) < (m : Int) := by omega
      rw [decide_eq_false h2]
      go_enter Try.func27, Try.ntmps27
      go_wp2
      go_ret
      exact ⟨rfl, rfl⟩
  · have hi : (1048576 : Int) < (n : Int) := by omega
    rw [decide_eq_false (show ¬ (n + m ≤ 1048576) by omega)]
    go_enter Try.func27, Try.ntmps27
    go_wp2
    go_ret
    exact ⟨rfl, rfl⟩

end Go.Proofs.Ytaapfapejekkfaa

namespace Go.Proofs.Ytaapfapejekkfaa
open Go.ChangeShapes Go.WideShapes Go.ChangeAt Go.RowKit Go.Deep
set_option maxRecDepth 100000
set_option linter.unusedVariables false
set_option linter.unusedSimpArgs false

section
variable {H : Type} {enc : TypeId × Value → H} {W : World} {base b0 : Nat} {r : Reach} {spare : Nat → Bool} {held : Bool}
/-- An argument of type []byte reads as bytes. -/
theorem open_byt {v : Value} {d : DataW H} {p : List MemPlace} (hval : Value.okWide Try.prog W r b0 36 v) (h : DataW.Trod enc Try.prog W base spare held 36 v d p) :
    ∃ A n c, v = .slice A n c ∧ n ≤ 9223372036854775807 ∧ Byt W W.heap.size A n := by
  obtain ⟨a0, len, cap, rfl⟩ := okWide_slice Try.underlying36 hval
  obtain ⟨fuel, hf⟩ := h
  rcases Go.ChangeShapes.open_ints Try.underlying36 Try.underlying5 (by kernel_rfl) hf with ⟨hcs, _⟩ | ⟨a, l, c, zs, hcs, _, hl, hm, hmm, _, hx, hwz⟩
  · simp [Value.cells] at hcs
    obtain ⟨rfl, rfl, rfl⟩ := hcs
    exact ⟨none, 0, 0, rfl, by omega, fun h => by simp at h⟩
  · simp [Value.cells] at hcs
    obtain ⟨rfl, rfl, rfl⟩ := hcs
    have hlm : len ≤ zs.length := by rw [hmm]; split <;> omega
    have hm' : len ≤ 9223372036854775807 := by unfold maxLen at hm; omega
    refine ⟨some a, len, cap, rfl, hm', fun hlen => ?_⟩
    have c0 := hx 0 (by omega)
    obtain ⟨b, off, rfl⟩ := addr_plain c0
    refine ⟨b, off, rfl, World.block_lt_of_cell? W _ (by simpa [add_plain] using c0), fun k hk => ?_⟩
    have g0 := hx k (by omega)
    rw [add_plain] at g0
    have hb := hwz (zs.getD k 0) (by rw [List.getD_eq_getElem?_getD, List.getElem?_eq_getElem (show k < zs.length by omega)]; exact List.getElem_mem _)
    have hr : 0 ≤ zs.getD k 0 ∧ zs.getD k 0 ≤ 255 := by have := bounds_u8 hb; omega
    exact ⟨(zs.getD k 0).toNat, by omega, by rw [g0]; congr 2; omega⟩
end

end Go.Proofs.Ytaapfapejekkfaa

namespace Go.Proofs.Ytaapfapejekkfaa
open Go.RowKit
set_option linter.unusedVariables false
set_option linter.unusedSimpArgs false

theorem l1Most_c (a b : Int) (w : World) :
    Calls Try.prog 288 #[.int .i64 a, .int .i64 b] w fun e w' => e = .returned (.int .i64 (max a b)) ∧ w = w' := by
  by_cases h : b < a
  · rw [show max a b = a by omega]
    go_enter Try.func288, Try.ntmps288
    go_wp2
    go_ret
    exact ⟨rfl, rfl⟩
  · rw [show max a b = b by omega]
    go_enter Try.func288, Try.ntmps288
    go_wp2
    go_ret
    exact ⟨rfl, rfl⟩
theorem l1Least_c (a b : Int) (w : World) :
    Calls Try.prog 238 #[.int .i64 a, .int .i64 b] w fun e w' => e = .returned (.int .i64 (min a b)) ∧ w = w' := by
  by_cases h : a < b
  · rw [show min a b = a by omega]
    go_enter Try.func238, Try.ntmps238
    go_wp2
    go_ret
    exact ⟨rfl, rfl⟩
  · rw [show min a b = b by omega]
    go_enter Try.func238, Try.ntmps238
    go_wp2
    go_ret
    exact ⟨rfl, rfl⟩

end Go.Proofs.Ytaapfapejekkfaa

namespace Go.Proofs.Ytaapfapejekkfaa
open Go.RowKit
set_option maxRecDepth 100000
set_option linter.unusedVariables false
set_option linter.unusedSimpArgs false

theorem grown_stepT {w0 w w' : World} {row : Option Nat} {B : Nat} (h : w0.grownBy w row) (hb : Below B w w') (hB : w0.heap.size ≤ B) : w0.grownBy w' row :=
  ⟨hb.os.trans h.os, hb.tape.trans h.tape, hb.output.trans h.output, Nat.le_trans h.size hb.size, fun i hi hn => (hb.block i (by omega)).trans (h.block i hi hn)⟩
theorem Cur.stepT {w w' : World} {bp n c k B : Nat} {A : Option Addr} (h : Cur w bp A n c k) (hb : Below B w w') (hB : bp < B) : Cur w' bp A n c k := by
  obtain ⟨s, h1, h2⟩ := h
  exact ⟨s, by rw [hb.block bp hB]; exact h1, h2.below (hb.mono (Nat.le_of_lt hB))⟩
theorem OwnI.grownT {w w' : World} {B g : Nat} {v : Value} {xs : List Int} (h : OwnI w B v xs) (hg : w.grownBy w' (some g)) (hB : g < B) : OwnI w' B v xs :=
  World.ownsRow.kept h hg (.inr fun e => by have := (World.ownsRow.lt h g e).1; omega)
theorem OwnI.stored1 {w : World} {B g n cap : Nat} {xs : List Int} (h : OwnI w B (.slice (some ⟨g, 0, none⟩) n cap) xs) (o : Nat) (y : Int) : OwnI (w.setCell ⟨g, o, none⟩ (.int .i64 y)) B (.slice (some ⟨g, 0, none⟩) n cap) (xs.set o y) := by
  have hn : n = xs.length := by
    rcases h.2 with ⟨e, _⟩ | ⟨g2, cap2, cur, e, _⟩
    · simp at e
    · simp only [Value.slice.injEq] at e; exact e.2.1
  subst hn
  have h1 := (World.ownsRow.stored h o (.int .i64 y)).1
  unfold OwnI
  rw [List.length_set, List.map_set]
  exact h1
theorem below_set {w : World} {B g o : Nat} (hB : B ≤ g) (v : Value) : Below B w (w.setCell ⟨g, o, none⟩ v) := (Below.refl B w).setCell hB v
theorem own_slice {w : World} {B n c : Nat} {A : Option Addr} {xs : List Int} (h : OwnI w B (.slice A n c) xs) : n = xs.length ∧ ((A = none ∧ c = 0 ∧ xs = []) ∨ ∃ g, A = some ⟨g, 0, none⟩ ∧ xs.length ≤ c) := by
  rcases h.2 with ⟨e, h0⟩ | ⟨g2, cap2, cur, e, _, _, hnc, _⟩
  · simp only [Value.slice.injEq] at e
    exact ⟨by omega, .inl ⟨e.1, e.2.2, List.length_eq_zero_iff.1 h0⟩⟩
  · simp only [Value.slice.injEq] at e
    exact ⟨e.2.1, .inr ⟨g2, e.1, by omega⟩⟩
theorem Il.taken {w : World} {A : Option Addr} {xs : List Int} (h : Il w A xs) (q : Nat) : Il w A (xs.take q) := fun hp => by
  have hl : 0 < xs.length := by rw [List.length_take] at hp; omega
  obtain ⟨b, off, e, hb, hr⟩ := h hl
  refine ⟨b, off, e, hb, fun k hk => ?_⟩
  rw [List.length_take] at hk
  have h1 := hr k (by omega)
  have h2 : ivL (xs.take q) k = ivL xs k := by simp [ivL, List.getElem?_take, show k < q by omega]
  rw [h2]
  exact h1
set_option maxHeartbeats 2000000 in
theorem table_c (w : World) (bp : Nat) (A : Option Addr) (n c k : Nat) (h : Cur w bp A n c k) (hn : n ≤ 4294967296) (hk : k ≤ 4294967000) :
    Calls Try.prog 237 #[.pointer (some ⟨bp, 0, none⟩), .int .i64 24] w fun en w' => (∃ v xs, en = .returned v ∧ OwnI w' w.heap.size v xs ∧ xs.length ≤ 24) ∧ (∃ k', k' ≤ k + 100 ∧ Cur w' bp A n c k') ∧ w.grownBy w' (some bp) := by
  have HC := Lib.hid h
  have hlt := h.lt
  clear h
  go_enter Try.func237, Try.ntmps237
  go_wp2_with fail
  refine (pick_c _ bp A n c k 24 HC.out hn (by omega) (by omega) (by omega)).mono ?_
  rintro e w1 ⟨⟨x, rfl, hx⟩, ⟨k1, hk1, hc1⟩, g1⟩
  have HC1 := Lib.hid hc1
  have hs1 := g1.size
  have hm : (1 : Int) + (x : Int) = ((1 + x : Nat) : Int) := by omega
  have Hm := Lib.hid hm
  clear hc1 hm
  go_wp2_with fail
  refine (one_cur_c _ bp A n c k1 2 HC1.out hn (by omega) (by omega) (by omega)).mono ?_
  rintro e w2 ⟨⟨b, rfl⟩, ⟨k2, hk2, hc2⟩, g2⟩
  have HC2 := Lib.hid hc2
  have G2 := grown_trans g1 g2
  have hs2 := G2.size
  clear hc2
  cases b with
  | true =>
    go_wp2_with fail
    refine (pick_c _ bp A n c k2 7 HC2.out hn (by omega) (by omega) (by omega)).mono ?_
    rintro e w3 ⟨⟨K, rfl, hK⟩, ⟨k3, hk3, hc3⟩, g3⟩
    have HC3 := Lib.hid hc3
    have G3 := grown_trans G2 g3
    have hs3 := G3.size
    clear hc3
    go_wp2_with fail
    rw [Hm.out]
    refine (dvTable_c _ K (1 + x) (by omega) (by omega)).mono ?_
    rintro e w4 ⟨⟨v4, rfl, o4⟩, b4⟩
    have G4 := grown_stepT G3 b4 hs3
    go_wp2
    go_ret
    exact ⟨⟨_, _, rfl, OwnI.mono o4 hs3, by rw [tbL_len]; omega⟩, ⟨k3, by omega, HC3.out.stepT b4 HC3.out.lt⟩, G4⟩
  | false =>
    go_wp2
    go_loopw [6, 7] (fun o i wr => ∃ (j : Nat) (xs : List Int) (kk : Nat), i = .int .i64 (j : Int) ∧ j ≤ 1 + x ∧ xs.length = j ∧ OwnI wr w.heap.size o xs ∧ kk ≤ k + 4 + 2 * j ∧ Cur wr bp A n c kk ∧ w.grownBy wr (some bp)) (fun _ i _ => 30 - (intOf i).toNat)
    case atStart => exact ⟨0, [], k2, rfl, by omega, rfl, World.ownsRow_nil _ _ _ _, by omega, HC2.out, G2⟩
    case round =>
      obtain ⟨j, xs, kk, rfl, hj, hxl, hown, hkk, hcu, G⟩ := hrel
      have Hown := Lib.hid hown
      have Hcu := Lib.hid hcu
      have Hxl := Lib.hid hxl
      have hgs := G.size
      clear hown hcu hxl HC1 HC2
      by_cases hjx : j < 1 + x
      · have hji : (j : Int) < 1 + (x : Int) := by omega
        go_wp2_with fail
        refine (pick_c _ bp A n c kk 9 Hcu.out hn (by omega) (by omega) (by omega)).mono ?_
        rintro e w4 ⟨⟨y, rfl, hy⟩, ⟨k4, hk4, hc4⟩, g4⟩
        have HC4 := Lib.hid hc4
        have Ho4 := Lib.hid (Hown.out.grownT g4 hlt)
        have hs4 := g4.size
        have G4 := grown_trans G g4
        clear hc4
        go_wp2_with (at_builtin; refine wp_app_int _ rfl _ _ rfl w.heap.size _ _ rfl Ho4.out _ rfl (by have := Hxl.out; omega) (by omega) ?_; intro v' w6 o6 b6)
        have o6' := Lib.hid o6
        clear o6
        go_roundw
        case rel => exact ⟨j + 1, _, k4, by go_num, by omega, by rw [List.length_append, List.length_singleton, Hxl.out], o6'.out, by omega, HC4.out.stepT b6 hlt, grown_stepT G4 b6 (Nat.le_refl _)⟩
        case measure => simp [intOf]; omega
      · have hji : ¬ (j : Int) < 1 + (x : Int) := by omega
        have hjj : j = 1 + x := by omega
        go_wp2_with fail
        refine (pick_c _ bp A n c kk 12 Hcu.out hn (by omega) (by omega) (by omega)).mono ?_
        rintro e w4 ⟨⟨z, rfl, hz⟩, ⟨k4, hk4, hc4⟩, g4⟩
        have HC4 := Lib.hid hc4
        have Ho4 := Lib.hid (Hown.out.grownT g4 hlt)
        have hs4 := g4.size
        have G4 := grown_trans G g4
        have hlen24 : xs.length ≤ 24 := by have := Hxl.out; omega
        have hposl : 0 < xs.length := by have := Hxl.out; omega
        have HL24 := Lib.hid hlen24
        have HPOS := Lib.hid hposl
        have HJJ := Lib.hid hjj
        clear hc4 hlen24 hposl hjj
        by_cases h0 : z = 0
        · have e0 : ((z : Int) == 0) = true := by rw [beq_iff_eq]; omega
          clear h0
          go_wp2_with fail
          rw [Hm.out]
          refine (pick_c _ bp A n c k4 (1 + x) HC4.out hn (by omega) (by omega) (by omega)).mono ?_
          rintro e w5 ⟨⟨p, rfl, hp⟩, ⟨k5, hk5, hc5⟩, g5⟩
          have HC5 := Lib.hid hc5
          have Ho5 := Lib.hid (Ho4.out.grownT g5 hlt)
          have hs5 := g5.size
          have G5 := grown_trans G4 g5
          clear hc5
          go_wp2_with fail
          refine (among_c _ bp A n c k5 _ 4 _ [1000000, 1000001, -9223372036854775808, 100000] (HC5.out.alloc _) (Il_alloc _ _ _ _ rfl) (by omega) hn (by omega) rfl (by omega) (by omega)).mono ?_
          rintro e w7 ⟨⟨u, rfl, _⟩, ⟨k7, hk7, hc7⟩, g7⟩
          have g7' := grown_trans (World.grownBy_alloc w5 _ (some bp)) g7
          have HC7 := Lib.hid hc7
          have o7 := Ho5.out.grownT g7' hlt
          have hs7 := g7'.size
          have G7 := grown_trans G5 g7'
          clear hc7
          obtain ⟨A7, c7, rfl⟩ := o7.shape
          obtain ⟨g, rfl, hB, hg⟩ := own_form o7 HPOS.out
          have hplt : p < xs.length := by have := Hxl.out; have := HJJ.out; omega
          obtain ⟨x0, hx0, hf0⟩ := own_get o7 p (by omega)
          have o8 := Lib.hid (o7.stored1 p u)
          have hpi : (p : Int) < (xs.length : Int) := by omega
          clear o7 hplt
          go_wp2
          go_ret
          exact ⟨⟨_, _, rfl, o8.out, by rw [List.length_set]; exact HL24.out⟩, ⟨k7, by omega, HC7.out.stepT (below_set hB _) hlt⟩, grown_stepT G7 (below_set hB _) (Nat.le_refl _)⟩
        have e0 : ((z : Int) == 0) = false := by rw [beq_eq_false_iff_ne]; omega
        clear h0
        by_cases h1 : z = 1
        · have e1 : ((z : Int) == 1) = true := by rw [beq_iff_eq]; omega
          clear h1
          go_wp2
          go_ret
          exact ⟨⟨_, [], rfl, World.ownsRow_nil _ _ _ _, by simp⟩, ⟨k4, by omega, HC4.out⟩, G4⟩
        have e1 : ((z : Int) == 1) = false := by rw [beq_eq_false_iff_ne]; omega
        clear h1
        by_cases h2 : z = 2 ∨ z = 3 ∨ z = 4
        · have fin : ∀ q : Prop, ((((z : Int) == 2) = true) → q) → (((z : Int) == 2) = false → ((z : Int) == 3) = true → q) → (((z : Int) == 2) = false → ((z : Int) == 3) = false → ((z : Int) == 4) = true → q) → q := fun q a1 a2 a3 => by
            rcases h2 with h | h | h
            · exact a1 (by rw [beq_iff_eq]; omega)
            · exact a2 (by rw [beq_eq_false_iff_ne]; omega) (by rw [beq_iff_eq]; omega)
            · exact a3 (by rw [beq_eq_false_iff_ne]; omega) (by rw [beq_eq_false_iff_ne]; omega) (by rw [beq_iff_eq]; omega)
          clear h2
          refine fin _ (fun e2 => ?_) (fun e2 e3 => ?_) (fun e2 e3 e4 => ?_)
          all_goals
            clear fin
            go_wp2_with fail
            refine (among_c _ bp A n c k4 _ 2 _ [1, -1] (HC4.out.alloc _) (Il_alloc _ _ _ _ rfl) (by omega) hn (by omega) rfl (by omega) (by omega)).mono ?_
            rintro e w7 ⟨⟨u, rfl, _⟩, ⟨k7, hk7, hc7⟩, g7⟩
            have g7' := grown_trans (World.grownBy_alloc w4 _ (some bp)) g7
            have HC7 := Lib.hid hc7
            have o7 := Ho4.out.grownT g7' hlt
            have hs7 := g7'.size
            have G7 := grown_trans G4 g7'
            clear hc7
            obtain ⟨A7, c7, rfl⟩ := o7.shape
            obtain ⟨g, rfl, hB, hg⟩ := own_form o7 HPOS.out
            have hplt : 0 < xs.length := HPOS.out
            obtain ⟨x0, hx0, hf0⟩ := own_get o7 0 (by omega)
            have o8 := Lib.hid (o7.stored1 0 u)
            have hpi : (0 : Int) < (xs.length : Int) := by omega
            clear o7
            go_wp2
            go_ret
            exact ⟨⟨_, _, rfl, o8.out, by rw [List.length_set]; exact HL24.out⟩, ⟨k7, by omega, HC7.out.stepT (below_set hB _) hlt⟩, grown_stepT G7 (below_set hB _) (Nat.le_refl _)⟩
        have e2 : ((z : Int) == 2) = false := by rw [beq_eq_false_iff_ne]; omega
        have e3 : ((z : Int) == 3) = false := by rw [beq_eq_false_iff_ne]; omega
        have e4 : ((z : Int) == 4) = false := by rw [beq_eq_false_iff_ne]; omega
        clear h2
        go_wp2
        go_ret
        exact ⟨⟨_, _, rfl, Ho4.out, HL24.out⟩, ⟨k4, by omega, HC4.out⟩, G4⟩
set_option maxHeartbeats 1000000 in
theorem DrawUndoTable_c (w : World) (A : Option Addr) (n c : Nat) (hB : Byt w w.heap.size A n) (hn : n ≤ 4294967296) :
    Calls Try.prog 118 #[.slice A n c] w fun en w' => (∃ v xs, en = .returned v ∧ OwnI w' w.heap.size v xs ∧ xs.length ≤ 24) ∧ Below w.heap.size w w' := by
  have HC := Lib.hid (cur_new w A n c hB)
  clear hB
  go_enter Try.func118, Try.ntmps118
  go_wp2_with fail
  refine (table_c _ w.heap.size A n c 0 HC.out hn (by omega)).mono ?_
  rintro e w2 ⟨⟨v, xs, rfl, o2, hl⟩, -, g1⟩
  have o3 := OwnI.mono o2 (show w.heap.size ≤ _ by simp)
  have B := below_cur g1
  go_wp2
  go_ret
  exact ⟨⟨_, _, rfl, o3, hl⟩, B⟩
set_option maxHeartbeats 1000000 in
theorem DrawIsSpread_c (w : World) (A : Option Addr) (n c : Nat) (hB : Byt w w.heap.size A n) (hn : n ≤ 4294967296) :
    Calls Try.prog 126 #[.slice A n c] w fun en w' => (∃ v xs, en = .returned v ∧ OwnI w' w.heap.size v xs ∧ xs.length ≤ 24) ∧ Below w.heap.size w w' := by
  go_enter Try.func126, Try.ntmps126
  go_wp2_with fail
  refine (DrawUndoTable_c _ A n c hB hn).mono ?_
  rintro e w1 ⟨⟨v, xs, rfl, o, hl⟩, B⟩
  go_wp2
  go_ret
  exact ⟨⟨_, _, rfl, o, hl⟩, B⟩
set_option maxHeartbeats 1000000 in
theorem DrawTableOf_c (w : World) (A : Option Addr) (n c : Nat) (hB : Byt w w.heap.size A n) (hn : n ≤ 4294967296) :
    Calls Try.prog 124 #[.slice A n c] w fun en w' => (∃ v u : Int, en = .returned (.tuple #[.int .i64 v, .int .i64 u])) ∧ Below w.heap.size w w' := by
  have HC := Lib.hid (cur_new w A n c hB)
  clear hB
  go_enter Try.func124, Try.ntmps124
  go_wp2_with fail
  refine (pick_c _ w.heap.size A n c 0 9 HC.out hn (by omega) (by omega) (by omega)).mono ?_
  rintro e w2 ⟨⟨x, rfl, hx⟩, ⟨k2, hk2, hc2⟩, g1⟩
  have HC2 := Lib.hid hc2
  have hlt := hc2.lt
  clear hc2
  go_wp2_with fail
  refine (among_c _ w.heap.size A n c k2 w2.heap.size 9 _ [1, 2, 6, 12, 30, 60, 200, 201, 0] (HC2.out.alloc _) (Il_new _ _ _ _ _ rfl rfl) (by omega) hn (by omega) rfl (by omega) (by omega)).mono ?_
  rintro e w3 ⟨⟨u, rfl, _⟩, -, g3⟩
  have B := below_cur (grown_trans g1 (grown_trans (World.grownBy_alloc _ _ _) g3))
  go_wp2
  go_ret2
  exact ⟨⟨_, _, rfl⟩, B⟩
set_option maxHeartbeats 1000000 in
theorem DrawOverDivisors_c (w : World) (A : Option Addr) (n c : Nat) (hB : Byt w w.heap.size A n) (hn : n ≤ 4294967296) :
    Calls Try.prog 113 #[.slice A n c] w fun en w' => (∃ A1 m1 c1 xs A2 m2 c2 ys, en = .returned (.tuple #[.slice A1 m1 c1, .slice A2 m2 c2]) ∧ Il w' A1 xs ∧ m1 = xs.length ∧ m1 ≤ 24 ∧ Il w' A2 ys ∧ m2 = ys.length ∧ m2 ≤ 24) ∧ Below w.heap.size w w' := by
  have HC := Lib.hid (cur_new w A n c hB)
  clear hB
  go_enter Try.func113, Try.ntmps113
  go_wp2_with fail
  refine (table_c _ w.heap.size A n c 0 HC.out hn (by omega)).mono ?_
  rintro e w2 ⟨⟨v, xs, rfl, o2, hl⟩, ⟨k2, hk2, hc2⟩, g1⟩
  have HC2 := Lib.hid hc2
  have hlt := hc2.lt
  have Ho2 := Lib.hid o2
  clear hc2 o2
  go_wp2_with fail
  refine (table_c _ w.heap.size A n c k2 HC2.out hn (by omega)).mono ?_
  rintro e w3 ⟨⟨v3, ys, rfl, o3, hl3⟩, ⟨k3, hk3, hc3⟩, g3⟩
  have HC3 := Lib.hid hc3
  have Ho3 := Lib.hid o3
  have Ho2 := Lib.hid (Ho2.out.grownT g3 (by simp))
  have hlt3 := hc3.lt
  have G3 := grown_trans g1 g3
  have hs3 := G3.size
  have hs2 := g1.size
  clear hc3 o3
  obtain ⟨A1, c1, rfl⟩ := Ho2.out.shape
  obtain ⟨A2, c2, rfl⟩ := Ho3.out.shape
  obtain ⟨-, f1⟩ := own_slice Ho2.out
  obtain ⟨-, f2⟩ := own_slice Ho3.out
  obtain ⟨q, hq⟩ : ∃ q : Nat, min (xs.length : Int) (ys.length : Int) = (q : Int) := ⟨min xs.length ys.length, by omega⟩
  have hq1 : q ≤ xs.length := by omega
  have hq2 : q ≤ ys.length := by omega
  have Hq := Lib.hid hq
  clear hq
  go_wp2_with fail
  refine (l1Least_c _ _ _).mono ?_
  rw [Hq.out]
  rintro e w4 ⟨rfl, rfl⟩
  go_wp2_with fail
  refine (one_cur_c _ w.heap.size A n c k3 10 HC3.out hn (by omega) (by omega) (by omega)).mono ?_
  rintro e w5 ⟨⟨b, rfl⟩, -, g5⟩
  have I1 := Il_of_own (Ho2.out.grownT g5 (by simp))
  have I2 := Il_of_own (Ho3.out.grownT g5 hlt)
  have B := below_cur (grown_trans G3 g5)
  cases b with
  | true =>
    go_wp2
    go_ret2
    exact ⟨⟨_, _, _, xs, _, _, _, ys, rfl, I1, rfl, hl, I2, rfl, hl3⟩, B⟩
  | false =>
    have hq0 : (0 : Int) ≤ (q : Int) := by omega
    have T1 : Hid ((xs.take q).length = q) := by show _ = _; rw [List.length_take]; omega
    have T2 : Hid ((ys.take q).length = q) := by show _ = _; rw [List.length_take]; omega
    rcases f1 with ⟨rfl, rfl, rfl⟩ | ⟨ga, rfl, hca⟩
    · obtain rfl : q = 0 := by simpa using hq1
      rcases f2 with ⟨rfl, rfl, rfl⟩ | ⟨gb, rfl, hcb⟩
      all_goals
        go_wp2_with fail
        go_quiet (fail)
        have B := below_drewN B nq
        have I1 := (I1.taken 0).below (below_drewN (Below.refl _ _) nq)
        have I2 := (I2.taken 0).below (below_drewN (Below.refl _ _) nq)
        go_wp2
        go_ret2
        exact ⟨⟨_, _, _, _, _, _, _, _, rfl, I1, by simp, by simp, I2, by simp, by simp⟩, B⟩
    · have hc1i : (q : Int) ≤ (c1 : Int) := by omega
      rcases f2 with ⟨rfl, rfl, rfl⟩ | ⟨gb, rfl, hcb⟩
      · obtain rfl : q = 0 := by simpa using hq2
        go_wp2_with fail
        go_quiet (fail)
        have B := below_drewN B nq
        have I1 := (I1.taken 0).below (below_drewN (Below.refl _ _) nq)
        have I2 := (I2.taken 0).below (below_drewN (Below.refl _ _) nq)
        go_wp2
        go_ret2
        exact ⟨⟨_, _, _, _, _, _, _, _, rfl, I1, by simp, by simp, I2, by simp, by simp⟩, B⟩
      · have hc2i : (q : Int) ≤ (c2 : Int) := by omega
        go_wp2_with fail
        go_quiet (fail)
        have B := below_drewN B nq
        have I1 := (I1.taken q).below (below_drewN (Below.refl _ _) nq)
        have I2 := (I2.taken q).below (below_drewN (Below.refl _ _) nq)
        go_wp2
        go_ret2
        exact ⟨⟨_, _, _, _, _, _, _, _, rfl, I1, by first | exact T1.out.symm | simp; omega, by omega, I2, by first | exact T2.out.symm | simp; omega, by omega⟩, B⟩

end Go.Proofs.Ytaapfapejekkfaa
