import Derived.Test.YtaapfapejekkfaaE1
import Derived.IntWalk
import Derived.Laws.BitsLemmas
import Derived.Laws.Bits64
import Derived.RangeFuncBox
import Derived.Test.YtaapfapejekkfaaL0
import Derived.Test.YtaapfapejekkfaaGM
import Derived.Test.YtaapfapejekkfaaB4
import Derived.Maps.Own
import Derived.Maps.OwnSet
namespace Go.Proofs.Ytaapfapejekkfaa
open Go.RowKit
set_option linter.unusedVariables false
set_option linter.unusedSimpArgs false

theorem grown_drewN (w : World) (n : Nat) (r : Option Nat) : w.grownBy (w.drewN n) r := ⟨rfl, rfl, rfl, Nat.le_refl _, fun _ _ _ => rfl⟩
theorem grown_set (W : World) (b i : Nat) (v : Value) : W.grownBy (W.setCell ⟨b, i, none⟩ v) (some b) :=
  ⟨rfl, rfl, rfl, (KeepsWalks.setCell W _ v).size, fun k _ hk => heap_setCell_other W ⟨b, i, none⟩ k v (fun e => hk (by rw [e]))⟩
theorem and255 (Z : Int) : ∃ x : Nat, wrap64 (bits .and .u64 (IntKind.u64.wrap Z / 1099511627776) 255) = (x : Int) ∧ x ≤ 255 := by
  have hz : 0 ≤ IntKind.u64.wrap Z ∧ IntKind.u64.wrap Z < 18446744073709551616 := by rw [IntKind.wrap_u64]; omega
  have h := bits_mask .u64 63 (by decide) (fun n h0 h1 => by rw [IntKind.wrap_u64]; omega) 8 (by decide) (IntKind.u64.wrap Z / 1099511627776) (by omega) (by omega)
  rw [show ((2 : Int) ^ 8 - 1) = 255 by decide, show ((2 : Int) ^ 8) = 256 by decide] at h
  rw [h]
  refine ⟨(IntKind.u64.wrap Z / 1099511627776 % 256).toNat, ?_, by omega⟩
  rw [IntWalk.wrap64_in _ (by omega)]
  omega
/-- A slice of bytes, read; it lies below the block L. -/
def Byt (w : World) (L : Nat) (A : Option Addr) (n : Nat) : Prop :=
  0 < n → ∃ b off, A = some ⟨b, off, none⟩ ∧ b < L ∧ ∀ k, k < n → ∃ x : Nat, x ≤ 255 ∧ w.cell? ⟨b, off + k, none⟩ = some (.int .u8 (x : Int))
theorem Byt.below {w w' : World} {L n : Nat} {A : Option Addr} (h : Byt w L A n) (hb : Below L w w') : Byt w' L A n := fun hp => by
  obtain ⟨b, off, e, hL, hc⟩ := h hp
  refine ⟨b, off, e, hL, fun k hk => ?_⟩
  obtain ⟨x, hx, hy⟩ := hc k hk
  exact ⟨x, hx, (hb.cell (p := ⟨b, off + k, none⟩) hL).trans hy⟩
theorem Byt.mono {w : World} {L L' n : Nat} {A : Option Addr} (h : Byt w L A n) (hl : L ≤ L') : Byt w L' A n := fun hp => by
  obtain ⟨b, off, e, hL, hc⟩ := h hp
  exact ⟨b, off, e, by omega, hc⟩
theorem heap_drewN (w : World) (n : Nat) : (w.drewN n).heap = w.heap := by induction n generalizing w with | zero => rfl | succ n ih => exact ih _
/-- A cursor at bp over bytes; k bytes are drawn. -/
def Cur (w : World) (bp : Nat) (A : Option Addr) (n c k : Nat) : Prop :=
  ∃ s : Int, w.heap[bp]? = some (.cells #[.slice A n c, .int .i64 (k : Int), .int .u64 s] 127 (0, 0)) ∧ Byt w bp A n
theorem cur_cells {w : World} {bp : Nat} {v0 v1 v2 : Value} {t : TypeId} (h : w.heap[bp]? = some (.cells #[v0, v1, v2] t (0, 0))) :
    w.cell? ⟨bp, 0, none⟩ = some v0 ∧ w.cell? ⟨bp, 1, none⟩ = some v1 ∧ w.cell? ⟨bp, 2, none⟩ = some v2 ∧ w.frozen? ⟨bp, 1, none⟩ = false ∧ w.frozen? ⟨bp, 2, none⟩ = false := by
  refine ⟨?_, ?_, ?_, ?_, ?_⟩ <;> simp [World.cell?, World.frozen?, h]
theorem cur_set {w : World} {bp : Nat} {v0 v1 v2 : Value} {t : TypeId} (h : w.heap[bp]? = some (.cells #[v0, v1, v2] t (0, 0))) (q : Nat) (u1 u2 : Value) :
    (((w.drewN q).setCell ⟨bp, 1, none⟩ u1).setCell ⟨bp, 2, none⟩ u2).heap[bp]? = some (.cells #[v0, u1, u2] t (0, 0)) :=
  heap_setCell_same _ bp 2 #[v0, u1, v2] t u2 (heap_setCell_same _ bp 1 #[v0, v1, v2] t u1 (by rw [heap_drewN]; exact h))
theorem Cur.lt {w : World} {bp : Nat} {A : Option Addr} {n c k : Nat} (h : Cur w bp A n c k) : bp < w.heap.size := by
  obtain ⟨s, h, _⟩ := h
  exact (Array.getElem?_eq_some_iff.1 h).1
theorem grown_below {w w' : World} {bp : Nat} (h : w.grownBy w' (some bp)) (hb : bp ≤ w.heap.size) : Below bp w w' := (Below.refl bp w).grown h hb (fun k hk => by injection hk with hk; omega)
/-- What the drawing of a byte leaves. -/
theorem cur_next {w : World} {bp n c k : Nat} {A : Option Addr} {s : Int} (hh : w.heap[bp]? = some (.cells #[.slice A n c, .int .i64 (k : Int), .int .u64 s] 127 (0, 0))) (hB : Byt w bp A n) (q1 q2 : Nat) (S : Int) :
    Cur ((((w.drewN q1).setCell ⟨bp, 1, none⟩ (.int .i64 ((k : Int) + 1))).setCell ⟨bp, 2, none⟩ (.int .u64 S)).drewN q2) bp A n c (k + 1) ∧
    w.grownBy ((((w.drewN q1).setCell ⟨bp, 1, none⟩ (.int .i64 ((k : Int) + 1))).setCell ⟨bp, 2, none⟩ (.int .u64 S)).drewN q2) (some bp) := by
  have hg : w.grownBy ((((w.drewN q1).setCell ⟨bp, 1, none⟩ (.int .i64 ((k : Int) + 1))).setCell ⟨bp, 2, none⟩ (.int .u64 S)).drewN q2) (some bp) :=
    grown_trans (grown_trans (grown_trans (grown_drewN w q1 _) (grown_set _ bp 1 _)) (grown_set _ bp 2 _)) (grown_drewN _ q2 _)
  exact ⟨⟨S, cur_set hh q1 _ _, hB.below (grown_below hg (Nat.le_of_lt (Array.getElem?_eq_some_iff.1 hh).1))⟩, hg⟩

set_option maxRecDepth 100000 in
set_option maxHeartbeats 1000000 in
theorem next_c (w : World) (bp : Nat) (A : Option Addr) (n c k : Nat) (h : Cur w bp A n c k) (hn : n ≤ 4294967296) (hk : k ≤ 4294967296) :
    Calls Try.prog 296 #[.pointer (some ⟨bp, 0, none⟩)] w fun en w' => (∃ x : Nat, en = .returned (.int .i64 (x : Int)) ∧ x ≤ 255) ∧ Cur w' bp A n c (k + 1) ∧ w.grownBy w' (some bp) := by
  obtain ⟨s, hh, hB⟩ := h
  have HB := Lib.hid hB
  have HN := Lib.hid (fun q1 q2 S => cur_next hh hB q1 q2 S)
  obtain ⟨h0, h1, h2, f1, f2⟩ := cur_cells hh
  clear hB hh
  by_cases hlt : k < n
  · obtain ⟨b, off, rfl, hb, hc⟩ := HB.out (by omega)
    obtain ⟨x, hx, hcx⟩ := hc k hlt
    have hki : (k : Int) < (n : Int) := by omega
    have hke : (k : Int) + 1 ≤ (n : Int) := by omega
    have hne : bp ≠ b := by omega
    clear hc
    go_enter Try.func296, Try.ntmps296
    go_wp2_with fail
    go_quiet (fail)
    go_wp2_with fail
    go_quiet (fail)
    go_wp2_with fail
    go_quiet (fail)
    go_wp2
    go_ret
    exact ⟨⟨x, rfl, hx⟩, HN.out _ _ _⟩
  · have hki : ¬ ((k : Int) < (n : Int)) := by omega
    have hke : ¬ ((k : Int) + 1 ≤ (n : Int)) := by omega
    go_enter Try.func296, Try.ntmps296
    go_wp2_with fail
    go_quiet (fail)
    go_wp2_with fail
    go_quiet (fail)
    go_wp2
    go_ret
    obtain ⟨x, e, hx⟩ := and255 (IntKind.u64.wrap (IntKind.u64.wrap (s * 6364136223846793005)) + 1442695040888963407)
    exact ⟨⟨x, by rw [← e]; rfl, hx⟩, HN.out _ _ _⟩
set_option maxRecDepth 100000 in
set_option maxHeartbeats 1000000 in
theorem pick_c (w : World) (bp : Nat) (A : Option Addr) (n c k m : Nat) (h : Cur w bp A n c k) (hn : n ≤ 4294967296) (hk : k ≤ 4294967290) (hm : 1 ≤ m) (hm9 : m ≤ 1048576) :
    Calls Try.prog 195 #[.pointer (some ⟨bp, 0, none⟩), .int .i64 (m : Int)] w fun en w' => (∃ x : Nat, en = .returned (.int .i64 (x : Int)) ∧ x < m) ∧ (∃ k', k' ≤ k + 2 ∧ Cur w' bp A n c k') ∧ w.grownBy w' (some bp) := by
  have HC := Lib.hid h
  clear h
  by_cases h1 : m ≤ 1
  · have hi : (m : Int) ≤ 1 := by omega
    go_enter Try.func195, Try.ntmps195
    go_wp2
    go_ret
    exact ⟨⟨0, rfl, by omega⟩, ⟨k, by omega, HC.out⟩, World.grownBy.refl _ _⟩
  · have hi : ¬ ((m : Int) ≤ 1) := by omega
    have hm0 : ((m : Int) == 0) = false := by simp; omega
    by_cases h2 : 200 < m
    · have hj : (200 : Int) < (m : Int) := by omega
      go_enter Try.func195, Try.ntmps195
      go_wp2_with fail
      refine (next_c _ bp A n c k HC.out hn (by omega)).mono ?_
      rintro e w1 ⟨⟨x, rfl, hx⟩, hc1, g1⟩
      have HC1 := Lib.hid hc1
      clear hc1
      go_wp2_with fail
      refine (next_c _ bp A n c (k + 1) HC1.out hn (by omega)).mono ?_
      rintro e w2 ⟨⟨y, rfl, hy⟩, hc2, g2⟩
      have HC2 := Lib.hid hc2
      clear hc2
      go_wp2
      go_ret
      exact ⟨⟨(x * 256 + y) % m, by simp, Nat.mod_lt _ (by omega)⟩, ⟨k + 2, by omega, HC2.out⟩, grown_trans g1 g2⟩
    · have hj : ¬ ((200 : Int) < (m : Int)) := by omega
      go_enter Try.func195, Try.ntmps195
      go_wp2_with fail
      refine (next_c _ bp A n c k HC.out hn (by omega)).mono ?_
      rintro e w1 ⟨⟨x, rfl, hx⟩, hc1, g1⟩
      have HC1 := Lib.hid hc1
      clear hc1
      go_wp2
      go_ret
      exact ⟨⟨x % m, by simp, Nat.mod_lt _ (by omega)⟩, ⟨k + 1, by omega, HC1.out⟩, g1⟩
set_option maxRecDepth 100000 in
theorem one_cur_c (w : World) (bp : Nat) (A : Option Addr) (n c k m : Nat) (h : Cur w bp A n c k) (hn : n ≤ 4294967296) (hk : k ≤ 4294967290) (hm : 1 ≤ m) (hm9 : m ≤ 1048576) :
    Calls Try.prog 219 #[.pointer (some ⟨bp, 0, none⟩), .int .i64 (m : Int)] w fun en w' => (∃ b : Bool, en = .returned (.bool b)) ∧ (∃ k', k' ≤ k + 2 ∧ Cur w' bp A n c k') ∧ w.grownBy w' (some bp) := by
  have HC := Lib.hid h
  clear h
  go_enter Try.func219, Try.ntmps219
  go_wp2_with fail
  refine (pick_c _ bp A n c k m HC.out hn hk hm hm9).mono ?_
  rintro e w1 ⟨⟨x, rfl, hx⟩, ⟨k', hk', hc1⟩, g1⟩
  have HC1 := Lib.hid hc1
  clear hc1
  go_wp2
  go_ret
  exact ⟨⟨_, rfl⟩, ⟨k', hk', HC1.out⟩, g1⟩

theorem heap_new (w : World) (o : Obj) : (w.alloc o).heap[w.heap.size]? = some o := by show (w.heap.push o)[w.heap.size]? = some o; simp
theorem Il_alloc (w : World) (xs : List Int) (t : TypeId) (arr : Array Value) (h : arr = (xs.map (Value.int .i64)).toArray) : Il (w.alloc (.cells arr t)) (some ⟨w.heap.size, 0, none⟩) xs := fun hp => by
  subst h
  refine ⟨w.heap.size, 0, rfl, by simp, fun k hk => ?_⟩
  show (match (w.alloc _).heap[w.heap.size]? with | some (.cells c _ _) => c[0 + k]? | _ => none) = _
  rw [heap_new]
  simp [ivL, hk]
theorem Il_new (w : World) (xs : List Int) (t : TypeId) (arr : Array Value) (g : Nat) (hg : g = w.heap.size) (h : arr = (xs.map (Value.int .i64)).toArray) : Il (w.alloc (.cells arr t)) (some ⟨g, 0, none⟩) xs := by subst hg; exact Il_alloc w xs t arr h
theorem Cur.alloc {w : World} {bp n c k : Nat} {A : Option Addr} (h : Cur w bp A n c k) (o : Obj) : Cur (w.alloc o) bp A n c k := by
  obtain ⟨s, hh, hB⟩ := h
  have hlt := (Array.getElem?_eq_some_iff.1 hh).1
  exact ⟨s, ((World.grownBy_alloc w o none).block bp hlt (by simp)).trans hh, hB.below ((Below.refl bp w).grown (World.grownBy_alloc w o none) (Nat.le_of_lt hlt) (fun k hk => by simp at hk))⟩
set_option maxRecDepth 100000 in
theorem among_c (w : World) (bp : Nat) (A : Option Addr) (n c k g m d : Nat) (xs : List Int) (h : Cur w bp A n c k) (hX : Il w (some ⟨g, 0, none⟩) xs) (hg : g ≠ bp) (hn : n ≤ 4294967296) (hk : k ≤ 4294967290) (hx : m = xs.length) (hm : 1 ≤ m) (hm9 : m ≤ 1048576) :
    Calls Try.prog 196 #[.pointer (some ⟨bp, 0, none⟩), .slice (some ⟨g, 0, none⟩) m d] w fun en w' => (∃ v : Int, en = .returned (.int .i64 v) ∧ v ∈ xs) ∧ (∃ k', k' ≤ k + 2 ∧ Cur w' bp A n c k') ∧ w.grownBy w' (some bp) := by
  have HC := Lib.hid h
  have HX := Lib.hid hX
  have Hx := Lib.hid hx
  clear h hX hx
  go_enter Try.func196, Try.ntmps196
  go_wp2_with fail
  refine (pick_c _ bp A n c k m HC.out hn hk hm hm9).mono ?_
  rintro e w1 ⟨⟨x, rfl, hx⟩, ⟨k', hk', hc1⟩, g1⟩
  have HC1 := Lib.hid hc1
  obtain ⟨b, off, e, hb, hc⟩ := HX.out (by have := Hx.out; omega)
  injection e with e
  injection e with e1 e2
  subst e2
  rw [← e1] at hc
  clear e1 hb
  have hcx := g1.cell (hc x (by have := Hx.out; omega)) (by simpa using hg)
  have hcy : w1.cell? ⟨g, x, none⟩ = some (.int .i64 (ivL xs x)) := by simpa using hcx
  have hxi : (x : Int) < (m : Int) := by omega
  have HM := Lib.hid (show ivL xs x ∈ xs by rw [ivL, List.getD_eq_getElem?_getD, List.getElem?_eq_getElem (show x < xs.length by have := Hx.out; omega)]; exact List.getElem_mem _)
  clear hc1 hc
  go_wp2
  go_ret
  exact ⟨⟨_, rfl, HM.out⟩, ⟨k', hk', HC1.out⟩, g1⟩
set_option maxRecDepth 100000 in
theorem upTo_c (w : World) (bp : Nat) (A : Option Addr) (n c k : Nat) (h : Cur w bp A n c k) (hn : n ≤ 4294967296) (hk : k ≤ 4294967280) :
    Calls Try.prog 212 #[.pointer (some ⟨bp, 0, none⟩)] w fun en w' => (∃ v : Int, en = .returned (.int .i64 v)) ∧ (∃ k', k' ≤ k + 4 ∧ Cur w' bp A n c k') ∧ w.grownBy w' (some bp) := by
  have HC := Lib.hid h
  clear h
  go_enter Try.func212, Try.ntmps212
  go_wp2_with fail
  refine (one_cur_c _ bp A n c k 12 HC.out hn (by omega) (by omega) (by omega)).mono ?_
  rintro e w1 ⟨⟨b, rfl⟩, ⟨k1, hk1, hc1⟩, g1⟩
  have HC1 := Lib.hid hc1
  clear hc1
  cases b with
  | true =>
    go_wp2_with fail
    refine (among_c _ bp A n c k1 _ 5 _ [-1, 0, 600, 601, 4611686018427387904] (HC1.out.alloc _) (Il_alloc _ _ _ _ rfl) (by have := HC1.out.lt; omega) hn (by omega) rfl (by omega) (by omega)).mono ?_
    rintro e w2 ⟨⟨v, rfl, _⟩, ⟨k2, hk2, hc2⟩, g2⟩
    have HC2 := Lib.hid hc2
    clear hc2
    go_wp2
    go_ret
    exact ⟨⟨_, rfl⟩, ⟨k2, by omega, HC2.out⟩, grown_trans g1 (grown_trans (World.grownBy_alloc _ _ _) g2)⟩
  | false =>
    go_wp2_with fail
    refine (pick_c _ bp A n c k1 120 HC1.out hn (by omega) (by omega) (by omega)).mono ?_
    rintro e w2 ⟨⟨v, rfl, _⟩, ⟨k2, hk2, hc2⟩, g2⟩
    have HC2 := Lib.hid hc2
    clear hc2
    go_wp2
    go_ret
    exact ⟨⟨_, rfl⟩, ⟨k2, by omega, HC2.out⟩, grown_trans g1 g2⟩
theorem cur_new (w : World) (A : Option Addr) (n c : Nat) (hB : Byt w w.heap.size A n) : Cur (w.alloc (.cells #[.slice A n c, .int .i64 0, .int .u64 0] 127)) w.heap.size A n c 0 :=
  ⟨0, heap_new w _, hB.below ((Below.refl _ w).grown (World.grownBy_alloc w _ none) (Nat.le_refl _) (fun k hk => by simp at hk))⟩
theorem below_cur {w w' : World} {o : Obj} (g : (w.alloc o).grownBy w' (some w.heap.size)) : Below w.heap.size w w' :=
  ((Below.refl _ w).grown (World.grownBy_alloc w o none) (Nat.le_refl _) (fun k hk => by simp at hk)).grown g (by simp) (fun k hk => by injection hk with hk; omega)
set_option maxRecDepth 100000 in
theorem big_c (w : World) (A B : Option Addr) (n c m d : Nat) (hn : n ≤ 9223372036854775807) (hm : m ≤ 9223372036854775807) :
    Calls Try.prog 27 #[.slice A n c, .slice B m d] w fun en w' => en = .returned (.bool (!decide (n + m ≤ 1048576))) ∧ w = w' := by
  by_cases h1 : n ≤ 1048576
  · have hi : ¬ ((1048576 : Int) < (n : Int)) := by omega
    by_cases h2 : n + m ≤ 1048576
    · have hj : ¬ ((1048576 : Int) - (n : Int) < (m : Int)) := by omega
      rw [decide_eq_true h2]
      go_enter Try.func27, Try.ntmps27
      go_wp2
      go_ret
      exact ⟨rfl, rfl⟩
    · have hj : (1048576 : Int) - (n : Int) < (m : Int) := by omega
      rw [decide_eq_false h2]
      go_enter Try.func27, Try.ntmps27
      go_wp2
      go_ret
      exact ⟨rfl, rfl⟩
  · have hi : (1048576 : Int) < (n : Int) := by omega
    rw [decide_eq_false (show ¬ (n + m ≤ 1048576) by omega)]
    go_enter Try.func27, Try.ntmps27
    go_wp2
    go_ret
    exact ⟨rfl, rfl⟩

end Go.Proofs.Ytaapfapejekkfaa

namespace Go.Proofs.Ytaapfapejekkfaa
open Go.ChangeShapes Go.WideShapes Go.ChangeAt Go.RowKit Go.Deep
set_option maxRecDepth 100000
set_option linter.unusedVariables false
set_option linter.unusedSimpArgs false

section
variable {H : Type} {enc : TypeId × Value → H} {W : World} {base b0 : Nat} {r : Reach} {spare : Nat → Bool} {held : Bool}
/-- An argument of type []byte reads as bytes. -/
theorem open_byt {v : Value} {d : DataW H} {p : List MemPlace} (hval : Value.okWide Try.prog W r b0 36 v) (h : DataW.Trod enc Try.prog W base spare held 36 v d p) :
    ∃ A n c, v = .slice A n c ∧ n ≤ 9223372036854775807 ∧ Byt W W.heap.size A n := by
  obtain ⟨a0, len, cap, rfl⟩ := okWide_slice Try.underlying36 hval
  obtain ⟨fuel, hf⟩ := h
  rcases Go.ChangeShapes.open_ints Try.underlying36 Try.underlying5 (by kernel_rfl) hf with ⟨hcs, _⟩ | ⟨a, l, c, zs, hcs, _, hl, hm, hmm, _, hx, hwz⟩
  · simp [Value.cells] at hcs
    obtain ⟨rfl, rfl, rfl⟩ := hcs
    exact ⟨none, 0, 0, rfl, by omega, fun h => by simp at h⟩
  · simp [Value.cells] at hcs
    obtain ⟨rfl, rfl, rfl⟩ := hcs
    have hlm : len ≤ zs.length := by rw [hmm]; split <;> omega
    have hm' : len ≤ 9223372036854775807 := by unfold maxLen at hm; omega
    refine ⟨some a, len, cap, rfl, hm', fun hlen => ?_⟩
    have c0 := hx 0 (by omega)
    obtain ⟨b, off, rfl⟩ := addr_plain c0
    refine ⟨b, off, rfl, World.block_lt_of_cell? W _ (by simpa [add_plain] using c0), fun k hk => ?_⟩
    have g0 := hx k (by omega)
    rw [add_plain] at g0
    have hb := hwz (zs.getD k 0) (by rw [List.getD_eq_getElem?_getD, List.getElem?_eq_getElem (show k < zs.length by omega)]; exact List.getElem_mem _)
    have hr : 0 ≤ zs.getD k 0 ∧ zs.getD k 0 ≤ 255 := by have := bounds_u8 hb; omega
    exact ⟨(zs.getD k 0).toNat, by omega, by rw [g0]; congr 2; omega⟩
end

end Go.Proofs.Ytaapfapejekkfaa

namespace Go.Proofs.Ytaapfapejekkfaa
open Go.RowKit
set_option maxRecDepth 100000
set_option linter.unusedVariables false
set_option linter.unusedSimpArgs false

theorem grown_step {w0 w w' : World} {row : Option Nat} {B : Nat} (h : w0.grownBy w row) (hb : Below B w w') (hB : w0.heap.size ≤ B) : w0.grownBy w' row :=
  ⟨hb.os.trans h.os, hb.tape.trans h.tape, hb.output.trans h.output, Nat.le_trans h.size hb.size, fun i hi hn => (hb.block i (by omega)).trans (h.block i hi hn)⟩
theorem Cur.step {w w' : World} {bp n c k B : Nat} {A : Option Addr} (h : Cur w bp A n c k) (hb : Below B w w') (hB : bp < B) : Cur w' bp A n c k := by
  obtain ⟨s, h1, h2⟩ := h
  exact ⟨s, by rw [hb.block bp hB]; exact h1, h2.below (hb.mono (Nat.le_of_lt hB))⟩
theorem OwnR.grown {w w' : World} {B g : Nat} {v : Value} {rs : List (Int × Int)} (h : OwnR w B v rs) (hg : w.grownBy w' (some g)) (hB : g < B) : OwnR w' B v rs :=
  World.ownsRow.kept h hg (.inr fun e => by have := (World.ownsRow.lt h g e).1; omega)
def slN : Value → Nat
  | .slice _ m _ => m
  | _ => 0
/-- append(out, a, b) for rules that the call owns. -/
theorem wp_app_rule2 {ops : Array Oper} {rest : List Oper} {o : Oper} {a : Act} {Q : Exit → Act → World → Prop} (w : World) (hgd : o.guard = none) (s x : Operand)
    (ho : o.op = .call { callee := .builtin .append, args := #[s, x], argTypes := #[22, 22] }) (B : Nat) (v : Value) (rs : List (Int × Int)) (hs : a.eval s = v) (hown : OwnR w B v rs) (e q e2 q2 : Int)
    (hx : a.eval x = .slice (some ⟨w.heap.size, 0, none⟩) 2 2) (hl : rs.length ≤ 1048576) (hB : B ≤ w.heap.size)
    (h : ∀ v' w', OwnR w' B v' (rs ++ [(e, q), (e2, q2)]) → Below B w w' → wpList Try.prog ops Q rest (a.put o.dst v') w') : wpList Try.prog ops Q (o :: rest) a (w.alloc (.cells #[.int .i64 e, .int .i64 q, .int .i64 e2, .int .i64 q2] 69)) := by
  obtain ⟨i0, hi, hz0, hz1, hz2⟩ := info_parts info_R
  refine wpList_append_own _ hgd s x 22 ho B 69 i0 _ 2 16 Try.underlying22 hi hz0 hz1 hz2 rfl (by decide) v _ _ hs (World.ownsRow.alloc hown _) ⟨w.heap.size, 0, none⟩ 2 2 [.int .i64 e, .int .i64 q, .int .i64 e2, .int .i64 q2] hx rfl ?_ ?_ (by unfold maxLen; omega) (by omega) (by simp; omega) ?_
  · intro j u hj
    match j, hj with
    | 0, hj => simp at hj; subst hj; simp [Addr.add]
    | 1, hj => simp at hj; subst hj; simp [Addr.add]
    | 2, hj => simp at hj; subst hj; simp [Addr.add]
    | 3, hj => simp at hj; subst hj; simp [Addr.add]
    | j + 4, hj => simp at hj
  · intro u hu
    simp at hu
    rcases hu with rfl | rfl | rfl | rfl <;> rfl
  · intro v' w' hown' hg _
    refine h v' w' ?_ (((Below.refl B w).alloc hB _).grown hg (by simp; omega) fun k hk => (World.ownsRow.lt hown k hk).1)
    simpa [OwnR, cellsR, List.flatMap_append] using hown'
theorem far_cur_c (w : World) (bp : Nat) (A : Option Addr) (n c k : Nat) (h : Cur w bp A n c k) (hn : n ≤ 4294967296) (hk : k ≤ 4294967280) :
    Calls Try.prog 297 #[.pointer (some ⟨bp, 0, none⟩)] w fun en w' => (∃ v : Int, en = .returned (.int .i64 v)) ∧ (∃ k', k' ≤ k + 4 ∧ Cur w' bp A n c k') ∧ w.grownBy w' (some bp) := by
  have HC := Lib.hid h
  clear h
  go_enter Try.func297, Try.ntmps297
  go_wp2_with fail
  refine (one_cur_c _ bp A n c k 6 HC.out hn (by omega) (by omega) (by omega)).mono ?_
  rintro e w1 ⟨⟨b, rfl⟩, ⟨k1, hk1, hc1⟩, g1⟩
  have HC1 := Lib.hid hc1
  clear hc1
  cases b with
  | true =>
    go_wp2_with fail
    refine (among_c _ bp A n c k1 _ 6 _ [0, 1000000000, 1000000001, -1, 123456789, 4611686018427387904] (HC1.out.alloc _) (Il_alloc _ _ _ _ rfl) (by have := HC1.out.lt; omega) hn (by omega) rfl (by omega) (by omega)).mono ?_
    rintro e w2 ⟨⟨v, rfl, _⟩, ⟨k2, hk2, hc2⟩, g2⟩
    have HC2 := Lib.hid hc2
    clear hc2
    go_wp2
    go_ret
    exact ⟨⟨_, rfl⟩, ⟨k2, by omega, HC2.out⟩, grown_trans g1 (grown_trans (World.grownBy_alloc _ _ _) g2)⟩
  | false =>
    go_wp2_with fail
    refine (pick_c _ bp A n c k1 300 HC1.out hn (by omega) (by omega) (by omega)).mono ?_
    rintro e w2 ⟨⟨v, rfl, _⟩, ⟨k2, hk2, hc2⟩, g2⟩
    have HC2 := Lib.hid hc2
    clear hc2
    go_wp2
    go_ret
    exact ⟨⟨_, rfl⟩, ⟨k2, by omega, HC2.out⟩, grown_trans g1 g2⟩
set_option maxHeartbeats 2000000 in
theorem wheel_c (w : World) (bp : Nat) (A : Option Addr) (n c k : Nat) (h : Cur w bp A n c k) (hn : n ≤ 4294967296) (hk : k ≤ 4294967200) :
    Calls Try.prog 234 #[.pointer (some ⟨bp, 0, none⟩)] w fun en w' => (∃ v rs, en = .returned v ∧ OwnR w' w.heap.size v rs ∧ rs.length ≤ 20) ∧ (∃ k', k' ≤ k + 40 ∧ Cur w' bp A n c k') ∧ w.grownBy w' (some bp) := by
  have HC := Lib.hid h
  have hlt := h.lt
  clear h
  go_enter Try.func234, Try.ntmps234
  go_wp2_with fail
  refine (one_cur_c _ bp A n c k 5 HC.out hn (by omega) (by omega) (by omega)).mono ?_
  rintro e w1 ⟨⟨b, rfl⟩, ⟨k1, hk1, hc1⟩, g1⟩
  have HC1 := Lib.hid hc1
  have hs1 := g1.size
  clear hc1
  cases b with
  | true =>
    go_wp2_with fail
    refine (among_c _ bp A n c k1 _ 7 _ [0, 1, 2, 3, 4, 5, 6] (HC1.out.alloc _) (Il_alloc _ _ _ _ rfl) (by have := HC1.out.lt; omega) hn (by omega) rfl (by omega) (by omega)).mono ?_
    rintro e w2 ⟨⟨v, rfl, hv⟩, ⟨k2, hk2, hc2⟩, g2⟩
    have HC2 := Lib.hid hc2
    have hs2 := g2.size
    rw [World.size_alloc] at hs2
    have hv2 : 0 ≤ v ∧ v ≤ 6 := by simp at hv; omega
    obtain ⟨K, rfl⟩ := Int.eq_ofNat_of_zero_le hv2.1
    clear hc2 hv
    go_wp2_with fail
    refine (prRules_c _ K (by omega)).mono ?_
    rintro e w3 ⟨⟨v3, rfl, o3⟩, b3⟩
    have g3 := grown_step (grown_trans g1 (grown_trans (World.grownBy_alloc w1 _ (some bp)) g2)) b3 (by omega)
    go_wp2
    go_ret
    exact ⟨⟨_, _, rfl, OwnR.mono o3 (by omega), by rw [ruL, List.length_map, List.length_take]; omega⟩, ⟨k2, by omega, HC2.out.step b3 HC2.out.lt⟩, g3⟩
  | false =>
    go_wp2_with fail
    refine (pick_c _ bp A n c k1 4 HC1.out hn (by omega) (by omega) (by omega)).mono ?_
    rintro e w2 ⟨⟨j0, rfl, hj0⟩, ⟨k2, hk2, hc2⟩, g2⟩
    have HC2 := Lib.hid hc2
    have G2 := grown_trans g1 g2
    clear hc2
    go_wp2
    go_loopw [3, 4] (fun o i wr => ∃ (j : Nat) (rs : List (Int × Int)) (kk : Nat), i = .int .i64 (j : Int) ∧ rs.length + j ≤ 3 ∧ OwnR wr w.heap.size o rs ∧ kk + 4 * j ≤ k + 16 ∧ Cur wr bp A n c kk ∧ w.grownBy wr (some bp)) (fun _ i _ => (intOf i).toNat)
    case atStart => exact ⟨j0, [], k2, rfl, by simp; omega, World.ownsRow_nil _ _ _ _, by omega, HC2.out, G2⟩
    case round =>
      obtain ⟨j, rs, kk, rfl, hl3, hown, hkk, hcu, G⟩ := hrel
      have Hown := Lib.hid hown
      have Hcu := Lib.hid hcu
      have hgs := G.size
      clear hown hcu HC1 HC2
      by_cases hj : 0 < j
      · have hj1 : (0 : Int) < (j : Int) := by omega
        go_wp2_with fail
        refine (pick_c _ bp A n c kk 9 Hcu.out hn (by omega) (by omega) (by omega)).mono ?_
        rintro e w4 ⟨⟨x, rfl, hx⟩, ⟨k4, hk4, hc4⟩, g4⟩
        have HC4 := Lib.hid hc4
        have Ho4 := Lib.hid (Hown.out.grown g4 hlt)
        have hs4 := g4.size
        have hm : (2 : Int) + (x : Int) = ((2 + x : Nat) : Int) := by omega
        have Hm := Lib.hid hm
        clear hm
        clear hc4
        go_wp2_with fail
        first
          | refine (pick_c _ bp A n c k4 (2 + x) HC4.out hn (by omega) (by omega) (by omega)).mono ?_
          | (rw [Hm.out]; refine (pick_c _ bp A n c k4 (2 + x) HC4.out hn (by omega) (by omega) (by omega)).mono ?_)
        rintro e w5 ⟨⟨y, rfl, hy⟩, ⟨k5, hk5, hc5⟩, g5⟩
        have HC5 := Lib.hid hc5
        have Ho5 := Lib.hid (Ho4.out.grown g5 hlt)
        have hs5 := g5.size
        have G5 := grown_trans G (grown_trans g4 g5)
        clear hc5
        go_wp2_with (at_builtin; refine wp_app_rule _ rfl _ _ rfl w.heap.size _ _ rfl Ho5.out _ _ rfl (by omega) (by omega) ?_; intro v' w6 o6 b6)
        have o6' := Lib.hid o6
        clear o6
        go_roundw
        case rel => exact ⟨j - 1, _, k5, by first | go_num | (congr 1; omega), by rw [List.length_append, List.length_singleton]; omega, o6'.out, by omega, HC5.out.step b6 hlt, grown_step G5 b6 (Nat.le_refl _)⟩
        case measure => simp [intOf]; omega
      · have hj1 : ¬ (0 : Int) < (j : Int) := by omega
        go_wp2_with fail
        refine (pick_c _ bp A n c kk 16 Hcu.out hn (by omega) (by omega) (by omega)).mono ?_
        rintro e w4 ⟨⟨x, rfl, hx⟩, ⟨k4, hk4, hc4⟩, g4⟩
        have HC4 := Lib.hid hc4
        have Ho4 := Lib.hid (Hown.out.grown g4 hlt)
        have hs4 := g4.size
        have G4 := grown_trans G g4
        clear hc4
        by_cases h0 : x = 0
        · have e0 : ((x : Int) == 0) = true := by rw [beq_iff_eq]; omega
          clear h0
          go_wp2_with fail
          refine (among_c _ bp A n c k4 _ 6 _ [1, 2, 59, 60, 61, 0] (HC4.out.alloc _) (Il_alloc _ _ _ _ rfl) (by omega) hn (by omega) rfl (by omega) (by omega)).mono ?_
          rintro e w5 ⟨⟨v, rfl, _⟩, ⟨k5, hk5, hc5⟩, g5⟩
          have g5' := grown_trans (World.grownBy_alloc w4 _ (some bp)) g5
          have HC5 := Lib.hid hc5
          have Ho5 := Lib.hid (Ho4.out.grown g5' hlt)
          have hs5 := g5'.size
          clear hc5
          go_wp2_with fail
          refine (among_c _ bp A n c k5 _ 3 _ [0, 1, -1] (HC5.out.alloc _) (Il_alloc _ _ _ _ rfl) (by omega) hn (by omega) rfl (by omega) (by omega)).mono ?_
          rintro e w7 ⟨⟨u, rfl, _⟩, ⟨k7, hk7, hc7⟩, g7⟩
          have g7' := grown_trans (World.grownBy_alloc w5 _ (some bp)) g7
          have HC7 := Lib.hid hc7
          have Ho7 := Lib.hid (Ho5.out.grown g7' hlt)
          have hs7 := g7'.size
          have G7 := grown_trans G4 (grown_trans g5' g7')
          clear hc7
          go_wp2_with (at_builtin; refine wp_app_rule _ rfl _ _ rfl w.heap.size _ _ rfl Ho7.out _ _ rfl (by omega) (by omega) ?_; intro v' w6 o6 b6)
          go_wp2
          go_ret
          exact ⟨⟨_, _, rfl, o6, by rw [List.length_append, List.length_singleton]; omega⟩, ⟨k7, by omega, HC7.out.step b6 hlt⟩, grown_step G7 b6 (Nat.le_refl _)⟩
        have e0 : ((x : Int) == 0) = false := by rw [beq_eq_false_iff_ne]; omega
        clear h0
        by_cases h1 : x = 1
        · have e1 : ((x : Int) == 1) = true := by rw [beq_iff_eq]; omega
          clear h1
          go_wp2_with (at_builtin; refine wp_app_rule2 _ rfl _ _ rfl w.heap.size _ _ rfl Ho4.out _ _ _ _ rfl (by omega) (by omega) ?_; intro v' w6 o6 b6)
          go_wp2
          go_ret
          exact ⟨⟨_, rs ++ [(2, 0), (2, 1)], rfl, o6, by rw [List.length_append]; show rs.length + 2 ≤ 20; omega⟩, ⟨k4, by omega, HC4.out.step b6 hlt⟩, grown_step G4 b6 (Nat.le_refl _)⟩
        have e1 : ((x : Int) == 1) = false := by rw [beq_eq_false_iff_ne]; omega
        clear h1
        by_cases h2 : x = 2
        · have e2 : ((x : Int) == 2) = true := by rw [beq_iff_eq]; omega
          clear h2
          go_wp2
          go_loopw [3] (fun o wr => ∃ (rs : List (Int × Int)), rs.length ≤ 12 ∧ OwnR wr w.heap.size o rs ∧ Cur wr bp A n c k4 ∧ w.grownBy wr (some bp)) (fun o _ => 12 - slN o)
          case atStart => exact ⟨rs, by omega, Ho4.out, HC4.out, G4⟩
          case round =>
            obtain ⟨rs2, hl12, hown, hcu, G9⟩ := hrel
            have Hown9 := Lib.hid hown
            have Hcu9 := Lib.hid hcu
            have hgs9 := G9.size
            obtain ⟨A9, c9, rfl⟩ := OwnR.shape hown
            clear hown hcu
            by_cases hlt12 : rs2.length < 12
            · have hi12 : (rs2.length : Int) < 12 := by omega
              go_wp2_with (at_builtin; refine wp_app_rule _ rfl _ _ rfl w.heap.size _ _ rfl Hown9.out _ _ rfl (by omega) (by omega) ?_; intro v' w6 o6 b6)
              have o6' := Lib.hid o6
              obtain ⟨A6, c6, rfl⟩ := OwnR.shape o6
              clear o6
              go_roundw
              case rel => exact ⟨_, by rw [List.length_append, List.length_singleton]; omega, o6'.out, Hcu9.out.step b6 hlt, grown_step G9 b6 (Nat.le_refl _)⟩
              case measure => simp [slN]; omega
            · have hi12 : ¬ (rs2.length : Int) < 12 := by omega
              go_wp2
              go_ret
              have hl20 : rs2.length ≤ 20 := by omega
              have hk40 : k4 ≤ k + 40 := by omega
              refine ⟨?_, ⟨k4, hk40, Hcu9.out⟩, G9⟩
              first | exact ⟨_, _, rfl, Hown9.out, hl20⟩ | exact ⟨_, rfl, _, Hown9.out, hl20⟩
        have e2 : ((x : Int) == 2) = false := by rw [beq_eq_false_iff_ne]; omega
        clear h2
        go_wp2
        go_ret
        exact ⟨⟨_, _, rfl, Ho4.out, by omega⟩, ⟨k4, by omega, HC4.out⟩, G4⟩
set_option maxHeartbeats 1000000 in
theorem DrawIsSpoke_c (w : World) (A : Option Addr) (n c : Nat) (hB : Byt w w.heap.size A n) (hn : n ≤ 4294967296) :
    Calls Try.prog 198 #[.slice A n c] w fun en w' => (∃ v rs m, en = .returned (.tuple #[v, .int .i64 m]) ∧ OwnR w' w.heap.size v rs ∧ rs.length ≤ 20) ∧ Below w.heap.size w w' := by
  have HC := Lib.hid (cur_new w A n c hB)
  clear hB
  go_enter Try.func198, Try.ntmps198
  go_wp2_with fail
  refine (wheel_c _ w.heap.size A n c 0 HC.out hn (by omega)).mono ?_
  rintro e w2 ⟨⟨v, rs, rfl, o2, hl⟩, ⟨k2, hk2, hc2⟩, g1⟩
  have HC2 := Lib.hid hc2
  have hlt := hc2.lt
  have Ho := Lib.hid o2
  clear hc2 o2
  go_wp2_with fail
  refine (far_cur_c _ w.heap.size A n c k2 HC2.out hn (by omega)).mono ?_
  rintro e w3 ⟨⟨u, rfl⟩, -, g3⟩
  have o3 := OwnR.mono (Ho.out.grown g3 (by simp)) (show w.heap.size ≤ _ by simp)
  have B := below_cur (grown_trans g1 g3)
  go_wp2
  go_ret2
  exact ⟨⟨_, _, _, rfl, o3, hl⟩, B⟩
set_option maxHeartbeats 1000000 in
theorem DrawSpokeOfRank_c (w : World) (A : Option Addr) (n c : Nat) (hB : Byt w w.heap.size A n) (hn : n ≤ 4294967296) :
    Calls Try.prog 44 #[.slice A n c] w fun en w' => (∃ v rs m, en = .returned (.tuple #[v, .int .i64 m]) ∧ OwnR w' w.heap.size v rs ∧ rs.length ≤ 20) ∧ Below w.heap.size w w' := by
  go_enter Try.func44, Try.ntmps44
  go_wp2_with fail
  refine (DrawIsSpoke_c _ A n c hB hn).mono ?_
  rintro e w1 ⟨⟨v, rs, m, rfl, o, hl⟩, B⟩
  go_wp2
  go_ret2
  exact ⟨⟨_, _, _, rfl, o, hl⟩, B⟩

end Go.Proofs.Ytaapfapejekkfaa

namespace Go.Proofs.Ytaapfapejekkfaa
open Go.RowKit Go.Maps
set_option linter.unusedVariables false
set_option linter.unusedSimpArgs false

/-- The set of the first k numbers for which p holds, as a map's datum. -/
def Rs (p : Int → Bool) : Nat → DataW Unit
  | 0 => .map []
  | k + 1 => if p (k : Int) then (Rs p k).put (.int .i64 (k : Int)) (.lit (.bool true)) else Rs p k
theorem Rs_yes {p : Int → Bool} {k : Nat} (h : p (k : Int) = true) : Rs p (k + 1) = (Rs p k).put (.int .i64 (k : Int)) (.lit (.bool true)) := by rw [Rs, if_pos h]
theorem Rs_no {p : Int → Bool} {k : Nat} (h : p (k : Int) = false) : Rs p (k + 1) = Rs p k := by rw [Rs, if_neg (by rw [h]; exact Bool.false_ne_true)]
theorem tidy_Rs (p : Int → Bool) (k : Nat) : Tidy (Rs p k) := by
  induction k with
  | zero => exact tidy_empty
  | succ k ih =>
    cases h : p (k : Int) with
    | true => rw [Rs_yes h]; exact ih.put (by trivial) _
    | false => rw [Rs_no h]; exact ih
/-- Whose keys they are. -/
def inB2 (p : Int → Bool) (k : Nat) (j : Int) : Bool := decide (0 ≤ j ∧ j < (k : Int)) && p j
theorem has_Rs (p : Int → Bool) (k : Nat) (j : Int) : has (Rs p k) (.int .i64 j) = inB2 p k j := by
  induction k with
  | zero => 
    have : ¬ (0 ≤ j ∧ j < ((0 : Nat) : Int)) := by omega
    simp only [inB2, this, decide_false, Bool.false_and]; rfl
  | succ k ih =>
    by_cases hj : j = (k : Int)
    · subst hj
      cases h : p (k : Int) with
      | true => rw [Rs_yes h, has_put_same (tidy_Rs p k).isMap (by trivial)]; simp [inB2, h]; omega
      | false => rw [Rs_no h, ih]; simp [inB2, h]
    · have hd : decide (0 ≤ j ∧ j < ((k + 1 : Nat) : Int)) = decide (0 ≤ j ∧ j < (k : Int)) := by apply decide_eq_decide.2; omega
      have hi : inB2 p (k + 1) j = inB2 p k j := by simp only [inB2, hd]
      rw [hi, ← ih]
      cases h : p (k : Int) with
      | true => rw [Rs_yes h, has_put_other (fun e => hj (by cases e; rfl))]
      | false => rw [Rs_no h]
theorem size_Rs (p : Int → Bool) (k : Nat) : Maps.size (Rs p k) = cntF p 0 k := by
  induction k with
  | zero => rfl
  | succ k ih =>
    have e : ((0 : Nat) : Int) + (k : Int) = (k : Int) := by omega
    cases h : p (k : Int) with
    | true =>
      rw [Rs_yes h, size_put (tidy_Rs p k), has_Rs, cntF_yes (by rw [e]; exact h), ih]
      have : inB2 p k (k : Int) = false := by simp [inB2]
      rw [this]; rfl
    | false => rw [Rs_no h, cntF_no (by rw [e]; exact h), ih]

theorem keyI : Keyed Try.prog 3 := int_keyed Try.underlying3
theorem map_below {w w' : World} {P : Program} {k : TypeId} {R : Value → Option (DataW Unit × List MemPlace)} {b n B : Nat} {D : DataW Unit} (h : w.ownsMap P k R b n D) (hb : Below B w w') (hB : w.heap.size ≤ B) : w'.ownsMap P k R b n D := by
  have hlt := h.lt
  obtain ⟨es, clock, hb0, F, hs, hD⟩ := h
  exact ⟨es, clock, (hb.block b (by omega)).trans hb0, F, hs, hD⟩
theorem wfN {k n : Nat} (h : k ≤ n) (hn : n ≤ 100000) : (Lit.int .i64 (k : Int)).wf = true := by
  have h2 : (k : Int) ≤ 100000 := by omega
  have h1 : IntKind.i64.min = -9223372036854775808 := by decide
  have h3 : IntKind.i64.max = 9223372036854775807 := by decide
  simp only [Lit.wf, Bool.and_eq_true, decide_eq_true_eq, h1, h3]
  omega

set_option maxRecDepth 100000 in
set_option maxHeartbeats 800000 in
theorem leftRests_c (A : Option Addr) (c m n : Nat) (rs : List (Int × Int)) (w : World) (hA : Rl w A rs) (hm : m = rs.length) (hg : goodL rs = true) (hn : n ≤ 100000) :
    Calls Try.prog 210 #[.slice A m c, .int .i64 (n : Int)] w fun en w' => en = .returned (.map (some w.heap.size)) ∧ w'.ownsMap Try.prog 3 (plainElem Try.prog 4) w.heap.size n (Rs (leftF rs) n) ∧ Below w.heap.size w w' := by
  have hmm := @run_makeMap Try.prog
  have Hm := Lib.hid hm
  have Hg := Lib.hid hg
  clear hm hg
  go_enter Try.func210, Try.ntmps210
  go_wp2
  go_loopw [9] (fun i wr => ∃ k : Nat, k ≤ n ∧ i = .int .i64 (k : Int) ∧ wr.ownsMap Try.prog 3 (plainElem Try.prog 4) w.heap.size k (Rs (leftF rs) k) ∧ Below w.heap.size w wr)
    (fun i _ => n - (intOf i).toNat)
  case atStart => exact ⟨0, Nat.zero_le _, rfl, World.ownsMap_made _ _ _ _, (Below.refl _ _).alloc (Nat.le_refl _) _⟩
  case round =>
    obtain ⟨k, hk, rfl, hown, hbel⟩ := hrel
    have hs := hbel.size
    have hR := hA.below hbel
    have hkey : keyOf Try.prog 3 (.int .i64 (k : Int)) = some (.int .i64 (k : Int)) := keyOf_int_mk Try.underlying3 (wfN hk hn)
    by_cases hlt : (k : Int) < (n : Int)
    · have hlt0 : k < n := by omega
      cases hl : leftF rs (k : Int) with
      | true =>
        have Hy := Lib.hid (Rs_yes hl)
        go_wp2_with fail
        refine (isLeft_c _ _ _ rs _ _ hR Hm.out Hg.out (by omega) (by omega)).mono ?_
        rintro e w1 ⟨rfl, b1⟩
        rw [hl]
        have hown0 := map_below hown b1 (Nat.le_refl _)
        go_wp2_with (first
          | (at_mapUpdate; refine wpList_mapUpdate_own _ rfl _ _ _ 136 rfl 3 4 keyI Try.underlying136 _ w.heap.size k _ rfl hown0 (by unfold maxLen; omega) _ _ _ rfl rfl hkey _ [] (plainElem_bool Try.underlying4 true) ?_; intro w2 hown2 hgrow2)
          | go_in)
        have hb2 : Below w.heap.size w w2 := (hbel.trans (b1.mono hs)).grown hgrow2 (Nat.le_trans hs b1.size) (fun j hj => by cases hj; exact Nat.le_refl _)
        go_roundw
        case rel => exact ⟨k + 1, by omega, by go_num, Hy.out.symm ▸ hown2, hb2⟩
        case measure => simp [intOf]; omega
      | false =>
        have Hy := Lib.hid (Rs_no hl)
        go_wp2_with fail
        refine (isLeft_c _ _ _ rs _ _ hR Hm.out Hg.out (by omega) (by omega)).mono ?_
        rintro e w1 ⟨rfl, b1⟩
        rw [hl]
        have hown0 := map_below hown b1 (Nat.le_refl _)
        go_wp2
        go_roundw
        case rel => exact ⟨k + 1, by omega, by go_num, Hy.out.symm ▸ (hown0.mono (Nat.le_succ _)), hbel.trans (b1.mono hs)⟩
        case measure => simp [intOf]; omega
    · have : k = n := by omega
      subst this
      go_wp2
      go_ret
      exact ⟨rfl, hown, hbel⟩

set_option maxRecDepth 100000 in
set_option maxHeartbeats 1000000 in
theorem impl_LeftInPeriod_c (w : World) (A : Option Addr) (m c : Nat) (rs : List (Int × Int)) (hA : Rl w A rs) (hm : m = rs.length) (hn : m ≤ 1048576) :
    Calls Try.prog 61 #[.slice A m c] w fun en w' => en = .returned (.tuple #[.int .i64 (lipV rs), .bool (perOk rs)]) ∧ Below w.heap.size w w' := by
  have Hm := Lib.hid hm
  clear hm
  cases hp : perOk rs with
  | false =>
    rw [lip_no hp]
    go_enter Try.func61, Try.ntmps61
    go_wp2_with fail
    refine (impl_PeriodOfRules_c _ _ _ _ rs hA Hm.out hn).mono ?_
    rintro e w1 ⟨rfl, b1⟩
    have hA_1 := hA.below b1
    go_wp2
    go_ret2
    exact ⟨rfl, b1⟩
  | true =>
    obtain ⟨hg, _, pl1, pl2⟩ := perOk_parts hp
    obtain ⟨P, hP⟩ : ∃ P : Nat, perF rs = (P : Int) := ⟨(perF rs).toNat, by omega⟩
    have hv : perV rs = (P : Int) := by rw [perV, hg, ← hP]; rfl
    have hl : lipV rs = (cntF (leftF rs) 0 P : Int) := by rw [lip_yes hp, hP]; rfl
    have hsz := size_Rs (leftF rs) P
    rw [hl]
    have Hg := Lib.hid hg
    have Hv := Lib.hid hv
    have Hs := Lib.hid hsz
    clear hsz
    have hP5 : P ≤ 100000 := by omega
    clear hg hv hl hP pl1 pl2
    have Hp := Lib.hid hp
    go_enter Try.func61, Try.ntmps61
    go_wp2_with fail
    refine (impl_PeriodOfRules_c _ _ _ _ rs hA Hm.out hn).mono ?_
    rintro e w1 ⟨rfl, b1⟩
    have hA_1 := hA.below b1
    rw [Hv.out]
    go_wp2_with fail
    refine (leftRests_c _ _ _ P rs _ hA_1 Hm.out Hg.out hP5).mono ?_
    rintro e w2 ⟨rfl, hown, b2⟩
    go_wp2_with (first
      | (at_len; refine wpList_len_own _ rfl _ 136 rfl 3 4 Try.underlying136 _ _ _ _ rfl hown ?_)
      | go_in)
    go_ret2
    exact ⟨by rw [Hs.out]; rfl, b1.trans (b2.mono b1.size)⟩

end Go.Proofs.Ytaapfapejekkfaa
