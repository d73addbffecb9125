import Derived.Test.YtgkciiklgadgkaaL0
import Derived.Test.YtgkciiklgadgkaaE1
namespace Go.Proofs.Ytgkciiklgadgkaa
open Go.RowKit
set_option linter.unusedVariables false
set_option linter.unusedSimpArgs false

theorem numB_lo {n : Int} (h : numB n = true) : -10000000000000 ≤ n := by have := numB_true.1 h; omega
theorem numB_hi {n : Int} (h : numB n = true) : n ≤ 10000000000000 := by have := numB_true.1 h; omega

def okN (rs : List (Int × Int)) (n : Int) : Bool := goodL rs && numB n
def isLeftV (rs : List (Int × Int)) (n : Int) : Bool := okN rs n && leftF rs n
def firstV (rs : List (Int × Int)) (n : Int) : Int := if okN rs n && !leftF rs n then (fIdx rs n : Int) else 0
def firstOk (rs : List (Int × Int)) (n : Int) : Bool := okN rs n && !leftF rs n



theorem firstI_pos {rs : List (Int × Int)} {n : Int} (h : leftF rs n = false) : firstI rs n = (fIdx rs n : Int) := by
  have := fIdx_le rs n
  simp only [leftF, decide_eq_false_iff_not] at h
  rw [firstI, if_pos (by omega)]
theorem firstK_ok {rs : List (Int × Int)} {n : Int} (h : okN rs n = true) : firstK rs n = firstV rs n ∧ crossedB rs n = firstOk rs n := by
  have := fIdx_le rs n
  rw [firstK, firstV, firstOk, h, crossedB]
  cases hl : leftF rs n with
  | true =>
    simp only [leftF, decide_eq_true_eq] at hl
    rw [hl]
    simp
  | false =>
    simp only [leftF, decide_eq_false_iff_not] at hl
    have : fIdx rs n < rs.length := by omega
    simp [this]



end Go.Proofs.Ytgkciiklgadgkaa

namespace Go.Proofs.Ytgkciiklgadgkaa
open Go.RowKit
set_option linter.unusedVariables false
set_option linter.unusedSimpArgs false

def mostB (n : Int) : Bool := inB n 0 600
theorem mostB_true {n : Int} : mostB n = true ↔ 0 ≤ n ∧ n ≤ 600 := inB_true
theorem isMost_c (n : Int) (w : World) :
    Calls Try.prog 58 #[.int .i64 n] w fun en w' => en = .returned (.bool (mostB n)) ∧ w = w' := by
  by_cases h1 : 0 ≤ n
  · by_cases h2 : n ≤ 600
    · rw [show mostB n = true from inB_true.2 ⟨h1, h2⟩]
      go_enter Try.func58, Try.ntmps58
      go_wp2
      go_ret
      exact ⟨rfl, rfl⟩
    · rw [show mostB n = false from inB_false.2 (by omega)]
      go_enter Try.func58, Try.ntmps58
      go_wp2
      go_ret
      exact ⟨rfl, rfl⟩
  · rw [show mostB n = false from inB_false.2 (by omega)]
    go_enter Try.func58, Try.ntmps58
    go_wp2
    go_ret
    exact ⟨rfl, rfl⟩

end Go.Proofs.Ytgkciiklgadgkaa

namespace Go.Proofs.Ytgkciiklgadgkaa
open Go.RowKit
set_option linter.unusedVariables false
set_option linter.unusedSimpArgs false

def okM (rs : List (Int × Int)) (n : Int) : Bool := goodL rs && mostB n

/-- Of 1, .., k those with p, in order. -/
def upF (p : Int → Bool) (k : Nat) : List Int := ((List.range k).map fun i : Nat => (i : Int) + 1).filter p
theorem upF_succ (p : Int → Bool) (k : Nat) : upF p (k + 1) = if p ((k : Int) + 1) = true then upF p k ++ [(k : Int) + 1] else upF p k := by
  simp only [upF, List.range_succ, List.map_append, List.filter_append, List.map_cons, List.map_nil]
  cases h : p ((k : Int) + 1) <;> simp [h]
theorem upF_yes {p : Int → Bool} {k : Nat} (h : p ((k : Int) + 1) = true) : upF p (k + 1) = upF p k ++ [(k : Int) + 1] := by rw [upF_succ, if_pos h]
theorem upF_no {p : Int → Bool} {k : Nat} (h : p ((k : Int) + 1) = false) : upF p (k + 1) = upF p k := by rw [upF_succ, if_neg (by rw [h]; exact Bool.false_ne_true)]
theorem upF_len (p : Int → Bool) (k : Nat) : (upF p k).length ≤ k := Nat.le_trans (List.length_filter_le _ _) (by simp)

theorem OwnR.below {w w' : World} {B : Nat} {v : Value} {rs : List (Int × Int)} (h : OwnR w B v rs) (hb : Below w.heap.size w w') : OwnR w' B v rs := own_below h hb



end Go.Proofs.Ytgkciiklgadgkaa

namespace Go.Proofs.Ytgkciiklgadgkaa
open Go.RowKit
set_option linter.unusedVariables false
set_option linter.unusedSimpArgs false

def leftArr (rs : List (Int × Int)) : Array Value := ((List.range 601).map fun j : Nat => Value.bool (leftF rs j)).toArray
theorem leftArr_size (rs : List (Int × Int)) : (leftArr rs).size = 601 := by unfold leftArr; rw [List.size_toArray, List.length_map, List.length_range]
theorem leftArr_get (rs : List (Int × Int)) {j : Nat} (h : j < 601) : (leftArr rs)[j]? = some (.bool (leftF rs j)) := by
  unfold leftArr
  rw [List.getElem?_toArray, List.getElem?_map, List.getElem?_range h]
  rfl
theorem leftArr_of {rs : List (Int × Int)} {cur : Array Value} (hs : cur.size = 601) (h : ∀ j, j < 601 → cur[j]? = some (.bool (leftF rs j))) : cur = leftArr rs := by
  apply Array.ext_getElem?
  intro j
  by_cases hj : j < 601
  · rw [h j hj, leftArr_get rs hj]
  · rw [Array.getElem?_eq_none (by omega), Array.getElem?_eq_none (by rw [leftArr_size]; omega)]
theorem leftArr_one (rs : List (Int × Int)) : (leftArr rs).all (·.oneCell') = true := by
  rw [Array.all_eq_true_iff_forall_mem]
  intro x hx
  unfold leftArr at hx
  simp only [List.mem_toArray, List.mem_map] at hx
  obtain ⟨j, _, rfl⟩ := hx
  rfl
theorem zero60_size : Try.zeroCells82.size = 601 := by kernel_rfl
theorem size60 : (Try.prog.info? 82).map (·.size) = some 601 := by kernel_rfl

set_option maxHeartbeats 1000000 in
set_option maxRecDepth 100000 in
theorem leftNumbers_c (w : World) (A : Option Addr) (m c : Nat) (rs : List (Int × Int)) (hA : Rl w A rs) (hm : m = rs.length) (hg : goodL rs = true) :
    Calls Try.prog 59 #[.slice A m c] w fun en w' => en = .returned (.agg (leftArr rs)) ∧ Below w.heap.size w w' := by
  have Hm := Lib.hid hm
  have Hg := Lib.hid hg
  clear hm hg
  have hz0 : ((w.alloc (.cells Try.zeroCells82 82)).alloc (.cells Try.zeroCells82 82)).heap[w.heap.size + 1]? = some (.cells Try.zeroCells82 82 (0, 0)) := heap_alloc2_new w _ _
  have hz1 : ((w.alloc (.cells Try.zeroCells82 82)).alloc (.cells Try.zeroCells82 82)).heap[w.heap.size]? = some (.cells Try.zeroCells82 82 (0, 0)) := heap_alloc2_old w _ _
  have Hz0 := Lib.hid hz0
  have Hz1 := Lib.hid hz1
  clear hz0 hz1
  go_enter Try.func59, Try.ntmps59
  go_wp2_with fail
  go_loopw [5] (fun i wr => ∃ k : Nat, k ≤ 601 ∧ i = .int .i64 k ∧ wr.heap[w.heap.size]? = some (.cells Try.zeroCells82 82 (0, 0)) ∧ (∃ cur : Array Value, wr.heap[w.heap.size + 1]? = some (.cells cur 82 (0, 0)) ∧ cur.size = 601 ∧ ∀ j, j < k → cur[j]? = some (.bool (leftF rs j))) ∧ Below w.heap.size w wr) (fun i _ => 601 - (intOf i).toNat)
  case atStart => exact ⟨0, Nat.zero_le _, rfl, Hz1.out, ⟨_, Hz0.out, zero60_size, by omega⟩, ((Below.refl _ _).alloc (Nat.le_refl _) _).alloc (by simp) _⟩
  case round =>
    obtain ⟨k, hk, rfl, hz1, ⟨cur, hc, hcs, hcur⟩, hbel⟩ := hrel
    have Hz := Lib.hid hz1
    have Hc := Lib.hid hc
    have Hcur := Lib.hid hcur
    have Hcs := Lib.hid hcs
    have hsz : w.heap.size + 1 < wr.heap.size := (Array.getElem?_eq_some_iff.1 hc).1
    clear hz1 hc hcur hcs
    have hs := hbel.size
    have hR := hA.below hbel
    by_cases hlt : k < 601
    · have hin : (cur[k]?).isSome = true := by rw [Array.getElem?_eq_getElem (by rw [Hcs.out]; exact hlt)]; rfl
      obtain ⟨x0, hx0⟩ := Option.isSome_iff_exists.1 hin
      clear hin
      have Hx0 := Lib.hid ((cell_of_row wr (w.heap.size + 1) k cur _ _ Hc.out).trans hx0)
      clear hx0
      have Hf0 := Lib.hid (frozen_of_row wr (w.heap.size + 1) k cur _ Hc.out)
      go_wp2_with fail
      refine (isLeft_c _ _ _ rs _ _ hR Hm.out Hg.out (by omega) (by omega)).mono ?_
      rintro e w1 ⟨rfl, b1⟩
      have hy0 := (b1.cell (p := ⟨w.heap.size + 1, k, none⟩) hsz).trans Hx0.out
      have hy1 := (b1.frozen (p := ⟨w.heap.size + 1, k, none⟩) hsz).trans Hf0.out
      go_wp2
      go_roundw
      case rel =>
        have h1 : w1.heap[w.heap.size + 1]? = _ := (b1.block _ hsz).trans Hc.out
        have h0 : w1.heap[w.heap.size]? = _ := (b1.block _ (by omega)).trans Hz.out
        refine ⟨k + 1, by omega, by go_num, (heap_setCell_other w1 ⟨w.heap.size + 1, k, none⟩ _ _ (by simp)).trans h0, ⟨_, heap_setCell_same w1 _ _ _ _ _ h1, by simpa using Hcs.out, fun j hj => ?_⟩, (hbel.trans (b1.mono hs)).setCell (by simp) _⟩
        rcases Nat.lt_succ_iff_lt_or_eq.1 hj with h | h
        · rw [Array.getElem?_setIfInBounds_ne (by omega)]; exact Hcur.out j h
        · subst h; rw [Array.getElem?_setIfInBounds_self_of_lt (by rw [Hcs.out]; exact hlt)]
      case measure => simp [intOf]; omega
    · have hk6 : k = 601 := by omega
      have Hcur' := Lib.hid (leftArr_of Hcs.out fun j hj => Hcur.out j (by omega))
      have Hsz := Lib.hid (leftArr_size rs)
      have Hs6 := Lib.hid size60
      clear hk6
      go_wp2_with (first | (refine wpList_load_row rfl 82 (.tmp 3) rfl (w.heap.size + 1) rfl _ _ _ _ Hc.out Try.underlying82 rfl (Hs6.out.trans (by rw [Hcs.out])) ?_) | (refine wpList_store_row rfl 82 (.tmp 2) (.tmp 14) rfl w.heap.size cur rfl rfl _ _ Hz.out (Hs6.out.trans (by rw [Hcs.out])) (by rw [Hcs.out]; exact zero60_size) (by rw [Hcur'.out]; exact leftArr_one rs) ?_))
      refine bodyPost_ret (results_cell_row rfl _ _ w.heap.size _ cur _ _ rfl (setRow_heap wr _ _ _ _ _ Hz.out) Try.underlying82 rfl (Hs6.out.trans (by rw [Hcs.out]))) rfl ⟨by rw [Hcur'.out], ?_⟩
      exact hbel.trans ⟨rfl, rfl, rfl, by simp, fun i hi => setRow_other wr _ _ _ (by omega)⟩

end Go.Proofs.Ytgkciiklgadgkaa

namespace Go.Proofs.Ytgkciiklgadgkaa
open Go.RowKit
set_option linter.unusedVariables false
set_option linter.unusedSimpArgs false

theorem OwnR.nil (w : World) (B : Nat) : OwnR w B (.slice none 0 0) [] := World.ownsRow_nil _ _ _ _

def upV (rs : List (Int × Int)) (n : Int) : List Int := if okM rs n then upF (leftF rs) n.toNat else []
theorem okM_most {rs : List (Int × Int)} {n : Int} (h : okM rs n = true) : goodL rs = true ∧ 0 ≤ n ∧ n ≤ 600 := by
  simp only [okM, Bool.and_eq_true] at h
  exact ⟨h.1, mostB_true.1 h.2⟩
theorem upV_no {rs : List (Int × Int)} {n : Int} (h : okM rs n = false) : upV rs n = [] := by rw [upV, h]; rfl
theorem upV_yes {rs : List (Int × Int)} {M : Nat} (h : okM rs (M : Int) = true) : upV rs (M : Int) = upF (leftF rs) M := by rw [upV, h, Int.toNat_natCast]; rfl


/-- 'left := leftNumbers(..)': the array goes into a new block. -/
theorem wp_store_arr {ops : Array Oper} {rest : List Oper} {o : Oper} {a : Act} {Q : Exit → Act → World → Prop} (w1 : World) (rs : List (Int × Int)) (hgd : o.guard = none) (x y : Operand)
    (ho : o.op = .store 82 x y) (hx : a.eval x = .pointer (some ⟨w1.heap.size, 0, none⟩)) (hy : a.eval y = .agg (leftArr rs))
    (h : ∀ W2 : World, W2.heap[w1.heap.size]? = some (.cells (leftArr rs) 82 (0, 0)) → W2.heap.size = w1.heap.size + 1 → Below w1.heap.size w1 W2 → wpList Try.prog ops Q rest (a.put o.dst undef) W2) :
    wpList Try.prog ops Q (o :: rest) a (w1.alloc (.cells Try.zeroCells82 82)) := by
  refine wpList_store_row hgd 82 x y ho w1.heap.size (leftArr rs) hx hy _ _ (heap_alloc_new w1 _) (size60.trans (by rw [leftArr_size])) (by rw [leftArr_size]; exact zero60_size) (leftArr_one rs) ?_
  refine h _ (setRow_heap _ _ _ _ _ _ (heap_alloc_new w1 _)) (by simp) ?_
  exact ((Below.refl _ _).alloc (Nat.le_refl _) _).trans ⟨rfl, rfl, rfl, by simp, fun i hi => setRow_other _ _ _ _ (by omega)⟩


end Go.Proofs.Ytgkciiklgadgkaa

namespace Go.Proofs.Ytgkciiklgadgkaa
open Go.RowKit
set_option linter.unusedVariables false
set_option linter.unusedSimpArgs false


def cntV (rs : List (Int × Int)) (n : Int) : Int := if okM rs n then ((upF (leftF rs) n.toNat).length : Int) else 0


/-- How many of lo, .., lo + k - 1 have p. -/
def cntF (p : Int → Bool) (lo : Nat) : Nat → Nat
  | 0 => 0
  | k + 1 => cntF p lo k + if p ((lo : Int) + (k : Int)) then 1 else 0
theorem cntF_yes {p : Int → Bool} {lo k : Nat} (h : p ((lo : Int) + (k : Int)) = true) : cntF p lo (k + 1) = cntF p lo k + 1 := by rw [cntF, if_pos h]
theorem cntF_no {p : Int → Bool} {lo k : Nat} (h : p ((lo : Int) + (k : Int)) = false) : cntF p lo (k + 1) = cntF p lo k := by rw [cntF, if_neg (by rw [h]; exact Bool.false_ne_true)]; rfl
theorem cntF_le (p : Int → Bool) (lo k : Nat) : cntF p lo k ≤ k := by
  induction k with
  | zero => exact Nat.le_refl _
  | succ k ih => rw [cntF]; split <;> omega
theorem cntF_up (p : Int → Bool) (k : Nat) : cntF p 1 k = (upF p k).length := by
  induction k with
  | zero => rfl
  | succ k ih =>
    have e : ((1 : Nat) : Int) + (k : Int) = (k : Int) + 1 := by omega
    cases h : p ((k : Int) + 1) with
    | true => rw [cntF_yes (by rw [e]; exact h), upF_yes h, ih, List.length_append]; rfl
    | false => rw [cntF_no (by rw [e]; exact h), upF_no h, ih]

def okB (rs : List (Int × Int)) (lo hi : Int) : Bool := goodL rs && mostB lo && mostB hi
def btwV (rs : List (Int × Int)) (lo hi : Int) : Int := if okB rs lo hi then (cntF (leftF rs) lo.toNat (hi.toNat + 1 - lo.toNat) : Int) else 0
theorem okB_eq (rs : List (Int × Int)) (lo hi : Int) : okB rs lo hi = (okM rs lo && okM rs hi) := by unfold okB okM; cases goodL rs <;> cases mostB lo <;> cases mostB hi <;> rfl
theorem btwV_no {rs : List (Int × Int)} {lo hi : Int} (h : okB rs lo hi = false) : btwV rs lo hi = 0 := by rw [btwV, h]; rfl
theorem btwV_yes {rs : List (Int × Int)} {L M : Nat} (h : okB rs (L : Int) (M : Int) = true) : btwV rs (L : Int) (M : Int) = (cntF (leftF rs) L (M + 1 - L) : Int) := by
  rw [btwV, h, Int.toNat_natCast, Int.toNat_natCast]; rfl
theorem btw_cnt (rs : List (Int × Int)) (n : Int) : btwV rs 1 n = cntV rs n ∧ okB rs 1 n = okM rs n := by
  have h1 : mostB 1 = true := mostB_true.2 (by omega)
  have h2 : okB rs 1 n = okM rs n := by simp [okB, okM, h1]
  refine ⟨?_, h2⟩
  rw [btwV, cntV, h2]
  cases h : okM rs n with
  | false => rfl
  | true => rw [if_pos rfl, if_pos rfl, ← cntF_up]; rfl


set_option maxRecDepth 100000 in
set_option maxHeartbeats 1000000 in
theorem impl_CountBetween_c (w : World) (A : Option Addr) (m c : Nat) (rs : List (Int × Int)) (hA : Rl w A rs) (hm : m = rs.length) (hn : m ≤ 1048576) (lo hi : Int) :
    Calls Try.prog 41 #[.slice A m c, .int .i64 lo, .int .i64 hi] w fun en w' => en = .returned (.tuple #[.int .i64 (btwV rs lo hi), .bool (okB rs lo hi)]) ∧ Below w.heap.size w w' := by
  have Hm := Lib.hid hm
  clear hm
  cases hg : goodL rs with
  | false =>
    have ho : okB rs lo hi = false := by simp [okB, *]
    rw [btwV_no ho, ho]
    clear ho
    go_enter Try.func41, Try.ntmps41
    go_wp2_with fail
    refine (implAreRules_c _ _ _ rs _ hA Hm.out hn).mono ?_
    rintro e w1 ⟨rfl, b1⟩
    have hA_1 := hA.below b1
    go_wp2
    go_ret2
    exact ⟨rfl, b1⟩
  | true =>
    cases hl : mostB lo with
    | false =>
      have ho : okB rs lo hi = false := by simp [okB, *]
      rw [btwV_no ho, ho]
      clear ho
      go_enter Try.func41, Try.ntmps41
      go_wp2_with fail
      refine (implAreRules_c _ _ _ rs _ hA Hm.out hn).mono ?_
      rintro e w1 ⟨rfl, b1⟩
      have hA_1 := hA.below b1
      go_wp2_with fail
      refine (isMost_c _ _).mono ?_
      rintro e w2 ⟨rfl, rfl⟩
      go_wp2
      go_ret2
      exact ⟨rfl, b1⟩
    | true =>
      cases hh : mostB hi with
      | false =>
        have ho : okB rs lo hi = false := by simp [okB, *]
        rw [btwV_no ho, ho]
        clear ho
        go_enter Try.func41, Try.ntmps41
        go_wp2_with fail
        refine (implAreRules_c _ _ _ rs _ hA Hm.out hn).mono ?_
        rintro e w1 ⟨rfl, b1⟩
        have hA_1 := hA.below b1
        go_wp2_with fail
        refine (isMost_c _ _).mono ?_
        rintro e w2 ⟨rfl, rfl⟩
        go_wp2_with fail
        refine (isMost_c _ _).mono ?_
        rintro e w3 ⟨rfl, rfl⟩
        go_wp2
        go_ret2
        exact ⟨rfl, b1⟩
      | true =>
        have ho : okB rs lo hi = true := by simp [okB, *]
        obtain ⟨g2, g3⟩ := mostB_true.1 hl
        obtain ⟨k2, k3⟩ := mostB_true.1 hh
        obtain ⟨L, rfl⟩ := Int.eq_ofNat_of_zero_le g2
        obtain ⟨M, rfl⟩ := Int.eq_ofNat_of_zero_le k2
        rw [btwV_yes ho, ho]
        clear ho
        have Hg := Lib.hid hg
        have Hl := Lib.hid hl
        have Hh := Lib.hid hh
        go_enter Try.func41, Try.ntmps41
        go_wp2_with fail
        refine (implAreRules_c _ _ _ rs _ hA Hm.out hn).mono ?_
        rintro e w1 ⟨rfl, b1⟩
        have hA_1 := hA.below b1
        go_wp2_with fail
        refine (isMost_c _ _).mono ?_
        rintro e w2 ⟨rfl, rfl⟩
        go_wp2_with fail
        refine (isMost_c _ _).mono ?_
        rintro e w3 ⟨rfl, rfl⟩
        go_wp2_with fail
        refine (leftNumbers_c _ _ _ _ rs hA_1 Hm.out Hg.out).mono ?_
        rintro e w4 ⟨rfl, b4⟩
        have hA_4 := hA_1.below b4
        have bb4 := b1.trans (b4.mono b1.size)
        go_wp2_with (refine wp_store_arr w4 rs rfl (.tmp 8) (.tmp 25) rfl rfl rfl ?_; intro W2 h2 hs2 bW)
        have hWs : w4.heap.size < W2.heap.size := by omega
        have H2 := Lib.hid h2
        have Hs2 := Lib.hid hs2
        clear h2 hs2
        go_loop [9, 10] (fun t i => ∃ k : Nat, k ≤ M + 1 - L ∧ i = .int .i64 ((L : Int) + (k : Int)) ∧ t = .int .i64 (cntF (leftF rs) L k : Int)) (fun _ i => L + M + 1 - (intOf i).toNat)
        case atStart => exact ⟨0, Nat.zero_le _, by go_num, rfl⟩
        case round =>
          obtain ⟨k, hk, rfl, rfl⟩ := hrel
          have hcl := cntF_le (leftF rs) L k
          by_cases hlt : L + k ≤ M
          · have hcell : W2.cell? ⟨w4.heap.size, L + k, none⟩ = some (.bool (leftF rs ((L : Int) + (k : Int)))) := by
              have h := (cell_of_row W2 w4.heap.size (L + k) _ _ _ H2.out).trans (leftArr_get rs (j := L + k) (by omega))
              simpa using h
            cases hl : leftF rs ((L : Int) + (k : Int)) with
            | true =>
              have Hy := Lib.hid (cntF_yes hl)
              go_wp2
              go_round
              case rel => exact ⟨k + 1, by omega, by go_num, by rw [Hy.out]; go_num⟩
              case measure => simp [intOf]; omega
            | false =>
              have Hy := Lib.hid (cntF_no hl)
              go_wp2
              go_round
              case rel => exact ⟨k + 1, by omega, by go_num, by rw [Hy.out]⟩
              case measure => simp [intOf]; omega
          · have hkM : k = M + 1 - L := by omega
            have Hk2 := Lib.hid hkM
            clear hkM
            go_wp2
            go_ret2
            exact ⟨by rw [← Hk2.out]; rfl, (bb4).trans (bW.mono (bb4).size)⟩

set_option maxRecDepth 100000 in
set_option maxHeartbeats 400000 in
theorem impl_CountLeft_c (w : World) (A : Option Addr) (m c : Nat) (rs : List (Int × Int)) (hA : Rl w A rs) (hm : m = rs.length) (hn : m ≤ 1048576) (n : Int) :
    Calls Try.prog 21 #[.slice A m c, .int .i64 n] w fun en w' => en = .returned (.tuple #[.int .i64 (cntV rs n), .bool (okM rs n)]) ∧ Below w.heap.size w w' := by
  have Hm := Lib.hid hm
  clear hm
  rw [← (btw_cnt rs n).1, ← (btw_cnt rs n).2]
  go_enter Try.func21, Try.ntmps21
  go_wp2_with fail
  refine (impl_CountBetween_c _ _ _ _ rs hA Hm.out hn _ _).mono ?_
  rintro e w1 ⟨rfl, b1⟩
  have hA_1 := hA.below b1
  go_wp2
  go_ret2
  exact ⟨rfl, b1⟩

end Go.Proofs.Ytgkciiklgadgkaa

namespace Go.Proofs.Ytgkciiklgadgkaa
open Go.RowKit
set_option linter.unusedVariables false
set_option linter.unusedSimpArgs false

/-- The numbers in 1..600 that are left. -/
def allLeft (rs : List (Int × Int)) : List Int := upF (leftF rs) 600
theorem allLeft_len (rs : List (Int × Int)) : (allLeft rs).length ≤ 600 := upF_len _ _
def rankOk (rs : List (Int × Int)) (r : Int) : Bool := goodL rs && decide (0 ≤ r ∧ r < (allLeft rs).length)
def rankV (rs : List (Int × Int)) (r : Int) : Int := if rankOk rs r then (allLeft rs).getD r.toNat 0 else 0
theorem rank_no {rs : List (Int × Int)} {r : Int} (h : rankOk rs r = false) : rankV rs r = 0 := by rw [rankV, h]; rfl
theorem rank_yes {rs : List (Int × Int)} {K : Nat} (h : rankOk rs (K : Int) = true) : rankV rs (K : Int) = (allLeft rs).getD K 0 := by rw [rankV, h, Int.toNat_natCast]; rfl



/-- How many steps behind n the first number with p is, at most 1000. -/
def nextI (p : Int → Bool) (n : Int) : Nat := (List.range 1000).findIdx fun i : Nat => p (n + 1 + (i : Int))
theorem nextI_of {p : Int → Bool} {n : Int} {k : Nat} (hk : k < 1000) (h : ∀ j : Nat, j < k → p (n + 1 + (j : Int)) = false) (hc : p (n + 1 + (k : Int)) = true) : nextI p n = k := by
  rw [nextI, List.findIdx_eq (by rw [List.length_range]; exact hk)]
  exact ⟨by rw [List.getElem_range]; exact hc, fun j hj => by rw [List.getElem_range]; exact h j hj⟩
theorem nextI_none {p : Int → Bool} {n : Int} (h : ∀ j : Nat, j < 1000 → p (n + 1 + (j : Int)) = false) : nextI p n = 1000 := by
  have : nextI p n = (List.range 1000).length := by
    rw [nextI, List.findIdx_eq_length]
    intro x hx
    exact h x (List.mem_range.1 hx)
  rw [this, List.length_range]
def nextOk (rs : List (Int × Int)) (n : Int) : Bool := okN rs n && decide (nextI (leftF rs) n < 1000)
def nextV (rs : List (Int × Int)) (n : Int) : Int := if nextOk rs n then n + 1 + (nextI (leftF rs) n : Int) else 0
theorem next_no {rs : List (Int × Int)} {n : Int} (h : nextOk rs n = false) : nextV rs n = 0 := by rw [nextV, h]; rfl
theorem next_of {rs : List (Int × Int)} {n : Int} {k : Nat} (hg : goodL rs = true) (hn : numB n = true) (hk : k < 1000) (h : ∀ j : Nat, j < k → leftF rs (n + 1 + (j : Int)) = false) (hc : leftF rs (n + 1 + (k : Int)) = true) :
    nextV rs n = n + 1 + (k : Int) ∧ nextOk rs n = true := by
  have h2 : nextOk rs n = true := by rw [nextOk, okN, hg, hn, nextI_of hk h hc, decide_eq_true hk]; rfl
  exact ⟨by rw [nextV, h2, nextI_of hk h hc]; rfl, h2⟩
theorem next_none {rs : List (Int × Int)} {n : Int} (h : ∀ j : Nat, j < 1000 → leftF rs (n + 1 + (j : Int)) = false) : nextV rs n = 0 ∧ nextOk rs n = false := by
  have h2 : nextOk rs n = false := by rw [nextOk, nextI_none h]; simp
  exact ⟨next_no h2, h2⟩



end Go.Proofs.Ytgkciiklgadgkaa

namespace Go.Proofs.Ytgkciiklgadgkaa
open Go.RowKit
set_option linter.unusedVariables false
set_option linter.unusedSimpArgs false

def okC (rs : List (Int × Int)) (k n : Int) : Bool := okM rs n && inB k 0 ((rs.length : Int) - 1)
def crossP (rs : List (Int × Int)) (K : Nat) (x : Int) : Bool := decide (fIdx rs x = K)
def crossV (rs : List (Int × Int)) (k n : Int) : List Int := if okC rs k n then upF (crossP rs k.toNat) n.toNat else []
theorem crossV_no {rs : List (Int × Int)} {k n : Int} (h : okC rs k n = false) : crossV rs k n = [] := by rw [crossV, h]; rfl
theorem crossV_yes {rs : List (Int × Int)} {K M : Nat} (h : okC rs (K : Int) (M : Int) = true) : crossV rs (K : Int) (M : Int) = upF (crossP rs K) M := by rw [crossV, h, Int.toNat_natCast, Int.toNat_natCast]; rfl
theorem crossP_firstI {rs : List (Int × Int)} {K : Nat} {x : Int} (hK : K < rs.length) : (firstI rs x == (K : Int)) = crossP rs K x := by
  have := fIdx_le rs x
  rw [Bool.eq_iff_iff]
  simp only [beq_iff_eq, crossP, decide_eq_true_eq, firstI]
  split <;> omega
theorem crossP_firstK {rs : List (Int × Int)} {K : Nat} {x : Int} (hK : K < rs.length) : (crossedB rs x && (firstK rs x == (K : Int))) = crossP rs K x := by
  have := fIdx_le rs x
  rw [Bool.eq_iff_iff]
  simp only [Bool.and_eq_true, beq_iff_eq, crossP, decide_eq_true_eq, firstK, crossedB]
  split <;> omega



theorem crossV_len (rs : List (Int × Int)) (k n : Int) : (crossV rs k n).length ≤ 1048576 := by
  rw [crossV]
  split
  · rename_i h
    simp only [okC, Bool.and_eq_true] at h
    have h1 := (okM_most h.1).2
    exact Nat.le_trans (upF_len _ _) (by omega)
  · exact Nat.zero_le _

end Go.Proofs.Ytgkciiklgadgkaa
