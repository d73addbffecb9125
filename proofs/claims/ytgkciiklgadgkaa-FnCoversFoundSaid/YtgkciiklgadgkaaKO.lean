import Derived.Test.YtgkciiklgadgkaaKN
import Derived.Test.YtgkciiklgadgkaaKP
import Derived.Test.YtgkciiklgadgkaaL0
import Derived.StillTailTactics
import Derived.Test.YtgkciiklgadgkaaE1
namespace Go.Proofs.Ytgkciiklgadgkaa
open Go.RowKit
set_option linter.unusedVariables false
set_option linter.unusedSimpArgs false

theorem hasF_flF {p : Nat → Bool} {a k n : Nat} (h1 : a ≤ n) (h2 : n < a + k) : hasF (flF p a k) (n : Int) = p n := by
  rw [Bool.eq_iff_iff, hasF_mem, flF, List.mem_map]
  constructor
  · rintro ⟨i, hi, e⟩
    have := (List.mem_filter.1 hi).2
    rwa [show a + i = n by omega] at this
  · intro hp
    exact ⟨n - a, List.mem_filter.2 ⟨List.mem_range.2 (by omega), by rw [show a + (n - a) = n by omega]; exact hp⟩, by omega⟩



end Go.Proofs.Ytgkciiklgadgkaa

namespace Go.Proofs.Ytgkciiklgadgkaa
open Go.RowKit
set_option maxRecDepth 100000
set_option linter.unusedVariables false
set_option linter.unusedSimpArgs false

/-- The sum of the first k numbers. -/
def sumZ (xs : List Int) : Nat → Int
  | 0 => 0
  | k + 1 => sumZ xs k + ivL xs k
theorem sumZ_bound {xs : List Int} (h : ∀ k, k < xs.length → 0 ≤ ivL xs k ∧ ivL xs k ≤ 1000000000) : ∀ k, k ≤ xs.length → 0 ≤ sumZ xs k ∧ sumZ xs k ≤ 1000000000 * (k : Int)
  | 0, _ => ⟨Int.le_refl _, by rw [sumZ]; omega⟩
  | k + 1, hk => by
    have a := sumZ_bound h k (by omega)
    have b := h k (by omega)
    rw [sumZ]
    omega



theorem eq_ruleT (a b : Int) (w : World) : (Op.equalIn 10000 38 (.agg #[.int .i64 a, .int .i64 b]) (.agg #[.int .i64 a, .int .i64 b])).run Try.prog w = .ok true w := by
  have hu := Try.underlying38
  go_simp
set_option maxHeartbeats 800000 in
theorem tRules_c (A B : Option Addr) (n m c d : Nat) (rs : List (Int × Int)) (w : World) (hA : Rl w A rs) (hB : Rl w B rs) (hn : n = rs.length) (hm : m = rs.length) (hn1 : n ≤ 1048576) :
    Calls Try.prog 11 #[.slice A n c, .slice B m d] w fun en w' => en = .returned (.bool true) ∧ Below w.heap.size w w' := by
  have hnm : m = n := by rw [hn, hm]
  subst hnm
  have Hn := Lib.hid hn
  clear hn hm
  go_enter Try.func11, Try.ntmps11
  go_wp2
  go_loopw [13] (fun i wr => ∃ k : Nat, k ≤ m ∧ i = .int .i64 k ∧ Below w.heap.size w wr) (fun i _ => m - (intOf i).toNat)
  case atStart => exact ⟨0, Nat.zero_le _, rfl, Below.refl _ _⟩
  case round =>
    obtain ⟨k, hk, rfl, hbel⟩ := hrel
    by_cases hlt : k < m
    · have hlt1 : k < rs.length := by have := Hn.out; omega
      obtain ⟨b, off, rfl, hb, hr⟩ := hA (by omega)
      obtain ⟨b2, off2, rfl, hb2, hr2⟩ := hB (by omega)
      have hc0 := (hbel.cell (p := ⟨b, off + k * 2, none⟩) hb).trans (hr k hlt1).1
      have hc1 := (hbel.cell (p := ⟨b, off + k * 2 + 1, none⟩) hb).trans (hr k hlt1).2
      have hd0 := (hbel.cell (p := ⟨b2, off2 + k * 2, none⟩) hb2).trans (hr2 k hlt1).1
      have hd1 := (hbel.cell (p := ⟨b2, off2 + k * 2 + 1, none⟩) hb2).trans (hr2 k hlt1).2
      have hi1 : (k : Int) < (m : Int) := by omega
      have heq := eq_ruleT (evL rs k) (reL rs k)
      go_wp2_with fail
      go_still_tail 8, (by kernel_rfl)
      go_wp2
      go_roundw
      case rel => exact ⟨k + 1, by omega, by go_num, hbel.drew⟩
      case measure => simp [intOf]; omega
    · go_wp2
      go_ret
      exact ⟨rfl, hbel⟩

end Go.Proofs.Ytgkciiklgadgkaa

namespace Go.Proofs.Ytgkciiklgadgkaa
open Go.RowKit
set_option linter.unusedVariables false

/-- A cut behind three pieces. -/
theorem cut3_k {P : Program} {Q : Exit → Act → World → Prop} {x1 x2 x3 z : Code} {K : Act → World → Prop} {G : Prop}
    (hK : ∀ a w, (x1.seq (x2.seq (x3.seq z))).wp P Q a w → K a w) (R : Act → World → Prop)
    (main : (∀ a w, (∀ K3 : Act → World → Prop, (∀ a w, R a w → K3 a w) → ∀ K2 : Act → World → Prop, (∀ a w, x3.wp P (Exit.then K3 Q) a w → K2 a w) → ∀ K1 : Act → World → Prop, (∀ a w, x2.wp P (Exit.then K2 Q) a w → K1 a w) → x1.wp P (Exit.then K1 Q) a w) → K a w) → G)
    (tail : ∀ a w, R a w → z.wp P Q a w) : G :=
  main fun a w h => hK a w (wp_seq (h _ tail _ (fun a w hx => wp_seq hx) _ (fun a w hx => wp_seq hx)))
/-- An act by its temporaries, one after the other, named by one function. -/
theorem arr_by (t : Array Value) (n : Nat) (hs : t.size = n) (f : Nat → Value) (hf : ∀ i, i < n → t.getD i undef = f i) : t = ((List.range n).map f).toArray := by
  apply Array.ext
  · simp [hs]
  · intro i h1 h2
    have := hf i (by omega)
    rw [Array.getD_eq_getD_getElem?, Array.getElem?_eq_getElem h1] at this
    simp only [Option.getD_some] at this
    rw [this]
    simp
theorem act_by (a : Act) (n : Nat) (hd : a.defers = []) (hs : a.tmps.size = n) (f : Nat → Value) (hf : ∀ i, i < n → a.tmps.getD i undef = f i) : a = ⟨((List.range n).map f).toArray, []⟩ := by
  cases a with
  | mk t d =>
    simp only at hd hs hf
    subst hd
    rw [arr_by t n hs f hf]

end Go.Proofs.Ytgkciiklgadgkaa

namespace Go.Proofs.Ytgkciiklgadgkaa
open Go.RowKit
set_option linter.unusedVariables false

/-- A CUT: the walk of x1 and x2 ends in R, and what follows is walked once, from R on, however many ways lead there. -/
theorem cut_k {P : Program} {Q : Exit → Act → World → Prop} {x1 x2 z : Code} {K : Act → World → Prop} {G : Prop}
    (hK : ∀ a w, (x1.seq (x2.seq z)).wp P Q a w → K a w) (R : Act → World → Prop)
    (main : (∀ a w, (∀ K2 : Act → World → Prop, (∀ a w, R a w → K2 a w) → ∀ K1 : Act → World → Prop, (∀ a w, x2.wp P (Exit.then K2 Q) a w → K1 a w) → x1.wp P (Exit.then K1 Q) a w) → K a w) → G)
    (tail : ∀ a w, R a w → z.wp P Q a w) : G :=
  main fun a w h => hK a w (wp_seq (h _ tail _ fun a w hx => wp_seq hx))

end Go.Proofs.Ytgkciiklgadgkaa

namespace Go.Proofs.Ytgkciiklgadgkaa
open Go.RowKit Go.ChangeShapes Go.WideShapes Go.ChangeAt Go.Deep
set_option maxRecDepth 100000
set_option linter.unusedVariables false
set_option linter.unusedSimpArgs false

section
variable {H : Type} {enc : TypeId × Value → H} {W : World} {base b0 : Nat} {r : Reach} {spare : Nat → Bool} {held : Bool}
/-- An argument of type []int reads as numbers. -/
theorem open_intP {v : Value} {d : DataW H} {p : List MemPlace} (hval : Value.okWide Try.prog W r b0 24 v) (h : DataW.Trod enc Try.prog W base spare held 24 v d p) :
    ∃ A n c xs, v = .slice A n c ∧ n = xs.length ∧ n ≤ 9223372036854775807 ∧ Il W A xs := by
  obtain ⟨a0, len, cap, rfl⟩ := okWide_slice Try.underlying24 hval
  obtain ⟨fuel, hf⟩ := h
  rcases Go.ChangeShapes.open_ints Try.underlying24 Try.underlying3 (by kernel_rfl) hf with ⟨hcs, _⟩ | ⟨a, l, c, zs, hcs, _, hl, hm, hmm, _, hx, _⟩
  · simp [Value.cells] at hcs
    obtain ⟨rfl, rfl, rfl⟩ := hcs
    exact ⟨none, 0, 0, [], rfl, rfl, by omega, fun h => by simp at h⟩
  · simp [Value.cells] at hcs
    obtain ⟨rfl, rfl, rfl⟩ := hcs
    have hlm : len ≤ zs.length := by rw [hmm]; split <;> omega
    have hm' : len ≤ 9223372036854775807 := by unfold maxLen at hm; omega
    have htl : (zs.take len).length = len := by rw [List.length_take]; omega
    refine ⟨some a, len, cap, zs.take len, rfl, htl.symm, hm', fun hp => ?_⟩
    have hlen : 0 < len := by omega
    have c0 := hx 0 (by omega)
    obtain ⟨b, off, rfl⟩ := addr_plain c0
    refine ⟨b, off, rfl, World.block_lt_of_cell? W _ (by simpa [add_plain] using c0), fun k hk => ?_⟩
    have hk' : k < len := by omega
    have g0 := hx k (by omega)
    rw [add_plain] at g0
    rw [g0, ivL]
    simp [List.getD_eq_getElem?_getD, List.getElem?_take, hk']
/-- The same, with the capacity. -/
theorem open_intC {v : Value} {d : DataW H} {p : List MemPlace} (hval : Value.okWide Try.prog W r b0 24 v) (h : DataW.Trod enc Try.prog W base spare held 24 v d p) :
    ∃ A n c xs, v = .slice A n c ∧ n = xs.length ∧ n ≤ 9223372036854775807 ∧ n ≤ c ∧ Il W A xs := by
  obtain ⟨a0, len, cap, rfl⟩ := okWide_slice Try.underlying24 hval
  obtain ⟨fuel, hf⟩ := h
  rcases Go.ChangeShapes.open_ints Try.underlying24 Try.underlying3 (by kernel_rfl) hf with ⟨hcs, _⟩ | ⟨a, l, c, zs, hcs, _, hl, hm, hmm, _, hx, _⟩
  · simp [Value.cells] at hcs
    obtain ⟨rfl, rfl, rfl⟩ := hcs
    exact ⟨none, 0, 0, [], rfl, rfl, by omega, by omega, fun h => by simp at h⟩
  · simp [Value.cells] at hcs
    obtain ⟨rfl, rfl, rfl⟩ := hcs
    have hlm : len ≤ zs.length := by rw [hmm]; split <;> omega
    have hm' : len ≤ 9223372036854775807 := by unfold maxLen at hm; omega
    have htl : (zs.take len).length = len := by rw [List.length_take]; omega
    refine ⟨some a, len, cap, zs.take len, rfl, htl.symm, hm', hl, fun hp => ?_⟩
    have hlen : 0 < len := by omega
    have c0 := hx 0 (by omega)
    obtain ⟨b, off, rfl⟩ := addr_plain c0
    refine ⟨b, off, rfl, World.block_lt_of_cell? W _ (by simpa [add_plain] using c0), fun k hk => ?_⟩
    have hk' : k < len := by omega
    have g0 := hx k (by omega)
    rw [add_plain] at g0
    rw [g0, ivL]
    simp [List.getD_eq_getElem?_getD, List.getElem?_take, hk']
/-- An argument of type []impl.Rule reads as rules. -/
theorem open_rulesP {v : Value} {d : DataW H} {p : List MemPlace} (hval : Value.okWide Try.prog W r b0 28 v) (h : DataW.Trod enc Try.prog W base spare held 28 v d p) :
    ∃ A n c rs, v = .slice A n c ∧ n = rs.length ∧ n ≤ 9223372036854775807 ∧ Rl W A rs := by
  obtain ⟨a0, len, cap, rfl⟩ := okWide_slice Try.underlying28 hval
  obtain ⟨fuel, hf⟩ := h
  rcases open_slice_pairs Try.underlying28 Try.underlying38 (by kernel_rfl) rfl rfl (by kernel_rfl) (by kernel_rfl) hf with ⟨hcs, _⟩ | ⟨a, l, c, m, n, V0, V1, D0, D1, P0, P1, hcs, _, hl, hm, hmm, _, hx⟩
  · simp [Value.cells] at hcs
    obtain ⟨rfl, rfl, rfl⟩ := hcs
    exact ⟨none, 0, 0, [], rfl, rfl, by omega, fun h => by simp at h⟩
  · simp [Value.cells] at hcs
    obtain ⟨rfl, rfl, rfl⟩ := hcs
    have hlm : len ≤ m := by rw [hmm]; split <;> omega
    have hm' : len ≤ 9223372036854775807 := by unfold maxLen at hm; omega
    have key : ∀ i, i < m → ∃ e q : Int, V0 i = .int .i64 e ∧ V1 i = .int .i64 q := by
      intro i hi
      obtain ⟨_, _, t0, t1⟩ := hx i hi
      obtain ⟨e, e0, _, _⟩ := DataW.trod_int Try.underlying3 t0
      obtain ⟨q, e1, _, _⟩ := DataW.trod_int Try.underlying3 t1
      exact ⟨e, q, by simpa using e0, by simpa using e1⟩
    let f : Nat → Int × Int := fun i => ((match V0 i with | .int _ q => q | _ => 0), (match V1 i with | .int _ q => q | _ => 0))
    refine ⟨some a, len, cap, (List.range len).map f, rfl, by simp, hm', fun hp => ?_⟩
    have hlen : 0 < len := by simpa using hp
    obtain ⟨c0, _, _, _⟩ := hx 0 (by omega)
    obtain ⟨b, off, rfl⟩ := addr_plain (by simpa using c0)
    refine ⟨b, off, rfl, World.block_lt_of_cell? W _ (by simpa [add_plain] using c0), fun k hk => ?_⟩
    have hk' : k < len := by simpa using hk
    obtain ⟨e, q, h0, h1⟩ := key k (by omega)
    obtain ⟨g0, g1, _, _⟩ := hx k (by omega)
    rw [add_plain] at g0 g1
    have hf1 : evL ((List.range len).map f) k = e := by simp [evL, hk', f, h0]
    have hf2 : reL ((List.range len).map f) k = q := by simp [reL, hk', f, h1]
    rw [hf1, hf2]
    exact ⟨by rw [g0, h0], by rw [← Nat.add_assoc] at g1; rw [g1, h1]⟩
end

end Go.Proofs.Ytgkciiklgadgkaa
