import Derived.Test.YtgkciiklgadgkaaE1
import Derived.Test.YtgkciiklgadgkaaG1
import Derived.Lib.MinMax
namespace Go.Proofs.Ytgkciiklgadgkaa
open Go.RowKit
set_option linter.unusedVariables false
set_option linter.unusedSimpArgs false

theorem ivL_take {xs : List Int} {k j : Nat} (h : j < k) : ivL (xs.take k) j = ivL xs j := by
  simp [ivL, List.getD_eq_getElem?_getD, List.getElem?_take, h]
theorem Il.take {w : World} {A : Option Addr} {xs : List Int} (h : Il w A xs) (k : Nat) : Il w A (xs.take k) := by
  intro hp
  rw [List.length_take] at hp
  obtain ⟨b, off, e, hb, hr⟩ := h (by omega)
  refine ⟨b, off, e, hb, fun j hj => ?_⟩
  rw [List.length_take] at hj
  rw [hr j (by omega), ivL_take (by omega)]

end Go.Proofs.Ytgkciiklgadgkaa

namespace Go.Proofs.Ytgkciiklgadgkaa
open Go.RowKit
set_option linter.unusedVariables false
set_option linter.unusedSimpArgs false


theorem info_Bo : (Try.prog.info? 4).map (fun i => (i.zero, i.size, i.bytes)) = some (some (.bool false), 1, 1) := by kernel_rfl
/-- The multiples of d from m on, below the number n. -/
theorem mul_first {lo d n : Nat} (hd : 0 < d) (h : lo ≤ n) (h2 : n % d = 0) : (lo + d - 1) / d * d ≤ n := by
  have h3 : n = n / d * d := by have := Nat.div_add_mod n d; rw [h2, Nat.mul_comm] at this; omega
  rw [h3]
  apply Nat.mul_le_mul_right
  rw [Nat.div_le_iff_le_mul_add_pred hd]
  rw [Nat.mul_comm]
  omega
theorem mul_first_ge {lo d : Nat} (hd : 0 < d) : lo ≤ (lo + d - 1) / d * d := by
  have := Nat.div_add_mod (lo + d - 1) d
  have h2 := Nat.mod_lt (lo + d - 1) hd
  rw [Nat.mul_comm] at this
  omega
/-- The marks while the multiples of d are marked, those below m done. -/
def mkB (d m n : Nat) : Bool := anyD n d || (decide (n < m) && decide (d * d ≤ n ∧ n % d = 0))
theorem mkB_start {lo d n : Nat} (hd : 2 ≤ d) (h : lo ≤ n) : mkB d (max (d * d) ((lo + d - 1) / d * d)) n = anyD n d := by
  unfold mkB
  by_cases h1 : d * d ≤ n ∧ n % d = 0
  · have h2 := mul_first (by omega) h h1.2
    have : ¬ n < max (d * d) ((lo + d - 1) / d * d) := by omega
    rw [decide_eq_false this, Bool.false_and, Bool.or_false]
  · simp [h1]
theorem mkB_end {d m n : Nat} (hd : 2 ≤ d) (h : n < m) : mkB d m n = anyD n (d + 1) := by
  rw [mkB, anyD_succ]
  simp [h, hd]
theorem mkB_hit {d m : Nat} (h1 : d * d ≤ m) (h2 : m % d = 0) (hd : 2 ≤ d) : mkB d (m + d) m = true := by
  unfold mkB
  simp [h1, h2]
  omega
theorem mkB_other {d m n : Nat} (h2 : m % d = 0) (hd : 2 ≤ d) (hn : n ≠ m) : mkB d (m + d) n = mkB d m n := by
  unfold mkB
  by_cases h1 : d * d ≤ n ∧ n % d = 0
  · have h3 : n < m + d ↔ n < m := by
      constructor
      · intro h4
        rcases Nat.lt_or_ge n m with h5 | h5
        · exact h5
        · have h6 : (n - m) % d = 0 := by rw [← Nat.dvd_iff_mod_eq_zero] at *; exact Nat.dvd_sub h1.2 h2
          rw [Nat.mod_eq_of_lt (by omega)] at h6
          omega
      · omega
    simp [h3]
  · simp [h1]

end Go.Proofs.Ytgkciiklgadgkaa

namespace Go.Proofs.Ytgkciiklgadgkaa
open Go.RowKit
set_option linter.unusedVariables false
set_option linter.unusedSimpArgs false

set_option maxRecDepth 100000 in
set_option maxHeartbeats 1600000 in
theorem primesBetween_c (w : World) (lo hi : Nat) (hl0 : lo ≤ 1000000000) (hh : hi ≤ 1000000000) (hd : hi + 1 - lo ≤ 100000) :
    Calls Try.prog 81 #[.int .i64 (lo : Int), .int .i64 (hi : Int)] w fun en w' => (∃ v, en = .returned v ∧ OwnI w' w.heap.size v (prB lo hi)) ∧ Below w.heap.size w w' := by
  rw [prB_two]
  have hmx : max (lo : Int) 2 = ((max lo 2 : Nat) : Int) := by omega
  have hlo : 2 ≤ max lo 2 := Nat.le_max_right _ _
  have hlo9 : max lo 2 ≤ 1000000000 := by omega
  have hd2 : hi + 1 - max lo 2 ≤ 100000 := by omega
  generalize max lo 2 = l at *
  by_cases hgt : hi < l
  · rw [show prB l hi = [] by rw [prB, show hi + 1 - l = 0 by omega]; rfl]
    go_enter Try.func81, Try.ntmps81
    go_wp2
    go_ret
    exact ⟨⟨_, rfl, OwnI.nil _ _⟩, Below.refl _ _⟩
  · obtain ⟨L, hL⟩ : ∃ L, hi + 1 - l = L := ⟨_, rfl⟩
    unfold prB
    rw [hL] at hd2 ⊢
    have hLi : (hi : Int) - (l : Int) + 1 = (L : Int) := by omega
    have hmk := fun W => mk_full Try.underlying61 info_Bo L (by omega) (by omega) W
    have hml := mk_owns (e := 4) #[.bool false] 1 L (by unfold maxLen; omega) w
    rw [Nat.mul_one] at hml
    have HL := Lib.hid hL
    clear hL
    go_enter Try.func81, Try.ntmps81
    go_wp2_with fail
    clear hmk hmx
    have HLi := Lib.hid hLi
    clear hLi
    go_loopw [6] (fun i wr => ∃ d : Nat, i = .int .i64 (d : Int) ∧ 2 ≤ d ∧ d ≤ 31623 ∧ (∃ ys, wr.ownsRow w.heap.size 4 1 (.slice (some ⟨w.heap.size, 0, none⟩) L L) L ys ∧ ∀ j, j < L → ys[j]? = some (.bool (anyD (l + j) d))) ∧ Below w.heap.size w wr) (fun i _ => 31624 - (intOf i).toNat)
    case atStart => exact ⟨2, rfl, by omega, by omega, ⟨_, hml, fun j hj => by rw [anyD_two]; simp [madeCells, hj, Nat.mod_one]⟩, (Below.refl _ _).alloc (Nat.le_refl _) _⟩
    case round =>
      clear hml
      obtain ⟨d, rfl, d1, d2, ⟨ys, hown, hys⟩, hbel⟩ := hrel
      have Hown := Lib.hid hown
      have Hys := Lib.hid hys
      clear hown hys
      have hs1 : (d : Int) * (d : Int) ≤ 1000014129 := by
        have := Nat.mul_le_mul d2 d2
        have h3 : ((d * d : Nat) : Int) ≤ 1000014129 := by omega
        rwa [Int.natCast_mul] at h3
      have hs0 : 0 ≤ (d : Int) * (d : Int) := Int.mul_nonneg (by omega) (by omega)
      have hz : ((d : Int) == 0) = false := beq_eq_false_iff_ne.2 (by omega)
      by_cases hlt : (d : Int) * (d : Int) ≤ (hi : Int)
      · have hlt2 : d * d ≤ hi := by
          have h3 : ((d * d : Nat) : Int) ≤ (hi : Int) := by rwa [Int.natCast_mul]
          omega
        have hd := sq_le hlt2 (by omega)
        obtain ⟨f, hf⟩ : ∃ f, (l + d - 1) / d * d = f := ⟨_, rfl⟩
        obtain ⟨M, hM⟩ : ∃ M, max (d * d) f = M := ⟨_, rfl⟩
        have hfi : ((l : Int) + (d : Int) - 1) / (d : Int) * (d : Int) = (f : Int) := by
          rw [← hf, Int.natCast_mul, Int.natCast_ediv]
          congr 2
          omega
        have hMi : max ((d : Int) * (d : Int)) (f : Int) = (M : Int) := by
          rw [← hM, ← Int.natCast_mul]
          omega
        have hf2 : f ≤ l + d - 1 := by rw [← hf]; exact Nat.div_mul_le_self _ _
        have hM1 : d * d ≤ M := by omega
        have hMl : l ≤ M := by have := mul_first_ge (lo := l) (d := d) (by omega); omega
        have hMd : M % d = 0 := by
          rcases Nat.le_total (d * d) f with h | h
          · rw [← hM, Nat.max_eq_right h, ← hf, Nat.mul_mod_left]
          · rw [← hM, Nat.max_eq_left h, Nat.mul_mod_left]
        have hM9 : M ≤ 2000000000 := by omega
        have Hst := Lib.hid (fun j (hj : j < L) => (Hys.out j hj).trans (by rw [← mkB_start (lo := l) d1 (Nat.le_add_right l j), hf, hM]))
        have HMd := Lib.hid hMd
        have HM1 := Lib.hid hM1
        have hq0 : 0 ≤ ((l : Int) + (d : Int) - 1) / (d : Int) := Int.ediv_nonneg (by omega) (by omega)
        have hq1 : ((l : Int) + (d : Int) - 1) / (d : Int) ≤ (l : Int) + (d : Int) - 1 := Int.ediv_le_self _ (by omega)
        have hfi9 : ((l : Int) + (d : Int) - 1) / (d : Int) * (d : Int) ≤ 2000000000 := by rw [hfi]; omega
        have hfi0 : 0 ≤ ((l : Int) + (d : Int) - 1) / (d : Int) * (d : Int) := by rw [hfi]; omega
        clear hM hf hMd hM1 hlt2
        go_wp2_with fail
        clear hfi hMi hfi9 hfi0 hq0 hq1 hs1 hs0
        go_loopw [8] (fun i wr => ∃ q : Nat, i = .int .i64 ((l : Int) + (q : Int)) ∧ l + q ≤ 2000000000 ∧ d * d ≤ l + q ∧ (l + q) % d = 0 ∧ (∃ ys, wr.ownsRow w.heap.size 4 1 (.slice (some ⟨w.heap.size, 0, none⟩) L L) L ys ∧ ∀ j, j < L → ys[j]? = some (.bool (mkB d (l + q) (l + j)))) ∧ Below w.heap.size w wr) (fun i _ => hi + 1 - (intOf i).toNat)
        case atStart => exact ⟨M - l, by rw [show (M : Int) = (l : Int) + ((M - l : Nat) : Int) by omega], by omega, by rw [show l + (M - l) = M by omega]; exact HM1.out, by rw [show l + (M - l) = M by omega]; exact HMd.out, ⟨ys, Hown.out, fun j hj => by rw [show l + (M - l) = M by omega]; exact Hst.out j hj⟩, hbel⟩
        case round =>
          clear Hst HMd HM1 Hys Hown hbel
          clear ys
          obtain ⟨q, rfl, q2, q3, q4, ⟨ys, hown, hys⟩, hbel⟩ := hrel
          have Hown := Lib.hid hown
          have Hys := Lib.hid hys
          have Q3 := Lib.hid q3
          have Q4 := Lib.hid q4
          clear hown hys q3 q4
          by_cases hin : (l : Int) + (q : Int) ≤ (hi : Int)
          · have e1 : (l : Int) + (q : Int) - (l : Int) = (q : Int) := by omega
            have hqL : q < L := by have := HL.out; omega
            obtain ⟨x0, hx0, hf0⟩ := own_get Hown.out q (by omega)
            have hs := hbel.size
            go_wp2
            go_roundw
            case rel =>
              have h2 := (Hown.out.stored q (.bool true)).1
              have hxl : ys.length = L * 1 := Hown.out.1
              refine ⟨q + d, by rw [Int.natCast_add, Int.add_assoc], by omega, by have := Q3.out; omega, by rw [← Nat.add_assoc, Nat.add_mod_right]; exact Q4.out, ⟨_, h2, fun j hj => ?_⟩, hbel.setCell (Nat.le_refl _) _⟩
              by_cases hjq : j = q
              · subst hjq
                rw [List.getElem?_set_self (by omega), ← Nat.add_assoc, mkB_hit Q3.out Q4.out d1]
              · rw [List.getElem?_set_ne (by omega), ← Nat.add_assoc, mkB_other Q4.out d1 (by omega)]
                exact Hys.out j hj
            case measure => simp [intOf]; omega
          · go_wp2
            go_roundw
            case rel => exact ⟨d + 1, by go_num, by omega, by omega, ⟨ys, Hown.out, fun j hj => by rw [← mkB_end (m := l + q) d1 (by have := HL.out; omega)]; exact Hys.out j hj⟩, hbel⟩
            case measure => simp [intOf]; omega
      · have hlt2 : hi < d * d := by
          rcases Nat.lt_or_ge hi (d * d) with h3 | h3
          · exact h3
          · exact absurd (show (d : Int) * (d : Int) ≤ (hi : Int) by rw [← Int.natCast_mul]; omega) hlt
        have Hfin := Lib.hid (fun j (hj : j < L) => (Hys.out j hj : ys[j]? = some (.bool (anyD (l + j) d))))
        have Hpr := Lib.hid (fun j (hj : j < L) => anyD_prime (n := l + j) (d := d) (by omega) (by have := HL.out; omega))
        clear Hys hlt2
        have hs := hbel.size
        have Hbel := Lib.hid hbel
        clear hbel
        rename World => w2
        go_wp2_with fail
        go_loopw [9, 55] (fun v i w3 => ∃ k : Nat, k ≤ L ∧ i = .int .i64 (k : Int) ∧ OwnI w3 w2.heap.size v (flF primeB l k) ∧ Below w2.heap.size w2 w3) (fun _ i _ => L - (intOf i).toNat)
        case atStart => exact ⟨0, Nat.zero_le _, rfl, World.ownsRow_nil _ _ _ _, Below.refl _ _⟩
        case round =>
          rename_i v
          obtain ⟨k, hk, rfl, hown, hb3⟩ := hrel
          have Hout := Lib.hid hown
          clear hown
          have hs3 := hb3.size
          by_cases hin : k < L
          · obtain ⟨g, hg, hg1, hg2⟩ := own_form Hown.out (by omega)
            injection hg with hg
            injection hg with hg
            subst hg
            have hc0 := (hb3.cell (p := ⟨w.heap.size, k, none⟩) hg2).trans ((Hown.out.cellAt k (by omega)).trans (Hfin.out k hin))
            have hP := Hpr.out k hin
            have hul := flF_len primeB l k
            have Hl := Lib.hid (show (flF primeB l k).length ≤ 1048575 by omega)
            clear hul
            cases hp : primeB (l + k) with
            | true =>
              have Hy := Lib.hid (flF_yes hp)
              have ha : anyD (l + k) d = false := by rw [hp] at hP; simpa using hP
              rw [ha] at hc0
              clear hP ha
              go_wp2_with (at_builtin; refine wp_app_int _ rfl _ _ rfl w2.heap.size _ _ rfl Hout.out _ rfl (by have := Hl.out; omega) hs3 ?_; intro v' w4 hown4 b4)
              go_roundw
              case rel => exact ⟨k + 1, by omega, by go_num, by rw [Hy.out, Int.natCast_add]; exact hown4, hb3.trans b4⟩
              case measure => simp [intOf]; omega
            | false =>
              have Hy := Lib.hid (flF_no hp)
              have ha : anyD (l + k) d = true := by rw [hp] at hP; simpa using hP
              rw [ha] at hc0
              clear hP ha
              go_wp2
              go_roundw
              case rel => exact ⟨k + 1, by omega, by go_num, by rw [Hy.out]; exact Hout.out, hb3⟩
              case measure => simp [intOf]; omega
          · go_wp2
            go_ret
            have hkM : k = L := by omega
            subst hkM
            exact ⟨⟨_, rfl, OwnI.mono Hout.out hs⟩, Hbel.out.trans (hb3.mono hs)⟩

end Go.Proofs.Ytgkciiklgadgkaa

namespace Go.Proofs.Ytgkciiklgadgkaa
open Go.RowKit
set_option linter.unusedVariables false
set_option linter.unusedSimpArgs false

set_option maxRecDepth 100000 in
theorem prime_1000003 : primeB 1000003 = true := by decide +kernel
set_option maxRecDepth 100000 in
theorem count_primes : (flF primeB 2 9999).length = 1229 := by decide +kernel
set_option maxRecDepth 100000 in
theorem count_first : (flF primeB 2 36).length = 12 := by decide +kernel

theorem primesBetween_i (w : World) (a b : Int) (ha : 0 ≤ a) (ha2 : a ≤ 1000000000) (hb : 0 ≤ b) (hb2 : b ≤ 1000000000) (hd : b - a ≤ 90000) :
    Calls Try.prog 81 #[.int .i64 a, .int .i64 b] w fun en w' => (∃ v, en = .returned v ∧ OwnI w' w.heap.size v (prB a.toNat b.toNat)) ∧ Below w.heap.size w w' := by
  obtain ⟨lo, rfl⟩ := Int.eq_ofNat_of_zero_le ha
  obtain ⟨hi, rfl⟩ := Int.eq_ofNat_of_zero_le hb
  exact primesBetween_c w lo hi (by omega) (by omega) (by omega)

def pbOk (a b : Int) : Bool := inB a 0 1000000000 && inB b 0 1000000000 && decide (b - a ≤ 2000)
def pbA (a b : Int) : List Int := if pbOk a b then prB a.toNat b.toNat else []
theorem pbA_no {a b : Int} (h : pbOk a b = false) : pbA a b = [] := by rw [pbA, h]; rfl
theorem pbA_yes {a b : Int} (h : pbOk a b = true) : pbA a b = prB a.toNat b.toNat := by rw [pbA, h]; rfl
theorem pbA_len (a b : Int) : (pbA a b).length ≤ 1048576 := by
  cases h : pbOk a b with
  | false => rw [pbA_no h]; exact Nat.zero_le _
  | true =>
    rw [pbA_yes h]
    have := prB_len a.toNat b.toNat
    simp only [pbOk, Bool.and_eq_true, decide_eq_true_eq, inB_true] at h
    omega

def cpOk (n : Int) : Bool := inB n 0 10000
def cpV (n : Int) : Int := if cpOk n then ((prB 2 n.toNat).length : Int) else 0
theorem cpV_no {n : Int} (h : cpOk n = false) : cpV n = 0 := by rw [cpV, h]; rfl
theorem cpV_yes {n : Int} (h : cpOk n = true) : cpV n = ((prB 2 n.toNat).length : Int) := by rw [cpV, h]; rfl

/-- The first prime from m on, m at most 1000003. -/
def npF : Nat → Nat → Nat
  | 0, m => m
  | f + 1, m => if primeB m then m else npF f (m + 1)
def nextP (m : Nat) : Nat := npF (1000004 - m) m
theorem nextP_yes {m : Nat} (h : m ≤ 1000003) (hp : primeB m = true) : nextP m = m := by
  rw [nextP, show 1000004 - m = (1000003 - m) + 1 by omega, npF, if_pos hp]
theorem nextP_no {m : Nat} (h : m ≤ 1000003) (hp : primeB m = false) : nextP m = nextP (m + 1) ∧ m + 1 ≤ 1000003 := by
  have h2 : m ≠ 1000003 := fun e => by rw [e, prime_1000003] at hp; cases hp
  rw [nextP, show 1000004 - m = (1000004 - (m + 1)) + 1 by omega, npF, if_neg (by rw [hp]; exact Bool.false_ne_true)]
  exact ⟨rfl, by omega⟩
def npOk (n : Int) : Bool := inB n 0 1000000
def npV (n : Int) : Int := if npOk n then (nextP (n.toNat + 1) : Int) else 0
theorem npV_no {n : Int} (h : npOk n = false) : npV n = 0 := by rw [npV, h]; rfl
theorem npV_yes {n : Nat} (h : npOk (n : Int) = true) : npV (n : Int) = (nextP (n + 1) : Int) := by rw [npV, h, Int.toNat_natCast]; rfl

end Go.Proofs.Ytgkciiklgadgkaa

namespace Go.Proofs.Ytgkciiklgadgkaa
open Go.RowKit
set_option linter.unusedVariables false
set_option linter.unusedSimpArgs false

/-- The primes up to 10000. -/
def pr9 : List Int := flF primeB 2 9999
theorem pr9_len : pr9.length = 1229 := count_primes
theorem pr9_is : prB 2 10000 = pr9 := rfl
theorem pr9_take {j k : Nat} (hj : j ≤ 9999) (h : (flF primeB 2 j).length = k) : pr9.take k = flF primeB 2 j := by
  rw [pr9, show 9999 = j + (9999 - j) by omega, flF_add, ← h, List.take_left']
  rfl
theorem pr9_more {j k : Nat} (h : (flF primeB 2 j).length < k) (hk : k ≤ 1229) (hj : j ≤ 9999) : j + 1 ≤ 9999 := by
  rcases Nat.lt_or_ge j 9999 with h1 | h1
  · exact h1
  · have : j = 9999 := by omega
    rw [this, count_primes] at h
    omega
theorem pr9_first {k : Nat} (hk : k ≤ 12) : (prB 2 37).take k = pr9.take k := by
  rw [pr9, show 9999 = 36 + 9963 by rfl, flF_add, List.take_append_of_le_length (by rw [count_first]; exact hk)]
  rfl
theorem OwnI.cap {w : World} {B n c : Nat} {A : Option Addr} {xs : List Int} (h : OwnI w B (.slice A n c) xs) : n ≤ c ∧ c ≤ 9223372036854775807 := by
  rcases h.2 with ⟨e, h0⟩ | ⟨g, cap, cur, e, hB, hg, hle, hm, hcs, ht⟩
  · simp only [Value.slice.injEq] at e
    omega
  · simp only [Value.slice.injEq] at e
    unfold maxLen at hm
    omega


set_option maxRecDepth 100000 in
set_option maxHeartbeats 800000 in
theorem firstPrimes_c (w : World) (k : Nat) (hk : k ≤ 12) :
    Calls Try.prog 74 #[.int .i64 (k : Int)] w fun en w' => (∃ g c, en = .returned (.slice (some ⟨g, 0, none⟩) k c) ∧ w.heap.size ≤ g ∧ g < w'.heap.size ∧ ∀ j, j < k → w'.cell? ⟨g, j, none⟩ = some (.int .i64 (ivL pr9 j))) ∧ Below w.heap.size w w' := by
  go_enter Try.func74, Try.ntmps74
  go_wp2_with fail
  refine (primesBetween_i _ 2 37 (by omega) (by omega) (by omega) (by omega) (by omega)).mono ?_
  rintro e w1 ⟨⟨v, rfl, o1⟩, b1⟩
  have o2 : OwnI w1 w.heap.size v (prB 2 37) := o1
  clear o1
  obtain ⟨A, c, rfl⟩ := o2.shape
  have h12 : (prB 2 37).length = 12 := count_first
  have hcap := o2.cap
  rw [h12] at hcap o2 ⊢
  obtain ⟨g, rfl, hg1, hg2⟩ := own_form (OwnI.own_n o2 h12.symm) (by omega)
  have HI := Lib.hid (fun j (hj : j < k) => show w1.cell? ⟨g, j, none⟩ = some (.int .i64 (ivL pr9 j)) by
    obtain ⟨g', e', _, _, hc⟩ := o2.cell (j := j) (by omega)
    injection e' with e'
    injection e' with e'
    subst e'
    rw [hc, ← ivL_take (xs := pr9) hj, ← pr9_first hk, ivL_take hj]
    rfl)
  clear o2 h12
  have hc1 : (k : Int) ≤ (c : Int) := by omega
  go_wp2
  go_ret
  exact ⟨⟨_, _, rfl, hg1, hg2, HI.out⟩, b1⟩

def porOk (r : Int) : Bool := inB r 0 1228
def porV (r : Int) : Int := if porOk r then ivL pr9 r.toNat else 0
theorem porV_no {r : Int} (h : porOk r = false) : porV r = 0 := by rw [porV, h]; rfl
theorem porV_yes {r : Nat} (h : porOk (r : Int) = true) : porV (r : Int) = ivL pr9 r := by rw [porV, h, Int.toNat_natCast]; rfl

end Go.Proofs.Ytgkciiklgadgkaa
