import Derived.Test.YtbgoimhgmgldpaaR1
import Derived.Test.YtbgoimhgmgldpaaL0
import Derived.Laws.IdiomStrings
import Derived.IntWalk
namespace Go.Proofs.Ytbgoimhgmgldpaa
open Go.RowKit
set_option linter.unusedVariables false
set_option linter.unusedSimpArgs false

/-- The signs of 1 to k. -/
def ptT (rs : List (Int × Int)) : Nat → ByteArray
  | 0 => ⟨#[]⟩
  | k + 1 => if leftF rs ((k : Int) + 1) = true then ptT rs k ++ ⟨#[111]⟩ else ptT rs k ++ ⟨#[120]⟩
theorem ptT_size (rs : List (Int × Int)) : ∀ k, (ptT rs k).size = k
  | 0 => rfl
  | k + 1 => by
    have h := ptT_size rs k
    have h1 : (⟨#[111]⟩ : ByteArray).size = 1 := rfl
    have h2 : (⟨#[120]⟩ : ByteArray).size = 1 := rfl
    rw [ptT]
    split <;> rw [ByteArray.size_append] <;> omega
theorem ptT_yes {rs : List (Int × Int)} {k : Nat} (h : leftF rs ((k : Int) + 1) = true) : ptT rs (k + 1) = ptT rs k ++ ⟨#[111]⟩ := by rw [ptT, if_pos h]
theorem ptT_no {rs : List (Int × Int)} {k : Nat} (h : leftF rs ((k : Int) + 1) = false) : ptT rs (k + 1) = ptT rs k ++ ⟨#[120]⟩ := by rw [ptT, if_neg (by rw [h]; decide)]
theorem addP (a b : ByteArray) (h : a.size + b.size ≤ 1000) : ∀ w : World, (Op.stringOp .add a b).run Try.prog w = .ok (.string (a ++ b)) w :=
  fun w => run_string_add_sum w _ _ (by omega)
def ptO (rs : List (Int × Int)) (n : Int) : Bool := goodL rs && inB n 1 48
def ptV (rs : List (Int × Int)) (n : Int) : ByteArray := if ptO rs n then ptT rs n.toNat else ⟨#[]⟩
theorem ptV_no {rs : List (Int × Int)} {n : Int} (h : ptO rs n = false) : ptV rs n = ⟨#[]⟩ := by rw [ptV, h]; rfl
theorem ptV_yes {rs : List (Int × Int)} {n : Nat} (h : ptO rs (n : Int) = true) : ptV rs (n : Int) = ptT rs n := by rw [ptV, h, Int.toNat_natCast]; rfl
set_option maxRecDepth 100000 in
set_option maxHeartbeats 800000 in
theorem spec_PatternOf_c (w : World) (A : Option Addr) (m c : Nat) (rs : List (Int × Int)) (hA : Rl w A rs) (hm : m = rs.length) (hn : m ≤ 1048576) (n : Int) :
    Calls Try.prog 22 #[.slice A m c, .int .i64 n] w fun en w' => en = .returned (.tuple #[.string (ptV rs n), .bool (ptO rs n)]) ∧ Below w.heap.size w w' := by
  have Hm := Lib.hid hm
  clear hm
  cases hg : goodL rs with
  | false =>
    have ho : ptO rs n = false := by simp [ptO, *]
    rw [ptV_no ho, ho]
    clear ho
    go_enter Try.func22, Try.ntmps22
    go_wp2_with fail
    refine (good_c _ _ _ rs _ hA Hm.out hn).mono ?_
    rintro e w1 ⟨rfl, b1⟩
    have hA_1 := hA.below b1
    go_wp2
    go_ret2
    exact ⟨rfl, b1⟩
  | true =>
    cases hh : inB n 1 48 with
    | false =>
      have ho : ptO rs n = false := by simp [ptO, *]
      rw [ptV_no ho, ho]
      clear ho
      go_enter Try.func22, Try.ntmps22
      go_wp2_with fail
      refine (good_c _ _ _ rs _ hA Hm.out hn).mono ?_
      rintro e w1 ⟨rfl, b1⟩
      have hA_1 := hA.below b1
      go_wp2_with fail
      refine (l1In_c _ _ _ _).mono ?_
      rintro e w2 ⟨rfl, rfl⟩
      go_wp2
      go_ret2
      exact ⟨rfl, b1⟩
    | true =>
      have ho : ptO rs n = true := by simp [ptO, *]
      obtain ⟨n1, n2⟩ := inB_true.1 hh
      obtain ⟨M, rfl⟩ := Int.eq_ofNat_of_zero_le (show 0 ≤ n by omega)
      rw [ptV_yes ho, ho]
      clear ho
      have Hg := Lib.hid hg
      have Hh := Lib.hid hh
      go_enter Try.func22, Try.ntmps22
      go_wp2_with fail
      refine (good_c _ _ _ rs _ hA Hm.out hn).mono ?_
      rintro e w1 ⟨rfl, b1⟩
      have hA_1 := hA.below b1
      go_wp2_with fail
      refine (l1In_c _ _ _ _).mono ?_
      rintro e w2 ⟨rfl, rfl⟩
      go_wp2
      go_loopw [6, 7] (fun v i wr => ∃ k : Nat, k ≤ M ∧ i = .int .i64 ((k : Int) + 1) ∧ v = .string (ptT rs k) ∧ Below w.heap.size w wr) (fun _ i _ => M + 2 - (intOf i).toNat)
      case atStart => exact ⟨0, Nat.zero_le _, rfl, rfl, b1⟩
      case round =>
        obtain ⟨k, hk, rfl, rfl, hbel⟩ := hrel
        have hs := hbel.size
        have hR := hA.below hbel
        have hsz := ptT_size rs k
        by_cases hlt : k < M
        · have Hc := siLeft_c A c m rs ((k : Int) + 1) _ hR Hm.out Hg.out (by omega) (by omega)
          obtain ⟨S, hS⟩ : ∃ S, ptT rs k = S := ⟨_, rfl⟩
          rw [hS] at hsz
          have a1 := addP S ⟨#[111]⟩ (by have h1 : (⟨#[111]⟩ : ByteArray).size = 1 := rfl; omega)
          have a2 := addP S ⟨#[120]⟩ (by have h1 : (⟨#[120]⟩ : ByteArray).size = 1 := rfl; omega)
          cases hl : leftF rs ((k : Int) + 1) with
          | true =>
            have Hy := Lib.hid (ptT_yes hl)
            rw [hS] at Hy ⊢
            rw [hl] at Hc
            have HC := Lib.hid Hc
            clear hl Hc hS hsz
            go_wp2_with fail
            refine HC.out.mono ?_
            rintro e w5 ⟨rfl, b5⟩
            go_wp2
            go_roundw
            case rel => exact ⟨k + 1, by omega, by go_num, by rw [Hy.out], hbel.trans (b5.mono hs)⟩
            case measure => simp [intOf]; omega
          | false =>
            have Hy := Lib.hid (ptT_no hl)
            rw [hS] at Hy ⊢
            rw [hl] at Hc
            have HC := Lib.hid Hc
            clear hl Hc hS hsz
            go_wp2_with fail
            refine HC.out.mono ?_
            rintro e w5 ⟨rfl, b5⟩
            go_wp2
            go_roundw
            case rel => exact ⟨k + 1, by omega, by go_num, by rw [Hy.out], hbel.trans (b5.mono hs)⟩
            case measure => simp [intOf]; omega
        · have Hk := Lib.hid (show k = M by omega)
          clear hsz
          go_wp2
          go_ret2
          exact ⟨by rw [← Hk.out]; rfl, hbel⟩

end Go.Proofs.Ytbgoimhgmgldpaa
