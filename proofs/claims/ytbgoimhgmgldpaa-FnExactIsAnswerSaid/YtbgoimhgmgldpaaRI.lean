import Derived.Test.YtbgoimhgmgldpaaRH
import Derived.Test.YtbgoimhgmgldpaaR2
import Derived.Laws.BytesArg
namespace Go.Proofs.Ytbgoimhgmgldpaa
open Go.RowKit
set_option linter.unusedVariables false
set_option linter.unusedSimpArgs false

/-- The sign of a number. -/
def sbF (rs : List (Int × Int)) (n : Int) : Nat := if leftF rs n then 111 else 120
def sbL (rs : List (Int × Int)) (m : Nat) : List Int := (List.range m).map fun j : Nat => ((sbF rs ((j : Int) + 1) : Nat) : Int)
theorem sbL_len (rs : List (Int × Int)) (m : Nat) : (sbL rs m).length = m := by simp [sbL]
theorem sbL_at {rs : List (Int × Int)} {m j : Nat} (h : j < m) : (sbL rs m)[j]? = some (sbF rs ((j : Int) + 1) : Int) := by
  rw [sbL, List.getElem?_map, List.getElem?_range h]; rfl
theorem sbL_getD {rs : List (Int × Int)} {m j : Nat} (h : j < m) : (sbL rs m).getD j 0 = (sbF rs ((j : Int) + 1) : Int) := by
  rw [List.getD_eq_getElem?_getD, sbL_at h]; rfl
theorem sonApp (xs ys : List Int) : strOfNums (xs ++ ys) = strOfNums xs ++ strOfNums ys := by
  have h : (strOfNums (xs ++ ys)).data = (strOfNums xs ++ strOfNums ys).data := by
    rw [ByteArray.data_append]; simp [strOfNums]
  generalize strOfNums (xs ++ ys) = a at h ⊢
  generalize strOfNums xs ++ strOfNums ys = b at h ⊢
  cases a; cases b
  simp only at h
  rw [h]
theorem ptT_nums (rs : List (Int × Int)) : ∀ m, strOfNums (sbL rs m) = ptT rs m
  | 0 => rfl
  | m + 1 => by
    rw [sbL, List.range_succ, List.map_append, sonApp]
    have ih := ptT_nums rs m
    rw [sbL] at ih
    rw [ih]
    cases h : leftF rs ((m : Int) + 1) with
    | true => rw [ptT_yes h, List.map_cons, List.map_nil, sbF, if_pos h]; rfl
    | false => rw [ptT_no h, List.map_cons, List.map_nil, sbF, if_neg (by rw [h]; decide)]; rfl
set_option maxRecDepth 100000 in
set_option maxHeartbeats 400000 in
theorem signBehind_c (A : Option Addr) (c m : Nat) (rs : List (Int × Int)) (n : Int) (w : World) (hA : Rl w A rs) (hm : m = rs.length) (hg : goodL rs = true) (h1 : -10000000000000 ≤ n) (h2 : n ≤ 10000000000000) :
    Calls Try.prog 91 #[.slice A m c, .int .i64 n] w fun en w' => en = .returned (.int .u8 (sbF rs n : Int)) ∧ Below w.heap.size w w' := by
  have Hc := isLeft_c A c m rs n w hA hm hg h1 h2
  clear hm hg
  cases hl : leftF rs n with
  | true =>
    rw [show sbF rs n = 111 by rw [sbF, if_pos hl]]
    rw [hl] at Hc
    have HC := Lib.hid Hc
    clear hl Hc
    go_enter Try.func91, Try.ntmps91
    go_wp2_with fail
    refine HC.out.mono ?_
    rintro e w2 ⟨rfl, b2⟩
    go_wp2
    go_ret
    exact ⟨rfl, b2⟩
  | false =>
    rw [show sbF rs n = 120 by rw [sbF, if_neg (by rw [hl]; decide)]]
    rw [hl] at Hc
    have HC := Lib.hid Hc
    clear hl Hc
    go_enter Try.func91, Try.ntmps91
    go_wp2_with fail
    refine HC.out.mono ?_
    rintro e w2 ⟨rfl, b2⟩
    go_wp2
    go_ret
    exact ⟨rfl, b2⟩
theorem info_B8 : (Try.prog.info? 5).map (fun i => (i.zero, i.size, i.bytes)) = some (some (.int .u8 0), 1, 1) := by kernel_rfl
set_option maxRecDepth 100000 in
set_option maxHeartbeats 1000000 in
theorem signsBehind_c (A : Option Addr) (c m : Nat) (rs : List (Int × Int)) (M : Nat) (w : World) (hA0 : Rl w A rs) (hm : m = rs.length) (hg : goodL rs = true) (hM : M ≤ 48) :
    Calls Try.prog 66 #[.slice A m c, .int .i64 (M : Int)] w fun en w' => en = .returned (.string (ptT rs M)) ∧ Below w.heap.size w w' := by
  have Hm := Lib.hid hm
  have Hg := Lib.hid hg
  clear hm hg
  have hmk := mk_full Try.underlying86 info_B8 M (by omega) (by omega) w
  have hml := mk_owns (e := 5) #[.int .u8 0] 1 M (by unfold maxLen; omega) w
  rw [Nat.mul_one] at hml
  have hM0 : ¬ (M : Int) < 0 := by omega
  go_enter Try.func66, Try.ntmps66
  go_wp2
  clear hmk
  go_loopw [11] (fun i wr => ∃ k : Nat, k ≤ M ∧ i = .int .i64 (k : Int) ∧ (∃ xs, wr.ownsRow w.heap.size 5 1 (.slice (some ⟨w.heap.size, 0, none⟩) M M) M xs ∧ ∀ j, j < k → xs[j]? = some (.int .u8 (sbF rs ((j : Int) + 1) : Int))) ∧ Below w.heap.size w wr) (fun i _ => M - (intOf i).toNat)
  case atStart => exact ⟨0, Nat.zero_le _, rfl, ⟨_, hml, by omega⟩, (Below.refl _ _).alloc (Nat.le_refl _) _⟩
  case round =>
    clear hml
    obtain ⟨k, hk, rfl, ⟨xs, hown, hxs⟩, hbel⟩ := hrel
    have Hxs := Lib.hid hxs
    have Hown := Lib.hid hown
    clear hxs hown
    have hs := hbel.size
    by_cases hlt : k < M
    · have hki : (k : Int) < (M : Int) := by omega
      have hA := hA0.below hbel
      have Hc := signBehind_c A c m rs ((k : Int) + 1) wr hA Hm.out Hg.out (by omega) (by omega)
      have HC := Lib.hid Hc
      clear Hc
      obtain ⟨b, hb⟩ : ∃ b, sbF rs ((k : Int) + 1) = b := ⟨_, rfl⟩
      rw [hb] at HC
      have Hb := Lib.hid hb
      clear hb
      go_wp2_with fail
      refine HC.out.mono ?_
      rintro e w2 ⟨rfl, b2⟩
      have hown2 := own_below Hown.out b2
      have Hown2 := Lib.hid hown2
      clear hown2
      obtain ⟨x0, hx0, hf0⟩ := own_get Hown2.out k (by omega)
      go_wp2
      go_roundw
      case rel =>
        have h2 := Hown2.out.stored k (.int .u8 (b : Int))
        refine ⟨k + 1, by omega, by go_num, ⟨_, h2.1, fun j hj => ?_⟩, (hbel.trans (b2.mono hs)).setCell (Nat.le_refl _) _⟩
        have hxl : xs.length = M := by have := Hown.out.1; omega
        rcases Nat.lt_succ_iff_lt_or_eq.1 hj with h | h
        · have := Hxs.out j h
          rw [List.getElem?_set_ne (by omega)]
          exact this
        · subst h
          rw [List.getElem?_set_self (by omega), Hb.out]
      case measure => simp [intOf]; omega
    · have hkn : k = M := by omega
      subst hkn
      have hnk : ¬ (k : Int) < (k : Int) := by omega
      have hown := Hown.out
      have hxl : xs.length = k := by have := hown.1; omega
      have hcells : ∀ i, i < k → wr.cell? ⟨w.heap.size, 0 + i, none⟩ = some (.int .u8 ((sbL rs k).getD i 0)) := fun i hi => by
        rw [Nat.zero_add, hown.cellAt i (by omega), Hxs.out i hi, sbL_getD hi]
      have hcv := run_convert_bytes_arg (P := Try.prog) wr 86 5 Try.underlying86 Try.underlying5 w.heap.size 0 k k (sbL rs k) (sbL_len rs k) hcells
      rw [ptT_nums] at hcv
      have hcv1 := hcv 9 Try.underlying9
      clear hcells hown hxl hcv
      go_wp2
      go_ret
      exact ⟨rfl, hbel⟩
set_option maxRecDepth 100000 in
set_option maxHeartbeats 800000 in
theorem impl_PatternOf_c (w : World) (A : Option Addr) (m c : Nat) (rs : List (Int × Int)) (hA : Rl w A rs) (hm : m = rs.length) (hn : m ≤ 1048576) (n : Int) :
    Calls Try.prog 24 #[.slice A m c, .int .i64 n] w fun en w' => en = .returned (.tuple #[.string (ptV rs n), .bool (ptO rs n)]) ∧ Below w.heap.size w w' := by
  have Hm := Lib.hid hm
  clear hm
  cases hg : goodL rs with
  | false =>
    have ho : ptO rs n = false := by simp [ptO, *]
    rw [ptV_no ho, ho]
    clear ho
    go_enter Try.func24, Try.ntmps24
    go_wp2_with fail
    refine (implAreRules_c _ _ _ rs _ hA Hm.out hn).mono ?_
    rintro e w1 ⟨rfl, b1⟩
    have hA_1 := hA.below b1
    go_wp2
    go_ret2
    exact ⟨rfl, b1⟩
  | true =>
    cases hh : inB n 1 48 with
    | false =>
      have ho : ptO rs n = false := by simp [ptO, *]
      rw [ptV_no ho, ho]
      clear ho
      go_enter Try.func24, Try.ntmps24
      go_wp2_with fail
      refine (implAreRules_c _ _ _ rs _ hA Hm.out hn).mono ?_
      rintro e w1 ⟨rfl, b1⟩
      have hA_1 := hA.below b1
      go_wp2_with fail
      refine (isPatternLength_c _ _).mono ?_
      rintro e w2 ⟨rfl, rfl⟩
      go_wp2
      go_ret2
      exact ⟨rfl, b1⟩
    | true =>
      have ho : ptO rs n = true := by simp [ptO, *]
      obtain ⟨n1, n2⟩ := inB_true.1 hh
      obtain ⟨M, rfl⟩ := Int.eq_ofNat_of_zero_le (show 0 ≤ n by omega)
      rw [ptV_yes ho, ho]
      clear ho
      have Hg := Lib.hid hg
      have Hh := Lib.hid hh
      go_enter Try.func24, Try.ntmps24
      go_wp2_with fail
      refine (implAreRules_c _ _ _ rs _ hA Hm.out hn).mono ?_
      rintro e w1 ⟨rfl, b1⟩
      have hA_1 := hA.below b1
      go_wp2_with fail
      refine (isPatternLength_c _ _).mono ?_
      rintro e w2 ⟨rfl, rfl⟩
      go_wp2_with fail
      refine (signsBehind_c _ _ _ rs M _ hA_1 Hm.out Hg.out (by omega)).mono ?_
      rintro e w3 ⟨rfl, b3⟩
      have hA_3 := hA_1.below b3
      have bb3 := b1.trans (b3.mono b1.size)
      go_wp2
      go_ret2
      exact ⟨rfl, bb3⟩

end Go.Proofs.Ytbgoimhgmgldpaa
