import Derived.Test.YtaapfapejekkfaaW2
import Derived.Test.YtaapfapejekkfaaPD
namespace Go.Proofs.Ytaapfapejekkfaa
open Go.RowKit
set_option linter.unusedVariables false
set_option linter.unusedSimpArgs false

theorem HeadI.cells {w : World} {B n c : Nat} {A : Option Addr} {xs : List Int} (h : HeadI w B (.slice A n c) xs) (hp : 0 < xs.length) : ∃ g, A = some ⟨g, 0, none⟩ ∧ B ≤ g ∧ g < w.heap.size ∧ ∀ k, k < xs.length → w.cell? ⟨g, k, none⟩ = some (.int .i64 (ivL xs k)) := by
  obtain ⟨A', c', C, zs, e, o⟩ := h
  injection e with e1 e2 e3
  subst e1
  obtain ⟨g, c2, e, h1, h2, hc⟩ := own_cells o (by simp; omega)
  injection e with e1 e2 e3
  refine ⟨g, e1, h1, h2, fun k hk => ?_⟩
  rw [hc k (by simp; omega)]
  simp [ivL, List.getElem?_append, hk]
theorem WheelV.yes {w : World} {B : Nat} {v : Value} {rs : List (Int × Int)} (h : WheelV w B v rs) (hw : whB rs = true) : ∃ g1 c1 g2 c2, v = .agg #[.int .i64 (whP rs : Int), .slice (some ⟨g1, 0, none⟩) (spk rs).length c1, .slice (some ⟨g2, 0, none⟩) (spk rs).length c2] ∧ g1 < w.heap.size ∧ g2 < w.heap.size ∧ (∀ k, k < (spk rs).length → w.cell? ⟨g1, k, none⟩ = some (.int .i64 (ivL (spk rs) k))) ∧ (∀ k, k < (spk rs).length → w.cell? ⟨g2, k, none⟩ = some (.int .i64 (ivL (stA rs) k))) ∧ B ≤ g1 ∧ B ≤ g2 ∧ OwnI w B (.slice (some ⟨g2, 0, none⟩) (stA rs).length c2) (stA rs) := by
  obtain ⟨A1, c1, A2, c2, rfl, hh, ht⟩ := h.parts
  have hpos := spk_pos hw
  rw [spV_yes hw] at hh
  rw [stV_yes hw] at ht
  obtain ⟨g1, rfl, a1, a2, a3⟩ := hh.cells hpos
  obtain ⟨g2, c', e, d1, d2, d3⟩ := own_cells ht (by rw [stA_len]; exact hpos)
  injection e with e1 e2 e3
  subst e1
  refine ⟨g1, c1, g2, c2, ?_, a2, d2, a3, fun k hk => d3 k (by rw [stA_len]; exact hk), a1, d1, ht⟩
  rw [spV_yes hw, stV_yes hw, stA_len]

theorem tm_cnt (xs : List Int) (s : Int) : ∀ k, tmN xs s k = cntP xs (fun x => x == s) k
  | 0 => rfl
  | k + 1 => by
    cases h : (ivL xs k == s) with
    | true => rw [tmN_yes (beq_iff_eq.1 h), cntP_yes h, tm_cnt xs s k]
    | false => rw [tmN_no (beq_eq_false_iff_ne.1 h), cntP_no h, tm_cnt xs s k]
set_option maxRecDepth 100000 in
set_option maxHeartbeats 1600000 in
theorem impl_CountStep_c (w : World) (A : Option Addr) (m c : Nat) (rs : List (Int × Int)) (hA : Rl w A rs) (hm : m = rs.length) (hn : m ≤ 1048576) (s : Int) :
    Calls Try.prog 100 #[.slice A m c, .int .i64 s] w fun en w' => en = .returned (.tuple #[.int .i64 (cstV rs s), .bool (csO rs s)]) ∧ Below w.heap.size w w' := by
  have Hm := Lib.hid hm
  clear hm
  have hw := wheelOf_c w A m c rs hA Hm.out hn
  cases hg : whB rs with
  | false =>
    rw [hg] at hw
    have Hw := Lib.hid hw
    clear hw
    have ho : csO rs s = false := by simp [csO, *]
    rw [cstV_no ho, ho]
    clear ho
    go_enter Try.func100, Try.ntmps100
    go_wp2_with fail
    refine Hw.out.mono ?_
    rintro e w1 ⟨⟨v1, rfl, hv⟩, b1⟩
    obtain ⟨A1, c1, A2, c2, rfl, hh, ht⟩ := hv.parts
    go_wp2
    go_ret2
    exact ⟨rfl, b1.alloc b1.size _⟩
  | true =>
    rw [hg] at hw
    have Hw := Lib.hid hw
    clear hw
    have hp5 := (whB_parts hg).2.2.2.2.2.1
    have hp1 := (whB_parts hg).2.2.2.2.1
    have Hgl := Lib.hid (whB_parts hg).1
    have hpos := spk_pos hg
    have hsl := spk_len rs
    skip
    by_cases hk : 1 ≤ s
    · have ho : csO rs s = true := by simp [csO, *]
      rw [cstV_yes ho, ho, stA_len]
      clear ho
      go_enter Try.func100, Try.ntmps100
      go_wp2_with fail
      refine Hw.out.mono ?_
      rintro e w1 ⟨⟨v1, rfl, hv⟩, b1⟩
      obtain ⟨g1, c1, g2, c2, rfl, hg1, hg2, hcA, hcB, _, _, _⟩ := hv.yes hg
      have HcA := Lib.hid hcA
      have HcB := Lib.hid hcB
      clear hcA hcB hv
      have b2 := b1.alloc b1.size (.cells #[.int .i64 (whP rs : Int), .slice (some ⟨g1, 0, none⟩) (spk rs).length c1, .slice (some ⟨g2, 0, none⟩) (spk rs).length c2] 130)
      have R2 := hA.below b2
      have b12 : Below w1.heap.size w1 (w1.alloc (.cells #[.int .i64 (whP rs : Int), .slice (some ⟨g1, 0, none⟩) (spk rs).length c1, .slice (some ⟨g2, 0, none⟩) (spk rs).length c2] 130)) := (Below.refl _ _).alloc (Nat.le_refl _) _
      have HcB2 := Lib.hid (fun k (hk : k < (spk rs).length) => (b12.cell (p := ⟨g2, k, none⟩) hg2).trans (HcB.out k hk))
      have HT := Lib.hid (timesIn_c _ (some ⟨g2, 0, none⟩) (spk rs).length c2 (stA rs) (fun hp => ⟨g2, 0, rfl, Nat.lt_of_lt_of_le hg2 b12.size, fun k hk => by rw [Nat.zero_add]; exact HcB2.out k (by rw [← stA_len]; exact hk)⟩) (stA_len rs).symm (by omega) s)
      rw [tm_cnt] at HT
      go_wp2_with fail
      refine HT.out.mono ?_
      rintro e w5 ⟨rfl, rfl⟩
      go_wp2
      go_ret2
      exact ⟨rfl, b2⟩
    · have ho : csO rs s = false := by simp [csO, *]
      rw [cstV_no ho, ho]
      clear ho
      go_enter Try.func100, Try.ntmps100
      go_wp2_with fail
      refine Hw.out.mono ?_
      rintro e w1 ⟨⟨v1, rfl, hv⟩, b1⟩
      obtain ⟨g1, c1, g2, c2, rfl, hg1, hg2, hcA, hcB, _, _, _⟩ := hv.yes hg
      have HcA := Lib.hid hcA
      have HcB := Lib.hid hcB
      clear hcA hcB hv
      have b2 := b1.alloc b1.size (.cells #[.int .i64 (whP rs : Int), .slice (some ⟨g1, 0, none⟩) (spk rs).length c1, .slice (some ⟨g2, 0, none⟩) (spk rs).length c2] 130)
      have R2 := hA.below b2
      have b12 : Below w1.heap.size w1 (w1.alloc (.cells #[.int .i64 (whP rs : Int), .slice (some ⟨g1, 0, none⟩) (spk rs).length c1, .slice (some ⟨g2, 0, none⟩) (spk rs).length c2] 130)) := (Below.refl _ _).alloc (Nat.le_refl _) _
      go_wp2
      go_ret2
      exact ⟨rfl, b2⟩

set_option maxRecDepth 100000 in
set_option maxHeartbeats 1600000 in
theorem impl_TimesTogether_c (w : World) (A : Option Addr) (m c : Nat) (rs : List (Int × Int)) (hA : Rl w A rs) (hm : m = rs.length) (hn : m ≤ 1048576) (s : Int) :
    Calls Try.prog 106 #[.slice A m c, .int .i64 s] w fun en w' => en = .returned (.tuple #[.int .i64 (ttV rs s), .bool (ttO rs s)]) ∧ Below w.heap.size w w' := by
  have Hm := Lib.hid hm
  clear hm
  have hw := wheelOf_c w A m c rs hA Hm.out hn
  cases hg : whB rs with
  | false =>
    rw [hg] at hw
    have Hw := Lib.hid hw
    clear hw
    have ho : ttO rs s = false := by simp [ttO, *]
    rw [ttV_no ho, ho]
    clear ho
    go_enter Try.func106, Try.ntmps106
    go_wp2_with fail
    refine Hw.out.mono ?_
    rintro e w1 ⟨⟨v1, rfl, hv⟩, b1⟩
    obtain ⟨A1, c1, A2, c2, rfl, hh, ht⟩ := hv.parts
    go_wp2
    go_ret2
    exact ⟨rfl, b1.alloc b1.size _⟩
  | true =>
    rw [hg] at hw
    have Hw := Lib.hid hw
    clear hw
    have hp5 := (whB_parts hg).2.2.2.2.2.1
    have hp1 := (whB_parts hg).2.2.2.2.1
    have Hgl := Lib.hid (whB_parts hg).1
    have hpos := spk_pos hg
    have hsl := spk_len rs
    have Hat := Lib.hid (fun k (hk : k < (spk rs).length) => spk_at hk)
    by_cases hk : 1 ≤ s
    rotate_left
    · have ho : ttO rs s = false := by rw [ttO, inB_false.2 (by omega), Bool.and_false]
      rw [ttV_no ho, ho]
      clear ho
      go_enter Try.func106, Try.ntmps106
      go_wp2_with fail
      refine Hw.out.mono ?_
      rintro e w1 ⟨⟨v1, rfl, hv⟩, b1⟩
      obtain ⟨g1, c1, g2, c2, rfl, hg1, hg2, hcA, hcB, _, _, _⟩ := hv.yes hg
      have HcA := Lib.hid hcA
      have HcB := Lib.hid hcB
      clear hcA hcB hv
      have b2 := b1.alloc b1.size (.cells #[.int .i64 (whP rs : Int), .slice (some ⟨g1, 0, none⟩) (spk rs).length c1, .slice (some ⟨g2, 0, none⟩) (spk rs).length c2] 130)
      have R2 := hA.below b2
      have b12 : Below w1.heap.size w1 (w1.alloc (.cells #[.int .i64 (whP rs : Int), .slice (some ⟨g1, 0, none⟩) (spk rs).length c1, .slice (some ⟨g2, 0, none⟩) (spk rs).length c2] 130)) := (Below.refl _ _).alloc (Nat.le_refl _) _
      go_wp2
      go_ret2
      exact ⟨rfl, b2⟩
    by_cases hk2 : s ≤ 5000
    rotate_left
    · have ho : ttO rs s = false := by rw [ttO, inB_false.2 (by omega), Bool.and_false]
      rw [ttV_no ho, ho]
      clear ho
      go_enter Try.func106, Try.ntmps106
      go_wp2_with fail
      refine Hw.out.mono ?_
      rintro e w1 ⟨⟨v1, rfl, hv⟩, b1⟩
      obtain ⟨g1, c1, g2, c2, rfl, hg1, hg2, hcA, hcB, _, _, _⟩ := hv.yes hg
      have HcA := Lib.hid hcA
      have HcB := Lib.hid hcB
      clear hcA hcB hv
      have b2 := b1.alloc b1.size (.cells #[.int .i64 (whP rs : Int), .slice (some ⟨g1, 0, none⟩) (spk rs).length c1, .slice (some ⟨g2, 0, none⟩) (spk rs).length c2] 130)
      have R2 := hA.below b2
      have b12 : Below w1.heap.size w1 (w1.alloc (.cells #[.int .i64 (whP rs : Int), .slice (some ⟨g1, 0, none⟩) (spk rs).length c1, .slice (some ⟨g2, 0, none⟩) (spk rs).length c2] 130)) := (Below.refl _ _).alloc (Nat.le_refl _) _
      go_wp2
      go_ret2
      exact ⟨rfl, b2⟩
    have ho : ttO rs s = true := by rw [ttO, inB_true.2 ⟨hk, hk2⟩, hg]; rfl
    rw [ttV_yes ho, ho]
    clear ho
    go_enter Try.func106, Try.ntmps106
    go_wp2_with fail
    refine Hw.out.mono ?_
    rintro e w1 ⟨⟨v1, rfl, hv⟩, b1⟩
    obtain ⟨g1, c1, g2, c2, rfl, hg1, hg2, hcA, hcB, _, _, _⟩ := hv.yes hg
    have HcA := Lib.hid hcA
    have HcB := Lib.hid hcB
    clear hcA hcB hv
    have b2 := b1.alloc b1.size (.cells #[.int .i64 (whP rs : Int), .slice (some ⟨g1, 0, none⟩) (spk rs).length c1, .slice (some ⟨g2, 0, none⟩) (spk rs).length c2] 130)
    have R2 := hA.below b2
    have b12 : Below w1.heap.size w1 (w1.alloc (.cells #[.int .i64 (whP rs : Int), .slice (some ⟨g1, 0, none⟩) (spk rs).length c1, .slice (some ⟨g2, 0, none⟩) (spk rs).length c2] 130)) := (Below.refl _ _).alloc (Nat.le_refl _) _
    have HcA2 := Lib.hid (fun k (hk : k < (spk rs).length) => (b12.cell (p := ⟨g1, k, none⟩) hg1).trans (HcA.out k hk))
    have hs2 := b12.size
    go_wp2_with fail
    go_loopw [8, 29] (fun q i wr => ∃ k : Nat, k ≤ (spk rs).length ∧ i = .int .i64 (k : Int) ∧ q = .int .i64 (cntP (spk rs) (fun x => leftF rs (x + s)) k : Int) ∧ Below w1.heap.size w1 wr) (fun _ i _ => (spk rs).length - (intOf i).toNat)
    case atStart => exact ⟨0, Nat.zero_le _, rfl, rfl, b12⟩
    case round =>
      obtain ⟨k, hk, rfl, rfl, hbel⟩ := hrel
      have hcl := cntP_le (spk rs) (fun x => leftF rs (x + s)) k
      have R4 := (hA.below b1).below hbel
      by_cases hlt : k < (spk rs).length
      · have hck := (hbel.cell (p := ⟨g1, k, none⟩) hg1).trans (HcA.out k hlt)
        have hat := Hat.out k hlt
        cases ht : leftF rs (ivL (spk rs) k + s) with
        | true =>
          have Hy := Lib.hid (cntP_yes (xs := spk rs) (p := fun x => leftF rs (x + s)) (k := k) ht)
          go_wp2_with fail
          refine (isLeft_c _ _ _ rs _ _ R4 Hm.out Hgl.out (by omega) (by omega)).mono ?_
          rw [ht]
          rintro e w5 ⟨rfl, b5⟩
          go_wp2
          go_roundw
          case rel => exact ⟨k + 1, by omega, by go_num, by rw [Hy.out]; go_num, hbel.trans (b5.mono hbel.size)⟩
          case measure => simp [intOf]; omega
        | false =>
          have Hy := Lib.hid (cntP_no (xs := spk rs) (p := fun x => leftF rs (x + s)) (k := k) ht)
          go_wp2_with fail
          refine (isLeft_c _ _ _ rs _ _ R4 Hm.out Hgl.out (by omega) (by omega)).mono ?_
          rw [ht]
          rintro e w5 ⟨rfl, b5⟩
          go_wp2
          go_roundw
          case rel => exact ⟨k + 1, by omega, by go_num, by rw [Hy.out], hbel.trans (b5.mono hbel.size)⟩
          case measure => simp [intOf]; omega
      · have Hk2 := Lib.hid (show k = (spk rs).length by omega)
        go_wp2
        go_ret2
        exact ⟨by rw [← Hk2.out]; rfl, b1.trans (hbel.mono b1.size)⟩

set_option maxRecDepth 100000 in
set_option maxHeartbeats 1600000 in
theorem impl_IsSymmetric_c (w : World) (A : Option Addr) (m c : Nat) (rs : List (Int × Int)) (hA : Rl w A rs) (hm : m = rs.length) (hn : m ≤ 1048576) :
    Calls Try.prog 98 #[.slice A m c] w fun en w' => en = .returned (.tuple #[.bool (syV rs), .bool (whB rs)]) ∧ Below w.heap.size w w' := by
  have Hm := Lib.hid hm
  clear hm
  have hw := wheelOf_c w A m c rs hA Hm.out hn
  cases hg : whB rs with
  | false =>
    rw [hg] at hw
    have Hw := Lib.hid hw
    clear hw
    rw [syV_no hg]
    go_enter Try.func98, Try.ntmps98
    go_wp2_with fail
    refine Hw.out.mono ?_
    rintro e w1 ⟨⟨v1, rfl, hv⟩, b1⟩
    obtain ⟨A1, c1, A2, c2, rfl, hh, ht⟩ := hv.parts
    go_wp2
    go_ret2
    exact ⟨rfl, b1.alloc b1.size _⟩
  | true =>
    rw [hg] at hw
    have Hw := Lib.hid hw
    clear hw
    have hp5 := (whB_parts hg).2.2.2.2.2.1
    have hp1 := (whB_parts hg).2.2.2.2.1
    have Hgl := Lib.hid (whB_parts hg).1
    have hpos := spk_pos hg
    have hsl := spk_len rs
    rw [syV_yes hg]
    have Hbad := Lib.hid (fun k (hk : k < (spk rs).length) => sym_bad hg hk)
    have Hgood := Lib.hid (sym_good hg)
    have Hat := Lib.hid (fun k (hk : k < (spk rs).length) => spk_at hk)
    go_enter Try.func98, Try.ntmps98
    go_wp2_with fail
    refine Hw.out.mono ?_
    rintro e w1 ⟨⟨v1, rfl, hv⟩, b1⟩
    obtain ⟨g1, c1, g2, c2, rfl, hg1, hg2, hcA, hcB, _, _, _⟩ := hv.yes hg
    have HcA := Lib.hid hcA
    have HcB := Lib.hid hcB
    clear hcA hcB hv
    have b2 := b1.alloc b1.size (.cells #[.int .i64 (whP rs : Int), .slice (some ⟨g1, 0, none⟩) (spk rs).length c1, .slice (some ⟨g2, 0, none⟩) (spk rs).length c2] 130)
    have R2 := hA.below b2
    have b12 : Below w1.heap.size w1 (w1.alloc (.cells #[.int .i64 (whP rs : Int), .slice (some ⟨g1, 0, none⟩) (spk rs).length c1, .slice (some ⟨g2, 0, none⟩) (spk rs).length c2] 130)) := (Below.refl _ _).alloc (Nat.le_refl _) _
    go_wp2_with fail
    go_loopw [18] (fun i wr => ∃ k : Nat, k ≤ (spk rs).length ∧ i = .int .i64 (k : Int) ∧ (∀ j, j < k → leftF rs ((whP rs : Int) - ivL (spk rs) j) = true) ∧ Below (w1.heap.size + 1) (w1.alloc (.cells #[.int .i64 (whP rs : Int), .slice (some ⟨g1, 0, none⟩) (spk rs).length c1, .slice (some ⟨g2, 0, none⟩) (spk rs).length c2] 130)) wr) (fun i _ => (spk rs).length - (intOf i).toNat)
    case atStart => exact ⟨0, Nat.zero_le _, rfl, fun j hj => by omega, Below.refl _ _⟩
    case round =>
      obtain ⟨k, hk, rfl, hall, hbel⟩ := hrel
      have Hall := Lib.hid hall
      clear hall
      have hbw := b12.trans (hbel.mono (by simp))
      have R4 := (hA.below b1).below hbw
      have hP0 : wr.cell? ⟨w1.heap.size, 0, none⟩ = some (.int .i64 (whP rs : Int)) := (hbel.cell (p := ⟨w1.heap.size, 0, none⟩) (by simp)).trans (cell_of_row _ w1.heap.size 0 _ _ _ (heap_alloc_new w1 _))
      by_cases hlt : k < (spk rs).length
      · have hck := (hbw.cell (p := ⟨g1, k, none⟩) hg1).trans (HcA.out k hlt)
        have hat := Hat.out k hlt
        cases ht : leftF rs ((whP rs : Int) - ivL (spk rs) k) with
        | true =>
          have Hall2 := Lib.hid (fun j (hj : j < k + 1) => show leftF rs ((whP rs : Int) - ivL (spk rs) j) = true by
            rcases Nat.lt_succ_iff_lt_or_eq.1 hj with h | h
            · exact Hall.out j h
            · rw [h]; exact ht)
          go_wp2_with fail
          refine (isLeft_c _ _ _ rs _ _ R4 Hm.out Hgl.out (by omega) (by omega)).mono ?_
          rw [ht]
          rintro e w5 ⟨rfl, b5⟩
          go_wp2
          go_roundw
          case rel => exact ⟨k + 1, by omega, by go_num, Hall2.out, hbel.trans (b5.mono (by have := hbel.size; simp at this; omega))⟩
          case measure => simp [intOf]; omega
        | false =>
          have Hno := Lib.hid (Hbad.out k hlt ht)
          go_wp2_with fail
          refine (isLeft_c _ _ _ rs _ _ R4 Hm.out Hgl.out (by omega) (by omega)).mono ?_
          rw [ht]
          rintro e w5 ⟨rfl, b5⟩
          go_wp2
          go_ret2
          exact ⟨by rw [Hno.out]; rfl, b1.trans ((hbw.trans (b5.mono hbw.size)).mono b1.size)⟩
      · have Hyes := Lib.hid (Hgood.out fun j hj => Hall.out j (by omega))
        go_wp2
        go_ret2
        exact ⟨by rw [Hyes.out]; rfl, b1.trans (hbw.mono b1.size)⟩

end Go.Proofs.Ytaapfapejekkfaa
