import Derived.Test.YtdiaoidpmhighaaW6
namespace Go.Proofs.Ytdiaoidpmhighaa
open Go.RowKit
set_option linter.unusedVariables false
set_option linter.unusedSimpArgs false

theorem frP_run {rs : List (Int × Int)} {ss : List Int} : frP rs ss = (whB rs && rnB ss) := by rw [frP, rnB, Bool.and_assoc]

set_option maxRecDepth 100000 in
set_option maxHeartbeats 3200000 in
theorem impl_FirstRun_c (w : World) (A : Option Addr) (m c : Nat) (rs : List (Int × Int)) (hA : Rl w A rs) (hm : m = rs.length) (hn : m ≤ 1048576) (A2 : Option Addr) (m2 c2' : Nat) (ss : List Int) (hS : Il w A2 ss) (hm2 : m2 = ss.length) (hn2 : m2 ≤ 1048576) :
    Calls Try.prog 55 #[.slice A m c, .slice A2 m2 c2'] w fun en w' => en = .returned (.tuple #[.int .i64 (frR rs ss).1, .bool (frR rs ss).2]) ∧ Below w.heap.size w w' := by
  have Hm2 := Lib.hid hm2
  clear hm2
  have Hm := Lib.hid hm
  clear hm
  have hw := wheelOf_c w A m c rs hA Hm.out hn
  cases hg : whB rs with
  | false =>
    rw [hg] at hw
    have Hw := Lib.hid hw
    clear hw
    have ho : frR rs ss = (0, false) := frR_no (by rw [frP_run, hg]; rfl)
    rw [ho]
    clear ho
    go_enter Try.func55, Try.ntmps55
    go_wp2_with fail
    refine Hw.out.mono ?_
    rintro e w1 ⟨⟨v1, rfl, hv⟩, b1⟩
    obtain ⟨A1, c1, A2, c2, rfl, hh, ht⟩ := hv.parts
    go_wp2
    go_ret2
    exact ⟨rfl, b1.alloc b1.size _⟩
  | true =>
    rw [hg] at hw
    have Hw := Lib.hid hw
    clear hw
    have hp5 := (whB_parts hg).2.2.2.2.2.1
    have hp1 := (whB_parts hg).2.2.2.2.1
    have Hgl := Lib.hid (whB_parts hg).1
    have hpos := spk_pos hg
    have hsl := spk_len rs
    have Hg := Lib.hid hg
    cases hr : rnB ss with
    | false =>
      have ho : frR rs ss = (0, false) := frR_no (by rw [frP_run, hr, Bool.and_false])
      rw [ho]
      clear ho
      go_enter Try.func55, Try.ntmps55
      go_wp2_with fail
      refine Hw.out.mono ?_
      rintro e w1 ⟨⟨v1, rfl, hv⟩, b1⟩
      obtain ⟨g1, c1, g2, c2, rfl, hg1, hg2, hcA, hcB, _, _, _⟩ := hv.yes hg
      have HcA := Lib.hid hcA
      have HcB := Lib.hid hcB
      clear hcA hcB hv
      have b2 := b1.alloc b1.size (.cells #[.int .i64 (whP rs : Int), .slice (some ⟨g1, 0, none⟩) (spk rs).length c1, .slice (some ⟨g2, 0, none⟩) (spk rs).length c2] 54)
      have R2 := hA.below b2
      have b12 : Below w1.heap.size w1 (w1.alloc (.cells #[.int .i64 (whP rs : Int), .slice (some ⟨g1, 0, none⟩) (spk rs).length c1, .slice (some ⟨g2, 0, none⟩) (spk rs).length c2] 54)) := (Below.refl _ _).alloc (Nat.le_refl _) _
      go_wp2_with fail
      refine (isRun_c _ _ _ _ ss (hS.below b2) Hm2.out hn2).mono ?_
      rw [hr]
      rintro e w3 ⟨rfl, rfl⟩
      go_wp2
      go_ret2
      exact ⟨rfl, b2⟩
    | true =>
      have ho : frR rs ss = frX rs ss 0 := frR_yes (by rw [frP_run, hg, hr]; rfl)
      rw [ho]
      clear ho
      obtain ⟨n1, n2⟩ : 1 ≤ m2 ∧ m2 ≤ 8 := by
        have h := hr
        rw [rnB, Bool.and_eq_true] at h
        have := inB_true.1 h.1
        have := Hm2.out
        omega
      obtain ⟨T, hT⟩ : ∃ T, frX rs ss 0 = T := ⟨_, rfl⟩
      rw [hT]
      have HT := Lib.hid hT
      clear hT
      go_enter Try.func55, Try.ntmps55
      go_wp2_with fail
      refine Hw.out.mono ?_
      rintro e w1 ⟨⟨v1, rfl, hv⟩, b1⟩
      obtain ⟨g1, c1, g2, c2, rfl, hg1, hg2, hcA, hcB, _, _, _⟩ := hv.yes hg
      have HcA := Lib.hid hcA
      have HcB := Lib.hid hcB
      clear hcA hcB hv
      have b2 := b1.alloc b1.size (.cells #[.int .i64 (whP rs : Int), .slice (some ⟨g1, 0, none⟩) (spk rs).length c1, .slice (some ⟨g2, 0, none⟩) (spk rs).length c2] 54)
      have R2 := hA.below b2
      have b12 : Below w1.heap.size w1 (w1.alloc (.cells #[.int .i64 (whP rs : Int), .slice (some ⟨g1, 0, none⟩) (spk rs).length c1, .slice (some ⟨g2, 0, none⟩) (spk rs).length c2] 54)) := (Below.refl _ _).alloc (Nat.le_refl _) _
      have HcB2 := Lib.hid (fun k (hk : k < (spk rs).length) => (b12.cell (p := ⟨g2, k, none⟩) hg2).trans (HcB.out k hk))
      have HcA2 := Lib.hid (fun k (hk : k < (spk rs).length) => (b12.cell (p := ⟨g1, k, none⟩) hg1).trans (HcA.out k hk))
      go_wp2_with fail
      refine (isRun_c _ _ _ _ ss (hS.below b2) Hm2.out hn2).mono ?_
      rw [hr]
      rintro e w3 ⟨rfl, rfl⟩
      clear hg
      go_wp2_with fail
      refine (firstOfRun_c _ rs Hg.out g2 c2 HcB2.out _ _ _ ss (hS.below b2) Hm2.out n1 n2).mono ?_
      rintro e w4 ⟨⟨i, b, rfl, hyes, hno⟩, rfl⟩
      cases b with
      | true =>
        obtain ⟨hi, hx⟩ := hyes rfl
        have hx2 : Hid (T = (ivL (spk rs) i, true)) := HT.out.symm.trans hx
        have hci := HcA2.out i hi
        have hii : (i : Int) < ((spk rs).length : Int) := by omega
        clear hx hyes hno
        go_wp2
        go_ret2
        exact ⟨by rw [hx2.out]; rfl, b2⟩
      | false =>
        obtain ⟨hi, hx⟩ := hno rfl
        have hx2 : Hid (T = (0, false)) := HT.out.symm.trans hx
        subst hi
        clear hx hyes hno
        go_wp2
        go_ret2
        exact ⟨by rw [hx2.out]; rfl, b2⟩

theorem own_front {w : World} {B g C : Nat} {xs zs : List Int} (h : OwnI w B (.slice (some ⟨g, 0, none⟩) (xs ++ zs).length C) (xs ++ zs)) : OwnI w B (.slice (some ⟨g, 0, none⟩) xs.length C) xs := by
  rcases h.2 with ⟨e, _⟩ | ⟨g', cap, cur, e, h1, h2, h3, h4, h5, h6⟩
  · cases e
  · injection e with e1 e2 e3
    injection e1 with e1
    injection e1 with e1
    subst e1 e3
    rw [List.length_append] at h3 h6
    refine ⟨by simp, .inr ⟨g, C, cur, rfl, h1, h2, by omega, h4, h5, ?_⟩⟩
    have h7 := congrArg (List.take (xs.length * 1)) h6
    rw [List.take_take, Nat.min_eq_left (by omega)] at h7
    rw [h7]
    simp
theorem own_block {w : World} {B g N C : Nat} {xs : List Int} (h : OwnI w B (.slice (some ⟨g, 0, none⟩) N C) xs) : ∃ cur : Array Value, w.heap[g]? = some (.cells cur 3 (0, 0)) ∧ B ≤ g ∧ xs.length ≤ C ∧ C ≤ maxLen ∧ cur.size = C * 1 ∧ cur.toList.take xs.length = xs.map (Value.int .i64) := by
  rcases h.2 with ⟨e, _⟩ | ⟨g', cap, cur, e, h1, h2, h3, h4, h5, h6⟩
  · cases e
  · injection e with e1 e2 e3
    injection e1 with e1
    injection e1 with e1
    subst e1 e3
    exact ⟨cur, h2, h1, h3, h4, h5, by simpa using h6⟩
theorem grow_none (w : World) : Sort.grow w #[] = w := by simp [Sort.grow]
/-- slices.Sort and slices.Compact at a row that the call owns. -/
theorem sort_own {w : World} {B g C : Nat} {xs : List Int} (h : OwnI w B (.slice (some ⟨g, 0, none⟩) xs.length C) xs) (hl : xs.length ≤ 1048576) :
    Calls Try.prog 72 #[.slice (some ⟨g, 0, none⟩) xs.length C] w fun e w' => e = .returned (.tuple #[]) ∧ OwnI w' B (.slice (some ⟨g, 0, none⟩) xs.length C) (xs.mergeSort fun x y => decide (x ≤ y)) ∧ w.grownBy w' (some g) := by
  obtain ⟨cur, hb, hB, h1, h2, h3, ht⟩ := own_block h
  refine (Try.slices_Sort_int g 0 C xs w (holds_of_blockI hb ht) (Array.getElem?_eq_some_iff.1 hb).1 (by omega)).mono ?_
  rintro e w' ⟨rfl, n, os, rfl⟩
  have hlen : (xs.mergeSort fun x y => decide (x ≤ y)).length = xs.length := List.length_mergeSort _
  refine ⟨rfl, ?_, grownBy_sortedI _⟩
  have := ownsRow_sortedI (n := n) (os := os) (ss := xs) (ts := xs.mergeSort fun x y => decide (x ≤ y)) hlen hB hb h1 h2 h3
  show World.ownsRow _ _ _ _ _ _ _
  rw [hlen]
  exact this
theorem compact_own {w : World} {B g C N : Nat} {xs : List Int} (h : OwnI w B (.slice (some ⟨g, 0, none⟩) N C) xs) (hN : N = xs.length) (hl : xs.length ≤ 1048576) :
    Calls Try.prog 73 #[.slice (some ⟨g, 0, none⟩) N C] w fun e w' => e = .returned (.slice (some ⟨g, 0, none⟩) (Lib.compact xs).length C) ∧ OwnI w' B (.slice (some ⟨g, 0, none⟩) (Lib.compact xs).length C) (Lib.compact xs) ∧ w.grownBy w' (some g) := by
  subst hN
  obtain ⟨cur, hb, hB, h1, h2, h3, ht⟩ := own_block h
  refine (Try.slices_Compact_int g 0 C xs w (holds_of_blockI hb ht) (by omega) h1).mono ?_
  rintro e w' ⟨rfl, n, rfl⟩
  have hle : (Lib.compact xs).length ≤ xs.length := by
    unfold Lib.compact Lib.compactUpTo
    rw [List.length_map]
    exact Nat.le_trans (List.length_filter_le _ _) (by simp)
  have hlen : (Lib.compact xs ++ List.replicate (xs.length - (Lib.compact xs).length) (0 : Int)).length = xs.length := by simp; omega
  have H := ownsRow_sortedI (n := n) (os := #[]) (ss := xs) (ts := Lib.compact xs ++ List.replicate (xs.length - (Lib.compact xs).length) 0) hlen hB hb h1 h2 h3
  have G := grownBy_sortedI (w := w) (g := g) (n := n) (os := #[]) (Lib.compact xs ++ List.replicate (xs.length - (Lib.compact xs).length) (0 : Int)).toArray
  rw [grow_none] at H G
  refine ⟨rfl, ?_, G⟩
  refine own_front (zs := List.replicate (xs.length - (Lib.compact xs).length) 0) ?_
  show World.ownsRow _ _ _ _ _ _ _
  rw [hlen]
  exact H

set_option maxRecDepth 100000 in
set_option maxHeartbeats 1600000 in
theorem impl_StepSizes_c (w : World) (A : Option Addr) (m c : Nat) (rs : List (Int × Int)) (hA : Rl w A rs) (hm : m = rs.length) (hn : m ≤ 1048576) :
    Calls Try.prog 44 #[.slice A m c] w fun en w' => (∃ v, en = .returned (.tuple #[v, .bool (whB rs)]) ∧ OwnI w' w.heap.size v (szV rs)) ∧ Below w.heap.size w w' := by
  have Hm := Lib.hid hm
  clear hm
  have hw := wheelOf_c w A m c rs hA Hm.out hn
  cases hg : whB rs with
  | false =>
    rw [hg] at hw
    have Hw := Lib.hid hw
    clear hw
    rw [szV_no hg]
    have hs0 := stV_no hg
    go_enter Try.func44, Try.ntmps44
    go_wp2_with fail
    refine Hw.out.mono ?_
    rintro e w1 ⟨⟨v1, rfl, hv⟩, b1⟩
    obtain ⟨A1, c1, A2, c2, rfl, hh, ht⟩ := hv.parts
    rw [hs0] at ht
    rw [hs0]
    have Ht := Lib.hid ht
    clear ht hh hv
    have b2 := b1.alloc b1.size (.cells #[.int .i64 (whP rs : Int), .slice A1 (spV rs).length c1, .slice A2 ([] : List Int).length c2] 54)
    go_wp2_with fail
    refine (Try.slices_Sort_int_none _ _ _).mono ?_
    rintro e w2 ⟨rfl, rfl⟩
    go_wp2_with fail
    refine (Try.slices_Compact_int_empty _ _ _).mono ?_
    rintro e w3 ⟨rfl, rfl⟩
    go_wp2
    go_ret2
    exact ⟨⟨_, rfl, Ht.out.below ((Below.refl _ _).alloc (Nat.le_refl _) _)⟩, b2⟩
  | true =>
    rw [hg] at hw
    have Hw := Lib.hid hw
    clear hw
    have hp5 := (whB_parts hg).2.2.2.2.2.1
    have hsl := spk_len rs
    have hl := stA_len rs
    have hsz := sz_lib rs
    rw [szV_yes hg, ← hsz]
    have hml : ((stA rs).mergeSort fun x y => decide (x ≤ y)).length = (spk rs).length := by rw [List.length_mergeSort, hl]
    obtain ⟨ts, hts⟩ : ∃ ts, (stA rs).mergeSort (fun x y => decide (x ≤ y)) = ts := ⟨_, rfl⟩
    rw [hts]
    rw [hts] at hml
    have Hts := Lib.hid hts
    have Hml := Lib.hid hml
    have Hl := Lib.hid hl
    clear hsz hml hl hts
    go_enter Try.func44, Try.ntmps44
    go_wp2_with fail
    refine Hw.out.mono ?_
    rintro e w1 ⟨⟨v1, rfl, hv⟩, b1⟩
    obtain ⟨g1, c1, g2, c2, rfl, hg1, hg2, hcA, hcB, hB1, hB2, hO⟩ := hv.yes hg
    have b2 := b1.alloc b1.size (.cells #[.int .i64 (whP rs : Int), .slice (some ⟨g1, 0, none⟩) (spk rs).length c1, .slice (some ⟨g2, 0, none⟩) (spk rs).length c2] 54)
    have b12 : Below w1.heap.size w1 (w1.alloc (.cells #[.int .i64 (whP rs : Int), .slice (some ⟨g1, 0, none⟩) (spk rs).length c1, .slice (some ⟨g2, 0, none⟩) (spk rs).length c2] 54)) := (Below.refl _ _).alloc (Nat.le_refl _) _
    have hW : (w1.alloc (.cells #[.int .i64 (whP rs : Int), .slice (some ⟨g1, 0, none⟩) (spk rs).length c1, .slice (some ⟨g2, 0, none⟩) (spk rs).length c2] 54)).cell? ⟨w1.heap.size, 2, none⟩ = some (.slice (some ⟨g2, 0, none⟩) (spk rs).length c2) := cell_of_row _ w1.heap.size 2 _ _ _ (heap_alloc_new w1 _)
    have HW := Lib.hid hW
    have hO2 := sort_own (hO.below b12) (by rw [Hl.out]; omega)
    rw [Hl.out, Hts.out] at hO2
    have HO2 := Lib.hid hO2
    clear hO hO2 hcA hcB hv hW
    go_wp2_with fail
    refine HO2.out.mono ?_
    rintro e w2 ⟨rfl, o2, gr2⟩
    have hW2 := gr2.cell HW.out (fun e => (show w1.heap.size ≠ g2 by omega) (Option.some.inj e))
    have b3 := b2.trans (below_of_grown gr2 b2.size (by intro q hq; injection hq with hq; omega))
    have HO3 := Lib.hid (compact_own o2 Hml.out.symm (by rw [Hml.out]; omega))
    clear o2
    go_wp2_with fail
    refine HO3.out.mono ?_
    rintro e w3 ⟨rfl, o3, gr3⟩
    have b4 := b3.trans (below_of_grown gr3 b3.size (by intro q hq; injection hq with hq; omega))
    go_wp2
    go_ret2
    exact ⟨⟨_, rfl, o3⟩, b4⟩

theorem szV_len2 (rs : List (Int × Int)) : (szV rs).length ≤ 1048576 := Nat.le_trans (szV_len rs) (by omega)
theorem rwV_len2 (rs : List (Int × Int)) (n : Int) : (rwV rs n).length ≤ 1048576 := Nat.le_trans (rwV_len rs n) (by omega)
theorem spec_RollWheel_c2 (w : World) (A : Option Addr) (m c : Nat) (rs : List (Int × Int)) (hA : Rl w A rs) (hm : m = rs.length) (hn : m ≤ 1048576) (hx : A.isSome = true ∧ m ≤ c) (n : Int) :
    Calls Try.prog 49 #[.slice A m c, .int .i64 n] w fun en w' => (∃ v, en = .returned (.tuple #[v, .bool (rwO rs n)]) ∧ OwnI w' w.heap.size v (rwV rs n)) ∧ Below w.heap.size w w' := spec_RollWheel_c w A m c rs hA hm hn n

end Go.Proofs.Ytdiaoidpmhighaa
