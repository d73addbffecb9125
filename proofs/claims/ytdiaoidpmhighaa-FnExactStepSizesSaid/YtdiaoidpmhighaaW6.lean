import Derived.Test.YtdiaoidpmhighaaW5
import Derived.Sort.OwnSortedInts
namespace Go.Proofs.Ytdiaoidpmhighaa
open Go.RowKit
set_option linter.unusedVariables false
set_option linter.unusedSimpArgs false

/-- append(s, r), s read elsewhere and full: the rules and the new one lie in a new block. -/
theorem wp_app_rule_full {ops : Array Oper} {rest : List Oper} {o : Oper} {a : Act} {Q : Exit → Act → World → Prop} (w : World) (hgd : o.guard = none) (s x : Operand)
    (ho : o.op = .call { callee := .builtin .append, args := #[s, x], argTypes := #[26, 26] }) (ad : Addr) (m : Nat) (rs : List (Int × Int)) (hs : a.eval s = .slice (some ad) m m) (hA : Rl w (some ad) rs) (hm : m = rs.length) (e r : Int)
    (hx : a.eval x = .slice (some ⟨w.heap.size, 0, none⟩) 1 1) (hl : rs.length ≤ 1048576)
    (h : ∀ v' w', OwnR w' w.heap.size v' (rs ++ [(e, r)]) → Below w.heap.size w w' → wpList Try.prog ops Q rest (a.put o.dst v') w') :
    wpList Try.prog ops Q (o :: rest) a (w.alloc (.cells #[.int .i64 e, .int .i64 r] 50)) := by
  subst hm
  have b1 : Below w.heap.size w (w.alloc (.cells #[.int .i64 e, .int .i64 r] 50)) := (Below.refl _ _).alloc (Nat.le_refl _) _
  have holds : ∀ j u, (cellsR rs)[j]? = some u → (w.alloc (.cells #[.int .i64 e, .int .i64 r] 50)).cell? (ad.add j) = some u := fun j u hj => by
    have hl : j < (cellsR rs).length := (List.getElem?_eq_some_iff.1 hj).1
    rw [cellsR_length] at hl
    obtain ⟨b, off, e, _, hr⟩ := (hA.below b1) (by omega)
    cases e
    rw [Go.WideShapes.add_plain]
    have := cells_of_rules hr 0 rs.length (j := j) (u := u) (by simpa using hj)
    simpa using this
  have hnews : ∀ j u, [Value.int .i64 e, Value.int .i64 r][j]? = some u → (w.alloc (.cells #[.int .i64 e, .int .i64 r] 50)).cell? ((⟨w.heap.size, 0, none⟩ : Addr).add j) = some u := fun j u hj => by
    rw [Go.WideShapes.add_plain, Nat.zero_add, cell_of_row _ w.heap.size j _ _ _ (heap_alloc_new w _)]
    simpa using hj
  obtain ⟨i0, hi, hz0, hz1, hz2⟩ := info_parts info_R
  have hfit := growslice_fits_succ (old := rs.length) (bytes := 16) (by omega) (by omega)
  have hrun := run_append_grow (P := Try.prog) (w.alloc (.cells #[.int .i64 e, .int .i64 r] 50)) 26 o.type 50 i0 _ Try.underlying26 hi hz0 ad rs.length rs.length (cellsR rs) (by rw [cellsR_length, hz1]) holds ⟨w.heap.size, 0, none⟩ 1 1 [.int .i64 e, .int .i64 r] (by rw [hz1]; rfl) hnews (by omega) (by omega) (by rw [hz2]; exact hfit)
  refine wpList_plain hgd fun K hK => ?_
  unfold Oper.wp
  simp only [execOp, ho, resolve, invoke, builtin, hs, hx]
  simp [hs, hx, hrun, Result.andThen]
  refine hK _ _ (h _ _ ?_ ((b1.trans (below_drewN (Below.refl _ _) 1)).alloc (by simp) _))
  have hcap := grownCap_ge (w.alloc (.cells #[.int .i64 e, .int .i64 r] 50)) (rs.length + 1) rs.length 50
  have hmax := grownCap_le_maxLen (w.alloc (.cells #[.int .i64 e, .int .i64 r] 50)) (rs.length + 1) rs.length 50 (by unfold maxLen; omega)
  generalize grownCap (w.alloc (.cells #[.int .i64 e, .int .i64 r] 50)) (rs.length + 1) rs.length 50 = C at hcap hmax ⊢
  have hcells : cellsR (rs ++ [(e, r)]) = cellsR rs ++ [.int .i64 e, .int .i64 r] := by simp [cellsR]
  have hcl := cellsR_length rs
  refine ⟨by rw [cellsR_length], .inr ⟨_, C, _, by rw [List.length_append]; simp, by simp, heap_alloc_new _ _, by rw [List.length_append]; exact hcap, hmax, ?_, ?_⟩⟩
  · simp [hcl, size_zeroCells]
    simp [Value.cells]
    omega
  · rw [hcells]
    rw [Array.toList_append]
    exact List.take_left' (by rw [List.length_append, List.length_append, hcl]; simp; omega)

set_option maxRecDepth 100000 in
set_option maxHeartbeats 3200000 in
theorem impl_RollWheel_c (w : World) (A : Option Addr) (m c : Nat) (rs : List (Int × Int)) (hA : Rl w A rs) (hm : m = rs.length) (hn : m ≤ 1048576) (hx : A.isSome = true ∧ m ≤ c) (n : Int) :
    Calls Try.prog 50 #[.slice A m c, .int .i64 n] w fun en w' => (∃ v, en = .returned (.tuple #[v, .bool (rwO rs n)]) ∧ HeadI w' w.heap.size v (rwV rs n)) ∧ Below w.heap.size w w' := by
  have Hm := Lib.hid hm
  clear hm
  have hw := wheelOf_c w A m c rs hA Hm.out hn
  cases hg : whB rs with
  | false =>
    rw [hg] at hw
    have Hw := Lib.hid hw
    clear hw
    have ho : rwO rs n = false := by simp [rwO, rwP, *]
    rw [rwV_no ho, ho]
    clear ho
    go_enter Try.func50, Try.ntmps50
    go_wp2_with fail
    refine Hw.out.mono ?_
    rintro e w1 ⟨⟨v1, rfl, hv⟩, b1⟩
    obtain ⟨A1, c1, A2, c2, rfl, hh, ht⟩ := hv.parts
    go_wp2
    go_ret2
    exact ⟨⟨_, rfl, HeadI.nil _ _⟩, b1.alloc b1.size _⟩
  | true =>
    rw [hg] at hw
    have Hw := Lib.hid hw
    clear hw
    have hp5 := (whB_parts hg).2.2.2.2.2.1
    have hp1 := (whB_parts hg).2.2.2.2.1
    have Hgl := Lib.hid (whB_parts hg).1
    have hpos := spk_pos hg
    have hsl := spk_len rs
    skip
    obtain ⟨had, hmc⟩ := hx
    obtain ⟨ad, rfl⟩ := Option.isSome_iff_exists.1 had
    have h12 : m ≤ 12 := by rw [Hm.out]; exact good_len (whB_parts hg).1
    by_cases h60 : n ≤ 60
    rotate_left
    · have hin : inB n 2 60 = false := inB_false.2 (by omega)
      have ho : rwO rs n = false := by simp [rwO, rwP, hin]
      rw [rwV_no ho, ho]
      clear ho hin
      go_enter Try.func50, Try.ntmps50
      go_wp2_with fail
      refine Hw.out.mono ?_
      rintro e w1 ⟨⟨v1, rfl, hv⟩, b1⟩
      obtain ⟨g1, c1, g2, c2, rfl, hg1, hg2, hcA, hcB, _, _, _⟩ := hv.yes hg
      have HcA := Lib.hid hcA
      have HcB := Lib.hid hcB
      clear hcA hcB hv
      have b2 := b1.alloc b1.size (.cells #[.int .i64 (whP rs : Int), .slice (some ⟨g1, 0, none⟩) (spk rs).length c1, .slice (some ⟨g2, 0, none⟩) (spk rs).length c2] 54)
      have R2 := hA.below b2
      have b12 : Below w1.heap.size w1 (w1.alloc (.cells #[.int .i64 (whP rs : Int), .slice (some ⟨g1, 0, none⟩) (spk rs).length c1, .slice (some ⟨g2, 0, none⟩) (spk rs).length c2] 54)) := (Below.refl _ _).alloc (Nat.le_refl _) _
      go_wp2
      go_ret2
      exact ⟨⟨_, rfl, HeadI.nil _ _⟩, b2⟩
    cases hpr : primeB n.toNat with
    | false =>
      have ho : rwO rs n = false := by simp [rwO, rwP, hpr]
      rw [rwV_no ho, ho]
      clear ho
      go_enter Try.func50, Try.ntmps50
      go_wp2_with fail
      refine Hw.out.mono ?_
      rintro e w1 ⟨⟨v1, rfl, hv⟩, b1⟩
      obtain ⟨g1, c1, g2, c2, rfl, hg1, hg2, hcA, hcB, _, _, _⟩ := hv.yes hg
      have HcA := Lib.hid hcA
      have HcB := Lib.hid hcB
      clear hcA hcB hv
      have b2 := b1.alloc b1.size (.cells #[.int .i64 (whP rs : Int), .slice (some ⟨g1, 0, none⟩) (spk rs).length c1, .slice (some ⟨g2, 0, none⟩) (spk rs).length c2] 54)
      have R2 := hA.below b2
      have b12 : Below w1.heap.size w1 (w1.alloc (.cells #[.int .i64 (whP rs : Int), .slice (some ⟨g1, 0, none⟩) (spk rs).length c1, .slice (some ⟨g2, 0, none⟩) (spk rs).length c2] 54)) := (Below.refl _ _).alloc (Nat.le_refl _) _
      go_wp2_with fail
      refine (isPrime_c _ _ (by omega)).mono ?_
      rw [hpr]
      rintro e w3 ⟨rfl, rfl⟩
      go_wp2
      go_ret2
      exact ⟨⟨_, rfl, HeadI.nil _ _⟩, b2⟩
    | true =>
      have n2 : 2 ≤ n := by
        rcases Int.lt_or_le n 2 with h | h
        · rw [primeB_small (by omega)] at hpr; cases hpr
        · exact h
      have hnz : (n == 0) = false := beq_eq_false_iff_ne.2 (by omega)
      by_cases hdv : (whP rs : Int) % n = 0
      · have ho : rwO rs n = false := by simp [rwO, rwP, hdv]
        rw [rwV_no ho, ho]
        clear ho
        go_enter Try.func50, Try.ntmps50
        go_wp2_with fail
        refine Hw.out.mono ?_
        rintro e w1 ⟨⟨v1, rfl, hv⟩, b1⟩
        obtain ⟨g1, c1, g2, c2, rfl, hg1, hg2, hcA, hcB, _, _, _⟩ := hv.yes hg
        have HcA := Lib.hid hcA
        have HcB := Lib.hid hcB
        clear hcA hcB hv
        have b2 := b1.alloc b1.size (.cells #[.int .i64 (whP rs : Int), .slice (some ⟨g1, 0, none⟩) (spk rs).length c1, .slice (some ⟨g2, 0, none⟩) (spk rs).length c2] 54)
        have R2 := hA.below b2
        have b12 : Below w1.heap.size w1 (w1.alloc (.cells #[.int .i64 (whP rs : Int), .slice (some ⟨g1, 0, none⟩) (spk rs).length c1, .slice (some ⟨g2, 0, none⟩) (spk rs).length c2] 54)) := (Below.refl _ _).alloc (Nat.le_refl _) _
        go_wp2_with fail
        refine (isPrime_c _ _ (by omega)).mono ?_
        rw [hpr]
        rintro e w3 ⟨rfl, rfl⟩
        go_wp2
        go_ret2
        exact ⟨⟨_, rfl, HeadI.nil _ _⟩, b2⟩
      · have hdb : ((whP rs : Int) % n == 0) = false := beq_eq_false_iff_ne.2 hdv
        have ho : rwO rs n = whB (rs ++ [(n, 0)]) := by
          cases hb : whB (rs ++ [(n, 0)]) with
          | false => rw [rwO, hb, Bool.and_false]
          | true =>
            have h13 := good_len (whB_parts hb).1
            rw [List.length_append, List.length_singleton] at h13
            rw [rwO, hb, rwP, hg, hpr, inB_true.2 ⟨n2, h60⟩, decide_eq_true hdv, decide_eq_true (by omega)]
            rfl
        have hv : rwV rs n = spV (rs ++ [(n, 0)]) := by rw [rwV, ho, spV]
        rw [hv, ho]
        clear ho hv
        have hmc' : (m : Int) ≤ (c : Int) := by omega
        have Hl2 := Lib.hid (show rs.length ≤ 1048576 by have := Hm.out; omega)
        go_enter Try.func50, Try.ntmps50
        go_wp2_with fail
        refine Hw.out.mono ?_
        rintro e w1 ⟨⟨v1, rfl, hv⟩, b1⟩
        obtain ⟨g1, c1, g2, c2, rfl, hg1, hg2, hcA, hcB, _, _, _⟩ := hv.yes hg
        have HcA := Lib.hid hcA
        have HcB := Lib.hid hcB
        clear hcA hcB hv
        have b2 := b1.alloc b1.size (.cells #[.int .i64 (whP rs : Int), .slice (some ⟨g1, 0, none⟩) (spk rs).length c1, .slice (some ⟨g2, 0, none⟩) (spk rs).length c2] 54)
        have R2 := hA.below b2
        have b12 : Below w1.heap.size w1 (w1.alloc (.cells #[.int .i64 (whP rs : Int), .slice (some ⟨g1, 0, none⟩) (spk rs).length c1, .slice (some ⟨g2, 0, none⟩) (spk rs).length c2] 54)) := (Below.refl _ _).alloc (Nat.le_refl _) _
        go_wp2_with fail
        refine (isPrime_c _ _ (by omega)).mono ?_
        rw [hpr]
        rintro e w3 ⟨rfl, rfl⟩
        have hP0 : (w1.alloc (.cells #[.int .i64 (whP rs : Int), .slice (some ⟨g1, 0, none⟩) (spk rs).length c1, .slice (some ⟨g2, 0, none⟩) (spk rs).length c2] 54)).cell? ⟨w1.heap.size, 0, none⟩ = some (.int .i64 (whP rs : Int)) := cell_of_row _ w1.heap.size 0 _ _ _ (heap_alloc_new w1 _)
        clear HcA HcB
        generalize (w1.alloc (.cells #[.int .i64 (whP rs : Int), .slice (some ⟨g1, 0, none⟩) (spk rs).length c1, .slice (some ⟨g2, 0, none⟩) (spk rs).length c2] 54)) = W2 at R2 b2 b12 hP0 ⊢
        go_wp2_with (at_builtin; refine wp_app_rule_full _ rfl _ _ rfl ad m rs rfl R2 Hm.out _ _ rfl Hl2.out ?_; intro v6 w6 o6 b6; obtain ⟨A6, n6, c6, rfl, e6, l6⟩ := o6.form; have hb6 := b2.trans (b6.mono b2.size); have R6 := Rl_of_own o6 e6; have E6 := Lib.hid e6; clear o6 e6)
        have h6 : n6 ≤ 1048576 := by have := E6.out; rw [List.length_append, List.length_singleton] at this; have := Hm.out; omega
        refine (impl_SpokesOf_c _ _ _ _ _ R6 E6.out h6).mono ?_
        rintro e w7 ⟨⟨v7, rfl, o7⟩, b7⟩
        go_wp2
        go_ret2
        exact ⟨⟨_, rfl, o7.mono hb6.size⟩, hb6.trans (b7.mono hb6.size)⟩

def rnB (ss : List Int) : Bool := inB (ss.length : Int) 1 8 && stOk ss
set_option maxRecDepth 100000 in
set_option maxHeartbeats 800000 in
theorem isRun_c (w : World) (A : Option Addr) (m c : Nat) (ss : List Int) (hS : Il w A ss) (hm : m = ss.length) (hn : m ≤ 1048576) :
    Calls Try.prog 78 #[.slice A m c] w fun en w' => en = .returned (.bool (rnB ss)) ∧ w = w' := by
  by_cases h1 : (m : Int) < 1
  · have ho : rnB ss = false := by rw [rnB, ← hm, inB_false.2 (by omega)]; rfl
    rw [ho]
    clear ho hm
    go_enter Try.func78, Try.ntmps78
    go_wp2
    go_ret
    exact ⟨rfl, rfl⟩
  · by_cases h8 : 8 < (m : Int)
    · have ho : rnB ss = false := by rw [rnB, ← hm, inB_false.2 (by omega)]; rfl
      rw [ho]
      clear ho hm
      go_enter Try.func78, Try.ntmps78
      go_wp2
      go_ret
      exact ⟨rfl, rfl⟩
    · have ho : rnB ss = decide (1 ≤ Lib.minOf (ss.take m)) := by rw [rnB, ← hm, inB_true.2 (by omega), Bool.true_and, hm]; exact stOk_min (by omega)
      rw [ho]
      obtain ⟨b, off, rfl, hb, hc⟩ := hS (by omega)
      have Hmin := Lib.hid (Try.slices_Min_int b off m c ss w (by omega) (by omega) (by omega) hc)
      generalize Lib.minOf (ss.take m) = X at Hmin ⊢
      clear ho hm hc
      go_enter Try.func78, Try.ntmps78
      go_wp2_with fail
      refine Hmin.out.mono ?_
      rintro e w1 ⟨rfl, rfl⟩
      go_wp2
      go_ret
      exact ⟨by simp, rfl⟩

theorem frM_up {rs : List (Int × Int)} {ss : List Int} {i k m : Nat} (h : k ≤ m) (hf : frM rs ss i k = false) : frM rs ss i m = false := by
  induction m with
  | zero => rwa [show k = 0 by omega] at hf
  | succ m ih =>
    rw [frM_succ]
    by_cases hk : k = m + 1
    · rw [← frM_succ, ← hk]; exact hf
    · rw [ih (by omega)]; rfl

set_option maxRecDepth 100000 in
set_option maxHeartbeats 3200000 in
theorem firstOfRun_c (w : World) (rs : List (Int × Int)) (hg : whB rs = true) (g2 c2 : Nat) (hcB : ∀ k, k < (spk rs).length → w.cell? ⟨g2, k, none⟩ = some (.int .i64 (ivL (stA rs) k))) (A2 : Option Addr) (m2 d2 : Nat) (ss : List Int) (hS : Il w A2 ss) (hm2 : m2 = ss.length) (h1 : 1 ≤ m2) (h8 : m2 ≤ 8) :
    Calls Try.prog 79 #[.slice (some ⟨g2, 0, none⟩) (spk rs).length c2, .slice A2 m2 d2] w fun en w' => (∃ (i : Nat) (b : Bool), en = .returned (.tuple #[.int .i64 (i : Int), .bool b]) ∧ (b = true → i < (spk rs).length ∧ frX rs ss 0 = (ivL (spk rs) i, true)) ∧ (b = false → i = 0 ∧ frX rs ss 0 = (0, false))) ∧ w = w' := by
  have Hm2 := Lib.hid hm2
  have hp5 := (whB_parts hg).2.2.2.2.2.1
  have hpos := spk_pos hg
  have hsl := spk_len rs
  obtain ⟨gs, os, rfl, hgs, hcs⟩ := hS (by omega)
  have Hcs := Lib.hid hcs
  have HcB := Lib.hid hcB
  have HS := Lib.hid (stA_len rs)
  obtain ⟨T, hT⟩ : ∃ T, frX rs ss 0 = T := ⟨_, rfl⟩
  rw [hT]
  have HT := Lib.hid hT
  clear hT hcs hcB hm2 hg
  obtain ⟨S, hSe⟩ : ∃ S, (spk rs).length = S := ⟨_, rfl⟩
  rw [hSe] at hpos hsl HS HcB ⊢
  have hS5 : S ≤ 5000 := by omega
  have hz : ((S : Int) == 0) = false := beq_eq_false_iff_ne.2 (by omega)
  clear hSe
  go_enter Try.func79, Try.ntmps79
  go_wp2
  refine wp_scope_again 0 (fun a' wr => ∃ (k : Nat) (u7 u8 u9 u10 u11 u12 u13 u14 u15 u16 u17 u18 u19 u20 u21 u22 u23 u24 u25 u26 u27 u28 u29 u30 u31 u32 u33 u34 : Value), a' = { tmps := #[.slice (some ⟨g2, 0, none⟩) S c2, .slice (some ⟨gs, os, none⟩) m2 d2, undef, undef, .int .i64 0, .bool false, .int .i64 (k : Int), u7, u8, u9, u10, u11, u12, u13, u14, u15, u16, u17, u18, u19, u20, u21, u22, u23, u24, u25, u26, u27, u28, u29, u30, u31, u32, u33, u34], defers := [] } ∧ k ≤ S ∧ Hid (frX rs ss k = T) ∧ wr = w) (fun a' _ => S + 1 - (intOf (a'.tmps.getD 6 undef)).toNat) rfl ?_ ?_
  · rintro a' wr ⟨k, u7, u8, u9, u10, u11, u12, u13, u14, u15, u16, u17, u18, u19, u20, u21, u22, u23, u24, u25, u26, u27, u28, u29, u30, u31, u32, u33, u34, rfl, hk, HT2, rfl⟩
    by_cases hlt : k < S
    · have hne : ((k : Int) == (S : Int)) = false := beq_eq_false_iff_ne.2 (by omega)
      go_wp2_with fail
      go_loop [6, 15] (fun f j => ∃ q : Nat, q ≤ m2 ∧ j = .int .i64 (q : Int) ∧ f = .int .i64 (k : Int) ∧ Hid (frM rs ss k q = true)) (fun _ j => m2 - (intOf j).toNat)
      case atStart => exact ⟨0, Nat.zero_le _, rfl, rfl, rfl⟩
      case round =>
        obtain ⟨q, hq, rfl, rfl, hM⟩ := hrel
        have Hsu := Lib.hid (frM_succ rs ss k q)
        by_cases hltq : q < m2
        · have hcq := Hcs.out q (by have := Hm2.out; omega)
          have h0 := Int.emod_nonneg ((k : Int) + (q : Int)) (b := (S : Int)) (by omega)
          have h1 := Int.emod_lt_of_pos ((k : Int) + (q : Int)) (b := (S : Int)) (by omega)
          have hcx := HcB.out ((k + q) % S) (Nat.mod_lt _ hpos)
          have Hfi : Hid (frI rs k q = (k + q) % S) := by show _ = _; rw [frI, HS.out]
          obtain ⟨x, hx⟩ : ∃ x, ivL (stA rs) ((k + q) % S) = x := ⟨_, rfl⟩
          obtain ⟨y, hy⟩ : ∃ y, ivL ss q = y := ⟨_, rfl⟩
          rw [hx] at hcx
          rw [hy] at hcq
          have Hsu2 : Hid (frM rs ss k (q + 1) = (x == y)) := by
            show _ = _
            rw [Hsu.out, hM.out, Hfi.out, hx, hy, Bool.true_and]
          clear hx hy
          cases hxy : (x == y) with
          | true =>
            have Hsu3 : Hid (frM rs ss k (q + 1) = true) := by show _ = _; rw [Hsu2.out, hxy]
            have hxn : (x != y) = false := by rw [bne, hxy]; rfl
            clear hxy
            go_wp2
            go_round
            case rel => exact ⟨q + 1, by omega, by go_num, rfl, Hsu3⟩
            case measure => simp [intOf]; omega
          | false =>
            have Hn : Hid (frX rs ss (k + 1) = T) := by
              show _ = _
              rw [← HT2.out]
              refine (frX_no (by rw [HS.out]; exact hlt) (frM_up (k := q + 1) (by have := Hm2.out; omega) ?_)).symm
              rw [Hsu2.out, hxy]
            have hxn : (x != y) = true := by rw [bne, hxy]; rfl
            clear hxy
            go_wp2
            go_step3
            refine ⟨rfl, ⟨k + 1, _, _, _, _, _, _, _, _, _, _, _, _, _, _, _, _, _, _, _, _, _, _, _, _, _, _, _, _, rfl, hlt, Hn, rfl⟩, ?_⟩
            simp [intOf]
            omega
        · have Hy : Hid (T = (ivL (spk rs) k, true)) := by
            show _ = _
            rw [← HT2.out]
            refine frX_yes (by rw [HS.out]; exact hlt) ?_
            rw [← Hm2.out, show m2 = q by omega]
            exact hM.out
          go_wp2
          try simp only [Exit.jump]
          go_ret2
          exact ⟨⟨k, true, rfl, fun _ => ⟨hlt, Hy.out⟩, fun h => by cases h⟩, rfl⟩
    · have hkS : k = S := by omega
      have Hy : Hid (T = (0, false)) := by
        show _ = _
        rw [← HT2.out]
        exact frX_end (by rw [HS.out]; omega)
      subst hkS
      go_wp2
      try simp only [Exit.jump]
      go_ret2
      exact ⟨⟨0, false, rfl, fun h => (by cases h), fun _ => ⟨rfl, Hy.out⟩⟩, rfl⟩
  · intro h
    go_wp2
    go_step3
    rename_i hK
    exact hK _ _ (h _ _ ⟨0, _, _, _, _, _, _, _, _, _, _, _, _, _, _, _, _, _, _, _, _, _, _, _, _, _, _, _, _, rfl, Nat.zero_le _, HT, rfl⟩)

end Go.Proofs.Ytdiaoidpmhighaa
