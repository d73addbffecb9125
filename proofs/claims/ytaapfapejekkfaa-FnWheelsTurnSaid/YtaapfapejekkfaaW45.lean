import Derived.Test.YtaapfapejekkfaaW3
import Derived.Test.YtaapfapejekkfaaSh
import Derived.ScopeJumps
import Derived.WalkMore
namespace Go.Proofs.Ytaapfapejekkfaa
open Go.RowKit
set_option linter.unusedVariables false
set_option linter.unusedSimpArgs false

/-- A scope entered by way of its label: the pass from the label serves the first time as well. -/
theorem wp_scope_again {P : Program} {a : Act} {w : World} {Q : Exit → Act → World → Prop} {c rest : Code} (l : Nat) (J : Act → World → Prop) (μ : Act → World → Nat) (hf : findLabel c l = some (Code.seq Code.skip rest))
    (pass : ∀ a w, J a w → rest.wp P (Exit.jump l (fun a' w' => J a' w' ∧ μ a' w' < μ a w) Q) a w)
    (first : (∀ a w, J a w → rest.wp P (Exit.jump l J Q) a w) → c.wp P (Exit.jump l J Q) a w) : (Code.scope c).wp P Q a w :=
  wp_scope_jumps l J μ hf (first fun a w h => wp_mono (pass a w h) fun e a w h => by
    cases e with
    | goto l' => exact ⟨h.1, h.2.1⟩
    | normal => exact h
    | exit id => exact h
    | ret => exact h
    | panic ch => exact h
    | outgrown => exact h) (fun a w h => wp_seq (wp_skip (pass a w h)))
/-- A callee that leaves the world as it is (told the other way round), called inside a region that draws. -/
theorem qcallR {P : Program} {f : FuncId} {args : Array Value} {w : World} {n : Nat} {v : Value} (h : Calls P f args (w.drewN n) fun e w' => e = .returned v ∧ w' = w.drewN n) :
    Calls P f args (w.drewN n) fun e w'' => e = .returned v ∧ ∃ m, w'' = w.drewN m := h.mono fun _ _ hh => ⟨hh.1, n, hh.2⟩

set_option maxRecDepth 100000 in
set_option maxHeartbeats 1600000 in
theorem impl_SpokeOfRank_c (w : World) (A : Option Addr) (m c : Nat) (rs : List (Int × Int)) (hA : Rl w A rs) (hm : m = rs.length) (hn : m ≤ 1048576) (n : Int) :
    Calls Try.prog 45 #[.slice A m c, .int .i64 n] w fun en w' => en = .returned (.tuple #[.int .i64 (soV rs n), .bool (isO rs n)]) ∧ Below w.heap.size w w' := by
  have Hm := Lib.hid hm
  clear hm
  have hw := wheelOf_c w A m c rs hA Hm.out hn
  cases hg : whB rs with
  | false =>
    rw [hg] at hw
    have Hw := Lib.hid hw
    clear hw
    have ho : isO rs n = false := by simp [isO, *]
    rw [soV_no ho, ho]
    clear ho
    go_enter Try.func45, Try.ntmps45
    go_wp2_with fail
    refine Hw.out.mono ?_
    rintro e w1 ⟨⟨v1, rfl, hv⟩, b1⟩
    obtain ⟨A1, c1, A2, c2, rfl, hh, ht⟩ := hv.parts
    go_wp2
    go_ret2
    exact ⟨rfl, b1.alloc b1.size _⟩
  | true =>
    rw [hg] at hw
    have Hw := Lib.hid hw
    clear hw
    have hp5 := (whB_parts hg).2.2.2.2.2.1
    have hp1 := (whB_parts hg).2.2.2.2.1
    have Hgl := Lib.hid (whB_parts hg).1
    have hpos := spk_pos hg
    have hsl := spk_len rs
    skip
    cases hk : inB n 0 1000000000 with
    | false =>
      have ho : isO rs n = false := by simp [isO, *]
      rw [soV_no ho, ho]
      clear ho
      go_enter Try.func45, Try.ntmps45
      go_wp2_with fail
      refine Hw.out.mono ?_
      rintro e w1 ⟨⟨v1, rfl, hv⟩, b1⟩
      obtain ⟨g1, c1, g2, c2, rfl, hg1, hg2, hcA, hcB, _, _, _⟩ := hv.yes hg
      have HcA := Lib.hid hcA
      have HcB := Lib.hid hcB
      clear hcA hcB hv
      have b2 := b1.alloc b1.size (.cells #[.int .i64 (whP rs : Int), .slice (some ⟨g1, 0, none⟩) (spk rs).length c1, .slice (some ⟨g2, 0, none⟩) (spk rs).length c2] 130)
      have R2 := hA.below b2
      have b12 : Below w1.heap.size w1 (w1.alloc (.cells #[.int .i64 (whP rs : Int), .slice (some ⟨g1, 0, none⟩) (spk rs).length c1, .slice (some ⟨g2, 0, none⟩) (spk rs).length c2] 130)) := (Below.refl _ _).alloc (Nat.le_refl _) _
      go_wp2_with fail
      refine (isFar_c _ _).mono ?_
      rw [hk]
      rintro e w2 ⟨rfl, rfl⟩
      go_wp2
      go_ret2
      exact ⟨rfl, b2⟩
    | true =>
      have ho : isO rs n = true := by simp [isO, *]
      obtain ⟨n1, n2⟩ := inB_true.1 hk
      rw [soV_yes ho, ho]
      clear ho
      have Hat := Lib.hid (fun k (hk : k < (spk rs).length) => spk_at hk)
      go_enter Try.func45, Try.ntmps45
      go_wp2_with fail
      refine Hw.out.mono ?_
      rintro e w1 ⟨⟨v1, rfl, hv⟩, b1⟩
      obtain ⟨g1, c1, g2, c2, rfl, hg1, hg2, hcA, hcB, _, _, _⟩ := hv.yes hg
      have HcA := Lib.hid hcA
      have HcB := Lib.hid hcB
      clear hcA hcB hv
      have b2 := b1.alloc b1.size (.cells #[.int .i64 (whP rs : Int), .slice (some ⟨g1, 0, none⟩) (spk rs).length c1, .slice (some ⟨g2, 0, none⟩) (spk rs).length c2] 130)
      have R2 := hA.below b2
      have b12 : Below w1.heap.size w1 (w1.alloc (.cells #[.int .i64 (whP rs : Int), .slice (some ⟨g1, 0, none⟩) (spk rs).length c1, .slice (some ⟨g2, 0, none⟩) (spk rs).length c2] 130)) := (Below.refl _ _).alloc (Nat.le_refl _) _
      go_wp2_with fail
      refine (isFar_c _ _).mono ?_
      rw [hk]
      rintro e w2 ⟨rfl, rfl⟩
      have h0 := Int.emod_nonneg n (b := ((spk rs).length : Int)) (by omega)
      have h1 := Int.emod_lt_of_pos n (b := ((spk rs).length : Int)) (by omega)
      have hck := (b12.cell (p := ⟨g1, (n % ((spk rs).length : Int)).toNat, none⟩) hg1).trans (HcA.out (n % ((spk rs).length : Int)).toNat (by omega))
      have hat := Hat.out (n % ((spk rs).length : Int)).toNat (by omega)
      have hz : (((spk rs).length : Int) == 0) = false := beq_eq_false_iff_ne.2 (by omega)
      have hq0 : 0 ≤ n / ((spk rs).length : Int) := Int.ediv_nonneg (by omega) (by omega)
      have hq1 : n / ((spk rs).length : Int) ≤ n := Int.ediv_le_self _ (by omega)
      have hm0 : 0 ≤ n / ((spk rs).length : Int) * (whP rs : Int) := Int.mul_nonneg (by omega) (by omega)
      have hm9 : n / ((spk rs).length : Int) * (whP rs : Int) ≤ 1000000000 * 5000 := Int.mul_le_mul (by omega) (by omega) (by omega) (by omega)
      have hm8 : n / ((spk rs).length : Int) * (whP rs : Int) ≤ 5000000000000 := by omega
      have e1 : IntKind.i64.wrap (n / ((spk rs).length : Int) * (whP rs : Int)) = n / ((spk rs).length : Int) * (whP rs : Int) := IntWalk.i64_in _ (by omega)
      have e2 : IntKind.i64.wrap (n / ((spk rs).length : Int) * (whP rs : Int) + ivL (spk rs) (n % ((spk rs).length : Int)).toNat) = n / ((spk rs).length : Int) * (whP rs : Int) + ivL (spk rs) (n % ((spk rs).length : Int)).toNat := IntWalk.i64_in _ (by omega)
      have hle : ¬ 1000000000000000 < n / ((spk rs).length : Int) * (whP rs : Int) + ivL (spk rs) (n % ((spk rs).length : Int)).toNat := by omega
      clear hm9
      go_wp2_with fail
      go_quiet (fail)
      clear e1 e2
      go_wp2
      go_ret2
      exact ⟨rfl, below_drewN b2 _⟩

set_option maxRecDepth 100000 in
set_option maxHeartbeats 1600000 in
theorem impl_LongestStep_c (w : World) (A : Option Addr) (m c : Nat) (rs : List (Int × Int)) (hA : Rl w A rs) (hm : m = rs.length) (hn : m ≤ 1048576) :
    Calls Try.prog 92 #[.slice A m c] w fun en w' => en = .returned (.tuple #[.int .i64 (lsA rs).1, .int .i64 (lsA rs).2, .bool (whB rs)]) ∧ Below w.heap.size w w' := by
  have Hm := Lib.hid hm
  clear hm
  have hw := wheelOf_c w A m c rs hA Hm.out hn
  cases hg : whB rs with
  | false =>
    rw [hg] at hw
    have Hw := Lib.hid hw
    clear hw
    rw [lsA_no hg]
    go_enter Try.func92, Try.ntmps92
    go_wp2_with fail
    refine Hw.out.mono ?_
    rintro e w1 ⟨⟨v1, rfl, hv⟩, b1⟩
    obtain ⟨A1, c1, A2, c2, rfl, hh, ht⟩ := hv.parts
    go_wp2
    go_ret3
    exact ⟨rfl, b1.alloc b1.size _⟩
  | true =>
    rw [hg] at hw
    have Hw := Lib.hid hw
    clear hw
    have hp5 := (whB_parts hg).2.2.2.2.2.1
    have hp1 := (whB_parts hg).2.2.2.2.1
    have Hgl := Lib.hid (whB_parts hg).1
    have hpos := spk_pos hg
    have hsl := spk_len rs
    obtain ⟨j, hj, hmax, hidx, hls⟩ := ls_lib hg
    rw [hls]
    have hl := stA_len rs
    rw [hl] at hj hmax hidx
    have Hmax := Lib.hid hmax
    have Hidx := Lib.hid hidx
    have Hl := Lib.hid hl
    have Hb := Lib.hid (stA_at hg (k := j) (by rw [hl]; exact hj))
    clear hmax hidx hls hl
    go_enter Try.func92, Try.ntmps92
    go_wp2_with fail
    refine Hw.out.mono ?_
    rintro e w1 ⟨⟨v1, rfl, hv⟩, b1⟩
    obtain ⟨g1, c1, g2, c2, rfl, hg1, hg2, hcA, hcB, _, _, _⟩ := hv.yes hg
    have HcA := Lib.hid hcA
    have HcB := Lib.hid hcB
    clear hcA hcB hv
    have b2 := b1.alloc b1.size (.cells #[.int .i64 (whP rs : Int), .slice (some ⟨g1, 0, none⟩) (spk rs).length c1, .slice (some ⟨g2, 0, none⟩) (spk rs).length c2] 130)
    have R2 := hA.below b2
    have b12 : Below w1.heap.size w1 (w1.alloc (.cells #[.int .i64 (whP rs : Int), .slice (some ⟨g1, 0, none⟩) (spk rs).length c1, .slice (some ⟨g2, 0, none⟩) (spk rs).length c2] 130)) := (Below.refl _ _).alloc (Nat.le_refl _) _
    have hcx : ∀ k, k < (stA rs).length → (w1.alloc (.cells #[.int .i64 (whP rs : Int), .slice (some ⟨g1, 0, none⟩) (spk rs).length c1, .slice (some ⟨g2, 0, none⟩) (spk rs).length c2] 130)).cell? ⟨g2, 0 + k, none⟩ = some (.int .i64 ((stA rs).getD k 0)) := fun k hk => by
      rw [Nat.zero_add]
      exact (b12.cell (p := ⟨g2, k, none⟩) hg2).trans (HcB.out k (by rw [← Hl.out]; exact hk))
    have Hcx := Lib.hid hcx
    have hcj := (b12.cell (p := ⟨g1, j, none⟩) hg1).trans (HcA.out j hj)
    clear hcx
    go_wp2_with fail
    refine (Try.slices_Max_int g2 0 (spk rs).length c2 (stA rs) _ hpos (by rw [Hl.out]; exact Nat.le_refl _) (by omega) Hcx.out).mono ?_
    rw [Hmax.out]
    rintro e w2 ⟨rfl, rfl⟩
    have hji : (j : Int) < ((spk rs).length : Int) := by omega
    have Hix := Lib.hid (fun q : Nat => show Calls Try.prog 227 #[.slice (some ⟨g2, 0, none⟩) (spk rs).length c2, .int .i64 (ivL (stA rs) j)] ((w1.alloc (.cells #[.int .i64 (whP rs : Int), .slice (some ⟨g1, 0, none⟩) (spk rs).length c1, .slice (some ⟨g2, 0, none⟩) (spk rs).length c2] 130)).drewN q) fun e w' => e = .returned (.int .i64 (j : Int)) ∧ w' = (w1.alloc (.cells #[.int .i64 (whP rs : Int), .slice (some ⟨g1, 0, none⟩) (spk rs).length c1, .slice (some ⟨g2, 0, none⟩) (spk rs).length c2] 130)).drewN q by
      have h := Try.slices_Index_int g2 0 (spk rs).length c2 (stA rs) (ivL (stA rs) j) ((w1.alloc (.cells #[.int .i64 (whP rs : Int), .slice (some ⟨g1, 0, none⟩) (spk rs).length c1, .slice (some ⟨g2, 0, none⟩) (spk rs).length c2] 130)).drewN q) (by rw [Hl.out]; exact Nat.le_refl _) (by omega) Hcx.out
      rw [Hidx.out] at h
      exact h)
    go_wp2_with fail
    go_quiet ((go_at_call 227; exact qcallR (Hix.out _)))
    go_wp2
    go_ret3
    exact ⟨rfl, below_drewN b2 _⟩

set_option maxRecDepth 100000 in
set_option maxHeartbeats 800000 in
theorem isLeftMoved_c (w : World) (A : Option Addr) (m c : Nat) (rs : List (Int × Int)) (hA : Rl w A rs) (hm : m = rs.length) (hw : whB rs = true) (g1 c1 : Nat) (hg1 : g1 < w.heap.size) (hcA : ∀ k, k < (spk rs).length → w.cell? ⟨g1, k, none⟩ = some (.int .i64 (ivL (spk rs) k))) (b : Nat) (hb : b ≤ 5000) :
    Calls Try.prog 232 #[.slice A m c, .slice (some ⟨g1, 0, none⟩) (spk rs).length c1, .int .i64 (b : Int)] w fun en w' => en = .returned (.bool (mvB rs (b : Int))) ∧ Below w.heap.size w w' := by
  have Hm := Lib.hid hm
  clear hm
  have hp5 := (whB_parts hw).2.2.2.2.2.1
  have Hgl := Lib.hid (whB_parts hw).1
  have hsl := spk_len rs
  have HcA := Lib.hid hcA
  have Hat := Lib.hid (fun k (hk : k < (spk rs).length) => spk_at hk)
  have Hno := Lib.hid (fun k (hk : k < (spk rs).length) => mvB_no (b := (b : Int)) hk)
  have Hyes := Lib.hid (mvB_yes (rs := rs) (b := (b : Int)))
  obtain ⟨T, hT⟩ : ∃ T, mvB rs (b : Int) = T := ⟨_, rfl⟩
  rw [hT]
  have HT := Lib.hid hT
  clear hT hcA hw
  go_enter Try.func232, Try.ntmps232
  go_wp2_with fail
  go_loopw [11] (fun i wr => ∃ k : Nat, k ≤ (spk rs).length ∧ i = .int .i64 (k : Int) ∧ (∀ j, j < k → leftF rs (ivL (spk rs) j + (b : Int)) = true) ∧ Below w.heap.size w wr) (fun i _ => (spk rs).length - (intOf i).toNat)
  case atStart => exact ⟨0, Nat.zero_le _, rfl, fun j hj => by omega, Below.refl _ _⟩
  case round =>
    obtain ⟨k, hk, rfl, hall, hbel⟩ := hrel
    have Hall := Lib.hid hall
    clear hall
    have R4 := hA.below hbel
    by_cases hlt : k < (spk rs).length
    · have hck := (hbel.cell (p := ⟨g1, k, none⟩) hg1).trans (HcA.out k hlt)
      have hat := Hat.out k hlt
      cases ht : leftF rs (ivL (spk rs) k + (b : Int)) with
      | true =>
        have Hall2 := Lib.hid (fun j (hj : j < k + 1) => show leftF rs (ivL (spk rs) j + (b : Int)) = true by
          rcases Nat.lt_succ_iff_lt_or_eq.1 hj with h | h
          · exact Hall.out j h
          · rw [h]; exact ht)
        go_wp2_with fail
        refine (isLeft_c _ _ _ rs _ _ R4 Hm.out Hgl.out (by omega) (by omega)).mono ?_
        rw [ht]
        rintro e w5 ⟨rfl, b5⟩
        go_wp2
        go_roundw
        case rel => exact ⟨k + 1, by omega, by go_num, Hall2.out, hbel.trans (b5.mono hbel.size)⟩
        case measure => simp [intOf]; omega
      | false =>
        have Hn := Lib.hid (HT.out.symm.trans (Hno.out k hlt ht))
        go_wp2_with fail
        refine (isLeft_c _ _ _ rs _ _ R4 Hm.out Hgl.out (by omega) (by omega)).mono ?_
        rw [ht]
        rintro e w5 ⟨rfl, b5⟩
        go_wp2
        go_ret
        exact ⟨by rw [Hn.out]; rfl, hbel.trans (b5.mono hbel.size)⟩
    · have Hy := Lib.hid (HT.out.symm.trans (Hyes.out fun j hj => Hall.out j (by omega)))
      go_wp2
      go_ret
      exact ⟨by rw [Hy.out]; rfl, hbel⟩

set_option maxRecDepth 100000 in
set_option maxHeartbeats 1600000 in
theorem impl_LeastPeriod_c (w : World) (A : Option Addr) (m c : Nat) (rs : List (Int × Int)) (hA : Rl w A rs) (hm : m = rs.length) (hn : m ≤ 1048576) :
    Calls Try.prog 96 #[.slice A m c] w fun en w' => en = .returned (.tuple #[.int .i64 (lpV rs), .bool (whB rs)]) ∧ Below w.heap.size w w' := by
  have Hm := Lib.hid hm
  clear hm
  have hw := wheelOf_c w A m c rs hA Hm.out hn
  cases hg : whB rs with
  | false =>
    rw [hg] at hw
    have Hw := Lib.hid hw
    clear hw
    rw [lpV_no hg]
    go_enter Try.func96, Try.ntmps96
    go_wp2_with fail
    refine Hw.out.mono ?_
    rintro e w1 ⟨⟨v1, rfl, hv⟩, b1⟩
    obtain ⟨A1, c1, A2, c2, rfl, hh, ht⟩ := hv.parts
    go_wp2
    go_ret2
    exact ⟨rfl, b1.alloc b1.size _⟩
  | true =>
    rw [hg] at hw
    have Hw := Lib.hid hw
    clear hw
    have hp5 := (whB_parts hg).2.2.2.2.2.1
    have hp1 := (whB_parts hg).2.2.2.2.1
    have Hgl := Lib.hid (whB_parts hg).1
    have hpos := spk_pos hg
    have hsl := spk_len rs
    rw [lpV_yes hg]
    have Hlast := Lib.hid (mv_per hg)
    have Hleast := Lib.hid (fun b : Nat => mv_least (b := b) hg)
    have Hg := Lib.hid hg
    go_enter Try.func96, Try.ntmps96
    go_wp2_with fail
    refine Hw.out.mono ?_
    rintro e w1 ⟨⟨v1, rfl, hv⟩, b1⟩
    obtain ⟨g1, c1, g2, c2, rfl, hg1, hg2, hcA, hcB, _, _, _⟩ := hv.yes hg
    have HcA := Lib.hid hcA
    have HcB := Lib.hid hcB
    clear hcA hcB hv
    have b2 := b1.alloc b1.size (.cells #[.int .i64 (whP rs : Int), .slice (some ⟨g1, 0, none⟩) (spk rs).length c1, .slice (some ⟨g2, 0, none⟩) (spk rs).length c2] 130)
    have R2 := hA.below b2
    have b12 : Below w1.heap.size w1 (w1.alloc (.cells #[.int .i64 (whP rs : Int), .slice (some ⟨g1, 0, none⟩) (spk rs).length c1, .slice (some ⟨g2, 0, none⟩) (spk rs).length c2] 130)) := (Below.refl _ _).alloc (Nat.le_refl _) _
    clear hg
    go_wp2
    go_loopw [6] (fun i wr => ∃ b : Nat, 1 ≤ b ∧ b ≤ whP rs ∧ i = .int .i64 (b : Int) ∧ (∀ j : Nat, 1 ≤ j → j < b → mvB rs (j : Int) = false) ∧ Below (w1.heap.size + 1) (w1.alloc (.cells #[.int .i64 (whP rs : Int), .slice (some ⟨g1, 0, none⟩) (spk rs).length c1, .slice (some ⟨g2, 0, none⟩) (spk rs).length c2] 130)) wr) (fun i _ => whP rs + 1 - (intOf i).toNat)
    case atStart => exact ⟨1, Nat.le_refl _, hp1, rfl, fun j h1 h2 => by omega, Below.refl _ _⟩
    case round =>
      obtain ⟨b, hb1, hb, rfl, hall, hbel⟩ := hrel
      have Hall := Lib.hid hall
      clear hall
      have hbw := b12.trans (hbel.mono (by simp))
      have R4 := (hA.below b1).below hbw
      have hP1 : wr.cell? ⟨w1.heap.size, 1, none⟩ = some (.slice (some ⟨g1, 0, none⟩) (spk rs).length c1) := (hbel.cell (p := ⟨w1.heap.size, 1, none⟩) (by simp)).trans (cell_of_row _ w1.heap.size 1 _ _ _ (heap_alloc_new w1 _))
      have Hc3 := Lib.hid (fun k hk => (hbw.cell (p := ⟨g1, k, none⟩) hg1).trans (HcA.out k hk))
      have hgr : g1 < wr.heap.size := Nat.lt_of_lt_of_le hg1 hbw.size
      cases ht : mvB rs (b : Int) with
      | true =>
        have Hy := Lib.hid (Hleast.out b hb1 hb ht fun j h1 h2 => Hall.out j h1 h2)
        go_wp2_with fail
        refine (isLeftMoved_c _ _ _ _ rs R4 Hm.out Hg.out g1 c1 hgr Hc3.out b (by omega)).mono ?_
        rw [ht]
        rintro e w5 ⟨rfl, b5⟩
        go_wp2
        go_ret2
        exact ⟨by rw [Hy.out]; rfl, b1.trans ((hbw.trans (b5.mono hbw.size)).mono b1.size)⟩
      | false =>
        have hne : b ≠ whP rs := fun e => by rw [e, Hlast.out] at ht; cases ht
        have hb2 : b + 1 ≤ whP rs := by omega
        have Hall2 := Lib.hid (fun (j : Nat) (h1 : 1 ≤ j) (hj : j < b + 1) => show mvB rs (j : Int) = false by
          rcases Nat.lt_succ_iff_lt_or_eq.1 hj with h | h
          · exact Hall.out j h1 h
          · rw [h]; exact ht)
        clear hne
        go_wp2_with fail
        refine (isLeftMoved_c _ _ _ _ rs R4 Hm.out Hg.out g1 c1 hgr Hc3.out b (by omega)).mono ?_
        rw [ht]
        rintro e w5 ⟨rfl, b5⟩
        go_wp2
        go_roundw
        case rel => exact ⟨b + 1, by omega, hb2, by go_num, Hall2.out, hbel.trans (b5.mono (by have := hbel.size; simp at this; omega))⟩
        case measure => simp [intOf]; omega

end Go.Proofs.Ytaapfapejekkfaa

namespace Go.Proofs.Ytaapfapejekkfaa
open Go.RowKit
set_option linter.unusedVariables false
set_option linter.unusedSimpArgs false

set_option maxRecDepth 100000 in
set_option maxHeartbeats 3200000 in
theorem impl_RankOfSpoke_c (w : World) (A : Option Addr) (m c : Nat) (rs : List (Int × Int)) (hA : Rl w A rs) (hm : m = rs.length) (hn : m ≤ 1048576) (n : Int) :
    Calls Try.prog 47 #[.slice A m c, .int .i64 n] w fun en w' => en = .returned (.tuple #[.int .i64 (rkV rs n), .bool (rkO rs n)]) ∧ Below w.heap.size w w' := by
  have Hm := Lib.hid hm
  clear hm
  have hw := wheelOf_c w A m c rs hA Hm.out hn
  cases hg : whB rs with
  | false =>
    rw [hg] at hw
    have Hw := Lib.hid hw
    clear hw
    have ho : rkO rs n = false := by simp [rkO, isO, *]
    rw [rkV_no ho, ho]
    clear ho
    go_enter Try.func47, Try.ntmps47
    go_wp2_with fail
    refine Hw.out.mono ?_
    rintro e w1 ⟨⟨v1, rfl, hv⟩, b1⟩
    obtain ⟨A1, c1, A2, c2, rfl, hh, ht⟩ := hv.parts
    go_wp2
    go_ret2
    exact ⟨rfl, b1.alloc b1.size _⟩
  | true =>
    rw [hg] at hw
    have Hw := Lib.hid hw
    clear hw
    have hp5 := (whB_parts hg).2.2.2.2.2.1
    have hp1 := (whB_parts hg).2.2.2.2.1
    have Hgl := Lib.hid (whB_parts hg).1
    have hpos := spk_pos hg
    have hsl := spk_len rs
    skip
    cases hk : inB n 0 1000000000 with
    | false =>
      have ho : isO rs n = false := by simp [isO, *]
      have ho : rkO rs n = false := by simp [rkO, isO, *]
      rw [rkV_no ho, ho]
      clear ho
      go_enter Try.func47, Try.ntmps47
      go_wp2_with fail
      refine Hw.out.mono ?_
      rintro e w1 ⟨⟨v1, rfl, hv⟩, b1⟩
      obtain ⟨g1, c1, g2, c2, rfl, hg1, hg2, hcA, hcB, _, _, _⟩ := hv.yes hg
      have HcA := Lib.hid hcA
      have HcB := Lib.hid hcB
      clear hcA hcB hv
      have b2 := b1.alloc b1.size (.cells #[.int .i64 (whP rs : Int), .slice (some ⟨g1, 0, none⟩) (spk rs).length c1, .slice (some ⟨g2, 0, none⟩) (spk rs).length c2] 130)
      have R2 := hA.below b2
      have b12 : Below w1.heap.size w1 (w1.alloc (.cells #[.int .i64 (whP rs : Int), .slice (some ⟨g1, 0, none⟩) (spk rs).length c1, .slice (some ⟨g2, 0, none⟩) (spk rs).length c2] 130)) := (Below.refl _ _).alloc (Nat.le_refl _) _
      go_wp2_with fail
      refine (isFar_c _ _).mono ?_
      rw [hk]
      rintro e w2 ⟨rfl, rfl⟩
      go_wp2
      go_ret2
      exact ⟨rfl, b2⟩
    | true =>
      have ho : isO rs n = true := by simp [isO, *]
      obtain ⟨n1, n2⟩ := inB_true.1 hk
      clear ho
      by_cases hj : 1 ≤ n
      rotate_left
      · have ho : rkO rs n = false := by simp [rkO, isO, *]
        rw [rkV_no ho, ho]
        clear ho
        go_enter Try.func47, Try.ntmps47
        go_wp2_with fail
        refine Hw.out.mono ?_
        rintro e w1 ⟨⟨v1, rfl, hv⟩, b1⟩
        obtain ⟨g1, c1, g2, c2, rfl, hg1, hg2, hcA, hcB, _, _, _⟩ := hv.yes hg
        have HcA := Lib.hid hcA
        have HcB := Lib.hid hcB
        clear hcA hcB hv
        have b2 := b1.alloc b1.size (.cells #[.int .i64 (whP rs : Int), .slice (some ⟨g1, 0, none⟩) (spk rs).length c1, .slice (some ⟨g2, 0, none⟩) (spk rs).length c2] 130)
        have R2 := hA.below b2
        have b12 : Below w1.heap.size w1 (w1.alloc (.cells #[.int .i64 (whP rs : Int), .slice (some ⟨g1, 0, none⟩) (spk rs).length c1, .slice (some ⟨g2, 0, none⟩) (spk rs).length c2] 130)) := (Below.refl _ _).alloc (Nat.le_refl _) _
        go_wp2_with fail
        refine (isFar_c _ _).mono ?_
        rw [hk]
        rintro e w2 ⟨rfl, rfl⟩
        go_wp2
        go_ret2
        exact ⟨rfl, b2⟩
      have hq0 : 0 ≤ (n - 1) / (whP rs : Int) := Int.ediv_nonneg (by omega) (by omega)
      have hq1 : (n - 1) / (whP rs : Int) ≤ n - 1 := Int.ediv_le_self _ (by omega)
      have hr0 := Int.emod_nonneg (n - 1) (b := (whP rs : Int)) (by omega)
      have hr1 := Int.emod_lt_of_pos (n - 1) (b := (whP rs : Int)) (by omega)
      have hz : (((whP rs : Nat) : Int) == 0) = false := beq_eq_false_iff_ne.2 (by omega)
      have hm0 : 0 ≤ (n - 1) / (whP rs : Int) * ((spk rs).length : Int) := Int.mul_nonneg (by omega) (by omega)
      have hm9 : (n - 1) / (whP rs : Int) * ((spk rs).length : Int) ≤ 1000000000 * 5000 := Int.mul_le_mul (by omega) (by omega) (by omega) (by omega)
      have hm8 : (n - 1) / (whP rs : Int) * ((spk rs).length : Int) ≤ 5000000000000 := by omega
      have hcl := cntP_le (spk rs) (rkT rs n) (spk rs).length
      have Hfd := Lib.hid (rk_found hg n)
      have Hrk := Lib.hid (rk_rank hg n)
      have Hso := Lib.hid ((spk_sorted rs).imp (fun {a b : Int} (h : a < b) => Int.le_of_lt h))
      clear hm9
      cases hl : leftF rs n with
      | false =>
        have ho : rkO rs n = false := by simp [rkO, isO, *]
        rw [rkV_no ho, ho]
        clear ho
        go_enter Try.func47, Try.ntmps47
        go_wp2_with fail
        refine Hw.out.mono ?_
        rintro e w1 ⟨⟨v1, rfl, hv⟩, b1⟩
        obtain ⟨g1, c1, g2, c2, rfl, hg1, hg2, hcA, hcB, _, _, _⟩ := hv.yes hg
        have HcA := Lib.hid hcA
        have HcB := Lib.hid hcB
        clear hcA hcB hv
        have b2 := b1.alloc b1.size (.cells #[.int .i64 (whP rs : Int), .slice (some ⟨g1, 0, none⟩) (spk rs).length c1, .slice (some ⟨g2, 0, none⟩) (spk rs).length c2] 130)
        have R2 := hA.below b2
        have b12 : Below w1.heap.size w1 (w1.alloc (.cells #[.int .i64 (whP rs : Int), .slice (some ⟨g1, 0, none⟩) (spk rs).length c1, .slice (some ⟨g2, 0, none⟩) (spk rs).length c2] 130)) := (Below.refl _ _).alloc (Nat.le_refl _) _
        have hcx : ∀ k, k < (spk rs).length → (w1.alloc (.cells #[.int .i64 (whP rs : Int), .slice (some ⟨g1, 0, none⟩) (spk rs).length c1, .slice (some ⟨g2, 0, none⟩) (spk rs).length c2] 130)).cell? ⟨g1, 0 + k, none⟩ = some (.int .i64 ((spk rs).getD k 0)) := fun k hk => by
          rw [Nat.zero_add]
          exact (b12.cell (p := ⟨g1, k, none⟩) hg1).trans (HcA.out k hk)
        have Hix := Lib.hid (fun q : Nat => show Calls Try.prog 204 #[.slice (some ⟨g1, 0, none⟩) (spk rs).length c1, .int .i64 ((n - 1) % (whP rs : Int) + 1)] ((w1.alloc (.cells #[.int .i64 (whP rs : Int), .slice (some ⟨g1, 0, none⟩) (spk rs).length c1, .slice (some ⟨g2, 0, none⟩) (spk rs).length c2] 130)).drewN q) fun e w' => e = .returned (.tuple #[.int .i64 ((cntP (spk rs) (rkT rs n) (spk rs).length : Nat) : Int), .bool false]) ∧ ∃ m, w' = ((w1.alloc (.cells #[.int .i64 (whP rs : Int), .slice (some ⟨g1, 0, none⟩) (spk rs).length c1, .slice (some ⟨g2, 0, none⟩) (spk rs).length c2] 130)).drewN q).drewN m by
          have h := Try.slices_BinarySearch_int g1 0 (spk rs).length c1 (spk rs) ((n - 1) % (whP rs : Int) + 1) ((w1.alloc (.cells #[.int .i64 (whP rs : Int), .slice (some ⟨g1, 0, none⟩) (spk rs).length c1, .slice (some ⟨g2, 0, none⟩) (spk rs).length c2] 130)).drewN q) (Nat.le_refl _) (by omega) hcx (by rw [List.take_length]; exact Hso.out)
          rw [List.take_length, Hfd.out, Hrk.out, hl] at h
          exact h)
        clear hcx
        go_wp2_with fail
        refine (isFar_c _ _).mono ?_
        rw [hk]
        rintro e w2 ⟨rfl, rfl⟩
        go_wp2_with fail
        go_quiet ((go_at_call 204; exact qcallD (Hix.out _)))
        go_wp2
        go_ret2
        exact ⟨rfl, below_drewN b2 _⟩
      | true =>
        have ho : rkO rs n = true := by simp [rkO, isO, *]
        rw [rkV_yes ho, ho]
        clear ho
        have e1 : IntKind.i64.wrap ((n - 1) / (whP rs : Int) * ((spk rs).length : Int)) = (n - 1) / (whP rs : Int) * ((spk rs).length : Int) := IntWalk.i64_in _ (by omega)
        have e2 : IntKind.i64.wrap ((n - 1) / (whP rs : Int) * ((spk rs).length : Int) + ((cntP (spk rs) (rkT rs n) (spk rs).length : Nat) : Int)) = (n - 1) / (whP rs : Int) * ((spk rs).length : Int) + ((cntP (spk rs) (rkT rs n) (spk rs).length : Nat) : Int) := IntWalk.i64_in _ (by omega)
        go_enter Try.func47, Try.ntmps47
        go_wp2_with fail
        refine Hw.out.mono ?_
        rintro e w1 ⟨⟨v1, rfl, hv⟩, b1⟩
        obtain ⟨g1, c1, g2, c2, rfl, hg1, hg2, hcA, hcB, _, _, _⟩ := hv.yes hg
        have HcA := Lib.hid hcA
        have HcB := Lib.hid hcB
        clear hcA hcB hv
        have b2 := b1.alloc b1.size (.cells #[.int .i64 (whP rs : Int), .slice (some ⟨g1, 0, none⟩) (spk rs).length c1, .slice (some ⟨g2, 0, none⟩) (spk rs).length c2] 130)
        have R2 := hA.below b2
        have b12 : Below w1.heap.size w1 (w1.alloc (.cells #[.int .i64 (whP rs : Int), .slice (some ⟨g1, 0, none⟩) (spk rs).length c1, .slice (some ⟨g2, 0, none⟩) (spk rs).length c2] 130)) := (Below.refl _ _).alloc (Nat.le_refl _) _
        have hcx : ∀ k, k < (spk rs).length → (w1.alloc (.cells #[.int .i64 (whP rs : Int), .slice (some ⟨g1, 0, none⟩) (spk rs).length c1, .slice (some ⟨g2, 0, none⟩) (spk rs).length c2] 130)).cell? ⟨g1, 0 + k, none⟩ = some (.int .i64 ((spk rs).getD k 0)) := fun k hk => by
          rw [Nat.zero_add]
          exact (b12.cell (p := ⟨g1, k, none⟩) hg1).trans (HcA.out k hk)
        have Hix := Lib.hid (fun q : Nat => show Calls Try.prog 204 #[.slice (some ⟨g1, 0, none⟩) (spk rs).length c1, .int .i64 ((n - 1) % (whP rs : Int) + 1)] ((w1.alloc (.cells #[.int .i64 (whP rs : Int), .slice (some ⟨g1, 0, none⟩) (spk rs).length c1, .slice (some ⟨g2, 0, none⟩) (spk rs).length c2] 130)).drewN q) fun e w' => e = .returned (.tuple #[.int .i64 ((cntP (spk rs) (rkT rs n) (spk rs).length : Nat) : Int), .bool true]) ∧ ∃ m, w' = ((w1.alloc (.cells #[.int .i64 (whP rs : Int), .slice (some ⟨g1, 0, none⟩) (spk rs).length c1, .slice (some ⟨g2, 0, none⟩) (spk rs).length c2] 130)).drewN q).drewN m by
          have h := Try.slices_BinarySearch_int g1 0 (spk rs).length c1 (spk rs) ((n - 1) % (whP rs : Int) + 1) ((w1.alloc (.cells #[.int .i64 (whP rs : Int), .slice (some ⟨g1, 0, none⟩) (spk rs).length c1, .slice (some ⟨g2, 0, none⟩) (spk rs).length c2] 130)).drewN q) (Nat.le_refl _) (by omega) hcx (by rw [List.take_length]; exact Hso.out)
          rw [List.take_length, Hfd.out, Hrk.out, hl] at h
          exact h)
        clear hcx
        go_wp2_with fail
        refine (isFar_c _ _).mono ?_
        rw [hk]
        rintro e w2 ⟨rfl, rfl⟩
        go_wp2_with fail
        go_quiet ((go_at_call 204; exact qcallD (Hix.out _)))
        go_wp2_with fail
        go_quiet (fail)
        clear e1 e2
        go_wp2
        go_ret2
        exact ⟨rfl, below_drewN (below_drewN b2 _) _⟩

set_option maxRecDepth 100000 in
set_option maxHeartbeats 1600000 in
theorem nearestLeft_c (w : World) (A : Option Addr) (m c : Nat) (rs : List (Int × Int)) (hA : Rl w A rs) (hm : m = rs.length) (hg : whB rs = true) (n : Int) (n1 : 0 ≤ n) (n2 : n ≤ 1000000000) :
    Calls Try.prog 207 #[.slice A m c, .int .i64 n] w fun en w' => en = .returned (.int .i64 (nearD rs n 0)) ∧ Below w.heap.size w w' := by
  have Hm := Lib.hid hm
  clear hm
  have hp5 := (whB_parts hg).2.2.2.2.2.1
  have hp1 := (whB_parts hg).2.2.2.2.1
  have Hgl := Lib.hid (whB_parts hg).1
  obtain ⟨d0, hd0, hl0⟩ := wh_next hg n
  have Hl0 := Lib.hid hl0
  obtain ⟨T, hT⟩ : ∃ T, nearD rs n 0 = T := ⟨_, rfl⟩
  rw [hT]
  have HT := Lib.hid hT
  clear hT hl0 hg
  go_enter Try.func207, Try.ntmps207
  go_wp2
  refine wp_scope_again 0 (fun a' wr => ∃ (d : Nat) (u6 u7 u8 u9 u10 u11 u12 u13 u14 u15 u16 u17 u18 u19 u20 u21 u22 u23 : Value), a' = { tmps := #[.slice A m c, .int .i64 n, undef, undef, .int .i64 0, .int .i64 (d : Int), u6, u7, u8, u9, u10, u11, u12, u13, u14, u15, u16, u17, u18, u19, u20, u21, u22, u23], defers := [] } ∧ d ≤ d0 ∧ Hid (nearD rs n d = T) ∧ Below w.heap.size w wr) (fun a' _ => d0 + 1 - (intOf (a'.tmps.getD 5 undef)).toNat) rfl ?_ ?_
  · rintro a' wr ⟨d, u6, u7, u8, u9, u10, u11, u12, u13, u14, u15, u16, u17, u18, u19, u20, u21, u22, u23, rfl, hd, HT2, hbel⟩
    have R2 := hA.below hbel
    cases h1 : leftF rs (n - (d : Int)) with
    | true =>
      have Hv := Lib.hid (HT2.out.symm.trans (nearD_lo (by omega) h1))
      go_wp2_with fail
      refine (isLeft_c _ _ _ rs _ _ R2 Hm.out Hgl.out (by omega) (by omega)).mono ?_
      rw [h1]
      rintro e w3 ⟨rfl, b3⟩
      go_wp2
      try simp only [Exit.jump]
      go_ret
      exact ⟨by rw [Hv.out]; rfl, hbel.trans (b3.mono hbel.size)⟩
    | false =>
      cases h2 : leftF rs (n + (d : Int)) with
      | true =>
        have Hv := Lib.hid (HT2.out.symm.trans (nearD_hi (by omega) h1 h2))
        go_wp2_with fail
        refine (isLeft_c _ _ _ rs _ _ R2 Hm.out Hgl.out (by omega) (by omega)).mono ?_
        rw [h1]
        rintro e w3 ⟨rfl, b3⟩
        have R3 := R2.below b3
        have bb3 := hbel.trans (b3.mono hbel.size)
        go_wp2_with fail
        refine (isLeft_c _ _ _ rs _ _ R3 Hm.out Hgl.out (by omega) (by omega)).mono ?_
        rw [h2]
        rintro e w4 ⟨rfl, b4⟩
        go_wp2
        try simp only [Exit.jump]
        go_ret
        exact ⟨by rw [Hv.out]; rfl, bb3.trans (b4.mono bb3.size)⟩
      | false =>
        have Hv := Lib.hid ((nearD_go (by omega) h1 h2).symm.trans HT2.out)
        have hne : d ≠ d0 := fun e => by rw [e, Hl0.out] at h2; cases h2
        have hd2 : d + 1 ≤ d0 := by omega
        clear hne
        go_wp2_with fail
        refine (isLeft_c _ _ _ rs _ _ R2 Hm.out Hgl.out (by omega) (by omega)).mono ?_
        rw [h1]
        rintro e w3 ⟨rfl, b3⟩
        have R3 := R2.below b3
        have bb3 := hbel.trans (b3.mono hbel.size)
        go_wp2_with fail
        refine (isLeft_c _ _ _ rs _ _ R3 Hm.out Hgl.out (by omega) (by omega)).mono ?_
        rw [h2]
        rintro e w4 ⟨rfl, b4⟩
        go_wp2
        go_step3
        refine ⟨rfl, ⟨d + 1, _, _, _, _, _, _, _, _, _, _, _, _, _, _, _, _, _, _, rfl, hd2, Hv, bb3.trans (b4.mono bb3.size)⟩, ?_⟩
        simp [intOf]
        omega
  · intro h
    go_wp2
    go_step3
    rename_i hK
    exact hK _ _ (h _ _ ⟨0, _, _, _, _, _, _, _, _, _, _, _, _, _, _, _, _, _, _, rfl, Nat.zero_le _, HT, Below.refl _ _⟩)

set_option maxRecDepth 100000 in
set_option maxHeartbeats 1600000 in
theorem impl_SpokeNear_c (w : World) (A : Option Addr) (m c : Nat) (rs : List (Int × Int)) (hA : Rl w A rs) (hm : m = rs.length) (hn : m ≤ 1048576) (n : Int) :
    Calls Try.prog 51 #[.slice A m c, .int .i64 n] w fun en w' => en = .returned (.tuple #[.int .i64 (snV rs n), .bool (isO rs n)]) ∧ Below w.heap.size w w' := by
  have Hm := Lib.hid hm
  clear hm
  have hw := wheelOf_c w A m c rs hA Hm.out hn
  cases hg : whB rs with
  | false =>
    rw [hg] at hw
    have Hw := Lib.hid hw
    clear hw
    have ho : isO rs n = false := by simp [isO, *]
    rw [snV_no ho, ho]
    clear ho
    go_enter Try.func51, Try.ntmps51
    go_wp2_with fail
    refine Hw.out.mono ?_
    rintro e w1 ⟨⟨v1, rfl, hv⟩, b1⟩
    obtain ⟨A1, c1, A2, c2, rfl, hh, ht⟩ := hv.parts
    go_wp2
    go_ret2
    exact ⟨rfl, b1.alloc b1.size _⟩
  | true =>
    rw [hg] at hw
    have Hw := Lib.hid hw
    clear hw
    have hp5 := (whB_parts hg).2.2.2.2.2.1
    have hp1 := (whB_parts hg).2.2.2.2.1
    have Hgl := Lib.hid (whB_parts hg).1
    have hpos := spk_pos hg
    have hsl := spk_len rs
    skip
    cases hk : inB n 0 1000000000 with
    | false =>
      have ho : isO rs n = false := by simp [isO, *]
      rw [snV_no ho, ho]
      clear ho
      go_enter Try.func51, Try.ntmps51
      go_wp2_with fail
      refine Hw.out.mono ?_
      rintro e w1 ⟨⟨v1, rfl, hv⟩, b1⟩
      obtain ⟨g1, c1, g2, c2, rfl, hg1, hg2, hcA, hcB, _, _, _⟩ := hv.yes hg
      have HcA := Lib.hid hcA
      have HcB := Lib.hid hcB
      clear hcA hcB hv
      have b2 := b1.alloc b1.size (.cells #[.int .i64 (whP rs : Int), .slice (some ⟨g1, 0, none⟩) (spk rs).length c1, .slice (some ⟨g2, 0, none⟩) (spk rs).length c2] 130)
      have R2 := hA.below b2
      have b12 : Below w1.heap.size w1 (w1.alloc (.cells #[.int .i64 (whP rs : Int), .slice (some ⟨g1, 0, none⟩) (spk rs).length c1, .slice (some ⟨g2, 0, none⟩) (spk rs).length c2] 130)) := (Below.refl _ _).alloc (Nat.le_refl _) _
      go_wp2_with fail
      refine (isFar_c _ _).mono ?_
      rw [hk]
      rintro e w2 ⟨rfl, rfl⟩
      go_wp2
      go_ret2
      exact ⟨rfl, b2⟩
    | true =>
      have ho : isO rs n = true := by simp [isO, *]
      obtain ⟨n1, n2⟩ := inB_true.1 hk
      rw [snV_yes ho, ho]
      clear ho
      have Hg := Lib.hid hg
      go_enter Try.func51, Try.ntmps51
      go_wp2_with fail
      refine Hw.out.mono ?_
      rintro e w1 ⟨⟨v1, rfl, hv⟩, b1⟩
      obtain ⟨g1, c1, g2, c2, rfl, hg1, hg2, hcA, hcB, _, _, _⟩ := hv.yes hg
      have HcA := Lib.hid hcA
      have HcB := Lib.hid hcB
      clear hcA hcB hv
      have b2 := b1.alloc b1.size (.cells #[.int .i64 (whP rs : Int), .slice (some ⟨g1, 0, none⟩) (spk rs).length c1, .slice (some ⟨g2, 0, none⟩) (spk rs).length c2] 130)
      have R2 := hA.below b2
      have b12 : Below w1.heap.size w1 (w1.alloc (.cells #[.int .i64 (whP rs : Int), .slice (some ⟨g1, 0, none⟩) (spk rs).length c1, .slice (some ⟨g2, 0, none⟩) (spk rs).length c2] 130)) := (Below.refl _ _).alloc (Nat.le_refl _) _
      go_wp2_with fail
      refine (isFar_c _ _).mono ?_
      rw [hk]
      rintro e w2 ⟨rfl, rfl⟩
      go_wp2_with fail
      refine (nearestLeft_c _ _ _ _ rs R2 Hm.out Hg.out n n1 n2).mono ?_
      rintro e w3 ⟨rfl, b3⟩
      go_wp2
      go_ret2
      exact ⟨rfl, b2.trans (b3.mono b2.size)⟩

end Go.Proofs.Ytaapfapejekkfaa
