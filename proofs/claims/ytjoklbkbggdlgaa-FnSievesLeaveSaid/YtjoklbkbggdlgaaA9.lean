import Derived.Test.YtjoklbkbggdlgaaA8
namespace Go.Proofs.Ytjoklbkbggdlgaa
open Go.RowKit
set_option linter.unusedVariables false
set_option linter.unusedSimpArgs false

theorem OwnR.nil (w : World) (B : Nat) : OwnR w B (.slice none 0 0) [] := World.ownsRow_nil _ _ _ _

def upV (rs : List (Int × Int)) (n : Int) : List Int := if okM rs n then upF (leftF rs) n.toNat else []
theorem okM_most {rs : List (Int × Int)} {n : Int} (h : okM rs n = true) : goodL rs = true ∧ 0 ≤ n ∧ n ≤ 600 := by
  simp only [okM, Bool.and_eq_true] at h
  exact ⟨h.1, mostB_true.1 h.2⟩
theorem upV_no {rs : List (Int × Int)} {n : Int} (h : okM rs n = false) : upV rs n = [] := by rw [upV, h]; rfl
theorem upV_yes {rs : List (Int × Int)} {M : Nat} (h : okM rs (M : Int) = true) : upV rs (M : Int) = upF (leftF rs) M := by rw [upV, h, Int.toNat_natCast]; rfl

set_option maxRecDepth 100000 in
set_option maxHeartbeats 400000 in
theorem spec_LeftUpTo_c (w : World) (A : Option Addr) (m c : Nat) (rs : List (Int × Int)) (hA : Rl w A rs) (hm : m = rs.length) (hn : m ≤ 1048576) (n : Int) :
    Calls Try.prog 8 #[.slice A m c, .int .i64 n] w fun en w' => (∃ v, en = .returned (.tuple #[v, .bool (okM rs n)]) ∧ OwnI w' w.heap.size v (upV rs n)) ∧ Below w.heap.size w w' := by
  have Hm := Lib.hid hm
  clear hm
  cases hg : okM rs n with
  | false =>
    rw [upV_no hg]
    go_enter Try.func8, Try.ntmps8
    go_wp2_with fail
    refine (siMost_c _ _ _ _ rs hA Hm.out hn _).mono ?_
    rintro e w1 ⟨rfl, b1⟩
    have hA_1 := hA.below b1
    go_wp2
    go_ret2
    exact ⟨⟨_, rfl, OwnI.nil _ _⟩, b1⟩
  | true =>
    obtain ⟨g1, g2, g3⟩ := okM_most hg
    obtain ⟨M, rfl⟩ := Int.eq_ofNat_of_zero_le g2
    rw [upV_yes hg]
    have G1 := Lib.hid g1
    clear g1
    have Hg := Lib.hid hg
    go_enter Try.func8, Try.ntmps8
    go_wp2_with fail
    refine (siMost_c _ _ _ _ rs hA Hm.out hn _).mono ?_
    rintro e w1 ⟨rfl, b1⟩
    have hA_1 := hA.below b1
    go_wp2_with fail
    refine (siList_c _ _ _ _ rs hA_1 Hm.out G1.out M (by omega)).mono ?_
    rintro e w2 ⟨⟨v2, rfl, o2⟩, b2⟩
    have hA_2 := hA_1.below b2
    have bb2 := b1.trans (b2.mono b1.size)
    go_wp2
    go_ret2
    exact ⟨⟨_, rfl, OwnI.mono o2 b1.size⟩, bb2⟩

/-- 'left := leftNumbers(..)': the array goes into a new block. -/
theorem wp_store_arr {ops : Array Oper} {rest : List Oper} {o : Oper} {a : Act} {Q : Exit → Act → World → Prop} (w1 : World) (rs : List (Int × Int)) (hgd : o.guard = none) (x y : Operand)
    (ho : o.op = .store 61 x y) (hx : a.eval x = .pointer (some ⟨w1.heap.size, 0, none⟩)) (hy : a.eval y = .agg (leftArr rs))
    (h : ∀ W2 : World, W2.heap[w1.heap.size]? = some (.cells (leftArr rs) 61 (0, 0)) → W2.heap.size = w1.heap.size + 1 → Below w1.heap.size w1 W2 → wpList Try.prog ops Q rest (a.put o.dst undef) W2) :
    wpList Try.prog ops Q (o :: rest) a (w1.alloc (.cells Try.zeroCells61 61)) := by
  refine wpList_store_row hgd 61 x y ho w1.heap.size (leftArr rs) hx hy _ _ (heap_alloc_new w1 _) (size60.trans (by rw [leftArr_size])) (by rw [leftArr_size]; exact zero60_size) (leftArr_one rs) ?_
  refine h _ (setRow_heap _ _ _ _ _ _ (heap_alloc_new w1 _)) (by simp) ?_
  exact ((Below.refl _ _).alloc (Nat.le_refl _) _).trans ⟨rfl, rfl, rfl, by simp, fun i hi => setRow_other _ _ _ _ (by omega)⟩

set_option maxRecDepth 100000 in
set_option maxHeartbeats 1000000 in
theorem impl_LeftUpTo_c (w : World) (A : Option Addr) (m c : Nat) (rs : List (Int × Int)) (hA : Rl w A rs) (hm : m = rs.length) (hn : m ≤ 1048576) (n : Int) :
    Calls Try.prog 7 #[.slice A m c, .int .i64 n] w fun en w' => (∃ v, en = .returned (.tuple #[v, .bool (okM rs n)]) ∧ OwnI w' w.heap.size v (upV rs n)) ∧ Below w.heap.size w w' := by
  have Hm := Lib.hid hm
  clear hm
  cases hg : goodL rs with
  | false =>
    have ho : okM rs n = false := by simp [okM, *]
    rw [upV_no ho, ho]
    clear ho
    go_enter Try.func7, Try.ntmps7
    go_wp2_with fail
    refine (implAreRules_c _ _ _ rs _ hA Hm.out hn).mono ?_
    rintro e w1 ⟨rfl, b1⟩
    have hA_1 := hA.below b1
    go_wp2
    go_ret2
    exact ⟨⟨_, rfl, OwnI.nil _ _⟩, b1⟩
  | true =>
    cases hk : mostB n with
    | false =>
      have ho : okM rs n = false := by simp [okM, *]
      rw [upV_no ho, ho]
      clear ho
      go_enter Try.func7, Try.ntmps7
      go_wp2_with fail
      refine (implAreRules_c _ _ _ rs _ hA Hm.out hn).mono ?_
      rintro e w1 ⟨rfl, b1⟩
      have hA_1 := hA.below b1
      go_wp2_with fail
      refine (isMost_c _ _).mono ?_
      rintro e w2 ⟨rfl, rfl⟩
      go_wp2
      go_ret2
      exact ⟨⟨_, rfl, OwnI.nil _ _⟩, b1⟩
    | true =>
      obtain ⟨g2, g3⟩ := mostB_true.1 hk
      obtain ⟨M, rfl⟩ := Int.eq_ofNat_of_zero_le g2
      have ho : okM rs (M : Int) = true := by simp [okM, *]
      rw [upV_yes ho, ho]
      clear ho
      have Hg := Lib.hid hg
      have Hk := Lib.hid hk
      go_enter Try.func7, Try.ntmps7
      go_wp2_with fail
      refine (implAreRules_c _ _ _ rs _ hA Hm.out hn).mono ?_
      rintro e w1 ⟨rfl, b1⟩
      have hA_1 := hA.below b1
      go_wp2_with fail
      refine (isMost_c _ _).mono ?_
      rintro e w2 ⟨rfl, rfl⟩
      go_wp2_with fail
      refine (leftNumbers_c _ _ _ _ rs hA_1 Hm.out Hg.out).mono ?_
      rintro e w3 ⟨rfl, b3⟩
      have hA_3 := hA_1.below b3
      have bb3 := b1.trans (b3.mono b1.size)
      go_wp2_with (refine wp_store_arr w3 rs rfl (.tmp 6) (.tmp 18) rfl rfl rfl ?_; intro W2 h2 hs2 bW)
      have hWs : w3.heap.size < W2.heap.size := by omega
      have H2 := Lib.hid h2
      have Hs2 := Lib.hid hs2
      clear h2 hs2
      go_loopw [7, 8] (fun v i wr => ∃ k : Nat, k ≤ M ∧ i = .int .i64 ((k : Int) + 1) ∧ OwnI wr (w3.heap.size + 1) v (upF (leftF rs) k) ∧ Below (w3.heap.size + 1) W2 wr) (fun _ i _ => M + 1 - (intOf i).toNat)
      case atStart => exact ⟨0, Nat.zero_le _, rfl, OwnI.nil _ _, Below.refl _ _⟩
      case round =>
        obtain ⟨k, hk, rfl, hown, hbel⟩ := hrel
        have Hown := Lib.hid hown
        clear hown
        have hs := hbel.size
        by_cases hlt : k < M
        · have hul := upF_len (leftF rs) k
          have hcell := (hbel.cell (p := ⟨w3.heap.size, k + 1, none⟩) (by simp)).trans ((cell_of_row W2 w3.heap.size (k + 1) _ _ _ H2.out).trans (leftArr_get rs (j := k + 1) (by omega)))
          have hcell' : wr.cell? ⟨w3.heap.size, k + 1, none⟩ = some (.bool (leftF rs ((k : Int) + 1))) := by simpa using hcell
          clear hcell
          cases hl : leftF rs ((k : Int) + 1) with
          | true =>
            have Hy := Lib.hid (upF_yes hl)
            have hB : w3.heap.size + 1 ≤ wr.heap.size := by omega
            go_wp2_with (at_builtin; refine wp_app_int _ rfl _ _ rfl (w3.heap.size + 1) _ _ rfl Hown.out _ rfl (by omega) hB ?_; intro v' w5 hown2 b5)
            go_roundw
            case rel => exact ⟨k + 1, by omega, by go_num, by rw [Hy.out]; exact hown2, hbel.trans b5⟩
            case measure => simp [intOf]; omega
          | false =>
            have Hy := Lib.hid (upF_no hl)
            go_wp2
            go_roundw
            case rel => exact ⟨k + 1, by omega, by go_num, by rw [Hy.out]; exact Hown.out, hbel⟩
            case measure => simp [intOf]; omega
        · go_wp2
          go_ret2
          have hkM : k = M := by omega
          subst hkM
          have bz := (bb3).size
          exact ⟨⟨_, rfl, OwnI.mono Hown.out (by omega)⟩, ((bb3).trans (bW.mono bz)).trans (hbel.mono (by omega))⟩

end Go.Proofs.Ytjoklbkbggdlgaa
