import Derived.Test.YtkpililllihgcaaJE
namespace Go.Proofs.Ytkpililllihgcaa
open Go.RowKit
set_option linter.unusedVariables false
set_option linter.unusedSimpArgs false

theorem plainI2 : Try.prog.plainKey 3 = true := by kernel_rfl
theorem cellsI2 : Try.prog.cellsOf 3 = 1 := by kernel_rfl
theorem eqGuardT : Try.prog.eqGuardType Try.prog.depth 56 = false := by kernel_rfl
theorem run_eqItems_tA (d : Nat) (p q : Nat → Int) (w : World) : ∀ is : List Nat, (∀ i, i ∈ is → i < 201) →
    (Op.eqItems (d + 1) 3 1 (tA p) (tA q) is).run Try.prog w = .ok (decide (∀ i, i ∈ is → p i = q i)) w
  | [], _ => by simp [Op.eqItems]
  | i :: is, h => by
    have hi := h i (List.mem_cons_self ..)
    have p1 := run_part_plain w plainI2 (show (tA p)[i * 1]? = some (.int .i64 (p i)) by rw [Nat.mul_one]; exact tA_get p (by omega))
    have p2 := run_part_plain w plainI2 (show (tA q)[i * 1]? = some (.int .i64 (q i)) by rw [Nat.mul_one]; exact tA_get q (by omega))
    have p3 := run_equalIn_int (P := Try.prog) w d 3 .i64 .i64 (p i) (q i) Try.underlying3
    have ih := run_eqItems_tA d p q w is fun j hj => h j (List.mem_cons_of_mem _ hj)
    simp only [Op.eqItems, Sem.run_bind, p1, p2, p3, Result.andThen_ok]
    by_cases he : p i = q i
    · have hb : (p i == q i) = true := beq_iff_eq.2 he
      rw [hb]
      simp only [Bool.not_true, Bool.false_eq_true, if_false, ih]
      congr 1
      simp [he]
    · have hb : (p i == q i) = false := beq_eq_false_iff_ne.2 he
      rw [hb]
      simp [he]
theorem run_eq_tA (p q : Nat → Int) (w : World) : (binOp .eql 56 (.agg (tA p)) (.agg (tA q))).run Try.prog w = .ok (.bool (decide (∀ i, i ∈ List.range 201 → p i = q i))) w := by
  obtain ⟨i, hi, hz, hs, hy⟩ := info_full info_I
  have h := run_equalIn_array (P := Try.prog) w 9999 (tA p) (tA q) Try.underlying56 hi
  rw [cellsI2, run_eqItems_tA 9998 p q w _ (fun i hi => List.mem_range.1 hi)] at h
  rw [run_eql_struct, h]
  rfl
theorem step_load_T {ops : Array Oper} {o : Oper} {a : Act} {w : World} {K : Act → World → Prop} {Q : Exit → Act → World → Prop} {E : Prop} (hg : o.guard = none) (x : Operand) (ho : o.op = .load 56 x) (g : Nat) (hx : a.eval x = .pointer (some ⟨g, 0, none⟩)) (cs : Array Value) (hw : w.heap[g]? = some (.cells cs 56 (0, 0))) (hs : cs.size = 201)
    (h : K (a.put o.dst (.agg cs)) w) : if Region.wanted o (yielded ops a.tmps) = true then Oper.wp Try.prog o a w K Q else E := by
  rw [if_pos (show Region.wanted o (yielded ops a.tmps) = true by simp [Region.wanted, hg])]
  exact wp_load_row 56 x ho g hx _ cs _ _ hw Try.underlying56 rfl (size201.trans (by rw [hs])) h
theorem step_eql_T {ops : Array Oper} {o : Oper} {a : Act} {w : World} {K : Act → World → Prop} {Q : Exit → Act → World → Prop} {E : Prop} (hg : o.guard = none) (x y : Operand) (t2 : TypeId) (ho : o.op = .binOp .eql 56 x y t2) (cs ds : Array Value) (hx : a.eval x = .agg cs) (hy : a.eval y = .agg ds) (b : Bool)
    (hr : (binOp .eql 56 (.agg cs) (.agg ds)).run Try.prog w = .ok (.bool b) w) (h : K (a.put o.dst (.bool b)) w) : if Region.wanted o (yielded ops a.tmps) = true then Oper.wp Try.prog o a w K Q else E := by
  rw [if_pos (show Region.wanted o (yielded ops a.tmps) = true by simp [Region.wanted, hg])]
  unfold Oper.wp execOp
  simp only [ho, hx, hy, Sem.run_bind, Result.andThen_ok, run_eqGuard_agg (P := Try.prog) w _ _ _ _ _ _ eqGuardT, hr, Sem.run_pure]
  exact h
theorem spread_eq {xs : List Int} {m : Nat} (hm : m = xs.length) (ht : tabB xs = true) : decide (∀ i, i ∈ List.range 201 → arI xs i = sqF xs m i) = isSV xs := by
  obtain ⟨h1, h2, h3⟩ := tabB_small ht
  rw [isSV_yes ht, isV1, Bool.eq_iff_iff, ← spread_iff h1 h2, decide_eq_true_eq]
  subst hm
  constructor
  · intro h i hi
    have := h i (List.mem_range.2 (by omega))
    rw [sqF, if_pos hi] at this
    exact this.symm
  · intro h i hi
    rw [sqF]
    by_cases hl : i ≤ xs.length
    · rw [if_pos hl]; exact (h i hl).symm
    · rw [if_neg hl, arI, if_neg (by omega), ivL, List.getD_eq_getElem?_getD, List.getElem?_eq_none (by omega)]; rfl
set_option maxRecDepth 100000 in
set_option maxHeartbeats 800000 in
theorem impl_IsSpread_c (w : World) (A : Option Addr) (m c : Nat) (xs : List Int) (hA : Il w A xs) (hm : m = xs.length) (hn : m ≤ 1048576) :
    Calls Try.prog 42 #[.slice A m c] w fun en w' => en = .returned (.tuple #[.bool (isSV xs), .bool (tabB xs)]) ∧ Below w.heap.size w w' := by
  have H1 := Lib.hid (fun W hW => isTable_c W A m c xs hW hm hn)
  cases hx : tabB xs with
  | false =>
    rw [isSV_no hx]
    rw [hx] at H1
    clear hm hx
    go_enter Try.func42, Try.ntmps42
    go_wp2_with fail
    refine (H1.out _ hA).mono ?_
    rintro e w1 ⟨rfl, rfl⟩
    go_wp2
    go_ret2
    exact ⟨rfl, Below.refl _ _⟩
  | true =>
    obtain ⟨_, m1, m9⟩ := tabB_small hx
    rw [← hm] at m1 m9
    rw [hx] at H1
    rw [← spread_eq hm hx]
    have H3 := Lib.hid (fun W hW => arrayOf_c W A m c xs hW hm m9)
    have Hsp := Lib.hid (fun W => spread_c W xs m m1 m9)
    have Heq := Lib.hid (fun W => run_eq_tA (arI xs) (sqF xs m) W)
    obtain ⟨b, hb⟩ : ∃ b, decide (∀ i, i ∈ List.range 201 → arI xs i = sqF xs m i) = b := ⟨_, rfl⟩
    rw [hb] at Heq ⊢
    have Hs2 := Lib.hid size201
    have Hz3 : Hid (Try.zeroCells56.size = 201) := by show _ = _; rw [zero201, tA_size]
    have Hcs : Hid ((tA (arI xs)).size = 201 ∧ (tA (arI xs)).all (·.oneCell') = true) := ⟨tA_size _, tA_one _⟩
    obtain ⟨ca, hca⟩ : ∃ c, tA (arI xs) = c := ⟨_, rfl⟩
    obtain ⟨cs, hcs⟩ : ∃ c, tA (sqF xs m) = c := ⟨_, rfl⟩
    rw [hca] at H3 Hsp Heq Hcs
    rw [hcs] at Hsp Heq
    clear hb hm hx hca hcs
    go_enter Try.func42, Try.ntmps42
    go_wp2_with fail
    refine (H1.out _ hA).mono ?_
    rintro e w1 ⟨rfl, rfl⟩
    go_wp2_with fail
    refine (H3.out _ hA).mono ?_
    rintro e w2 ⟨rfl, b2⟩
    have hz := heap_alloc_new w2 (.cells Try.zeroCells56 56)
    have hW : ((w2.alloc (.cells Try.zeroCells56 56)).setRow w2.heap.size ca).heap[w2.heap.size]? = some (.cells ca 56 (0, 0)) := setRow_heap _ _ _ _ _ _ hz
    have b05 : Below w.heap.size w ((w2.alloc (.cells Try.zeroCells56 56)).setRow w2.heap.size ca) := (b2.alloc b2.size _).trans ⟨rfl, rfl, rfl, by simp, fun i hi => setRow_other _ _ _ _ (by have := b2.size; omega)⟩
    have Hz := Lib.hid hz
    have HW := Lib.hid hW
    have B05 := Lib.hid b05
    clear hz hW b05
    go_wp2_with (refine wpList_store_row rfl 56 (.tmp 4) (.tmp 9) rfl w2.heap.size ca rfl rfl _ _ Hz.out (Hs2.out.trans (by rw [Hcs.out.1])) (by rw [Hcs.out.1]; exact Hz3.out) Hcs.out.2 ?_)
    obtain ⟨W, hWW⟩ : ∃ W, (w2.alloc (.cells Try.zeroCells56 56)).setRow w2.heap.size ca = W := ⟨_, rfl⟩
    rw [hWW] at HW B05 ⊢
    clear hWW Hz
    have hgs : w2.heap.size < W.drew.heap.size := (Array.getElem?_eq_some_iff.1 HW.out).1
    have Bd := Lib.hid (show Below w.heap.size w W.drew from B05.out.trans ⟨rfl, rfl, rfl, Nat.le_refl _, fun _ _ => rfl⟩)
    refine wp_region_any (by kernel_rfl) ?_
    try (change wpAny _ _ _ _ _ _ _ (World.drew _))
    refine wpAny_take (i := 2) (v := ?_) rfl (by kernel_rfl) (by kernel_rfl) (by kernel_rfl) (fun _ _ _ h => h) (Or.inl ⟨by rfl, ?_⟩) ?_
    rotate_left
    · intro w; go_simp; try with_reducible rfl
    refine wpAny_take (i := 3) (v := ?_) rfl (by kernel_rfl) (by kernel_rfl) (by kernel_rfl) (fun _ _ _ h => h) (Or.inl ⟨by rfl, ?_⟩) ?_
    rotate_left
    · intro w; go_simp; try with_reducible rfl
    refine wpAny_ready (rs := [0, 1]) (by kernel_rfl) (by simp) ?_
    refine AllReady.cons rfl (fun K hK => ?_) ?_
    · skip
      refine step_load_T rfl (.tmp 4) rfl w2.heap.size rfl ca (show W.drew.heap[w2.heap.size]? = _ from HW.out) Hcs.out.1 ?_
      refine hK _ _ ?_; clear hK K
      refine wpAny_ready (rs := [1]) (by kernel_rfl) (by simp) ?_
      refine AllReady.cons rfl (fun K hK => ?_) ?_
      · skip
        refine step_load_T rfl (.tmp 4) rfl w2.heap.size rfl ca (show W.drew.heap[w2.heap.size]? = _ from HW.out) Hcs.out.1 ?_
        refine hK _ _ ?_; clear hK K
        refine wpAny_ready (rs := [4]) (by kernel_rfl) (by simp) ?_
        refine AllReady.cons rfl (fun K hK => ?_) ?_
        · skip
          go_simp
          refine (Hsp.out _).mono ?_
          rintro e w5 ⟨rfl, b5⟩
          have HW5 := Lib.hid ((b5.block w2.heap.size hgs).trans HW.out)
          have B5 := Lib.hid (Bd.out.trans (b5.mono Bd.out.size))
          go_simp
          refine hK _ _ ?_; clear hK K
          refine wpAny_ready (rs := [5]) (by kernel_rfl) (by simp) ?_
          refine AllReady.cons rfl (fun K hK => ?_) ?_
          · skip
            refine step_eql_T rfl (.tmp 10) (.tmp 14) _ rfl ca cs rfl rfl b (Heq.out _) ?_
            refine hK _ _ ?_; clear hK K
            refine wpAny_ready (rs := [6]) (by kernel_rfl) (by simp) ?_
            refine AllReady.cons rfl (fun K hK => ?_) ?_
            · skip
              go_simp
              refine hK _ _ ?_; clear hK K
              refine wpAny_ready (rs := [7]) (by kernel_rfl) (by simp) ?_
              refine AllReady.cons rfl (fun K hK => ?_) ?_
              · skip
                go_simp
                refine hK _ _ ?_; clear hK K
                refine wpAny_done (by kernel_rfl) ?_ _
                go_wp2
                go_ret2
                exact ⟨rfl, B5.out⟩
              exact AllReady.nil
            exact AllReady.nil
          exact AllReady.nil
        exact AllReady.nil
      exact AllReady.nil
    refine AllReady.cons rfl (fun K hK => ?_) ?_
    · skip
      refine step_load_T rfl (.tmp 4) rfl w2.heap.size rfl ca (show W.drew.heap[w2.heap.size]? = _ from HW.out) Hcs.out.1 ?_
      refine hK _ _ ?_; clear hK K
      refine wpAny_ready (rs := [0, 4]) (by kernel_rfl) (by simp) ?_
      refine AllReady.cons rfl (fun K hK => ?_) ?_
      · skip
        refine step_load_T rfl (.tmp 4) rfl w2.heap.size rfl ca (show W.drew.heap[w2.heap.size]? = _ from HW.out) Hcs.out.1 ?_
        refine hK _ _ ?_; clear hK K
        refine wpAny_ready (rs := [4]) (by kernel_rfl) (by simp) ?_
        refine AllReady.cons rfl (fun K hK => ?_) ?_
        · skip
          go_simp
          refine (Hsp.out _).mono ?_
          rintro e w5 ⟨rfl, b5⟩
          have HW5 := Lib.hid ((b5.block w2.heap.size hgs).trans HW.out)
          have B5 := Lib.hid (Bd.out.trans (b5.mono Bd.out.size))
          go_simp
          refine hK _ _ ?_; clear hK K
          refine wpAny_ready (rs := [5]) (by kernel_rfl) (by simp) ?_
          refine AllReady.cons rfl (fun K hK => ?_) ?_
          · skip
            refine step_eql_T rfl (.tmp 10) (.tmp 14) _ rfl ca cs rfl rfl b (Heq.out _) ?_
            refine hK _ _ ?_; clear hK K
            refine wpAny_ready (rs := [6]) (by kernel_rfl) (by simp) ?_
            refine AllReady.cons rfl (fun K hK => ?_) ?_
            · skip
              go_simp
              refine hK _ _ ?_; clear hK K
              refine wpAny_ready (rs := [7]) (by kernel_rfl) (by simp) ?_
              refine AllReady.cons rfl (fun K hK => ?_) ?_
              · skip
                go_simp
                refine hK _ _ ?_; clear hK K
                refine wpAny_done (by kernel_rfl) ?_ _
                go_wp2
                go_ret2
                exact ⟨rfl, B5.out⟩
              exact AllReady.nil
            exact AllReady.nil
          exact AllReady.nil
        exact AllReady.nil
      refine AllReady.cons rfl (fun K hK => ?_) ?_
      · skip
        go_simp
        refine (Hsp.out _).mono ?_
        rintro e w5 ⟨rfl, b5⟩
        have HW5 := Lib.hid ((b5.block w2.heap.size hgs).trans HW.out)
        have B5 := Lib.hid (Bd.out.trans (b5.mono Bd.out.size))
        go_simp
        refine hK _ _ ?_; clear hK K
        refine wpAny_ready (rs := [0]) (by kernel_rfl) (by simp) ?_
        refine AllReady.cons rfl (fun K hK => ?_) ?_
        · skip
          refine step_load_T rfl (.tmp 4) rfl w2.heap.size rfl ca HW5.out Hcs.out.1 ?_
          refine hK _ _ ?_; clear hK K
          refine wpAny_ready (rs := [5]) (by kernel_rfl) (by simp) ?_
          refine AllReady.cons rfl (fun K hK => ?_) ?_
          · skip
            refine step_eql_T rfl (.tmp 10) (.tmp 14) _ rfl ca cs rfl rfl b (Heq.out _) ?_
            refine hK _ _ ?_; clear hK K
            refine wpAny_ready (rs := [6]) (by kernel_rfl) (by simp) ?_
            refine AllReady.cons rfl (fun K hK => ?_) ?_
            · skip
              go_simp
              refine hK _ _ ?_; clear hK K
              refine wpAny_ready (rs := [7]) (by kernel_rfl) (by simp) ?_
              refine AllReady.cons rfl (fun K hK => ?_) ?_
              · skip
                go_simp
                refine hK _ _ ?_; clear hK K
                refine wpAny_done (by kernel_rfl) ?_ _
                go_wp2
                go_ret2
                exact ⟨rfl, B5.out⟩
              exact AllReady.nil
            exact AllReady.nil
          exact AllReady.nil
        exact AllReady.nil
      exact AllReady.nil
    exact AllReady.nil
end Go.Proofs.Ytkpililllihgcaa
