import Derived.Test.YtoapidcbmlnjcaaQ8
import Derived.Deep.RegionHeld3
import Derived.Deep.RegionLaw
namespace Go.Proofs.Ytoapidcbmlnjcaa
open Go.RowKit
set_option linter.unusedVariables false
set_option linter.unusedSimpArgs false

theorem good_more {bs : List (Int × Int)} {p x : Int} (h : goodL bs = true) (hl : bs.length ≤ 11) (hp : 2 ≤ p ∧ p ≤ 60) (hx : 0 ≤ x ∧ x < p) : goodL (bs ++ [(p, x)]) = true := by
  refine goodL_true (by rw [List.length_append, List.length_singleton]; omega) fun k hk => ?_
  rw [List.length_append, List.length_singleton] at hk
  by_cases hkl : k < bs.length
  · have h2 : okAt bs k = true := by
      simp only [goodL, Bool.and_eq_true, decide_eq_true_eq] at h
      exact h.2 k hkl
    rw [okAt] at h2 ⊢
    rwa [show evL (bs ++ [(p, x)]) k = evL bs k by simp [evL, List.getElem?_append, hkl], show reL (bs ++ [(p, x)]) k = reL bs k by simp [reL, List.getElem?_append, hkl]]
  · have e : k = bs.length := by omega
    subst e
    rw [okAt, show evL (bs ++ [(p, x)]) bs.length = p by simp [evL], show reL (bs ++ [(p, x)]) bs.length = x by simp [reL], okR_true]
    omega
/-- append(v, rs...) at a step of a region that draws its order; rs may be nil. -/
theorem step_app_rulesO {ops : Array Oper} {o : Oper} {a : Act} {K : Act → World → Prop} {Q : Exit → Act → World → Prop} {E : Prop} (w : World) (hgd : o.guard = none) (s x : Operand)
    (ho : o.op = .call { callee := .builtin .append, args := #[s, x], argTypes := #[26, 26] }) (B : Nat) (v : Value) (rs : List (Int × Int)) (hs : a.eval s = v) (hown : OwnR w B v rs) (A : Option Addr) (m c : Nat) (ss : List (Int × Int))
    (hx : a.eval x = .slice A m c) (hA : Rl w A ss) (hm : m = ss.length) (hl : rs.length + ss.length ≤ 1048576) (hB : B ≤ w.heap.size)
    (h : ∀ v' w', OwnR w' B v' (rs ++ ss) → w.grownBy w' v.ownBlock → K (a.put o.dst v') w') :
    if Region.wanted o (yielded ops a.tmps) = true then Oper.wp Try.prog o a w K Q else E := by
  subst hm
  cases A with
  | none =>
    have hs0 : ss = [] := by
      by_cases h0 : 0 < ss.length
      · obtain ⟨b, off, e, _⟩ := hA h0
        cases e
      · exact List.eq_nil_of_length_eq_zero (by omega)
    subst hs0
    have hw : Region.wanted o (yielded ops a.tmps) = true := by simp [Region.wanted, hgd]
    rw [if_pos hw]
    have hrun := run_app_noneR w o.type B v rs c hown
    unfold Oper.wp
    simp [execOp, ho, resolve, invoke, builtin, hs, hx, hrun, Result.andThen]
    exact h v w (by simpa using hown) ⟨rfl, rfl, rfl, Nat.le_refl _, fun _ _ _ => rfl⟩
  | some ad =>
    refine step_app_rules w hgd s x ho B v rs hs hown ad _ c ss hx rfl (fun j u hj => ?_) hl hB h
    have hl : j < (cellsR ss).length := (List.getElem?_eq_some_iff.1 hj).1
    rw [cellsR_length] at hl
    obtain ⟨b, off, e, _, hr⟩ := hA (by omega)
    cases e
    rw [Go.WideShapes.add_plain]
    have := cells_of_rules hr 0 ss.length (j := j) (u := u) (by simpa using hj)
    simpa using this
/-- append(v, r) at a step of a region that draws its order, when it is drawn already. -/
theorem step_app_ruleN {ops : Array Oper} {o : Oper} {a : Act} {K : Act → World → Prop} {Q : Exit → Act → World → Prop} {E : Prop} (w : World) (hgd : o.guard = none) (s x : Operand)
    (ho : o.op = .call { callee := .builtin .append, args := #[s, x], argTypes := #[26, 26] }) (B : Nat) (v : Value) (rs : List (Int × Int)) (hs : a.eval s = v) (hown : OwnR w B v rs) (e q : Int)
    (hx : a.eval x = .slice (some ⟨w.heap.size, 0, none⟩) 1 1) (hl : rs.length ≤ 1048576) (hB : B ≤ w.heap.size)
    (h : ∀ v' w', OwnR w' B v' (rs ++ [(e, q)]) → w.grownBy w' v.ownBlock → K (a.put o.dst v') w') :
    if Region.wanted o (yielded ops a.tmps) = true then Oper.wp Try.prog o a (w.alloc (.cells #[.int .i64 e, .int .i64 q] 59)) K Q else E := by
  obtain ⟨i0, hi, hz0, hz1, hz2⟩ := info_parts info_R
  refine step_append_lies _ hgd s x 26 ho B 59 i0 _ 2 16 Try.underlying26 hi hz0 hz1 hz2 rfl (by decide) v _ _ hs (World.ownsRow.alloc hown _) ⟨w.heap.size, 0, none⟩ 1 1 [.int .i64 e, .int .i64 q] hx rfl ?_ ?_ (by decide) (by unfold maxLen; omega) (by omega) (by simp; omega) _ rfl ?_
  · intro j u hj
    match j, hj with
    | 0, hj => simp at hj; subst hj; simp [Addr.add]
    | 1, hj => simp at hj; subst hj; simp [Addr.add]
    | j + 2, hj => simp at hj
  · intro u hu
    simp at hu
    rcases hu with rfl | rfl <;> rfl
  · intro g cap w' hown' hg _ _
    refine h _ w' ?_ ⟨hg.os, hg.tape, hg.output, Nat.le_trans (by simp) hg.size, fun i hi hn => (hg.block i (by simp; omega) hn).trans (Below.heap_alloc w _ i hi)⟩
    simpa [OwnR, cellsR, List.flatMap_append] using hown'
theorem own_formsR {w : World} {B : Nat} {v : Value} {rs : List (Int × Int)} (h : OwnR w B v rs) (hp : 0 < rs.length) : ∃ g n c, v = .slice (some ⟨g, 0, none⟩) n c ∧ n = rs.length ∧ B ≤ g ∧ g < w.heap.size := by
  rcases h.2 with ⟨e, h0⟩ | ⟨g, cap, cur, e, hB, hg, hle, _⟩
  · omega
  · exact ⟨g, _, cap, e, rfl, hB, (Array.getElem?_eq_some_iff.1 hg).1⟩
theorem Rl_grown {w w' : World} {row : Option Nat} (g : w.grownBy w' row) {A : Option Addr} {rs : List (Int × Int)} (h : Rl w A rs) (hne : ∀ b off, A = some ⟨b, off, none⟩ → row ≠ some b) : Rl w' A rs := fun hp => by
  obtain ⟨b, off, e, hb, hr⟩ := h hp
  exact ⟨b, off, e, Nat.lt_of_lt_of_le hb g.size, fun k hk => ⟨g.cell (hr k hk).1 (fun e2 => hne b off e e2.symm), g.cell (hr k hk).2 (fun e2 => hne b off e e2.symm)⟩⟩
theorem Rl_one {w : World} {g : Nat} {p x : Int} (hg : g < w.heap.size) (h0 : w.cell? ⟨g, 0, none⟩ = some (.int .i64 p)) (h1 : w.cell? ⟨g, 1, none⟩ = some (.int .i64 x)) : Rl w (some ⟨g, 0, none⟩) [(p, x)] := fun _ =>
  ⟨g, 0, rfl, hg, fun k hk => by
    have e : k = 0 := by simp at hk; omega
    subst e
    exact ⟨h0, h1⟩⟩
set_option maxRecDepth 100000 in
set_option maxHeartbeats 1600000 in
theorem gpLook_s (xs : List Int) (P : Option Addr) (cp M o l : Nat) (hM : M ≤ 40) (hx5 : xs.length ≤ 5) (hxs : ∀ i, i < xs.length → 2 ≤ ivL xs i ∧ ivL xs i ≤ 13) (IH : LookOk3 xs P cp M o l) : LookOk3 xs P cp M o (l + 1) := by
  intro w A c bs v ps T hP hPo hA hAo hlen hg h3 hT hTl
  obtain ⟨m, hm⟩ : ∃ m, bs.length = m := ⟨_, rfl⟩
  have hpm := hxs m (by omega)
  obtain ⟨p, hp⟩ : ∃ p : Nat, ivL xs m = (p : Int) := Int.eq_ofNat_of_zero_le (by omega)
  rw [hp] at hpm
  obtain ⟨N, hN⟩ : ∃ N, xs.length = N := ⟨_, rfl⟩
  have hmN : m < N := by omega
  obtain ⟨pb, po, rfl, hpb, hpr⟩ := hP (by omega)
  have hpc := hpr m (by omega)
  rw [hp] at hpc
  have hPo0 := hPo
  have hPo := hPo0 (by omega)
  have hPob := hPo pb po rfl
  have HP := Lib.hid hP
  have Hm := Lib.hid hm.symm
  have HN := Lib.hid hN.symm
  have Hg := Lib.hid hg
  have H3 := Lib.hid h3
  have HT : Hid (ps ++ cvX (cvN xs M l) bs (p : Int) p 0 = T) := by show _ = _; rw [← hT, cvN, hm, hp, Int.toNat_natCast]
  have hne : ((m : Int) == (N : Int)) = false := beq_eq_false_iff_ne.2 (by omega)
  have ho2 : o + 1 < w.heap.size := (Array.getElem?_eq_some_iff.1 h3.first).1
  have Hlen := Lib.hid hlen
  have hmI : (m : Int) < (N : Int) := by omega
  have hm5 : m ≤ 5 := by omega
  rw [hm, hN]
  clear hT h3 hg hpr hP hm hN hp hlen
  go_enter Try.func123, Try.ntmps123
  go_wp2
  go_loopw [11, 12] (fun xv _ wr => ∃ (x : Nat) (vr : Value) (pr : List (List (Int × Int))), xv = .int .i64 (x : Int) ∧ x ≤ p ∧ At3 wr o vr pr ∧ Hid (pr ++ cvX (cvN xs M l) bs (p : Int) (p - x) x = T) ∧ Kept3 w wr o) (fun xv _ _ => p - (intOf xv).toNat)
  case atStart => exact ⟨0, v, ps, rfl, Nat.zero_le _, H3.out, HT, Kept3.of_below (Below.refl _ _)⟩
  case round =>
    obtain ⟨x, vr, pr, rfl, hx9, h3r, HTr, hK⟩ := hrel
    have H3r := Lib.hid h3r
    have HK := Lib.hid hK
    have hsz := hK.size
    have hRr := Lib.hid (hK.rl hA hAo)
    have hIr := Lib.hid (hK.il HP.out hPo)
    have hcr := (hK.cell (off := po + m) hpb hPob.1 hPob.2).trans hpc
    have hor : o + 1 < wr.heap.size := Nat.lt_of_lt_of_le ho2 hsz
    clear h3r hK
    by_cases hlt : x < p
    · have hli : (x : Int) < (p : Int) := by omega
      have Hun : Hid (cvX (cvN xs M l) bs (p : Int) (p - x) x = cvN xs M l (bs ++ [((p : Int), (x : Int))]) ++ cvX (cvN xs M l) bs (p : Int) (p - (x + 1)) (x + 1)) := by
        show _ = _
        rw [show p - x = (p - (x + 1)) + 1 by omega, cvX]
      have B1 := Lib.hid (show Below wr.heap.size wr ((wr.alloc (.cells #[] 59)).drew) from below_drewN ((Below.refl wr.heap.size wr).alloc (Nat.le_refl _) _) 1)
      have B2 := Lib.hid (show Below wr.heap.size wr (((wr.alloc (.cells #[] 59)).alloc (.cells #[.int .i64 (p : Int), .int .i64 (x : Int)] 59)).drew) from below_drewN (((Below.refl wr.heap.size wr).alloc (Nat.le_refl _) _).alloc (by simp) _) 1)
      have B3 := Lib.hid (show Below wr.heap.size wr (((wr.alloc (.cells #[.int .i64 (p : Int), .int .i64 (x : Int)] 59)).alloc (.cells #[] 59)).drew) from below_drewN (((Below.refl wr.heap.size wr).alloc (Nat.le_refl _) _).alloc (by simp) _) 1)
      have hR1 := Lib.hid (hRr.out.below B1.out)
      have hR2 := Lib.hid (hRr.out.below B2.out)
      have hR3 := Lib.hid (hRr.out.below B3.out)
      have O1 := Lib.hid (own_empty wr)
      have O2 := Lib.hid (show OwnR (((wr.alloc (.cells #[] 59)).alloc (.cells #[.int .i64 (p : Int), .int .i64 (x : Int)] 59)).drew) wr.heap.size (.slice (some ⟨wr.heap.size, 0, none⟩) 0 0) [] from World.ownsRow.drew (World.ownsRow.alloc (own_empty0 wr) _))
      have O3 := Lib.hid (show OwnR (((wr.alloc (.cells #[.int .i64 (p : Int), .int .i64 (x : Int)] 59)).alloc (.cells #[] 59)).drew) wr.heap.size (.slice (some ⟨wr.heap.size + 1, 0, none⟩) 0 0) [] from by
        have h := own_empty (wr.alloc (.cells #[.int .i64 (p : Int), .int .i64 (x : Int)] 59))
        rw [World.size_alloc] at h
        exact OwnR.mono h (Nat.le_succ _))
      have P2 := Lib.hid (show Rl (((wr.alloc (.cells #[] 59)).alloc (.cells #[.int .i64 (p : Int), .int .i64 (x : Int)] 59)).drew) (some ⟨wr.heap.size + 1, 0, none⟩) [((p : Int), (x : Int))] from Rl_one (by simp) (by
        have h := heap_alloc_new (wr.alloc (.cells #[] 59)) (.cells #[.int .i64 (p : Int), .int .i64 (x : Int)] 59)
        rw [World.size_alloc] at h
        exact cell_of_row (((wr.alloc (.cells #[] 59)).alloc (.cells #[.int .i64 (p : Int), .int .i64 (x : Int)] 59)).drew) (wr.heap.size + 1) 0 _ _ _ h) (by
        have h := heap_alloc_new (wr.alloc (.cells #[] 59)) (.cells #[.int .i64 (p : Int), .int .i64 (x : Int)] 59)
        rw [World.size_alloc] at h
        exact cell_of_row (((wr.alloc (.cells #[] 59)).alloc (.cells #[.int .i64 (p : Int), .int .i64 (x : Int)] 59)).drew) (wr.heap.size + 1) 1 _ _ _ h))
      have P3 := Lib.hid (show Rl (((wr.alloc (.cells #[.int .i64 (p : Int), .int .i64 (x : Int)] 59)).alloc (.cells #[] 59)).drew) (some ⟨wr.heap.size, 0, none⟩) [((p : Int), (x : Int))] from by
        have h := heap_alloc_new wr (.cells #[.int .i64 (p : Int), .int .i64 (x : Int)] 59)
        have h2 := (((Below.refl (wr.alloc (.cells #[.int .i64 (p : Int), .int .i64 (x : Int)] 59)).heap.size (wr.alloc (.cells #[.int .i64 (p : Int), .int .i64 (x : Int)] 59))).alloc (Nat.le_refl _) (.cells #[] 59)).block wr.heap.size (by simp)).trans h
        exact Rl_one (by simp; omega) (cell_of_row (((wr.alloc (.cells #[.int .i64 (p : Int), .int .i64 (x : Int)] 59)).alloc (.cells #[] 59)).drew) wr.heap.size 0 _ _ _ h2) (cell_of_row (((wr.alloc (.cells #[.int .i64 (p : Int), .int .i64 (x : Int)] 59)).alloc (.cells #[] 59)).drew) wr.heap.size 1 _ _ _ h2))
      have hpbr : pb < wr.heap.size := Nat.lt_of_lt_of_le hpb hsz
      have hbl := Lib.hid (show bs.length ≤ 1048576 by have := Hm.out; omega)
      go_wp2_with fail
      go_region_held3 (fun w' => w'.cell? ⟨pb, po + m, none⟩ = some (.int .i64 (p : Int))) (go_keep) (first | (refine step_app_rulesO _ (by rfl) _ _ (by rfl) wr.heap.size _ [] (by rfl) O1.out _ _ _ bs (by rfl) hR1.out Hm.out (by have := Hm.out; simp; omega) B1.out.size ?_; intro v5 w5 o5 g5; have b5 := B1.out.trans (below_of_grown g5 B1.out.size (by intro q hq; simp [Value.ownBlock] at hq; omega)); have hs5 := b5.size; have q5 := (b5.cell (p := ⟨pb, po + m, none⟩) hpbr).trans hcr; rw [List.nil_append] at o5) | (refine step_app_rulesO _ (by rfl) _ _ (by rfl) wr.heap.size _ [] (by rfl) O2.out _ _ _ bs (by rfl) hR2.out Hm.out (by have := Hm.out; simp; omega) B2.out.size ?_; intro v5 w5 o5 g5; have b5 := B2.out.trans (below_of_grown g5 B2.out.size (by intro q hq; simp [Value.ownBlock] at hq; omega)); have hs5 := b5.size; have q5 := (b5.cell (p := ⟨pb, po + m, none⟩) hpbr).trans hcr; rw [List.nil_append] at o5; have Hp5 := Lib.hid (Rl_grown g5 P2.out (by intro b off e; cases e; simp [Value.ownBlock]))) | (refine step_app_rulesO _ (by rfl) _ _ (by rfl) wr.heap.size _ [] (by rfl) O3.out _ _ _ bs (by rfl) hR3.out Hm.out (by have := Hm.out; simp; omega) B3.out.size ?_; intro v5 w5 o5 g5; have b5 := B3.out.trans (below_of_grown g5 B3.out.size (by intro q hq; simp [Value.ownBlock] at hq; omega)); have hs5 := b5.size; have q5 := (b5.cell (p := ⟨pb, po + m, none⟩) hpbr).trans hcr; rw [List.nil_append] at o5; have Hp5 := Lib.hid (Rl_grown g5 P3.out (by intro b off e; cases e; simp [Value.ownBlock]))) | (refine step_app_ruleN w5 (by rfl) _ _ (by rfl) wr.heap.size v5 bs (by rfl) o5 (p : Int) (x : Int) (by rfl) hbl.out hs5 ?_; intro v6 w6 o6 g6; have q6 := g6.cell q5 (fun e => by have := (World.ownsRow.lt o5 _ e.symm).1; simp at this; omega); have b6 := b5.trans (below_of_grown g6 hs5 fun q hq => (World.ownsRow.lt o5 q hq).1)) | (refine step_app_rulesO _ (by rfl) _ _ (by rfl) wr.heap.size v5 bs (by rfl) o5 _ _ _ [((p : Int), (x : Int))] (by rfl) Hp5.out (by rfl) (by have := Hm.out; simp; omega) hs5 ?_; intro v6 w6 o6 g6; have q6 := g6.cell q5 (fun e => by have := (World.ownsRow.lt o5 _ e.symm).1; simp at this; omega); have b6 := b5.trans (below_of_grown g6 hs5 fun q hq => (World.ownsRow.lt o5 q hq).1)))
      all_goals (
        have hwl : (bs ++ [((p : Int), (x : Int))]).length = m + 1 := by rw [List.length_append, List.length_singleton, ← Hm.out]
        obtain ⟨g, n6, c6, rfl, hn6, hg1, hg2⟩ := own_formsR o6 (by omega)
        have hRl6 := Lib.hid (show Rl w6 (some ⟨g, 0, none⟩) (bs ++ [((p : Int), (x : Int))]) from by have h := o6; rw [hn6] at h; exact Rl_of_own' h)
        rw [hwl] at hn6
        subst hn6
        have h6 := Lib.hid (H3r.out.below b6)
        have K6 := Lib.hid (HK.out.trans (Kept3.of_below b6))
        have HT6 : Hid ((pr ++ cvN xs M l (bs ++ [((p : Int), (x : Int))])) ++ cvX (cvN xs M l) bs (p : Int) (p - (x + 1)) (x + 1) = T) := by
          show _ = _
          rw [← HTr.out, Hun.out, List.append_assoc]
        have hlk := IH w6 (some ⟨g, 0, none⟩) c6 (bs ++ [((p : Int), (x : Int))]) vr pr _ (hIr.out.below b6) (fun _ => hPo) hRl6.out (fun b off e => by cases e; omega) (by have := Hlen.out; have := Hm.out; omega) (good_more Hg.out (by have := Hm.out; omega) (by omega) (by omega)) h6.out rfl (by have h := congrArg List.length HT6.out; rw [List.length_append] at h; omega)
        rw [hwl, ← HN.out] at hlk
        have Hlk := Lib.hid hlk
        clear hlk hwl o6
        go_wp2_with fail
        refine Hlk.out.mono ?_
        rintro e w8 ⟨rfl, v8, h8, k8⟩
        go_wp2
        go_roundw
        case rel => exact ⟨x + 1, v8, _, by go_num, by omega, h8, HT6, K6.out.trans k8⟩
        case measure => simp [intOf]; omega)
    · have Hx : Hid (x = p) := by show _ = _; omega
      have HT7 : Hid (pr = T) := by
        show _ = _
        rw [← HTr.out, show p - x = 0 by omega, cvX, List.append_nil]
      have hli : (p : Int) ≤ (x : Int) := by omega
      go_wp2
      try simp only [Exit.inBlock, Exit.then]
      refine bodyPost_end (results_none rfl _ _ _) rfl ?_
      exact ⟨rfl, vr, by rw [← HT7.out]; exact H3r.out, HK.out⟩

end Go.Proofs.Ytoapidcbmlnjcaa
