import Derived.Test.YtapjbppkekigaabY2
import Derived.Test.YtapjbppkekigaabE7
import Derived.Test.YtapjbppkekigaabN1
import Derived.Test.YtapjbppkekigaabU1
import Derived.Maps.AppendAt
namespace Go.Proofs.Ytapjbppkekigaab
open Go.RowKit
set_option linter.unusedVariables false
set_option linter.unusedSimpArgs false

theorem own_one (w : World) (B : Nat) (hB : B ≤ w.heap.size) (x : Int) : OwnI (w.alloc (.cells #[.int .i64 x] 3)) B (.slice (some ⟨w.heap.size, 0, none⟩) 1 1) [x] :=
  OwnI.mono (World.ownsRow_lit w #[.int .i64 x] 1 (Nat.le_refl _) (by unfold maxLen; omega) rfl : (w.alloc (.cells #[.int .i64 x] 3)).ownsRow w.heap.size 3 1 _ 1 _) hB
theorem grow_none {w w' : World} {o : Obj} (hg : (w.alloc o).grownBy w' (some w.heap.size)) : w.grownBy w' none :=
  ⟨hg.os, hg.tape, hg.output, Nat.le_trans (by simp) hg.size, fun i hi _ => (hg.block i (by simp; omega) (by simp; omega)).trans (Below.heap_alloc w o i hi)⟩
theorem OwnI.kept_none {w w' : World} {B : Nat} {v : Value} {xs : List Int} (h : OwnI w B v xs) (hg : w.grownBy w' none) : OwnI w' B v xs :=
  World.ownsRow.kept h hg (by
    rcases h.2 with ⟨rfl, _⟩ | ⟨g, cap, cur, rfl, _⟩
    · exact .inl rfl
    · exact .inr (by simp [Value.ownBlock]))

theorem OwnI.kept_ap {w w' : World} {B : Nat} {v : Value} {xs : List Int} {row : Option Nat} (h : OwnI w B v xs) (hg : w.grownBy w' row) (hr : v.ownBlock = none ∨ v.ownBlock ≠ row) : OwnI w' B v xs := World.ownsRow.kept h hg hr
theorem own_apart {w : World} {B : Nat} {lo hi : Value} {ys : List Int} (h : OwnI w B hi ys) (ha : ∀ q, lo.ownBlock = some q → hi.ownBlock ≠ some q) : hi.ownBlock = none ∨ hi.ownBlock ≠ lo.ownBlock := by
  rcases h.2 with ⟨rfl, _⟩ | ⟨g, cap, cur, rfl, _⟩
  · exact .inl rfl
  · exact .inr fun e => ha g (by rw [← e]; rfl) rfl
theorem ap_grow {w : World} {B : Nat} {lo lo' hi : Value} {ys : List Int} (h : OwnI w B hi ys) (ha : ∀ q, lo.ownBlock = some q → hi.ownBlock ≠ some q) (hl : lo'.ownBlock = lo.ownBlock ∨ ∃ k, w.heap.size ≤ k ∧ lo'.ownBlock = some k) : ∀ q, lo'.ownBlock = some q → hi.ownBlock ≠ some q := by
  intro q hq e
  rcases hl with h1 | ⟨k, h1, h2⟩
  · exact ha q (by rw [← h1]; exact hq) e
  · rw [h2] at hq
    injection hq with hq
    subst hq
    have := (World.ownsRow.lt h k e).2
    omega
theorem ap_pre {w : World} {B : Nat} {lo hi' : Value} {xs : List Int} (h : OwnI w B lo xs) (hl : ∃ k, w.heap.size ≤ k ∧ hi'.ownBlock = some k) : ∀ q, lo.ownBlock = some q → hi'.ownBlock ≠ some q := by
  intro q hq e
  obtain ⟨k, h1, h2⟩ := hl
  rw [h2] at e
  injection e with e
  subst e
  have := (World.ownsRow.lt h k hq).2
  omega

/-- append([]int{q}, u...), u a row of the call's own or nil. -/
theorem wp_app_pre {ops : Array Oper} {rest : List Oper} {o : Oper} {a : Act} {Q : Exit → Act → World → Prop} (w : World) (hgd : o.guard = none) (s x : Operand)
    (ho : o.op = .call { callee := .builtin .append, args := #[s, x], argTypes := #[25, 25] }) (B : Nat) (q : Int) (hs : a.eval s = .slice (some ⟨w.heap.size, 0, none⟩) 1 1) (u : Value) (ys : List Int) (hu : OwnI w B u ys) (hx : a.eval x = u)
    (hl : ys.length ≤ 1000000) (hB : B ≤ w.heap.size)
    (h : ∀ v' w', OwnI w' B v' (q :: ys) → w.grownBy w' none → (∃ k, w.heap.size ≤ k ∧ v'.ownBlock = some k) → wpList Try.prog ops Q rest (a.put o.dst v') w') : wpList Try.prog ops Q (o :: rest) a (w.alloc (.cells #[.int .i64 q] 3)) := by
  have hone := own_one w B hB q
  rcases hu.2 with ⟨hnil, h0⟩ | ⟨g, cap, cur, e1, e2, e3, e4, e5, e6, e7⟩
  · have hys : ys = [] := List.eq_nil_of_length_eq_zero h0
    subst hys hnil
    exact wp_app_noneI _ hgd s x ho B _ [q] hs hone 0 hx (h _ _ hone (World.grownBy_alloc w _ none) ⟨_, Nat.le_refl _, rfl⟩)
  · subst e1
    obtain ⟨i0, hi, hz0, hz1, hz2⟩ := info_parts info_I
    have hgw : g < w.heap.size := (Array.getElem?_eq_some_iff.1 e3).1
    have hat := IsAt.below (IsAt_of_own hu) hgw ((Below.refl w.heap.size w).alloc (Nat.le_refl _) (.cells #[.int .i64 q] 3))
    refine wpList_append_own_at _ hgd s x 25 ho B 3 i0 _ 1 8 Try.underlying25 hi hz0 hz1 hz2 rfl (by decide) _ _ _ hs hone ⟨g, 0, none⟩ ys.length cap (ys.map (Value.int .i64)) hx (by simp) hat.news (one_ints ys) (by unfold maxLen; simp; omega) (by simp; omega) (by simp; omega) ?_
    intro v' w' hown' hg _ hlie
    refine h v' w' ?_ (grow_none hg) ?_
    · have : 1 + ys.length = (q :: ys).length := by simp; omega
      have h2 := hown'
      simp only [List.length_cons, List.length_nil, Nat.zero_add] at h2
      rw [this] at h2
      exact h2
    · rcases hlie with e | e
      · exact ⟨w.heap.size, Nat.le_refl _, e⟩
      · exact ⟨_, by simp, e⟩
/-- append(v, y), and where it lies then. -/
theorem wp_app_intL {ops : Array Oper} {rest : List Oper} {o : Oper} {a : Act} {Q : Exit → Act → World → Prop} (w : World) (hgd : o.guard = none) (s x : Operand)
    (ho : o.op = .call { callee := .builtin .append, args := #[s, x], argTypes := #[25, 25] }) (B : Nat) (v : Value) (xs : List Int) (hs : a.eval s = v) (hown : OwnI w B v xs) (y : Int)
    (hx : a.eval x = .slice (some ⟨w.heap.size, 0, none⟩) 1 1) (hl : xs.length ≤ 1048576) (hB : B ≤ w.heap.size)
    (h : ∀ v' w', OwnI w' B v' (xs ++ [y]) → w.grownBy w' v.ownBlock → (v'.ownBlock = v.ownBlock ∨ ∃ k, w.heap.size ≤ k ∧ v'.ownBlock = some k) → wpList Try.prog ops Q rest (a.put o.dst v') w') : wpList Try.prog ops Q (o :: rest) a (w.alloc (.cells #[.int .i64 y] 3)) := by
  obtain ⟨i0, hi, hz0, hz1, hz2⟩ := info_parts info_I
  refine wpList_append_own_at _ hgd s x 25 ho B 3 i0 _ 1 8 Try.underlying25 hi hz0 hz1 hz2 rfl (by decide) v _ _ hs (World.ownsRow.alloc hown _) ⟨w.heap.size, 0, none⟩ 1 1 [.int .i64 y] hx rfl (cell_one_new _ _ _) (by simp [Value.oneCell']) (by unfold maxLen; omega) (by omega) (by simp; omega) ?_
  intro v' w' hown' hg _ hlie
  refine h v' w' ?_ ((World.grownBy_alloc w _ _).trans hg) ?_
  · simpa [OwnI, List.map_append] using hown'
  · rcases hlie with e | e
    · exact .inl e
    · exact .inr ⟨_, by simp, e⟩

set_option maxRecDepth 100000 in
set_option maxHeartbeats 1600000 in
theorem dvList_c (w : World) (N : Nat) (h1 : 1 ≤ N) (h9 : N ≤ 4000000000) :
    Calls Try.prog 32 #[.int .i64 (N : Int)] w fun en w' => (∃ v, en = .returned v ∧ OwnI w' w.heap.size v (dvD N)) ∧ Below w.heap.size w w' := by
  have hrt := sq_lt_of (rtF_parts N).1 (show N < 63246 * 63246 by omega)
  have HD := Lib.hid (dvD_split h1)
  obtain ⟨T, hT⟩ : ∃ T, rtF N = T := ⟨_, rfl⟩
  have HT := Lib.hid hT
  rw [hT] at hrt HD
  clear hT
  go_enter Try.func32, Try.ntmps32
  go_wp2
  go_loopw [3, 4, 5] (fun lo hi d wr => ∃ k : Nat, k ≤ T ∧ d = .int .i64 ((k : Int) + 1) ∧ OwnI wr w.heap.size lo (flF (dvP N) 1 k) ∧ OwnI wr w.heap.size hi (hiF N k) ∧ (∀ q, lo.ownBlock = some q → hi.ownBlock ≠ some q) ∧ Below w.heap.size w wr) (fun _ _ d _ => 63248 - (intOf d).toNat)
  case atStart => exact ⟨0, Nat.zero_le _, rfl, OwnI.nil _ _, OwnI.nil _ _, fun q h => by simp [Value.ownBlock] at h, Below.refl _ _⟩
  case round =>
    rename_i lo hi
    obtain ⟨k, hk, rfl, hlo, hhi, hap, hbel⟩ := hrel
    have hs := hbel.size
    have Hlo := Lib.hid hlo
    have Hhi := Lib.hid hhi
    have Hap := Lib.hid hap
    have Hll := Lib.hid (show (flF (dvP N) 1 k).length ≤ 70000 by have := flF_len (dvP N) 1 k; omega)
    have Hlh := Lib.hid (show (hiF N k).length ≤ 70000 by have := hiF_len N k; omega)
    clear hlo hhi hap
    obtain ⟨D, hD⟩ : ∃ D, (k + 1) * (k + 1) = D := ⟨_, rfl⟩
    have hDi : ((k : Int) + 1) * ((k : Int) + 1) = (D : Int) := cast_sq hD
    have hD9 : D ≤ 4000056516 := by have := Nat.mul_le_mul (show k + 1 ≤ 63246 by omega) (show k + 1 ≤ 63246 by omega); omega
    have HDD := Lib.hid hD
    have hz : (((k : Int) + 1) == 0) = false := beq_eq_false_iff_ne.2 (by omega)
    clear hD
    by_cases hlt : D ≤ N
    · have hk2 : k + 1 ≤ T := by
        rw [← HT.out]
        rcases Nat.lt_or_ge (rtF N) (k + 1) with h2 | h2
        · have h3 := Nat.mul_le_mul h2 h2
          have h4 := (rtF_parts N).2
          have := HDD.out
          simp only [Nat.succ_eq_add_one] at h3
          omega
        · exact h2
      by_cases hm : N % (k + 1) = 0
      · have hm2 : ((N : Int) % ((k : Int) + 1) == 0) = true := by rw [show (k : Int) + 1 = ((k + 1 : Nat) : Int) by omega, ← Int.natCast_emod, hm]; rfl
        have Hy := Lib.hid (loF_yes hm)
        obtain ⟨Y, hY⟩ : ∃ Y, N / (k + 1) = Y := ⟨_, rfl⟩
        have hYi : (N : Int) / ((k : Int) + 1) = (Y : Int) := by rw [← hY, Int.natCast_ediv]; rfl
        have hY9 : Y ≤ N := by rw [← hY]; exact Nat.div_le_self _ _
        by_cases hd : D < N
        · have Hz := Lib.hid (show hiF N (k + 1) = (Y : Int) :: hiF N k by rw [hiF_yes hm (by rw [HDD.out]; exact hd), hY])
          clear hm hY
          go_wp2_with (first | (at_builtin; refine wp_app_intL _ rfl _ _ rfl w.heap.size _ _ rfl Hlo.out _ rfl (by have := Hll.out; omega) hs ?_; intro lo' w3 olo3 g3 lie3; have s3 := g3.size; have hs3 := Nat.le_trans hs s3; have ohi3 := OwnI.kept_ap Hhi.out g3 (own_apart Hhi.out Hap.out); have Olo3 := Lib.hid olo3; have Ohi3 := Lib.hid ohi3; have Hap3 := Lib.hid (ap_grow Hhi.out Hap.out lie3); have b3 := hbel.trans (below_of_grown g3 hs (fun z hz => (World.ownsRow.lt Hlo.out z hz).1)); clear olo3 ohi3) | (at_builtin; refine wp_app_pre _ rfl _ _ rfl w.heap.size _ rfl _ _ Ohi3.out rfl (by have := Hlh.out; omega) hs3 ?_; intro hi' w4 ohi4 g4 lie4; have olo4 := OwnI.kept_none Olo3.out g4; have b4 := b3.trans (below_of_grown g4 hs3 (fun z hz => by simp at hz)); have Olo4 := Lib.hid olo4; have Ohi4 := Lib.hid ohi4; have Hap4 := Lib.hid (ap_pre Olo3.out lie4); clear olo4 ohi4) | fail)
          go_roundw
          case rel => exact ⟨k + 1, hk2, by go_num, by rw [Hy.out]; exact Olo4.out, by rw [Hz.out]; exact Ohi4.out, Hap4.out, b4⟩
          case measure => simp [intOf]; omega
        · have Hz := Lib.hid (show hiF N (k + 1) = hiF N k from hiF_no (fun h => hd (by rw [← HDD.out]; exact h.2)))
          clear hm hY
          go_wp2_with (first | (at_builtin; refine wp_app_intL _ rfl _ _ rfl w.heap.size _ _ rfl Hlo.out _ rfl (by have := Hll.out; omega) hs ?_; intro lo' w3 olo3 g3 lie3; have ohi3 := OwnI.kept_ap Hhi.out g3 (own_apart Hhi.out Hap.out); have Olo3 := Lib.hid olo3; have Ohi3 := Lib.hid ohi3; have Hap3 := Lib.hid (ap_grow Hhi.out Hap.out lie3); have b3 := hbel.trans (below_of_grown g3 hs (fun z hz => (World.ownsRow.lt Hlo.out z hz).1)); clear olo3 ohi3) | fail)
          go_roundw
          case rel => exact ⟨k + 1, hk2, by go_num, by rw [Hy.out]; exact Olo3.out, by rw [Hz.out]; exact Ohi3.out, Hap3.out, b3⟩
          case measure => simp [intOf]; omega
      · have hm2 : ((N : Int) % ((k : Int) + 1) == 0) = false := by rw [show (k : Int) + 1 = ((k + 1 : Nat) : Int) by omega, ← Int.natCast_emod]; exact beq_eq_false_iff_ne.2 (by omega)
        have Hy := Lib.hid (loF_no hm)
        have Hz := Lib.hid (show hiF N (k + 1) = hiF N k from hiF_no (fun h => hm h.1))
        clear hm
        go_wp2
        go_roundw
        case rel => exact ⟨k + 1, hk2, by go_num, by rw [Hy.out]; exact Hlo.out, by rw [Hz.out]; exact Hhi.out, Hap.out, hbel⟩
        case measure => simp [intOf]; omega
    · have Hk := Lib.hid (show k = T by
        rcases Nat.lt_or_ge k T with h2 | h2
        · have h3 := Nat.mul_le_mul h2 h2
          have h4 := (rtF_parts N).1
          have := HDD.out
          rw [HT.out] at h4
          simp only [Nat.succ_eq_add_one] at h3
          omega
        · omega)
      have HE : Hid (flF (dvP N) 1 k ++ hiF N k = dvD N) := by show _ = _; rw [Hk.out]; exact HD.out
      rcases Hhi.out.2 with ⟨hnil, h0⟩ | ⟨g, cap, cur, e1, e2, e3, -⟩
      · have hys : hiF N k = [] := List.eq_nil_of_length_eq_zero h0
        subst hnil
        have HF : Hid (flF (dvP N) 1 k = dvD N) := by show _ = _; rw [← HE.out, hys, List.append_nil]
        clear hys h0
        go_wp2_with (at_builtin; refine wp_app_noneI _ rfl _ _ rfl w.heap.size _ _ rfl Hlo.out _ rfl ?_)
        go_ret
        exact ⟨⟨_, rfl, by rw [← HF.out]; exact Hlo.out⟩, hbel⟩
      · subst e1
        have Hat := Lib.hid (IsAt_of_own Hhi.out)
        clear e2 e3
        go_wp2_with (at_builtin; refine wp_app_ints _ rfl _ _ rfl w.heap.size _ _ rfl Hlo.out g 0 _ _ (hiF N k) rfl rfl Hat.out (by have := Hll.out; have := Hlh.out; omega) hs ?_; intro v2 w4 o2 g2; have b2 := hbel.trans (below_of_grown g2 hs (fun z hz => (World.ownsRow.lt Hlo.out z hz).1)); have O2 := Lib.hid o2; clear o2)
        go_ret
        exact ⟨⟨_, rfl, by rw [← HE.out]; exact O2.out⟩, b2⟩

end Go.Proofs.Ytapjbppkekigaab
