import Derived.Test.YtaapfapejekkfaaN0
namespace Go.Proofs.Ytaapfapejekkfaa
open Go.RowKit
set_option linter.unusedVariables false
set_option linter.unusedSimpArgs false

theorem run_app_noneI (w : World) (ty : TypeId) (B : Nat) (v : Value) (xs : List Int) (c : Nat) (hown : OwnI w B v xs) :
    (Builtin.append_ #[48, 48] ty #[v, .slice none 0 c]).run Try.prog w = .ok v w := by
  obtain ⟨i, hi, hz0, hz1, hz2⟩ := info_parts info_I
  rcases hown.2 with ⟨rfl, h0⟩ | ⟨g, cap, cur, rfl, _, _, hnc, _⟩
  · simp [Builtin.append_, run_underlying Try.underlying48, sizeOf, typeInfo, hi, Builtin.lenOf, Builtin.firstCells]
  · simp [Builtin.append_, run_underlying Try.underlying48, sizeOf, typeInfo, hi, Builtin.lenOf, Builtin.firstCells, hnc, storeCells]
/-- append(v, nil...), v a row of ints that the call owns. -/
theorem wp_app_noneI {ops : Array Oper} {rest : List Oper} {o : Oper} {a : Act} {Q : Exit → Act → World → Prop} (w : World) (hgd : o.guard = none) (s x : Operand)
    (ho : o.op = .call { callee := .builtin .append, args := #[s, x], argTypes := #[48, 48] }) (B : Nat) (v : Value) (xs : List Int) (hs : a.eval s = v) (hown : OwnI w B v xs) (c : Nat) (hx : a.eval x = .slice none 0 c)
    (h : wpList Try.prog ops Q rest (a.put o.dst v) w) : wpList Try.prog ops Q (o :: rest) a w := by
  refine wpList_plain hgd fun K hK => ?_
  have hrun := run_app_noneI w o.type B v xs c hown
  unfold Oper.wp
  simp [execOp, ho, resolve, invoke, builtin, hs, hx, hrun, Result.andThen]
  exact hK _ _ h
/-- append(v, y), y and the world first. -/
theorem wp_app_intY {ops : Array Oper} {rest : List Oper} {o : Oper} {a : Act} {Q : Exit → Act → World → Prop} (y : Int) (w : World) (hgd : o.guard = none) (s x : Operand)
    (ho : o.op = .call { callee := .builtin .append, args := #[s, x], argTypes := #[48, 48] }) (B : Nat) (v : Value) (xs : List Int) (hs : a.eval s = v) (hown : OwnI w B v xs)
    (g : Nat) (hx : a.eval x = .slice (some ⟨g, 0, none⟩) 1 1) (hg : g = w.heap.size) (hl : xs.length ≤ 1048576) (hB : B ≤ w.heap.size)
    (h : ∀ v' w', OwnI w' B v' (xs ++ [y]) → Below B w w' → wpList Try.prog ops Q rest (a.put o.dst v') w') : wpList Try.prog ops Q (o :: rest) a (w.alloc (.cells #[.int .i64 y] 3)) := by
  subst hg
  exact wp_app_int w hgd s x ho B v xs hs hown y hx hl hB h

set_option maxRecDepth 100000 in
set_option maxHeartbeats 1600000 in
theorem l1Put_c (w : World) (B : Nat) (v : Value) (xs : List Int) (hown : OwnI w B v xs) (hB : B ≤ w.heap.size) (hn : xs.length ≤ 100000) (s : Int) :
    Calls Try.prog 231 #[v, .int .i64 s] w fun en w' => (∃ v', en = .returned v' ∧ OwnI w' B v' (putF xs s)) ∧ Below w.heap.size w w' := by
  rcases hown.form with ⟨rfl, rfl⟩ | ⟨g, c, rfl, hg, hgw, hlc⟩
  · rw [show putF [] s = [s] from rfl]
    clear hown
    go_enter Try.func231, Try.ntmps231
    go_wp2_with fail
    go_loopw [5] (fun i wr => i = .int .i64 0 ∧ Below w.heap.size w wr) (fun i _ => 0)
    case atStart => exact ⟨rfl, Below.refl _ _⟩
    case round =>
      obtain ⟨rfl, hbel⟩ := hrel
      have hs := hbel.size
      have b0 := (Below.refl w.heap.size wr).alloc hs (.cells #[] 3)
      have O0 := Lib.hid (OwnI.mono (ownI_empty wr) hs)
      go_wp2_with (at_builtin; first | (refine wp_app_noneI _ rfl (.tmp 34) (.tmp 37) rfl w.heap.size _ [] rfl O0.out _ rfl ?_) | (refine wp_app_intY _ _ rfl _ _ rfl w.heap.size _ [] rfl O0.out _ rfl (by simp) (by simp) (by have := b0.size; omega) ?_; intro v2 w2 o2 b2; rw [List.nil_append] at o2) | (refine wp_app_noneI w2 rfl (.tmp 43) (.tmp 46) rfl w.heap.size _ _ rfl o2 _ rfl ?_))
      go_ret
      exact ⟨⟨_, rfl, OwnI.mono o2 hB⟩, hbel.trans (b0.trans b2)⟩
  · have hcell := Lib.hid (IsAt_of_own hown)
    obtain ⟨n, hnl⟩ : ∃ n, xs.length = n := ⟨_, rfl⟩
    have Hnl := Lib.hid hnl
    rw [hnl] at hn hlc hown ⊢
    have Hown := Lib.hid hown
    clear hown hnl
    go_enter Try.func231, Try.ntmps231
    go_wp2_with fail
    go_loopw [5] (fun i wr => ∃ k : Nat, k ≤ n ∧ i = .int .i64 (k : Int) ∧ (∀ j, j < k → ivL xs j < s) ∧ Below w.heap.size w wr) (fun i _ => n - (intOf i).toNat)
    case atStart => exact ⟨0, Nat.zero_le _, rfl, fun j hj => by omega, Below.refl _ _⟩
    case round =>
      obtain ⟨k, hk, rfl, hall, hbel⟩ := hrel
      have Hall := Lib.hid hall
      clear hall
      have hs := hbel.size
      by_cases hlt : k < n
      · have hck : wr.cell? ⟨g, k, none⟩ = some (.int .i64 (ivL xs k)) := by
          have h1 := (hbel.cell (p := ⟨g, 0 + k, none⟩) hgw).trans (hcell.out k (by have := Hnl.out; omega))
          rwa [Nat.zero_add] at h1
        obtain ⟨x, hx⟩ : ∃ x, ivL xs k = x := ⟨_, rfl⟩
        rw [hx] at hck
        by_cases hxs : x < s
        · have Hall2 := Lib.hid (fun j (hj : j < k + 1) => show ivL xs j < s by
            rcases Nat.lt_succ_iff_lt_or_eq.1 hj with h | h
            · exact Hall.out j h
            · rw [h, hx]; exact hxs)
          clear hx
          go_wp2
          go_roundw
          case rel => exact ⟨k + 1, by omega, by go_num, Hall2.out, hbel⟩
          case measure => simp [intOf]; omega
        · have hpos : posF xs s = k := posF_at (by have := Hnl.out; omega) Hall.out (by omega)
          by_cases hxe : x = s
          · have Hy := Lib.hid (putF_same hpos (by have := Hnl.out; omega) (hx.trans hxe))
            have hxb : (x == s) = true := beq_iff_eq.2 hxe
            clear hx hpos hxe
            go_wp2
            go_ret
            exact ⟨⟨_, rfl, by rw [Hy.out]; exact OwnI.below Hown.out hbel⟩, hbel⟩
          · have Hy := Lib.hid (putF_new hpos (fun h => hxe (hx.symm.trans h.2)))
            have hxb : (x == s) = false := beq_eq_false_iff_ne.2 hxe
            clear hx hpos hxe
            rcases Nat.eq_zero_or_pos k with h0 | h0
            · subst h0
              have b0 := (Below.refl w.heap.size wr).alloc hs (.cells #[] 3)
              have O0 := Lib.hid (OwnI.mono (ownI_empty wr) hs)
              have hat := Lib.hid (IsAt.below hcell.out hgw (hbel.trans b0))
              have Hk1 := Lib.hid (show 0 = (([] : List Int)).length by have := Hnl.out; first | (simp; done) | (simp; omega) | omega)
              have Hl1 := Lib.hid (show ([] : List Int).length + (([] : List Int)).length ≤ 1048576 by first | (simp; done) | (simp; omega))
              have Hl2 := Lib.hid (show (([] : List Int)).length ≤ 1048576 by first | (simp; done) | (simp; omega))
              have Hk3 := Lib.hid (show n = (xs).length by have := Hnl.out; first | (simp; done) | (simp; omega) | omega)
              have Hl3 := Lib.hid (show (([] : List Int) ++ [s]).length + (xs).length ≤ 1048576 by have := Hnl.out; first | (simp; done) | (simp; omega) | omega)
              go_wp2_with (at_builtin; first | (refine wp_app_ints _ rfl (.tmp 34) (.tmp 37) rfl w.heap.size _ [] rfl O0.out g 0 _ _ (([] : List Int)) rfl Hk1.out (fun k hk => absurd hk (Nat.not_lt_zero _)) Hl1.out (Nat.le_trans hs b0.size) ?_; intro v2 w2 o2 g2; have b2 := b0.trans (below_of_grown g2 (Nat.le_trans hs b0.size) (fun q hq => (World.ownsRow.lt O0.out q hq).1)); rw [List.nil_append] at o2) | (refine wp_app_intY _ _ rfl _ _ rfl w.heap.size _ (([] : List Int)) rfl o2 _ rfl (by simp) Hl2.out (by have := b2.size; omega) ?_; intro v3 w3 o3 b3; have B3 := hbel.trans (b2.trans b3); have hat3 := IsAt.below hcell.out hgw B3) | (refine wp_app_ints w3 rfl (.tmp 43) (.tmp 46) rfl w.heap.size _ (([] : List Int) ++ [s]) rfl o3 g 0 _ _ (xs) rfl Hk3.out hat3 Hl3.out B3.size ?_; intro v4 w4 o4 g4; have b4 := B3.trans (below_of_grown g4 B3.size (fun q hq => (World.ownsRow.lt o3 q hq).1))))
              go_ret
              exact ⟨⟨_, rfl, by rw [Hy.out]; exact OwnI.mono o4 hB⟩, b4⟩
            · have hk0 : ¬ (k = 0) := by omega
              have b0 := (Below.refl w.heap.size wr).alloc hs (.cells #[] 3)
              have O0 := Lib.hid (OwnI.mono (ownI_empty wr) hs)
              have hat := Lib.hid (IsAt.below hcell.out hgw (hbel.trans b0))
              have Hk1 := Lib.hid (show k = (xs.take k).length by have := Hnl.out; first | (simp; done) | (simp; omega) | omega)
              have Hl1 := Lib.hid (show ([] : List Int).length + (xs.take k).length ≤ 1048576 by first | (simp; done) | (simp; omega))
              have Hl2 := Lib.hid (show (xs.take k).length ≤ 1048576 by first | (simp; done) | (simp; omega))
              have Hk3 := Lib.hid (show n - k = (xs.drop k).length by have := Hnl.out; first | (simp; done) | (simp; omega) | omega)
              have Hl3 := Lib.hid (show (xs.take k ++ [s]).length + (xs.drop k).length ≤ 1048576 by have := Hnl.out; first | (simp; done) | (simp; omega) | omega)
              go_wp2_with (at_builtin; first | (refine wp_app_ints _ rfl (.tmp 34) (.tmp 37) rfl w.heap.size _ [] rfl O0.out g 0 _ _ (xs.take k) rfl Hk1.out (hat.out.take k) Hl1.out (Nat.le_trans hs b0.size) ?_; intro v2 w2 o2 g2; have b2 := b0.trans (below_of_grown g2 (Nat.le_trans hs b0.size) (fun q hq => (World.ownsRow.lt O0.out q hq).1)); rw [List.nil_append] at o2) | (refine wp_app_intY _ _ rfl _ _ rfl w.heap.size _ (xs.take k) rfl o2 _ rfl (by simp) Hl2.out (by have := b2.size; omega) ?_; intro v3 w3 o3 b3; have B3 := hbel.trans (b2.trans b3); have hat3 := IsAt.below hcell.out hgw B3) | (refine wp_app_ints w3 rfl (.tmp 43) (.tmp 46) rfl w.heap.size _ (xs.take k ++ [s]) rfl o3 g _ _ _ (xs.drop k) rfl Hk3.out (by have h := hat3.drop k; rwa [Nat.zero_add] at h) Hl3.out B3.size ?_; intro v4 w4 o4 g4; have b4 := B3.trans (below_of_grown g4 B3.size (fun q hq => (World.ownsRow.lt o3 q hq).1))))
              go_ret
              exact ⟨⟨_, rfl, by rw [Hy.out]; exact OwnI.mono o4 hB⟩, b4⟩
      · have hkn : k = n := by omega
        subst hkn
        have hpos : posF xs s = k := by rw [posF_end (fun j hj => Hall.out j (by have := Hnl.out; omega))]; exact Hnl.out
        have Hy := Lib.hid (putF_new hpos (fun h => by have := Hnl.out; omega))
        clear hpos
        rcases Nat.eq_zero_or_pos k with h0 | h0
        · subst h0
          have b0 := (Below.refl w.heap.size wr).alloc hs (.cells #[] 3)
          have O0 := Lib.hid (OwnI.mono (ownI_empty wr) hs)
          have hat := Lib.hid (IsAt.below hcell.out hgw (hbel.trans b0))
          have Hk1 := Lib.hid (show 0 = (([] : List Int)).length by have := Hnl.out; first | (simp; done) | (simp; omega) | omega)
          have Hl1 := Lib.hid (show ([] : List Int).length + (([] : List Int)).length ≤ 1048576 by first | (simp; done) | (simp; omega))
          have Hl2 := Lib.hid (show (([] : List Int)).length ≤ 1048576 by first | (simp; done) | (simp; omega))
          have Hk3 := Lib.hid (show 0 = (xs).length by have := Hnl.out; first | (simp; done) | (simp; omega) | omega)
          have Hl3 := Lib.hid (show (([] : List Int) ++ [s]).length + (xs).length ≤ 1048576 by have := Hnl.out; first | (simp; done) | (simp; omega) | omega)
          go_wp2_with (at_builtin; first | (refine wp_app_ints _ rfl (.tmp 34) (.tmp 37) rfl w.heap.size _ [] rfl O0.out g 0 _ _ (([] : List Int)) rfl Hk1.out (fun k hk => absurd hk (Nat.not_lt_zero _)) Hl1.out (Nat.le_trans hs b0.size) ?_; intro v2 w2 o2 g2; have b2 := b0.trans (below_of_grown g2 (Nat.le_trans hs b0.size) (fun q hq => (World.ownsRow.lt O0.out q hq).1)); rw [List.nil_append] at o2) | (refine wp_app_intY _ _ rfl _ _ rfl w.heap.size _ (([] : List Int)) rfl o2 _ rfl (by simp) Hl2.out (by have := b2.size; omega) ?_; intro v3 w3 o3 b3; have B3 := hbel.trans (b2.trans b3); have hat3 := IsAt.below hcell.out hgw B3) | (refine wp_app_ints w3 rfl (.tmp 43) (.tmp 46) rfl w.heap.size _ (([] : List Int) ++ [s]) rfl o3 g 0 _ _ (xs) rfl Hk3.out hat3 Hl3.out B3.size ?_; intro v4 w4 o4 g4; have b4 := B3.trans (below_of_grown g4 B3.size (fun q hq => (World.ownsRow.lt o3 q hq).1))))
          go_ret
          exact ⟨⟨_, rfl, by rw [Hy.out]; exact OwnI.mono o4 hB⟩, b4⟩
        · have hk0 : ¬ (k = 0) := by omega
          by_cases hck : c = k
          · have b0 := (Below.refl w.heap.size wr).alloc hs (.cells #[] 3)
            have O0 := Lib.hid (OwnI.mono (ownI_empty wr) hs)
            have hat := Lib.hid (IsAt.below hcell.out hgw (hbel.trans b0))
            have Hk1 := Lib.hid (show k = (xs.take k).length by have := Hnl.out; first | (simp; done) | (simp; omega) | omega)
            have Hl1 := Lib.hid (show ([] : List Int).length + (xs.take k).length ≤ 1048576 by first | (simp; done) | (simp; omega))
            have Hl2 := Lib.hid (show (xs.take k).length ≤ 1048576 by first | (simp; done) | (simp; omega))
            have Hk3 := Lib.hid (show 0 = (xs.drop k).length by have := Hnl.out; first | (simp; done) | (simp; omega) | omega)
            have Hl3 := Lib.hid (show (xs.take k ++ [s]).length + (xs.drop k).length ≤ 1048576 by have := Hnl.out; first | (simp; done) | (simp; omega) | omega)
            go_wp2_with (at_builtin; first | (refine wp_app_ints _ rfl (.tmp 34) (.tmp 37) rfl w.heap.size _ [] rfl O0.out g 0 _ _ (xs.take k) rfl Hk1.out (hat.out.take k) Hl1.out (Nat.le_trans hs b0.size) ?_; intro v2 w2 o2 g2; have b2 := b0.trans (below_of_grown g2 (Nat.le_trans hs b0.size) (fun q hq => (World.ownsRow.lt O0.out q hq).1)); rw [List.nil_append] at o2) | (refine wp_app_intY _ _ rfl _ _ rfl w.heap.size _ (xs.take k) rfl o2 _ rfl (by simp) Hl2.out (by have := b2.size; omega) ?_; intro v3 w3 o3 b3; have B3 := hbel.trans (b2.trans b3); have hat3 := IsAt.below hcell.out hgw B3) | (refine wp_app_ints w3 rfl (.tmp 43) (.tmp 46) rfl w.heap.size _ (xs.take k ++ [s]) rfl o3 g _ _ _ (xs.drop k) rfl (by have := Hk3.out; omega) (fun j hj => absurd hj (by have := Hk3.out; omega)) Hl3.out B3.size ?_; intro v4 w4 o4 g4; have b4 := B3.trans (below_of_grown g4 B3.size (fun q hq => (World.ownsRow.lt o3 q hq).1))))
            go_ret
            exact ⟨⟨_, rfl, by rw [Hy.out]; exact OwnI.mono o4 hB⟩, b4⟩
          · have b0 := (Below.refl w.heap.size wr).alloc hs (.cells #[] 3)
            have O0 := Lib.hid (OwnI.mono (ownI_empty wr) hs)
            have hat := Lib.hid (IsAt.below hcell.out hgw (hbel.trans b0))
            have Hk1 := Lib.hid (show k = (xs.take k).length by have := Hnl.out; first | (simp; done) | (simp; omega) | omega)
            have Hl1 := Lib.hid (show ([] : List Int).length + (xs.take k).length ≤ 1048576 by first | (simp; done) | (simp; omega))
            have Hl2 := Lib.hid (show (xs.take k).length ≤ 1048576 by first | (simp; done) | (simp; omega))
            have Hk3 := Lib.hid (show 0 = (xs.drop k).length by have := Hnl.out; first | (simp; done) | (simp; omega) | omega)
            have Hl3 := Lib.hid (show (xs.take k ++ [s]).length + (xs.drop k).length ≤ 1048576 by have := Hnl.out; first | (simp; done) | (simp; omega) | omega)
            go_wp2_with (at_builtin; first | (refine wp_app_ints _ rfl (.tmp 34) (.tmp 37) rfl w.heap.size _ [] rfl O0.out g 0 _ _ (xs.take k) rfl Hk1.out (hat.out.take k) Hl1.out (Nat.le_trans hs b0.size) ?_; intro v2 w2 o2 g2; have b2 := b0.trans (below_of_grown g2 (Nat.le_trans hs b0.size) (fun q hq => (World.ownsRow.lt O0.out q hq).1)); rw [List.nil_append] at o2) | (refine wp_app_intY _ _ rfl _ _ rfl w.heap.size _ (xs.take k) rfl o2 _ rfl (by simp) Hl2.out (by have := b2.size; omega) ?_; intro v3 w3 o3 b3; have B3 := hbel.trans (b2.trans b3); have hat3 := IsAt.below hcell.out hgw B3) | (refine wp_app_ints w3 rfl (.tmp 43) (.tmp 46) rfl w.heap.size _ (xs.take k ++ [s]) rfl o3 g _ _ _ (xs.drop k) rfl (by have := Hk3.out; omega) (fun j hj => absurd hj (by have := Hk3.out; omega)) Hl3.out B3.size ?_; intro v4 w4 o4 g4; have b4 := B3.trans (below_of_grown g4 B3.size (fun q hq => (World.ownsRow.lt o3 q hq).1))))
            go_ret
            exact ⟨⟨_, rfl, by rw [Hy.out]; exact OwnI.mono o4 hB⟩, b4⟩

end Go.Proofs.Ytaapfapejekkfaa
