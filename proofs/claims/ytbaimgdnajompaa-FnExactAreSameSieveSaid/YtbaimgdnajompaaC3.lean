import Derived.Test.YtbaimgdnajompaaC2
namespace Go.Proofs.Ytbaimgdnajompaa
open Go.RowKit
set_option linter.unusedVariables false
set_option linter.unusedSimpArgs false

theorem run_app_noneR (w : World) (ty : TypeId) (B : Nat) (v : Value) (rs : List (Int × Int)) (c : Nat) (hown : OwnR w B v rs) :
    (Builtin.append_ #[31, 31] ty #[v, .slice none 0 c]).run Try.prog w = .ok v w := by
  obtain ⟨i, hi, hz0, hz1, hz2⟩ := info_parts info_R
  rcases hown.2 with ⟨rfl, h0⟩ | ⟨g, cap, cur, rfl, _, _, hnc, _⟩
  · simp [Builtin.append_, run_underlying Try.underlying31, sizeOf, typeInfo, hi, Builtin.lenOf, Builtin.firstCells]
  · simp [Builtin.append_, run_underlying Try.underlying31, sizeOf, typeInfo, hi, Builtin.lenOf, Builtin.firstCells, hnc, storeCells]

/-- append(v, s...), v a row of rules that the call owns, s read elsewhere, nil too. -/
theorem wp_app_rules {ops : Array Oper} {rest : List Oper} {o : Oper} {a : Act} {Q : Exit → Act → World → Prop} (w : World) (hgd : o.guard = none) (s x : Operand)
    (ho : o.op = .call { callee := .builtin .append, args := #[s, x], argTypes := #[31, 31] }) (B : Nat) (v : Value) (rs : List (Int × Int)) (hs : a.eval s = v) (hown : OwnR w B v rs) (A : Option Addr) (m c : Nat) (ss : List (Int × Int))
    (hx : a.eval x = .slice A m c) (hA : Rl w A ss) (hm : m = ss.length) (hl : rs.length + ss.length ≤ 1048576) (hB : B ≤ w.heap.size)
    (h : ∀ v' w', OwnR w' B v' (rs ++ ss) → Below B w w' → wpList Try.prog ops Q rest (a.put o.dst v') w') : wpList Try.prog ops Q (o :: rest) a w := by
  subst hm
  cases A with
  | none =>
    have hs0 : ss = [] := by
      by_cases h0 : 0 < ss.length
      · obtain ⟨b, off, e, _⟩ := hA h0
        cases e
      · exact List.eq_nil_of_length_eq_zero (by omega)
    subst hs0
    refine wpList_plain hgd fun K hK => ?_
    have hrun := run_app_noneR w o.type B v rs c hown
    unfold Oper.wp
    simp [execOp, ho, resolve, invoke, builtin, hs, hx, hrun, Result.andThen]
    exact hK _ _ (h v w (by simpa using hown) (Below.refl _ _))
  | some ad =>
    have hnews : ∀ j u, (cellsR ss)[j]? = some u → w.cell? (ad.add j) = some u := fun j u hj => by
      have hl : j < (cellsR ss).length := (List.getElem?_eq_some_iff.1 hj).1
      rw [cellsR_length] at hl
      obtain ⟨b, off, e, _, hr⟩ := hA (by omega)
      cases e
      rw [Go.WideShapes.add_plain]
      have := cells_of_rules hr 0 ss.length (j := j) (u := u) (by simpa using hj)
      simpa using this
    obtain ⟨i0, hi, hz0, hz1, hz2⟩ := info_parts info_R
    refine wpList_append_own _ hgd s x 31 ho B 25 i0 _ 2 16 Try.underlying31 hi hz0 hz1 hz2 rfl (by decide) v _ _ hs hown ad _ c (cellsR ss) hx (cellsR_length ss) hnews ?_ (by unfold maxLen; omega) (by omega) hB ?_
    · intro u hu
      simp only [cellsR, List.mem_flatMap] at hu
      obtain ⟨r, _, hr⟩ := hu
      simp at hr
      rcases hr with rfl | rfl <;> rfl
    · intro v' w' hown' hg _
      refine h v' w' ?_ (below_of_grown hg hB fun q hq => (World.ownsRow.lt hown q hq).1)
      simpa [OwnR, cellsR, List.flatMap_append] using hown'

theorem own_empty0 (w : World) : OwnR (w.alloc (.cells #[] 25)) w.heap.size (.slice (some ⟨w.heap.size, 0, none⟩) 0 0) [] :=
  World.ownsRow_made w #[] 0 (Nat.le_refl _) (by simp [maxLen]) (by simp)
theorem OwnR.form {w : World} {B : Nat} {v : Value} {rs : List (Int × Int)} (h : OwnR w B v rs) : ∃ A n c, v = .slice A n c ∧ n = rs.length ∧ n ≤ c := by
  rcases h.2 with ⟨e, h0⟩ | ⟨g, cap, cur, e, _, _, hnc, _⟩
  · exact ⟨none, 0, 0, e, h0.symm, Nat.le_refl _⟩
  · exact ⟨_, _, _, e, rfl, hnc⟩

/-- Needless rules go, from index k - 1 on down. -/
def dropF (P : Int) : Nat → List (Int × Int) → List (Int × Int)
  | 0, cs => cs
  | k + 1, cs => dropF P k (if needF cs k P then cs.eraseIdx k else cs)
theorem dropF_yes {P : Int} {k : Nat} {cs : List (Int × Int)} (h : needF cs k P = true) : dropF P (k + 1) cs = dropF P k (cs.eraseIdx k) := by rw [dropF, if_pos h]
theorem dropF_no {P : Int} {k : Nat} {cs : List (Int × Int)} (h : needF cs k P = false) : dropF P (k + 1) cs = dropF P k cs := by rw [dropF, if_neg (by rw [h]; exact Bool.false_ne_true)]
theorem dropF_len (P : Int) : ∀ (k : Nat) (cs : List (Int × Int)), (dropF P k cs).length ≤ cs.length
  | 0, _ => Nat.le_refl _
  | k + 1, cs => by
    have h1 := List.length_eraseIdx_le cs k
    cases h : needF cs k P with
    | true => rw [dropF_yes h]; exact Nat.le_trans (dropF_len P k _) h1
    | false => rw [dropF_no h]; exact dropF_len P k _
def dropV (rs : List (Int × Int)) : List (Int × Int) := if perOk rs then dropF (perF rs) rs.length rs else []
theorem dropV_no {rs : List (Int × Int)} (h : perOk rs = false) : dropV rs = [] := by rw [dropV, h]; rfl
theorem dropV_yes {rs : List (Int × Int)} (h : perOk rs = true) : dropV rs = dropF (perF rs) rs.length rs := by rw [dropV, h]; rfl
theorem dropV_len (rs : List (Int × Int)) : (dropV rs).length ≤ 1048576 := by
  rw [dropV]
  split
  · rename_i h
    have h1 := good_len (perOk_parts h).1
    have h2 := dropF_len (perF rs) rs.length rs
    omega
  · exact Nat.zero_le _

set_option maxRecDepth 100000 in
set_option maxHeartbeats 1600000 in
theorem spec_DropNeedless_c (w : World) (A : Option Addr) (m c : Nat) (rs : List (Int × Int)) (hA : Rl w A rs) (hm : m = rs.length) (hn : m ≤ 1048576) :
    Calls Try.prog 50 #[.slice A m c] w fun en w' => (∃ v, en = .returned (.tuple #[v, .bool (perOk rs)]) ∧ OwnR w' w.heap.size v (dropV rs)) ∧ Below w.heap.size w w' := by
  have Hm := Lib.hid hm
  clear hm
  cases hg : goodL rs with
  | false =>
    have ho : perOk rs = false := by first | (simp [perOk, hg]; done) | (rw [perOk, Decidable.not_not.1 hz]; simp)
    rw [dropV_no ho, ho]
    try (have hzb : (perF rs == 0) = true := by simpa using hz)
    clear ho
    try clear hz
    go_enter Try.func50, Try.ntmps50
    go_wp2_with fail
    refine (good_c _ _ _ rs _ hA Hm.out hn).mono ?_
    rintro e w1 ⟨rfl, b1⟩
    have hA_1 := hA.below b1
    go_wp2
    go_ret2
    exact ⟨⟨_, rfl, OwnR.nil _ _⟩, b1⟩
  | true =>
    by_cases hz : ¬ perF rs = 0
    rotate_left
    · skip
      have ho : perOk rs = false := by first | (simp [perOk, hg]; done) | (rw [perOk, Decidable.not_not.1 hz]; simp)
      rw [dropV_no ho, ho]
      try (have hzb : (perF rs == 0) = true := by simpa using hz)
      clear ho
      try clear hz
      go_enter Try.func50, Try.ntmps50
      go_wp2_with fail
      refine (good_c _ _ _ rs _ hA Hm.out hn).mono ?_
      rintro e w1 ⟨rfl, b1⟩
      have hA_1 := hA.below b1
      go_wp2_with fail
      refine (siPeriod_c _ _ _ _ rs hA_1 Hm.out (Lib.hid hg).out).mono ?_
      rintro e w2 ⟨rfl, b2⟩
      have hA_2 := hA_1.below b2
      have bb2 := b1.trans (b2.mono b1.size)
      go_wp2
      go_ret2
      exact ⟨⟨_, rfl, OwnR.nil _ _⟩, bb2⟩
    · skip
      have ho : perOk rs = true := by simp [perOk, *]
      rw [dropV_yes ho, ho]
      have hzb : (perF rs == 0) = false := by simpa using hz
      obtain ⟨pl1, pl2⟩ := perF_le hg
      have h12 : m ≤ 12 := by rw [Hm.out]; exact good_len hg
      clear ho hz
      have Hg := Lib.hid hg
      go_enter Try.func50, Try.ntmps50
      go_wp2_with fail
      refine (good_c _ _ _ rs _ hA Hm.out hn).mono ?_
      rintro e w1 ⟨rfl, b1⟩
      have hA_1 := hA.below b1
      go_wp2_with fail
      refine (siPeriod_c _ _ _ _ rs hA_1 Hm.out (Lib.hid hg).out).mono ?_
      rintro e w2 ⟨rfl, b2⟩
      have hA_2 := hA_1.below b2
      have bb2 := b1.trans (b2.mono b1.size)
      go_wp2_with fail
      refine (siPeriod_c _ _ _ _ rs hA_2 Hm.out Hg.out).mono ?_
      rintro e w3 ⟨rfl, b3⟩
      have hA_3 := hA_2.below b3
      have bb3 := bb2.trans (b3.mono bb2.size)
      have hA0 := Rl.below hA_3 ((Below.refl _ _).alloc (Nat.le_refl _) (.cells #[] 25))
      go_wp2_with (at_builtin; refine wp_app_rules _ rfl _ _ rfl w.heap.size _ [] rfl (OwnR.mono (own_empty0 _) (bb3).size) _ _ _ rs rfl hA0 Hm.out (by have := Hm.out; simp; omega) (by have := (bb3).size; simp; omega) ?_; intro v5 w5 o5 b5; rw [List.nil_append] at o5; obtain ⟨A5, n5, c5, rfl, e5, l5⟩ := o5.form; have O5 := Lib.hid o5; have E5 := Lib.hid e5; clear o5 e5)
      have hb5 := ((bb3).alloc (bb3).size _).trans b5
      have hn5 : n5 ≤ 12 := by have := Hm.out; have := E5.out; omega
      go_loopw [5, 6] (fun v i wr => ∃ (k : Nat) (cs : List (Int × Int)) (z : Int), i = .int .i64 z ∧ z = (k : Int) - 1 ∧ k ≤ cs.length ∧ k ≤ 12 ∧ goodL cs = true ∧ dropF (perF rs) k cs = dropF (perF rs) rs.length rs ∧ OwnR wr w.heap.size v cs ∧ Below w.heap.size w wr) (fun _ i _ => (intOf i + 1).toNat)
      case atStart => exact ⟨n5, rs, wrap64 ((n5 : Int) - 1), rfl, by simp only [wrap64]; omega, by have := E5.out; omega, by omega, Hg.out, by rw [E5.out], O5.out, hb5⟩
      case round =>
        obtain ⟨k, cs, z, rfl, hz, hk, hk12, hgc, hd, hown, hbel⟩ := hrel
        obtain ⟨A6, n6, c6, rfl, e6, l6⟩ := hown.form
        have Hown := Lib.hid hown
        have Hgc := Lib.hid hgc
        have Hd := Lib.hid hd
        have E6 := Lib.hid e6
        have hs := hbel.size
        have hR := Rl_of_own hown e6
        have hkn : k ≤ n6 := by omega
        clear hown hgc hd e6 hk
        cases k with
        | zero =>
          obtain rfl : z = -1 := by omega
          clear hz
          go_wp2
          go_ret2
          exact ⟨⟨_, rfl, by rw [← Hd.out]; exact Hown.out⟩, hbel⟩
        | succ k =>
          obtain rfl : z = (k : Int) := by omega
          clear hz
          have hk0 : (0 : Int) ≤ (k : Int) := by omega
          cases hl : needF cs k (perF rs) with
          | true =>
            have Hy := Lib.hid (dropF_yes hl)
            go_wp2_with fail
            refine (siNeedless_c _ _ _ _ cs hR E6.out Hgc.out l6 k (by omega) _ pl1 pl2).mono ?_
            rintro e w6 ⟨rfl, b6⟩
            rw [hl]
            have hR6 := Rl.below hR b6
            have hb6 := hbel.trans (b6.mono hs)
            go_wp2_with fail
            refine (siWithout_c _ _ _ _ cs hR6 E6.out (by rw [E6.out]; exact good_len Hgc.out) l6 k (by omega)).mono ?_
            rintro e w7 ⟨⟨v7, rfl, o7⟩, b7⟩
            have hb7 := hb6.trans (b7.mono hb6.size)
            have o7' := OwnR.mono o7 hb6.size
            have Hge := Lib.hid (good_erase Hgc.out k)
            have Hd7 := Lib.hid (Hy.out.symm.trans Hd.out)
            have Hl7 := Lib.hid (show k ≤ (cs.eraseIdx k).length by have := E6.out; rw [List.length_eraseIdx]; split <;> omega)
            go_wp2
            go_roundw
            case rel => exact ⟨k, cs.eraseIdx k, (k : Int) - 1, by go_num, rfl, Hl7.out, by omega, Hge.out, Hd7.out, o7', hb7⟩
            case measure => simp [intOf]
          | false =>
            have Hy := Lib.hid (dropF_no hl)
            go_wp2_with fail
            refine (siNeedless_c _ _ _ _ cs hR E6.out Hgc.out l6 k (by omega) _ pl1 pl2).mono ?_
            rintro e w6 ⟨rfl, b6⟩
            rw [hl]
            have hb6 := hbel.trans (b6.mono hs)
            have o6 := OwnR.below Hown.out b6
            have Hd7 := Lib.hid (Hy.out.symm.trans Hd.out)
            have Hl7 := Lib.hid (show k ≤ cs.length by have := E6.out; omega)
            go_wp2
            go_roundw
            case rel => exact ⟨k, cs, (k : Int) - 1, by go_num, rfl, Hl7.out, by omega, Hgc.out, Hd7.out, o6, hb6⟩
            case measure => simp [intOf]

set_option maxRecDepth 100000 in
set_option maxHeartbeats 1600000 in
theorem impl_DropNeedless_c (w : World) (A : Option Addr) (m c : Nat) (rs : List (Int × Int)) (hA : Rl w A rs) (hm : m = rs.length) (hn : m ≤ 1048576) :
    Calls Try.prog 51 #[.slice A m c] w fun en w' => (∃ v, en = .returned (.tuple #[v, .bool (perOk rs)]) ∧ OwnR w' w.heap.size v (dropV rs)) ∧ Below w.heap.size w w' := by
  have Hm := Lib.hid hm
  clear hm
  have hmk := fun W => mk_full Try.underlying31 info_R m (by omega) (by omega) W
  cases hp : perOk rs with
  | false =>
    rw [dropV_no hp]
    clear hmk
    go_enter Try.func51, Try.ntmps51
    go_wp2_with fail
    refine (impl_PeriodOfRules_c _ _ _ _ rs hA Hm.out hn).mono ?_
    rintro e w1 ⟨rfl, b1⟩
    have hA_1 := hA.below b1
    go_wp2
    go_ret2
    exact ⟨⟨_, rfl, OwnR.nil _ _⟩, b1⟩
  | true =>
    obtain ⟨hg, _, pl1, pl2⟩ := perOk_parts hp
    have hv : perV rs = perF rs := by rw [perV, hg]; rfl
    have h12 : m ≤ 12 := by rw [Hm.out]; exact good_len hg
    have pl0 : 0 ≤ perF rs := by omega
    rw [dropV_yes hp]
    have Hg := Lib.hid hg
    have Hv := Lib.hid hv
    clear hg hv
    have Hp := Lib.hid hp
    go_enter Try.func51, Try.ntmps51
    go_wp2_with fail
    refine (impl_PeriodOfRules_c _ _ _ _ rs hA Hm.out hn).mono ?_
    rintro e w1 ⟨rfl, b1⟩
    have hA_1 := hA.below b1
    rw [Hv.out]
    have hml := mk_owns (e := 25) #[.int .i64 0, .int .i64 0] 2 m (by unfold maxLen; omega) w1
    have hb0 : Below w1.heap.size w1 (w1.alloc (.cells (madeCells #[.int .i64 0, .int .i64 0] (m * 2)) 25)) := (Below.refl _ _).alloc (Nat.le_refl _) _
    have hA0 := Rl.below hA_1 hb0
    go_wp2_with (refine wp_copyR rfl (.tmp 18) (.tmp 19) rfl w1.heap.size w1.heap.size m c A rs _ rfl rfl hA0 Hm.out hml ?_; intro w5 o5 g5; have O5 := Lib.hid o5; clear o5)
    clear hmk
    have hb5 : Below w1.heap.size w1 w5 := hb0.grown g5 (by simp) (fun q hq => by cases hq; exact Nat.le_refl _)
    clear g5 hml hA0 hb0
    go_loopw [6, 7] (fun v i wr => ∃ (k n : Nat) (cs : List (Int × Int)) (z : Int), i = .int .i64 z ∧ v = .slice (some ⟨w1.heap.size, 0, none⟩) n m ∧ n = cs.length ∧ z = (k : Int) - 1 ∧ k ≤ n ∧ k ≤ 12 ∧ goodL cs = true ∧ dropF (perF rs) k cs = dropF (perF rs) rs.length rs ∧ OwnR wr w1.heap.size (.slice (some ⟨w1.heap.size, 0, none⟩) n m) cs ∧ Below w1.heap.size w1 wr) (fun _ i _ => (intOf i + 1).toNat)
    case atStart => exact ⟨m, m, rs, (m : Int) - 1, rfl, rfl, Hm.out, rfl, Nat.le_refl _, h12, Hg.out, by rw [Hm.out], O5.out, hb5⟩
    case round =>
      obtain ⟨k, n, cs, z, rfl, rfl, hn6, hz, hk, hk12, hgc, hd, hown, hbel⟩ := hrel
      have Hown := Lib.hid hown
      have Hgc := Lib.hid hgc
      have Hd := Lib.hid hd
      have E6 := Lib.hid hn6
      have hs := hbel.size
      have hR := Rl_of_own hown hn6
      clear hown hgc hd hn6
      cases k with
      | zero =>
        obtain rfl : z = -1 := by omega
        clear hz
        go_wp2
        go_ret2
        exact ⟨⟨_, rfl, by rw [← Hd.out]; exact OwnR.mono Hown.out (b1).size⟩, (b1).trans (hbel.mono (b1).size)⟩
      | succ k =>
        obtain rfl : z = (k : Int) := by omega
        clear hz
        have hk0 : (0 : Int) ≤ (k : Int) := by omega
        cases hl : needF cs k (perF rs) with
        | true =>
          have Hy := Lib.hid (dropF_yes hl)
          have hkw : IntKind.i64.wrap ((k : Int) + 1) = (k : Int) + 1 := IntWalk.i64_in _ (by omega)
          go_wp2_with fail
          refine (isNeedless_c _ _ _ _ cs hR E6.out Hgc.out k (by omega) _ pl0 pl2).mono ?_
          rintro e w6 ⟨rfl, b6⟩
          rw [hl]
          have o6 := OwnR.below Hown.out b6
          have hb6 := hbel.trans (b6.mono hs)
          go_wp2_with fail
          refine (delete_c _ _ _ _ _ k cs o6 E6.out (by omega)).mono ?_
          rintro e w7 ⟨rfl, o7, g7⟩
          clear hkw
          have hb7 : Below w1.heap.size w1 w7 := hb6.grown g7 hb6.size (fun q hq => by cases hq; exact Nat.le_refl _)
          have Hge := Lib.hid (good_erase Hgc.out k)
          have Hd7 := Lib.hid (Hy.out.symm.trans Hd.out)
          have Hl7 := Lib.hid (show k + (n - (k + 1)) = (cs.eraseIdx k).length by have := E6.out; rw [List.length_eraseIdx, if_pos (by omega)]; omega)
          go_wp2
          go_roundw
          case rel => exact ⟨k, k + (n - (k + 1)), cs.eraseIdx k, (k : Int) - 1, by go_num, by first | rfl | simp, Hl7.out, rfl, by omega, by omega, Hge.out, Hd7.out, o7, hb7⟩
          case measure => simp [intOf]
        | false =>
          have Hy := Lib.hid (dropF_no hl)
          go_wp2_with fail
          refine (isNeedless_c _ _ _ _ cs hR E6.out Hgc.out k (by omega) _ pl0 pl2).mono ?_
          rintro e w6 ⟨rfl, b6⟩
          rw [hl]
          have o6 := OwnR.below Hown.out b6
          have hb6 := hbel.trans (b6.mono hs)
          have Hd7 := Lib.hid (Hy.out.symm.trans Hd.out)
          go_wp2
          go_roundw
          case rel => exact ⟨k, n, cs, (k : Int) - 1, by go_num, rfl, E6.out, rfl, by omega, by omega, Hgc.out, Hd7.out, o6, hb6⟩
          case measure => simp [intOf]

end Go.Proofs.Ytbaimgdnajompaa
