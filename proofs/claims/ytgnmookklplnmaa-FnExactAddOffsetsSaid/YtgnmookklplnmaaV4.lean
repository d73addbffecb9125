import Derived.Test.YtgnmookklplnmaaV3
import Derived.Test.YtgnmookklplnmaaT6
namespace Go.Proofs.Ytgnmookklplnmaa
open Go.RowKit
set_option linter.unusedVariables false
set_option linter.unusedSimpArgs false

/-- The numbers with the other sign. -/
def ngL (xs : List Int) : List Int := xs.map fun x => -x
theorem ngL_len (xs : List Int) : (ngL xs).length = xs.length := List.length_map _
theorem ngL_at {xs : List Int} {k : Nat} (hk : k < xs.length) : ivL (ngL xs) k = -ivL xs k := by simp [ngL, ivL, hk]
theorem neg_rest {x : Int} {p r : Nat} (hp : 2 ≤ p) (hr : r < p) : (-x) % (p : Int) = (r : Int) ↔ x % (p : Int) = restF (-(r : Int)) (p : Int) := by
  have h1 : (r : Int) = (r : Int) % (p : Int) := (Int.emod_eq_of_lt (by omega) (by omega)).symm
  rw [restF]
  constructor
  · intro h
    rw [h1] at h
    have h2 := Int.emod_eq_emod_iff_emod_sub_eq_zero.1 h
    have h3 : (p : Int) ∣ (-x - (r : Int)) := Int.dvd_of_emod_eq_zero h2
    refine Int.emod_eq_emod_iff_emod_sub_eq_zero.2 (Int.emod_eq_zero_of_dvd ?_)
    rw [show x - -(r : Int) = -(-x - (r : Int)) by omega]
    exact Int.dvd_neg.2 h3
  · intro h
    have h2 := Int.emod_eq_emod_iff_emod_sub_eq_zero.1 h
    have h3 : (p : Int) ∣ (x - -(r : Int)) := Int.dvd_of_emod_eq_zero h2
    rw [h1]
    refine Int.emod_eq_emod_iff_emod_sub_eq_zero.2 (Int.emod_eq_zero_of_dvd ?_)
    rw [show -x - (r : Int) = -(x - -(r : Int)) by omega]
    exact Int.dvd_neg.2 h3
theorem ruB_neg {xs : List Int} {p r : Nat} (hp : 2 ≤ p) (hr : r < p) : ruB xs p r = hasR (ngL xs) p r := by
  have q0 := restF_lo (-(r : Int)) (p : Int) (by omega)
  have q1 := restF_hi (-(r : Int)) (p : Int) (by omega)
  obtain ⟨q, hq⟩ := Int.eq_ofNat_of_zero_le q0
  rw [ruB, Bool.eq_iff_iff, hasF_mem, rsA, rsF_mem, hasR_iff]
  constructor
  · rintro ⟨k, h1, h2, h3⟩
    obtain ⟨j, h4, h5⟩ := hasR_iff.1 h2
    exact ⟨j, by rw [ngL_len]; exact h4, by rw [ngL_at h4, neg_rest hp hr, h5, h3]⟩
  · rintro ⟨j, h4, h5⟩
    rw [ngL_len] at h4
    rw [ngL_at h4, neg_rest hp hr, hq] at h5
    exact ⟨q, by omega, hasR_yes h4 h5, hq⟩
/-- The rules of a pattern for one prime are its remainders with the other sign. -/
def rpL (p : Nat) (rs : List Int) : List (Int × Int) := rs.map fun r => ((p : Int), r)
theorem ruK_neg {xs : List Int} {p : Nat} (hp : 2 ≤ p) : ∀ r, r ≤ p → ruK xs p r = rpL p (rsF (ngL xs) p r)
  | 0, _ => rfl
  | r + 1, h => by
    have ih := ruK_neg (xs := xs) hp r (by omega)
    have hb := ruB_neg (xs := xs) hp (r := r) (by omega)
    cases hh : hasR (ngL xs) p r with
    | true =>
      rw [hh] at hb
      rw [ruK_yes hb, rsF_yes hh, ih, rpL, rpL, List.map_append]
      rfl
    | false =>
      rw [hh] at hb
      rw [ruK_no hb, rsF_no hh, ih]
theorem ruA_neg {xs : List Int} {k : Nat} (hk : k < 6) : ruA xs (k + 1) = ruA xs k ++ rpL (rpF k) (rsA (ngL xs) (rpF k)) := by
  have := rpF_all k hk
  rw [ruA, ruK_neg (by omega) _ (Nat.le_refl _), rsA]
theorem rpL_take {p j : Nat} {rs : List Int} (hj : j < rs.length) : rpL p (rs.take (j + 1)) = rpL p (rs.take j) ++ [((p : Int), ivL rs j)] := by
  rw [List.take_add_one, rpL, List.map_append, ← rpL]
  simp [hj, ivL]
theorem rpL_len (p : Nat) (rs : List Int) : (rpL p rs).length = rs.length := List.length_map _

theorem Il.grown {w w' : World} {A : Option Addr} {xs : List Int} {v : Value} (h : Il w A xs) (hg : w.grownBy w' v.ownBlock) (hf : ∀ q a, v.ownBlock = some q → A = some a → q ≠ a.block) : Il w' A xs := by
  intro hp
  obtain ⟨b, off, e, hlt, hr⟩ := h hp
  refine ⟨b, off, e, Nat.lt_of_lt_of_le hlt hg.size, fun k hk => ?_⟩
  rw [hg.cell_far ⟨b, off + k, none⟩ hlt (fun he => hf b ⟨b, off, none⟩ he.symm e rfl)]
  exact hr k hk
/-- append(out, r) for a row of rules that the call owns; where the row lies then. -/
theorem wp_app_ruleL {ops : Array Oper} {rest : List Oper} {o : Oper} {a : Act} {Q : Exit → Act → World → Prop} (w : World) (hgd : o.guard = none) (s x : Operand)
    (ho : o.op = .call { callee := .builtin .append, args := #[s, x], argTypes := #[44, 44] }) (B : Nat) (v : Value) (rs : List (Int × Int)) (hs : a.eval s = v) (hown : OwnR w B v rs) (e q : Int)
    (hx : a.eval x = .slice (some ⟨w.heap.size, 0, none⟩) 1 1) (hl : rs.length ≤ 1048576) (hB : B ≤ w.heap.size)
    (h : ∀ v' w', OwnR w' B v' (rs ++ [(e, q)]) → Below B w w' → w.grownBy w' v.ownBlock → (v'.ownBlock = v.ownBlock ∨ ∀ q, v'.ownBlock = some q → w.heap.size ≤ q) → wpList Try.prog ops Q rest (a.put o.dst v') w') : wpList Try.prog ops Q (o :: rest) a (w.alloc (.cells #[.int .i64 e, .int .i64 q] 69)) := by
  obtain ⟨i0, hi, hz0, hz1, hz2⟩ := info_parts info_R
  refine wpList_append_lies _ hgd s x 44 ho B 69 i0 _ 2 16 Try.underlying44 hi hz0 hz1 hz2 rfl (by decide) v _ _ hs (World.ownsRow.alloc hown _) ⟨w.heap.size, 0, none⟩ 1 1 [.int .i64 e, .int .i64 q] hx rfl ?_ ?_ (by decide) (by unfold maxLen; omega) (by omega) (by simp; omega) _ rfl ?_
  · intro j u hj
    match j, hj with
    | 0, hj => simp at hj; subst hj; simp [Addr.add]
    | 1, hj => simp at hj; subst hj; simp [Addr.add]
    | j + 2, hj => simp at hj
  · intro u hu
    simp at hu
    rcases hu with rfl | rfl <;> rfl
  · intro g cap w' hown' hg hl2 _
    refine h _ w' (by simpa [OwnR, cellsR, List.flatMap_append] using hown') (((Below.refl B w).alloc hB _).grown hg (by simp; omega) fun k hk => (World.ownsRow.lt hown k hk).1) ⟨hg.os, hg.tape, hg.output, Nat.le_trans (by simp) hg.size, fun i hi hn => (hg.block i (by simp; omega) hn).trans (Below.heap_alloc w _ i hi)⟩ ?_
    rcases hl2 with h2 | h2
    · exact .inl h2.symm
    · refine .inr fun q hq => ?_
      simp [Value.ownBlock] at hq
      simp at h2
      omega

set_option maxRecDepth 100000 in
set_option maxHeartbeats 1600000 in
theorem rulesOfPattern_c (w : World) (A : Option Addr) (m c : Nat) (xs : List Int) (hA : Il w A xs) (hm : m = xs.length) (hn : m ≤ 1048576) (hx : ∀ k, k < xs.length → 0 ≤ ivL xs k ∧ ivL xs k ≤ 1000000) (N : Nat) (h6 : N ≤ 6) :
    Calls Try.prog 83 #[.slice A m c, .int .i64 (N : Int)] w fun en w' => (∃ v, en = .returned v ∧ OwnR w' w.heap.size v (ruA xs N)) ∧ Below w.heap.size w w' := by
  have Hm := Lib.hid hm
  have Hx := Lib.hid hx
  have Hnx := Lib.hid (fun k (hk : k < (ngL xs).length) => show -1000000 ≤ ivL (ngL xs) k ∧ ivL (ngL xs) k ≤ 1000000 by
    rw [ngL_len] at hk
    rw [ngL_at hk]
    have := hx k hk
    omega)
  clear hm hx
  have hmk := fun W => mk_full Try.underlying22 info_I m (by omega) (by omega) W
  have hml := mk_owns (e := 3) #[.int .i64 0] 1 m (by unfold maxLen; omega) w
  rw [Nat.mul_one] at hml
  go_enter Try.func83, Try.ntmps83
  go_wp2_with fail
  clear hmk
  go_loopw [18] (fun i wr => ∃ k : Nat, k ≤ m ∧ i = .int .i64 k ∧ (∃ ys, wr.ownsRow w.heap.size 3 1 (.slice (some ⟨w.heap.size, 0, none⟩) m m) m ys ∧ ∀ j, j < k → ys[j]? = some (.int .i64 (ivL (ngL xs) j))) ∧ Below w.heap.size w wr) (fun i _ => m - (intOf i).toNat)
  case atStart => exact ⟨0, Nat.zero_le _, rfl, ⟨_, hml, by omega⟩, (Below.refl _ _).alloc (Nat.le_refl _) _⟩
  case round =>
    clear hml
    obtain ⟨k, hk, rfl, ⟨ys, hown, hxs⟩, hbel⟩ := hrel
    have Hxs := Lib.hid hxs
    have Hown := Lib.hid hown
    clear hxs hown
    by_cases hlt : k < m
    · have hlt1 : k < xs.length := by have := Hm.out; omega
      obtain ⟨b, off, rfl, hb, hr⟩ := hA (by omega)
      have hc0 := (hbel.cell (p := ⟨b, off + k, none⟩) hb).trans (hr k hlt1)
      have hxk := Hx.out k hlt1
      have Hng := Lib.hid (ngL_at hlt1)
      obtain ⟨x, hx⟩ : ∃ x, ivL xs k = x := ⟨_, rfl⟩
      rw [hx] at hc0 hxk Hng
      clear hx hr
      have e1 : IntKind.i64.wrap (-x) = -x := IntWalk.i64_in _ (by omega)
      have hs := hbel.size
      obtain ⟨x0, hx0, hf0⟩ := own_get Hown.out k (by omega)
      go_wp2
      go_roundw
      case rel =>
        have h2 := (Hown.out.stored k (.int .i64 (ivL (ngL xs) k))).1
        rw [Hng.out] at h2
        refine ⟨k + 1, by omega, by go_num, ⟨_, h2, fun j hj => ?_⟩, hbel.setCell (Nat.le_refl _) _⟩
        have hxl : ys.length = m * 1 := Hown.out.1
        rcases Nat.lt_succ_iff_lt_or_eq.1 hj with h | h
        · rw [List.getElem?_set_ne (by omega)]
          exact Hxs.out j h
        · subst h
          rw [List.getElem?_set_self (by omega), Hng.out]
      case measure => simp [intOf]; omega
    · have hkm : k = m := by omega
      have hong : OwnI wr w.heap.size (.slice (some ⟨w.heap.size, 0, none⟩) m m) (ngL xs) := by
        have h := Hown.out
        have : ys = (ngL xs).map (Value.int .i64) := cellsI_of (by rw [h.1, Nat.mul_one, ngL_len]; exact Hm.out) (fun j hj => Hxs.out j (by rw [ngL_len] at hj; have := Hm.out; omega))
        subst this
        rw [OwnI, ngL_len, ← Hm.out]
        exact h
      have Ing := Lib.hid (Il_of_own_n hong (by rw [ngL_len]; exact Hm.out))
      have Hfp := Lib.hid (firstPrimes_c wr N (by omega))
      clear hong Hown Hxs hkm
      rename World => wq
      have hs := hbel.size
      go_wp2_with fail
      refine Hfp.out.mono ?_
      rintro e w1 ⟨⟨g, c1, rfl, hg1, hg2, hc⟩, b1⟩
      have Hc := Lib.hid hc
      have In1 := Lib.hid (Il.below Ing.out b1)
      clear hc Hfp Ing
      go_wp2
      go_loopw [8, 32] (fun v i wr => ∃ k : Nat, k ≤ N ∧ i = .int .i64 (k : Int) ∧ OwnR wr w1.heap.size v (ruA xs k) ∧ Below w1.heap.size w1 wr) (fun _ i _ => N - (intOf i).toNat)
      case atStart => exact ⟨0, Nat.zero_le _, rfl, OwnR.nil _ _, Below.refl _ _⟩
      case round =>
        obtain ⟨q, hq, rfl, hown, hbel2⟩ := hrel
        have Hown := Lib.hid hown
        clear hown
        have hs2 := hbel2.size
        by_cases hltq : q < N
        · have hcq := (hbel2.cell (p := ⟨g, q, none⟩) hg2).trans (Hc.out q hltq)
          rw [pr9_at (by omega)] at hcq
          obtain ⟨p2, p13⟩ := rpF_all q (by omega)
          have hla := ruA_len xs q (by omega)
          have Hs1 := Lib.hid (ruA_neg (xs := xs) (k := q) (by omega))
          obtain ⟨p, hp⟩ : ∃ p, rpF q = p := ⟨_, rfl⟩
          rw [hp] at p2 p13 Hs1 hcq
          clear hp
          have In2 := Lib.hid (Il.below In1.out hbel2)
          go_wp2_with fail
          refine (restsOf_c _ _ _ _ (ngL xs) In2.out (by rw [ngL_len]; exact Hm.out) hn Hnx.out p p2 p13).mono ?_
          rintro e w3 ⟨⟨v3, rfl, o3⟩, b3⟩
          have hfar3 : ∀ q a, u8.ownBlock = some q → (match v3 with | .slice A _ _ => A | _ => none) = some a → q ≠ a.block := by
            intro q a h1 h2
            have h3 := (World.ownsRow.lt Hown.out q h1).2
            rcases o3.form with ⟨rfl, _⟩ | ⟨g3, c3, rfl, h4, _⟩
            · cases h2
            · injection h2 with h2
              subst h2
              show q ≠ g3
              omega
          obtain ⟨A3, c3, rfl⟩ := o3.shape
          have Hfar3 : Hid (∀ q a, u8.ownBlock = some q → A3 = some a → q ≠ a.block) := hfar3
          clear hfar3
          have I3 := Lib.hid (Il_of_own o3)
          have hrl := rsA_len (ngL xs) p
          obtain ⟨rs, hrs⟩ : ∃ rs, rsA (ngL xs) p = rs := ⟨_, rfl⟩
          rw [hrs] at I3 hrl Hs1 ⊢
          obtain ⟨L, hL⟩ : ∃ L, rs.length = L := ⟨_, rfl⟩
          have HL := Lib.hid hL
          rw [hL] at hrl ⊢
          clear o3 hrs hL
          have Hown3 := Lib.hid (OwnR.below Hown.out b3)
          have hb3 := hbel2.trans (b3.mono hs2)
          have Hown0 : Hid (OwnR w3 w1.heap.size u8 (ruA xs q ++ rpL p (rs.take 0))) := by
            show OwnR _ _ _ _
            rw [List.take_zero, rpL, List.map_nil, List.append_nil]
            exact Hown3.out
          rename World => wq3
          go_wp2
          go_loopw [8, 40] (fun v i wr => ∃ j : Nat, j ≤ L ∧ i = .int .i64 (j : Int) ∧ OwnR wr w1.heap.size v (ruA xs q ++ rpL p (rs.take j)) ∧ Below w1.heap.size w1 wr ∧ Il wr A3 rs ∧ (∀ q a, v.ownBlock = some q → A3 = some a → q ≠ a.block)) (fun _ i _ => L - (intOf i).toNat)
          case atStart => exact ⟨0, Nat.zero_le _, rfl, Hown0.out, hb3, I3.out, Hfar3.out⟩
          case round =>
            clear Hown0 Hown Hown3 I3 Hfar3
            obtain ⟨j, hj, rfl, hown, hbel4, hI4, hfar4⟩ := hrel
            have Hown := Lib.hid hown
            have I4 := Lib.hid hI4
            have Hfar4 := Lib.hid hfar4
            clear hown hI4 hfar4
            have hs4 := hbel4.size
            by_cases hltj : j < L
            · have I5 := Lib.hid I4.out
              obtain ⟨b, off, hAe, hb, hr⟩ := I4.out (by have := HL.out; omega)
              have hcj := hr j (by have := HL.out; omega)
              have Hy := Lib.hid (rpL_take (p := p) (rs := rs) (j := j) (by have := HL.out; omega))
              have Hlen : Hid ((ruA xs q ++ rpL p (rs.take j)).length ≤ 1048576) := by
                show _ ≤ _
                rw [List.length_append, rpL_len, List.length_take]
                omega
              obtain ⟨r, hr2⟩ : ∃ r, ivL rs j = r := ⟨_, rfl⟩
              rw [hr2] at hcj Hy
              subst hAe
              clear hr hr2 I4
              go_wp2_with (at_builtin; refine wp_app_ruleL _ rfl _ _ rfl w1.heap.size _ _ rfl Hown.out _ _ rfl Hlen.out hs4 ?_; intro v7 w7 o7 b7 g7 l7; have O7 := Lib.hid o7; have L7 := Lib.hid l7; clear o7 l7)
              go_roundw
              case rel =>
                refine ⟨j + 1, by omega, by go_num, by rw [Hy.out, ← List.append_assoc]; exact O7.out, hbel4.trans b7, Il.grown I5.out g7 Hfar4.out, fun q a h1 h2 => ?_⟩
                rcases L7.out with h3 | h3
                · rw [h3] at h1; exact Hfar4.out q a h1 h2
                · have := h3 q h1
                  injection h2 with h2
                  subst h2
                  show q ≠ b
                  omega
              case measure => simp [intOf]; omega
            · have Hy : Hid (ruA xs q ++ rpL p (rs.take j) = ruA xs (q + 1)) := by show _ = _; rw [Hs1.out, show j = rs.length by have := HL.out; omega, List.take_length]
              go_wp2
              go_roundw
              case rel => exact ⟨q + 1, by omega, by go_num, by rw [← Hy.out]; exact Hown.out, hbel4⟩
              case measure => simp [intOf]; omega
        · have hqN : q = N := by omega
          subst hqN
          go_wp2
          go_ret
          have hwb : w.heap.size ≤ w1.heap.size := Nat.le_trans hs b1.size
          exact ⟨⟨_, rfl, OwnR.mono Hown.out hwb⟩, hbel.trans ((b1.trans (hbel2.mono b1.size)).mono hs)⟩

set_option maxRecDepth 100000 in
set_option maxHeartbeats 800000 in
theorem impl_RulesOfPattern_c (w : World) (A : Option Addr) (m c : Nat) (xs : List Int) (hA : Il w A xs) (hm : m = xs.length) (hn : m ≤ 1048576) (n : Int) :
    Calls Try.prog 43 #[.slice A m c, .int .i64 n] w fun en w' => (∃ v, en = .returned (.tuple #[v, .bool (rpO xs n)]) ∧ OwnR w' w.heap.size v (rpV xs n)) ∧ Below w.heap.size w w' := by
  have Hm := Lib.hid hm
  clear hm
  cases hg : goodP xs with
  | false =>
    have ho : rpO xs n = false := by simp [rpO, akO, *]
    rw [rpV_no ho, ho]
    clear ho
    go_enter Try.func43, Try.ntmps43
    go_wp2_with fail
    refine (implIsPattern_c _ _ _ _ xs hA Hm.out hn).mono ?_
    rintro e w1 ⟨rfl, b1⟩
    have hA_1 := hA.below b1
    go_wp2
    go_ret2
    exact ⟨⟨_, rfl, OwnR.nil _ _⟩, b1⟩
  | true =>
    cases hk : inB n 0 6 with
    | false =>
      have ho : rpO xs n = false := by simp [rpO, akO, *]
      rw [rpV_no ho, ho]
      clear ho
      go_enter Try.func43, Try.ntmps43
      go_wp2_with fail
      refine (implIsPattern_c _ _ _ _ xs hA Hm.out hn).mono ?_
      rintro e w1 ⟨rfl, b1⟩
      have hA_1 := hA.below b1
      go_wp2_with fail
      refine (isCountTold_c _ _).mono ?_
      rintro e w2 ⟨rfl, rfl⟩
      go_wp2
      go_ret2
      exact ⟨⟨_, rfl, OwnR.nil _ _⟩, b1⟩
    | true =>
      have ho : akO xs n = true := by simp [akO, *]
      obtain ⟨n0, n6⟩ := inB_true.1 hk
      obtain ⟨N, rfl⟩ := Int.eq_ofNat_of_zero_le n0
      have Hx := Lib.hid (goodP_small hg)
      have hla := ruA_len xs N (by omega)
      have Ho : Hid (rpO xs (N : Int) = goodL (ruA xs N)) := by show _ = _; rw [rpO, ho, Int.toNat_natCast]; rfl
      have Hv : Hid (goodL (ruA xs N) = true → rpV xs (N : Int) = ruA xs N) := fun h => by rw [rpV_yes (Ho.out.trans h), Int.toNat_natCast]
      clear ho
      have Hg := Lib.hid hg
      have Hk := Lib.hid hk
      go_enter Try.func43, Try.ntmps43
      go_wp2_with fail
      refine (implIsPattern_c _ _ _ _ xs hA Hm.out hn).mono ?_
      rintro e w1 ⟨rfl, b1⟩
      have hA_1 := hA.below b1
      go_wp2_with fail
      refine (isCountTold_c _ _).mono ?_
      rintro e w2 ⟨rfl, rfl⟩
      go_wp2_with fail
      refine (rulesOfPattern_c _ _ _ _ xs hA_1 Hm.out hn Hx.out N (by omega)).mono ?_
      rintro e w3 ⟨⟨v3, rfl, o3⟩, b3⟩
      obtain ⟨A3, c3, rfl⟩ := o3.shape
      have Ril := Rl_of_own o3 rfl
      have Own3 := Lib.hid o3
      clear o3
      cases hgl : goodL (ruA xs N) with
      | true =>
        have Hgl := Lib.hid hgl
        clear hgl
        go_wp2_with fail
        refine (implAreRules_c _ _ _ _ _ Ril rfl (by omega)).mono ?_
        rw [Hgl.out]
        rintro e w4 ⟨rfl, b4⟩
        go_wp2
        go_ret2
        rw [Ho.out, Hv.out Hgl.out, Hgl.out]
        exact ⟨⟨_, rfl, OwnR.mono (OwnR.below Own3.out b4) (b1).size⟩, (b1).trans ((b3.trans (b4.mono b3.size)).mono (b1).size)⟩
      | false =>
        have Hgl := Lib.hid hgl
        have Hn := Lib.hid (rpV_no (Ho.out.trans hgl))
        clear hgl
        go_wp2_with fail
        refine (implAreRules_c _ _ _ _ _ Ril rfl (by omega)).mono ?_
        rw [Hgl.out]
        rintro e w4 ⟨rfl, b4⟩
        go_wp2
        go_ret2
        rw [Ho.out, Hn.out, Hgl.out]
        exact ⟨⟨_, rfl, OwnR.nil _ _⟩, (b1).trans ((b3.trans (b4.mono b3.size)).mono (b1).size)⟩

end Go.Proofs.Ytgnmookklplnmaa
