import Derived.Test.YtgnmookklplnmaaVD
namespace Go.Proofs.Ytgnmookklplnmaa
open Go.RowKit
set_option linter.unusedVariables false
set_option linter.unusedSimpArgs false

def pnN (ps : List (List Nat)) (i : Nat) : List Nat := ps.getD i []
theorem cellsP_get : ∀ (ps : List (List Nat)), (∀ p, p ∈ ps → p.length = 8) → ∀ i j, i < ps.length → j < 8 → (cellsP ps)[i * 8 + j]? = some (.int .i64 (ivN (pnN ps i) j : Int))
  | [], _, i, _, h, _ => by simp at h
  | p :: ps, hl, i, j, hi, hj => by
    have hp := hl p (List.mem_cons_self ..)
    have e : cellsP (p :: ps) = (p.map fun x : Nat => Value.int .i64 (x : Int)) ++ cellsP ps := rfl
    cases i with
    | zero =>
      rw [e, List.getElem?_append_left (by rw [List.length_map]; omega), ivN_get]
      have hjp : j < p.length := by omega
      simp [pnN, hjp, Nat.zero_mul, List.getElem?_eq_getElem hjp]
    | succ i =>
      rw [e, List.getElem?_append_right (by rw [List.length_map]; omega), List.length_map, hp, show (i + 1) * 8 + j - 8 = i * 8 + j by omega]
      exact cellsP_get ps (fun q hq => hl q (List.mem_cons_of_mem _ hq)) i j (by simpa using hi) hj
theorem OwnP.at {w : World} {B n c : Nat} {A : Option Addr} {ps : List (List Nat)} (h : OwnP w B (.slice A n c) ps) {i : Nat} (hi : i < ps.length) :
    ∃ g, A = some ⟨g, 0, none⟩ ∧ B ≤ g ∧ g < w.heap.size ∧ ∀ j, j < 8 → w.cell? ⟨g, i * 8 + j, none⟩ = some (.int .i64 (ivN (pnN ps i) j : Int)) := by
  rcases h.1.2 with ⟨_, h0⟩ | ⟨g, cap, cur, e, hB, hg, hle, _, hcs, ht⟩
  · omega
  · simp only [Value.slice.injEq] at e
    obtain ⟨rfl, rfl, rfl⟩ := e
    refine ⟨g, rfl, hB, (Array.getElem?_eq_some_iff.1 hg).1, fun j hj => ?_⟩
    exact (World.ownsRow.cellAt h.1 (i * 8 + j) (by omega)).trans (cellsP_get ps h.2 i j hi hj)
theorem pnN_mem {ps : List (List Nat)} {i : Nat} (h : i < ps.length) : pnN ps i ∈ ps := by
  rw [pnN, List.getD_eq_getElem?_getD, List.getElem?_eq_getElem h]
  exact List.getElem_mem h
/-- A pattern of the row, cloned. -/
theorem clone_pat {w : World} {B m c : Nat} {A : Option Addr} {ps : List (List Nat)} (h : OwnP w B (.slice A m c) ps) {i : Nat} (hi : i < ps.length) {n : Nat} (h1 : 1 ≤ n) (h6 : n ≤ 6) :
    ∃ g, A = some ⟨g, 0, none⟩ ∧ Calls Try.prog 74 #[.slice (some ⟨g, i * 8, none⟩) n 8] w fun e w' => (∃ v, e = .returned v ∧ OwnI w' w.heap.size v (cl ((pnN ps i).take n))) ∧ Below w.heap.size w w' := by
  obtain ⟨g, rfl, _, _, hc⟩ := h.at hi
  have hp8 := h.2 _ (pnN_mem hi)
  have hl : (cl ((pnN ps i).take n)).length = n := by rw [cl_len, List.length_take]; omega
  refine ⟨g, rfl, (Try.slices_Clone_int g (i * 8) n 8 (cl ((pnN ps i).take n)) w (by omega) (by omega) (fun j hj => ?_)).mono ?_⟩
  · rw [hl] at hj
    rw [hc j (by omega), ivN_get]
    have hj8 : j < (pnN ps i).length := by omega
    simp [cl, List.getD_eq_getElem?_getD, List.getElem?_take, hj, hj8]
  · rintro e w' ⟨v, rfl, ho, _, hb⟩
    refine ⟨⟨v, rfl, ?_⟩, hb⟩
    rw [List.take_of_length_le (by omega)] at ho
    rw [OwnI, hl]
    exact ho

set_option maxRecDepth 100000 in
set_option maxHeartbeats 800000 in
theorem impl_CountOpen_c (w : World) (n W : Int) :
    Calls Try.prog 34 #[.int .i64 n, .int .i64 W] w fun en w' => en = .returned (.tuple #[.int .i64 (coV n W), .bool (coO n W)]) ∧ Below w.heap.size w w' := by
  cases hg : inB n 1 6 with
  | false =>
    have ho : coO n W = false := by simp [coO, *]
    rw [coV_no ho, ho]
    clear ho
    go_enter Try.func34, Try.ntmps34
    go_wp2_with fail
    refine (isSought_c _ _).mono ?_
    rintro e w1 ⟨rfl, rfl⟩
    go_wp2
    go_ret2
    exact ⟨rfl, (Below.refl _ _)⟩
  | true =>
    cases hk : inB W 0 30 with
    | false =>
      have ho : coO n W = false := by simp [coO, *]
      rw [coV_no ho, ho]
      clear ho
      go_enter Try.func34, Try.ntmps34
      go_wp2_with fail
      refine (isSought_c _ _).mono ?_
      rintro e w1 ⟨rfl, rfl⟩
      go_wp2_with fail
      refine (isWidthSought_c _ _).mono ?_
      rintro e w2 ⟨rfl, rfl⟩
      go_wp2
      go_ret2
      exact ⟨rfl, (Below.refl _ _)⟩
    | true =>
      have ho : coO n W = true := by simp [coO, *]
      obtain ⟨n1, n6⟩ := inB_true.1 hg
      obtain ⟨w0, w3⟩ := inB_true.1 hk
      obtain ⟨N, rfl⟩ := Int.eq_ofNat_of_zero_le (show 0 ≤ n by omega)
      obtain ⟨M, rfl⟩ := Int.eq_ofNat_of_zero_le w0
      rw [coV_yes ho, ho]
      clear ho
      have Hg := Lib.hid hg
      have Hk := Lib.hid hk
      go_enter Try.func34, Try.ntmps34
      go_wp2_with fail
      refine (isSought_c _ _).mono ?_
      rintro e w1 ⟨rfl, rfl⟩
      go_wp2_with fail
      refine (isWidthSought_c _ _).mono ?_
      rintro e w2 ⟨rfl, rfl⟩
      go_wp2_with fail
      refine (openPatterns_c _ N M (by omega) (by omega) (by omega)).mono ?_
      rintro e w4 ⟨⟨v4, r, rfl, o4, hr, _⟩, b4⟩
      obtain ⟨A4, c4, rfl⟩ := o4.shape
      have Hl : Hid ((rlA N M).length = r.length) := by show _ = _; rw [← hr, List.length_map]
      clear hr o4
      go_wp2
      go_ret2
      exact ⟨by rw [Hl.out]; rfl, b4⟩

theorem narrow_all : (List.range 6).all (fun n => (List.range 31).any fun W => Nat.ble 1 (lkNN W n [0]).length) = true := by decide +kernel
theorem narrow_at {n : Nat} (h1 : 1 ≤ n) (h6 : n ≤ 6) : ∃ W, W ≤ 30 ∧ 0 < (rlA n W).length := by
  have h := List.all_eq_true.1 narrow_all (n - 1) (List.mem_range.2 (by omega))
  obtain ⟨W, hW, h2⟩ := List.any_eq_true.1 h
  refine ⟨W, by have := List.mem_range.1 hW; omega, ?_⟩
  rw [rlA_cl h1 h6, List.length_map]
  exact Nat.le_of_ble_eq_true h2

set_option maxRecDepth 100000 in
set_option maxHeartbeats 1600000 in
theorem impl_NarrowestOpen_c (w : World) (n : Int) :
    Calls Try.prog 32 #[.int .i64 n] w fun en w' => (∃ v, en = .returned (.tuple #[v, .bool (noV n).2]) ∧ OwnI w' w.heap.size v (noV n).1) ∧ Below w.heap.size w w' := by
  cases hk : inB n 1 6 with
  | false =>
    rw [noV_no hk]
    go_enter Try.func32, Try.ntmps32
    go_wp2_with fail
    refine (isSought_c _ _).mono ?_
    rw [hk]
    rintro e w1 ⟨rfl, rfl⟩
    go_wp2
    go_ret2
    exact ⟨⟨_, rfl, OwnI.nil _ _⟩, Below.refl _ _⟩
  | true =>
    obtain ⟨n1, n6⟩ := inB_true.1 hk
    obtain ⟨N, rfl⟩ := Int.eq_ofNat_of_zero_le (show 0 ≤ n by omega)
    rw [noV_yes hk]
    obtain ⟨W0, hW0, hex0⟩ := narrow_at (n := N) (by omega) (by omega)
    have Hex0 := Lib.hid hex0
    obtain ⟨T, hT⟩ : ∃ T, noG N 31 0 = T := ⟨_, rfl⟩
    rw [hT]
    have HT := Lib.hid hT
    clear hT hex0
    go_enter Try.func32, Try.ntmps32
    go_wp2_with fail
    refine (isSought_c _ _).mono ?_
    rw [hk]
    rintro e w1 ⟨rfl, rfl⟩
    go_wp2
    go_loopw [4] (fun i wr => ∃ W : Nat, W ≤ W0 ∧ i = .int .i64 (W : Int) ∧ Hid (noG N (31 - W) W = T) ∧ Below w.heap.size w wr) (fun i _ => 31 - (intOf i).toNat)
    case atStart => exact ⟨0, by omega, rfl, HT, Below.refl _ _⟩
    case round =>
      obtain ⟨W, hW, rfl, hD, hbel⟩ := hrel
      obtain ⟨L, hL⟩ : ∃ L, (rlA N W).length = L := ⟨_, rfl⟩
      by_cases hL0 : 0 < L
      · have Hy : Hid (T = (psL (rlA N W) 0, true)) := by
          show _ = _
          rw [← hD.out, show 31 - W = (30 - W) + 1 by omega]
          exact noG_yes (by rw [hL]; exact hL0)
        go_wp2_with fail
        refine (openPatterns_c _ N W (by omega) (by omega) (by omega)).mono ?_
        rintro e w3 ⟨⟨v3, r, rfl, o3, hr, hr11⟩, b3⟩
        obtain ⟨A3, c3, rfl⟩ := o3.shape
        have hl : r.length = L := by rw [← hL, ← hr, List.length_map]
        have Hel : Hid (psL (rlA N W) 0 = cl ((pnN r 0).take N)) := by
          show _ = _
          have hr0 : 0 < r.length := by omega
          rw [← hr]
          simp [psL, pnN, hr0, List.getD_eq_getElem?_getD]
        obtain ⟨g, rfl, hcl⟩ := clone_pat (i := 0) o3 (by omega) (n := N) (by omega) (by omega)
        rw [Nat.zero_mul] at hcl
        have Hcl := Lib.hid hcl
        rw [hl]
        clear o3 hr hcl hL hl
        have hN8 : (N : Int) ≤ 8 := by omega
        go_wp2_with fail
        refine Hcl.out.mono ?_
        rintro e w4 ⟨⟨v4, rfl, o4⟩, b4⟩
        go_wp2
        go_ret2
        exact ⟨⟨_, by rw [Hy.out]; rfl, by rw [Hy.out]; exact (by rw [Hel.out]; exact OwnI.mono o4 (Nat.le_trans hbel.size b3.size))⟩, hbel.trans ((b3.trans (b4.mono b3.size)).mono hbel.size)⟩
      · have Hlt : Hid (W < W0) := by
          show W < W0
          rcases Nat.lt_or_ge W W0 with h | h
          · exact h
          · have he : W = W0 := by omega
            subst he
            have := Hex0.out
            omega
        have Hy : Hid (noG N (31 - (W + 1)) (W + 1) = T) := by
          show _ = _
          rw [← hD.out, show 31 - W = (31 - (W + 1)) + 1 by omega]
          exact (noG_no (by rw [hL]; exact hL0)).symm
        have hLz : L = 0 := by omega
        subst hLz
        go_wp2_with fail
        refine (openPatterns_c _ N W (by omega) (by omega) (by omega)).mono ?_
        rintro e w3 ⟨⟨v3, r, rfl, o3, hr, hr11⟩, b3⟩
        obtain ⟨A3, c3, rfl⟩ := o3.shape
        have hl : r.length = 0 := by rw [← hL, ← hr, List.length_map]
        rw [hl]
        clear o3 hr hL hl
        go_wp2
        go_roundw
        case rel => exact ⟨W + 1, Hlt.out, by go_num, Hy, hbel.trans (b3.mono hbel.size)⟩
        case measure => simp [intOf]; omega

set_option maxRecDepth 100000 in
set_option maxHeartbeats 1600000 in
theorem impl_AllOpen_c (w : World) (n W : Int) :
    Calls Try.prog 36 #[.int .i64 n, .int .i64 W] w fun en w' => (∃ v, en = .returned (.tuple #[v, .bool (alO n W)]) ∧ OwnLL w' w.heap.size v (alV n W)) ∧ Below w.heap.size w w' := by
  cases hg : inB n 1 6 with
  | false =>
    have ho : alO n W = false := by simp [alO, coO, *]
    rw [alV_no ho, ho]
    clear ho
    go_enter Try.func36, Try.ntmps36
    go_wp2_with fail
    refine (isSought_c _ _).mono ?_
    rintro e w1 ⟨rfl, rfl⟩
    go_wp2
    go_ret2
    exact ⟨⟨_, rfl, OwnLL.nil _ _⟩, (Below.refl _ _)⟩
  | true =>
    cases hk : inB W 0 30 with
    | false =>
      have ho : alO n W = false := by simp [alO, coO, *]
      rw [alV_no ho, ho]
      clear ho
      go_enter Try.func36, Try.ntmps36
      go_wp2_with fail
      refine (isSought_c _ _).mono ?_
      rintro e w1 ⟨rfl, rfl⟩
      go_wp2_with fail
      refine (isWidthSought_c _ _).mono ?_
      rintro e w2 ⟨rfl, rfl⟩
      go_wp2
      go_ret2
      exact ⟨⟨_, rfl, OwnLL.nil _ _⟩, (Below.refl _ _)⟩
    | true =>
      have hco : coO n W = true := by simp [coO, *]
      obtain ⟨n1, n6⟩ := inB_true.1 hg
      obtain ⟨w0, w3⟩ := inB_true.1 hk
      obtain ⟨N, rfl⟩ := Int.eq_ofNat_of_zero_le (show 0 ≤ n by omega)
      obtain ⟨M, rfl⟩ := Int.eq_ofNat_of_zero_le w0
      have ha : alO (N : Int) (M : Int) = decide ((rlA N M).length ≤ 300) := by rw [alO, hco, Int.toNat_natCast, Int.toNat_natCast]; rfl
      obtain ⟨T, hT⟩ : ∃ T, (alV (N : Int) (M : Int), alO (N : Int) (M : Int)) = T := ⟨_, rfl⟩
      have hT1 : alV (N : Int) (M : Int) = T.1 := by rw [← hT]
      have hT2 : alO (N : Int) (M : Int) = T.2 := by rw [← hT]
      rw [hT1, hT2]
      have Ha := Lib.hid ha
      have HT1 := Lib.hid hT1
      have HT2 := Lib.hid hT2
      clear ha hT hT1 hT2 hco
      have Hg := Lib.hid hg
      have Hk := Lib.hid hk
      go_enter Try.func36, Try.ntmps36
      go_wp2_with fail
      refine (isSought_c _ _).mono ?_
      rintro e w1 ⟨rfl, rfl⟩
      go_wp2_with fail
      refine (isWidthSought_c _ _).mono ?_
      rintro e w2 ⟨rfl, rfl⟩
      go_wp2_with fail
      refine (openPatterns_c _ N M (by omega) (by omega) (by omega)).mono ?_
      rintro e w4 ⟨⟨v4, r, rfl, o4, hr, hr11⟩, b4⟩
      obtain ⟨A4, c4, rfl⟩ := o4.shape
      have O4 := Lib.hid o4
      have Hr := Lib.hid hr
      have hl : (rlA N M).length = r.length := by rw [← hr, List.length_map]
      have Hel := Lib.hid (fun k (hk : k < r.length) => show psL (rlA N M) k = cl ((pnN r k).take N) by
        rw [← hr]
        simp [psL, pnN, hk, List.getD_eq_getElem?_getD])
      rw [hl] at Ha
      obtain ⟨L, hL⟩ : ∃ L, r.length = L := ⟨_, rfl⟩
      have HL := Lib.hid hL
      have Hll := Lib.hid (hl.trans hL)
      rw [hL] at Ha hr11 Hel ⊢
      clear o4 hr hl hL
      by_cases hle : L ≤ 300
      rotate_left
      · have ho : alO (N : Int) (M : Int) = false := by rw [Ha.out]; exact decide_eq_false hle
        have H1 : Hid (T.1 = []) := by show _ = _; rw [← HT1.out]; exact alV_no ho
        have H2 : Hid (T.2 = false) := by show _ = _; rw [← HT2.out, ho]
        have hlei : 300 < (L : Int) := by omega
        clear ho
        go_wp2
        go_ret2
        exact ⟨⟨_, by rw [H2.out]; rfl, by rw [H1.out]; exact OwnLL.nil _ _⟩, b4⟩
      · have ho : alO (N : Int) (M : Int) = true := by rw [Ha.out]; exact decide_eq_true hle
        have H1 : Hid (T.1 = rlA N M) := by show _ = _; rw [← HT1.out]; exact alV_yes ho
        have H2 : Hid (T.2 = true) := by show _ = _; rw [← HT2.out, ho]
        have hlei : ¬ 300 < (L : Int) := by omega
        have hN8 : (N : Int) ≤ 8 := by omega
        have hmk := fun W => mk_full Try.underlying38 info_LI L (by omega) (by omega) W
        have hml := mk_owns (e := 22) #[.slice none 0 0] 1 L (by unfold maxLen; omega) w4
        rw [Nat.mul_one] at hml
        clear ho
        go_wp2_with fail
        clear hmk
        go_loopw [28] (fun i wr => ∃ (k : Nat) (vs : List Value), k ≤ L ∧ i = .int .i64 (k : Int) ∧ wr.ownsRow w4.heap.size 22 1 (.slice (some ⟨w4.heap.size, 0, none⟩) L L) L vs ∧ (∀ j, j < k → ∃ u, vs[j]? = some u ∧ OwnI wr (w4.heap.size + 1) u (psL (rlA N M) j)) ∧ (∀ (i j : Nat) (u u' : Value), i < j → j < k → vs[i]? = some u → vs[j]? = some u' → ∀ q, u.ownBlock = some q → u'.ownBlock ≠ some q) ∧ w4.heap.size < wr.heap.size ∧ Below w4.heap.size w4 wr) (fun i _ => L - (intOf i).toNat)
        case atStart => exact ⟨0, _, Nat.zero_le _, rfl, hml, by omega, by omega, by simp, (Below.refl _ _).alloc (Nat.le_refl _) _⟩
        case round =>
          clear hml
          obtain ⟨k, vs, hk, rfl, hown, hin, hdis, hsz, hbel⟩ := hrel
          have Hown := Lib.hid hown
          have Hin := Lib.hid hin
          have Hdis := Lib.hid hdis
          clear hown hin hdis
          by_cases hlt : k < L
          · obtain ⟨g, rfl, hcl⟩ := clone_pat (i := k) (O4.out.below hbel) (by have := HL.out; omega) (n := N) (by omega) (by omega)
            rw [← Hel.out k hlt] at hcl
            have Hcl := Lib.hid hcl
            obtain ⟨x0, hx0, hf0⟩ := own_get Hown.out k (by omega)
            clear hcl
            go_wp2_with fail
            refine Hcl.out.mono ?_
            rintro e w6 ⟨⟨v6, rfl, o6⟩, b6⟩
            have hy0 := (b6.cell (p := ⟨w4.heap.size, k, none⟩) hsz).trans hx0
            have hy1 := (b6.frozen (p := ⟨w4.heap.size, k, none⟩) hsz).trans hf0
            have Hown1 := Lib.hid (own_below Hown.out b6)
            have Ho1 := Lib.hid (OwnI.mono o6 (show w4.heap.size + 1 ≤ wr.heap.size by omega))
            have Hnew := Lib.hid (fun q hq => (World.ownsRow.lt o6 q hq).1)
            have Hin1 := Lib.hid (fun j (hj : j < k) => show ∃ u, vs[j]? = some u ∧ OwnI w6 (w4.heap.size + 1) u (psL (rlA N M) j) ∧ ∀ q, u.ownBlock = some q → q < wr.heap.size from by
              obtain ⟨u, a, o⟩ := Hin.out j hj
              exact ⟨u, a, o.below b6, fun q hq => (World.ownsRow.lt o q hq).2⟩)
            have hs1 := b6.size
            obtain ⟨A6, c6, rfl⟩ := o6.shape
            clear o6 hx0 hf0
            have hvl : vs.length = L * 1 := Hown.out.1
            go_wp2
            go_roundw
            case rel =>
              have st := Hown1.out.stored k (.slice A6 (psL (rlA N M) k).length c6)
              have kp : ∀ {u : Value} {xs : List Int}, OwnI w6 (w4.heap.size + 1) u xs → OwnI (w6.setCell ⟨w4.heap.size, k, none⟩ (.slice A6 (psL (rlA N M) k).length c6)) (w4.heap.size + 1) u xs := fun {u} {xs} o =>
                kept_if o st.2 fun q hq e => by
                  have := (World.ownsRow.lt o q hq).1
                  simp [Value.ownBlock] at e
                  omega
              refine ⟨k + 1, _, by omega, by go_num, st.1, fun j hj => ?_, fun i j u u' hij hj e1 e2 q hq => ?_, by simp; omega, (hbel.trans (b6.mono hbel.size)).setCell (Nat.le_refl _) _⟩
              · rcases Nat.lt_succ_iff_lt_or_eq.1 hj with h | h
                · obtain ⟨u, a, o, _⟩ := Hin1.out j h
                  exact ⟨u, by rw [List.getElem?_set_ne (by omega)]; exact a, kp o⟩
                · subst h
                  exact ⟨_, List.getElem?_set_self (by omega), kp Ho1.out⟩
              · rw [List.getElem?_set_ne (by omega)] at e1
                rcases Nat.lt_succ_iff_lt_or_eq.1 hj with h | h
                · rw [List.getElem?_set_ne (by omega)] at e2
                  exact Hdis.out i j u u' hij h e1 e2 q hq
                · subst h
                  rw [List.getElem?_set_self (by omega)] at e2
                  injection e2 with e2
                  subst e2
                  obtain ⟨u2, a, _, hl⟩ := Hin1.out i hij
                  rw [e1] at a
                  injection a with a
                  subst a
                  have h3 := hl q hq
                  intro e4
                  have h5 := Hnew.out q e4
                  omega
            case measure => simp [intOf]; omega
          · have hkn : k = L := by omega
            have Hk := Lib.hid hkn
            clear hkn
            go_wp2
            go_ret2
            refine ⟨⟨_, by rw [H2.out]; rfl, ?_⟩, b4.trans (hbel.mono b4.size)⟩
            rw [H1.out]
            refine OwnLL.mono (B := w4.heap.size) ⟨vs, by rw [Hll.out]; exact Hown.out, fun i hi => ?_, fun i j u u' hij e1 e2 => ?_⟩ b4.size
            · obtain ⟨u, a, o⟩ := Hin.out i (by have := Hk.out; have := Hll.out; omega)
              exact ⟨u, a, OwnI.mono o (Nat.le_succ _)⟩
            · have hj : j < L := by
                have h1 := (List.getElem?_eq_some_iff.1 e2).1
                have h2 := Hown.out.1
                omega
              exact Hdis.out i j u u' hij (by have := Hk.out; omega) e1 e2

theorem noG_size {n : Nat} (hn : 1 ≤ n) : ∀ f W, (noG n f W).1.length ≤ n
  | 0, _ => Nat.zero_le _
  | f + 1, W => by
    by_cases h : 0 < (rlA n W).length
    · rw [noG_yes h]
      have hm : psL (rlA n W) 0 ∈ rlA n W := by
        rw [← psL_get h]
        exact List.getElem_mem h
      exact Nat.le_of_eq (rlA_size hn hm)
    · rw [noG_no h]
      exact noG_size hn f (W + 1)
theorem noV_len (n : Int) : (noV n).1.length ≤ 1048576 := by
  cases h : inB n 1 6 with
  | false => rw [noV_no h]; simp
  | true =>
    obtain ⟨n1, n6⟩ := inB_true.1 h
    obtain ⟨N, rfl⟩ := Int.eq_ofNat_of_zero_le (show 0 ≤ n by omega)
    rw [noV_yes h]
    have := noG_size (n := N) (by omega) 31 0
    omega
theorem alV_sum {n W : Int} : ∀ i, i ≤ (alV n W).length → sumL (alV n W) i ≤ 6 * i
  | 0, _ => Nat.zero_le _
  | i + 1, h => by
    have ih := alV_sum (n := n) (W := W) i (by omega)
    rw [sumL_succ (by omega)]
    have hm : psL (alV n W) i ∈ alV n W := by
      rw [← psL_get (show i < (alV n W).length by omega)]
      exact List.getElem_mem (show i < (alV n W).length by omega)
    cases ho : alO n W with
    | false => rw [alV_no ho] at hm; cases hm
    | true =>
      have h2 := ho
      rw [alO, coO, Bool.and_eq_true, Bool.and_eq_true] at h2
      obtain ⟨n1, n6⟩ := inB_true.1 h2.1.1
      have he : alV n W = rlA n.toNat W.toNat := by rw [alV, ho]; rfl
      rw [he] at hm
      have := rlA_size (n := n.toNat) (by omega) hm
      rw [he] at ih ⊢
      omega
theorem alV_len (n W : Int) : (alV n W).length ≤ 1048576 ∧ sumL (alV n W) (alV n W).length ≤ 1048576 := by
  have h := alV_sum (n := n) (W := W) _ (Nat.le_refl _)
  have hl : (alV n W).length ≤ 300 := by
    cases ho : alO n W with
    | false => rw [alV_no ho]; simp
    | true =>
      have h2 := ho
      rw [alO, Bool.and_eq_true, decide_eq_true_eq] at h2
      have he : alV n W = rlA n.toNat W.toNat := by rw [alV, ho]; rfl
      rw [he]
      exact h2.2
  omega

end Go.Proofs.Ytgnmookklplnmaa
