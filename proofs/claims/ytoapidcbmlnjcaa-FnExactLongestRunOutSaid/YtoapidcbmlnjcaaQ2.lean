import Derived.Test.YtoapidcbmlnjcaaQ1
namespace Go.Proofs.Ytoapidcbmlnjcaa
open Go.RowKit
set_option linter.unusedVariables false
set_option linter.unusedSimpArgs false

theorem l1MostQ_c (a b : Int) (w : World) :
    Calls Try.prog 79 #[.int .i64 a, .int .i64 b] w fun e w' => e = .returned (.int .i64 (max a b)) ∧ w = w' := by
  by_cases h : b < a
  · rw [show max a b = a by omega]
    go_enter Try.func79, Try.ntmps79
    go_wp2
    go_ret
    exact ⟨rfl, rfl⟩
  · rw [show max a b = b by omega]
    go_enter Try.func79, Try.ntmps79
    go_wp2
    go_ret
    exact ⟨rfl, rfl⟩
theorem gpGapsF_c (w : World) (A : Option Addr) (m c : Nat) (rs : List (Int × Int)) (hA : Rl w A rs) (hm : m = rs.length) (hn : m ≤ 1048576) (ho : gpO rs = false) :
    Calls Try.prog 73 #[.slice A m c] w fun en w' => (∃ A1 c1 A2 c2, en = .returned (.tuple #[.slice A1 0 c1, .slice A2 0 c2, .bool false])) ∧ Below w.heap.size w w' :=
  (gpGaps_c w A m c rs hA hm hn).mono fun e w' h => by
    obtain ⟨⟨v, u, rfl, ov, ou⟩, b⟩ := h
    rw [gpGA_no ho] at ov
    rw [gpA_no ho] at ou
    obtain ⟨A1, c1, rfl⟩ := ov.shape
    obtain ⟨A2, c2, rfl⟩ := ou.shape
    exact ⟨⟨A1, c1, A2, c2, by rw [ho]; rfl⟩, b⟩
theorem gpGapsT_c (w : World) (A : Option Addr) (m c : Nat) (rs : List (Int × Int)) (hA : Rl w A rs) (hm : m = rs.length) (hn : m ≤ 1048576) (ho : gpO rs = true) :
    Calls Try.prog 73 #[.slice A m c] w fun en w' => (∃ g c1 g2 c2, en = .returned (.tuple #[.slice (some ⟨g, 0, none⟩) (gpA rs).length c1, .slice (some ⟨g2, 0, none⟩) (gpA rs).length c2, .bool true]) ∧ g < w'.heap.size ∧ g2 < w'.heap.size ∧
      (∀ j, j < (gpA rs).length → w'.cell? ⟨g, j, none⟩ = some (.int .i64 (ivL (gpGA rs) j))) ∧ ∀ j, j < (gpA rs).length → w'.cell? ⟨g2, j, none⟩ = some (.int .i64 (ivL (gpA rs) j))) ∧ Below w.heap.size w w' :=
  (gpGaps_c w A m c rs hA hm hn).mono fun e w' h => by
    obtain ⟨⟨v, u, rfl, ov, ou⟩, b⟩ := h
    have hpos := (gpO_parts ho).2
    have hl := gpGA_len rs
    have fv := own_forms ov
    have fu := own_forms ou
    rw [hl] at fv
    have nv : ¬ gpGA rs = [] := fun h => by rw [h] at hl; simp at hl; omega
    have nu : ¬ gpA rs = [] := fun h => by rw [h] at hpos; simp at hpos
    obtain ⟨g, c1, rfl, _, h1, _⟩ := fv.resolve_left fun h => nv h.2
    obtain ⟨g2, c2, rfl, _, h2, _⟩ := fu.resolve_left fun h => nu h.2
    exact ⟨⟨g, c1, g2, c2, by rw [ho], h1, h2, fun j hj => (World.ownsRow.cellAt (OwnI.own_n ov hl.symm) j (by omega)).trans (ivL_get _ _ (by rw [hl]; exact hj)), fun j hj => (World.ownsRow.cellAt ou j (by omega)).trans (ivL_get _ _ hj)⟩, b⟩

theorem gpGapsB_c (w : World) (A : Option Addr) (m c : Nat) (rs : List (Int × Int)) (hA : Rl w A rs) (hm : m = rs.length) (hn : m ≤ 1048576) (ho : gpO rs = true) :
    Calls Try.prog 73 #[.slice A m c] w fun en w' => (∃ A1 m1 c1 A2 m2 c2, en = .returned (.tuple #[.slice A1 m1 c1, .slice A2 m2 c2, .bool true])) ∧ Below w.heap.size w w' :=
  (gpGapsT_c w A m c rs hA hm hn ho).mono fun e w' h => by
    obtain ⟨⟨g, c1, g2, c2, rfl, _⟩, b⟩ := h
    exact ⟨⟨_, _, _, _, _, _, rfl⟩, b⟩
set_option maxRecDepth 100000 in
theorem spec_GapsOfPeriod_c (w : World) (A : Option Addr) (m c : Nat) (rs : List (Int × Int)) (hA : Rl w A rs) (hm : m = rs.length) (hn : m ≤ 1048576) :
    Calls Try.prog 30 #[.slice A m c] w fun en w' => (∃ v, en = .returned (.tuple #[v, .bool (gpO rs)]) ∧ OwnI w' w.heap.size v (gpGA rs)) ∧ Below w.heap.size w w' := by
  cases ho : gpO rs with
  | false =>
    have Hc := Lib.hid (gpGapsF_c w A m c rs hA hm hn ho)
    rw [gpGA_no ho]
    clear ho hm
    go_enter Try.func30, Try.ntmps30
    go_wp2_with fail
    refine Hc.out.mono ?_
    rintro e w2 ⟨⟨A1, c1, A2, c2, rfl⟩, b2⟩
    go_wp2
    go_ret2
    exact ⟨⟨_, rfl, OwnI.nil _ _⟩, b2⟩
  | true =>
    have hc := gpGaps_c w A m c rs hA hm hn
    rw [ho] at hc
    have Hc := Lib.hid hc
    clear ho hm hc
    go_enter Try.func30, Try.ntmps30
    go_wp2_with fail
    refine Hc.out.mono ?_
    rintro e w2 ⟨⟨v, u, rfl, ov, ou⟩, b2⟩
    have Ov := Lib.hid ov
    obtain ⟨A1, m1, c1, hv⟩ : ∃ A1 m1 c1, v = .slice A1 m1 c1 := by obtain ⟨A, c, e⟩ := ov.shape; exact ⟨A, _, c, e⟩
    obtain ⟨A2, m2, c2, hu⟩ : ∃ A1 m1 c1, u = .slice A1 m1 c1 := by obtain ⟨A, c, e⟩ := ou.shape; exact ⟨A, _, c, e⟩
    subst hv hu
    clear ov ou
    go_wp2
    go_ret2
    exact ⟨⟨_, rfl, Ov.out⟩, b2⟩

def lgV (rs : List (Int × Int)) : Int := if gpO rs then ivL (gpGA rs) (bgI (gpGA rs) (gpA rs).length) else 0
def lgN (rs : List (Int × Int)) : Int := if gpO rs then ivL (gpA rs) (bgI (gpGA rs) (gpA rs).length) else 0
theorem lgV_no {rs : List (Int × Int)} (h : gpO rs = false) : lgV rs = 0 := by rw [lgV, h]; rfl
theorem lgN_no {rs : List (Int × Int)} (h : gpO rs = false) : lgN rs = 0 := by rw [lgN, h]; rfl
theorem lgV_yes {rs : List (Int × Int)} (h : gpO rs = true) : lgV rs = ivL (gpGA rs) (bgI (gpGA rs) (gpA rs).length) := by rw [lgV, h]; rfl
theorem lgN_yes {rs : List (Int × Int)} (h : gpO rs = true) : lgN rs = ivL (gpA rs) (bgI (gpGA rs) (gpA rs).length) := by rw [lgN, h]; rfl
set_option maxRecDepth 100000 in
set_option maxHeartbeats 1000000 in
theorem spec_LongestGap_c (w : World) (A : Option Addr) (m c : Nat) (rs : List (Int × Int)) (hA : Rl w A rs) (hm : m = rs.length) (hn : m ≤ 1048576) :
    Calls Try.prog 32 #[.slice A m c] w fun en w' => en = .returned (.tuple #[.int .i64 (lgV rs), .int .i64 (lgN rs), .bool (gpO rs)]) ∧ Below w.heap.size w w' := by
  have Hm := Lib.hid hm
  cases ho : gpO rs with
  | false =>
    have Hc := Lib.hid (gpGapsF_c w A m c rs hA hm hn ho)
    rw [lgV_no ho, lgN_no ho]
    clear ho hm
    go_enter Try.func32, Try.ntmps32
    go_wp2_with fail
    refine Hc.out.mono ?_
    rintro e w2 ⟨⟨A1, c1, A2, c2, rfl⟩, b2⟩
    go_wp2
    go_ret3
    exact ⟨rfl, b2⟩
  | true =>
    have Hc := Lib.hid (gpGapsT_c w A m c rs hA hm hn ho)
    have Ho := Lib.hid ho
    have hpos := (gpO_parts ho).2
    have hl9 := gpA_len rs
    have Hgb := Lib.hid (fun k (hk : k < (gpA rs).length) => (gpGA_at hk ▸ gpI_bound ho hk : -100000 ≤ ivL (gpGA rs) k ∧ ivL (gpGA rs) k ≤ 200000))
    have Hab := Lib.hid (fun k (hk : k < (gpA rs).length) => gpA_at hk)
    have Hgl := Lib.hid (gpGA_len rs)
    rw [lgV_yes ho, lgN_yes ho]
    obtain ⟨S, hS⟩ : ∃ S, (gpA rs).length = S := ⟨_, rfl⟩
    have HS := Lib.hid hS
    rw [hS] at Hc hpos hl9 Hgb Hab Hgl
    obtain ⟨G, hG⟩ : ∃ G, gpGA rs = G := ⟨_, rfl⟩
    have HG := Lib.hid hG
    rw [hG] at Hc Hgb Hgl
    have Hbl := Lib.hid (fun k => bgI_le G k)
    rw [hS, hG]
    clear hS hG hm ho
    go_enter Try.func32, Try.ntmps32
    go_wp2_with fail
    refine Hc.out.mono ?_
    rintro e w2 ⟨⟨g, c1, g2, c2, rfl, hg, hg2, hcg, hca⟩, b2⟩
    have Hcg := Lib.hid hcg
    have Hca := Lib.hid hca
    have hSI : (0 : Int) < (S : Int) := by omega
    clear hcg hca
    go_wp2
    go_loop [8, 9, 10, 21] (fun b _ _ i => ∃ k : Nat, k ≤ S ∧ i = .int .i64 (k : Int) ∧ b = .int .i64 (bgI G k : Int)) (fun _ _ _ i => S - (intOf i).toNat)
    case atStart => exact ⟨0, Nat.zero_le _, rfl, rfl⟩
    case round =>
      obtain ⟨k, hk, rfl, rfl⟩ := hrel
      have hbl := Hbl.out k
      by_cases hlt : k < S
      · have hck := Hcg.out k hlt
        have hcb := Hcg.out (bgI G k) (by omega)
        have hki : (k : Int) < (S : Int) := by omega
        have hy := fun h => bgI_more (xs := G) (k := k) h
        have hz := fun h => bgI_same (xs := G) (k := k) h
        obtain ⟨B, hB⟩ : ∃ B, bgI G k = B := ⟨_, rfl⟩
        rw [hB] at hcb hy hz hbl ⊢
        have hBi : (B : Int) < (S : Int) := by omega
        clear hB
        by_cases hx : ivL G B < ivL G k
        · have Hy := Lib.hid (hy hx)
          clear hy hz
          go_wp2
          go_round
          case rel => exact ⟨k + 1, by omega, by go_num, by rw [Hy.out]⟩
          case measure => simp [intOf]; omega
        · have Hy := Lib.hid (hz hx)
          clear hy hz
          go_wp2
          go_round
          case rel => exact ⟨k + 1, by omega, by go_num, by rw [Hy.out]⟩
          case measure => simp [intOf]; omega
      · have Hk := Lib.hid (show k = S by omega)
        have hcb := Hcg.out (bgI G k) (by omega)
        have hcc := Hca.out (bgI G k) (by omega)
        obtain ⟨B, hB⟩ : ∃ B, bgI G k = B := ⟨_, rfl⟩
        have HB : Hid (bgI G S = B) := by show _ = _; rw [← Hk.out, hB]
        rw [hB] at hcb hcc hbl ⊢
        have hBi : (B : Int) < (S : Int) := by omega
        clear hB
        go_wp2_with fail
        go_quiet (fail)
        go_wp2
        go_ret3
        exact ⟨by rw [HB.out]; rfl, below_drewN b2 _⟩


def cgO (rs : List (Int × Int)) (g : Int) : Bool := gpO rs && decide (1 ≤ g)
def cgV (rs : List (Int × Int)) (g : Int) : Int := if cgO rs g then (cnE (gpGA rs) g (gpA rs).length : Int) else 0
theorem cgV_no {rs : List (Int × Int)} {g : Int} (h : cgO rs g = false) : cgV rs g = 0 := by rw [cgV, h]; rfl
theorem cgV_yes {rs : List (Int × Int)} {g : Int} (h : cgO rs g = true) : cgV rs g = (cnE (gpGA rs) g (gpA rs).length : Int) := by rw [cgV, h]; rfl
set_option maxRecDepth 100000 in
set_option maxHeartbeats 1000000 in
theorem spec_CountGaps_c (w : World) (A : Option Addr) (m c : Nat) (rs : List (Int × Int)) (hA : Rl w A rs) (hm : m = rs.length) (hn : m ≤ 1048576) (q : Int) :
    Calls Try.prog 34 #[.slice A m c, .int .i64 q] w fun en w' => en = .returned (.tuple #[.int .i64 (cgV rs q), .bool (cgO rs q)]) ∧ Below w.heap.size w w' := by
  have Hm := Lib.hid hm
  cases ho : gpO rs with
  | false =>
    have Hc := Lib.hid (gpGapsF_c w A m c rs hA hm hn ho)
    have hq : cgO rs q = false := by rw [cgO, ho]; rfl
    rw [cgV_no hq, hq]
    clear hq
    clear ho hm
    go_enter Try.func34, Try.ntmps34
    go_wp2_with fail
    refine Hc.out.mono ?_
    rintro e w2 ⟨⟨A1, c1, A2, c2, rfl⟩, b2⟩
    go_wp2
    go_ret2
    exact ⟨rfl, b2⟩
  | true =>
    have Hc := Lib.hid (gpGapsT_c w A m c rs hA hm hn ho)
    have Ho := Lib.hid ho
    have hpos := (gpO_parts ho).2
    have hl9 := gpA_len rs
    have Hgb := Lib.hid (fun k (hk : k < (gpA rs).length) => (gpGA_at hk ▸ gpI_bound ho hk : -100000 ≤ ivL (gpGA rs) k ∧ ivL (gpGA rs) k ≤ 200000))
    have Hab := Lib.hid (fun k (hk : k < (gpA rs).length) => gpA_at hk)
    have Hgl := Lib.hid (gpGA_len rs)
    by_cases hq1 : 1 ≤ q
    rotate_left
    · have Hb := Lib.hid (gpGapsB_c w A m c rs hA hm hn ho)
      have hq : cgO rs q = false := by rw [cgO, decide_eq_false hq1, Bool.and_false]
      rw [cgV_no hq, hq]
      have hq2 : q < 1 := by omega
      clear hq ho hq1 hm
      clear hpos hl9 Hgb Hab Hgl Hc
      go_enter Try.func34, Try.ntmps34
      go_wp2_with fail
      refine Hb.out.mono ?_
      rintro e w2 ⟨⟨A1, m1, c1, A2, m2, c2, rfl⟩, b2⟩
      go_wp2
      go_ret2
      exact ⟨rfl, b2⟩
    have hq : cgO rs q = true := by rw [cgO, ho, decide_eq_true hq1]; rfl
    rw [cgV_yes hq, hq]
    clear hq
    obtain ⟨S, hS⟩ : ∃ S, (gpA rs).length = S := ⟨_, rfl⟩
    have HS := Lib.hid hS
    rw [hS] at Hc hpos hl9 Hgb Hab Hgl
    obtain ⟨G, hG⟩ : ∃ G, gpGA rs = G := ⟨_, rfl⟩
    have HG := Lib.hid hG
    rw [hG] at Hc Hgb Hgl
    rw [hS, hG]
    clear hS hG hm ho
    go_enter Try.func34, Try.ntmps34
    go_wp2_with fail
    refine Hc.out.mono ?_
    rintro e w2 ⟨⟨g, c1, g2, c2, rfl, hg, hg2, hcg, hca⟩, b2⟩
    have Hcg := Lib.hid hcg
    have Hca := Lib.hid hca
    have hSI : (0 : Int) < (S : Int) := by omega
    clear hcg hca
    go_wp2
    go_loop [9, 11, 26] (fun n _ i => ∃ k : Nat, k ≤ S ∧ i = .int .i64 (k : Int) ∧ n = .int .i64 (cnE G q k : Int)) (fun _ _ i => S - (intOf i).toNat)
    case atStart => exact ⟨0, Nat.zero_le _, rfl, rfl⟩
    case round =>
      obtain ⟨k, hk, rfl, rfl⟩ := hrel
      have hcl := cnE_le G q k
      by_cases hlt : k < S
      · have hck := Hcg.out k hlt
        have hki : (k : Int) < (S : Int) := by omega
        by_cases hx : ivL G k = q
        · have Hy := Lib.hid (cnE_yes hx)
          have hxb : (ivL G k == q) = true := by rw [beq_iff_eq]; exact hx
          clear hx
          go_wp2
          go_round
          case rel => exact ⟨k + 1, by omega, by go_num, by rw [Hy.out]; go_num⟩
          case measure => simp [intOf]; omega
        · have Hy := Lib.hid (cnE_no hx)
          have hxb : (ivL G k == q) = false := beq_eq_false_iff_ne.2 hx
          clear hx
          go_wp2
          go_round
          case rel => exact ⟨k + 1, by omega, by go_num, by rw [Hy.out]⟩
          case measure => simp [intOf]; omega
      · have Hk := Lib.hid (show k = S by omega)
        go_wp2
        go_ret2
        exact ⟨by rw [← Hk.out]; rfl, b2⟩


theorem mxO_bound {xs : List Int} {S : Nat} (h : ∀ k, k < S → -100000 ≤ ivL xs k ∧ ivL xs k ≤ 200000) : ∀ k, k ≤ S → 0 ≤ mxO xs k ∧ mxO xs k ≤ 200000
  | 0, _ => by simp [mxO]
  | k + 1, hk => by
    have h1 := mxO_bound h k (by omega)
    have h2 := h k (by omega)
    rw [mxO]
    omega
def roV (rs : List (Int × Int)) : Int := if gpO rs then mxO (gpGA rs) (gpA rs).length else 0
theorem roV_no {rs : List (Int × Int)} (h : gpO rs = false) : roV rs = 0 := by rw [roV, h]; rfl
theorem roV_yes {rs : List (Int × Int)} (h : gpO rs = true) : roV rs = mxO (gpGA rs) (gpA rs).length := by rw [roV, h]; rfl
set_option maxRecDepth 100000 in
set_option maxHeartbeats 1000000 in
theorem spec_LongestRunOut_c (w : World) (A : Option Addr) (m c : Nat) (rs : List (Int × Int)) (hA : Rl w A rs) (hm : m = rs.length) (hn : m ≤ 1048576) :
    Calls Try.prog 41 #[.slice A m c] w fun en w' => en = .returned (.tuple #[.int .i64 (roV rs), .bool (gpO rs)]) ∧ Below w.heap.size w w' := by
  have Hm := Lib.hid hm
  cases ho : gpO rs with
  | false =>
    have Hc := Lib.hid (gpGapsF_c w A m c rs hA hm hn ho)
    rw [roV_no ho]
    clear ho hm
    go_enter Try.func41, Try.ntmps41
    go_wp2_with fail
    refine Hc.out.mono ?_
    rintro e w2 ⟨⟨A1, c1, A2, c2, rfl⟩, b2⟩
    go_wp2
    go_ret2
    exact ⟨rfl, b2⟩
  | true =>
    have Hc := Lib.hid (gpGapsT_c w A m c rs hA hm hn ho)
    have Ho := Lib.hid ho
    have hpos := (gpO_parts ho).2
    have hl9 := gpA_len rs
    have Hgb := Lib.hid (fun k (hk : k < (gpA rs).length) => (gpGA_at hk ▸ gpI_bound ho hk : -100000 ≤ ivL (gpGA rs) k ∧ ivL (gpGA rs) k ≤ 200000))
    have Hab := Lib.hid (fun k (hk : k < (gpA rs).length) => gpA_at hk)
    have Hgl := Lib.hid (gpGA_len rs)
    rw [roV_yes ho]
    obtain ⟨S, hS⟩ : ∃ S, (gpA rs).length = S := ⟨_, rfl⟩
    have HS := Lib.hid hS
    rw [hS] at Hc hpos hl9 Hgb Hab Hgl
    obtain ⟨G, hG⟩ : ∃ G, gpGA rs = G := ⟨_, rfl⟩
    have HG := Lib.hid hG
    rw [hG] at Hc Hgb Hgl
    rw [hS, hG]
    have Hmb := Lib.hid (fun k hk => mxO_bound (xs := G) (S := S) Hgb.out k hk)
    clear hS hG hm ho
    go_enter Try.func41, Try.ntmps41
    go_wp2_with fail
    refine Hc.out.mono ?_
    rintro e w2 ⟨⟨g, c1, g2, c2, rfl, hg, hg2, hcg, hca⟩, b2⟩
    have Hcg := Lib.hid hcg
    have Hca := Lib.hid hca
    have hSI : (0 : Int) < (S : Int) := by omega
    clear hcg hca
    go_wp2
    go_loop [7, 9, 20] (fun n _ i => ∃ k : Nat, k ≤ S ∧ i = .int .i64 (k : Int) ∧ n = .int .i64 (mxO G k)) (fun _ _ i => S - (intOf i).toNat)
    case atStart => exact ⟨0, Nat.zero_le _, rfl, rfl⟩
    case round =>
      obtain ⟨k, hk, rfl, rfl⟩ := hrel
      have hmb := Hmb.out k hk
      by_cases hlt : k < S
      · have hck := Hcg.out k hlt
        have hgb := Hgb.out k hlt
        have hki : (k : Int) < (S : Int) := by omega
        have Hy : Hid (mxO G (k + 1) = max (mxO G k) (ivL G k - 1)) := rfl
        obtain ⟨M, hM⟩ : ∃ M, mxO G k = M := ⟨_, rfl⟩
        obtain ⟨X, hX⟩ : ∃ X, ivL G k = X := ⟨_, rfl⟩
        rw [hM] at Hy hmb ⊢
        rw [hX] at Hy hgb hck
        have Hc := Lib.hid (fun W => l1MostQ_c M (X - 1) W)
        obtain ⟨Z, hZ⟩ : ∃ Z, max M (X - 1) = Z := ⟨_, rfl⟩
        rw [hZ] at Hy Hc
        clear hM hX hZ
        go_wp2_with fail
        refine (Hc.out _).mono ?_
        rintro e w3 ⟨rfl, rfl⟩
        go_wp2
        go_round
        case rel => exact ⟨k + 1, by omega, by go_num, by rw [Hy.out]⟩
        case measure => simp [intOf]; omega
      · have Hk := Lib.hid (show k = S by omega)
        go_wp2
        go_ret2
        exact ⟨by rw [← Hk.out]; rfl, b2⟩


def rlO (rs : List (Int × Int)) : Bool := gpO rs && decide (0 < rs.length)
def rlV (rs : List (Int × Int)) : Int := if rlO rs then ((rnL (gpGA rs) (2 * (gpA rs).length)).1 : Int) else 0
theorem rlV_no {rs : List (Int × Int)} (h : rlO rs = false) : rlV rs = 0 := by rw [rlV, h]; rfl
theorem rlV_yes {rs : List (Int × Int)} (h : rlO rs = true) : rlV rs = ((rnL (gpGA rs) (2 * (gpA rs).length)).1 : Int) := by rw [rlV, h]; rfl
set_option maxRecDepth 100000 in
set_option maxHeartbeats 1000000 in
theorem spec_LongestRunLeft_c (w : World) (A : Option Addr) (m c : Nat) (rs : List (Int × Int)) (hA : Rl w A rs) (hm : m = rs.length) (hn : m ≤ 1048576) :
    Calls Try.prog 43 #[.slice A m c] w fun en w' => en = .returned (.tuple #[.int .i64 (rlV rs), .bool (rlO rs)]) ∧ Below w.heap.size w w' := by
  have Hm := Lib.hid hm
  cases ho : gpO rs with
  | false =>
    have Hc := Lib.hid (gpGapsF_c w A m c rs hA hm hn ho)
    have hq : rlO rs = false := by rw [rlO, ho]; rfl
    rw [rlV_no hq, hq]
    clear hq
    clear ho hm
    go_enter Try.func43, Try.ntmps43
    go_wp2_with fail
    refine Hc.out.mono ?_
    rintro e w2 ⟨⟨A1, c1, A2, c2, rfl⟩, b2⟩
    go_wp2
    go_ret2
    exact ⟨rfl, b2⟩
  | true =>
    have Hc := Lib.hid (gpGapsT_c w A m c rs hA hm hn ho)
    have Ho := Lib.hid ho
    have hpos := (gpO_parts ho).2
    have hl9 := gpA_len rs
    have Hgb := Lib.hid (fun k (hk : k < (gpA rs).length) => (gpGA_at hk ▸ gpI_bound ho hk : -100000 ≤ ivL (gpGA rs) k ∧ ivL (gpGA rs) k ≤ 200000))
    have Hab := Lib.hid (fun k (hk : k < (gpA rs).length) => gpA_at hk)
    have Hgl := Lib.hid (gpGA_len rs)
    by_cases hq1 : 0 < rs.length
    rotate_left
    · have Hb := Lib.hid (gpGapsB_c w A m c rs hA hm hn ho)
      have hq : rlO rs = false := by rw [rlO, decide_eq_false hq1, Bool.and_false]
      rw [rlV_no hq, hq]
      have hm0 : m = 0 := by omega
      subst hm0
      clear hq ho hq1 hm
      clear hpos hl9 Hgb Hab Hgl Hc
      go_enter Try.func43, Try.ntmps43
      go_wp2_with fail
      refine Hb.out.mono ?_
      rintro e w2 ⟨⟨A1, m1, c1, A2, m2, c2, rfl⟩, b2⟩
      go_wp2
      go_ret2
      exact ⟨rfl, b2⟩
    have hq : rlO rs = true := by rw [rlO, ho, decide_eq_true hq1]; rfl
    rw [rlV_yes hq, hq]
    have hmb : ((m : Int) == 0) = false := beq_eq_false_iff_ne.2 (by omega)
    clear hq hq1
    obtain ⟨S, hS⟩ : ∃ S, (gpA rs).length = S := ⟨_, rfl⟩
    have HS := Lib.hid hS
    rw [hS] at Hc hpos hl9 Hgb Hab Hgl
    obtain ⟨G, hG⟩ : ∃ G, gpGA rs = G := ⟨_, rfl⟩
    have HG := Lib.hid hG
    rw [hG] at Hc Hgb Hgl
    rw [hS, hG]
    clear hS hG hm ho
    go_enter Try.func43, Try.ntmps43
    go_wp2_with fail
    refine Hc.out.mono ?_
    rintro e w2 ⟨⟨g, c1, g2, c2, rfl, hg, hg2, hcg, hca⟩, b2⟩
    have Hcg := Lib.hid hcg
    have Hca := Lib.hid hca
    have hSI : (0 : Int) < (S : Int) := by omega
    clear hcg hca
    go_wp2
    go_loop [7, 8, 9] (fun a b i => ∃ k x y : Nat, k ≤ 2 * S ∧ i = .int .i64 (k : Int) ∧ a = .int .i64 (x : Int) ∧ b = .int .i64 (y : Int) ∧ rnL G k = (x, y)) (fun _ _ i => 2 * S - (intOf i).toNat)
    case atStart => exact ⟨0, 1, 1, Nat.zero_le _, rfl, rfl, rfl, rfl⟩
    case round =>
      obtain ⟨k, x, y, hk, rfl, rfl, rfl, hxy⟩ := hrel
      have hcl := rnL_le G k
      rw [hxy] at hcl
      dsimp only at hcl
      have Hxy := Lib.hid hxy
      clear hxy
      by_cases hlt : k < 2 * S
      · obtain ⟨r, hr⟩ : ∃ r, k % S = r := ⟨_, rfl⟩
        have hr9 : r < S := by rw [← hr]; exact Nat.mod_lt _ hpos
        have hri : (k : Int) % (S : Int) = (r : Int) := by rw [← hr, Int.natCast_emod]
        have hck := Hcg.out r hr9
        have hki : (k : Int) < 2 * (S : Int) := by omega
        have hz : ((S : Int) == 0) = false := beq_eq_false_iff_ne.2 (by omega)
        have hrS : (r : Int) < (S : Int) := by omega
        have hyy := fun h => rnL_yes (xs := G) (k := k) h
        have hzz := fun h => rnL_no (xs := G) (k := k) h
        rw [Hgl.out, hr, Hxy.out] at hyy hzz
        dsimp only at hyy hzz
        by_cases hx : ivL G r = 1
        · have hxb : (ivL G r == 1) = true := by rw [beq_iff_eq]; exact hx
          have Hy := Lib.hid (hyy hx)
          have Hc := Lib.hid (fun W => l1MostQ_c (x : Int) ((y : Int) + 1) W)
          rw [show max (x : Int) ((y : Int) + 1) = ((max x (y + 1) : Nat) : Int) by omega] at Hc
          obtain ⟨Z, hZ⟩ : ∃ Z, max x (y + 1) = Z := ⟨_, rfl⟩
          rw [hZ] at Hc Hy
          clear hx hyy hzz hr hZ
          go_wp2_with fail
          refine (Hc.out _).mono ?_
          rintro e w3 ⟨rfl, rfl⟩
          go_wp2
          go_round
          case rel => exact ⟨k + 1, Z, y + 1, by omega, by go_num, rfl, by go_num, Hy.out⟩
          case measure => simp [intOf]; omega
        · have hxb : (ivL G r == 1) = false := beq_eq_false_iff_ne.2 hx
          have Hy := Lib.hid (hzz hx)
          have Hc := Lib.hid (fun W => l1MostQ_c (x : Int) 1 W)
          rw [show max (x : Int) 1 = ((max x 1 : Nat) : Int) by omega] at Hc
          obtain ⟨Z, hZ⟩ : ∃ Z, max x 1 = Z := ⟨_, rfl⟩
          rw [hZ] at Hc Hy
          clear hx hyy hzz hr hZ
          go_wp2_with fail
          refine (Hc.out _).mono ?_
          rintro e w3 ⟨rfl, rfl⟩
          go_wp2
          go_round
          case rel => exact ⟨k + 1, Z, 1, by omega, by go_num, rfl, rfl, Hy.out⟩
          case measure => simp [intOf]; omega
      · have Hk := Lib.hid (show k = 2 * S by omega)
        go_wp2
        go_ret2
        exact ⟨by rw [← Hk.out, Hxy.out]; rfl, b2⟩


end Go.Proofs.Ytoapidcbmlnjcaa
