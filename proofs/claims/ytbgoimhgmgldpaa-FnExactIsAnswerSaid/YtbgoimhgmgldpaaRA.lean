import Derived.Test.YtbgoimhgmgldpaaR9
import Derived.Test.YtbgoimhgmgldpaaR4
namespace Go.Proofs.Ytbgoimhgmgldpaa
open Go.RowKit
set_option linter.unusedVariables false
set_option linter.unusedSimpArgs false

/-- What IsAnswer asks of the rule at k: its Every, that it fits, that it comes behind the one before. -/
def iaP (s : ByteArray) (rs : List (Int × Int)) (k : Nat) : Bool := k == 0 || lsB (evL rs (k - 1)) (reL rs (k - 1)) (evL rs k) (reL rs k)
def iaA (s : ByteArray) (rs : List (Int × Int)) (k : Nat) : Bool := decide (evL rs k ≤ 10) && fitB s (evL rs k) (reL rs k) && iaP s rs k
def iaL (s : ByteArray) (rs : List (Int × Int)) : Bool := (List.range rs.length).all (iaA s rs)
theorem iaL_no {s : ByteArray} {rs : List (Int × Int)} {i : Nat} (hi : i < rs.length) (h : iaA s rs i = false) : iaL s rs = false := by
  rw [iaL, List.all_eq_false]
  exact ⟨i, List.mem_range.2 hi, by rw [h]; decide⟩
theorem iaL_yes {s : ByteArray} {rs : List (Int × Int)} (h : ∀ i, i < rs.length → iaA s rs i = true) : iaL s rs = true := by
  rw [iaL, List.all_eq_true]
  exact fun i hi => h i (List.mem_range.1 hi)
theorem iaA_big {s : ByteArray} {rs : List (Int × Int)} {k : Nat} (h : ¬ evL rs k ≤ 10) : iaA s rs k = false := by rw [iaA, decide_eq_false h]; rfl
theorem iaA_unfit {s : ByteArray} {rs : List (Int × Int)} {k : Nat} (h : fitB s (evL rs k) (reL rs k) = false) : iaA s rs k = false := by rw [iaA, h, Bool.and_false]; rfl
theorem iaA_prev {s : ByteArray} {rs : List (Int × Int)} {k : Nat} (h : iaP s rs k = false) : iaA s rs k = false := by rw [iaA, h, Bool.and_false]
theorem iaA_yes {s : ByteArray} {rs : List (Int × Int)} {k : Nat} (h1 : evL rs k ≤ 10) (h2 : fitB s (evL rs k) (reL rs k) = true) (h3 : iaP s rs k = true) : iaA s rs k = true := by rw [iaA, decide_eq_true h1, h2, h3]; rfl
theorem pzB_patA {s : ByteArray} {n : Int} (h : pzB s n = true) : patB s = true := by rw [pzB, Bool.and_eq_true] at h; exact h.1
def iaO (s : ByteArray) (n : Int) (rs : List (Int × Int)) : Bool := pzB s n && goodL rs
def iaB (s : ByteArray) (n : Int) (rs : List (Int × Int)) : Bool := decide ((rs.length : Int) = n) && iaL s rs && pzcB s rs
def iaV (s : ByteArray) (n : Int) (rs : List (Int × Int)) : Bool := iaO s n rs && iaB s n rs
set_option maxRecDepth 100000 in
set_option maxHeartbeats 3000000 in
theorem spec_IsAnswer_c (w : World) (s : ByteArray) (n : Int) (A : Option Addr) (m c : Nat) (rs : List (Int × Int)) (hA : Rl w A rs) (hm : m = rs.length) (hn : m ≤ 1048576) (hs : (s.size : Int) ≤ 1000000000) :
    Calls Try.prog 30 #[.agg #[.string s, .int .i64 n], .slice A m c] w fun en w' => en = .returned (.tuple #[.bool (iaV s n rs), .bool (iaO s n rs)]) ∧ Below w.heap.size w w' := by
  have Hpg := Lib.hid (fun W => pzGood_c W s n hs)
  have HA := Lib.hid hA
  have Hm := Lib.hid hm
  have Hgd := Lib.hid (fun W (hB : Below w.heap.size w W) => good_c A m c rs W (hA.below hB) hm hn)
  obtain ⟨W0, hW0⟩ : ∃ W0, w.alloc (.cells #[.string s, .int .i64 n] 26) = W0 := ⟨_, rfl⟩
  have B0 : Hid (Below w.heap.size w W0) := by show Below _ _ _; rw [← hW0]; exact (Below.refl _ _).alloc (Nat.le_refl _) _
  have C0 : Hid (W0.cell? ⟨w.heap.size, 0, none⟩ = some (.string s)) := by show _ = _; rw [← hW0]; simp
  have C1 : Hid (W0.cell? ⟨w.heap.size, 1, none⟩ = some (.int .i64 n)) := by show _ = _; rw [← hW0]; simp
  have Z0 : Hid (w.heap.size < W0.heap.size) := by show _ < _; rw [← hW0]; simp
  have HW0 := Lib.hid hW0
  clear hA hm hW0
  cases hg : pzB s n with
  | false =>
    rw [show iaV s n rs = false by rw [iaV, iaO, hg]; rfl, show iaO s n rs = false by rw [iaO, hg]; rfl]
    rw [hg] at Hpg
    clear hg
    go_enter Try.func30, Try.ntmps30
    go_wp2_with fail
    rw [HW0.out]
    clear HW0
    refine (Hpg.out _).mono ?_
    rintro e w2 ⟨rfl, b2⟩
    have B2 := Lib.hid (B0.out.trans (b2.mono B0.out.size))
    go_wp2
    go_ret2
    exact ⟨rfl, B2.out⟩
  | true =>
    have hp := pzB_patA hg
    rw [hg] at Hpg
    cases hgd : goodL rs with
    | false =>
      rw [show iaV s n rs = false by rw [iaV, iaO, hg, hgd]; rfl, show iaO s n rs = false by rw [iaO, hg, hgd]; rfl]
      rw [hgd] at Hgd
      clear hg hgd
      go_enter Try.func30, Try.ntmps30
      go_wp2_with fail
      rw [HW0.out]
      clear HW0
      refine (Hpg.out _).mono ?_
      rintro e w2 ⟨rfl, b2⟩
      have B2 := Lib.hid (B0.out.trans (b2.mono B0.out.size))
      have z2 := B2.out.size
      have hc1 := (b2.cell (p := ⟨w.heap.size, 0, none⟩) Z0.out).trans C0.out
      have hc2 := (b2.cell (p := ⟨w.heap.size, 1, none⟩) Z0.out).trans C1.out
      have z3 : w.heap.size < w2.heap.size := Nat.lt_of_lt_of_le Z0.out b2.size
      clear b2
      go_wp2_with fail
      refine (Hgd.out _ B2.out).mono ?_
      rintro e w3 ⟨rfl, b3⟩
      have B3 := Lib.hid (B2.out.trans (b3.mono z2))
      have hd0 := (b3.cell (p := ⟨w.heap.size, 0, none⟩) z3).trans hc1
      have hd1 := (b3.cell (p := ⟨w.heap.size, 1, none⟩) z3).trans hc2
      have z4 : w.heap.size < w3.heap.size := Nat.lt_of_lt_of_le z3 b3.size
      clear b3 hc1 hc2 z2 z3
      go_wp2
      go_ret2
      exact ⟨rfl, B3.out⟩
    | true =>
      have hV : iaV s n rs = iaB s n rs := by rw [iaV, iaO, hg, hgd]; rfl
      rw [hV, show iaO s n rs = true by rw [iaO, hg, hgd]; rfl]
      rw [hgd] at Hgd
      have Hg := Lib.hid hgd
      have h12 : m ≤ 12 := by rw [Hm.out]; exact good_len hgd
      have Hp := Lib.hid hp
      clear hg hgd hV hp
      by_cases hl : (m : Int) = n
      rotate_left
      · rw [show iaB s n rs = false by rw [iaB, ← Hm.out, decide_eq_false hl]; rfl]
        have hlb : ((m : Int) == n) = false := beq_eq_false_iff_ne.2 hl
        have hlc : ((m : Int) != n) = true := by rw [bne, hlb]; rfl
        clear hl
        go_enter Try.func30, Try.ntmps30
        go_wp2_with fail
        rw [HW0.out]
        clear HW0
        refine (Hpg.out _).mono ?_
        rintro e w2 ⟨rfl, b2⟩
        have B2 := Lib.hid (B0.out.trans (b2.mono B0.out.size))
        have z2 := B2.out.size
        have hc1 := (b2.cell (p := ⟨w.heap.size, 0, none⟩) Z0.out).trans C0.out
        have hc2 := (b2.cell (p := ⟨w.heap.size, 1, none⟩) Z0.out).trans C1.out
        have z3 : w.heap.size < w2.heap.size := Nat.lt_of_lt_of_le Z0.out b2.size
        clear b2
        go_wp2_with fail
        refine (Hgd.out _ B2.out).mono ?_
        rintro e w3 ⟨rfl, b3⟩
        have B3 := Lib.hid (B2.out.trans (b3.mono z2))
        have hd0 := (b3.cell (p := ⟨w.heap.size, 0, none⟩) z3).trans hc1
        have hd1 := (b3.cell (p := ⟨w.heap.size, 1, none⟩) z3).trans hc2
        have z4 : w.heap.size < w3.heap.size := Nat.lt_of_lt_of_le z3 b3.size
        clear b3 hc1 hc2 z2 z3
        go_wp2
        go_ret2
        exact ⟨rfl, B3.out⟩
      have hBB : iaB s n rs = (iaL s rs && pzcB s rs) := by rw [iaB, ← Hm.out, decide_eq_true hl]; rfl
      have Hyes := Lib.hid (iaL_yes (s := s) (rs := rs))
      have Hno := Lib.hid (fun i (hi : i < rs.length) h => (show (iaL s rs && pzcB s rs) = false by rw [iaL_no (s := s) hi h]; rfl))
      rw [hBB]
      have Hcv := Lib.hid (fun W (hB : Below w.heap.size w W) => pzCovers_c W s A m c rs (HA.out.below hB) Hm.out Hg.out Hp.out)
      have HT0 := Lib.hid (fun (h : iaL s rs = true) => (show (iaL s rs && pzcB s rs) = pzcB s rs by rw [h]; rfl))
      obtain ⟨T, hT⟩ : ∃ T, (iaL s rs && pzcB s rs) = T := ⟨_, rfl⟩
      rw [hT] at Hno HT0 ⊢
      subst hl
      clear hT hBB
      go_enter Try.func30, Try.ntmps30
      go_wp2_with fail
      rw [HW0.out]
      clear HW0
      refine (Hpg.out _).mono ?_
      rintro e w2 ⟨rfl, b2⟩
      have B2 := Lib.hid (B0.out.trans (b2.mono B0.out.size))
      have z2 := B2.out.size
      have hc1 := (b2.cell (p := ⟨w.heap.size, 0, none⟩) Z0.out).trans C0.out
      have hc2 := (b2.cell (p := ⟨w.heap.size, 1, none⟩) Z0.out).trans C1.out
      have z3 : w.heap.size < w2.heap.size := Nat.lt_of_lt_of_le Z0.out b2.size
      clear b2
      go_wp2_with fail
      refine (Hgd.out _ B2.out).mono ?_
      rintro e w3 ⟨rfl, b3⟩
      have B3 := Lib.hid (B2.out.trans (b3.mono z2))
      have hd0 := (b3.cell (p := ⟨w.heap.size, 0, none⟩) z3).trans hc1
      have hd1 := (b3.cell (p := ⟨w.heap.size, 1, none⟩) z3).trans hc2
      have z4 : w.heap.size < w3.heap.size := Nat.lt_of_lt_of_le z3 b3.size
      clear b3 hc1 hc2 z2 z3
      go_wp2
      go_loopw [23] (fun i wr => ∃ k : Nat, k ≤ m ∧ i = .int .i64 (k : Int) ∧ (∀ j, j < k → iaA s rs j = true) ∧ wr.cell? ⟨w.heap.size, 0, none⟩ = some (.string s) ∧ wr.cell? ⟨w.heap.size, 1, none⟩ = some (.int .i64 (m : Int)) ∧ w.heap.size < wr.heap.size ∧ Below w.heap.size w wr) (fun i _ => m - (intOf i).toNat)
      case atStart => exact ⟨0, Nat.zero_le _, rfl, fun j h => by omega, hd0, hd1, z4, B3.out⟩
      case round =>
        clear hd0 hd1 z4 B3 B2 B0 C0 C1 Z0
        obtain ⟨k, hk, rfl, hall, hc0, hc1, hz, hbel⟩ := hrel
        have Hall := Lib.hid hall
        have Hbel := Lib.hid hbel
        clear hall
        by_cases hlt : k < m
        · have hlt1 : k < rs.length := by have := Hm.out; omega
          obtain ⟨b, off, rfl, hb, hr⟩ := HA.out (by omega)
          obtain ⟨e1, e2, r1, r2⟩ := okR_at Hg.out hlt1
          have hx0 := (hbel.cell (p := ⟨b, off + k * 2, none⟩) hb).trans (hr k hlt1).1
          have hx1 := (hbel.cell (p := ⟨b, off + k * 2 + 1, none⟩) hb).trans (hr k hlt1).2
          have hkm : (k : Int) < (m : Int) := by omega
          have Hno1 := Lib.hid (fun h => Hno.out k hlt1 h)
          have Hbig := Lib.hid (fun h => iaA_big (s := s) (rs := rs) (k := k) h)
          have Hunf := Lib.hid (fun h => iaA_unfit (s := s) (rs := rs) (k := k) h)
          have Hpre := Lib.hid (fun h => iaA_prev (s := s) (rs := rs) (k := k) h)
          have Hgo := Lib.hid (fun h1 h2 h3 => iaA_yes (s := s) (rs := rs) (k := k) h1 h2 h3)
          have HP : Hid (∀ q : Nat, k = q + 1 → iaP s rs k = lsB (evL rs q) (reL rs q) (evL rs k) (reL rs k)) := fun q hq => by subst hq; rfl
          have HP0 : Hid (k = 0 → iaP s rs k = true) := fun hq => by subst hq; rfl
          obtain ⟨x, hx⟩ : ∃ x, evL rs k = x := ⟨_, rfl⟩
          obtain ⟨y, hy⟩ : ∃ y, reL rs k = y := ⟨_, rfl⟩
          rw [hx] at hx0 e1 e2 r2 Hbig Hunf Hgo HP
          rw [hy] at hx1 r1 r2 Hunf Hgo HP
          have Hf := Lib.hid (fun W => pzFits_c W s x y Hp.out e1 e2)
          obtain ⟨V, hV⟩ : ∃ V, wr.alloc (.cells #[.int .i64 x, .int .i64 y] 53) = V := ⟨_, rfl⟩
          have hv0 : V.cell? ⟨w.heap.size, 0, none⟩ = some (.string s) := by rw [← hV]; exact (((Below.refl wr.heap.size wr).alloc (Nat.le_refl _) _).cell (p := ⟨w.heap.size, 0, none⟩) hz).trans hc0
          have hv1 : V.cell? ⟨w.heap.size, 1, none⟩ = some (.int .i64 (m : Int)) := by rw [← hV]; exact (((Below.refl wr.heap.size wr).alloc (Nat.le_refl _) _).cell (p := ⟨w.heap.size, 1, none⟩) hz).trans hc1
          have hv2 : V.cell? ⟨wr.heap.size, 0, none⟩ = some (.int .i64 x) := by rw [← hV]; simp
          have hv3 : V.cell? ⟨wr.heap.size, 1, none⟩ = some (.int .i64 y) := by rw [← hV]; simp
          have hVz : wr.heap.size < V.heap.size := by rw [← hV]; simp
          have hVb : Below w.heap.size w V := by rw [← hV]; exact hbel.alloc hbel.size _
          have HV1 := Lib.hid hv1
          have HVb := Lib.hid hVb
          have HVz := Lib.hid hVz
          have Hz := Lib.hid hz
          have hz2 : w.heap.size < V.heap.size := by omega
          have Hz2 := Lib.hid hz2
          have hv0d : V.drew.cell? ⟨w.heap.size, 0, none⟩ = some (.string s) := hv0
          have hv2d : V.drew.cell? ⟨wr.heap.size, 0, none⟩ = some (.int .i64 x) := hv2
          have hv3d : V.drew.cell? ⟨wr.heap.size, 1, none⟩ = some (.int .i64 y) := hv3
          clear hv1 hVb hVz hz hz2 hbel hc0 hc1
          by_cases h10 : x ≤ 10
          rotate_left
          · have hT := Hno1.out (Hbig.out h10)
            have HT := Lib.hid hT
            have h10b : 10 < x := by omega
            have hdx : decide (10 < x) = true := decide_eq_true h10b
            clear hT h10
            have HV := Lib.hid hV
            clear hV
            go_wp2_with fail
            rw [HV.out]
            clear HV hx0 hx1 hx hy
            go_region
            go_wp2
            go_ret2
            exact ⟨by rw [HT.out]; rfl, HVb.out.drew⟩
          have hdx : decide (10 < x) = false := decide_eq_false (by omega)
          have hnx : ¬ 10 < x := by omega
          cases hf : fitB s x y with
          | false =>
            have HT := Lib.hid (Hno1.out (Hunf.out hf))
            rw [hf] at Hf
            clear hf
            have HV := Lib.hid hV
            clear hV
            go_wp2_with fail
            rw [HV.out]
            clear HV hx0 hx1 hx hy
            refine wp_region_held_drew (S := (fun w' => w'.cell? ⟨w.heap.size, 0, none⟩ = some (.string s) ∧ w'.cell? ⟨wr.heap.size, 0, none⟩ = some (.int .i64 x) ∧ w'.cell? ⟨wr.heap.size, 1, none⟩ = some (.int .i64 y))) (by kernel_rfl) ?_ (fun hHeld => ?_)
            · exact ⟨hv0d, hv2d, hv3d⟩
            refine' wpAnyH_take (i := 0) (v := _) rfl (by kernel_rfl) (by kernel_rfl) (by kernel_rfl) (fun _ _ _ h => h) (Or.inl ⟨by rfl, ?hy100⟩) (by assumption) ?rs100
            case hy100 => (intro w9 hSw; (try dsimp only at hSw); go_simp; try with_reducible rfl)
            try simp only [Act.put, List.getElem_toArray, List.getElem_cons_succ, List.getElem_cons_zero, List.setIfInBounds_toArray, List.set_cons_zero, List.set_cons_succ]
            refine' wpAnyH_take (i := 1) (v := _) rfl (by kernel_rfl) (by kernel_rfl) (by kernel_rfl) (fun _ _ _ h => h) (Or.inl ⟨by rfl, ?hy101⟩) (by assumption) ?rs101
            case hy101 => (intro w9 hSw; (try dsimp only at hSw); go_simp; try with_reducible rfl)
            try simp only [Act.put, List.getElem_toArray, List.getElem_cons_succ, List.getElem_cons_zero, List.setIfInBounds_toArray, List.set_cons_zero, List.set_cons_succ]
            refine' wpAnyH_take (i := 2) (v := _) rfl (by kernel_rfl) (by kernel_rfl) (by kernel_rfl) (fun _ _ _ h => h) (Or.inl ⟨by rfl, ?hy102⟩) (by assumption) ?rs102
            case hy102 => (intro w9 hSw; (try dsimp only at hSw); go_simp; try with_reducible rfl)
            try simp only [Act.put, List.getElem_toArray, List.getElem_cons_succ, List.getElem_cons_zero, List.setIfInBounds_toArray, List.set_cons_zero, List.set_cons_succ]
            refine' wpAnyH_take (i := 3) (v := _) rfl (by kernel_rfl) (by kernel_rfl) (by kernel_rfl) (fun _ _ _ h => h) (Or.inl ⟨by rfl, ?hy103⟩) (by assumption) ?rs103
            case hy103 => (intro w9 hSw; (try dsimp only at hSw); go_simp; try with_reducible rfl)
            try simp only [Act.put, List.getElem_toArray, List.getElem_cons_succ, List.getElem_cons_zero, List.setIfInBounds_toArray, List.set_cons_zero, List.set_cons_succ]
            refine' wpAnyH_take (i := 4) (v := _) rfl (by kernel_rfl) (by kernel_rfl) (by kernel_rfl) (fun _ _ _ h => h) (Or.inl ⟨by rfl, ?hy104⟩) (by assumption) ?rs104
            case hy104 => (intro w9 hSw; (try dsimp only at hSw); go_simp; try with_reducible rfl)
            try simp only [Act.put, List.getElem_toArray, List.getElem_cons_succ, List.getElem_cons_zero, List.setIfInBounds_toArray, List.set_cons_zero, List.set_cons_succ]
            refine' wpAnyH_take (i := 5) (v := _) rfl (by kernel_rfl) (by kernel_rfl) (by kernel_rfl) (fun _ _ _ h => h) (Or.inl ⟨by rfl, ?hy105⟩) (by assumption) ?rs105
            case hy105 => (intro w9 hSw; (try dsimp only at hSw); go_simp; try with_reducible rfl)
            try simp only [Act.put, List.getElem_toArray, List.getElem_cons_succ, List.getElem_cons_zero, List.setIfInBounds_toArray, List.set_cons_zero, List.set_cons_succ]
            refine' wpAnyH_take (i := 6) (v := _) rfl (by kernel_rfl) (by kernel_rfl) (by kernel_rfl) (fun _ _ _ h => h) (Or.inl ⟨by rfl, ?hy106⟩) (by assumption) ?rs106
            case hy106 => (intro w9 hSw; (try dsimp only at hSw); go_simp; try with_reducible rfl)
            try simp only [Act.put, List.getElem_toArray, List.getElem_cons_succ, List.getElem_cons_zero, List.setIfInBounds_toArray, List.set_cons_zero, List.set_cons_succ]
            refine wpAnyH_ready (rs := [7]) (by kernel_rfl) (by simp) ?_
            refine AllReadyH.cons rfl (fun K hK => ?_) AllReadyH.nil
            go_simp
            (go_at_call 69; refine (Hf.out V.drew).mono ?_; rintro e w5 ⟨rfl, b5⟩; have f5 := (b5.cell (p := ⟨w.heap.size, 0, none⟩) Hz2.out).trans hv0d; have g5 := (b5.cell (p := ⟨wr.heap.size, 0, none⟩) HVz.out).trans hv2d; have k5 := (b5.cell (p := ⟨wr.heap.size, 1, none⟩) HVz.out).trans hv3d)
            refine hK.out _ _ ⟨f5, g5, k5⟩ (fun hHeld => ?_)
            clear hK K
            try simp only [Act.put, List.getElem_toArray, List.getElem_cons_succ, List.getElem_cons_zero, List.setIfInBounds_toArray, List.set_cons_zero, List.set_cons_succ]
            refine' wpAnyH_take (i := 8) (v := _) rfl (by kernel_rfl) (by kernel_rfl) (by kernel_rfl) (fun _ _ _ h => h) (Or.inl ⟨by rfl, ?hy108⟩) (by assumption) ?rs108
            case hy108 => (intro w9 hSw; (try dsimp only at hSw); go_simp; try with_reducible rfl)
            try simp only [Act.put, List.getElem_toArray, List.getElem_cons_succ, List.getElem_cons_zero, List.setIfInBounds_toArray, List.set_cons_zero, List.set_cons_succ]
            refine' wpAnyH_take (i := 9) (v := _) rfl (by kernel_rfl) (by kernel_rfl) (by kernel_rfl) (fun _ _ _ h => h) (Or.inl ⟨by rfl, ?hy109⟩) (by assumption) ?rs109
            case hy109 => (intro w9 hSw; (try dsimp only at hSw); go_simp; try with_reducible rfl)
            try simp only [Act.put, List.getElem_toArray, List.getElem_cons_succ, List.getElem_cons_zero, List.setIfInBounds_toArray, List.set_cons_zero, List.set_cons_succ]
            refine' wpAnyH_take (i := 10) (v := _) rfl (by kernel_rfl) (by kernel_rfl) (by kernel_rfl) (fun _ _ _ h => h) (Or.inl ⟨by rfl, ?hy110⟩) (by assumption) ?rs110
            case hy110 => (intro w9 hSw; (try dsimp only at hSw); go_simp; try with_reducible rfl)
            try simp only [Act.put, List.getElem_toArray, List.getElem_cons_succ, List.getElem_cons_zero, List.setIfInBounds_toArray, List.set_cons_zero, List.set_cons_succ]
            refine wpAnyH_take (i := 11) (v := undef) rfl (by kernel_rfl) (by kernel_rfl) (by kernel_rfl) (fun _ _ _ h => h) (Or.inr ⟨by rfl, rfl⟩) (by assumption) ?_
            try simp only [Act.put, List.getElem_toArray, List.getElem_cons_succ, List.getElem_cons_zero, List.setIfInBounds_toArray, List.set_cons_zero, List.set_cons_succ]
            refine wpAnyH_take (i := 12) (v := undef) rfl (by kernel_rfl) (by kernel_rfl) (by kernel_rfl) (fun _ _ _ h => h) (Or.inr ⟨by rfl, rfl⟩) (by assumption) ?_
            try simp only [Act.put, List.getElem_toArray, List.getElem_cons_succ, List.getElem_cons_zero, List.setIfInBounds_toArray, List.set_cons_zero, List.set_cons_succ]
            refine wpAnyH_take (i := 13) (v := undef) rfl (by kernel_rfl) (by kernel_rfl) (by kernel_rfl) (fun _ _ _ h => h) (Or.inr ⟨by rfl, rfl⟩) (by assumption) ?_
            try simp only [Act.put, List.getElem_toArray, List.getElem_cons_succ, List.getElem_cons_zero, List.setIfInBounds_toArray, List.set_cons_zero, List.set_cons_succ]
            refine wpAnyH_take (i := 14) (v := undef) rfl (by kernel_rfl) (by kernel_rfl) (by kernel_rfl) (fun _ _ _ h => h) (Or.inr ⟨by rfl, rfl⟩) (by assumption) ?_
            try simp only [Act.put, List.getElem_toArray, List.getElem_cons_succ, List.getElem_cons_zero, List.setIfInBounds_toArray, List.set_cons_zero, List.set_cons_succ]
            refine wpAnyH_take (i := 15) (v := undef) rfl (by kernel_rfl) (by kernel_rfl) (by kernel_rfl) (fun _ _ _ h => h) (Or.inr ⟨by rfl, rfl⟩) (by assumption) ?_
            try simp only [Act.put, List.getElem_toArray, List.getElem_cons_succ, List.getElem_cons_zero, List.setIfInBounds_toArray, List.set_cons_zero, List.set_cons_succ]
            refine wpAnyH_take (i := 16) (v := undef) rfl (by kernel_rfl) (by kernel_rfl) (by kernel_rfl) (fun _ _ _ h => h) (Or.inr ⟨by rfl, rfl⟩) (by assumption) ?_
            try simp only [Act.put, List.getElem_toArray, List.getElem_cons_succ, List.getElem_cons_zero, List.setIfInBounds_toArray, List.set_cons_zero, List.set_cons_succ]
            refine wpAnyH_take (i := 17) (v := undef) rfl (by kernel_rfl) (by kernel_rfl) (by kernel_rfl) (fun _ _ _ h => h) (Or.inr ⟨by rfl, rfl⟩) (by assumption) ?_
            try simp only [Act.put, List.getElem_toArray, List.getElem_cons_succ, List.getElem_cons_zero, List.setIfInBounds_toArray, List.set_cons_zero, List.set_cons_succ]
            refine wpAnyH_take (i := 18) (v := undef) rfl (by kernel_rfl) (by kernel_rfl) (by kernel_rfl) (fun _ _ _ h => h) (Or.inr ⟨by rfl, rfl⟩) (by assumption) ?_
            try simp only [Act.put, List.getElem_toArray, List.getElem_cons_succ, List.getElem_cons_zero, List.setIfInBounds_toArray, List.set_cons_zero, List.set_cons_succ]
            refine wpAnyH_take (i := 19) (v := undef) rfl (by kernel_rfl) (by kernel_rfl) (by kernel_rfl) (fun _ _ _ h => h) (Or.inr ⟨by rfl, rfl⟩) (by assumption) ?_
            try simp only [Act.put, List.getElem_toArray, List.getElem_cons_succ, List.getElem_cons_zero, List.setIfInBounds_toArray, List.set_cons_zero, List.set_cons_succ]
            refine wpAnyH_take (i := 20) (v := undef) rfl (by kernel_rfl) (by kernel_rfl) (by kernel_rfl) (fun _ _ _ h => h) (Or.inr ⟨by rfl, rfl⟩) (by assumption) ?_
            try simp only [Act.put, List.getElem_toArray, List.getElem_cons_succ, List.getElem_cons_zero, List.setIfInBounds_toArray, List.set_cons_zero, List.set_cons_succ]
            refine wpAnyH_take (i := 21) (v := undef) rfl (by kernel_rfl) (by kernel_rfl) (by kernel_rfl) (fun _ _ _ h => h) (Or.inr ⟨by rfl, rfl⟩) (by assumption) ?_
            try simp only [Act.put, List.getElem_toArray, List.getElem_cons_succ, List.getElem_cons_zero, List.setIfInBounds_toArray, List.set_cons_zero, List.set_cons_succ]
            refine wpAnyH_take (i := 22) (v := undef) rfl (by kernel_rfl) (by kernel_rfl) (by kernel_rfl) (fun _ _ _ h => h) (Or.inr ⟨by rfl, rfl⟩) (by assumption) ?_
            try simp only [Act.put, List.getElem_toArray, List.getElem_cons_succ, List.getElem_cons_zero, List.setIfInBounds_toArray, List.set_cons_zero, List.set_cons_succ]
            refine' wpAnyH_take (i := 23) (v := _) rfl (by kernel_rfl) (by kernel_rfl) (by kernel_rfl) (fun _ _ _ h => h) (Or.inl ⟨by rfl, ?hy123⟩) (by assumption) ?rs123
            case hy123 => (intro w9 hSw; (try dsimp only at hSw); go_simp; try with_reducible rfl)
            try simp only [Act.put, List.getElem_toArray, List.getElem_cons_succ, List.getElem_cons_zero, List.setIfInBounds_toArray, List.set_cons_zero, List.set_cons_succ]
            refine wpAnyH_done (by kernel_rfl) ?_ _
            have b9 := HVb.out.drew.trans (b5.mono HVb.out.drew.size)
            go_wp2
            go_ret2
            exact ⟨by rw [HT.out]; rfl, b9⟩
          | true =>
            have Hgo2 := Lib.hid (Hgo.out h10 hf)
            rw [hf] at Hf
            clear hf
            by_cases hk0 : k = 0
            · have HK := Lib.hid (Hgo2.out (HP0.out hk0))
              have hki : ¬ (0 : Int) < (k : Int) := by omega
              have hkd : decide ((0 : Int) < (k : Int)) = false := decide_eq_false hki
              have hkd2 : decide (0 < k) = false := decide_eq_false (by omega)
              clear hk0
              have HV := Lib.hid hV
              clear hV
              go_wp2_with fail
              rw [HV.out]
              clear HV hx0 hx1 hx hy
              refine wp_region_held_drew (S := (fun w' => w'.cell? ⟨w.heap.size, 0, none⟩ = some (.string s) ∧ w'.cell? ⟨wr.heap.size, 0, none⟩ = some (.int .i64 x) ∧ w'.cell? ⟨wr.heap.size, 1, none⟩ = some (.int .i64 y))) (by kernel_rfl) ?_ (fun hHeld => ?_)
              · exact ⟨hv0d, hv2d, hv3d⟩
              refine' wpAnyH_take (i := 0) (v := _) rfl (by kernel_rfl) (by kernel_rfl) (by kernel_rfl) (fun _ _ _ h => h) (Or.inl ⟨by rfl, ?hy200⟩) (by assumption) ?rs200
              case hy200 => (intro w9 hSw; (try dsimp only at hSw); go_simp; try with_reducible rfl)
              try simp only [Act.put, List.getElem_toArray, List.getElem_cons_succ, List.getElem_cons_zero, List.setIfInBounds_toArray, List.set_cons_zero, List.set_cons_succ]
              refine' wpAnyH_take (i := 1) (v := _) rfl (by kernel_rfl) (by kernel_rfl) (by kernel_rfl) (fun _ _ _ h => h) (Or.inl ⟨by rfl, ?hy201⟩) (by assumption) ?rs201
              case hy201 => (intro w9 hSw; (try dsimp only at hSw); go_simp; try with_reducible rfl)
              try simp only [Act.put, List.getElem_toArray, List.getElem_cons_succ, List.getElem_cons_zero, List.setIfInBounds_toArray, List.set_cons_zero, List.set_cons_succ]
              refine' wpAnyH_take (i := 2) (v := _) rfl (by kernel_rfl) (by kernel_rfl) (by kernel_rfl) (fun _ _ _ h => h) (Or.inl ⟨by rfl, ?hy202⟩) (by assumption) ?rs202
              case hy202 => (intro w9 hSw; (try dsimp only at hSw); go_simp; try with_reducible rfl)
              try simp only [Act.put, List.getElem_toArray, List.getElem_cons_succ, List.getElem_cons_zero, List.setIfInBounds_toArray, List.set_cons_zero, List.set_cons_succ]
              refine' wpAnyH_take (i := 3) (v := _) rfl (by kernel_rfl) (by kernel_rfl) (by kernel_rfl) (fun _ _ _ h => h) (Or.inl ⟨by rfl, ?hy203⟩) (by assumption) ?rs203
              case hy203 => (intro w9 hSw; (try dsimp only at hSw); go_simp; try with_reducible rfl)
              try simp only [Act.put, List.getElem_toArray, List.getElem_cons_succ, List.getElem_cons_zero, List.setIfInBounds_toArray, List.set_cons_zero, List.set_cons_succ]
              refine' wpAnyH_take (i := 4) (v := _) rfl (by kernel_rfl) (by kernel_rfl) (by kernel_rfl) (fun _ _ _ h => h) (Or.inl ⟨by rfl, ?hy204⟩) (by assumption) ?rs204
              case hy204 => (intro w9 hSw; (try dsimp only at hSw); go_simp; try with_reducible rfl)
              try simp only [Act.put, List.getElem_toArray, List.getElem_cons_succ, List.getElem_cons_zero, List.setIfInBounds_toArray, List.set_cons_zero, List.set_cons_succ]
              refine' wpAnyH_take (i := 5) (v := _) rfl (by kernel_rfl) (by kernel_rfl) (by kernel_rfl) (fun _ _ _ h => h) (Or.inl ⟨by rfl, ?hy205⟩) (by assumption) ?rs205
              case hy205 => (intro w9 hSw; (try dsimp only at hSw); go_simp; try with_reducible rfl)
              try simp only [Act.put, List.getElem_toArray, List.getElem_cons_succ, List.getElem_cons_zero, List.setIfInBounds_toArray, List.set_cons_zero, List.set_cons_succ]
              refine' wpAnyH_take (i := 6) (v := _) rfl (by kernel_rfl) (by kernel_rfl) (by kernel_rfl) (fun _ _ _ h => h) (Or.inl ⟨by rfl, ?hy206⟩) (by assumption) ?rs206
              case hy206 => (intro w9 hSw; (try dsimp only at hSw); go_simp; try with_reducible rfl)
              try simp only [Act.put, List.getElem_toArray, List.getElem_cons_succ, List.getElem_cons_zero, List.setIfInBounds_toArray, List.set_cons_zero, List.set_cons_succ]
              refine wpAnyH_ready (rs := [7]) (by kernel_rfl) (by simp) ?_
              refine AllReadyH.cons rfl (fun K hK => ?_) AllReadyH.nil
              go_simp
              (go_at_call 69; refine (Hf.out V.drew).mono ?_; rintro e w5 ⟨rfl, b5⟩; have f5 := (b5.cell (p := ⟨w.heap.size, 0, none⟩) Hz2.out).trans hv0d; have g5 := (b5.cell (p := ⟨wr.heap.size, 0, none⟩) HVz.out).trans hv2d; have k5 := (b5.cell (p := ⟨wr.heap.size, 1, none⟩) HVz.out).trans hv3d)
              refine hK.out _ _ ⟨f5, g5, k5⟩ (fun hHeld => ?_)
              clear hK K
              try simp only [Act.put, List.getElem_toArray, List.getElem_cons_succ, List.getElem_cons_zero, List.setIfInBounds_toArray, List.set_cons_zero, List.set_cons_succ]
              refine' wpAnyH_take (i := 8) (v := _) rfl (by kernel_rfl) (by kernel_rfl) (by kernel_rfl) (fun _ _ _ h => h) (Or.inl ⟨by rfl, ?hy208⟩) (by assumption) ?rs208
              case hy208 => (intro w9 hSw; (try dsimp only at hSw); go_simp; try with_reducible rfl)
              try simp only [Act.put, List.getElem_toArray, List.getElem_cons_succ, List.getElem_cons_zero, List.setIfInBounds_toArray, List.set_cons_zero, List.set_cons_succ]
              refine' wpAnyH_take (i := 9) (v := _) rfl (by kernel_rfl) (by kernel_rfl) (by kernel_rfl) (fun _ _ _ h => h) (Or.inl ⟨by rfl, ?hy209⟩) (by assumption) ?rs209
              case hy209 => (intro w9 hSw; (try dsimp only at hSw); go_simp; try with_reducible rfl)
              try simp only [Act.put, List.getElem_toArray, List.getElem_cons_succ, List.getElem_cons_zero, List.setIfInBounds_toArray, List.set_cons_zero, List.set_cons_succ]
              refine' wpAnyH_take (i := 10) (v := _) rfl (by kernel_rfl) (by kernel_rfl) (by kernel_rfl) (fun _ _ _ h => h) (Or.inl ⟨by rfl, ?hy210⟩) (by assumption) ?rs210
              case hy210 => (intro w9 hSw; (try dsimp only at hSw); go_simp; try with_reducible rfl)
              try simp only [Act.put, List.getElem_toArray, List.getElem_cons_succ, List.getElem_cons_zero, List.setIfInBounds_toArray, List.set_cons_zero, List.set_cons_succ]
              refine' wpAnyH_take (i := 11) (v := _) rfl (by kernel_rfl) (by kernel_rfl) (by kernel_rfl) (fun _ _ _ h => h) (Or.inl ⟨by rfl, ?hy211⟩) (by assumption) ?rs211
              case hy211 => (intro w9 hSw; (try dsimp only at hSw); go_simp; try with_reducible rfl)
              try simp only [Act.put, List.getElem_toArray, List.getElem_cons_succ, List.getElem_cons_zero, List.setIfInBounds_toArray, List.set_cons_zero, List.set_cons_succ]
              refine' wpAnyH_take (i := 12) (v := _) rfl (by kernel_rfl) (by kernel_rfl) (by kernel_rfl) (fun _ _ _ h => h) (Or.inl ⟨by rfl, ?hy212⟩) (by assumption) ?rs212
              case hy212 => (intro w9 hSw; (try dsimp only at hSw); go_simp; try with_reducible rfl)
              try simp only [Act.put, List.getElem_toArray, List.getElem_cons_succ, List.getElem_cons_zero, List.setIfInBounds_toArray, List.set_cons_zero, List.set_cons_succ]
              refine' wpAnyH_take (i := 13) (v := _) rfl (by kernel_rfl) (by kernel_rfl) (by kernel_rfl) (fun _ _ _ h => h) (Or.inl ⟨by rfl, ?hy213⟩) (by assumption) ?rs213
              case hy213 => (intro w9 hSw; (try dsimp only at hSw); go_simp; try with_reducible rfl)
              try simp only [Act.put, List.getElem_toArray, List.getElem_cons_succ, List.getElem_cons_zero, List.setIfInBounds_toArray, List.set_cons_zero, List.set_cons_succ]
              refine wpAnyH_take (i := 14) (v := undef) rfl (by kernel_rfl) (by kernel_rfl) (by kernel_rfl) (fun _ _ _ h => h) (Or.inr ⟨by rfl, rfl⟩) (by assumption) ?_
              try simp only [Act.put, List.getElem_toArray, List.getElem_cons_succ, List.getElem_cons_zero, List.setIfInBounds_toArray, List.set_cons_zero, List.set_cons_succ]
              refine wpAnyH_take (i := 15) (v := undef) rfl (by kernel_rfl) (by kernel_rfl) (by kernel_rfl) (fun _ _ _ h => h) (Or.inr ⟨by rfl, rfl⟩) (by assumption) ?_
              try simp only [Act.put, List.getElem_toArray, List.getElem_cons_succ, List.getElem_cons_zero, List.setIfInBounds_toArray, List.set_cons_zero, List.set_cons_succ]
              refine wpAnyH_take (i := 16) (v := undef) rfl (by kernel_rfl) (by kernel_rfl) (by kernel_rfl) (fun _ _ _ h => h) (Or.inr ⟨by rfl, rfl⟩) (by assumption) ?_
              try simp only [Act.put, List.getElem_toArray, List.getElem_cons_succ, List.getElem_cons_zero, List.setIfInBounds_toArray, List.set_cons_zero, List.set_cons_succ]
              refine wpAnyH_take (i := 17) (v := undef) rfl (by kernel_rfl) (by kernel_rfl) (by kernel_rfl) (fun _ _ _ h => h) (Or.inr ⟨by rfl, rfl⟩) (by assumption) ?_
              try simp only [Act.put, List.getElem_toArray, List.getElem_cons_succ, List.getElem_cons_zero, List.setIfInBounds_toArray, List.set_cons_zero, List.set_cons_succ]
              refine wpAnyH_take (i := 18) (v := undef) rfl (by kernel_rfl) (by kernel_rfl) (by kernel_rfl) (fun _ _ _ h => h) (Or.inr ⟨by rfl, rfl⟩) (by assumption) ?_
              try simp only [Act.put, List.getElem_toArray, List.getElem_cons_succ, List.getElem_cons_zero, List.setIfInBounds_toArray, List.set_cons_zero, List.set_cons_succ]
              refine wpAnyH_take (i := 19) (v := undef) rfl (by kernel_rfl) (by kernel_rfl) (by kernel_rfl) (fun _ _ _ h => h) (Or.inr ⟨by rfl, rfl⟩) (by assumption) ?_
              try simp only [Act.put, List.getElem_toArray, List.getElem_cons_succ, List.getElem_cons_zero, List.setIfInBounds_toArray, List.set_cons_zero, List.set_cons_succ]
              refine wpAnyH_take (i := 20) (v := undef) rfl (by kernel_rfl) (by kernel_rfl) (by kernel_rfl) (fun _ _ _ h => h) (Or.inr ⟨by rfl, rfl⟩) (by assumption) ?_
              try simp only [Act.put, List.getElem_toArray, List.getElem_cons_succ, List.getElem_cons_zero, List.setIfInBounds_toArray, List.set_cons_zero, List.set_cons_succ]
              refine wpAnyH_take (i := 21) (v := undef) rfl (by kernel_rfl) (by kernel_rfl) (by kernel_rfl) (fun _ _ _ h => h) (Or.inr ⟨by rfl, rfl⟩) (by assumption) ?_
              try simp only [Act.put, List.getElem_toArray, List.getElem_cons_succ, List.getElem_cons_zero, List.setIfInBounds_toArray, List.set_cons_zero, List.set_cons_succ]
              refine' wpAnyH_take (i := 22) (v := _) rfl (by kernel_rfl) (by kernel_rfl) (by kernel_rfl) (fun _ _ _ h => h) (Or.inl ⟨by rfl, ?hy222⟩) (by assumption) ?rs222
              case hy222 => (intro w9 hSw; (try dsimp only at hSw); go_simp; try with_reducible rfl)
              try simp only [Act.put, List.getElem_toArray, List.getElem_cons_succ, List.getElem_cons_zero, List.setIfInBounds_toArray, List.set_cons_zero, List.set_cons_succ]
              refine' wpAnyH_take (i := 23) (v := _) rfl (by kernel_rfl) (by kernel_rfl) (by kernel_rfl) (fun _ _ _ h => h) (Or.inl ⟨by rfl, ?hy223⟩) (by assumption) ?rs223
              case hy223 => (intro w9 hSw; (try dsimp only at hSw); go_simp; try with_reducible rfl)
              try simp only [Act.put, List.getElem_toArray, List.getElem_cons_succ, List.getElem_cons_zero, List.setIfInBounds_toArray, List.set_cons_zero, List.set_cons_succ]
              refine wpAnyH_done (by kernel_rfl) ?_ _
              have b9 := HVb.out.drew.trans (b5.mono HVb.out.drew.size)
              have p0 := f5
              have p1 := (b5.cell (p := ⟨w.heap.size, 1, none⟩) Hz2.out).trans HV1.out
              have p2 : w.heap.size < w5.heap.size := Nat.lt_of_lt_of_le Hz2.out b5.size
              clear f5 g5 k5
              go_wp2
              go_roundw
              case rel =>
                refine ⟨k + 1, by omega, by go_num, fun j hj => ?_, ?_, ?_, ?_, b9⟩
                · rcases Nat.lt_succ_iff_lt_or_eq.1 hj with h | h
                  · exact Hall.out j h
                  · rw [h]; exact HK.out
                · exact p0
                · exact p1
                · exact p2
              case measure => simp [intOf]; omega
            · obtain ⟨q, hq⟩ : ∃ q, k = q + 1 := ⟨k - 1, by omega⟩
              have hq1 : q < rs.length := by omega
              have hy0 := (Hbel.out.cell (p := ⟨b, off + q * 2, none⟩) hb).trans (hr q hq1).1
              have hy1 := (Hbel.out.cell (p := ⟨b, off + q * 2 + 1, none⟩) hb).trans (hr q hq1).2
              have hPq := HP.out q hq
              obtain ⟨x2, hx2⟩ : ∃ x2, evL rs q = x2 := ⟨_, rfl⟩
              obtain ⟨y2, hy2⟩ : ∃ y2, reL rs q = y2 := ⟨_, rfl⟩
              rw [hx2] at hy0 hPq
              rw [hy2] at hy1 hPq
              have hbz : b < wr.heap.size := Nat.lt_of_lt_of_le hb Hbel.out.size
              have hbV : b < V.heap.size := Nat.lt_trans hbz HVz.out
              have HbV := Lib.hid hbV
              have hv4 : V.cell? ⟨b, off + q * 2, none⟩ = some (.int .i64 x2) := by rw [← hV]; exact (((Below.refl wr.heap.size wr).alloc (Nat.le_refl _) _).cell (p := ⟨b, off + q * 2, none⟩) hbz).trans hy0
              have hv5 : V.cell? ⟨b, off + q * 2 + 1, none⟩ = some (.int .i64 y2) := by rw [← hV]; exact (((Below.refl wr.heap.size wr).alloc (Nat.le_refl _) _).cell (p := ⟨b, off + q * 2 + 1, none⟩) hbz).trans hy1
              have hv4d : V.drew.cell? ⟨b, off + q * 2, none⟩ = some (.int .i64 x2) := hv4
              have hv5d : V.drew.cell? ⟨b, off + q * 2 + 1, none⟩ = some (.int .i64 y2) := hv5
              have hkq : (k : Int) - 1 = (q : Int) := by omega
              have hq0 : (0 : Int) ≤ (q : Int) := by omega
              have hqm : (q : Int) < (m : Int) := by omega
              have hwq : IntKind.i64.wrap (q : Int) = (q : Int) := IntWalk.i64_in _ (by omega)
              have hki : (0 : Int) < (k : Int) := by omega
              have hkd : decide ((0 : Int) < (k : Int)) = true := decide_eq_true hki
              have hkd2 : decide (0 < k) = true := decide_eq_true (by omega)
              have Hls := Lib.hid (fun W => pzLess_c W x2 y2 x y)
              clear hx2 hy2 hk0 hbV hbz hy0 hy1
              cases hls : lsB x2 y2 x y with
              | false =>
                rw [hls] at hPq Hls
                have HT := Lib.hid (Hno1.out (Hpre.out hPq))
                clear hls hPq hq
                have HV := Lib.hid hV
                clear hV
                go_wp2_with fail
                rw [HV.out]
                clear HV hx0 hx1 hx hy
                go_region_held3 (fun w' => w'.cell? ⟨w.heap.size, 0, none⟩ = some (.string s) ∧ w'.cell? ⟨wr.heap.size, 0, none⟩ = some (.int .i64 x) ∧ w'.cell? ⟨wr.heap.size, 1, none⟩ = some (.int .i64 y) ∧ w'.cell? ⟨b, off + q * 2, none⟩ = some (.int .i64 x2) ∧ w'.cell? ⟨b, off + q * 2 + 1, none⟩ = some (.int .i64 y2))
                  (first | exact ⟨hv0d, hv2d, hv3d, hv4d, hv5d⟩ | exact ⟨hv0, hv2, hv3, hv4, hv5⟩ | exact ⟨f5, g5, k5, l5, m5⟩ | exact ⟨f6, g6, k6, l6, m6⟩)
                  (first | (go_at_call 69; refine (Hf.out V.drew).mono ?_; rintro e w5 ⟨rfl, b5⟩; have f5 := (b5.cell (p := ⟨w.heap.size, 0, none⟩) Hz2.out).trans hv0d; have g5 := (b5.cell (p := ⟨wr.heap.size, 0, none⟩) HVz.out).trans hv2d; have k5 := (b5.cell (p := ⟨wr.heap.size, 1, none⟩) HVz.out).trans hv3d; have l5 := (b5.cell (p := ⟨b, off + q * 2, none⟩) HbV.out).trans hv4d; have m5 := (b5.cell (p := ⟨b, off + q * 2 + 1, none⟩) HbV.out).trans hv5d) | (go_at_call 70; refine (Hls.out w5).mono ?_; rintro e w6 ⟨rfl, b6⟩; have f6 := (b6.cell (p := ⟨w.heap.size, 0, none⟩) (Nat.lt_of_lt_of_le Hz2.out b5.size)).trans f5; have g6 := (b6.cell (p := ⟨wr.heap.size, 0, none⟩) (Nat.lt_of_lt_of_le HVz.out b5.size)).trans g5; have k6 := (b6.cell (p := ⟨wr.heap.size, 1, none⟩) (Nat.lt_of_lt_of_le HVz.out b5.size)).trans k5; have l6 := (b6.cell (p := ⟨b, off + q * 2, none⟩) (Nat.lt_of_lt_of_le HbV.out b5.size)).trans l5; have m6 := (b6.cell (p := ⟨b, off + q * 2 + 1, none⟩) (Nat.lt_of_lt_of_le HbV.out b5.size)).trans m5))
                have b8 := HVb.out.drew.trans (b5.mono HVb.out.drew.size)
                have b9 := b8.trans (b6.mono b8.size)
                go_wp2
                go_ret2
                exact ⟨by rw [HT.out]; rfl, b9⟩
              | true =>
                rw [hls] at hPq Hls
                have HK := Lib.hid (Hgo2.out hPq)
                clear hls hPq hq
                have HV := Lib.hid hV
                clear hV
                go_wp2_with fail
                rw [HV.out]
                clear HV hx0 hx1 hx hy
                go_region_held3 (fun w' => w'.cell? ⟨w.heap.size, 0, none⟩ = some (.string s) ∧ w'.cell? ⟨wr.heap.size, 0, none⟩ = some (.int .i64 x) ∧ w'.cell? ⟨wr.heap.size, 1, none⟩ = some (.int .i64 y) ∧ w'.cell? ⟨b, off + q * 2, none⟩ = some (.int .i64 x2) ∧ w'.cell? ⟨b, off + q * 2 + 1, none⟩ = some (.int .i64 y2))
                  (first | exact ⟨hv0d, hv2d, hv3d, hv4d, hv5d⟩ | exact ⟨hv0, hv2, hv3, hv4, hv5⟩ | exact ⟨f5, g5, k5, l5, m5⟩ | exact ⟨f6, g6, k6, l6, m6⟩)
                  (first | (go_at_call 69; refine (Hf.out V.drew).mono ?_; rintro e w5 ⟨rfl, b5⟩; have f5 := (b5.cell (p := ⟨w.heap.size, 0, none⟩) Hz2.out).trans hv0d; have g5 := (b5.cell (p := ⟨wr.heap.size, 0, none⟩) HVz.out).trans hv2d; have k5 := (b5.cell (p := ⟨wr.heap.size, 1, none⟩) HVz.out).trans hv3d; have l5 := (b5.cell (p := ⟨b, off + q * 2, none⟩) HbV.out).trans hv4d; have m5 := (b5.cell (p := ⟨b, off + q * 2 + 1, none⟩) HbV.out).trans hv5d) | (go_at_call 70; refine (Hls.out w5).mono ?_; rintro e w6 ⟨rfl, b6⟩; have f6 := (b6.cell (p := ⟨w.heap.size, 0, none⟩) (Nat.lt_of_lt_of_le Hz2.out b5.size)).trans f5; have g6 := (b6.cell (p := ⟨wr.heap.size, 0, none⟩) (Nat.lt_of_lt_of_le HVz.out b5.size)).trans g5; have k6 := (b6.cell (p := ⟨wr.heap.size, 1, none⟩) (Nat.lt_of_lt_of_le HVz.out b5.size)).trans k5; have l6 := (b6.cell (p := ⟨b, off + q * 2, none⟩) (Nat.lt_of_lt_of_le HbV.out b5.size)).trans l5; have m6 := (b6.cell (p := ⟨b, off + q * 2 + 1, none⟩) (Nat.lt_of_lt_of_le HbV.out b5.size)).trans m5))
                have b8 := HVb.out.drew.trans (b5.mono HVb.out.drew.size)
                have b9 := b8.trans (b6.mono b8.size)
                have p0 := f6
                have p1 := (b6.cell (p := ⟨w.heap.size, 1, none⟩) (Nat.lt_of_lt_of_le Hz2.out b5.size)).trans ((b5.cell (p := ⟨w.heap.size, 1, none⟩) Hz2.out).trans HV1.out)
                have p2 : w.heap.size < w6.heap.size := Nat.lt_of_lt_of_le (Nat.lt_of_lt_of_le Hz2.out b5.size) b6.size
                clear f5 g5 k5 l5 m5 f6 g6 k6 l6 m6
                go_wp2
                go_roundw
                case rel =>
                  refine ⟨k + 1, by omega, by go_num, fun j hj => ?_, ?_, ?_, ?_, b9⟩
                  · rcases Nat.lt_succ_iff_lt_or_eq.1 hj with h | h
                    · exact Hall.out j h
                    · rw [h]; exact HK.out
                  · exact p0
                  · exact p1
                  · exact p2
                case measure => simp [intOf]; omega
        · have HT := Lib.hid (HT0.out (Hyes.out fun j hj => Hall.out j (by have := Hm.out; omega)))
          have hkm : (m : Int) ≤ (k : Int) := by omega
          go_wp2_with fail
          refine (Hcv.out _ Hbel.out).mono ?_
          rintro e w9 ⟨rfl, b9⟩
          go_wp2
          go_ret2
          exact ⟨by rw [← HT.out]; rfl, Hbel.out.trans (b9.mono Hbel.out.size)⟩
end Go.Proofs.Ytbgoimhgmgldpaa
