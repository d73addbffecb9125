import Derived.Test.YtbgoimhgmgldpaaRA
import Derived.Test.YtbgoimhgmgldpaaRI
import Derived.StillTailTactics
import Derived.Deep.QuietTactic
import Derived.BigQuiet
import Derived.Deep.RegionHeld3
namespace Go.Proofs.Ytbgoimhgmgldpaa
open Go.RowKit
set_option linter.unusedVariables false
set_option linter.unusedSimpArgs false

theorem leftF_iff3 (rs : List (Int × Int)) (n : Int) : leftF rs n = true ↔ ∀ r ∈ rs, crossF r.1 r.2 n = false := by
  rw [leftF, decide_eq_true_eq, fIdx, List.findIdx_eq_length]
theorem pair_at3 {L : List (Int × Int)} {q : Nat} (h : q < L.length) : L[q] = (evL L q, reL L q) := by
  rw [evL, reL, List.getD_eq_getElem?_getD, List.getElem?_eq_getElem h]; rfl
/-- Whether rules leave what is shown as left and cross out what is shown as crossed out. -/
def lpA (s : ByteArray) (rs : List (Int × Int)) (i : Nat) : Bool := byN s i == 63 || byN s i == sbF rs ((i : Int) + 1)
def lpB (s : ByteArray) (rs : List (Int × Int)) : Bool := (List.range s.size).all (lpA s rs)
theorem lpB_no {s : ByteArray} {rs : List (Int × Int)} {i : Nat} (hi : i < s.size) (h : lpA s rs i = false) : lpB s rs = false := by
  rw [lpB, List.all_eq_false]; exact ⟨i, List.mem_range.2 hi, by rw [h]; decide⟩
theorem lpB_yes {s : ByteArray} {rs : List (Int × Int)} (h : ∀ i, i < s.size → lpA s rs i = true) : lpB s rs = true := by
  rw [lpB, List.all_eq_true]; exact fun i hi => h i (List.mem_range.1 hi)
/-- Whether rules are ordered. -/
def orA (rs : List (Int × Int)) (k : Nat) : Bool := decide (evL rs k ≤ 10) && iaP ⟨#[]⟩ rs k
def orB (rs : List (Int × Int)) : Bool := (List.range rs.length).all (orA rs)
theorem orB_no {rs : List (Int × Int)} {i : Nat} (hi : i < rs.length) (h : orA rs i = false) : orB rs = false := by
  rw [orB, List.all_eq_false]; exact ⟨i, List.mem_range.2 hi, by rw [h]; decide⟩
theorem orB_yes {rs : List (Int × Int)} (h : ∀ i, i < rs.length → orA rs i = true) : orB rs = true := by
  rw [orB, List.all_eq_true]; exact fun i hi => h i (List.mem_range.1 hi)
theorem ans_same {s : ByteArray} {rs : List (Int × Int)} (hp : patB s = true) : (iaL s rs && pzcB s rs) = (orB rs && lpB s rs) := by
  obtain ⟨_, _, hsg⟩ := patB_parts hp
  rw [Bool.eq_iff_iff, Bool.and_eq_true, Bool.and_eq_true]
  have hia : iaL s rs = true ↔ ∀ k, k < rs.length → iaA s rs k = true := by
    rw [iaL, List.all_eq_true]; simp only [List.mem_range]
  have hpc : pzcB s rs = true ↔ ∀ i, i < s.size → pzcA s rs i = true := by
    rw [pzcB, List.all_eq_true]; simp only [List.mem_range]
  have hor : orB rs = true ↔ ∀ k, k < rs.length → orA rs k = true := by
    rw [orB, List.all_eq_true]; simp only [List.mem_range]
  have hlp : lpB s rs = true ↔ ∀ i, i < s.size → lpA s rs i = true := by
    rw [lpB, List.all_eq_true]; simp only [List.mem_range]
  have hft : ∀ k, fitB s (evL rs k) (reL rs k) = true ↔ ∀ i, i < s.size → fitA s (evL rs k) (reL rs k) i = true := fun k => by
    rw [fitB, List.all_eq_true]; simp only [List.mem_range]
  have hia2 : ∀ k, iaA s rs k = true ↔ (orA rs k = true ∧ fitB s (evL rs k) (reL rs k) = true) := fun k => by
    have e : iaP s rs k = iaP ⟨#[]⟩ rs k := rfl
    rw [iaA, orA, e, Bool.and_eq_true, Bool.and_eq_true, Bool.and_eq_true]
    exact ⟨fun ⟨⟨a, b⟩, c⟩ => ⟨⟨a, c⟩, b⟩, fun ⟨⟨a, c⟩, b⟩ => ⟨⟨a, b⟩, c⟩⟩
  rw [hia, hpc, hor, hlp]
  constructor
  · rintro ⟨h1, h2⟩
    refine ⟨fun k hk => ((hia2 k).1 (h1 k hk)).1, fun i hi => ?_⟩
    rw [lpA, Bool.or_eq_true, beq_iff_eq, beq_iff_eq, sbF]
    rcases sgB_iff.1 (hsg i hi) with hb | hb | hb
    · right
      have : leftF rs ((i : Int) + 1) = true := by
        rw [leftF_iff3]
        intro r hr
        obtain ⟨k, hk, rfl⟩ := List.mem_iff_getElem.1 hr
        rw [pair_at3 hk]
        have := (hft k).1 ((hia2 k).1 (h1 k hk)).2 i hi
        rw [fitA, hb] at this
        rw [crossF]
        simpa using this
      rw [if_pos this]; exact hb
    · right
      have := h2 i hi
      rw [pzcA, hb] at this
      have hl : leftF rs ((i : Int) + 1) = false := by simpa using this
      rw [if_neg (by rw [hl]; decide)]; exact hb
    · exact Or.inl hb
  · rintro ⟨h1, h2⟩
    refine ⟨fun k hk => (hia2 k).2 ⟨h1 k hk, (hft k).2 fun i hi => ?_⟩, fun i hi => ?_⟩
    · have h := h2 i hi
      rw [lpA, Bool.or_eq_true, beq_iff_eq, beq_iff_eq, sbF] at h
      rw [fitA]
      by_cases hb : byN s i = 111
      · have hl : leftF rs ((i : Int) + 1) = true := by
          rcases h with h | h
          · omega
          · by_cases hl : leftF rs ((i : Int) + 1) = true
            · exact hl
            · rw [if_neg hl] at h; omega
        have := (leftF_iff3 rs _).1 hl _ (List.getElem_mem hk)
        rw [pair_at3 hk, crossF] at this
        simp only at this
        rw [this, Bool.and_false]; rfl
      · rw [beq_eq_false_iff_ne.2 hb]; rfl
    · have h := h2 i hi
      rw [lpA, Bool.or_eq_true, beq_iff_eq, beq_iff_eq, sbF] at h
      rw [pzcA]
      by_cases hb : byN s i = 120
      · have hl : leftF rs ((i : Int) + 1) = false := by
          cases hl : leftF rs ((i : Int) + 1) with
          | false => rfl
          | true =>
            rw [hl] at h
            rcases h with h | h
            · omega
            · rw [if_pos rfl] at h; omega
        rw [hl, Bool.and_false]; rfl
      · rw [beq_eq_false_iff_ne.2 hb]; rfl

/-- What cmp.Compare answers; the first that is not 0; rules compared. -/
def cpF (x y : Int) : Int := if x < y then -1 else if y < x then 1 else 0
def orF (a b : Int) : Int := if a = 0 then b else a
theorem cmp_less {e r e2 r2 : Int} : lsB e r e2 r2 = decide (orF (cpF e e2) (cpF r r2) < 0) := by
  rw [lsB, orF, cpF, cpF, Bool.eq_iff_iff]
  simp only [Bool.or_eq_true, Bool.and_eq_true, decide_eq_true_eq]
  split <;> split <;> (try split) <;> (try split) <;> omega
set_option maxRecDepth 100000 in
theorem isNaN_c (x : Int) (w : World) : Calls Try.prog 131 #[.int .i64 x] w fun e w' => e = .returned (.bool false) ∧ w' = w := by
  go_enter Try.func131, Try.ntmps131
  go_wp2
  go_ret
  exact ⟨rfl, rfl⟩
set_option maxRecDepth 100000 in
set_option maxHeartbeats 800000 in
theorem compare_s (x y : Int) (w : World) : Calls Try.prog 107 #[.int .i64 x, .int .i64 y] w fun e w' => e = .returned (.int .i64 (cpF x y)) ∧ w' = w := by
  by_cases h1 : x < y
  · rw [show cpF x y = -1 by rw [cpF, if_pos h1]]
    go_enter Try.func107, Try.ntmps107
    go_wp2_with fail
    refine (isNaN_c _ _).mono ?_
    rintro e w1 ⟨rfl, rfl⟩
    go_wp2_with fail
    refine (isNaN_c _ _).mono ?_
    rintro e w1 ⟨rfl, rfl⟩
    go_wp2
    go_ret
    exact ⟨rfl, rfl⟩
  by_cases h2 : y < x
  · rw [show cpF x y = 1 by rw [cpF, if_neg h1, if_pos h2]]
    go_enter Try.func107, Try.ntmps107
    go_wp2_with fail
    refine (isNaN_c _ _).mono ?_
    rintro e w1 ⟨rfl, rfl⟩
    go_wp2_with fail
    refine (isNaN_c _ _).mono ?_
    rintro e w1 ⟨rfl, rfl⟩
    go_wp2
    go_ret
    exact ⟨rfl, rfl⟩
  · rw [show cpF x y = 0 by rw [cpF, if_neg h1, if_neg h2]]
    go_enter Try.func107, Try.ntmps107
    go_wp2_with fail
    refine (isNaN_c _ _).mono ?_
    rintro e w1 ⟨rfl, rfl⟩
    go_wp2_with fail
    refine (isNaN_c _ _).mono ?_
    rintro e w1 ⟨rfl, rfl⟩
    go_wp2
    go_ret
    exact ⟨rfl, rfl⟩
set_option maxRecDepth 100000 in
set_option maxHeartbeats 800000 in
theorem or_c (g cap : Nat) (a b : Int) (w : World) (h0 : w.cell? ⟨g, 0, none⟩ = some (.int .i64 a)) (h1 : w.cell? ⟨g, 1, none⟩ = some (.int .i64 b)) :
    Calls Try.prog 106 #[.slice (some ⟨g, 0, none⟩) 2 cap] w fun e w' => e = .returned (.int .i64 (orF a b)) ∧ w = w' := by
  by_cases ha : a = 0
  · rw [orF, if_pos ha]
    by_cases hb : b = 0
    · go_enter Try.func106, Try.ntmps106
      go_wp2
      go_loop [8] (fun i => ∃ k : Nat, k ≤ 2 ∧ i = .int .i64 (k : Int)) (fun i => 2 - (intOf i).toNat)
      case atStart => exact ⟨0, by omega, rfl⟩
      case round =>
        obtain ⟨k, hk, rfl⟩ := hrel
        have hk3 : k = 0 ∨ k = 1 ∨ k = 2 := by omega
        rcases hk3 with rfl | rfl | rfl
        · go_wp2
          go_round
          case rel => exact ⟨1, by omega, rfl⟩
          case measure => simp [intOf]
        · go_wp2
          go_round
          case rel => exact ⟨2, by omega, rfl⟩
          case measure => simp [intOf]
        · go_wp2
          go_ret
          exact ⟨by first | rfl | (rw [hb]; rfl), rfl⟩
    · go_enter Try.func106, Try.ntmps106
      go_wp2
      go_loop [8] (fun i => ∃ k : Nat, k ≤ 1 ∧ i = .int .i64 (k : Int)) (fun i => 2 - (intOf i).toNat)
      case atStart => exact ⟨0, by omega, rfl⟩
      case round =>
        obtain ⟨k, hk, rfl⟩ := hrel
        have hk3 : k = 0 ∨ k = 1 := by omega
        rcases hk3 with rfl | rfl
        · go_wp2
          go_round
          case rel => exact ⟨1, by omega, rfl⟩
          case measure => simp [intOf]
        · go_wp2
          go_ret
          exact ⟨rfl, rfl⟩
  · rw [orF, if_neg ha]
    go_enter Try.func106, Try.ntmps106
    go_wp2
    go_loop [8] (fun i => i = .int .i64 0) (fun i => 2 - (intOf i).toNat)
    case atStart => exact rfl
    case round =>
      subst hrel
      go_wp2
      go_ret
      exact ⟨rfl, rfl⟩
set_option maxRecDepth 100000 in
set_option maxHeartbeats 800000 in
theorem compareRules_c (e r e2 r2 : Int) (w : World) :
    Calls Try.prog 94 #[.agg #[.int .i64 e, .int .i64 r], .agg #[.int .i64 e2, .int .i64 r2]] w fun en w' => en = .returned (.int .i64 (orF (cpF e e2) (cpF r r2))) ∧ Below w.heap.size w w' := by
  obtain ⟨W, hW⟩ : ∃ W, (w.alloc (.cells #[.int .i64 e, .int .i64 r] 53)).alloc (.cells #[.int .i64 e2, .int .i64 r2] 53) = W := ⟨_, rfl⟩
  have b0 : Below w.heap.size w W := by rw [← hW]; exact ((Below.refl _ _).alloc (Nat.le_refl _) _).alloc (by simp) _
  have c0 : W.cell? ⟨w.heap.size, 0, none⟩ = some (.int .i64 e) := by rw [← hW]; simp
  have c1 : W.cell? ⟨w.heap.size, 1, none⟩ = some (.int .i64 r) := by rw [← hW]; simp
  have c2 : W.cell? ⟨w.heap.size + 1, 0, none⟩ = some (.int .i64 e2) := by rw [← hW]; simp
  have c3 : W.cell? ⟨w.heap.size + 1, 1, none⟩ = some (.int .i64 r2) := by rw [← hW]; simp
  have hsz : w.heap.size ≤ W.heap.size := b0.size
  have B0 := Lib.hid b0
  have HW := Lib.hid hW
  clear b0 hW
  go_enter Try.func94, Try.ntmps94
  go_wp2_with fail
  rw [HW.out]
  clear HW
  go_still_tail 10, (by kernel_rfl)
  repeat (first | still_step | still_call (compare_s _ _ _))
  refine wpStill_nil ?_
  go_wp2_with fail
  refine (or_c _ _ (cpF e e2) (cpF r r2) _ (by show (W.alloc (.cells _ _)).cell? _ = _; simp) (by show (W.alloc (.cells _ _)).cell? _ = _; simp)).mono ?_
  rintro e9 w3 ⟨rfl, rfl⟩
  go_wp2
  go_ret
  exact ⟨rfl, (B0.out.alloc hsz _).drew⟩
theorem orA_big {rs : List (Int × Int)} {k : Nat} (h : ¬ evL rs k ≤ 10) : orA rs k = false := by rw [orA, decide_eq_false h]; rfl
theorem orA_prev {rs : List (Int × Int)} {k : Nat} (h : iaP ⟨#[]⟩ rs k = false) : orA rs k = false := by rw [orA, h, Bool.and_false]
theorem orA_yes {rs : List (Int × Int)} {k : Nat} (h1 : evL rs k ≤ 10) (h3 : iaP ⟨#[]⟩ rs k = true) : orA rs k = true := by rw [orA, decide_eq_true h1, h3]; rfl
set_option maxRecDepth 100000 in
set_option maxHeartbeats 1600000 in
theorem areOrdered_c (A : Option Addr) (m c : Nat) (rs : List (Int × Int)) (w : World) (hA : Rl w A rs) (hm : m = rs.length) (hn : m ≤ 1048576) :
    Calls Try.prog 72 #[.slice A m c] w fun en w' => en = .returned (.bool (orB rs)) ∧ Below w.heap.size w w' := by
  have HA := Lib.hid hA
  have Hm := Lib.hid hm
  clear hA hm
  have Hyes := Lib.hid (orB_yes (rs := rs))
  have Hno := Lib.hid (fun i (hi : i < rs.length) h => orB_no (rs := rs) hi h)
  obtain ⟨T, hT⟩ : ∃ T, orB rs = T := ⟨_, rfl⟩
  rw [hT] at Hno Hyes ⊢
  clear hT
  go_enter Try.func72, Try.ntmps72
  go_wp2
  go_loopw [7] (fun i wr => ∃ k : Nat, k ≤ m ∧ i = .int .i64 (k : Int) ∧ (∀ j, j < k → orA rs j = true) ∧ Below w.heap.size w wr) (fun i _ => m - (intOf i).toNat)
  case atStart => exact ⟨0, Nat.zero_le _, rfl, fun j h => by omega, Below.refl _ _⟩
  case round =>
    obtain ⟨k, hk, rfl, hall, hbel⟩ := hrel
    have Hall := Lib.hid hall
    have Hbel := Lib.hid hbel
    clear hall
    by_cases hlt : k < m
    · have hlt1 : k < rs.length := by have := Hm.out; omega
      obtain ⟨b, off, rfl, hb, hr⟩ := HA.out (by omega)
      have hx0 := (hbel.cell (p := ⟨b, off + k * 2, none⟩) hb).trans (hr k hlt1).1
      have hx1 := (hbel.cell (p := ⟨b, off + k * 2 + 1, none⟩) hb).trans (hr k hlt1).2
      have hkm : (k : Int) < (m : Int) := by omega
      have Hno1 := Lib.hid (fun h => Hno.out k hlt1 h)
      have Hbig := Lib.hid (fun h => orA_big (rs := rs) (k := k) h)
      have Hpre := Lib.hid (fun h => orA_prev (rs := rs) (k := k) h)
      have Hgo := Lib.hid (fun h1 h3 => orA_yes (rs := rs) (k := k) h1 h3)
      have HP : Hid (∀ q : Nat, k = q + 1 → iaP ⟨#[]⟩ rs k = decide (orF (cpF (evL rs q) (evL rs k)) (cpF (reL rs q) (reL rs k)) < 0)) := fun q hq => by subst hq; rw [← cmp_less]; rfl
      have HP0 : Hid (k = 0 → iaP ⟨#[]⟩ rs k = true) := fun hq => by subst hq; rfl
      obtain ⟨x, hx⟩ : ∃ x, evL rs k = x := ⟨_, rfl⟩
      obtain ⟨y, hy⟩ : ∃ y, reL rs k = y := ⟨_, rfl⟩
      rw [hx] at hx0 Hbig Hgo HP
      rw [hy] at hx1 HP
      obtain ⟨V, hV⟩ : ∃ V, wr.alloc (.cells #[.int .i64 x, .int .i64 y] 53) = V := ⟨_, rfl⟩
      have hv2 : V.cell? ⟨wr.heap.size, 0, none⟩ = some (.int .i64 x) := by rw [← hV]; simp
      have hv3 : V.cell? ⟨wr.heap.size, 1, none⟩ = some (.int .i64 y) := by rw [← hV]; simp
      have hVz : wr.heap.size < V.heap.size := by rw [← hV]; simp
      have hVb : Below w.heap.size w V := by rw [← hV]; exact hbel.alloc hbel.size _
      have HVb := Lib.hid hVb
      have HVz := Lib.hid hVz
      clear hVb hVz hbel
      by_cases h10 : x ≤ 10
      rotate_left
      · have HT := Lib.hid (Hno1.out (Hbig.out h10))
        have h10b : 10 < x := by omega
        have hdx : decide (10 < x) = true := decide_eq_true h10b
        clear h10
        have HV := Lib.hid hV
        clear hV
        go_wp2_with fail
        rw [HV.out]
        clear HV hx0 hx1 hx hy
        go_region
        go_wp2
        go_ret
        exact ⟨by rw [HT.out]; rfl, HVb.out.drew⟩
      have hdx : decide (10 < x) = false := decide_eq_false (by omega)
      by_cases hk0 : k = 0
      · have HK := Lib.hid (Hgo.out h10 (HP0.out hk0))
        subst hk0
        rw [Nat.zero_mul, Nat.add_zero] at hx0 hx1
        have HV := Lib.hid hV
        clear hV
        go_wp2_with fail
        rw [HV.out]
        clear HV hx0 hx1 hx hy
        go_region
        go_wp2
        go_roundw
        case rel => exact ⟨1, by omega, rfl, fun j hj => by
          rw [show j = 0 by omega]; exact HK.out, HVb.out.drew⟩
        case measure => simp [intOf]; omega
      · obtain ⟨q, hq⟩ : ∃ q, k = q + 1 := ⟨k - 1, by omega⟩
        have hq1 : q < rs.length := by omega
        have hy0 := (Hbel.out.cell (p := ⟨b, off + q * 2, none⟩) hb).trans (hr q hq1).1
        have hy1 := (Hbel.out.cell (p := ⟨b, off + q * 2 + 1, none⟩) hb).trans (hr q hq1).2
        have hPq := HP.out q hq
        obtain ⟨x2, hx2⟩ : ∃ x2, evL rs q = x2 := ⟨_, rfl⟩
        obtain ⟨y2, hy2⟩ : ∃ y2, reL rs q = y2 := ⟨_, rfl⟩
        rw [hx2] at hy0 hPq
        rw [hy2] at hy1 hPq
        have hbz : b < wr.heap.size := Nat.lt_of_lt_of_le hb Hbel.out.size
        have hv4 : V.cell? ⟨b, off + q * 2, none⟩ = some (.int .i64 x2) := by rw [← hV]; exact (((Below.refl wr.heap.size wr).alloc (Nat.le_refl _) _).cell (p := ⟨b, off + q * 2, none⟩) hbz).trans hy0
        have hv5 : V.cell? ⟨b, off + q * 2 + 1, none⟩ = some (.int .i64 y2) := by rw [← hV]; exact (((Below.refl wr.heap.size wr).alloc (Nat.le_refl _) _).cell (p := ⟨b, off + q * 2 + 1, none⟩) hbz).trans hy1
        have hkq : (k : Int) - 1 = (q : Int) := by omega
        have hq0 : (0 : Int) ≤ (q : Int) := by omega
        have hqm : (q : Int) < (m : Int) := by omega
        have hwq : IntKind.i64.wrap (q : Int) = (q : Int) := IntWalk.i64_in _ (by omega)
        have hki : (0 : Int) < (k : Int) := by omega
        have hkd : decide ((0 : Int) < (k : Int)) = true := decide_eq_true hki
        have hkd2 : decide (0 < k) = true := decide_eq_true (by omega)
        have Hcr := Lib.hid (fun W => compareRules_c x2 y2 x y W)
        obtain ⟨D, hD⟩ : ∃ D, orF (cpF x2 x) (cpF y2 y) = D := ⟨_, rfl⟩
        rw [hD] at Hcr hPq
        clear hx2 hy2 hk0 hbz hy0 hy1 hD
        by_cases hls : 0 ≤ D
        · have HT := Lib.hid (Hno1.out (Hpre.out (by rw [hPq]; exact decide_eq_false (by omega))))
          have hld : decide (0 ≤ D) = true := decide_eq_true hls
          clear hPq hq
          have HV := Lib.hid hV
          clear hV
          go_wp2_with fail
          rw [HV.out]
          clear HV hx0 hx1 hx hy
          go_still_tail 13, (by kernel_rfl)
          go_wp2_with fail
          refine (Hcr.out _).mono ?_
          rintro e w5 ⟨rfl, b5⟩
          go_wp2
          go_ret
          exact ⟨by rw [HT.out]; rfl, HVb.out.drew.trans (b5.mono HVb.out.drew.size)⟩
        · have HK := Lib.hid (Hgo.out h10 (by rw [hPq]; exact decide_eq_true (by omega)))
          have hld : decide (0 ≤ D) = false := decide_eq_false hls
          clear hPq hq
          have HV := Lib.hid hV
          clear hV
          go_wp2_with fail
          rw [HV.out]
          clear HV hx0 hx1 hx hy
          go_still_tail 13, (by kernel_rfl)
          go_wp2_with fail
          refine (Hcr.out _).mono ?_
          rintro e w5 ⟨rfl, b5⟩
          go_wp2
          go_roundw
          case rel => exact ⟨k + 1, by omega, by go_num, fun j hj => by
            rcases Nat.lt_succ_iff_lt_or_eq.1 hj with h | h
            · exact Hall.out j h
            · rw [h]; exact HK.out, HVb.out.drew.trans (b5.mono HVb.out.drew.size)⟩
          case measure => simp [intOf]; omega
    · have HT := Lib.hid (Hyes.out fun j hj => Hall.out j (by have := Hm.out; omega))
      have hkm : (m : Int) ≤ (k : Int) := by omega
      go_wp2
      go_ret
      exact ⟨by rw [HT.out]; rfl, Hbel.out⟩

end Go.Proofs.Ytbgoimhgmgldpaa
