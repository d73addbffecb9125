import Derived.Test.YtoapidcbmlnjcaaQ9
namespace Go.Proofs.Ytoapidcbmlnjcaa
open Go.RowKit
set_option linter.unusedVariables false
set_option linter.unusedSimpArgs false

theorem gpLook_all (xs : List Int) (P : Option Addr) (cp M o : Nat) (hM : M ≤ 40) (hx5 : xs.length ≤ 5) (hxs : ∀ i, i < xs.length → 2 ≤ ivL xs i ∧ ivL xs i ≤ 13) : ∀ l, LookOk3 xs P cp M o l
  | 0 => gpLook_0 xs P cp M o hM
  | l + 1 => gpLook_s xs P cp M o l hM hx5 hxs (gpLook_all xs P cp M o hM hx5 hxs l)
/-- All covers of 1 to n. -/
def cvA (xs : List Int) (n : Nat) : List (List (Int × Int)) := cvN xs n xs.length []
theorem cvA_len {xs : List Int} (h : gpP xs = true) (n : Nat) : (cvA xs n).length ≤ 1000000 := by
  obtain ⟨h1, h2, _⟩ := gpP_parts h
  have h3 := cvN_len (xs := xs) (fun i => by
    by_cases hi : i < xs.length
    · exact (dpB_at h2 hi).2
    · have h9 : xs[i]? = none := List.getElem?_eq_none (by omega); simp [ivL, List.getD_eq_getElem?_getD, h9]) n xs.length []
  have h4 := Nat.pow_le_pow_right (show 0 < 13 by omega) h1
  rw [cvA]
  omega
set_option maxRecDepth 100000 in
set_option maxHeartbeats 800000 in
theorem gpAll_c (w : World) (P : Option Addr) (m cp : Nat) (xs : List Int) (hP : Il w P xs) (hm : m = xs.length) (hg : gpP xs = true) (M : Nat) (hM : M ≤ 40) :
    Calls Try.prog 93 #[.slice P m cp, .int .i64 (M : Int)] w fun en w' => (∃ v, en = .returned (.tuple #[.int .i64 ((cvA xs M).length : Int), v]) ∧ OwnR w' w.heap.size v (hdR (cvA xs M))) ∧ Below w.heap.size w w' := by
  obtain ⟨h1, h2, _⟩ := gpP_parts hg
  have hx := fun i (hi : i < xs.length) => dpB_at h2 hi
  have hLen := cvA_len hg M
  obtain ⟨w1, hw1⟩ : ∃ w1, (w.alloc (.cells #[.int .i64 0] 3)).alloc (.cells #[.slice none 0 0] 26) = w1 := ⟨_, rfl⟩
  have hb1 : Below w.heap.size w w1 := by rw [← hw1]; exact ((Below.refl _ _).alloc (Nat.le_refl _) _).alloc (by simp) _
  have hs1 : w1.heap.size = w.heap.size + 2 := by rw [← hw1]; simp
  have h3 : At3 w1 w.heap.size (.slice none 0 0) [] := by
    have e1 := heap_alloc_new w (.cells #[.int .i64 0] 3)
    have e2 := heap_alloc_new (w.alloc (.cells #[.int .i64 0] 3)) (.cells #[.slice none 0 0] 26)
    rw [World.size_alloc] at e2
    refine ⟨?_, ?_, World.ownsRow_nil _ _ _ _⟩
    · rw [← hw1]
      exact (((Below.refl (w.alloc (.cells #[.int .i64 0] 3)).heap.size (w.alloc (.cells #[.int .i64 0] 3))).alloc (Nat.le_refl _) (.cells #[.slice none 0 0] 26)).block w.heap.size (by simp)).trans e1
    · rw [← hw1]
      exact e2
  have hlk := gpLook_all xs P cp M w.heap.size hM h1 hx xs.length w1 none 0 [] (.slice none 0 0) [] (cvA xs M) (hP.below hb1) (fun h0 b off e => by
      obtain ⟨b2, off2, e2, hb2, _⟩ := hP h0
      rw [e] at e2
      cases e2
      omega) (fun h => by simp at h) (fun b off e => by cases e) (by simp) rfl h3 rfl (by omega)
  rw [← hm] at hlk
  have Hlk := Lib.hid hlk
  have Hw1 := Lib.hid hw1
  obtain ⟨C, hC⟩ : ∃ C : Int, ((cvA xs M).length : Int) = C := ⟨_, rfl⟩
  rw [hC]
  have HC := Lib.hid hC
  clear hlk hw1 h3 hx h2 hm hC
  go_enter Try.func93, Try.ntmps93
  go_wp2_with fail
  rw [Hw1.out]
  refine Hlk.out.mono ?_
  rintro e w3 ⟨rfl, v3, h3, k3⟩
  have hb3 : Below w.heap.size w w3 := ⟨k3.os.trans hb1.os, k3.tape.trans hb1.tape, k3.output.trans hb1.output, Nat.le_trans hb1.size k3.size, fun k hk => (k3.block k (by omega) (by omega) (by omega)).trans (hb1.block k hk)⟩
  have H3 := Lib.hid h3
  have c0 : w3.cell? ⟨w.heap.size, 0, none⟩ = some (.int .i64 C) := by rw [← HC.out]; exact cell_of_row w3 w.heap.size 0 _ _ _ h3.count
  have c1 : w3.cell? ⟨w.heap.size + 1, 0, none⟩ = some v3 := cell_of_row w3 (w.heap.size + 1) 0 _ _ _ h3.first
  obtain ⟨A3, n3, q3, rfl, rfl, _⟩ := h3.own.form
  clear h3 k3
  go_wp2_with fail
  go_quiet (fail)
  go_wp2
  go_ret2
  exact ⟨⟨_, rfl, OwnR.below (OwnR.mono H3.out.own (show w.heap.size ≤ w.heap.size + 2 by omega)) (below_drewN (Below.refl _ _) _)⟩, below_drewN hb3 _⟩
/-- The greatest number up to which the primes cover all, f to be tried from k on. -/
def mcG (xs : List Int) : Nat → Nat → Nat
  | 0, k => k
  | f + 1, k => if (cvA xs (k + 1)).length = 0 then k else mcG xs f (k + 1)
theorem mcG_stop {xs : List Int} {f k : Nat} (h : (cvA xs (k + 1)).length = 0) : mcG xs (f + 1) k = k := by rw [mcG, if_pos h]
theorem mcG_on {xs : List Int} {f k : Nat} (h : ¬ (cvA xs (k + 1)).length = 0) : mcG xs (f + 1) k = mcG xs f (k + 1) := by rw [mcG, if_neg h]
def mcV (xs : List Int) : Int := if gpP xs then (mcG xs 40 0 : Int) else 0
theorem mcV_no {xs : List Int} (h : gpP xs = false) : mcV xs = 0 := by rw [mcV, h]; rfl
theorem mcV_yes {xs : List Int} (h : gpP xs = true) : mcV xs = (mcG xs 40 0 : Int) := by rw [mcV, h]; rfl
set_option maxRecDepth 100000 in
set_option maxHeartbeats 800000 in
theorem spec_MostCovered_c (w : World) (A : Option Addr) (m c : Nat) (xs : List Int) (hA : Il w A xs) (hm : m = xs.length) (hn : m ≤ 1048576) (hmc : m ≤ c) :
    Calls Try.prog 55 #[.slice A m c] w fun en w' => en = .returned (.tuple #[.int .i64 (mcV xs), .bool (gpP xs)]) ∧ Below w.heap.size w w' := by
  have Hm := Lib.hid hm
  clear hm
  cases hg : gpP xs with
  | false =>
    rw [mcV_no hg]
    go_enter Try.func55, Try.ntmps55
    go_wp2_with fail
    refine (gpPrimes_c _ _ _ _ xs hA Hm.out hn hmc).mono ?_
    rintro e w1 ⟨rfl, b1⟩
    have hA_1 := hA.below b1
    go_wp2
    go_ret2
    exact ⟨rfl, b1⟩
  | true =>
    rw [mcV_yes hg]
    obtain ⟨T, hT⟩ : ∃ T, mcG xs 40 0 = T := ⟨_, rfl⟩
    rw [hT]
    have HT := Lib.hid hT
    clear hT
    have Hg := Lib.hid hg
    go_enter Try.func55, Try.ntmps55
    go_wp2_with fail
    refine (gpPrimes_c _ _ _ _ xs hA Hm.out hn hmc).mono ?_
    rintro e w1 ⟨rfl, b1⟩
    have hA_1 := hA.below b1
    have hA1 := hA_1
    have bb1 := b1
    have hs1 := bb1.size
    go_wp2
    go_loopw [4, 5, 6] (fun i _ _ wr => ∃ k : Nat, k ≤ 40 ∧ i = .int .i64 (k : Int) ∧ Hid (mcG xs (40 - k) k = T) ∧ Below w.heap.size w wr) (fun i _ _ _ => 40 - (intOf i).toNat)
    case atStart => exact ⟨0, by omega, rfl, HT, b1⟩
    case round =>
      obtain ⟨k, hk, rfl, HD, hbel⟩ := hrel
      have hs := hbel.size
      have hAr := hA.below hbel
      by_cases hlt : k < 40
      · have hli : (k : Int) < 40 := by omega
        have Hc := gpAll_c _ A m c xs hAr Hm.out Hg.out (k + 1) (by omega)
        have e1 : ((k + 1 : Nat) : Int) = (k : Int) + 1 := Int.natCast_succ k
        rw [e1] at Hc
        have h9 := cvA_len Hg.out (k + 1)
        obtain ⟨C, hC⟩ : ∃ C, (cvA xs (k + 1)).length = C := ⟨_, rfl⟩
        rw [hC] at Hc h9
        have HC := Lib.hid Hc
        have HCe := Lib.hid hC
        clear Hc e1 hC
        by_cases hz : C = 0
        · have Hy : Hid (k = T) := by
            show _ = _
            rw [← HD.out, show 40 - k = (39 - k) + 1 by omega, mcG_stop (HCe.out.trans hz)]
          subst hz
          go_wp2_with fail
          refine HC.out.mono ?_
          rintro e w5 ⟨⟨v5, rfl, o5⟩, b5⟩
          obtain ⟨A5, n5, q5, rfl, _, _⟩ := o5.form
          go_wp2
          go_ret2
          exact ⟨by rw [← Hy.out]; rfl, hbel.trans (b5.mono hs)⟩
        · have HD2 : Hid (mcG xs (40 - (k + 1)) (k + 1) = T) := by
            show _ = _
            rw [← HD.out, show 40 - k = (40 - (k + 1)) + 1 by omega]
            exact (mcG_on (by rw [HCe.out]; exact hz)).symm
          have hzb : ((C : Int) == 0) = false := beq_eq_false_iff_ne.2 (by omega)
          clear hz
          go_wp2_with fail
          refine HC.out.mono ?_
          rintro e w5 ⟨⟨v5, rfl, o5⟩, b5⟩
          obtain ⟨A5, n5, q5, rfl, _, _⟩ := o5.form
          go_wp2
          go_roundw
          case rel => exact ⟨k + 1, by omega, by go_num, HD2, hbel.trans (b5.mono hs)⟩
          case measure => simp [intOf]; omega
      · have Hk : Hid (k = T) := by show _ = _; rw [← HD.out, show 40 - k = 0 by omega, mcG]
        have hk40 : k = 40 := by omega
        subst hk40
        go_wp2
        go_ret2
        exact ⟨by rw [← Hk.out]; rfl, hbel⟩

def fcO (xs : List Int) (n : Int) : Bool := gqO xs n && decide (0 < (cvA xs n.toNat).length)
def fcV (xs : List Int) (n : Int) : List (Int × Int) := if fcO xs n then hdR (cvA xs n.toNat) else []
theorem fcV_no {xs : List Int} {n : Int} (h : fcO xs n = false) : fcV xs n = [] := by rw [fcV, h]; rfl
theorem fcV_yes {xs : List Int} {n : Nat} (h : fcO xs (n : Int) = true) : fcV xs (n : Int) = hdR (cvA xs n) := by rw [fcV, h, Int.toNat_natCast]; rfl
theorem gqO_parts {xs : List Int} {n : Int} (h : gqO xs n = true) : gpP xs = true ∧ 0 ≤ n ∧ n ≤ 40 := by
  rw [gqO, Bool.and_eq_true] at h
  exact ⟨h.1, inB_true.1 h.2⟩
set_option maxRecDepth 100000 in
set_option maxHeartbeats 800000 in
theorem spec_FirstCover_c (w : World) (A : Option Addr) (m c : Nat) (xs : List Int) (hA : Il w A xs) (hm : m = xs.length) (hn : m ≤ 1048576) (hmc : m ≤ c) (n : Int) :
    Calls Try.prog 57 #[.slice A m c, .int .i64 n] w fun en w' => (∃ v, en = .returned (.tuple #[v, .bool (fcO xs n)]) ∧ OwnR w' w.heap.size v (fcV xs n)) ∧ Below w.heap.size w w' := by
  have Hm := Lib.hid hm
  clear hm
  cases hg : gqO xs n with
  | false =>
    have ho : fcO xs n = false := by rw [fcO, hg]; rfl
    rw [fcV_no ho, ho]
    clear ho
    go_enter Try.func57, Try.ntmps57
    go_wp2_with fail
    refine (gpAsked_c _ _ _ _ xs hA Hm.out hn hmc _).mono ?_
    rintro e w1 ⟨rfl, b1⟩
    have hA_1 := hA.below b1
    go_wp2
    go_ret2
    exact ⟨⟨_, rfl, OwnR.nil _ _⟩, b1⟩
  | true =>
    obtain ⟨h1, h2, h3⟩ := gqO_parts hg
    obtain ⟨M, rfl⟩ := Int.eq_ofNat_of_zero_le h2
    have Hp := Lib.hid h1
    have Hq := Lib.hid hg
    clear h1
    have Hg := Lib.hid hg
    go_enter Try.func57, Try.ntmps57
    go_wp2_with fail
    refine (gpAsked_c _ _ _ _ xs hA Hm.out hn hmc _).mono ?_
    rintro e w1 ⟨rfl, b1⟩
    have hA_1 := hA.below b1
    have hA1 := hA_1
    have bb1 := b1
    have hs1 := bb1.size
    have Hc := gpAll_c _ A m c xs hA1 Hm.out Hp.out M (by omega)
    have h9 := cvA_len Hp.out M
    obtain ⟨C, hC⟩ : ∃ C, (cvA xs M).length = C := ⟨_, rfl⟩
    rw [hC] at Hc h9
    have HC := Lib.hid Hc
    have HCe := Lib.hid hC
    clear Hc hC
    by_cases hz : C = 0
    · have Ho : Hid (fcO xs (M : Int) = false) := by show _ = _; rw [fcO, Int.toNat_natCast, HCe.out, hz]; simp
      subst hz
      go_wp2_with fail
      refine HC.out.mono ?_
      rintro e w5 ⟨⟨v5, rfl, o5⟩, b5⟩
      obtain ⟨A5, n5, q5, rfl, _, _⟩ := o5.form
      go_wp2
      go_ret2
      exact ⟨⟨_, by rw [Ho.out]; rfl, by rw [fcV_no Ho.out]; exact OwnR.nil _ _⟩, (b1).trans (b5.mono hs1)⟩
    · have Ho : Hid (fcO xs (M : Int) = true) := by show _ = _; rw [fcO, Int.toNat_natCast, HCe.out, Hq.out, decide_eq_true (by omega)]; rfl
      have hzb : ((C : Int) == 0) = false := beq_eq_false_iff_ne.2 (by omega)
      clear hz
      go_wp2_with fail
      refine HC.out.mono ?_
      rintro e w5 ⟨⟨v5, rfl, o5⟩, b5⟩
      obtain ⟨A5, n5, q5, rfl, rfl, _⟩ := o5.form
      have O5 := Lib.hid o5
      go_wp2
      go_ret2
      exact ⟨⟨_, by rw [Ho.out]; rfl, by rw [fcV_yes Ho.out]; exact OwnR.mono O5.out hs1⟩, (b1).trans (b5.mono hs1)⟩
def ccvV (xs : List Int) (n : Int) : Int := if gqO xs n then ((cvA xs n.toNat).length : Int) else 0
theorem ccvV_no {xs : List Int} {n : Int} (h : gqO xs n = false) : ccvV xs n = 0 := by rw [ccvV, h]; rfl
theorem ccvV_yes {xs : List Int} {n : Nat} (h : gqO xs (n : Int) = true) : ccvV xs (n : Int) = ((cvA xs n).length : Int) := by rw [ccvV, h, Int.toNat_natCast]; rfl
set_option maxRecDepth 100000 in
set_option maxHeartbeats 800000 in
theorem spec_CountCovers_c (w : World) (A : Option Addr) (m c : Nat) (xs : List Int) (hA : Il w A xs) (hm : m = xs.length) (hn : m ≤ 1048576) (hmc : m ≤ c) (n : Int) :
    Calls Try.prog 59 #[.slice A m c, .int .i64 n] w fun en w' => en = .returned (.tuple #[.int .i64 (ccvV xs n), .bool (gqO xs n)]) ∧ Below w.heap.size w w' := by
  have Hm := Lib.hid hm
  clear hm
  cases hg : gqO xs n with
  | false =>
    rw [ccvV_no hg]
    go_enter Try.func59, Try.ntmps59
    go_wp2_with fail
    refine (gpAsked_c _ _ _ _ xs hA Hm.out hn hmc _).mono ?_
    rintro e w1 ⟨rfl, b1⟩
    have hA_1 := hA.below b1
    go_wp2
    go_ret2
    exact ⟨rfl, b1⟩
  | true =>
    obtain ⟨h1, h2, h3⟩ := gqO_parts hg
    obtain ⟨M, rfl⟩ := Int.eq_ofNat_of_zero_le h2
    have Hp := Lib.hid h1
    rw [ccvV_yes hg]
    clear h1
    have Hg := Lib.hid hg
    go_enter Try.func59, Try.ntmps59
    go_wp2_with fail
    refine (gpAsked_c _ _ _ _ xs hA Hm.out hn hmc _).mono ?_
    rintro e w1 ⟨rfl, b1⟩
    have hA_1 := hA.below b1
    have hA1 := hA_1
    have bb1 := b1
    have hs1 := bb1.size
    have HC := Lib.hid (gpAll_c _ A m c xs hA1 Hm.out Hp.out M (by omega))
    go_wp2_with fail
    refine HC.out.mono ?_
    rintro e w5 ⟨⟨v5, rfl, o5⟩, b5⟩
    obtain ⟨A5, n5, q5, rfl, _, _⟩ := o5.form
    go_wp2
    go_ret2
    exact ⟨rfl, (b1).trans (b5.mono hs1)⟩

end Go.Proofs.Ytoapidcbmlnjcaa
