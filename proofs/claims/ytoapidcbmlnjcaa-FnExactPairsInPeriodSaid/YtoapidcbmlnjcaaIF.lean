import Derived.Test.YtoapidcbmlnjcaaI8
import Derived.Test.YtoapidcbmlnjcaaI1
import Derived.Deep.RegionLaw
namespace Go.Proofs.Ytoapidcbmlnjcaa
open Go.RowKit
set_option linter.unusedVariables false
set_option linter.unusedSimpArgs false

def caV (f : Nat → Bool) (n : Nat) : Int := if f n = true then 1 else 0
theorem caV_le (rs : List (Int × Int)) (n : Nat) : caV (lfQ rs) n = (leB rs n : Int) := by rw [caV, leB]; split <;> rfl
theorem leB_le (rs : List (Int × Int)) (n : Nat) : leB rs n ≤ 1 := by rw [leB]; split <;> omega
set_option maxRecDepth 100000 in
set_option maxHeartbeats 800000 in
theorem countAt_c (w : World) (vb : Value) (Al : Option Addr) (nl cl : Nat) (P : Nat) (f : Nat → Bool) (hP1 : 1 ≤ P) (hP : P ≤ 100000) (hB : BoolsAt w vb P f) (n : Nat) (hn : n ≤ 1000000) :
    Calls Try.prog 89 #[.agg #[vb, .slice Al nl cl], .int .i64 (n : Int)] w fun en w' => en = .returned (.int .i64 (caV f (n % P))) ∧ Below w.heap.size w w' := by
  obtain ⟨g, cb, rfl, hg, hcb⟩ := hB
  have hmod : n % P < P := Nat.mod_lt _ (by omega)
  obtain ⟨r, hr⟩ : ∃ r, n % P = r := ⟨_, rfl⟩
  rw [hr] at hmod ⊢
  have ht : Int.tmod (n : Int) (P : Int) = (r : Int) := by rw [← hr]; rfl
  have hP0 : ¬ P = 0 := by omega
  have hPz : ¬ (P : Int) = 0 := by omega
  have hwr : IntKind.i64.wrap (r : Int) = (r : Int) := IntWalk.i64_in _ (by omega)
  have hri : (r : Int) < (P : Int) := by omega
  have hr0 : (0 : Int) ≤ (r : Int) := Int.natCast_nonneg r
  have hcr := hcb r hmod
  obtain ⟨w1, hw1⟩ : ∃ w1, w.alloc (.cells #[.slice (some ⟨g, 0, none⟩) P cb, .slice Al nl cl] 75) = w1 := ⟨_, rfl⟩
  have b1 : Below w.heap.size w w1 := by rw [← hw1]; exact (Below.refl _ _).alloc (Nat.le_refl _) _
  have hr1 : w1.heap[w.heap.size]? = some (.cells #[.slice (some ⟨g, 0, none⟩) P cb, .slice Al nl cl] 75 (0, 0)) := by rw [← hw1]; exact heap_alloc_new w _
  have c1 : w1.cell? ⟨w.heap.size, 0, none⟩ = some (.slice (some ⟨g, 0, none⟩) P cb) := cell_of_row _ _ 0 _ _ _ hr1
  have c2 : w1.cell? ⟨g, r, none⟩ = some (.bool (f r)) := (b1.cell (p := ⟨g, r, none⟩) hg).trans hcr
  have Hw1 := Lib.hid hw1
  obtain ⟨q, hq⟩ : ∃ q, f r = q := ⟨_, rfl⟩
  rw [hq] at c2
  have hV : caV f r = if q = true then 1 else 0 := by rw [caV, hq]
  rw [hV]
  clear hcb hr1 hw1 hcr hr hV hq
  cases q with
  | true =>
    rw [if_pos rfl]
    go_enter Try.func89, Try.ntmps89
    go_wp2_with fail
    rw [Hw1.out]
    go_quiet (fail)
    go_wp2
    go_ret
    exact ⟨rfl, below_drewN b1 _⟩
  | false =>
    rw [if_neg (by decide)]
    go_enter Try.func89, Try.ntmps89
    go_wp2_with fail
    rw [Hw1.out]
    go_quiet (fail)
    go_wp2
    go_ret
    exact ⟨rfl, below_drewN b1 _⟩
set_option maxRecDepth 100000 in
set_option maxHeartbeats 3000000 in
theorem pairsTell_c (W : World) (B : Nat) (vb vl : Value) (rs : List (Int × Int)) (ap : Nat) (q : Nat) (hq : q ≤ 1000) (hp : perOk rs = true) (hB : BoolsAt W vb (perF rs).toNat (lfQ rs)) (hl : OwnI W B vl (nmC rs true)) (hap : ap < W.heap.size) (hc : W.cell? ⟨ap, 0, none⟩ = some (.int .i64 (q : Int))) :
    Calls Try.prog 88 #[.agg #[vb, vl], .pointer (some ⟨ap, 0, none⟩)] W fun en w' => en = .returned (.int .i64 (prS rs (perF rs).toNat q (perF rs).toNat : Int)) ∧ Below W.heap.size W w' := by
  obtain ⟨_, _, p1, p2⟩ := perOk_parts hp
  obtain ⟨P, hP⟩ : ∃ P, (perF rs).toNat = P := ⟨_, rfl⟩
  have hP1 : 1 ≤ P := by omega
  have hP9 : P ≤ 100000 := by omega
  rw [hP] at hB ⊢
  obtain ⟨g, cb, rfl, hg, hcb⟩ := hB
  obtain ⟨Al, cl, rfl, _⟩ := own_row hl
  obtain ⟨nl, hnl⟩ : ∃ n, (nmC rs true).length = n := ⟨_, rfl⟩
  rw [hnl]
  obtain ⟨w1, hw1⟩ : ∃ w1, W.alloc (.cells #[.slice (some ⟨g, 0, none⟩) P cb, .slice Al nl cl] 75) = w1 := ⟨_, rfl⟩
  have b1 : Below W.heap.size W w1 := by rw [← hw1]; exact (Below.refl _ _).alloc (Nat.le_refl _) _
  have hs1 : w1.heap.size = W.heap.size + 1 := by rw [← hw1]; simp
  have hr1 : w1.heap[W.heap.size]? = some (.cells #[.slice (some ⟨g, 0, none⟩) P cb, .slice Al nl cl] 75 (0, 0)) := by rw [← hw1]; exact heap_alloc_new W _
  have Hr1 := Lib.hid hr1
  have hc1 : w1.cell? ⟨ap, 0, none⟩ = some (.int .i64 (q : Int)) := (b1.cell (p := ⟨ap, 0, none⟩) hap).trans hc
  have Hc1 := Lib.hid hc1
  have HB1 := Lib.hid (show BoolsAt w1 (.slice (some ⟨g, 0, none⟩) P cb) P (lfQ rs) from BoolsAt.below ⟨g, cb, rfl, hg, hcb⟩ b1)
  have c1 : w1.cell? ⟨W.heap.size, 0, none⟩ = some (.slice (some ⟨g, 0, none⟩) P cb) := cell_of_row _ _ 0 _ _ _ hr1
  have Hw1 := Lib.hid hw1
  have hS : ∀ k, prS rs P q (k + 1) = prS rs P q k + leB rs (k % P) * leB rs ((k + q) % P) := fun k => rfl
  have HS := Lib.hid hS
  have HL := Lib.hid (prS_le rs P q)
  have HLB := Lib.hid (leB_le rs)
  have hap1 : ap < w1.heap.size := by omega
  have hsz : W.heap.size < w1.heap.size := by omega
  clear hcb hl hnl hr1 hw1 hS hc hP p1 p2 hp hc1
  go_enter Try.func88, Try.ntmps88
  go_wp2_with fail
  rw [Hw1.out]
  obtain ⟨Wz, hWz⟩ : ∃ Wz, W.heap.size = Wz := ⟨_, rfl⟩
  rw [hWz] at Hr1 b1 hsz ⊢
  have HWz := Lib.hid hWz
  clear hWz c1 hs1
  go_loopw [4, 5, 9] (fun t _ i wr => ∃ k : Nat, k ≤ P ∧ i = .int .i64 (k : Int) ∧ t = .int .i64 (prS rs P q k : Int) ∧ Below w1.heap.size w1 wr) (fun _ _ i _ => P - (intOf i).toNat)
  case atStart => exact ⟨0, Nat.zero_le _, rfl, rfl, Below.refl _ _⟩
  case round =>
    obtain ⟨k, hk, rfl, rfl, hbel⟩ := hrel
    have hs := hbel.size
    by_cases hlt : k < P
    · have hki : (k : Int) < (P : Int) := by omega
      have hR : wr.heap[Wz]? = some (.cells #[.slice (some ⟨g, 0, none⟩) P cb, .slice Al nl cl] 75 (0, 0)) := (hbel.block Wz hsz).trans Hr1.out
      have c1 : wr.cell? ⟨Wz, 0, none⟩ = some (.slice (some ⟨g, 0, none⟩) P cb) := cell_of_row _ _ 0 _ _ _ hR
      have c2 : wr.cell? ⟨Wz, 1, none⟩ = some (.slice Al nl cl) := cell_of_row _ _ 1 _ _ _ hR
      have c3 : wr.cell? ⟨ap, 0, none⟩ = some (.int .i64 (q : Int)) := (hbel.cell (p := ⟨ap, 0, none⟩) hap1).trans Hc1.out
      have HR := Lib.hid hR
      have HC3 := Lib.hid c3
      have HB2 := Lib.hid (HB1.out.below hbel)
      have HF := Lib.hid (fun w' (hb : Below wr.heap.size wr w') => countAt_c w' (.slice (some ⟨g, 0, none⟩) P cb) Al nl cl P (lfQ rs) hP1 hP9 (HB2.out.below hb) k (by omega))
      have hF2 := fun w' (hb : Below wr.heap.size wr w') => countAt_c w' (.slice (some ⟨g, 0, none⟩) P cb) Al nl cl P (lfQ rs) hP1 hP9 (HB2.out.below hb) (k + q) (by omega)
      rw [Int.natCast_add] at hF2
      have hvL := HL.out k
      have hv1 := HLB.out (k % P)
      have hv2 := HLB.out ((k + q) % P)
      have hsk := HS.out k
      rw [caV_le] at hF2
      rw [caV_le] at HF
      obtain ⟨x1, hx1⟩ : ∃ x, leB rs (k % P) = x := ⟨_, rfl⟩
      obtain ⟨x2, hx2⟩ : ∃ x, leB rs ((k + q) % P) = x := ⟨_, rfl⟩
      obtain ⟨S, hSe⟩ : ∃ S, prS rs P q k = S := ⟨_, rfl⟩
      rw [hx1] at HF hv1 hsk
      rw [hx2] at hF2 hv2 hsk
      rw [hSe] at hvL hsk ⊢
      have HF2 := Lib.hid hF2
      have HSk := Lib.hid hsk
      obtain ⟨M, hM⟩ : ∃ M : Nat, x1 * x2 = M := ⟨_, rfl⟩
      have hM1 : M ≤ 1 := by rw [← hM]; exact Nat.mul_le_mul hv1 hv2
      have hmul : (x1 : Int) * (x2 : Int) = (M : Int) := by rw [← hM, Int.natCast_mul]
      rw [hM] at HSk
      have hwm : IntKind.i64.wrap (M : Int) = (M : Int) := IntWalk.i64_in _ (by omega)
      have hws : IntKind.i64.wrap ((S : Int) + (M : Int)) = (S : Int) + (M : Int) := IntWalk.i64_in _ (by omega)
      have hwa : IntKind.i64.wrap ((k : Int) + (q : Int)) = (k : Int) + (q : Int) := IntWalk.i64_in _ (by omega)
      have hdrew : Below wr.heap.size wr wr.drew := (Below.refl wr.heap.size wr).drew
      have hzw : Wz < wr.heap.size := by omega
      have hapw : ap < wr.heap.size := by omega
      clear hx1 hx2 hSe hM hF2 hsk hR
      go_wp2_with fail
      go_region_law (first
        | (go_simp; go_at_call 89; (refine (HF2.out _ hb5).mono ?_; rintro e w6 ⟨rfl, b6⟩))
        | (go_simp; go_at_call 89; (refine (HF.out _ hdrew).mono ?_; rintro e w5 ⟨rfl, b5⟩; have hb5 := hdrew.trans b5; have hR5 := (hb5.block Wz hzw).trans HR.out; have d1 : w5.cell? ⟨Wz, 0, none⟩ = some (.slice (some ⟨g, 0, none⟩) P cb) := cell_of_row _ _ 0 _ _ _ hR5; have d2 : w5.cell? ⟨Wz, 1, none⟩ = some (.slice Al nl cl) := cell_of_row _ _ 1 _ _ _ hR5; have d3 := (hb5.cell (p := ⟨ap, 0, none⟩) hapw).trans HC3.out))
        | fail)
      all_goals (
        have hb6 := hb5.trans (b6.mono hb5.size)
        go_wp2
        go_roundw
        case rel => exact ⟨k + 1, by omega, by go_num, by rw [HSk.out]; go_num, hbel.trans (hb6.mono hs)⟩
        case measure => simp [intOf]; omega)
    · have Hk := Lib.hid (show k = P by omega)
      go_wp2
      go_ret
      exact ⟨by rw [← Hk.out]; rfl, by rw [HWz.out]; exact b1.trans (hbel.mono (by omega))⟩
set_option maxRecDepth 100000 in
set_option maxHeartbeats 1000000 in
theorem impl_PairsInPeriod_c (w : World) (A : Option Addr) (m c : Nat) (rs : List (Int × Int)) (hA : Rl w A rs) (hm : m = rs.length) (hn : m ≤ 1048576) (q : Int) :
    Calls Try.prog 50 #[.slice A m c, .int .i64 q] w fun en w' => en = .returned (.tuple #[.int .i64 (ppV rs q), .bool (ppO rs q)]) ∧ Below w.heap.size w w' := by
  have hmf : ∀ (fn : Fn) (first cap : Array Value) (w : World), (Instr.makeFunc fn first cap).run Try.prog w = .ok (.func fn first cap) w := fun _ _ _ _ => rfl
  obtain ⟨w1, hw1⟩ : ∃ w1, w.alloc (.cells #[.int .i64 q] 3) = w1 := ⟨_, rfl⟩
  have b1 : Below w.heap.size w w1 := by rw [← hw1]; exact (Below.refl _ _).alloc (Nat.le_refl _) _
  have hs1 : w1.heap.size = w.heap.size + 1 := by rw [← hw1]; simp
  have hr1 : w1.heap[w.heap.size]? = some (.cells #[.int .i64 q] 3 (0, 0)) := by rw [← hw1]; exact heap_alloc_new w _
  have c1 : w1.cell? ⟨w.heap.size, 0, none⟩ = some (.int .i64 q) := cell_of_row _ _ 0 _ _ _ hr1
  have Hw1 := Lib.hid hw1
  have hA1 := hA.below b1
  clear hw1 hr1
  by_cases h0 : 0 ≤ q
  · by_cases h9 : q ≤ 1000
    · have hb : inB q 0 1000 = true := inB_true.2 ⟨h0, h9⟩
      have ho : ppO rs q = gpO rs := by rw [ppO, hb, Bool.and_true]
      obtain ⟨Q, rfl⟩ := Int.eq_ofNat_of_zero_le h0
      have HD := Lib.hid (doorI_c w1 A m c rs hA1 hm hn 88 #[.pointer (some ⟨w.heap.size, 0, none⟩)] (fun _ _ => rfl) (gpO rs) (ppV rs (Q : Int)) (fun h => h) (fun h => ppV_no (by rw [ho]; exact h)) (fun hgo W vb vl hbl hB hv => by
        have hp := (gpO_parts hgo).1
        have h := pairsTell_c W _ vb vl rs w.heap.size Q (by omega) hp hB hv (by have := hbl.size; omega) ((hbl.cell (p := ⟨w.heap.size, 0, none⟩) (by show w.heap.size < w1.heap.size; omega)).trans c1)
        rw [pairs_is hp Q, ← ppV_yes (by rw [ho]; exact hgo)] at h
        exact h.mono fun e w' h => ⟨.inl ⟨hgo, h.1⟩, h.2⟩))
      rw [ho]
      clear hA hA1 hm hb ho
      go_enter Try.func50, Try.ntmps50
      go_wp2_with fail
      rw [Hw1.out]
      refine HD.out.mono ?_
      rintro e w2 ⟨rfl, b2⟩
      go_wp2
      go_ret2
      exact ⟨rfl, b1.trans (b2.mono b1.size)⟩
    · have ho : ppO rs q = false := by rw [ppO, inB_false.2 (by omega), Bool.and_false]
      have hq : 1000 < q := by omega
      rw [ppV_no ho, ho]
      clear ho h9 hA hA1 hm
      go_enter Try.func50, Try.ntmps50
      go_wp2
      go_ret2
      exact ⟨rfl, by rw [Hw1.out]; exact b1⟩
  · have ho : ppO rs q = false := by rw [ppO, inB_false.2 (by omega), Bool.and_false]
    have hq : q < 0 := by omega
    rw [ppV_no ho, ho]
    clear ho h0 hA hA1 hm
    go_enter Try.func50, Try.ntmps50
    go_wp2
    go_ret2
    exact ⟨rfl, by rw [Hw1.out]; exact b1⟩

end Go.Proofs.Ytoapidcbmlnjcaa
