import Derived.Test.YtaapfapejekkfaaB3
namespace Go.Proofs.Ytaapfapejekkfaa
open Go.RowKit
set_option linter.unusedVariables false
set_option linter.unusedSimpArgs false

def perOk (rs : List (Int × Int)) : Bool := goodL rs && !(perF rs == 0)
def perV (rs : List (Int × Int)) : Int := if goodL rs then perF rs else 0
theorem perV_no {rs : List (Int × Int)} (h : perOk rs = false) : perV rs = 0 := by
  rw [perV]
  cases hg : goodL rs with
  | false => rfl
  | true => simpa [perOk, hg] using h
theorem perOk_parts {rs : List (Int × Int)} (h : perOk rs = true) : goodL rs = true ∧ ¬ perF rs = 0 ∧ 1 ≤ perF rs ∧ perF rs ≤ 100000 := by
  simp only [perOk, Bool.and_eq_true, Bool.not_eq_true', beq_eq_false_iff_ne] at h
  have := perF_le h.1
  exact ⟨h.1, h.2, by omega, by omega⟩


set_option maxRecDepth 100000 in
set_option maxHeartbeats 1000000 in
theorem impl_PeriodOfRules_c (w : World) (A : Option Addr) (m c : Nat) (rs : List (Int × Int)) (hA : Rl w A rs) (hm : m = rs.length) (hn : m ≤ 1048576) :
    Calls Try.prog 60 #[.slice A m c] w fun en w' => en = .returned (.tuple #[.int .i64 (perV rs), .bool (perOk rs)]) ∧ Below w.heap.size w w' := by
  have Hm := Lib.hid hm
  clear hm
  cases hg : goodL rs with
  | false =>
    have ho : perOk rs = false := by simp [perOk, hg]
    rw [perV_no ho, ho]
    clear ho
    go_enter Try.func60, Try.ntmps60
    go_wp2_with fail
    refine (implAreRules_c _ _ _ rs _ hA Hm.out hn).mono ?_
    rintro e w1 ⟨rfl, b1⟩
    have hA_1 := hA.below b1
    go_wp2
    go_ret2
    exact ⟨rfl, b1⟩
  | true =>
    have h12 : m ≤ 12 := by rw [Hm.out]; exact good_len hg
    have Hg := Lib.hid hg
    go_enter Try.func60, Try.ntmps60
    go_wp2_with fail
    refine (implAreRules_c _ _ _ rs _ hA Hm.out hn).mono ?_
    rintro e w1 ⟨rfl, b1⟩
    have hA_1 := hA.below b1
    go_wp2
    go_loopw [4, 12] (fun t i wr => ∃ (k : Nat) (p : Int), k ≤ m ∧ i = .int .i64 k ∧ t = .int .i64 p ∧ 1 ≤ p ∧ p ≤ 100000 ∧ perGo (rs.drop k) p = perF rs ∧ Below w.heap.size w wr) (fun _ i _ => m - (intOf i).toNat)
    case atStart => exact ⟨0, 1, Nat.zero_le _, rfl, rfl, by omega, by omega, rfl, b1⟩
    case round =>
      obtain ⟨k, p, hk, rfl, rfl, p1, p2, hper, hbel⟩ := hrel
      have Hper := Lib.hid hper
      clear hper
      by_cases hlt : k < m
      · have hlt1 : k < rs.length := by have := Hm.out; omega
        obtain ⟨b, off, rfl, hb, hr⟩ := hA (by omega)
        have hc0 := (hbel.cell (p := ⟨b, off + k * 2, none⟩) hb).trans (hr k hlt1).1
        have hc1 := (hbel.cell (p := ⟨b, off + k * 2 + 1, none⟩) hb).trans (hr k hlt1).2
        obtain ⟨e1, e2, e3, e4⟩ := okR_at Hg.out hlt1
        have hs := hbel.size
        have m1 := lcmF_pos p (evL rs k) p1 (by omega)
        have m2 := lcmF_le p (evL rs k) 100000 100000 p1 (by omega) p2 (by omega)
        by_cases hbig : 100000 < lcmF p (evL rs k)
        · have Hs2 := Lib.hid ((perGo_drop hlt1 p).trans (if_pos hbig))
          go_wp2_with fail
          refine (lcm_c _ _ _ p1 p2 (by omega) (by omega)).mono ?_
          rintro e w3 ⟨rfl, n3, rfl⟩
          go_wp2
          go_ret2
          have h := Hs2.out
          rw [Hper.out] at h
          have ho : perOk rs = false := by rw [perOk, h]; simp
          exact ⟨by rw [perV_no ho, ho]; rfl, below_drewN (hbel.alloc hs _) _⟩
        · have Hs2 := Lib.hid ((perGo_drop hlt1 p).trans (if_neg hbig))
          go_wp2_with fail
          refine (lcm_c _ _ _ p1 p2 (by omega) (by omega)).mono ?_
          rintro e w3 ⟨rfl, n3, rfl⟩
          go_wp2
          go_roundw
          case rel =>
            have h := Hs2.out
            rw [Hper.out] at h
            exact ⟨k + 1, lcmF p (evL rs k), by omega, by go_num, rfl, m1, by omega, h.symm, below_drewN (hbel.alloc hs _) _⟩
          case measure => simp [intOf]; omega
      · go_wp2
        go_ret2
        have hkm : k = rs.length := by have := Hm.out; omega
        have h := Hper.out
        rw [hkm, perGo_end] at h
        have ho : perOk rs = true := by rw [perOk, Hg.out, ← h]; simp; omega
        have hv : perV rs = p := by rw [perV, Hg.out, h]; rfl
        exact ⟨by rw [hv, ho]; rfl, hbel⟩

def lipV (rs : List (Int × Int)) : Int := if perOk rs then (cntF (leftF rs) 0 (perF rs).toNat : Int) else 0
theorem lip_no {rs : List (Int × Int)} (h : perOk rs = false) : lipV rs = 0 := by rw [lipV, h]; rfl
theorem lip_yes {rs : List (Int × Int)} (h : perOk rs = true) : lipV rs = (cntF (leftF rs) 0 (perF rs).toNat : Int) := by rw [lipV, h]; rfl


end Go.Proofs.Ytaapfapejekkfaa
