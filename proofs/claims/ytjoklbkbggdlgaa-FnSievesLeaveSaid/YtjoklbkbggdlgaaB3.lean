import Derived.Test.YtjoklbkbggdlgaaB2
import Derived.IntWalk
import Derived.Test.YtjoklbkbggdlgaaP2
namespace Go.Proofs.Ytjoklbkbggdlgaa
open Go.RowKit
set_option linter.unusedVariables false
set_option linter.unusedSimpArgs false

/-- A callee that only draws, inside a region that draws. -/
theorem qcallD {P : Program} {f : FuncId} {args : Array Value} {w : World} {n : Nat} {v : Value} (h : Calls P f args (w.drewN n) fun e w' => e = .returned v ∧ ∃ m, w' = (w.drewN n).drewN m) :
    Calls P f args (w.drewN n) fun e w'' => e = .returned v ∧ ∃ m, w'' = w.drewN m := h.mono fun _ _ ⟨he, m, hm⟩ => ⟨he, n + m, by rw [hm, World.drewN_drewN]⟩
theorem below_of_drew {w w' : World} (h : ∃ n, w' = w.drewN n) : Below w.heap.size w w' := by
  obtain ⟨n, rfl⟩ := h
  exact below_drewN (Below.refl _ _) n

/-- a / gcd(a, b) * b. -/
def lcmF (a b : Int) : Int := a / gcdF a b * b
theorem lcm_parts (a b : Int) (ha : 1 ≤ a) (hb : 1 ≤ b) : 1 ≤ a / gcdF a b ∧ a / gcdF a b ≤ a := by
  have h1 := gcdF_pos a b ha
  have h2 := gcdF_le a b ha
  constructor
  · exact (Int.le_ediv_iff_mul_le (by omega)).2 (by omega)
  · exact Int.ediv_le_self _ (by omega)
theorem lcmF_pos (a b : Int) (ha : 1 ≤ a) (hb : 1 ≤ b) : 1 ≤ lcmF a b := by
  have h1 := (lcm_parts a b ha hb).1
  unfold lcmF
  exact Int.le_trans hb (by simpa using Int.mul_le_mul_of_nonneg_right h1 (by omega : (0 : Int) ≤ b))
theorem lcmF_le (a b A B : Int) (ha : 1 ≤ a) (hb : 1 ≤ b) (hA : a ≤ A) (hB : b ≤ B) : lcmF a b ≤ A * B := by
  have h1 := lcm_parts a b ha hb
  unfold lcmF
  exact Int.mul_le_mul (by omega) hB (by omega) (by omega)

set_option maxHeartbeats 800000 in
theorem lcm_c (a b : Int) (w : World) (h1 : 1 ≤ a) (h2 : a ≤ 100000) (h3 : 1 ≤ b) (h4 : b ≤ 100000) :
    Calls Try.prog 99 #[.int .i64 a, .int .i64 b] w fun en w' => en = .returned (.int .i64 (lcmF a b)) ∧ ∃ n, w' = w.drewN n := by
  have g1 := gcdF_pos a b h1
  have g2 := gcdF_le a b h1
  have p := lcm_parts a b h1 h3
  obtain ⟨p1, p2⟩ := p
  have m1 : 1 ≤ a / gcdF a b * b := lcmF_pos a b h1 h3
  have m2 : a / gcdF a b * b ≤ 10000000000 := lcmF_le a b 100000 100000 h1 h3 h2 h4
  have g0 : (gcdF a b == 0) = false := by simp; omega
  go_enter Try.func99, Try.ntmps99
  go_wp2_with fail
  refine (gcd_c a b _ (by omega) (by omega) (by omega) (by omega)).mono ?_
  rintro e w1 ⟨rfl, n, rfl⟩
  go_wp2
  go_ret
  exact ⟨rfl, n, rfl⟩

/-- The period of rules behind a first period, or 0 if it grows beyond 100000. -/
def perGo : List (Int × Int) → Int → Int
  | [], p => p
  | r :: rs, p => if 100000 < lcmF p r.1 then 0 else perGo rs (lcmF p r.1)
def perF (rs : List (Int × Int)) : Int := perGo rs 1
theorem perGo_drop {rs : List (Int × Int)} {k : Nat} (h : k < rs.length) (p : Int) : perGo (rs.drop k) p = if 100000 < lcmF p (evL rs k) then 0 else perGo (rs.drop (k + 1)) (lcmF p (evL rs k)) := by
  rw [List.drop_eq_getElem_cons h, perGo, evL_ext h]
theorem perGo_end (rs : List (Int × Int)) (p : Int) : perGo (rs.drop rs.length) p = p := by rw [List.drop_length, perGo]
theorem perGo_le (rs : List (Int × Int)) : ∀ p : Int, 1 ≤ p → p ≤ 100000 → (∀ r ∈ rs, 1 ≤ r.1) → 0 ≤ perGo rs p ∧ perGo rs p ≤ 100000 := by
  induction rs with
  | nil => intro p h1 h2 _; rw [perGo]; omega
  | cons r rs ih =>
    intro p h1 h2 hr
    rw [perGo]
    split
    · omega
    · exact ih _ (lcmF_pos p r.1 h1 (hr r (by simp))) (by omega) fun x hx => hr x (by simp [hx])
theorem good_mem {rs : List (Int × Int)} (h : goodL rs = true) : ∀ r ∈ rs, 2 ≤ r.1 ∧ r.1 ≤ 60 ∧ 0 ≤ r.2 ∧ r.2 < r.1 := by
  intro r hr
  obtain ⟨j, hj, rfl⟩ := List.getElem_of_mem hr
  have := okR_at h hj
  rw [evL_ext hj]
  exact this
theorem perF_le {rs : List (Int × Int)} (h : goodL rs = true) : 0 ≤ perF rs ∧ perF rs ≤ 100000 := perGo_le rs 1 (by omega) (by omega) fun r hr => by have := good_mem h r hr; omega

set_option maxRecDepth 100000 in
set_option maxHeartbeats 1000000 in
theorem siPeriod_c (w : World) (A : Option Addr) (m c : Nat) (rs : List (Int × Int)) (hA : Rl w A rs) (hm : m = rs.length) (hg : goodL rs = true) :
    Calls Try.prog 91 #[.slice A m c] w fun en w' => en = .returned (.int .i64 (perF rs)) ∧ Below w.heap.size w w' := by
  have Hm := Lib.hid hm
  have h12 : m ≤ 12 := by rw [hm]; exact good_len hg
  have Hg := Lib.hid hg
  clear hm hg
  go_enter Try.func91, Try.ntmps91
  go_wp2
  go_loopw [3, 8] (fun t i wr => ∃ (k : Nat) (p : Int), k ≤ m ∧ i = .int .i64 k ∧ t = .int .i64 p ∧ 1 ≤ p ∧ p ≤ 100000 ∧ perGo (rs.drop k) p = perF rs ∧ Below w.heap.size w wr) (fun _ i _ => m - (intOf i).toNat)
  case atStart => exact ⟨0, 1, Nat.zero_le _, rfl, rfl, by omega, by omega, rfl, Below.refl _ _⟩
  case round =>
    obtain ⟨k, p, hk, rfl, rfl, p1, p2, hper, hbel⟩ := hrel
    have Hper := Lib.hid hper
    clear hper
    by_cases hlt : k < m
    · have hlt1 : k < rs.length := by have := Hm.out; omega
      obtain ⟨b, off, rfl, hb, hr⟩ := hA (by omega)
      have hc0 := (hbel.cell (p := ⟨b, off + k * 2, none⟩) hb).trans (hr k hlt1).1
      have hc1 := (hbel.cell (p := ⟨b, off + k * 2 + 1, none⟩) hb).trans (hr k hlt1).2
      obtain ⟨e1, e2, e3, e4⟩ := okR_at Hg.out hlt1
      have hs := hbel.size
      have g1 := gcdF_pos p (evL rs k) p1
      have g2 := gcdF_le p (evL rs k) p1
      obtain ⟨q1, q2⟩ := lcm_parts p (evL rs k) p1 (by omega)
      have m1 : 1 ≤ p / gcdF p (evL rs k) * evL rs k := lcmF_pos p (evL rs k) p1 (by omega)
      have m2 : p / gcdF p (evL rs k) * evL rs k ≤ 10000000000 := lcmF_le p (evL rs k) 100000 100000 p1 (by omega) p2 (by omega)
      have g0 : (gcdF p (evL rs k) == 0) = false := by simp; omega
      by_cases hbig : 100000 < p / gcdF p (evL rs k) * evL rs k
      · have Hs2 := Lib.hid ((perGo_drop hlt1 p).trans (if_pos (show 100000 < lcmF p (evL rs k) from hbig)))
        go_wp2_with fail
        go_quiet ((go_at_call 103; exact qcallD (siCommon_c _ _ _ (by omega) (by omega) (by omega) (by omega))))
        go_wp2
        go_ret
        refine ⟨?_, below_drewN (hbel.alloc hs _) _⟩
        have h := Hs2.out
        rw [Hper.out] at h
        rw [h]; rfl
      · have Hs2 := Lib.hid ((perGo_drop hlt1 p).trans (if_neg (show ¬ 100000 < lcmF p (evL rs k) from hbig)))
        go_wp2_with fail
        go_quiet ((go_at_call 103; exact qcallD (siCommon_c _ _ _ (by omega) (by omega) (by omega) (by omega))))
        go_wp2
        go_roundw
        case rel =>
          have h := Hs2.out
          rw [Hper.out] at h
          exact ⟨k + 1, lcmF p (evL rs k), by omega, by go_num, rfl, m1, by show p / gcdF p (evL rs k) * evL rs k ≤ 100000; omega, h.symm, below_drewN (hbel.alloc hs _) _⟩
        case measure => simp [intOf]; omega
    · go_wp2
      go_ret
      have hkm : k = rs.length := by have := Hm.out; omega
      have h := Hper.out
      rw [hkm, perGo_end] at h
      exact ⟨by rw [← h]; rfl, hbel⟩

end Go.Proofs.Ytjoklbkbggdlgaa
