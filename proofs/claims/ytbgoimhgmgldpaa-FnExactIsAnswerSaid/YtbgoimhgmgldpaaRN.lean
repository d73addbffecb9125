import Derived.Test.YtbgoimhgmgldpaaRM
import Derived.IntWalk
namespace Go.Proofs.Ytbgoimhgmgldpaa
open Go.RowKit
set_option linter.unusedVariables false
set_option linter.unusedSimpArgs false

set_option maxRecDepth 100000 in
set_option maxHeartbeats 1600000 in
theorem leavePattern_c (A : Option Addr) (m c : Nat) (rs : List (Int × Int)) (s : ByteArray) (w : World) (hA : Rl w A rs) (hm : m = rs.length) (hg : goodL rs = true) (hs : s.size ≤ 48) :
    Calls Try.prog 73 #[.slice A m c, .string s] w fun en w' => en = .returned (.bool (lpB s rs)) ∧ Below w.heap.size w w' := by
  have HA := Lib.hid hA
  have Hm := Lib.hid hm
  have Hg := Lib.hid hg
  clear hA hm hg
  have Hyes := Lib.hid (lpB_yes (s := s) (rs := rs))
  have Hno := Lib.hid (fun i (hi : i < s.size) h => lpB_no (s := s) (rs := rs) hi h)
  obtain ⟨T, hT⟩ : ∃ T, lpB s rs = T := ⟨_, rfl⟩
  rw [hT] at Hno Hyes ⊢
  clear hT
  go_enter Try.func73, Try.ntmps73
  go_wp2
  go_loopw [8] (fun i wr => ∃ k : Nat, k ≤ s.size ∧ i = .int .i64 (k : Int) ∧ (∀ j, j < k → lpA s rs j = true) ∧ Below w.heap.size w wr) (fun i _ => s.size - (intOf i).toNat)
  case atStart => exact ⟨0, Nat.zero_le _, rfl, fun j h => by omega, Below.refl _ _⟩
  case round =>
    obtain ⟨k, hk, rfl, hall, hbel⟩ := hrel
    have Hall := Lib.hid hall
    have Hbel := Lib.hid hbel
    clear hall
    by_cases hlt : k < s.size
    · have hki : (k : Int) < (s.size : Int) := by omega
      have hk0 : (0 : Int) ≤ (k : Int) := Int.natCast_nonneg k
      have hby := byN_at hlt
      have Hno1 := Lib.hid (fun h => Hno.out k hlt h)
      have Hwk := Lib.hid (show IntKind.i64.wrap ((k : Int) + 1) = (k : Int) + 1 from IntWalk.i64_in _ (by omega))
      have HlA : Hid (lpA s rs k = (byN s k == 63 || byN s k == sbF rs ((k : Int) + 1))) := rfl
      have Hc := Lib.hid (fun W (hB : Below wr.heap.size wr W) => signBehind_c A c m rs ((k : Int) + 1) W (HA.out.below (hbel.trans (hB.mono hbel.size))) Hm.out Hg.out (by omega) (by omega))
      obtain ⟨b, hb⟩ : ∃ b, byN s k = b := ⟨_, rfl⟩
      obtain ⟨d, hd⟩ : ∃ d, sbF rs ((k : Int) + 1) = d := ⟨_, rfl⟩
      rw [hb] at hby HlA
      rw [hd] at HlA Hc
      clear hb hd hbel
      by_cases h1 : b = 63
      · subst h1
        have HK : Hid (lpA s rs k = true) := by show _ = _; rw [HlA.out]; rfl
        clear HlA
        go_wp2_with fail
        go_region
        go_wp2
        go_roundw
        case rel => exact ⟨k + 1, by omega, by go_num, fun j hj => by
          rcases Nat.lt_succ_iff_lt_or_eq.1 hj with h | h
          · exact Hall.out j h
          · rw [h]; exact HK.out, Hbel.out.drew⟩
        case measure => simp [intOf]; omega
      have hb1 : ((b : Int) == 63) = false := beq_eq_false_iff_ne.2 (by omega)
      have hb2 : ((b : Int) != 63) = true := by rw [bne, hb1]; rfl
      by_cases h2 : b = d
      · subst h2
        have HK : Hid (lpA s rs k = true) := by show _ = _; rw [HlA.out, beq_self_eq_true, Bool.or_true]
        clear HlA
        go_wp2_with fail
        go_region_held3 (fun w' : World => True) (exact True.intro) (first | (go_at_call 91; rw [Hwk.out]; refine (Hc.out wr.drew (Below.refl _ _).drew).mono ?_; rintro e w5 ⟨rfl, b5⟩))
        all_goals go_wp2
        all_goals (
          refine ⟨⟨k + 1, by omega, by go_num, fun j hj => ?_, Hbel.out.drew.trans (b5.mono Hbel.out.drew.size)⟩, by simp [intOf]; omega⟩
          rcases Nat.lt_succ_iff_lt_or_eq.1 hj with h | h
          · exact Hall.out j h
          · rw [h]; exact HK.out)
      · have hc1 : ((b : Int) == (d : Int)) = false := beq_eq_false_iff_ne.2 (by omega)
        have hc2 : ((b : Int) != (d : Int)) = true := by rw [bne, hc1]; rfl
        have HT : Hid (T = false) := Hno1.out (by rw [HlA.out, beq_eq_false_iff_ne.2 h1, beq_eq_false_iff_ne.2 h2]; rfl)
        clear HlA
        go_wp2_with fail
        go_region_held3 (fun w' : World => True) (exact True.intro) (first | (go_at_call 91; rw [Hwk.out]; refine (Hc.out wr.drew (Below.refl _ _).drew).mono ?_; rintro e w5 ⟨rfl, b5⟩))
        all_goals go_wp2
        all_goals (go_ret; exact ⟨by rw [HT.out]; rfl, Hbel.out.drew.trans (b5.mono Hbel.out.drew.size)⟩)
    · have HT := Lib.hid (Hyes.out fun j hj => Hall.out j (by omega))
      have hki : ¬ (k : Int) < (s.size : Int) := by omega
      go_wp2
      go_ret
      exact ⟨by rw [HT.out]; rfl, Hbel.out⟩
set_option maxRecDepth 100000 in
set_option maxHeartbeats 1600000 in
theorem impl_IsAnswer_c (w : World) (s : ByteArray) (n : Int) (A : Option Addr) (m c : Nat) (rs : List (Int × Int)) (hA : Rl w A rs) (hm : m = rs.length) (hn : m ≤ 1048576) (hs : (s.size : Int) ≤ 1000000000) :
    Calls Try.prog 31 #[.agg #[.string s, .int .i64 n], .slice A m c] w fun en w' => en = .returned (.tuple #[.bool (iaV s n rs), .bool (iaO s n rs)]) ∧ Below w.heap.size w w' := by
  have Hpg := Lib.hid (fun W => impl_IsPuzzle_c W s n hs)
  have HA := Lib.hid hA
  have Hm := Lib.hid hm
  have Hgd := Lib.hid (fun W (hB : Below w.heap.size w W) => implAreRules_c A m c rs W (hA.below hB) hm hn)
  obtain ⟨W0, hW0⟩ : ∃ W0, w.alloc (.cells #[.string s, .int .i64 n] 26) = W0 := ⟨_, rfl⟩
  have B0 : Hid (Below w.heap.size w W0) := by show Below _ _ _; rw [← hW0]; exact (Below.refl _ _).alloc (Nat.le_refl _) _
  have C0 : Hid (W0.cell? ⟨w.heap.size, 0, none⟩ = some (.string s)) := by show _ = _; rw [← hW0]; simp
  have C1 : Hid (W0.cell? ⟨w.heap.size, 1, none⟩ = some (.int .i64 n)) := by show _ = _; rw [← hW0]; simp
  have Z0 : Hid (w.heap.size < W0.heap.size) := by show _ < _; rw [← hW0]; simp
  have HW0 := Lib.hid hW0
  clear hA hm hW0
  cases hg : pzB s n with
  | false =>
    rw [show iaV s n rs = false by rw [iaV, iaO, hg]; rfl, show iaO s n rs = false by rw [iaO, hg]; rfl]
    rw [hg] at Hpg
    clear hg
    go_enter Try.func31, Try.ntmps31
    go_wp2_with fail
    rw [HW0.out]
    clear HW0
    refine (Hpg.out _).mono ?_
    rintro e w2 ⟨rfl, b2⟩
    have B2 := Lib.hid (B0.out.trans (b2.mono B0.out.size))
    go_wp2
    go_ret2
    exact ⟨rfl, B2.out⟩
  | true =>
    have hp := pzB_patA hg
    rw [hg] at Hpg
    cases hgd : goodL rs with
    | false =>
      rw [show iaV s n rs = false by rw [iaV, iaO, hg, hgd]; rfl, show iaO s n rs = false by rw [iaO, hg, hgd]; rfl]
      rw [hgd] at Hgd
      clear hg hgd
      go_enter Try.func31, Try.ntmps31
      go_wp2_with fail
      rw [HW0.out]
      clear HW0
      refine (Hpg.out _).mono ?_
      rintro e w2 ⟨rfl, b2⟩
      have B2 := Lib.hid (B0.out.trans (b2.mono B0.out.size))
      have z2 := B2.out.size
      have hc1 := (b2.cell (p := ⟨w.heap.size, 0, none⟩) Z0.out).trans C0.out
      have hc2 := (b2.cell (p := ⟨w.heap.size, 1, none⟩) Z0.out).trans C1.out
      have z3 : w.heap.size < w2.heap.size := Nat.lt_of_lt_of_le Z0.out b2.size
      go_wp2_with fail
      refine (Hgd.out _ B2.out).mono ?_
      rintro e w3 ⟨rfl, b3⟩
      have B3 := Lib.hid (B2.out.trans (b3.mono z2))
      have hd0 := (b3.cell (p := ⟨w.heap.size, 0, none⟩) z3).trans hc1
      have hd1 := (b3.cell (p := ⟨w.heap.size, 1, none⟩) z3).trans hc2
      have z4 : w.heap.size < w3.heap.size := Nat.lt_of_lt_of_le z3 b3.size
      clear hc1 hc2
      go_wp2
      go_ret2
      exact ⟨rfl, B3.out⟩
    | true =>
      have hV : iaV s n rs = iaB s n rs := by rw [iaV, iaO, hg, hgd]; rfl
      rw [hV, show iaO s n rs = true by rw [iaO, hg, hgd]; rfl]
      rw [hgd] at Hgd
      have Hg := Lib.hid hgd
      have h48 := Lib.hid (patB_parts hp).2.1
      have hBB : iaB s n rs = (decide ((m : Int) = n) && (orB rs && lpB s rs)) := by rw [iaB, ← Hm.out, Bool.and_assoc, ans_same hp]
      rw [hBB]
      clear hBB hV hg hgd hp
      by_cases hl : (m : Int) = n
      rotate_left
      · rw [decide_eq_false hl]
        have hlb : ((m : Int) == n) = false := beq_eq_false_iff_ne.2 hl
        go_enter Try.func31, Try.ntmps31
        go_wp2_with fail
        rw [HW0.out]
        clear HW0
        refine (Hpg.out _).mono ?_
        rintro e w2 ⟨rfl, b2⟩
        have B2 := Lib.hid (B0.out.trans (b2.mono B0.out.size))
        have z2 := B2.out.size
        have hc1 := (b2.cell (p := ⟨w.heap.size, 0, none⟩) Z0.out).trans C0.out
        have hc2 := (b2.cell (p := ⟨w.heap.size, 1, none⟩) Z0.out).trans C1.out
        have z3 : w.heap.size < w2.heap.size := Nat.lt_of_lt_of_le Z0.out b2.size
        go_wp2_with fail
        refine (Hgd.out _ B2.out).mono ?_
        rintro e w3 ⟨rfl, b3⟩
        have B3 := Lib.hid (B2.out.trans (b3.mono z2))
        have hd0 := (b3.cell (p := ⟨w.heap.size, 0, none⟩) z3).trans hc1
        have hd1 := (b3.cell (p := ⟨w.heap.size, 1, none⟩) z3).trans hc2
        have z4 : w.heap.size < w3.heap.size := Nat.lt_of_lt_of_le z3 b3.size
        clear hc1 hc2
        go_wp2
        go_ret2
        exact ⟨rfl, B3.out⟩
      subst hl
      rw [decide_eq_true rfl]
      have Hor := Lib.hid (fun W (hB : Below w.heap.size w W) => areOrdered_c A m c rs W (HA.out.below hB) Hm.out hn)
      have Hlp := Lib.hid (fun W (hB : Below w.heap.size w W) => leavePattern_c A m c rs s W (HA.out.below hB) Hm.out Hg.out h48.out)
      cases ho : orB rs with
      | false =>
        rw [ho] at Hor
        clear ho
        go_enter Try.func31, Try.ntmps31
        go_wp2_with fail
        rw [HW0.out]
        clear HW0
        refine (Hpg.out _).mono ?_
        rintro e w2 ⟨rfl, b2⟩
        have B2 := Lib.hid (B0.out.trans (b2.mono B0.out.size))
        have z2 := B2.out.size
        have hc1 := (b2.cell (p := ⟨w.heap.size, 0, none⟩) Z0.out).trans C0.out
        have hc2 := (b2.cell (p := ⟨w.heap.size, 1, none⟩) Z0.out).trans C1.out
        have z3 : w.heap.size < w2.heap.size := Nat.lt_of_lt_of_le Z0.out b2.size
        go_wp2_with fail
        refine (Hgd.out _ B2.out).mono ?_
        rintro e w3 ⟨rfl, b3⟩
        have B3 := Lib.hid (B2.out.trans (b3.mono z2))
        have hd0 := (b3.cell (p := ⟨w.heap.size, 0, none⟩) z3).trans hc1
        have hd1 := (b3.cell (p := ⟨w.heap.size, 1, none⟩) z3).trans hc2
        have z4 : w.heap.size < w3.heap.size := Nat.lt_of_lt_of_le z3 b3.size
        clear hc1 hc2
        go_wp2_with fail
        refine (Hor.out _ B3.out).mono ?_
        rintro e w4 ⟨rfl, b4⟩
        have B4 := Lib.hid (B3.out.trans (b4.mono B3.out.size))
        have he0 := (b4.cell (p := ⟨w.heap.size, 0, none⟩) z4).trans hd0
        clear hd0 hd1
        go_wp2
        go_ret2
        exact ⟨rfl, B4.out⟩
      | true =>
        rw [ho] at Hor
        clear ho
        go_enter Try.func31, Try.ntmps31
        go_wp2_with fail
        rw [HW0.out]
        clear HW0
        refine (Hpg.out _).mono ?_
        rintro e w2 ⟨rfl, b2⟩
        have B2 := Lib.hid (B0.out.trans (b2.mono B0.out.size))
        have z2 := B2.out.size
        have hc1 := (b2.cell (p := ⟨w.heap.size, 0, none⟩) Z0.out).trans C0.out
        have hc2 := (b2.cell (p := ⟨w.heap.size, 1, none⟩) Z0.out).trans C1.out
        have z3 : w.heap.size < w2.heap.size := Nat.lt_of_lt_of_le Z0.out b2.size
        go_wp2_with fail
        refine (Hgd.out _ B2.out).mono ?_
        rintro e w3 ⟨rfl, b3⟩
        have B3 := Lib.hid (B2.out.trans (b3.mono z2))
        have hd0 := (b3.cell (p := ⟨w.heap.size, 0, none⟩) z3).trans hc1
        have hd1 := (b3.cell (p := ⟨w.heap.size, 1, none⟩) z3).trans hc2
        have z4 : w.heap.size < w3.heap.size := Nat.lt_of_lt_of_le z3 b3.size
        clear hc1 hc2
        go_wp2_with fail
        refine (Hor.out _ B3.out).mono ?_
        rintro e w4 ⟨rfl, b4⟩
        have B4 := Lib.hid (B3.out.trans (b4.mono B3.out.size))
        have he0 := (b4.cell (p := ⟨w.heap.size, 0, none⟩) z4).trans hd0
        clear hd0 hd1
        go_wp2_with fail
        refine (Hlp.out _ B4.out).mono ?_
        rintro e w5 ⟨rfl, b5⟩
        go_wp2
        go_ret2
        exact ⟨rfl, B4.out.trans (b5.mono B4.out.size)⟩

end Go.Proofs.Ytbgoimhgmgldpaa
