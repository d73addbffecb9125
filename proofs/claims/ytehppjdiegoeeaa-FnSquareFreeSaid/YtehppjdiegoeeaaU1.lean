import Derived.Test.YtehppjdiegoeeaaU0
import Derived.Test.YtehppjdiegoeeaaG1
namespace Go.Proofs.Ytehppjdiegoeeaa
open Go.RowKit
set_option linter.unusedVariables false
set_option linter.unusedSimpArgs false

theorem PartI.inn {N p n d : Nat} (h : PartI N p n d) (hm : n % (d * d) = 0) : PartI N (p * d) (n / (d * d)) d := by
  have hd := h.two
  have hD : 0 < d * d := Nat.mul_pos (by omega) (by omega)
  have he : n = d * d * (n / (d * d)) := by
    have := Nat.div_add_mod n (d * d)
    omega
  have hp : 1 ≤ n / (d * d) := by
    rcases Nat.eq_zero_or_pos (n / (d * d)) with h1 | h1
    · rw [h1] at he
      have := h.pos
      omega
    · exact h1
  refine ⟨hp, Nat.mul_pos h.part (by omega), hd, ?_, fun m h1 h2 h3 => h.none m h1 h2 ?_⟩
  · rw [h.eq]
    conv => lhs; rw [he]
    rw [← Nat.mul_assoc, Nat.mul_mul_mul_comm]
  · rw [he]
    exact Nat.dvd_trans h3 (Nat.dvd_mul_left _ _)
theorem PartI.out {N p n d : Nat} (h : PartI N p n d) (hm : n % (d * d) ≠ 0) : PartI N p n (d + 1) :=
  ⟨h.pos, h.part, by have := h.two; omega, h.eq, fun m h1 h2 h3 => by
    rcases Nat.lt_succ_iff_lt_or_eq.1 h2 with h4 | h4
    · exact h.none m h1 h4 h3
    · subst h4
      exact hm (Nat.mod_eq_zero_of_dvd h3)⟩
theorem sq_lt_of {d n b : Nat} (h : d * d ≤ n) (hn : n < b * b) : d < b := by
  rcases Nat.lt_or_ge d b with h1 | h1
  · exact h1
  · have := Nat.mul_le_mul h1 h1
    omega
theorem cast_sq {d D : Nat} (h : d * d = D) : (d : Int) * (d : Int) = (D : Int) := by rw [← h, Int.natCast_mul]
theorem cast_mul2 {a b D : Nat} (h : a * b = D) : (a : Int) * (b : Int) = (D : Int) := by rw [← h, Int.natCast_mul]

set_option maxRecDepth 100000 in
set_option maxHeartbeats 800000 in
theorem sqPart_c (w : World) (N : Nat) (h1 : 1 ≤ N) (h9 : N ≤ 200000) :
    Calls Try.prog 37 #[.int .i64 (N : Int)] w fun e w' => e = .returned (.int .i64 (sqG N : Int)) ∧ w = w' := by
  go_enter Try.func37, Try.ntmps37
  go_wp2
  go_loop [0, 3, 4] (fun i q r => ∃ x p d : Nat, i = .int .i64 (x : Int) ∧ q = .int .i64 (p : Int) ∧ r = .int .i64 (d : Int) ∧ d ≤ 448 ∧ PartI N p x d) (fun _ _ i => 449 - (intOf i).toNat)
  case atStart => exact ⟨N, 1, 2, rfl, rfl, rfl, by omega, PartI.start h1⟩
  case round =>
    obtain ⟨x, p, d, rfl, rfl, rfl, hd, hI⟩ := hrel
    have hle := hI.le
    have hd2 := hI.two
    have hx1 := hI.pos
    have hp1 := hI.part
    obtain ⟨D, hD⟩ : ∃ D, d * d = D := ⟨_, rfl⟩
    have hDi := cast_sq hD
    have hD9 : D ≤ 200704 := by have := Nat.mul_le_mul hd hd; omega
    have hD1 : 4 ≤ D := by have := Nat.mul_le_mul hd2 hd2; omega
    have hz : ((D : Int) == 0) = false := beq_eq_false_iff_ne.2 (by omega)
    have HI := Lib.hid hI
    have HD := Lib.hid hD
    clear hI hD
    by_cases hlt : D ≤ x
    · have hd9 := sq_lt_of (d := d) (n := x) (b := 448) (by rw [HD.out]; exact hlt) (by omega)
      go_wp2_with fail
      go_loop [0, 3] (fun i q => ∃ y s : Nat, i = .int .i64 (y : Int) ∧ q = .int .i64 (s : Int) ∧ PartI N s y d) (fun i _ => (intOf i).toNat)
      case atStart => exact ⟨x, p, rfl, rfl, HI.out⟩
      case round =>
        obtain ⟨y, s, rfl, rfl, hJ⟩ := hrel
        have hle2 := hJ.le
        have hy1 := hJ.pos
        by_cases hm : y % D = 0
        · have hK : PartI N (s * d) (y / D) d := by rw [← HD.out]; exact hJ.inn (by rw [HD.out]; exact hm)
          have hle3 := hK.le
          have hy3 := hK.pos
          have hlt3 : y / D < y := Nat.div_lt_self hy1 (by omega)
          obtain ⟨S, hS⟩ : ∃ S, s * d = S := ⟨_, rfl⟩
          rw [hS] at hK hle3
          have hSi := cast_mul2 hS
          have hm2 : ((y : Int) % (D : Int) == 0) = true := by rw [← Int.natCast_emod, hm]; rfl
          obtain ⟨Y, hY⟩ : ∃ Y, y / D = Y := ⟨_, rfl⟩
          rw [hY] at hK hle3 hy3 hlt3
          have hYi : (y : Int) / (D : Int) = (Y : Int) := by rw [← hY, Int.natCast_ediv]
          have HK := Lib.hid hK
          clear hK hS hm hY hJ
          go_wp2_with fail
          go_round
          case rel => exact ⟨Y, S, rfl, rfl, HK.out⟩
          case measure => simp [intOf]; omega
        · have hK : PartI N s y (d + 1) := hJ.out (by rw [HD.out]; exact hm)
          have hm2 : ((y : Int) % (D : Int) == 0) = false := by rw [← Int.natCast_emod]; exact beq_eq_false_iff_ne.2 (by omega)
          have HK := Lib.hid hK
          clear hK hm hJ
          go_wp2_with fail
          go_round
          case rel => exact ⟨y, s, d + 1, rfl, rfl, by go_num, by omega, HK.out⟩
          case measure => simp [intOf]; omega
    · have HG := Lib.hid (HI.out.done (by rw [HD.out]; omega))
      go_wp2
      go_ret
      exact ⟨by rw [HG.out]; rfl, rfl⟩

set_option maxRecDepth 100000 in
set_option maxHeartbeats 800000 in
theorem sqKernel_c (w : World) (N : Nat) (h1 : 1 ≤ N) (h9 : N ≤ 200000) :
    Calls Try.prog 42 #[.int .i64 (N : Int)] w fun e w' => e = .returned (.tuple #[.int .i64 (prodL (fks N) : Int), .int .i64 ((fks N).length : Int)]) ∧ w = w' := by
  have hrad := rad_le N h1
  go_enter Try.func42, Try.ntmps42
  go_wp2
  go_loop [0, 4, 5, 6] (fun i q c r => ∃ x p k d : Nat, i = .int .i64 (x : Int) ∧ q = .int .i64 (p : Int) ∧ c = .int .i64 (k : Int) ∧ r = .int .i64 (d : Int) ∧ d ≤ 448 ∧ KerI N p k x d) (fun _ _ _ i => 449 - (intOf i).toNat)
  case atStart => exact ⟨N, 1, 0, 2, rfl, rfl, rfl, rfl, by omega, KerI.start h1⟩
  case round =>
    obtain ⟨x, p, k, d, rfl, rfl, rfl, rfl, hd, hI⟩ := hrel
    have hle := hI.small
    have hxN := hI.le
    have hd2 := hI.two
    have hx1 := hI.pos
    obtain ⟨D, hD⟩ : ∃ D, d * d = D := ⟨_, rfl⟩
    have hDi := cast_sq hD
    have hD9 : D ≤ 200704 := by have := Nat.mul_le_mul hd hd; omega
    have hD1 : 4 ≤ D := by have := Nat.mul_le_mul hd2 hd2; omega
    have hz : ((d : Int) == 0) = false := beq_eq_false_iff_ne.2 (by omega)
    have HI := Lib.hid hI
    have HD := Lib.hid hD
    clear hI hD
    by_cases hlt : D ≤ x
    · have hd9 := sq_lt_of (d := d) (n := x) (b := 448) (by rw [HD.out]; exact hlt) (by omega)
      by_cases hm : x % d = 0
      · have hH := HI.out.hit (by rw [HD.out]; exact hlt) hm
        have hle3 := hH.small
        have HH := Lib.hid hH
        obtain ⟨S, hS⟩ : ∃ S, p * d = S := ⟨_, rfl⟩
        rw [hS] at hle3
        have hSi := cast_mul2 hS
        have HS := Lib.hid hS
        have hm2 : ((x : Int) % (d : Int) == 0) = true := by rw [← Int.natCast_emod, hm]; rfl
        clear hH hS hm
        go_wp2_with fail
        go_loop [0] (fun i => ∃ y : Nat, i = .int .i64 (y : Int) ∧ 1 ≤ y ∧ y ≤ x ∧ strR d y = strR d x) (fun i => (intOf i).toNat)
        case atStart => exact ⟨x, rfl, hx1, Nat.le_refl _, rfl⟩
        case round =>
          obtain ⟨y, rfl, hy1, hyx, hr⟩ := hrel
          by_cases hm : y % d = 0
          · obtain ⟨e1, e2⟩ := str_yes hd2 hy1 hm
            have hlt3 : y / d < y := Nat.div_lt_self hy1 (by omega)
            have hps := div_pos_of hd2 hy1 hm
            have hm2 : ((y : Int) % (d : Int) == 0) = true := by rw [← Int.natCast_emod, hm]; rfl
            obtain ⟨Y, hY⟩ : ∃ Y, y / d = Y := ⟨_, rfl⟩
            rw [hY] at e2 hlt3 hps
            have hYi : (y : Int) / (d : Int) = (Y : Int) := by rw [← hY, Int.natCast_ediv]
            have He := Lib.hid (e2.symm.trans hr)
            clear hr hm hY e1 e2
            go_wp2_with fail
            go_round
            case rel => exact ⟨Y, rfl, hps, by omega, He.out⟩
            case measure => simp [intOf]; omega
          · obtain ⟨e1, e2⟩ := str_no (p := d) hy1 hm
            have hm2 : ((y : Int) % (d : Int) == 0) = false := by rw [← Int.natCast_emod]; exact beq_eq_false_iff_ne.2 (by omega)
            have He := Lib.hid (e2.symm.trans hr)
            clear hr hm e1 e2
            go_wp2_with fail
            go_round
            case rel => exact ⟨y, S, k + 1, d + 1, rfl, rfl, by go_num, by go_num, by omega, by have h5 := HH.out; rw [HS.out, ← He.out] at h5; exact h5⟩
            case measure => simp [intOf]; omega
      · have HH := Lib.hid (HI.out.miss hm)
        have hm2 : ((x : Int) % (d : Int) == 0) = false := by rw [← Int.natCast_emod]; exact beq_eq_false_iff_ne.2 (by omega)
        clear hm
        go_wp2_with fail
        go_round
        case rel => exact ⟨x, p, k, d + 1, rfl, rfl, rfl, by go_num, by omega, HH.out⟩
        case measure => simp [intOf]; omega
    · by_cases hx : 2 ≤ x
      · obtain ⟨e1, e2⟩ := HI.out.last (by rw [HD.out]; omega) hx
        obtain ⟨S, hS⟩ : ∃ S, p * x = S := ⟨_, rfl⟩
        rw [hS] at e1
        have hSN : S ≤ N := by omega
        have hSi := cast_mul2 hS
        have HE := Lib.hid e1
        have HF := Lib.hid e2
        clear e1 e2 hS hrad
        go_wp2
        go_ret2
        exact ⟨by rw [HE.out, HF.out]; rfl, rfl⟩
      · have hx0 : x = 1 := by omega
        subst hx0
        obtain ⟨e1, e2⟩ := HI.out.one
        have HE := Lib.hid e1
        have HF := Lib.hid e2
        clear e1 e2 hrad
        go_wp2
        go_ret2
        exact ⟨by rw [HE.out, HF.out]; rfl, rfl⟩

set_option maxRecDepth 100000 in
theorem sqSign_c (w : World) (N : Nat) (h1 : 1 ≤ N) (h9 : N ≤ 200000) :
    Calls Try.prog 44 #[.int .i64 (N : Int)] w fun e w' => e = .returned (.int .i64 (sgF N)) ∧ w = w' := by
  have hrad := rad_le N h1
  have hsm := (KerI.start h1).count
  have hlen : (fks N).length ≤ N := by
    have h := (KerI.start h1)
    have hp : ∀ l : List Nat, (∀ x ∈ l, 2 ≤ x) → l.length < prodL l + 1 ∧ 1 ≤ prodL l := by
      intro l
      induction l with
      | nil => intro _; simp [prodL]
      | cons x l ih =>
        intro hx
        obtain ⟨a, b⟩ := ih fun y hy => hx y (List.mem_cons_of_mem _ hy)
        have hx2 := hx x (List.mem_cons_self ..)
        have := Nat.mul_le_mul hx2 (Nat.le_refl (prodL l))
        rw [prodL, List.length_cons]
        omega
    have := (hp (fks N) fun x hx => (fks_pos h1 x hx).1).1
    omega
  obtain ⟨P, hP⟩ : ∃ P, prodL (fks N) = P := ⟨_, rfl⟩
  obtain ⟨L, hL⟩ : ∃ L, (fks N).length = L := ⟨_, rfl⟩
  have hS : sgF N = if P = N then (if L % 2 = 0 then 1 else -1) else 0 := by rw [sgF, hP, hL]
  rw [hP] at hrad
  rw [hL] at hlen
  have HP := Lib.hid hP
  have HL := Lib.hid hL
  have HS := Lib.hid hS
  clear hP hL hS hsm
  by_cases hk : P = N
  · have hk2 : ((P : Int) == (N : Int)) = true := by simp [hk]
    by_cases hm : L % 2 = 0
    · have hm2 : ((L : Int) % 2 == 0) = true := by rw [beq_iff_eq]; omega
      have HT : Hid (sgF N = 1) := by show _ = _; rw [HS.out, if_pos hk, if_pos hm]
      clear hk hm
      go_enter Try.func44, Try.ntmps44
      go_wp2_with fail
      refine (sqKernel_c _ N h1 h9).mono ?_
      rw [HP.out, HL.out]
      rintro e w1 ⟨rfl, rfl⟩
      go_wp2
      go_ret
      exact ⟨by rw [HT.out]; rfl, rfl⟩
    · have hm2 : ((L : Int) % 2 == 0) = false := beq_eq_false_iff_ne.2 (by omega)
      have HT : Hid (sgF N = -1) := by show _ = _; rw [HS.out, if_pos hk, if_neg hm]
      clear hk hm
      go_enter Try.func44, Try.ntmps44
      go_wp2_with fail
      refine (sqKernel_c _ N h1 h9).mono ?_
      rw [HP.out, HL.out]
      rintro e w1 ⟨rfl, rfl⟩
      go_wp2
      go_ret
      exact ⟨by rw [HT.out]; rfl, rfl⟩
  · have hk2 : ((P : Int) == (N : Int)) = false := beq_eq_false_iff_ne.2 (by omega)
    have HT : Hid (sgF N = 0) := by show _ = _; rw [HS.out, if_neg hk]
    clear hk
    go_enter Try.func44, Try.ntmps44
    go_wp2_with fail
    refine (sqKernel_c _ N h1 h9).mono ?_
    rw [HP.out, HL.out]
    rintro e w1 ⟨rfl, rfl⟩
    go_wp2
    go_ret
    exact ⟨by rw [HT.out]; rfl, rfl⟩

theorem sqGood_c (n : Int) (w : World) :
    Calls Try.prog 36 #[.int .i64 n] w fun e w' => e = .returned (.bool (inB n 1 100000)) ∧ w = w' := by
  go_enter Try.func36, Try.ntmps36
  go_wp2_with (go_at_call 54; refine (l1In_c _ _ _ _).mono ?_; rintro e w' ⟨rfl, rfl⟩)
  go_ret
  exact ⟨rfl, rfl⟩
theorem sqMost_c (n : Int) (w : World) :
    Calls Try.prog 52 #[.int .i64 n] w fun e w' => e = .returned (.bool (inB n 0 600)) ∧ w = w' := by
  go_enter Try.func52, Try.ntmps52
  go_wp2_with (go_at_call 54; refine (l1In_c _ _ _ _).mono ?_; rintro e w' ⟨rfl, rfl⟩)
  go_ret
  exact ⟨rfl, rfl⟩


end Go.Proofs.Ytehppjdiegoeeaa
