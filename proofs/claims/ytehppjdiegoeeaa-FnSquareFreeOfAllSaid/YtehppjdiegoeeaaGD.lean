import Derived.Test.YtehppjdiegoeeaaGC
namespace Go.Proofs.Ytehppjdiegoeeaa
open Go.RowKit Go.Maps
set_option linter.unusedVariables false
set_option linter.unusedSimpArgs false

theorem fks_keys {D : DataW Unit} {N : Nat} (h1 : 1 ≤ N) (h : KeysD D (pf N)) : KeysD D (fks N) := h.of_mem fun x => mem_pf h1
theorem fks_len (N : Nat) : (fks N).length = (facs N).length := List.length_map _
theorem flL_fst {N i : Nat} (h : i < (flL N).length) : (psL (flL N) i).length = 2 ∧ ∃ (h2 : i < (fks N).length), ivL (psL (flL N) i) 0 = ((fks N)[i] : Int) := by
  have hl : i < (facs N).length := by rw [flL, List.length_map] at h; exact h
  rw [flL_get hl]
  refine ⟨rfl, by rw [fks_len]; exact hl, ?_⟩
  simp [ivL, fks]
theorem prodL_take {l : List Nat} {i : Nat} (h : i < l.length) : prodL (l.take (i + 1)) = prodL (l.take i) * l[i] := by
  rw [List.take_succ_eq_append_getElem h, prodL_snoc]
theorem prodL_take_le {l : List Nat} (hp : ∀ x ∈ l, 1 ≤ x) : ∀ (d i : Nat), i + d = l.length → prodL (l.take i) ≤ prodL l
  | 0, i, h => by rw [List.take_of_length_le (by omega)]; exact Nat.le_refl _
  | d + 1, i, h => by
    have h1 := prodL_take_le hp d (i + 1) (by omega)
    have h2 := prodL_take (l := l) (i := i) (by omega)
    have h3 := hp l[i] (List.getElem_mem _)
    have h4 := Nat.le_mul_of_pos_right (prodL (l.take i)) (show 0 < l[i] by omega)
    omega


/-- Whether a number is smooth for a bound. -/
def smB (N : Nat) (b : Int) : Bool := decide (∀ p ∈ fks N, (p : Int) ≤ b)
theorem smB_no {N p : Nat} {b : Int} (h : p ∈ fks N) (h2 : b < (p : Int)) : smB N b = false := decide_eq_false fun hh => by have := hh p h; omega
theorem smB_yes {N : Nat} {b : Int} (h : ∀ p ∈ fks N, (p : Int) ≤ b) : smB N b = true := decide_eq_true h

def raOk (n : Int) : Bool := inB n 1 1000000000
def raV (n : Int) : Int := if raOk n then (prodL (fks n.toNat) : Int) else 0
theorem raV_no {n : Int} (h : raOk n = false) : raV n = 0 := by rw [raV, h]; rfl
theorem raV_yes {n : Nat} (h : raOk (n : Int) = true) : raV (n : Int) = (prodL (fks n) : Int) := by rw [raV, h, Int.toNat_natCast]; rfl
set_option maxRecDepth 100000 in
set_option maxHeartbeats 1000000 in
theorem impl_RadicalOf_c (w : World) (n : Int) :
    Calls Try.prog 41 #[.int .i64 n] w fun en w' => en = .returned (.tuple #[.int .i64 (raV n), .bool (raOk n)]) ∧ Below w.heap.size w w' := by
  cases hg : inB n 1 1000000000 with
  | false =>
    have ho : raOk n = false := hg
    rw [raV_no ho, ho]
    clear ho
    go_enter Try.func41, Try.ntmps41
    go_wp2_with fail
    refine (isFactored_c _ _).mono ?_
    rintro e w1 ⟨rfl, rfl⟩
    go_wp2
    go_ret2
    exact ⟨rfl, (Below.refl _ _)⟩
  | true =>
    have ho : raOk n = true := hg
    obtain ⟨n1, n2⟩ := inB_true.1 hg
    obtain ⟨N, rfl⟩ := Int.eq_ofNat_of_zero_le (Int.le_trans (by omega) n1)
    rw [raV_yes ho, ho]
    clear ho
    have hN1 : 1 ≤ N := by omega
    have hle := rad_le N hN1
    have hpos := fks_pos hN1
    have hnd := fks_nodup N
    obtain ⟨T, hT⟩ : ∃ T, prodL (fks N) = T := ⟨_, rfl⟩
    rw [hT] at hle ⊢
    have HT := Lib.hid hT
    have Hps := Lib.hid hpos
    clear hT hpos
    have Hg := Lib.hid hg
    go_enter Try.func41, Try.ntmps41
    go_wp2_with fail
    refine (isFactored_c _ _).mono ?_
    rintro e w1 ⟨rfl, rfl⟩
    go_wp2_with fail
    refine (exponentsOf_c _ N hN1 (by omega)).mono ?_
    rintro e w2 ⟨rfl, ⟨D, hown, hK, -⟩, b2⟩
    have hK2 := fks_keys hN1 hK
    have HK2 := Lib.hid hK2
    have hs2 := b2.size
    clear hK hK2
    go_wp2_with (first
      | (at_range; refine wpList_range_own _ rfl _ 58 rfl 3 3 keyI Try.underlying58 _ w.heap.size N _ rfl hown ?_; intro w0 hrg0 hg0 hs0)
      | go_in)
    go_frame
    go_loopw [4] (fun a wr => ∃ (left : Lit → Bool) (cnt : Nat) (rem : List Nat) (acc : Nat), a = .int .i64 (acc : Int) ∧ wr.ranges Try.prog 3 (plainElem Try.prog 3) w.heap.size w2.heap.size N D left cnt ∧ KeysL left rem ∧ rem.Nodup ∧ acc * prodL rem = T ∧ (∀ p ∈ rem, 2 ≤ p ∧ p ≤ N) ∧ Below w.heap.size w wr) (fun _ wr => wr.rangeLeft w.heap.size w2.heap.size)
    case atStart => exact ⟨_, _, fks N, 1, rfl, hrg0, HK2.out, hnd, by rw [HT.out, Nat.one_mul], Hps.out, b2.grown hg0 hs2 (fun j hj => by cases hj)⟩
    case round =>
      clear hrg0 hg0 hs0 HK2 hown hnd
      obtain ⟨left, cnt, rem, acc, rfl, hrg, hKL, hnr, hac, hpr, hbel⟩ := hrel
      have Hac := Lib.hid hac
      have Hpr := Lib.hid hpr
      have HKL := Lib.hid hKL
      clear hac hpr hKL
      go_wp2_with (first
        | (at_next; refine wpList_next_ranges_ii _ rfl _ rfl 3 3 .i64 .i64 keyI Try.underlying3 Try.underlying3 w.heap.size w2.heap.size N _ _ _ rfl hrg ?_ ?_)
        | go_in)
      · intro _ hl0
        have He := Lib.hid (HKL.out.none hl0)
        have Ha : Hid (acc = T) := by show _ = _; have h := Hac.out; rw [He.out] at h; simpa [prodL] using h
        clear hl0
        go_wp2
        go_ret2
        exact ⟨by rw [← Ha.out]; rfl, hbel⟩
      · intro x c w1 cnt1 hwx hwc hlx hat hrg1 hlt hg1 hs1 hen
        obtain ⟨p, rfl, hp⟩ := HKL.out.mem hlx
        have hpe := prodL_erase hp
        have h2p := Hpr.out p hp
        have hap : acc * p ≤ T := by
          have h := Hac.out
          rw [hpe, ← Nat.mul_assoc] at h
          have h3 := prodL_pos (rem.erase p) fun y hy => by have := Hpr.out y (List.mem_of_mem_erase hy); omega
          have := Nat.le_mul_of_pos_right (acc * p) (show 0 < prodL (rem.erase p) by omega)
          omega
        have hm9 : (acc : Int) * (p : Int) ≤ 1000000000 := by
          have h3 : ((acc * p : Nat) : Int) ≤ 1000000000 := by omega
          rwa [Int.natCast_mul] at h3
        have hm0 : 0 ≤ (acc : Int) * (p : Int) := Int.mul_nonneg (by omega) (by omega)
        have Hac2 : Hid (acc * p * prodL (rem.erase p) = T) := by show _ = _; rw [Nat.mul_assoc, ← hpe]; exact Hac.out
        have HKL2 := Lib.hid (HKL.out.step hnr p)
        have Hnr2 := Lib.hid (hnr.erase p)
        have Hpr2 := Lib.hid (fun y (hy : y ∈ rem.erase p) => Hpr.out y (List.mem_of_mem_erase hy))
        clear hwx hwc hlx hat hpe hap hp
        go_wp2
        go_roundw
        case rel => exact ⟨_, cnt1, rem.erase p, acc * p, by rw [Int.natCast_mul], hrg1, HKL2.out, Hnr2.out, Hac2.out, Hpr2.out, hbel.grown hg1 hbel.size (fun j hj => by cases hj; exact hs2)⟩
        case measure => rw [hrg1.left_eq, hrg.left_eq]; exact hlt

end Go.Proofs.Ytehppjdiegoeeaa
