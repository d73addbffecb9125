import Derived.Test.YthodhoochokfaaaGC
namespace Go.Proofs.Ythodhoochokfaaa
open Go.RowKit Go.Maps
set_option linter.unusedVariables false
set_option linter.unusedSimpArgs false

theorem fks_keys {D : DataW Unit} {N : Nat} (h1 : 1 ≤ N) (h : KeysD D (pf N)) : KeysD D (fks N) := h.of_mem fun x => mem_pf h1
theorem fks_len (N : Nat) : (fks N).length = (facs N).length := List.length_map _
theorem flL_fst {N i : Nat} (h : i < (flL N).length) : (psL (flL N) i).length = 2 ∧ ∃ (h2 : i < (fks N).length), ivL (psL (flL N) i) 0 = ((fks N)[i] : Int) := by
  have hl : i < (facs N).length := by rw [flL, List.length_map] at h; exact h
  rw [flL_get hl]
  refine ⟨rfl, by rw [fks_len]; exact hl, ?_⟩
  simp [ivL, fks]
theorem prodL_take {l : List Nat} {i : Nat} (h : i < l.length) : prodL (l.take (i + 1)) = prodL (l.take i) * l[i] := by
  rw [List.take_succ_eq_append_getElem h, prodL_snoc]
theorem prodL_take_le {l : List Nat} (hp : ∀ x ∈ l, 1 ≤ x) : ∀ (d i : Nat), i + d = l.length → prodL (l.take i) ≤ prodL l
  | 0, i, h => by rw [List.take_of_length_le (by omega)]; exact Nat.le_refl _
  | d + 1, i, h => by
    have h1 := prodL_take_le hp d (i + 1) (by omega)
    have h2 := prodL_take (l := l) (i := i) (by omega)
    have h3 := hp l[i] (List.getElem_mem _)
    have h4 := Nat.le_mul_of_pos_right (prodL (l.take i)) (show 0 < l[i] by omega)
    omega


/-- Whether a number is smooth for a bound. -/
def smB (N : Nat) (b : Int) : Bool := decide (∀ p ∈ fks N, (p : Int) ≤ b)
theorem smB_no {N p : Nat} {b : Int} (h : p ∈ fks N) (h2 : b < (p : Int)) : smB N b = false := decide_eq_false fun hh => by have := hh p h; omega
theorem smB_yes {N : Nat} {b : Int} (h : ∀ p ∈ fks N, (p : Int) ≤ b) : smB N b = true := decide_eq_true h
set_option maxRecDepth 100000 in
set_option maxHeartbeats 800000 in
theorem prSmooth_c (w : World) (N : Nat) (bo : Int) (h1 : 1 ≤ N) (h9 : N ≤ 1000000000) :
    Calls Try.prog 35 #[.int .i64 (N : Int), .int .i64 bo] w fun en w' => en = .returned (.bool (smB N bo)) ∧ Below w.heap.size w w' := by
  have Hfl := Lib.hid (fun i => flL_fst (N := N) (i := i))
  have hll : (flL N).length = (fks N).length := by rw [flL, List.length_map, fks_len]
  have hl29 := flL_len h1 h9
  have Hll := Lib.hid hll
  clear hll
  go_enter Try.func35, Try.ntmps35
  go_wp2_with fail
  refine (prFactors_c _ N h1 h9).mono ?_
  rintro e w2 ⟨⟨v2, rfl, o3⟩, b2⟩
  have hs2 := b2.size
  obtain ⟨A, c, rfl⟩ := o3.shape
  have R0 := Lr_of_own o3
  clear o3
  go_wp2_with fail
  go_loop [10] (fun i => ∃ k : Nat, k ≤ (flL N).length ∧ i = .int .i64 (k : Int) ∧ ∀ j (h : j < (fks N).length), j < k → ((fks N)[j] : Int) ≤ bo) (fun i => (flL N).length - (intOf i).toNat)
  case atStart => exact ⟨0, Nat.zero_le _, rfl, fun j _ h => by omega⟩
  case round =>
    obtain ⟨k, hk, rfl, hall⟩ := hrel
    have Hall := Lib.hid hall
    clear hall
    by_cases hlt : k < (flL N).length
    · obtain ⟨b, off, rfl, hb, hr⟩ := R0 (by omega)
      obtain ⟨A1, c1, q1, r1⟩ := hr k hlt
      obtain ⟨l2, hlt2, hv⟩ := Hfl.out k hlt
      obtain ⟨b1, off1, rfl, hb1, hr1⟩ := r1 (by omega)
      have q2 := hr1 0 (by omega)
      rw [hv, Nat.add_zero] at q2
      rw [l2] at q1
      have hmem : (fks N)[k] ∈ fks N := List.getElem_mem _
      obtain ⟨p, hp⟩ : ∃ p, (fks N)[k] = p := ⟨_, rfl⟩
      rw [hp] at q2 hmem
      have Hp := Lib.hid hp
      clear hr hr1 hv l2 hp
      by_cases hb : (p : Int) ≤ bo
      · go_wp2
        go_round
        case rel => exact ⟨k + 1, by omega, by go_num, fun j h hj => by
          rcases Nat.lt_succ_iff_lt_or_eq.1 hj with h3 | h3
          · exact Hall.out j h h3
          · subst h3; rw [Hp.out]; exact hb⟩
        case measure => simp [intOf]; omega
      · have Hno := Lib.hid (smB_no hmem (show bo < (p : Int) by omega))
        clear hmem
        go_wp2
        go_ret
        exact ⟨by rw [Hno.out]; rfl, b2⟩
    · have Hyes := Lib.hid (smB_yes (N := N) (b := bo) fun p hp => by
        obtain ⟨j, hj, rfl⟩ := List.getElem_of_mem hp
        exact Hall.out j hj (by have := Hll.out; omega))
      go_wp2
      go_ret
      exact ⟨by rw [Hyes.out]; rfl, b2⟩

def raOk (n : Int) : Bool := inB n 1 1000000000
def raV (n : Int) : Int := if raOk n then (prodL (fks n.toNat) : Int) else 0
theorem raV_no {n : Int} (h : raOk n = false) : raV n = 0 := by rw [raV, h]; rfl
theorem raV_yes {n : Nat} (h : raOk (n : Int) = true) : raV (n : Int) = (prodL (fks n) : Int) := by rw [raV, h, Int.toNat_natCast]; rfl

end Go.Proofs.Ythodhoochokfaaa
