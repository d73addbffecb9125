import Derived.Test.YtehppjdiegoeeaaGB
import Derived.Lib.MinMax
import Derived.Maps.Own
import Derived.Maps.OwnOps
import Derived.Maps.OwnSet
import Derived.Maps.RangeWalk
namespace Go.Proofs.Ytehppjdiegoeeaa
open Go.RowKit Go.Maps
set_option linter.unusedVariables false
set_option linter.unusedSimpArgs false

/-! Maps keyed by ints: whose keys are the numbers of a list. -/
def KeysD (D : DataW Unit) (ks : List Nat) : Prop := ∀ kl, Maps.has D kl = true ↔ ∃ p : Nat, p ∈ ks ∧ kl = .int .i64 (p : Int)
def CntsD (D : DataW Unit) (L : List Nat) : Prop := ∀ p : Nat, D.atKey (.int .i64 (p : Int)) (.lit (.int .i64 0)) = .lit (.int .i64 (L.count p : Int))
theorem key_inj {p q : Nat} (h : Lit.int .i64 (p : Int) = .int .i64 (q : Int)) : p = q := by
  injection h with _ h
  omega
theorem KeysD.empty : KeysD (.map []) [] := fun kl => by
  constructor
  · intro h; cases h
  · rintro ⟨p, h, _⟩; cases h
theorem CntsD.empty : CntsD (.map []) [] := fun p => rfl
theorem KeysD.put {D : DataW Unit} {L : List Nat} (h : KeysD D L) (hD : IsMap D) (p : Nat) (d : DataW Unit) : KeysD (D.put (.int .i64 (p : Int)) d) (L ++ [p]) := fun kl => by
  by_cases e : kl = .int .i64 (p : Int)
  · subst e
    rw [has_put_same hD (by trivial)]
    simp
  · rw [has_put_other e, h kl]
    constructor
    · rintro ⟨q, h1, h2⟩; exact ⟨q, List.mem_append_left _ h1, h2⟩
    · rintro ⟨q, h1, h2⟩
      rcases List.mem_append.1 h1 with h3 | h3
      · exact ⟨q, h3, h2⟩
      · rw [List.mem_singleton] at h3
        subst h3
        exact absurd h2 e
theorem CntsD.put {D : DataW Unit} {L : List Nat} (h : CntsD D L) (hD : IsMap D) (p : Nat) : CntsD (D.put (.int .i64 (p : Int)) (.lit (.int .i64 ((L.count p : Int) + 1)))) (L ++ [p]) := fun q => by
  by_cases e : q = p
  · subst e
    rw [atKey_put_same hD (by trivial), List.count_append]
    simp
  · rw [atKey_put_other (fun h => e (key_inj h)), h q, List.count_append]
    have : List.count q [p] = 0 := by simp [List.count_cons]; omega
    rw [this]
    rfl
theorem KeysD.of_mem {D : DataW Unit} {L ks : List Nat} (h : KeysD D L) (hm : ∀ x, x ∈ L ↔ x ∈ ks) : KeysD D ks := fun kl => by
  rw [h kl]
  constructor
  · rintro ⟨p, a, b⟩; exact ⟨p, (hm p).1 a, b⟩
  · rintro ⟨p, a, b⟩; exact ⟨p, (hm p).2 a, b⟩
theorem CntsD.at {D : DataW Unit} {L : List Nat} (h : CntsD D L) {p : Nat} {c : Int} (hat : D.atKey (.int .i64 (p : Int)) (.lit (.int .i64 0)) = .lit (.int .i64 c)) : c = (L.count p : Int) := by
  have h := (h p).symm.trans hat
  injection h with h
  injection h with _ h
  exact h.symm
/-- What is left of the keys when one has come. -/
def KeysL (left : Lit → Bool) (rem : List Nat) : Prop := ∀ kl, left kl = true ↔ ∃ p : Nat, p ∈ rem ∧ kl = .int .i64 (p : Int)
theorem KeysL.step {left : Lit → Bool} {rem : List Nat} (h : KeysL left rem) (hnd : rem.Nodup) (p : Nat) : KeysL (fun z => left z && !z.sameKey (.int .i64 (p : Int))) (rem.erase p) := fun kl => by
  rw [Bool.and_eq_true, h kl]
  constructor
  · rintro ⟨⟨q, a, rfl⟩, b⟩
    refine ⟨q, ?_, rfl⟩
    rw [hnd.mem_erase_iff]
    refine ⟨fun e => ?_, a⟩
    subst e
    simp [Lit.sameKey] at b
  · rintro ⟨q, a, rfl⟩
    rw [hnd.mem_erase_iff] at a
    refine ⟨⟨q, a.2, rfl⟩, ?_⟩
    rw [sameKey_ne (fun e => a.1 (key_inj e))]
    rfl
theorem KeysL.none {left : Lit → Bool} {rem : List Nat} (h : KeysL left rem) (h0 : ∀ kl, left kl = false) : rem = [] := by
  cases rem with
  | nil => rfl
  | cons x l =>
    have := (h (.int .i64 (x : Int))).2 ⟨x, List.mem_cons_self .., rfl⟩
    rw [h0] at this
    cases this
theorem KeysL.mem {left : Lit → Bool} {rem : List Nat} (h : KeysL left rem) {x : Int} (hx : left (.int .i64 x) = true) : ∃ p : Nat, x = (p : Int) ∧ p ∈ rem := by
  obtain ⟨p, a, b⟩ := (h _).1 hx
  injection b with _ b
  exact ⟨p, b, a⟩

theorem keyI : Keyed Try.prog 3 := int_keyed Try.underlying3
theorem zeroI (w : World) : (zeroValue 3).run Try.prog w = .ok (.int .i64 0) w := by kernel_rfl
theorem map_below {w w' : World} {P : Program} {k : TypeId} {R : Value → Option (DataW Unit × List MemPlace)} {b n B : Nat} {D : DataW Unit} (h : w.ownsMap P k R b n D) (hb : Below B w w') (hB : w.heap.size ≤ B) : w'.ownsMap P k R b n D := by
  have hlt := h.lt
  obtain ⟨es, clock, hb0, F, hs, hD⟩ := h
  exact ⟨es, clock, (hb.block b (by omega)).trans hb0, F, hs, hD⟩
theorem wfI {n : Int} (h : 0 ≤ n) (h2 : n ≤ 1000000000000) : (Lit.int .i64 n).wf = true := by
  have h1 : IntKind.i64.min = -9223372036854775808 := by decide
  have h3 : IntKind.i64.max = 9223372036854775807 := by decide
  simp only [Lit.wf, Bool.and_eq_true, decide_eq_true_eq, h1, h3]
  omega

/-- The map of exponents, made. -/
def ExpMap (w : World) (b : Nat) (n : Nat) (L : List Nat) : Prop := ∃ D : DataW Unit, w.ownsMap Try.prog 3 (plainElem Try.prog 3) b n D ∧ KeysD D L ∧ CntsD D L
set_option maxRecDepth 100000 in
set_option maxHeartbeats 1000000 in
theorem exponentsOf_c (w : World) (N : Nat) (h1 : 1 ≤ N) (h9 : N ≤ 1000000000) :
    Calls Try.prog 60 #[.int .i64 (N : Int)] w fun en w' => en = .returned (.map (some w.heap.size)) ∧ ExpMap w' w.heap.size N (pf N) ∧ Below w.heap.size w w' := by
  have hmm := @run_makeMap Try.prog
  go_enter Try.func60, Try.ntmps60
  go_wp2
  clear hmm
  go_loopw [0] (fun i wr => ∃ (m : Nat) (L : List Nat) (D : DataW Unit), i = .int .i64 (m : Int) ∧ 1 ≤ m ∧ L.length + m ≤ N ∧ pf N = L ++ pf m ∧ wr.ownsMap Try.prog 3 (plainElem Try.prog 3) w.heap.size L.length D ∧ KeysD D L ∧ CntsD D L ∧ Below w.heap.size w wr) (fun i _ => (intOf i).toNat)
  case atStart => exact ⟨N, [], _, rfl, h1, by simp, rfl, World.ownsMap_made _ _ _ _, KeysD.empty, CntsD.empty, (Below.refl _ _).alloc (Nat.le_refl _) _⟩
  case round =>
    obtain ⟨m, L, D, rfl, m1, m2, hpf, hown, hK, hC, hbel⟩ := hrel
    have Hpf := Lib.hid hpf
    have HK := Lib.hid hK
    have HC := Lib.hid hC
    clear hpf hK hC
    have hs := hbel.size
    by_cases hm : 2 ≤ m
    · have hp := leastF_ge hm
      have hle := leastF_le m
      have hlt := div_lt_of hp m1
      have hps := div_pos_of hp m1 (leastF_dvd m)
      have Hy := Lib.hid (pf_yes hm)
      obtain ⟨p, hp0⟩ : ∃ p, leastF m = p := ⟨_, rfl⟩
      rw [hp0] at hp hle hlt hps
      have HP : Hid ((leastF (m : Int).toNat : Int) = (p : Int)) := by show _ = _; rw [Int.toNat_natCast, hp0]
      have Hy2 : Hid (pf m = p :: pf (m / p)) := by show _ = _; rw [Hy.out, hp0]
      have hm1 : (1 : Int) < (m : Int) := by omega
      have hcl : L.count p ≤ L.length := List.count_le_length
      have hz : ((p : Int) == 0) = false := beq_eq_false_iff_ne.2 (by omega)
      have hq0 : 0 ≤ (m : Int) / (p : Int) := Int.ediv_nonneg (by omega) (by omega)
      have hq1 : (m : Int) / (p : Int) ≤ (m : Int) := Int.ediv_le_self _ (by omega)
      have Hq : Hid ((m : Int) / (p : Int) = ((m / p : Nat) : Int)) := Int.natCast_ediv _ _ |>.symm
      have Hlt := Lib.hid hlt
      have Hps := Lib.hid hps
      have Hm2 := Lib.hid m2
      have hkey : keyOf Try.prog 3 (.int .i64 (p : Int)) = some (.int .i64 (p : Int)) := keyOf_int_mk Try.underlying3 (wfI (by omega) (by omega))
      have Hkey := Lib.hid hkey
      have hm9 : (m : Int) ≤ 1000000000 := by omega
      have Hc9 := Lib.hid (show ((L.count p : Nat) : Int) ≤ 1000000000 by omega)
      have Hc0 := Lib.hid (show (0 : Int) ≤ ((L.count p : Nat) : Int) by omega)
      have Hml := Lib.hid (show L.length < maxLen by unfold maxLen; omega)
      have Hwf := Lib.hid (wfI (n := (L.count p : Int) + 1) (by omega) (by omega))
      clear hp0 Hy hlt hps hm m2 hcl hkey
      go_wp2_with fail
      refine (leastFactor_c _ _ (by omega) (by have := Hm2.out; omega)).mono ?_
      rw [HP.out]
      rintro e w1 ⟨rfl, rfl⟩
      go_wp2_with (first
        | (at_lookup; refine wpList_lookup_own_int _ rfl _ _ 58 rfl 3 3 .i64 keyI Try.underlying58 Try.underlying3 (zeroI _) w.heap.size L.length _ rfl hown _ _ rfl Hkey.out ?_; intro c hat hwc; obtain rfl := CntsD.at HC.out hat; clear hat hwc; have hc9 := Hc9.out; have hc0 := Hc0.out)
        | (at_mapUpdate; refine wpList_mapUpdate_own _ rfl _ _ _ 58 rfl 3 3 keyI Try.underlying58 _ w.heap.size L.length _ rfl hown Hml.out _ _ _ rfl rfl Hkey.out _ [] (plainElem_int Try.underlying3 Hwf.out) ?_; intro w2 hown2 hgrow2)
        | go_in)
      go_roundw
      case rel =>
        refine ⟨m / p, L ++ [p], _, by rw [Hq.out], Hps.out, ?_, by rw [Hpf.out, Hy2.out, List.append_assoc]; rfl, ?_, HK.out.put hown.isMap p _, HC.out.put hown.isMap p, hbel.grown hgrow2 hs fun j hj => by cases hj; exact Nat.le_refl _⟩
        · have := Hlt.out; have := Hm2.out
          rw [List.length_append, List.length_singleton]
          generalize m / p = q at *
          omega
        · rw [List.length_append, List.length_singleton]
          exact hown2
      case measure =>
        have := Hlt.out
        have := Hq.out
        simp only [intOf]
        simp
        omega
    · have He : Hid (pf N = L) := by show _ = _; rw [Hpf.out, pf_no hm, List.append_nil]
      go_wp2
      go_ret
      exact ⟨rfl, ⟨D, hown.mono (by omega), by rw [He.out]; exact HK.out, by rw [He.out]; exact HC.out⟩, hbel⟩

end Go.Proofs.Ytehppjdiegoeeaa
