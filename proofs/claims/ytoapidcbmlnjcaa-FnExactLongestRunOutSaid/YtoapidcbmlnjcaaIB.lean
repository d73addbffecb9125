import Derived.Test.YtoapidcbmlnjcaaI9
import Derived.Test.YtoapidcbmlnjcaaI3
namespace Go.Proofs.Ytoapidcbmlnjcaa
open Go.RowKit
set_option linter.unusedVariables false
set_option linter.unusedSimpArgs false

theorem cyL_bound {p : Nat → Bool} {P i : Nat} (hm : 0 < (nlF p P).length) (h : i ≤ (nlF p P).length) : 0 ≤ ivL (cyL p P) i ∧ ivL (cyL p P) i ≤ 2 * (P : Int) := by
  rw [cyL_at hm h]
  have h1 : uF p P i ≤ uF p P (nlF p P).length := by
    have := uF_mono hm i ((nlF p P).length - i)
    rw [show i + ((nlF p P).length - i) = (nlF p P).length by omega] at this
    omega
  have h2 : uF p P (nlF p P).length < P + P := by
    unfold uF
    rw [Nat.mod_self, Nat.div_self hm]
    have := (nl_at hm).1
    omega
  omega
theorem nmC_len {rs : List (Int × Int)} (h : perOk rs = true) : (nmC rs true).length = (gpA rs).length + 1 := by rw [nmC, nmQ_true, cyL_len, gpA_nl h]
theorem nmC_bound {rs : List (Int × Int)} (h : gpO rs = true) : ∀ i, i < (gpA rs).length + 1 → 0 ≤ ivL (nmC rs true) i ∧ ivL (nmC rs true) i ≤ 300000 := by
  intro i hi
  obtain ⟨h1, h2⟩ := gpO_parts h
  have hp := perOk_parts h1
  rw [gpA_nl h1] at h2 hi
  rw [nmC, nmQ_true]
  have := cyL_bound (p := lfQ rs) (P := (perF rs).toNat) h2 (i := i) (by omega)
  omega
set_option maxRecDepth 100000 in
set_option maxHeartbeats 800000 in
theorem gaps_c (W : World) (B : Nat) (vb vl : Value) (rs : List (Int × Int)) (ho : gpO rs = true) (hl : OwnI W B vl (nmC rs true)) :
    Calls Try.prog 75 #[.agg #[vb, vl]] W fun en w' => (∃ v, en = .returned v ∧ OwnI w' W.heap.size v (gpGA rs)) ∧ Below W.heap.size W w' := by
  have hp := (gpO_parts ho).1
  have hlen := nmC_len hp
  obtain ⟨A, c, rfl, _⟩ := own_row hl
  have hA := Il_of_own hl
  have h9 := gpA_len rs
  obtain ⟨n, hn⟩ : ∃ n, (nmC rs true).length = n := ⟨_, rfl⟩
  rw [hn] at hlen ⊢
  have HG := Lib.hid (fun w (hA : Il w A (nmC rs true)) => gapsBetween_c w A n c (nmC rs true) hA hn.symm (by omega) (fun j hj => nmC_bound ho j (by omega)))
  have HE : Hid (dfL (nmC rs true) (n - 1) = gpGA rs) := by show _ = _; rw [hlen, Nat.add_sub_cancel]; exact nmC_left ho
  rw [HE.out] at HG
  have HA := Lib.hid hA
  clear hl hA hp ho hn hlen
  go_enter Try.func75, Try.ntmps75
  go_wp2_with fail
  refine (HG.out _ (HA.out.below ((Below.refl _ _).alloc (Nat.le_refl _) _))).mono ?_
  rintro e w2 ⟨⟨v2, rfl, o2⟩, b2⟩
  go_wp2
  go_ret
  exact ⟨⟨_, rfl, OwnI.mono o2 (by simp)⟩, (Below.refl _ _).alloc (Nat.le_refl _) _ |>.trans (b2.mono (by simp))⟩
set_option maxRecDepth 100000 in
set_option maxHeartbeats 800000 in
theorem impl_GapsOfPeriod_c (w : World) (A : Option Addr) (m c : Nat) (rs : List (Int × Int)) (hA : Rl w A rs) (hm : m = rs.length) (hn : m ≤ 1048576) :
    Calls Try.prog 31 #[.slice A m c] w fun en w' => (∃ v, en = .returned (.tuple #[v, .bool (gpO rs)]) ∧ OwnI w' w.heap.size v (gpGA rs)) ∧ Below w.heap.size w w' := by
  have HD := Lib.hid (doorL_c w A m c rs hA hm hn 75 #[] (fun _ _ => rfl) (gpO rs) (gpGA rs) (fun h => h) (fun h => gpGA_no h) (fun ho W vb vl hb hB hv => (gaps_c W _ vb vl rs ho hv).mono fun e w' h => ⟨.inl ⟨ho, h.1⟩, h.2⟩))
  clear hA hm
  go_enter Try.func31, Try.ntmps31
  go_wp2_with fail
  refine HD.out.mono ?_
  rintro e w2 ⟨⟨v2, rfl, o2⟩, b2⟩
  obtain ⟨A2, c2, hv2, _⟩ := own_row o2
  obtain ⟨n2, hn2⟩ : ∃ n, (gpGA rs).length = n := ⟨_, rfl⟩
  rw [hn2] at hv2
  subst hv2
  have O2 := Lib.hid o2
  clear o2 hn2
  go_wp2
  go_ret2
  exact ⟨⟨_, rfl, O2.out⟩, b2⟩

end Go.Proofs.Ytoapidcbmlnjcaa
