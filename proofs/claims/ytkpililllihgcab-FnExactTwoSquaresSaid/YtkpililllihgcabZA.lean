import Derived.Test.YtkpililllihgcabK2
import Derived.Maps.AppendAt
namespace Go.Proofs.Ytkpililllihgcab
open Go.RowKit
set_option linter.unusedVariables false
set_option linter.unusedSimpArgs false

/-! A slice of pairs of ints that are cut out of one row. -/
def Two (ps : List (List Int)) : Prop := ∀ x ∈ ps, x.length = 2
theorem Two.tail {x : List Int} {ps : List (List Int)} (h : Two (x :: ps)) : Two ps := fun y hy => h y (List.mem_cons_of_mem _ hy)
theorem flat2_len : ∀ {ps : List (List Int)}, Two ps → ps.flatten.length = 2 * ps.length
  | [], _ => rfl
  | x :: ps, h => by
    rw [List.flatten_cons, List.length_append, flat2_len h.tail, h x (List.mem_cons_self ..), List.length_cons]
    omega
theorem flat2_at : ∀ {ps : List (List Int)} {i j : Nat}, Two ps → i < ps.length → j < 2 → ivL ps.flatten (2 * i + j) = ivL (psL ps i) j
  | [], i, j, _, hi, _ => by simp at hi
  | x :: ps, 0, j, h, _, hj => by
    have hx := h x (List.mem_cons_self ..)
    simp only [ivL, List.flatten_cons, Nat.mul_zero, Nat.zero_add, List.getD_eq_getElem?_getD]
    rw [List.getElem?_append_left (by omega)]
    rfl
  | x :: ps, i + 1, j, h, hi, hj => by
    have hx := h x (List.mem_cons_self ..)
    have ih := flat2_at (ps := ps) (i := i) (j := j) h.tail (by simpa using hi) hj
    have e : psL (x :: ps) (i + 1) = psL ps i := by simp [psL]
    rw [e, ← ih]
    simp only [ivL, List.flatten_cons, List.getD_eq_getElem?_getD]
    rw [List.getElem?_append_right (by omega), hx, show 2 * (i + 1) + j - 2 = 2 * i + j by omega]
theorem two_psL {ps : List (List Int)} (h : Two ps) {i : Nat} (hi : i < ps.length) : (psL ps i).length = 2 := h _ (by rw [← psL_get hi]; exact List.getElem_mem _)
theorem sum2 {ps : List (List Int)} (h : Two ps) : ∀ i, i ≤ ps.length → sumL ps i = 2 * i
  | 0, _ => rfl
  | i + 1, hi => by rw [sumL_succ (by omega), sum2 h i (by omega), two_psL h (by omega)]; omega

def FlatLL (w : World) (B : Nat) (v : Value) (ps : List (List Int)) : Prop :=
  Two ps ∧ ∃ (vs : List Value) (V : Value), w.ownsRow B 40 1 v ps.length vs ∧ OwnI w B V ps.flatten ∧ ∀ i, i < ps.length → ∃ g, V.ownBlock = some g ∧ vs[i]? = some (.slice (some ⟨g, 2 * i, none⟩) 2 2)
theorem FlatLL.nil (w : World) (B : Nat) : FlatLL w B (.slice none 0 0) [] := ⟨fun x h => (List.not_mem_nil h).elim, [], .slice none 0 0, World.ownsRow_nil _ _ _ _, OwnI.nil _ _, fun i h => by simp at h⟩
theorem FlatLL.below {w w' : World} {B : Nat} {v : Value} {ps : List (List Int)} (h : FlatLL w B v ps) (hb : Below w.heap.size w w') : FlatLL w' B v ps := by
  obtain ⟨h0, vs, V, h1, h2, h3⟩ := h
  exact ⟨h0, vs, V, own_below h1 hb, h2.below hb, h3⟩
theorem FlatLL.mono {w : World} {B B' : Nat} {v : Value} {ps : List (List Int)} (h : FlatLL w B v ps) (hB : B' ≤ B) : FlatLL w B' v ps := by
  obtain ⟨h0, vs, V, h1, h2, h3⟩ := h
  exact ⟨h0, vs, V, own_mono h1 hB, OwnI.mono h2 hB, h3⟩
theorem FlatLL.shape {w : World} {B : Nat} {v : Value} {ps : List (List Int)} (h : FlatLL w B v ps) : ∃ A c, v = .slice A ps.length c := by
  obtain ⟨h0, vs, V, h1, h2, h3⟩ := h
  exact own_shape h1
theorem block_of {A : Option Addr} {n c g : Nat} {w : World} {B : Nat} {e : TypeId} {size : Nat} {xs : List Value} (h : w.ownsRow B e size (.slice A n c) n xs) (hg : (Value.slice A n c).ownBlock = some g) : A = some ⟨g, 0, none⟩ ∧ g < w.heap.size := by
  have hlt := World.ownsRow.lt h g hg
  rcases h.2 with ⟨e, h0⟩ | ⟨g', cap, cur, e, _⟩
  · rw [e] at hg; simp [Value.ownBlock] at hg
  · simp only [Value.slice.injEq] at e
    obtain ⟨rfl, _⟩ := e
    simp only [Value.ownBlock, Option.some.injEq] at hg
    subst hg
    exact ⟨rfl, hlt.2⟩
theorem Lr_of_flat {w : World} {B n c : Nat} {A : Option Addr} {ps : List (List Int)} (h : FlatLL w B (.slice A n c) ps) : Lr w A ps := by
  intro hp
  obtain ⟨h0, vs, V, h1, h2, h3⟩ := h
  have hn : n = ps.length := by
    rcases h1.2 with ⟨e, h0⟩ | ⟨g, cap, cur, e, _⟩
    · omega
    · simp only [Value.slice.injEq] at e; exact e.2.1
  subst hn
  obtain ⟨g, rfl, _, hg⟩ := own_form h1 hp
  refine ⟨g, 0, rfl, hg, fun i hi => ?_⟩
  obtain ⟨q, hq, hu⟩ := h3 i hi
  obtain ⟨A', c', rfl⟩ := h2.shape
  obtain ⟨rfl, hqs⟩ := block_of h2 hq
  have hfl := flat2_len h0
  refine ⟨_, 2, by rw [Nat.zero_add, two_psL h0 hi]; exact (World.ownsRow.cellAt h1 i (by omega)).trans hu, fun _ => ⟨q, 2 * i, rfl, hqs, fun k hk => ?_⟩⟩
  rw [two_psL h0 hi] at hk
  rw [← flat2_at h0 hi hk]
  exact (World.ownsRow.cellAt h2 (2 * i + k) (by omega)).trans (ivL_get _ _ (by omega))
/-- Its numbers are 1, 2, 3, .. . -/
def MarkedF (w : World) (B : Nat) (v : Value) (ps : List (List Int)) : Prop :=
  Two ps ∧ ∃ (vs : List Value) (V : Value) (ys : List Value), w.ownsRow B 40 1 v ps.length vs ∧ w.ownsRow B 3 1 V (2 * ps.length) ys ∧ (∀ i, i < ps.length → ∃ g, V.ownBlock = some g ∧ vs[i]? = some (.slice (some ⟨g, 2 * i, none⟩) 2 2)) ∧ ∀ j, j < 2 * ps.length → ys[j]? = some (.int .i64 (1 + (j : Int)))
theorem MarkedF.below {w w' : World} {B : Nat} {v : Value} {ps : List (List Int)} (h : MarkedF w B v ps) (hb : Below w.heap.size w w') : MarkedF w' B v ps := by
  obtain ⟨h0, vs, V, ys, h1, h2, h3, h4⟩ := h
  exact ⟨h0, vs, V, ys, own_below h1 hb, own_below h2 hb, h3, h4⟩

set_option maxHeartbeats 800000 in
/-- markIntS on a part of a row. -/
theorem markIntS_part (g off n c N C B : Nat) (xs : List Value) (k0 : Int) (w : World) (h0 : w.ownsRow B 3 1 (.slice (some ⟨g, 0, none⟩) N C) N xs) (hin : off + n ≤ N) (hn1 : n ≤ 1048576) (hk1 : 0 ≤ k0) (hk2 : k0 ≤ 100000000) :
    Calls Try.prog 58 #[.slice (some ⟨g, off, none⟩) n c, .int .i64 k0] w fun en w' => en = .returned (.int .i64 (k0 + (n : Int))) ∧ (∃ ys, w'.ownsRow B 3 1 (.slice (some ⟨g, 0, none⟩) N C) N ys ∧ (∀ j, j < n → ys[off + j]? = some (.int .i64 (k0 + (j : Int)))) ∧ ∀ j, j < off → ys[j]? = xs[j]?) ∧ w.grownBy w' (some g) := by
  go_enter Try.func58, Try.ntmps58
  go_wp2
  go_loopw [1, 5] (fun q i wr => ∃ k : Nat, k ≤ n ∧ i = .int .i64 k ∧ q = .int .i64 (k0 + (k : Int)) ∧ (∃ ys, wr.ownsRow B 3 1 (.slice (some ⟨g, 0, none⟩) N C) N ys ∧ (∀ j, j < k → ys[off + j]? = some (.int .i64 (k0 + (j : Int)))) ∧ ∀ j, j < off → ys[j]? = xs[j]?) ∧ w.grownBy wr (some g)) (fun _ i _ => n - (intOf i).toNat)
  case atStart => exact ⟨0, Nat.zero_le _, rfl, by simp, ⟨_, h0, by omega, fun j _ => rfl⟩, World.grownBy.refl _ _⟩
  case round =>
    obtain ⟨k, hk, rfl, rfl, ⟨ys, hown, hys, hzs⟩, hgr⟩ := hrel
    have Hown := Lib.hid hown
    have Hys := Lib.hid hys
    have Hzs := Lib.hid hzs
    have Hgr := Lib.hid hgr
    clear hown hys hgr h0 hzs
    by_cases hlt : k < n
    · obtain ⟨x0, hx0, hf0⟩ := own_get Hown.out (off + k) (by omega)
      go_wp2
      go_roundw
      case rel =>
        have h1 := Hown.out.stored (off + k) (.int .i64 (k0 + (k : Int)))
        have hl : ys.length = N * 1 := Hown.out.1
        refine ⟨k + 1, by omega, by go_num, by rw [Int.natCast_succ, Int.add_assoc], ⟨_, h1.1, fun j hj => ?_, fun j hj => ?_⟩, grown_trans Hgr.out h1.2⟩
        · rcases Nat.lt_succ_iff_lt_or_eq.1 hj with h | h
          · rw [List.getElem?_set_ne (by omega)]; exact Hys.out j h
          · subst h; rw [List.getElem?_set_self (by omega)]
        · rw [List.getElem?_set_ne (by omega)]; exact Hzs.out j hj
      case measure => simp [intOf]; omega
    · have hkn : n ≤ k := by omega
      go_wp2
      go_ret
      refine ⟨by rw [show (n : Int) = (k : Int) by omega]; rfl, ⟨ys, Hown.out, fun j hj => Hys.out j (by omega), Hzs.out⟩, Hgr.out⟩
set_option maxHeartbeats 800000 in
theorem heldIntS_part (g off n c N C B : Nat) (ys : List Value) (k0 : Int) (w : World) (h0 : w.ownsRow B 3 1 (.slice (some ⟨g, 0, none⟩) N C) N ys) (hv : ∀ j, j < n → ys[off + j]? = some (.int .i64 (k0 + (j : Int)))) (hin : off + n ≤ N) (hn1 : n ≤ 1048576) (hk1 : 0 ≤ k0) (hk2 : k0 ≤ 100000000) :
    Calls Try.prog 59 #[.slice (some ⟨g, off, none⟩) n c, .int .i64 k0] w fun en w' => en = .returned (.int .i64 (k0 + (n : Int))) ∧ w = w' := by
  have Hown := Lib.hid h0
  have Hc := Lib.hid hv
  clear h0 hv
  go_enter Try.func59, Try.ntmps59
  go_wp2
  go_loop [1, 5] (fun q i => ∃ k : Nat, k ≤ n ∧ i = .int .i64 k ∧ q = .int .i64 (k0 + (k : Int))) (fun _ i => n - (intOf i).toNat)
  case atStart => exact ⟨0, Nat.zero_le _, rfl, by simp⟩
  case round =>
    obtain ⟨k, hk, rfl, rfl⟩ := hrel
    by_cases hlt : k < n
    · have hx0 := (Hown.out.cellAt (off + k) (by omega)).trans (Hc.out k (by omega))
      have hne : ((k0 + (k : Int)) != k0 + (k : Int)) = false := by simp
      go_wp2
      go_round
      case rel => exact ⟨k + 1, by omega, by go_num, by rw [Int.natCast_succ, Int.add_assoc]⟩
      case measure => simp [intOf]; omega
    · have hkn : n ≤ k := by omega
      go_wp2
      go_ret
      exact ⟨by rw [show (n : Int) = (k : Int) by omega]; rfl, rfl⟩
set_option maxRecDepth 100000 in
set_option maxHeartbeats 800000 in
theorem markIntSS_f (A : Option Addr) (B n c : Nat) (ps : List (List Int)) (w : World) (h0 : FlatLL w B (.slice A n c) ps) (hB : B ≤ w.heap.size) (hn : n = ps.length) (hn1 : n ≤ 1048576) (hs : sumL ps ps.length ≤ 1048576) :
    Calls Try.prog 28 #[.slice A n c, .int .i64 1] w fun en w' => en = .returned (.int .i64 (1 + (sumL ps ps.length : Int))) ∧ MarkedF w' B (.slice A n c) ps ∧ Below B w w' := by
  obtain ⟨h2p, vs, V, h1, h2, h3⟩ := h0
  subst hn
  have hss := sum2 h2p ps.length (Nat.le_refl _)
  rw [hss] at hs ⊢
  have hfl := flat2_len h2p
  have h2b : w.ownsRow B 3 1 V (2 * ps.length) (ps.flatten.map (Value.int .i64)) := by have h := h2; rw [OwnI, hfl] at h; exact h
  obtain ⟨A2, c2, rfl⟩ := own_shape h2b
  have H2p := Lib.hid h2p
  have H3 := Lib.hid h3
  clear hss h2 hfl h2p h3
  go_enter Try.func28, Try.ntmps28
  go_wp2
  go_loopw [1, 5] (fun q i wr => ∃ k : Nat, k ≤ ps.length ∧ i = .int .i64 k ∧ q = .int .i64 (1 + ((2 * k : Nat) : Int)) ∧ wr.ownsRow B 40 1 (.slice A ps.length c) ps.length vs ∧ (∃ ys, wr.ownsRow B 3 1 (.slice A2 (2 * ps.length) c2) (2 * ps.length) ys ∧ ∀ j, j < 2 * k → ys[j]? = some (.int .i64 (1 + (j : Int)))) ∧ Below B w wr) (fun _ i _ => ps.length - (intOf i).toNat)
  case atStart => exact ⟨0, Nat.zero_le _, rfl, rfl, h1, ⟨_, h2b, fun j hj => by omega⟩, Below.refl _ _⟩
  case round =>
    clear h1 h2b
    obtain ⟨k, hk, rfl, rfl, hout, ⟨ys, hin, hys⟩, hbel⟩ := hrel
    have Hout := Lib.hid hout
    have Hin := Lib.hid hin
    have Hys := Lib.hid hys
    clear hout hin hys
    by_cases hlt1 : k < ps.length
    · obtain ⟨g, rfl, hg1, hg2⟩ := own_form Hout.out (by omega)
      obtain ⟨q, hq, hu⟩ := H3.out k hlt1
      obtain ⟨rfl, hqs⟩ := block_of Hin.out hq
      have hc0 := (World.ownsRow.cellAt Hout.out k (by omega)).trans hu
      clear hu hq
      go_wp2_with fail
      refine (markIntS_part q (2 * k) 2 2 (2 * ps.length) c2 B ys _ _ Hin.out (by omega) (by omega) (by omega) (by omega)).mono ?_
      rintro e w1 ⟨rfl, ⟨zs, hz1, hz2, hz3⟩, gr⟩
      have b1 := below_of_grown gr (Nat.le_trans hB hbel.size) fun x hx => by cases hx; exact (World.ownsRow.lt Hin.out q rfl).1
      have Hout1 := Lib.hid (kept_if Hout.out gr fun x hx e => own_ne Hout.out Hin.out (by decide) x hx e)
      have Hz := Lib.hid hz1
      have Hw : Hid (∀ j, j < 2 * (k + 1) → zs[j]? = some (.int .i64 (1 + (j : Int)))) := fun j hj => by
        rcases Nat.lt_or_ge j (2 * k) with h | h
        · rw [hz3 j h]; exact Hys.out j h
        · have h5 := hz2 (j - 2 * k) (by omega)
          rw [show 2 * k + (j - 2 * k) = j by omega] at h5
          rw [h5]
          congr 2
          omega
      clear hz1 hz2 hz3 gr
      have E1 := Lib.hid (show (1 : Int) + ((2 * k : Nat) : Int) + 2 = 1 + ((2 * (k + 1) : Nat) : Int) by omega)
      go_wp2
      go_roundw
      case rel => exact ⟨k + 1, by omega, by go_num, by go_num, Hout1.out, ⟨zs, Hz.out, Hw.out⟩, hbel.trans b1⟩
      case measure => simp [intOf]; omega
    · have hkn : k = ps.length := by omega
      have Hk := Lib.hid hkn
      clear hkn
      go_wp2
      go_ret
      exact ⟨by rw [Hk.out]; rfl, ⟨H2p.out, vs, _, ys, Hout.out, Hin.out, H3.out, fun j hj => Hys.out j (by have := Hk.out; omega)⟩, hbel⟩
set_option maxRecDepth 100000 in
set_option maxHeartbeats 800000 in
theorem heldIntSS_f (A : Option Addr) (B n c : Nat) (ps : List (List Int)) (w : World) (h0 : MarkedF w B (.slice A n c) ps) (hn : n = ps.length) (hn1 : n ≤ 1048576) (hs : sumL ps ps.length ≤ 1048576) :
    Calls Try.prog 29 #[.slice A n c, .int .i64 1] w fun en w' => en = .returned (.int .i64 (1 + (sumL ps ps.length : Int))) ∧ w = w' := by
  obtain ⟨h2p, vs, V, ys, h1, h2, h3, h4⟩ := h0
  subst hn
  have hss := sum2 h2p ps.length (Nat.le_refl _)
  rw [hss] at hs ⊢
  obtain ⟨A2, c2, rfl⟩ := own_shape h2
  have H1 := Lib.hid h1
  have H2 := Lib.hid h2
  have H3 := Lib.hid h3
  have H4 := Lib.hid h4
  clear hss h2p h3 h1 h2 h4
  go_enter Try.func29, Try.ntmps29
  go_wp2
  go_loop [1, 5] (fun q i => ∃ k : Nat, k ≤ ps.length ∧ i = .int .i64 k ∧ q = .int .i64 (1 + ((2 * k : Nat) : Int))) (fun _ i => ps.length - (intOf i).toNat)
  case atStart => exact ⟨0, Nat.zero_le _, rfl, rfl⟩
  case round =>
    obtain ⟨k, hk, rfl, rfl⟩ := hrel
    by_cases hlt1 : k < ps.length
    · obtain ⟨g, rfl, hg1, hg2⟩ := own_form H1.out (by omega)
      obtain ⟨q, hq, hu⟩ := H3.out k hlt1
      obtain ⟨rfl, hqs⟩ := block_of H2.out hq
      have hc0 := (World.ownsRow.cellAt H1.out k (by omega)).trans hu
      clear hu hq
      have E1 := Lib.hid (show (1 : Int) + ((2 * k : Nat) : Int) + 2 = 1 + ((2 * (k + 1) : Nat) : Int) by omega)
      go_wp2_with fail
      refine (heldIntS_part q (2 * k) 2 2 (2 * ps.length) c2 B ys _ _ H2.out (fun j hj => by rw [H4.out (2 * k + j) (by omega)]; congr 2; omega) (by omega) (by omega) (by omega) (by omega)).mono ?_
      rintro e w1 ⟨rfl, rfl⟩
      go_wp2
      go_round
      case rel => exact ⟨k + 1, by omega, by go_num, by go_num⟩
      case measure => simp [intOf]; omega
    · have hkn : k = ps.length := by omega
      have Hk := Lib.hid hkn
      clear hkn
      go_wp2
      go_ret
      exact ⟨by rw [Hk.out]; rfl, rfl⟩

end Go.Proofs.Ytkpililllihgcab
