import Derived.Test.YtgnmookklplnmaaVC
import Derived.ChangeKeysEq
import Derived.Laws.StructEq
import Derived.ScopeJumps
namespace Go.Proofs.Ytgnmookklplnmaa
open Go.RowKit
set_option linter.unusedVariables false
set_option linter.unusedSimpArgs false

theorem plainI : Try.prog.plainKey 3 = true := by kernel_rfl
theorem cellsI : Try.prog.cellsOf 3 = 1 := by kernel_rfl
theorem eqGuardP : Try.prog.eqGuardType Try.prog.depth 62 = false := by kernel_rfl
theorem run_eqItems_arN (d : Nat) (p q : List Nat) (hp : p.length = 8) (hq : q.length = 8) (w : World) : ∀ is : List Nat, (∀ i, i ∈ is → i < 8) →
    (Op.eqItems (d + 1) 3 1 (arN p) (arN q) is).run Try.prog w = .ok (decide (∀ i, i ∈ is → ivN p i = ivN q i)) w
  | [], _ => by simp [Op.eqItems]
  | i :: is, h => by
    have hi := h i (List.mem_cons_self ..)
    have p1 := run_part_plain w plainI (show (arN p)[i * 1]? = some (.int .i64 (ivN p i : Int)) by rw [Nat.mul_one]; exact arN_get (by omega))
    have p2 := run_part_plain w plainI (show (arN q)[i * 1]? = some (.int .i64 (ivN q i : Int)) by rw [Nat.mul_one]; exact arN_get (by omega))
    have p3 := run_equalIn_int (P := Try.prog) w d 3 .i64 .i64 (ivN p i : Int) (ivN q i : Int) Try.underlying3
    have ih := run_eqItems_arN d p q hp hq w is fun j hj => h j (List.mem_cons_of_mem _ hj)
    simp only [Op.eqItems, Sem.run_bind, p1, p2, p3, Result.andThen_ok]
    by_cases he : ivN p i = ivN q i
    · have hb : ((ivN p i : Int) == (ivN q i : Int)) = true := beq_iff_eq.2 (by omega)
      rw [hb]
      simp only [Bool.not_true, Bool.false_eq_true, if_false, ih]
      congr 1
      simp [he]
    · have hb : ((ivN p i : Int) == (ivN q i : Int)) = false := beq_eq_false_iff_ne.2 (by omega)
      rw [hb]
      simp [he]
theorem ivN_ext {p q : List Nat} (hp : p.length = 8) (hq : q.length = 8) : (∀ i, i ∈ List.range 8 → ivN p i = ivN q i) ↔ p = q := by
  constructor
  · intro h
    apply List.ext_getElem (by omega)
    intro i h1 h2
    have := h i (List.mem_range.2 (by omega))
    rw [ivN_get, ivN_get] at this
    simpa [h1, h2] using this
  · rintro rfl i _; rfl
theorem run_eq_arN (p q : List Nat) (hp : p.length = 8) (hq : q.length = 8) (w : World) : (binOp .eql 62 (.agg (arN p)) (.agg (arN q))).run Try.prog w = .ok (.bool (decide (p = q))) w := by
  obtain ⟨i, hi, hz, hs, hy⟩ := info_full info_I
  have h := run_equalIn_array (P := Try.prog) w 9999 (arN p) (arN q) Try.underlying62 hi
  rw [cellsI, run_eqItems_arN 9998 p q hp hq w _ (fun i hi => List.mem_range.1 hi)] at h
  rw [run_eql_struct, h]
  simp only [Result.andThen_ok]
  congr 3
  exact propext (ivN_ext hp hq)
theorem wpList_eq_arN {ops : Array Oper} {rest : List Oper} {o : Oper} {a : Act} {w : World} {Q : Exit → Act → World → Prop} (hgd : o.guard = none) (x y : Operand) (t2 : TypeId) (ho : o.op = .binOp .eql 62 x y t2)
    (p q : List Nat) (hx : a.eval x = .agg (arN p)) (hy : a.eval y = .agg (arN q)) (hp : p.length = 8) (hq : q.length = 8)
    (h : wpList Try.prog ops Q rest (a.put o.dst (.bool (decide (p = q)))) w) : wpList Try.prog ops Q (o :: rest) a w := by
  refine wpList_plain hgd fun K hK => ?_
  unfold Oper.wp execOp
  simp only [ho, hx, hy, Sem.run_bind, Result.andThen_ok, run_eqGuard_agg (P := Try.prog) w _ _ _ _ _ _ eqGuardP, run_eq_arN p q hp hq w, Sem.run_pure]
  exact hK _ _ h

def cellsP (ps : List (List Nat)) : List Value := ps.flatMap fun p => p.map fun x : Nat => Value.int .i64 (x : Int)
/-- A row of patterns that the call owns. -/
def OwnP (w : World) (B : Nat) (v : Value) (ps : List (List Nat)) : Prop := w.ownsRow B 62 8 v ps.length (cellsP ps) ∧ ∀ p, p ∈ ps → p.length = 8
theorem OwnP.nil (w : World) (B : Nat) : OwnP w B (.slice none 0 0) [] := ⟨World.ownsRow_nil _ _ _ _, fun p h => by cases h⟩
theorem OwnP.below {w w' : World} {B : Nat} {v : Value} {ps : List (List Nat)} (h : OwnP w B v ps) (hb : Below w.heap.size w w') : OwnP w' B v ps := ⟨own_below h.1 hb, h.2⟩
theorem OwnP.shape {w : World} {B : Nat} {v : Value} {ps : List (List Nat)} (h : OwnP w B v ps) : ∃ A c, v = .slice A ps.length c := by
  rcases h.1.2 with ⟨e, h0⟩ | ⟨g, cap, cur, e, _⟩
  · exact ⟨none, 0, by rw [e, h0]⟩
  · exact ⟨_, _, e⟩
theorem info_P : (Try.prog.info? 62).map (fun i => (i.zero, i.size, i.bytes)) = some (some (.agg #[.int .i64 0, .int .i64 0, .int .i64 0, .int .i64 0, .int .i64 0, .int .i64 0, .int .i64 0, .int .i64 0]), 8, 64) := by kernel_rfl
theorem cellsP_app (ps : List (List Nat)) (p : List Nat) : cellsP (ps ++ [p]) = cellsP ps ++ p.map fun x : Nat => Value.int .i64 (x : Int) := by simp [cellsP]
/-- append(out, p) for a row of patterns that the call owns. -/
theorem wp_app_pat {ops : Array Oper} {rest : List Oper} {o : Oper} {a : Act} {Q : Exit → Act → World → Prop} (w : World) (hgd : o.guard = none) (s x : Operand)
    (ho : o.op = .call { callee := .builtin .append, args := #[s, x], argTypes := #[59, 59] }) (B : Nat) (v : Value) (ps : List (List Nat)) (hs : a.eval s = v) (hown : OwnP w B v ps) (p : List Nat) (hp : p.length = 8) (cs : Array Value) (hcs : cs = arN p)
    (hx : a.eval x = .slice (some ⟨w.heap.size, 0, none⟩) 1 1) (hl : ps.length ≤ 1048576) (hB : B ≤ w.heap.size)
    (h : ∀ v' w', OwnP w' B v' (ps ++ [p]) → Below B w w' → w.grownBy w' v.ownBlock → (v'.ownBlock = v.ownBlock ∨ ∀ q, v'.ownBlock = some q → w.heap.size ≤ q) → wpList Try.prog ops Q rest (a.put o.dst v') w') : wpList Try.prog ops Q (o :: rest) a (w.alloc (.cells cs 62)) := by
  subst hcs
  obtain ⟨i0, hi, hz0, hz1, hz2⟩ := info_parts info_P
  refine wpList_append_lies _ hgd s x 59 ho B 62 i0 _ 8 64 Try.underlying59 hi hz0 hz1 hz2 rfl (by decide) v _ _ hs (World.ownsRow.alloc hown.1 _) ⟨w.heap.size, 0, none⟩ 1 1 (p.map fun x : Nat => Value.int .i64 (x : Int)) hx (by simp [hp]) ?_ ?_ (by decide) (by unfold maxLen; omega) (by omega) (by simp; omega) _ rfl ?_
  · intro j u hj
    have hadd : (⟨w.heap.size, 0, none⟩ : Addr).add j = ⟨w.heap.size, j, none⟩ := by unfold Addr.add; split <;> simp_all
    rw [hadd, cell_of_row _ _ j _ _ _ (heap_alloc_new w _)]
    simpa [arN] using hj
  · intro u hu
    simp at hu
    obtain ⟨y, _, rfl⟩ := hu
    rfl
  · intro g cap w' hown' hg hl2 _
    refine h _ w' ⟨?_, fun z hz => ?_⟩ (((Below.refl B w).alloc hB _).grown hg (by simp; omega) fun k hk => (World.ownsRow.lt hown.1 k hk).1) ⟨hg.os, hg.tape, hg.output, Nat.le_trans (by simp) hg.size, fun i hi hn => (hg.block i (by simp; omega) hn).trans (Below.heap_alloc w _ i hi)⟩ ?_
    · rw [cellsP_app, List.length_append]; exact hown'
    · rcases List.mem_append.1 hz with hz | hz
      · exact hown.2 z hz
      · rw [List.mem_singleton.1 hz]; exact hp
    · rcases hl2 with h2 | h2
      · exact .inl h2.symm
      · refine .inr fun q hq => ?_
        simp [Value.ownBlock] at hq
        simp at h2
        omega

theorem least_of (J : Nat → Prop) : ∀ n, J n → ∃ f, J f ∧ ∀ f', J f' → f ≤ f' := by
  intro n
  induction n using Nat.strongRecOn with
  | _ n ih =>
    intro h
    rcases Classical.em (∃ m, m < n ∧ J m) with ⟨m, hm, hJ⟩ | hno
    · exact ih m hm hJ
    · exact ⟨n, h, fun f' hf => Nat.le_of_not_lt fun hlt => hno ⟨f', hlt, hf⟩⟩
noncomputable def fuelOf (J : Nat → Prop) : Nat := @dite _ (∃ n, J n) (Classical.propDecidable _) (fun h => Classical.choose (least_of J (Classical.choose h) (Classical.choose_spec h))) (fun _ => 0)
theorem fuelOf_spec {J : Nat → Prop} {f : Nat} (h : J f) : J (fuelOf J) ∧ fuelOf J ≤ f := by
  have hex : ∃ n, J n := ⟨f, h⟩
  have hs := Classical.choose_spec (least_of J (Classical.choose hex) (Classical.choose_spec hex))
  have he : fuelOf J = Classical.choose (least_of J (Classical.choose hex) (Classical.choose_spec hex)) := dif_pos hex
  rw [he]
  exact ⟨hs.1, hs.2 f h⟩
/-- A scope entered by way of its label, the rounds counted by a number that neither the frame nor the world bears. -/
theorem wp_scope_fuel {P : Program} {a : Act} {w : World} {Q : Exit → Act → World → Prop} {c rest : Code} (l N : Nat) (J : Nat → Act → World → Prop) (hf : findLabel c l = some (Code.seq Code.skip rest))
    (pass : ∀ f a w, f < N → J f a w → rest.wp P (Exit.jump l (fun a' w' => ∃ f', f' < f ∧ J f' a' w') Q) a w)
    (first : (∀ f a w, f < N → J f a w → rest.wp P (Exit.jump l (fun a w => ∃ f, f < N ∧ J f a w) Q) a w) → c.wp P (Exit.jump l (fun a w => ∃ f, f < N ∧ J f a w) Q) a w) : (Code.scope c).wp P Q a w := by
  have pass2 : ∀ f a w, f < N → J f a w → rest.wp P (Exit.jump l (fun a w => ∃ f, f < N ∧ J f a w) Q) a w := fun f a w hN h => wp_mono (pass f a w hN h) fun e a w h => by
    cases e with
    | goto l' => obtain ⟨h1, f', h2, h3⟩ := h; exact ⟨h1, f', by omega, h3⟩
    | normal => exact h
    | exit id => exact h
    | ret => exact h
    | panic ch => exact h
    | outgrown => exact h
  refine wp_scope_jumps l (fun a w => ∃ f, f < N ∧ J f a w) (fun a w => fuelOf fun f => J f a w) hf (first pass2) (fun a w h => ?_)
  obtain ⟨f, hN, hJ⟩ := h
  obtain ⟨hJ2, hle⟩ := fuelOf_spec (J := fun f => J f a w) hJ
  refine wp_seq (wp_skip (wp_mono (pass _ a w (Nat.lt_of_le_of_lt hle hN) hJ2) fun e a2 w2 h => ?_))
  cases e with
  | goto l' =>
    obtain ⟨h1, f', h2, h3⟩ := h
    have hN2 : f' < N := by omega
    exact ⟨h1, ⟨f', hN2, h3⟩, Nat.lt_of_le_of_lt (fuelOf_spec (J := fun f => J f a2 w2) h3).2 h2⟩
  | normal => exact h
  | exit id => exact h
  | ret => exact h
  | panic ch => exact h
  | outgrown => exact h

theorem fold_arN {p : List Nat} (hp : p.length = 8) : Array.foldl (fun cs x => cs.setIfInBounds x.snd x.fst) (#[.int .i64 0, .int .i64 0, .int .i64 0, .int .i64 0, .int .i64 0, .int .i64 0, .int .i64 0, .int .i64 0] : Array Value) (arN p).zipIdx 0 (arN p).size = arN p := by
  match p, hp with
  | [a, b, c, d, e, f, g, h], _ => simp [arN]
theorem fold_arN8 {p : List Nat} (hp : p.length = 8) : Array.foldl (fun cs x => cs.setIfInBounds x.snd x.fst) (#[.int .i64 0, .int .i64 0, .int .i64 0, .int .i64 0, .int .i64 0, .int .i64 0, .int .i64 0, .int .i64 0] : Array Value) (arN p).zipIdx 0 8 = arN p := by
  match p, hp with
  | [a, b, c, d, e, f, g, h], _ => simp [arN]
theorem setRow_grown (w : World) (g : Nat) (cs : Array Value) : w.grownBy (w.setRow g cs) (some g) := ⟨rfl, rfl, rfl, by simp, fun k _ hn => setRow_other _ _ _ _ (fun e => hn (by rw [e]))⟩
theorem own_far {v : Value} {g : Nat} (h : ∀ q, v.ownBlock = some q → q ≠ g ∧ q ≠ g + 1) : v.ownBlock = none ∨ v.ownBlock ≠ some g := .inr fun e => (h g e).1 rfl
def JP (n W B : Nat) (w : World) (f : Nat) (a : Act) (wr : World) : Prop :=
  ∃ (g : Nat) (p : List Nat) (rest acc : List (List Nat)) (v : Value) (u9 u10 u11 u12 u13 u14 u15 u16 u17 u18 u19 u20 u21 u22 u23 u24 u25 u26 u27 u28 u29 u30 u31 u32 : Value), a = { tmps := #[.int .i64 (n : Int), .int .i64 (W : Int), undef, undef, .slice none 0 0, .pointer (some ⟨g, 0, none⟩), .pointer (some ⟨g + 1, 0, none⟩), .bool true, v, u9, u10, u11, u12, u13, u14, u15, u16, u17, u18, u19, u20, u21, u22, u23, u24, u25, u26, u27, u28, u29, u30, u31, u32], defers := [] } ∧ B ≤ g ∧
    wr.heap[g]? = some (.cells (arN p) 62 (0, 0)) ∧ wr.heap[g + 1]? = some (.cells (arN (laP n W)) 62 (0, 0)) ∧ p.length = 8 ∧ opR n (laP n W) f p = some rest ∧
    (acc ++ rest).map (fun p => cl (p.take n)) = rlA n W ∧ OwnP wr B v acc ∧ (∀ q, v.ownBlock = some q → q ≠ g ∧ q ≠ g + 1) ∧ Below B w wr ∧ acc.length + f ≤ 1100
set_option maxRecDepth 100000 in
set_option maxHeartbeats 3200000 in
theorem openPatterns_c (w : World) (n W : Nat) (h1 : 1 ≤ n) (h6 : n ≤ 6) (hW : W ≤ 30) :
    Calls Try.prog 73 #[.int .i64 (n : Int), .int .i64 (W : Int)] w fun en w' => (∃ v r, en = .returned v ∧ OwnP w' w.heap.size v r ∧ r.map (fun p => cl (p.take n)) = rlA n W ∧ r.length ≤ 1100) ∧ Below w.heap.size w w' := by
  have Hout := Lib.hid (outermost_c w n W h1 h6 hW)
  have Hs8 := Lib.hid size_oP
  cases hg : goodW n W with
  | false =>
    rw [hg] at Hout
    have Hnone := Lib.hid (op_none h1 h6 hW hg)
    go_enter Try.func73, Try.ntmps73
    go_wp2
    refine wp_scope_fuel 0 0 (fun _ _ _ => False) rfl (fun _ _ _ _ h => h.elim) ?_
    intro h
    go_wp2_with fail
    refine Hout.out.mono ?_
    rintro e w1 ⟨rfl, b1⟩
    obtain ⟨c1, hc1⟩ : ∃ c, arF (fiF n W) = c := ⟨_, rfl⟩
    obtain ⟨c2, hc2⟩ : ∃ c, arF (laF n W) = c := ⟨_, rfl⟩
    have Hc1 : Hid (c1.size = 8 ∧ c1.all (·.oneCell') = true) := by rw [← hc1]; exact ⟨arF_size _, arF_one _⟩
    have Hc2 : Hid (c2.size = 8 ∧ c2.all (·.oneCell') = true) := by rw [← hc2]; exact ⟨arF_size _, arF_one _⟩
    rw [hc1, hc2]
    clear hc1 hc2
    have r0 := Lib.hid (heap_alloc2_old w1 (.cells #[.int .i64 0, .int .i64 0, .int .i64 0, .int .i64 0, .int .i64 0, .int .i64 0, .int .i64 0, .int .i64 0] 62) (.cells #[.int .i64 0, .int .i64 0, .int .i64 0, .int .i64 0, .int .i64 0, .int .i64 0, .int .i64 0, .int .i64 0] 62))
    have r1 := Lib.hid (heap_alloc2_new w1 (.cells #[.int .i64 0, .int .i64 0, .int .i64 0, .int .i64 0, .int .i64 0, .int .i64 0, .int .i64 0, .int .i64 0] 62) (.cells #[.int .i64 0, .int .i64 0, .int .i64 0, .int .i64 0, .int .i64 0, .int .i64 0, .int .i64 0, .int .i64 0] 62))
    have r2 := Lib.hid ((setRow_other ((w1.alloc (.cells #[.int .i64 0, .int .i64 0, .int .i64 0, .int .i64 0, .int .i64 0, .int .i64 0, .int .i64 0, .int .i64 0] 62)).alloc (.cells #[.int .i64 0, .int .i64 0, .int .i64 0, .int .i64 0, .int .i64 0, .int .i64 0, .int .i64 0, .int .i64 0] 62)) w1.heap.size (w1.heap.size + 1) c1 (by omega)).trans r1.out)
    go_wp2_with (first | (refine wpList_store_row rfl 62 (.tmp 5) (.tmp 13) rfl w1.heap.size c1 rfl rfl _ _ r0.out (Hs8.out.trans (by rw [Hc1.out.1])) Hc1.out.1.symm Hc1.out.2 ?_) | (refine wpList_store_row rfl 62 (.tmp 6) (.tmp 14) rfl (w1.heap.size + 1) c2 rfl rfl _ _ r2.out (Hs8.out.trans (by rw [Hc2.out.1])) Hc2.out.1.symm Hc2.out.2 ?_))
    try simp only [Exit.jump]
    go_ret
    refine ⟨⟨_, [], rfl, OwnP.nil _ _, by rw [Hnone.out]; rfl, Nat.zero_le _⟩, b1.trans ?_⟩
    have hsz := b1.size
    exact ⟨rfl, rfl, rfl, by simp; omega, fun i hi => (setRow_other _ _ _ _ (by omega)).trans ((setRow_other _ _ _ _ (by omega)).trans (((Below.refl w.heap.size w1).alloc b1.size _).alloc (by have := b1.size; simp; omega) _ |>.block i (by omega)))⟩
  | true =>
    rw [hg] at Hout
    obtain ⟨r, hr, hrm⟩ := op_all h1 h6 hW hg
    have Hr := Lib.hid hr
    have Hrm := Lib.hid hrm
    have e1 := Lib.hid (arF_nat (fiP_len n W) (fun i hi => fiF_nat (n := n) (W := W) hi))
    have e2 := Lib.hid (arF_nat (laP_len n W) (fun i hi => laF_nat (n := n) (W := W) h1 hg hi))
    rw [e1.out, e2.out] at Hout
    have Hl1 : Hid ((arN (fiP n W)).size = 8) := by show _ = _; rw [arN_size, fiP_len]
    have Hl2 : Hid ((arN (laP n W)).size = 8) := by show _ = _; rw [arN_size, laP_len]
    clear hr hrm hg
    go_enter Try.func73, Try.ntmps73
    go_wp2
    refine wp_scope_fuel 0 1101 (JP n W w.heap.size w) rfl ?_ ?_
    · rintro f a wr hf ⟨g, p, rest, acc, v, u9, u10, u11, u12, u13, u14, u15, u16, u17, u18, u19, u20, u21, u22, u23, u24, u25, u26, u27, u28, u29, u30, u31, u32, rfl, hBg, hR1, hR2, hp8, hop, hsum, hown, hfar, hbel, hlen⟩
      have HR1 := Lib.hid hR1
      have HR2 := Lib.hid hR2
      have Hop := Lib.hid hop
      have Hsum := Lib.hid hsum
      have Hown := Lib.hid hown
      have Hfar := Lib.hid hfar
      have Hp8 := Lib.hid hp8
      have Hlp : Hid ((arN p).size = 8) := by show _ = _; rw [arN_size]; exact hp8
      clear hR1 hR2 hop hsum hown hfar hp8
      obtain ⟨f, rfl⟩ : ∃ f', f = f' + 1 := by
        cases f with
        | zero => exact absurd Hop.out (by rw [opR]; exact fun h => by cases h)
        | succ f => exact ⟨f, rfl⟩
      obtain ⟨hle, hst⟩ := opR_step Hop.out
      have Hle := Lib.hid hle
      have Hst := Lib.hid hst
      clear hst hle
      have hgw : g + 1 < wr.heap.size := (Array.getElem?_eq_some_iff.1 HR2.out).1
      have Hcll : Hid (n = (cl (p.take n)).length) := by show _ = _; rw [cl_len, List.length_take]; have := Hp8.out; omega
      have HI : Hid (Il wr (some ⟨g, 0, none⟩) (cl (p.take n))) := by
        intro hp
        refine ⟨g, 0, rfl, by omega, fun j hj => ?_⟩
        rw [← Hcll.out] at hj
        have hj8 : j < p.length := by have := Hp8.out; omega
        rw [Nat.zero_add, cell_of_row wr g j _ _ _ HR1.out, arN_get hj8, ivN_get]
        simp [ivL, cl, List.getD_eq_getElem?_getD, List.getElem?_take, hj, hj8]
      have Hx : Hid (∀ k, k < (cl (p.take n)).length → 0 ≤ ivL (cl (p.take n)) k ∧ ivL (cl (p.take n)) k ≤ 1000000) := by
        intro k hk
        have hk2 : k < (p.take n).length := by rwa [cl_len] at hk
        have h60 := leN_at Hle.out ((p.take n)[k]) (List.mem_of_mem_take (List.getElem_mem hk2))
        have e : ivL (cl (p.take n)) k = ((p.take n)[k] : Int) := by
          rw [ivL, cl, List.getD_eq_getElem?_getD, List.getElem?_map, List.getElem?_eq_getElem hk2]
          rfl
        rw [e]
        omega
      have hn8 : (n : Int) ≤ 8 := by omega
      cases hcn : clN (p.take n) with
      | true =>
        have HclN := Lib.hid hcn
        have hco : Hid ((clX (cl (p.take n)) 0 == 0) = false) := by
          show _ = _
          refine beq_eq_false_iff_ne.2 fun h => ?_
          rw [(clN_iff (by rw [List.length_take]; omega)).1 h] at hcn
          cases hcn
        clear hcn
        rcases Hst.out with ⟨he, hre⟩ | ⟨he, h2n, hkn, r2, hop2, hre⟩
        · have hdec : decide (p = laP n W) = true := decide_eq_true he
          have Hfin : Hid ((acc).map (fun p => cl (p.take n)) = rlA n W) := by show _ = _; rw [← Hsum.out, hre, HclN.out]; simp
          clear hre he
          go_wp2_with (first | (go_at_call 68; refine (implisOpen_c _ _ _ _ (cl (p.take n)) HI.out Hcll.out (by omega) Hx.out).mono ?_; rw [hco.out]; rintro e w2 ⟨rfl, b2⟩; have RX1 := Lib.hid ((b2.block g (by omega)).trans HR1.out); have RX2 := Lib.hid ((b2.block (g + 1) hgw).trans HR2.out); have OX := Lib.hid (OwnP.below Hown.out b2); have BX := hbel.trans (b2.mono hbel.size); have sX := Nat.le_trans hgw b2.size; have sB := BX.size) | (refine wpList_load_row rfl 62 (.tmp 5) rfl (g) rfl _ _ _ _ RX1.out Try.underlying62 rfl (Hs8.out.trans (by rw [Hlp.out])) ?_) | (refine wpList_load_row rfl 62 (.tmp 6) rfl (g + 1) rfl _ _ _ _ RX2.out Try.underlying62 rfl (Hs8.out.trans (by rw [Hl2.out])) ?_) | (refine wpList_eq_arN rfl (.tmp 25) (.tmp 26) _ rfl p (laP n W) rfl rfl Hp8.out (laP_len n W) ?_; rw [hdec]) | fail)
          try simp only [Exit.jump]
          go_ret
          exact ⟨⟨_, _, rfl, OX.out, Hfin.out, by omega⟩, BX⟩
        · have hdec : decide (p = laP n W) = false := decide_eq_false he
          have Hsum2 : Hid ((acc ++ r2).map (fun p => cl (p.take n)) = rlA n W) := by show _ = _; rw [← Hsum.out, hre, HclN.out]; rfl
          have Hkn := Lib.hid hkn
          have Hop2 := Lib.hid hop2
          have Hln : Hid ((arN (nxF n p (laP n W))).size = 8) := by show _ = _; rw [arN_size, nxF_len]; exact Hp8.out
          clear hre he hkn hop2
          go_wp2_with (first | (go_at_call 68; refine (implisOpen_c _ _ _ _ (cl (p.take n)) HI.out Hcll.out (by omega) Hx.out).mono ?_; rw [hco.out]; rintro e w2 ⟨rfl, b2⟩; have RX1 := Lib.hid ((b2.block g (by omega)).trans HR1.out); have RX2 := Lib.hid ((b2.block (g + 1) hgw).trans HR2.out); have OX := Lib.hid (OwnP.below Hown.out b2); have BX := hbel.trans (b2.mono hbel.size); have sX := Nat.le_trans hgw b2.size; have sB := BX.size) | (refine wpList_load_row rfl 62 (.tmp 5) rfl (g) rfl _ _ _ _ RX1.out Try.underlying62 rfl (Hs8.out.trans (by rw [Hlp.out])) ?_) | (refine wpList_load_row rfl 62 (.tmp 6) rfl (g + 1) rfl _ _ _ _ RX2.out Try.underlying62 rfl (Hs8.out.trans (by rw [Hl2.out])) ?_) | (refine wpList_eq_arN rfl (.tmp 25) (.tmp 26) _ rfl p (laP n W) rfl rfl Hp8.out (laP_len n W) ?_; rw [hdec]) | (go_at_call 110; refine (nextPattern_c _ n p (laP n W) h2n h6 Hp8.out (laP_len n W) Hle.out Hkn.out).mono ?_; rintro e w7 ⟨rfl, b7⟩; have hgX := (Array.getElem?_eq_some_iff.1 RX2.out).1; have RY1 := Lib.hid ((b7.block g (by omega)).trans RX1.out); have RY2 := Lib.hid ((b7.block (g + 1) hgX).trans RX2.out); have OY := Lib.hid (OwnP.below OX.out b7); have BY := (BX).trans (b7.mono (BX).size)) | (refine wpList_store_row rfl 62 (.tmp 5) (.tmp 32) rfl g (arN (nxF n p (laP n W))) rfl rfl _ _ RY1.out (Hs8.out.trans (by rw [Hln.out])) (by rw [Hln.out, Hlp.out]) (arN_one _) ?_) | fail)
          go_step3
          refine ⟨rfl, f, by omega, g, nxF n p (laP n W), r2, acc, v, _, _, _, _, _, _, _, _, _, _, _, _, _, _, _, _, _, _, _, _, _, _, _, _, rfl, hBg, setRow_heap _ _ _ _ _ _ RY1.out, (setRow_other _ _ _ _ (by omega)).trans RY2.out, by rw [nxF_len]; exact Hp8.out, Hop2.out, Hsum2.out, ⟨World.ownsRow.kept OY.out.1 (setRow_grown _ _ _) (own_far Hfar.out), OY.out.2⟩, Hfar.out, BY.trans ⟨rfl, rfl, rfl, by simp, fun i hi => setRow_other _ _ _ _ (by omega)⟩, by omega⟩
      | false =>
        have HclN := Lib.hid hcn
        have hco : Hid ((clX (cl (p.take n)) 0 == 0) = true) := by
          show _ = _
          rw [(clN_iff (by rw [List.length_take]; omega)).2 hcn]
          rfl
        have hsz8 : (arN p).size = 8 := Hlp.out
        have Hal : Hid (acc.length ≤ 1048576) := by show _ ≤ _; omega
        clear hcn
        rcases Hst.out with ⟨he, hre⟩ | ⟨he, h2n, hkn, r2, hop2, hre⟩
        · have hdec : decide (p = laP n W) = true := decide_eq_true he
          have Hfin : Hid ((acc ++ [p]).map (fun p => cl (p.take n)) = rlA n W) := by show _ = _; rw [← Hsum.out, hre, HclN.out]; rfl
          clear hre he
          go_wp2_with (first | (go_at_call 68; refine (implisOpen_c _ _ _ _ (cl (p.take n)) HI.out Hcll.out (by omega) Hx.out).mono ?_; rw [hco.out]; rintro e w2 ⟨rfl, b2⟩; have RX1 := Lib.hid ((b2.block g (by omega)).trans HR1.out); have RX2 := Lib.hid ((b2.block (g + 1) hgw).trans HR2.out); have OX := Lib.hid (OwnP.below Hown.out b2); have BX := hbel.trans (b2.mono hbel.size); have sX := Nat.le_trans hgw b2.size; have sB := BX.size) | (at_builtin; refine wp_app_pat w2 rfl _ _ rfl w.heap.size v acc rfl OX.out p Hp8.out _ (fold_arN Hp8.out) rfl Hal.out sB ?_; intro v3 w3 o3 b3 g3 l3; have RZ1 := Lib.hid ((g3.block g (by omega) (fun e => (Hfar.out g e.symm).1 rfl)).trans RX1.out); have RZ2 := Lib.hid ((g3.block (g + 1) sX (fun e => (Hfar.out (g + 1) e.symm).2 rfl)).trans RX2.out); have OZ := Lib.hid o3; have BZ := BX.trans b3; have FZ : Hid (∀ q, v3.ownBlock = some q → q ≠ g ∧ q ≠ g + 1) := (fun q hq => l3.elim (fun e => Hfar.out q (e ▸ hq)) (fun e => (fun h5 => ⟨by omega, by omega⟩) (e q hq))); clear o3 l3) | (at_builtin; refine wp_app_pat w2 rfl _ _ rfl w.heap.size v acc rfl OX.out p Hp8.out _ (fold_arN8 Hp8.out) rfl Hal.out sB ?_; intro v3 w3 o3 b3 g3 l3; have RZ1 := Lib.hid ((g3.block g (by omega) (fun e => (Hfar.out g e.symm).1 rfl)).trans RX1.out); have RZ2 := Lib.hid ((g3.block (g + 1) sX (fun e => (Hfar.out (g + 1) e.symm).2 rfl)).trans RX2.out); have OZ := Lib.hid o3; have BZ := BX.trans b3; have FZ : Hid (∀ q, v3.ownBlock = some q → q ≠ g ∧ q ≠ g + 1) := (fun q hq => l3.elim (fun e => Hfar.out q (e ▸ hq)) (fun e => (fun h5 => ⟨by omega, by omega⟩) (e q hq))); clear o3 l3) | (refine wpList_load_row rfl 62 (.tmp 5) rfl (g) rfl _ _ _ _ RZ1.out Try.underlying62 rfl (Hs8.out.trans (by rw [Hlp.out])) ?_) | (refine wpList_load_row rfl 62 (.tmp 6) rfl (g + 1) rfl _ _ _ _ RZ2.out Try.underlying62 rfl (Hs8.out.trans (by rw [Hl2.out])) ?_) | (refine wpList_load_row rfl 62 (.tmp 5) rfl (g) rfl _ _ _ _ RX1.out Try.underlying62 rfl (Hs8.out.trans (by rw [Hlp.out])) ?_) | (refine wpList_load_row rfl 62 (.tmp 6) rfl (g + 1) rfl _ _ _ _ RX2.out Try.underlying62 rfl (Hs8.out.trans (by rw [Hl2.out])) ?_) | (refine wpList_eq_arN rfl (.tmp 25) (.tmp 26) _ rfl p (laP n W) rfl rfl Hp8.out (laP_len n W) ?_; rw [hdec]) | fail)
          try simp only [Exit.jump]
          go_ret
          exact ⟨⟨_, _, rfl, OZ.out, Hfin.out, by rw [List.length_append, List.length_singleton]; omega⟩, BZ⟩
        · have hdec : decide (p = laP n W) = false := decide_eq_false he
          have Hsum2 : Hid ((acc ++ [p] ++ r2).map (fun p => cl (p.take n)) = rlA n W) := by show _ = _; rw [← Hsum.out, hre, HclN.out]; simp
          have Hkn := Lib.hid hkn
          have Hop2 := Lib.hid hop2
          have Hln : Hid ((arN (nxF n p (laP n W))).size = 8) := by show _ = _; rw [arN_size, nxF_len]; exact Hp8.out
          clear hre he hkn hop2
          go_wp2_with (first | (go_at_call 68; refine (implisOpen_c _ _ _ _ (cl (p.take n)) HI.out Hcll.out (by omega) Hx.out).mono ?_; rw [hco.out]; rintro e w2 ⟨rfl, b2⟩; have RX1 := Lib.hid ((b2.block g (by omega)).trans HR1.out); have RX2 := Lib.hid ((b2.block (g + 1) hgw).trans HR2.out); have OX := Lib.hid (OwnP.below Hown.out b2); have BX := hbel.trans (b2.mono hbel.size); have sX := Nat.le_trans hgw b2.size; have sB := BX.size) | (at_builtin; refine wp_app_pat w2 rfl _ _ rfl w.heap.size v acc rfl OX.out p Hp8.out _ (fold_arN Hp8.out) rfl Hal.out sB ?_; intro v3 w3 o3 b3 g3 l3; have RZ1 := Lib.hid ((g3.block g (by omega) (fun e => (Hfar.out g e.symm).1 rfl)).trans RX1.out); have RZ2 := Lib.hid ((g3.block (g + 1) sX (fun e => (Hfar.out (g + 1) e.symm).2 rfl)).trans RX2.out); have OZ := Lib.hid o3; have BZ := BX.trans b3; have FZ : Hid (∀ q, v3.ownBlock = some q → q ≠ g ∧ q ≠ g + 1) := (fun q hq => l3.elim (fun e => Hfar.out q (e ▸ hq)) (fun e => (fun h5 => ⟨by omega, by omega⟩) (e q hq))); clear o3 l3) | (at_builtin; refine wp_app_pat w2 rfl _ _ rfl w.heap.size v acc rfl OX.out p Hp8.out _ (fold_arN8 Hp8.out) rfl Hal.out sB ?_; intro v3 w3 o3 b3 g3 l3; have RZ1 := Lib.hid ((g3.block g (by omega) (fun e => (Hfar.out g e.symm).1 rfl)).trans RX1.out); have RZ2 := Lib.hid ((g3.block (g + 1) sX (fun e => (Hfar.out (g + 1) e.symm).2 rfl)).trans RX2.out); have OZ := Lib.hid o3; have BZ := BX.trans b3; have FZ : Hid (∀ q, v3.ownBlock = some q → q ≠ g ∧ q ≠ g + 1) := (fun q hq => l3.elim (fun e => Hfar.out q (e ▸ hq)) (fun e => (fun h5 => ⟨by omega, by omega⟩) (e q hq))); clear o3 l3) | (refine wpList_load_row rfl 62 (.tmp 5) rfl (g) rfl _ _ _ _ RZ1.out Try.underlying62 rfl (Hs8.out.trans (by rw [Hlp.out])) ?_) | (refine wpList_load_row rfl 62 (.tmp 6) rfl (g + 1) rfl _ _ _ _ RZ2.out Try.underlying62 rfl (Hs8.out.trans (by rw [Hl2.out])) ?_) | (refine wpList_load_row rfl 62 (.tmp 5) rfl (g) rfl _ _ _ _ RX1.out Try.underlying62 rfl (Hs8.out.trans (by rw [Hlp.out])) ?_) | (refine wpList_load_row rfl 62 (.tmp 6) rfl (g + 1) rfl _ _ _ _ RX2.out Try.underlying62 rfl (Hs8.out.trans (by rw [Hl2.out])) ?_) | (refine wpList_eq_arN rfl (.tmp 25) (.tmp 26) _ rfl p (laP n W) rfl rfl Hp8.out (laP_len n W) ?_; rw [hdec]) | (go_at_call 110; refine (nextPattern_c _ n p (laP n W) h2n h6 Hp8.out (laP_len n W) Hle.out Hkn.out).mono ?_; rintro e w7 ⟨rfl, b7⟩; have hgX := (Array.getElem?_eq_some_iff.1 RZ2.out).1; have RY1 := Lib.hid ((b7.block g (by omega)).trans RZ1.out); have RY2 := Lib.hid ((b7.block (g + 1) hgX).trans RZ2.out); have OY := Lib.hid (OwnP.below OZ.out b7); have BY := (BZ).trans (b7.mono (BZ).size)) | (refine wpList_store_row rfl 62 (.tmp 5) (.tmp 32) rfl g (arN (nxF n p (laP n W))) rfl rfl _ _ RY1.out (Hs8.out.trans (by rw [Hln.out])) (by rw [Hln.out, Hlp.out]) (arN_one _) ?_) | fail)
          go_step3
          refine ⟨rfl, f, by omega, g, nxF n p (laP n W), r2, acc ++ [p], v3, _, _, _, _, _, _, _, _, _, _, _, _, _, _, _, _, _, _, _, _, _, _, _, _, rfl, hBg, setRow_heap _ _ _ _ _ _ RY1.out, (setRow_other _ _ _ _ (by omega)).trans RY2.out, by rw [nxF_len]; exact Hp8.out, Hop2.out, Hsum2.out, ⟨World.ownsRow.kept OY.out.1 (setRow_grown _ _ _) (own_far FZ.out), OY.out.2⟩, FZ.out, BY.trans ⟨rfl, rfl, rfl, by simp, fun i hi => setRow_other _ _ _ _ (by omega)⟩, by rw [List.length_append, List.length_singleton]; omega⟩
    · intro h
      go_wp2_with fail
      refine Hout.out.mono ?_
      rintro e w1 ⟨rfl, b1⟩
      have r0 := Lib.hid (heap_alloc2_old w1 (.cells #[.int .i64 0, .int .i64 0, .int .i64 0, .int .i64 0, .int .i64 0, .int .i64 0, .int .i64 0, .int .i64 0] 62) (.cells #[.int .i64 0, .int .i64 0, .int .i64 0, .int .i64 0, .int .i64 0, .int .i64 0, .int .i64 0, .int .i64 0] 62))
      have r1 := Lib.hid (heap_alloc2_new w1 (.cells #[.int .i64 0, .int .i64 0, .int .i64 0, .int .i64 0, .int .i64 0, .int .i64 0, .int .i64 0, .int .i64 0] 62) (.cells #[.int .i64 0, .int .i64 0, .int .i64 0, .int .i64 0, .int .i64 0, .int .i64 0, .int .i64 0, .int .i64 0] 62))
      have r2 := Lib.hid ((setRow_other ((w1.alloc (.cells #[.int .i64 0, .int .i64 0, .int .i64 0, .int .i64 0, .int .i64 0, .int .i64 0, .int .i64 0, .int .i64 0] 62)).alloc (.cells #[.int .i64 0, .int .i64 0, .int .i64 0, .int .i64 0, .int .i64 0, .int .i64 0, .int .i64 0, .int .i64 0] 62)) w1.heap.size (w1.heap.size + 1) (arN (fiP n W)) (by omega)).trans r1.out)
      go_wp2_with (first | (refine wpList_store_row rfl 62 (.tmp 5) (.tmp 13) rfl w1.heap.size (arN (fiP n W)) rfl rfl _ _ r0.out (Hs8.out.trans (by rw [Hl1.out])) Hl1.out.symm (arN_one _) ?_) | (refine wpList_store_row rfl 62 (.tmp 6) (.tmp 14) rfl (w1.heap.size + 1) (arN (laP n W)) rfl rfl _ _ r2.out (Hs8.out.trans (by rw [Hl2.out])) Hl2.out.symm (arN_one _) ?_))
      go_step3
      rename_i hK
      have hsz := b1.size
      refine hK _ _ (h 1100 _ _ (by omega) ⟨w1.heap.size, fiP n W, r, [], .slice none 0 0, _, _, _, _, _, _, _, _, _, _, _, _, _, _, _, _, _, _, _, _, _, _, _, _, rfl, hsz, ?_, setRow_heap _ _ _ _ _ _ r2.out, fiP_len n W, Hr.out, Hrm.out, OwnP.nil _ _, fun q hq => (by cases hq), ?_, by simp⟩)
      · exact (setRow_other _ _ _ _ (by omega)).trans (setRow_heap _ _ _ _ _ _ r0.out)
      · refine b1.trans ?_
        exact ⟨rfl, rfl, rfl, by simp; omega, fun i hi => (setRow_other _ _ _ _ (by omega)).trans ((setRow_other _ _ _ _ (by omega)).trans (((Below.refl w.heap.size w1).alloc b1.size _).alloc (by have := b1.size; simp; omega) _ |>.block i (by omega)))⟩

end Go.Proofs.Ytgnmookklplnmaa
