import Derived.Test.YtgkciiklgadgkaaQ7
import Derived.Test.YtgkciiklgadgkaaM1
import Derived.Laws.Rows
import Derived.Deep.RegionHeld3
import Derived.Deep.RegionLaw
namespace Go.Proofs.Ytgkciiklgadgkaa
open Go.RowKit
set_option linter.unusedVariables false
set_option linter.unusedSimpArgs false

/-- Of each remainder from x on of the prime p, f of them: what g tells. -/
def cvX (g : List (Int × Int) → List (List (Int × Int))) (bs : List (Int × Int)) (p : Int) : Nat → Nat → List (List (Int × Int))
  | 0, _ => []
  | f + 1, x => g (bs ++ [(p, (x : Int))]) ++ cvX g bs p f (x + 1)
/-- The covers of 1 to n with the beginning bs and l more primes. -/
def cvN (xs : List Int) (n : Nat) : Nat → List (Int × Int) → List (List (Int × Int))
  | 0, bs => if covB bs n = true then [bs] else []
  | l + 1, bs => cvX (cvN xs n l) bs (ivL xs bs.length) (ivL xs bs.length).toNat 0
theorem cvX_len {g : List (Int × Int) → List (List (Int × Int))} {M : Nat} (h : ∀ bs, (g bs).length ≤ M) (bs : List (Int × Int)) (p : Int) : ∀ f x, (cvX g bs p f x).length ≤ f * M
  | 0, _ => by simp [cvX]
  | f + 1, x => by
    have h1 := cvX_len h bs p f (x + 1)
    have h2 := h (bs ++ [(p, (x : Int))])
    rw [cvX, List.length_append, Nat.succ_mul]
    omega
theorem cvN_len {xs : List Int} (hx : ∀ i, ivL xs i ≤ 13) (n : Nat) : ∀ l bs, (cvN xs n l bs).length ≤ 13 ^ l
  | 0, bs => by rw [cvN]; split <;> simp
  | l + 1, bs => by
    have h1 := cvX_len (cvN_len hx n l) bs (ivL xs bs.length) (ivL xs bs.length).toNat 0
    have h2 : (ivL xs bs.length).toNat ≤ 13 := by have := hx bs.length; omega
    have h3 := Nat.mul_le_mul h2 (Nat.le_refl (13 ^ l))
    have h4 : 13 ^ (l + 1) = 13 * 13 ^ l := by rw [Nat.pow_succ, Nat.mul_comm]
    rw [cvN]
    omega
def hdR (ps : List (List (Int × Int))) : List (Int × Int) := ps.headD []

/-- What was there is as it was, but for the cells o and o + 1. -/
structure Kept3 (w w' : World) (o : Nat) : Prop where
  os : w'.os = w.os
  tape : w'.tape = w.tape
  output : w'.output = w.output
  size : w.heap.size ≤ w'.heap.size
  block : ∀ k, k < w.heap.size → k ≠ o → k ≠ o + 1 → w'.heap[k]? = w.heap[k]?
theorem Kept3.of_below {w w' : World} {o : Nat} (h : Below w.heap.size w w') : Kept3 w w' o := ⟨h.os, h.tape, h.output, h.size, fun k hk _ _ => h.block k hk⟩
theorem Kept3.trans {a b c : World} {o : Nat} (h : Kept3 a b o) (k : Kept3 b c o) : Kept3 a c o :=
  ⟨k.os.trans h.os, k.tape.trans h.tape, k.output.trans h.output, Nat.le_trans h.size k.size, fun i hi h1 h2 => (k.block i (Nat.lt_of_lt_of_le hi h.size) h1 h2).trans (h.block i hi h1 h2)⟩
theorem Kept3.set {w : World} {o i : Nat} (v : Value) (h : i = o ∨ i = o + 1) : Kept3 w (w.setCell ⟨i, 0, none⟩ v) o :=
  ⟨rfl, rfl, rfl, by simp, fun k hk h1 h2 => heap_setCell_other w ⟨i, 0, none⟩ k v (by rcases h with rfl | rfl <;> assumption)⟩
theorem Kept3.cell {w w' : World} {o : Nat} (h : Kept3 w w' o) {b off : Nat} (hb : b < w.heap.size) (h1 : b ≠ o) (h2 : b ≠ o + 1) : w'.cell? ⟨b, off, none⟩ = w.cell? ⟨b, off, none⟩ :=
  World.cell?_of_block (a := ⟨b, off, none⟩) (h.block b hb h1 h2)
/-- An address that lies not in o and o + 1. -/
def offO (A : Option Addr) (o : Nat) : Prop := ∀ b off, A = some ⟨b, off, none⟩ → b ≠ o ∧ b ≠ o + 1
theorem Kept3.rl {w w' : World} {o : Nat} (h : Kept3 w w' o) {A : Option Addr} {rs : List (Int × Int)} (hA : Rl w A rs) (ho : offO A o) : Rl w' A rs := fun hp => by
  obtain ⟨b, off, e, hb, hr⟩ := hA hp
  obtain ⟨h1, h2⟩ := ho b off e
  exact ⟨b, off, e, Nat.lt_of_lt_of_le hb h.size, fun k hk => ⟨(h.cell hb h1 h2).trans (hr k hk).1, (h.cell hb h1 h2).trans (hr k hk).2⟩⟩
theorem Kept3.il {w w' : World} {o : Nat} (h : Kept3 w w' o) {A : Option Addr} {xs : List Int} (hA : Il w A xs) (ho : offO A o) : Il w' A xs := fun hp => by
  obtain ⟨b, off, e, hb, hr⟩ := hA hp
  obtain ⟨h1, h2⟩ := ho b off e
  exact ⟨b, off, e, Nat.lt_of_lt_of_le hb h.size, fun k hk => (h.cell hb h1 h2).trans (hr k hk)⟩

/-- What lies in o and o + 1: how many covers there are, and the first of them. -/
structure At3 (w : World) (o : Nat) (v : Value) (ps : List (List (Int × Int))) : Prop where
  count : w.heap[o]? = some (.cells #[.int .i64 (ps.length : Int)] 3 (0, 0))
  first : w.heap[o + 1]? = some (.cells #[v] 28 (0, 0))
  own : OwnR w (o + 2) v (hdR ps)
theorem At3.below {w w' : World} {o : Nat} {v : Value} {ps : List (List (Int × Int))} (h : At3 w o v ps) (b : Below w.heap.size w w') : At3 w' o v ps :=
  ⟨(b.block o (Array.getElem?_eq_some_iff.1 h.count).1).trans h.count, (b.block _ (Array.getElem?_eq_some_iff.1 h.first).1).trans h.first, OwnR.below h.own b⟩
theorem At3.more {w : World} {o : Nat} {v : Value} {ps : List (List (Int × Int))} (h : At3 w o v ps) (hp : ps ≠ []) (r : List (Int × Int)) : At3 (w.setCell ⟨o, 0, none⟩ (.int .i64 ((ps.length : Int) + 1))) o v (ps ++ [r]) := by
  refine ⟨?_, ?_, ?_⟩
  · have := heap_setCell_same w o 0 _ _ (.int .i64 ((ps.length : Int) + 1)) h.count
    rw [this, List.length_append]
    rfl
  · exact (heap_setCell_other w ⟨o, 0, none⟩ (o + 1) _ (by simp)).trans h.first
  · have e : hdR (ps ++ [r]) = hdR ps := by
      cases ps with
      | nil => exact absurd rfl hp
      | cons a t => rfl
    rw [e]
    exact ownsRow_setCell_below h.own (a := ⟨o, 0, none⟩) (by simp) _
theorem At3.one {w w5 : World} {o : Nat} {v v5 : Value} {r : List (Int × Int)} (h : At3 w o v []) (b : Below w.heap.size w w5) (h5 : OwnR w5 (o + 2) v5 r) : At3 ((w5.setCell ⟨o + 1, 0, none⟩ v5).setCell ⟨o, 0, none⟩ (.int .i64 1)) o v5 [r] := by
  have H := h.below b
  have c1 := heap_setCell_same w5 (o + 1) 0 _ _ v5 H.first
  have c0 := (heap_setCell_other w5 ⟨o + 1, 0, none⟩ o v5 (by simp)).trans H.count
  refine ⟨?_, ?_, ?_⟩
  · exact heap_setCell_same _ o 0 _ _ _ c0
  · exact (heap_setCell_other _ ⟨o, 0, none⟩ (o + 1) _ (by simp)).trans c1
  · exact ownsRow_setCell_below (ownsRow_setCell_below h5 (a := ⟨o + 1, 0, none⟩) (by simp) _) (a := ⟨o, 0, none⟩) (by simp) _

/-- What gpLook asks and leaves. -/
def LookOk3 (xs : List Int) (P : Option Addr) (cp M o l : Nat) : Prop := ∀ (w : World) (A : Option Addr) (c : Nat) (bs : List (Int × Int)) (v : Value) (ps T : List (List (Int × Int))), Il w P xs → (0 < xs.length → offO P o) → Rl w A bs → offO A o →
    bs.length + l = xs.length → goodL bs = true → At3 w o v ps → ps ++ cvN xs M l bs = T → T.length ≤ 1048576 →
    Calls Try.prog 48 #[.slice P xs.length cp, .slice A bs.length c, .int .i64 (M : Int), .pointer (some ⟨o, 0, none⟩), .pointer (some ⟨o + 1, 0, none⟩)] w fun en w' => en = .returned (.tuple #[]) ∧ ∃ v', At3 w' o v' T ∧ Kept3 w w' o

set_option maxRecDepth 100000 in
set_option maxHeartbeats 1600000 in
theorem gpLook_0 (xs : List Int) (P : Option Addr) (cp M o : Nat) (hM : M ≤ 40) : LookOk3 xs P cp M o 0 := by
  intro w A c bs v ps T hP hPo hA hAo hlen hg h3 hT hTl
  obtain ⟨m, hm⟩ : ∃ m, bs.length = m := ⟨_, rfl⟩
  have hm2 : xs.length = m := by omega
  have hgl := good_len hg
  rw [hm, hm2]
  have Hm := Lib.hid hm.symm
  have Hg := Lib.hid hg
  have Hc := gpCovers_c w A m c bs hA Hm.out hg M (by omega)
  have ho2 : o + 1 < w.heap.size := (Array.getElem?_eq_some_iff.1 h3.first).1
  have hm9 : m ≤ 12 := by omega
  rw [cvN] at hT
  cases hcov : covB bs M with
  | false =>
    rw [hcov] at Hc hT
    have HC := Lib.hid Hc
    have HT : Hid (ps = T) := by show _ = _; rw [← hT]; simp
    have H3 := Lib.hid h3
    clear hT Hc hm hm2 hlen hcov hg hgl h3
    go_enter Try.func48, Try.ntmps48
    go_wp2_with fail
    refine HC.out.mono ?_
    rintro e w2 ⟨rfl, b2⟩
    go_wp2
    try simp only [Exit.inBlock, Exit.then]
    refine bodyPost_ret (results_none rfl _ _ _) rfl ?_
    exact ⟨rfl, v, by rw [← HT.out]; exact H3.out.below b2, Kept3.of_below b2⟩
  | true =>
    rw [hcov] at Hc hT
    have HC := Lib.hid Hc
    have HT : Hid (ps ++ [bs] = T) := by show _ = _; rw [← hT]; simp
    have H3 := Lib.hid h3
    have hpl : ps.length ≤ 1048576 := by rw [← HT.out, List.length_append] at hTl; omega
    clear hT Hc hm hm2 hlen hcov hg hgl h3
    obtain ⟨C, hC⟩ : ∃ C : Int, (ps.length : Int) = C := ⟨_, rfl⟩
    by_cases hps : ps = []
    · have hC0 : C = 0 := by rw [← hC, hps]; rfl
      subst hC0
      subst hps
      clear hC
      go_enter Try.func48, Try.ntmps48
      go_wp2_with fail
      refine HC.out.mono ?_
      rintro e w2 ⟨rfl, b2⟩
      have H2 := Lib.hid (H3.out.below b2)
      have hs2 := b2.size
      have hA2 := hA.below b2
      have c0 : w2.cell? ⟨o, 0, none⟩ = some (.int .i64 0) := cell_of_row w2 o 0 _ _ _ H2.out.count
      have f0 : w2.frozen? ⟨o, 0, none⟩ = false := frozen_of_row w2 o 0 _ _ H2.out.count
      have hA3 := Lib.hid (hA2.below ((Below.refl w2.heap.size w2).alloc (Nat.le_refl _) (.cells #[] 38)))
      go_wp2_with (at_builtin; refine wp_app_rules _ rfl _ _ rfl w2.heap.size _ [] rfl (own_empty0 _) _ _ _ bs rfl hA3.out Hm.out (by have := Hm.out; simp; omega) (by simp) ?_; intro v5 w5 o5 b5; rw [List.nil_append] at o5; obtain ⟨A5, n5, q5, rfl, rfl, _⟩ := o5.form; have h5 := ((Below.refl w2.heap.size w2).alloc (Nat.le_refl _) (.cells #[] 38)).trans b5; have H5 := Lib.hid (H2.out.below h5); have c5 : w5.cell? ⟨o + 1, 0, none⟩ = some v := cell_of_row w5 (o + 1) 0 _ _ _ H5.out.first; have f5 : w5.frozen? ⟨o + 1, 0, none⟩ = false := frozen_of_row w5 (o + 1) 0 _ _ H5.out.first; have d5 : w5.cell? ⟨o, 0, none⟩ = some (.int .i64 0) := cell_of_row w5 o 0 _ _ _ H5.out.count; have g5 : w5.frozen? ⟨o, 0, none⟩ = false := frozen_of_row w5 o 0 _ _ H5.out.count)
      try simp only [Exit.inBlock, Exit.then]
      refine bodyPost_ret (results_none rfl _ _ _) rfl ?_
      exact ⟨rfl, _, by rw [← HT.out]; exact H2.out.one h5 (OwnR.mono o5 (by omega)), ((Kept3.of_below (b2.trans (h5.mono hs2))).trans (Kept3.set _ (.inr rfl))).trans (Kept3.set _ (.inl rfl))⟩
    · have hC1 : 1 ≤ C := by
        have := List.length_pos_iff.2 hps
        omega
      have hC9 : C ≤ 1048576 := by omega
      have hCz : (C == 0) = false := beq_eq_false_iff_ne.2 (by omega)
      have hw : IntKind.i64.wrap (C + 1) = C + 1 := IntWalk.i64_in _ (by omega)
      have HCe := Lib.hid hC
      have Hps := Lib.hid hps
      clear hps hC
      go_enter Try.func48, Try.ntmps48
      go_wp2_with fail
      refine HC.out.mono ?_
      rintro e w2 ⟨rfl, b2⟩
      have H2 := Lib.hid (H3.out.below b2)
      have c0 : w2.cell? ⟨o, 0, none⟩ = some (.int .i64 C) := by rw [← HCe.out]; exact cell_of_row w2 o 0 _ _ _ H2.out.count
      have f0 : w2.frozen? ⟨o, 0, none⟩ = false := frozen_of_row w2 o 0 _ _ H2.out.count
      go_wp2
      try simp only [Exit.inBlock, Exit.then]
      refine bodyPost_ret (results_none rfl _ _ _) rfl ?_
      have H9 := H2.out.more Hps.out bs
      rw [HCe.out, HT.out] at H9
      exact ⟨rfl, v, H9, (Kept3.of_below b2).trans (Kept3.set _ (.inl rfl))⟩
open Go.RowKit
set_option linter.unusedVariables false
set_option linter.unusedSimpArgs false

theorem good_more {bs : List (Int × Int)} {p x : Int} (h : goodL bs = true) (hl : bs.length ≤ 11) (hp : 2 ≤ p ∧ p ≤ 60) (hx : 0 ≤ x ∧ x < p) : goodL (bs ++ [(p, x)]) = true := by
  refine goodL_true (by rw [List.length_append, List.length_singleton]; omega) fun k hk => ?_
  rw [List.length_append, List.length_singleton] at hk
  by_cases hkl : k < bs.length
  · have h2 : okAt bs k = true := by
      simp only [goodL, Bool.and_eq_true, decide_eq_true_eq] at h
      exact h.2 k hkl
    rw [okAt] at h2 ⊢
    rwa [show evL (bs ++ [(p, x)]) k = evL bs k by simp [evL, List.getElem?_append, hkl], show reL (bs ++ [(p, x)]) k = reL bs k by simp [reL, List.getElem?_append, hkl]]
  · have e : k = bs.length := by omega
    subst e
    rw [okAt, show evL (bs ++ [(p, x)]) bs.length = p by simp [evL], show reL (bs ++ [(p, x)]) bs.length = x by simp [reL], okR_true]
    omega
/-- append(v, rs...) at a step of a region that draws its order; rs may be nil. -/
theorem step_app_rulesO {ops : Array Oper} {o : Oper} {a : Act} {K : Act → World → Prop} {Q : Exit → Act → World → Prop} {E : Prop} (w : World) (hgd : o.guard = none) (s x : Operand)
    (ho : o.op = .call { callee := .builtin .append, args := #[s, x], argTypes := #[28, 28] }) (B : Nat) (v : Value) (rs : List (Int × Int)) (hs : a.eval s = v) (hown : OwnR w B v rs) (A : Option Addr) (m c : Nat) (ss : List (Int × Int))
    (hx : a.eval x = .slice A m c) (hA : Rl w A ss) (hm : m = ss.length) (hl : rs.length + ss.length ≤ 1048576) (hB : B ≤ w.heap.size)
    (h : ∀ v' w', OwnR w' B v' (rs ++ ss) → w.grownBy w' v.ownBlock → K (a.put o.dst v') w') :
    if Region.wanted o (yielded ops a.tmps) = true then Oper.wp Try.prog o a w K Q else E := by
  subst hm
  cases A with
  | none =>
    have hs0 : ss = [] := by
      by_cases h0 : 0 < ss.length
      · obtain ⟨b, off, e, _⟩ := hA h0
        cases e
      · exact List.eq_nil_of_length_eq_zero (by omega)
    subst hs0
    have hw : Region.wanted o (yielded ops a.tmps) = true := by simp [Region.wanted, hgd]
    rw [if_pos hw]
    have hrun := run_app_noneR w o.type B v rs c hown
    unfold Oper.wp
    simp [execOp, ho, resolve, invoke, builtin, hs, hx, hrun, Result.andThen]
    exact h v w (by simpa using hown) ⟨rfl, rfl, rfl, Nat.le_refl _, fun _ _ _ => rfl⟩
  | some ad =>
    refine step_app_rules w hgd s x ho B v rs hs hown ad _ c ss hx rfl (fun j u hj => ?_) hl hB h
    have hl : j < (cellsR ss).length := (List.getElem?_eq_some_iff.1 hj).1
    rw [cellsR_length] at hl
    obtain ⟨b, off, e, _, hr⟩ := hA (by omega)
    cases e
    rw [Go.WideShapes.add_plain]
    have := cells_of_rules hr 0 ss.length (j := j) (u := u) (by simpa using hj)
    simpa using this
/-- append(v, r) at a step of a region that draws its order, when it is drawn already. -/
theorem step_app_ruleN {ops : Array Oper} {o : Oper} {a : Act} {K : Act → World → Prop} {Q : Exit → Act → World → Prop} {E : Prop} (w : World) (hgd : o.guard = none) (s x : Operand)
    (ho : o.op = .call { callee := .builtin .append, args := #[s, x], argTypes := #[28, 28] }) (B : Nat) (v : Value) (rs : List (Int × Int)) (hs : a.eval s = v) (hown : OwnR w B v rs) (e q : Int)
    (hx : a.eval x = .slice (some ⟨w.heap.size, 0, none⟩) 1 1) (hl : rs.length ≤ 1048576) (hB : B ≤ w.heap.size)
    (h : ∀ v' w', OwnR w' B v' (rs ++ [(e, q)]) → w.grownBy w' v.ownBlock → K (a.put o.dst v') w') :
    if Region.wanted o (yielded ops a.tmps) = true then Oper.wp Try.prog o a (w.alloc (.cells #[.int .i64 e, .int .i64 q] 38)) K Q else E := by
  obtain ⟨i0, hi, hz0, hz1, hz2⟩ := info_parts info_R
  refine step_append_lies _ hgd s x 28 ho B 38 i0 _ 2 16 Try.underlying28 hi hz0 hz1 hz2 rfl (by decide) v _ _ hs (World.ownsRow.alloc hown _) ⟨w.heap.size, 0, none⟩ 1 1 [.int .i64 e, .int .i64 q] hx rfl ?_ ?_ (by decide) (by unfold maxLen; omega) (by omega) (by simp; omega) _ rfl ?_
  · intro j u hj
    match j, hj with
    | 0, hj => simp at hj; subst hj; simp [Addr.add]
    | 1, hj => simp at hj; subst hj; simp [Addr.add]
    | j + 2, hj => simp at hj
  · intro u hu
    simp at hu
    rcases hu with rfl | rfl <;> rfl
  · intro g cap w' hown' hg _ _
    refine h _ w' ?_ ⟨hg.os, hg.tape, hg.output, Nat.le_trans (by simp) hg.size, fun i hi hn => (hg.block i (by simp; omega) hn).trans (Below.heap_alloc w _ i hi)⟩
    simpa [OwnR, cellsR, List.flatMap_append] using hown'
theorem own_formsR {w : World} {B : Nat} {v : Value} {rs : List (Int × Int)} (h : OwnR w B v rs) (hp : 0 < rs.length) : ∃ g n c, v = .slice (some ⟨g, 0, none⟩) n c ∧ n = rs.length ∧ B ≤ g ∧ g < w.heap.size := by
  rcases h.2 with ⟨e, h0⟩ | ⟨g, cap, cur, e, hB, hg, hle, _⟩
  · omega
  · exact ⟨g, _, cap, e, rfl, hB, (Array.getElem?_eq_some_iff.1 hg).1⟩
theorem Rl_grown {w w' : World} {row : Option Nat} (g : w.grownBy w' row) {A : Option Addr} {rs : List (Int × Int)} (h : Rl w A rs) (hne : ∀ b off, A = some ⟨b, off, none⟩ → row ≠ some b) : Rl w' A rs := fun hp => by
  obtain ⟨b, off, e, hb, hr⟩ := h hp
  exact ⟨b, off, e, Nat.lt_of_lt_of_le hb g.size, fun k hk => ⟨g.cell (hr k hk).1 (fun e2 => hne b off e e2.symm), g.cell (hr k hk).2 (fun e2 => hne b off e e2.symm)⟩⟩
theorem Rl_one {w : World} {g : Nat} {p x : Int} (hg : g < w.heap.size) (h0 : w.cell? ⟨g, 0, none⟩ = some (.int .i64 p)) (h1 : w.cell? ⟨g, 1, none⟩ = some (.int .i64 x)) : Rl w (some ⟨g, 0, none⟩) [(p, x)] := fun _ =>
  ⟨g, 0, rfl, hg, fun k hk => by
    have e : k = 0 := by simp at hk; omega
    subst e
    exact ⟨h0, h1⟩⟩
set_option maxRecDepth 100000 in
set_option maxHeartbeats 1600000 in
theorem gpLook_s (xs : List Int) (P : Option Addr) (cp M o l : Nat) (hM : M ≤ 40) (hx5 : xs.length ≤ 5) (hxs : ∀ i, i < xs.length → 2 ≤ ivL xs i ∧ ivL xs i ≤ 13) (IH : LookOk3 xs P cp M o l) : LookOk3 xs P cp M o (l + 1) := by
  intro w A c bs v ps T hP hPo hA hAo hlen hg h3 hT hTl
  obtain ⟨m, hm⟩ : ∃ m, bs.length = m := ⟨_, rfl⟩
  have hpm := hxs m (by omega)
  obtain ⟨p, hp⟩ : ∃ p : Nat, ivL xs m = (p : Int) := Int.eq_ofNat_of_zero_le (by omega)
  rw [hp] at hpm
  obtain ⟨N, hN⟩ : ∃ N, xs.length = N := ⟨_, rfl⟩
  have hmN : m < N := by omega
  obtain ⟨pb, po, rfl, hpb, hpr⟩ := hP (by omega)
  have hpc := hpr m (by omega)
  rw [hp] at hpc
  have hPo0 := hPo
  have hPo := hPo0 (by omega)
  have hPob := hPo pb po rfl
  have HP := Lib.hid hP
  have Hm := Lib.hid hm.symm
  have HN := Lib.hid hN.symm
  have Hg := Lib.hid hg
  have H3 := Lib.hid h3
  have HT : Hid (ps ++ cvX (cvN xs M l) bs (p : Int) p 0 = T) := by show _ = _; rw [← hT, cvN, hm, hp, Int.toNat_natCast]
  have hne : ((m : Int) == (N : Int)) = false := beq_eq_false_iff_ne.2 (by omega)
  have ho2 : o + 1 < w.heap.size := (Array.getElem?_eq_some_iff.1 h3.first).1
  have Hlen := Lib.hid hlen
  have hmI : (m : Int) < (N : Int) := by omega
  have hm5 : m ≤ 5 := by omega
  rw [hm, hN]
  clear hT h3 hg hpr hP hm hN hp hlen
  go_enter Try.func48, Try.ntmps48
  go_wp2
  go_loopw [11, 12] (fun xv _ wr => ∃ (x : Nat) (vr : Value) (pr : List (List (Int × Int))), xv = .int .i64 (x : Int) ∧ x ≤ p ∧ At3 wr o vr pr ∧ Hid (pr ++ cvX (cvN xs M l) bs (p : Int) (p - x) x = T) ∧ Kept3 w wr o) (fun xv _ _ => p - (intOf xv).toNat)
  case atStart => exact ⟨0, v, ps, rfl, Nat.zero_le _, H3.out, HT, Kept3.of_below (Below.refl _ _)⟩
  case round =>
    obtain ⟨x, vr, pr, rfl, hx9, h3r, HTr, hK⟩ := hrel
    have H3r := Lib.hid h3r
    have HK := Lib.hid hK
    have hsz := hK.size
    have hRr := Lib.hid (hK.rl hA hAo)
    have hIr := Lib.hid (hK.il HP.out hPo)
    have hcr := (hK.cell (off := po + m) hpb hPob.1 hPob.2).trans hpc
    have hor : o + 1 < wr.heap.size := Nat.lt_of_lt_of_le ho2 hsz
    clear h3r hK
    by_cases hlt : x < p
    · have hli : (x : Int) < (p : Int) := by omega
      have Hun : Hid (cvX (cvN xs M l) bs (p : Int) (p - x) x = cvN xs M l (bs ++ [((p : Int), (x : Int))]) ++ cvX (cvN xs M l) bs (p : Int) (p - (x + 1)) (x + 1)) := by
        show _ = _
        rw [show p - x = (p - (x + 1)) + 1 by omega, cvX]
      have B1 := Lib.hid (show Below wr.heap.size wr ((wr.alloc (.cells #[] 38)).drew) from below_drewN ((Below.refl wr.heap.size wr).alloc (Nat.le_refl _) _) 1)
      have B2 := Lib.hid (show Below wr.heap.size wr (((wr.alloc (.cells #[] 38)).alloc (.cells #[.int .i64 (p : Int), .int .i64 (x : Int)] 38)).drew) from below_drewN (((Below.refl wr.heap.size wr).alloc (Nat.le_refl _) _).alloc (by simp) _) 1)
      have B3 := Lib.hid (show Below wr.heap.size wr (((wr.alloc (.cells #[.int .i64 (p : Int), .int .i64 (x : Int)] 38)).alloc (.cells #[] 38)).drew) from below_drewN (((Below.refl wr.heap.size wr).alloc (Nat.le_refl _) _).alloc (by simp) _) 1)
      have hR1 := Lib.hid (hRr.out.below B1.out)
      have hR2 := Lib.hid (hRr.out.below B2.out)
      have hR3 := Lib.hid (hRr.out.below B3.out)
      have O1 := Lib.hid (own_empty wr)
      have O2 := Lib.hid (show OwnR (((wr.alloc (.cells #[] 38)).alloc (.cells #[.int .i64 (p : Int), .int .i64 (x : Int)] 38)).drew) wr.heap.size (.slice (some ⟨wr.heap.size, 0, none⟩) 0 0) [] from World.ownsRow.drew (World.ownsRow.alloc (own_empty0 wr) _))
      have O3 := Lib.hid (show OwnR (((wr.alloc (.cells #[.int .i64 (p : Int), .int .i64 (x : Int)] 38)).alloc (.cells #[] 38)).drew) wr.heap.size (.slice (some ⟨wr.heap.size + 1, 0, none⟩) 0 0) [] from by
        have h := own_empty (wr.alloc (.cells #[.int .i64 (p : Int), .int .i64 (x : Int)] 38))
        rw [World.size_alloc] at h
        exact OwnR.mono h (Nat.le_succ _))
      have P2 := Lib.hid (show Rl (((wr.alloc (.cells #[] 38)).alloc (.cells #[.int .i64 (p : Int), .int .i64 (x : Int)] 38)).drew) (some ⟨wr.heap.size + 1, 0, none⟩) [((p : Int), (x : Int))] from Rl_one (by simp) (by
        have h := heap_alloc_new (wr.alloc (.cells #[] 38)) (.cells #[.int .i64 (p : Int), .int .i64 (x : Int)] 38)
        rw [World.size_alloc] at h
        exact cell_of_row (((wr.alloc (.cells #[] 38)).alloc (.cells #[.int .i64 (p : Int), .int .i64 (x : Int)] 38)).drew) (wr.heap.size + 1) 0 _ _ _ h) (by
        have h := heap_alloc_new (wr.alloc (.cells #[] 38)) (.cells #[.int .i64 (p : Int), .int .i64 (x : Int)] 38)
        rw [World.size_alloc] at h
        exact cell_of_row (((wr.alloc (.cells #[] 38)).alloc (.cells #[.int .i64 (p : Int), .int .i64 (x : Int)] 38)).drew) (wr.heap.size + 1) 1 _ _ _ h))
      have P3 := Lib.hid (show Rl (((wr.alloc (.cells #[.int .i64 (p : Int), .int .i64 (x : Int)] 38)).alloc (.cells #[] 38)).drew) (some ⟨wr.heap.size, 0, none⟩) [((p : Int), (x : Int))] from by
        have h := heap_alloc_new wr (.cells #[.int .i64 (p : Int), .int .i64 (x : Int)] 38)
        have h2 := (((Below.refl (wr.alloc (.cells #[.int .i64 (p : Int), .int .i64 (x : Int)] 38)).heap.size (wr.alloc (.cells #[.int .i64 (p : Int), .int .i64 (x : Int)] 38))).alloc (Nat.le_refl _) (.cells #[] 38)).block wr.heap.size (by simp)).trans h
        exact Rl_one (by simp; omega) (cell_of_row (((wr.alloc (.cells #[.int .i64 (p : Int), .int .i64 (x : Int)] 38)).alloc (.cells #[] 38)).drew) wr.heap.size 0 _ _ _ h2) (cell_of_row (((wr.alloc (.cells #[.int .i64 (p : Int), .int .i64 (x : Int)] 38)).alloc (.cells #[] 38)).drew) wr.heap.size 1 _ _ _ h2))
      have hpbr : pb < wr.heap.size := Nat.lt_of_lt_of_le hpb hsz
      have hbl := Lib.hid (show bs.length ≤ 1048576 by have := Hm.out; omega)
      go_wp2_with fail
      go_region_held3 (fun w' => w'.cell? ⟨pb, po + m, none⟩ = some (.int .i64 (p : Int))) (go_keep) (first | (refine step_app_rulesO _ (by rfl) _ _ (by rfl) wr.heap.size _ [] (by rfl) O1.out _ _ _ bs (by rfl) hR1.out Hm.out (by have := Hm.out; simp; omega) B1.out.size ?_; intro v5 w5 o5 g5; have b5 := B1.out.trans (below_of_grown g5 B1.out.size (by intro q hq; simp [Value.ownBlock] at hq; omega)); have hs5 := b5.size; have q5 := (b5.cell (p := ⟨pb, po + m, none⟩) hpbr).trans hcr; rw [List.nil_append] at o5) | (refine step_app_rulesO _ (by rfl) _ _ (by rfl) wr.heap.size _ [] (by rfl) O2.out _ _ _ bs (by rfl) hR2.out Hm.out (by have := Hm.out; simp; omega) B2.out.size ?_; intro v5 w5 o5 g5; have b5 := B2.out.trans (below_of_grown g5 B2.out.size (by intro q hq; simp [Value.ownBlock] at hq; omega)); have hs5 := b5.size; have q5 := (b5.cell (p := ⟨pb, po + m, none⟩) hpbr).trans hcr; rw [List.nil_append] at o5; have Hp5 := Lib.hid (Rl_grown g5 P2.out (by intro b off e; cases e; simp [Value.ownBlock]))) | (refine step_app_rulesO _ (by rfl) _ _ (by rfl) wr.heap.size _ [] (by rfl) O3.out _ _ _ bs (by rfl) hR3.out Hm.out (by have := Hm.out; simp; omega) B3.out.size ?_; intro v5 w5 o5 g5; have b5 := B3.out.trans (below_of_grown g5 B3.out.size (by intro q hq; simp [Value.ownBlock] at hq; omega)); have hs5 := b5.size; have q5 := (b5.cell (p := ⟨pb, po + m, none⟩) hpbr).trans hcr; rw [List.nil_append] at o5; have Hp5 := Lib.hid (Rl_grown g5 P3.out (by intro b off e; cases e; simp [Value.ownBlock]))) | (refine step_app_ruleN w5 (by rfl) _ _ (by rfl) wr.heap.size v5 bs (by rfl) o5 (p : Int) (x : Int) (by rfl) hbl.out hs5 ?_; intro v6 w6 o6 g6; have q6 := g6.cell q5 (fun e => by have := (World.ownsRow.lt o5 _ e.symm).1; simp at this; omega); have b6 := b5.trans (below_of_grown g6 hs5 fun q hq => (World.ownsRow.lt o5 q hq).1)) | (refine step_app_rulesO _ (by rfl) _ _ (by rfl) wr.heap.size v5 bs (by rfl) o5 _ _ _ [((p : Int), (x : Int))] (by rfl) Hp5.out (by rfl) (by have := Hm.out; simp; omega) hs5 ?_; intro v6 w6 o6 g6; have q6 := g6.cell q5 (fun e => by have := (World.ownsRow.lt o5 _ e.symm).1; simp at this; omega); have b6 := b5.trans (below_of_grown g6 hs5 fun q hq => (World.ownsRow.lt o5 q hq).1)))
      all_goals (
        have hwl : (bs ++ [((p : Int), (x : Int))]).length = m + 1 := by rw [List.length_append, List.length_singleton, ← Hm.out]
        obtain ⟨g, n6, c6, rfl, hn6, hg1, hg2⟩ := own_formsR o6 (by omega)
        have hRl6 := Lib.hid (show Rl w6 (some ⟨g, 0, none⟩) (bs ++ [((p : Int), (x : Int))]) from by have h := o6; rw [hn6] at h; exact Rl_of_own' h)
        rw [hwl] at hn6
        subst hn6
        have h6 := Lib.hid (H3r.out.below b6)
        have K6 := Lib.hid (HK.out.trans (Kept3.of_below b6))
        have HT6 : Hid ((pr ++ cvN xs M l (bs ++ [((p : Int), (x : Int))])) ++ cvX (cvN xs M l) bs (p : Int) (p - (x + 1)) (x + 1) = T) := by
          show _ = _
          rw [← HTr.out, Hun.out, List.append_assoc]
        have hlk := IH w6 (some ⟨g, 0, none⟩) c6 (bs ++ [((p : Int), (x : Int))]) vr pr _ (hIr.out.below b6) (fun _ => hPo) hRl6.out (fun b off e => by cases e; omega) (by have := Hlen.out; have := Hm.out; omega) (good_more Hg.out (by have := Hm.out; omega) (by omega) (by omega)) h6.out rfl (by have h := congrArg List.length HT6.out; rw [List.length_append] at h; omega)
        rw [hwl, ← HN.out] at hlk
        have Hlk := Lib.hid hlk
        clear hlk hwl o6
        go_wp2_with fail
        refine Hlk.out.mono ?_
        rintro e w8 ⟨rfl, v8, h8, k8⟩
        go_wp2
        go_roundw
        case rel => exact ⟨x + 1, v8, _, by go_num, by omega, h8, HT6, K6.out.trans k8⟩
        case measure => simp [intOf]; omega)
    · have Hx : Hid (x = p) := by show _ = _; omega
      have HT7 : Hid (pr = T) := by
        show _ = _
        rw [← HTr.out, show p - x = 0 by omega, cvX, List.append_nil]
      have hli : (p : Int) ≤ (x : Int) := by omega
      go_wp2
      try simp only [Exit.inBlock, Exit.then]
      refine bodyPost_end (results_none rfl _ _ _) rfl ?_
      exact ⟨rfl, vr, by rw [← HT7.out]; exact H3r.out, HK.out⟩
open Go.RowKit
set_option linter.unusedVariables false
set_option linter.unusedSimpArgs false

theorem gpLook_all (xs : List Int) (P : Option Addr) (cp M o : Nat) (hM : M ≤ 40) (hx5 : xs.length ≤ 5) (hxs : ∀ i, i < xs.length → 2 ≤ ivL xs i ∧ ivL xs i ≤ 13) : ∀ l, LookOk3 xs P cp M o l
  | 0 => gpLook_0 xs P cp M o hM
  | l + 1 => gpLook_s xs P cp M o l hM hx5 hxs (gpLook_all xs P cp M o hM hx5 hxs l)
/-- All covers of 1 to n. -/
def cvA (xs : List Int) (n : Nat) : List (List (Int × Int)) := cvN xs n xs.length []
theorem cvA_len {xs : List Int} (h : gpP xs = true) (n : Nat) : (cvA xs n).length ≤ 1000000 := by
  obtain ⟨h1, h2, _⟩ := gpP_parts h
  have h3 := cvN_len (xs := xs) (fun i => by
    by_cases hi : i < xs.length
    · exact (dpB_at h2 hi).2
    · have h9 : xs[i]? = none := List.getElem?_eq_none (by omega); simp [ivL, List.getD_eq_getElem?_getD, h9]) n xs.length []
  have h4 := Nat.pow_le_pow_right (show 0 < 13 by omega) h1
  rw [cvA]
  omega
set_option maxRecDepth 100000 in
set_option maxHeartbeats 800000 in
theorem gpAll_c (w : World) (P : Option Addr) (m cp : Nat) (xs : List Int) (hP : Il w P xs) (hm : m = xs.length) (hg : gpP xs = true) (M : Nat) (hM : M ≤ 40) :
    Calls Try.prog 29 #[.slice P m cp, .int .i64 (M : Int)] w fun en w' => (∃ v, en = .returned (.tuple #[.int .i64 ((cvA xs M).length : Int), v]) ∧ OwnR w' w.heap.size v (hdR (cvA xs M))) ∧ Below w.heap.size w w' := by
  obtain ⟨h1, h2, _⟩ := gpP_parts hg
  have hx := fun i (hi : i < xs.length) => dpB_at h2 hi
  have hLen := cvA_len hg M
  obtain ⟨w1, hw1⟩ : ∃ w1, (w.alloc (.cells #[.int .i64 0] 3)).alloc (.cells #[.slice none 0 0] 28) = w1 := ⟨_, rfl⟩
  have hb1 : Below w.heap.size w w1 := by rw [← hw1]; exact ((Below.refl _ _).alloc (Nat.le_refl _) _).alloc (by simp) _
  have hs1 : w1.heap.size = w.heap.size + 2 := by rw [← hw1]; simp
  have h3 : At3 w1 w.heap.size (.slice none 0 0) [] := by
    have e1 := heap_alloc_new w (.cells #[.int .i64 0] 3)
    have e2 := heap_alloc_new (w.alloc (.cells #[.int .i64 0] 3)) (.cells #[.slice none 0 0] 28)
    rw [World.size_alloc] at e2
    refine ⟨?_, ?_, World.ownsRow_nil _ _ _ _⟩
    · rw [← hw1]
      exact (((Below.refl (w.alloc (.cells #[.int .i64 0] 3)).heap.size (w.alloc (.cells #[.int .i64 0] 3))).alloc (Nat.le_refl _) (.cells #[.slice none 0 0] 28)).block w.heap.size (by simp)).trans e1
    · rw [← hw1]
      exact e2
  have hlk := gpLook_all xs P cp M w.heap.size hM h1 hx xs.length w1 none 0 [] (.slice none 0 0) [] (cvA xs M) (hP.below hb1) (fun h0 b off e => by
      obtain ⟨b2, off2, e2, hb2, _⟩ := hP h0
      rw [e] at e2
      cases e2
      omega) (fun h => by simp at h) (fun b off e => by cases e) (by simp) rfl h3 rfl (by omega)
  rw [← hm] at hlk
  have Hlk := Lib.hid hlk
  have Hw1 := Lib.hid hw1
  obtain ⟨C, hC⟩ : ∃ C : Int, ((cvA xs M).length : Int) = C := ⟨_, rfl⟩
  rw [hC]
  have HC := Lib.hid hC
  clear hlk hw1 h3 hx h2 hm hC
  go_enter Try.func29, Try.ntmps29
  go_wp2_with fail
  rw [Hw1.out]
  refine Hlk.out.mono ?_
  rintro e w3 ⟨rfl, v3, h3, k3⟩
  have hb3 : Below w.heap.size w w3 := ⟨k3.os.trans hb1.os, k3.tape.trans hb1.tape, k3.output.trans hb1.output, Nat.le_trans hb1.size k3.size, fun k hk => (k3.block k (by omega) (by omega) (by omega)).trans (hb1.block k hk)⟩
  have H3 := Lib.hid h3
  have c0 : w3.cell? ⟨w.heap.size, 0, none⟩ = some (.int .i64 C) := by rw [← HC.out]; exact cell_of_row w3 w.heap.size 0 _ _ _ h3.count
  have c1 : w3.cell? ⟨w.heap.size + 1, 0, none⟩ = some v3 := cell_of_row w3 (w.heap.size + 1) 0 _ _ _ h3.first
  obtain ⟨A3, n3, q3, rfl, rfl, _⟩ := h3.own.form
  clear h3 k3
  go_wp2_with fail
  go_quiet (fail)
  go_wp2
  go_ret2
  exact ⟨⟨_, rfl, OwnR.below (OwnR.mono H3.out.own (show w.heap.size ≤ w.heap.size + 2 by omega)) (below_drewN (Below.refl _ _) _)⟩, below_drewN hb3 _⟩
/-- The greatest number up to which the primes cover all, f to be tried from k on. -/
def mcG (xs : List Int) : Nat → Nat → Nat
  | 0, k => k
  | f + 1, k => if (cvA xs (k + 1)).length = 0 then k else mcG xs f (k + 1)
theorem mcG_stop {xs : List Int} {f k : Nat} (h : (cvA xs (k + 1)).length = 0) : mcG xs (f + 1) k = k := by rw [mcG, if_pos h]
theorem mcG_on {xs : List Int} {f k : Nat} (h : ¬ (cvA xs (k + 1)).length = 0) : mcG xs (f + 1) k = mcG xs f (k + 1) := by rw [mcG, if_neg h]
def mcV (xs : List Int) : Int := if gpP xs then (mcG xs 40 0 : Int) else 0
theorem mcV_no {xs : List Int} (h : gpP xs = false) : mcV xs = 0 := by rw [mcV, h]; rfl
theorem mcV_yes {xs : List Int} (h : gpP xs = true) : mcV xs = (mcG xs 40 0 : Int) := by rw [mcV, h]; rfl
set_option maxRecDepth 100000 in
set_option maxHeartbeats 800000 in
theorem spec_MostCovered_c (w : World) (A : Option Addr) (m c : Nat) (xs : List Int) (hA : Il w A xs) (hm : m = xs.length) (hn : m ≤ 1048576) (hmc : m ≤ c) :
    Calls Try.prog 8 #[.slice A m c] w fun en w' => en = .returned (.tuple #[.int .i64 (mcV xs), .bool (gpP xs)]) ∧ Below w.heap.size w w' := by
  have Hm := Lib.hid hm
  clear hm
  cases hg : gpP xs with
  | false =>
    rw [mcV_no hg]
    go_enter Try.func8, Try.ntmps8
    go_wp2_with fail
    refine (gpPrimes_c _ _ _ _ xs hA Hm.out hn hmc).mono ?_
    rintro e w1 ⟨rfl, b1⟩
    have hA_1 := hA.below b1
    go_wp2
    go_ret2
    exact ⟨rfl, b1⟩
  | true =>
    rw [mcV_yes hg]
    obtain ⟨T, hT⟩ : ∃ T, mcG xs 40 0 = T := ⟨_, rfl⟩
    rw [hT]
    have HT := Lib.hid hT
    clear hT
    have Hg := Lib.hid hg
    go_enter Try.func8, Try.ntmps8
    go_wp2_with fail
    refine (gpPrimes_c _ _ _ _ xs hA Hm.out hn hmc).mono ?_
    rintro e w1 ⟨rfl, b1⟩
    have hA_1 := hA.below b1
    have hA1 := hA_1
    have bb1 := b1
    have hs1 := bb1.size
    go_wp2
    go_loopw [4, 5, 6] (fun i _ _ wr => ∃ k : Nat, k ≤ 40 ∧ i = .int .i64 (k : Int) ∧ Hid (mcG xs (40 - k) k = T) ∧ Below w.heap.size w wr) (fun i _ _ _ => 40 - (intOf i).toNat)
    case atStart => exact ⟨0, by omega, rfl, HT, b1⟩
    case round =>
      obtain ⟨k, hk, rfl, HD, hbel⟩ := hrel
      have hs := hbel.size
      have hAr := hA.below hbel
      by_cases hlt : k < 40
      · have hli : (k : Int) < 40 := by omega
        have Hc := gpAll_c _ A m c xs hAr Hm.out Hg.out (k + 1) (by omega)
        have e1 : ((k + 1 : Nat) : Int) = (k : Int) + 1 := Int.natCast_succ k
        rw [e1] at Hc
        have h9 := cvA_len Hg.out (k + 1)
        obtain ⟨C, hC⟩ : ∃ C, (cvA xs (k + 1)).length = C := ⟨_, rfl⟩
        rw [hC] at Hc h9
        have HC := Lib.hid Hc
        have HCe := Lib.hid hC
        clear Hc e1 hC
        by_cases hz : C = 0
        · have Hy : Hid (k = T) := by
            show _ = _
            rw [← HD.out, show 40 - k = (39 - k) + 1 by omega, mcG_stop (HCe.out.trans hz)]
          subst hz
          go_wp2_with fail
          refine HC.out.mono ?_
          rintro e w5 ⟨⟨v5, rfl, o5⟩, b5⟩
          obtain ⟨A5, n5, q5, rfl, _, _⟩ := o5.form
          go_wp2
          go_ret2
          exact ⟨by rw [← Hy.out]; rfl, hbel.trans (b5.mono hs)⟩
        · have HD2 : Hid (mcG xs (40 - (k + 1)) (k + 1) = T) := by
            show _ = _
            rw [← HD.out, show 40 - k = (40 - (k + 1)) + 1 by omega]
            exact (mcG_on (by rw [HCe.out]; exact hz)).symm
          have hzb : ((C : Int) == 0) = false := beq_eq_false_iff_ne.2 (by omega)
          clear hz
          go_wp2_with fail
          refine HC.out.mono ?_
          rintro e w5 ⟨⟨v5, rfl, o5⟩, b5⟩
          obtain ⟨A5, n5, q5, rfl, _, _⟩ := o5.form
          go_wp2
          go_roundw
          case rel => exact ⟨k + 1, by omega, by go_num, HD2, hbel.trans (b5.mono hs)⟩
          case measure => simp [intOf]; omega
      · have Hk : Hid (k = T) := by show _ = _; rw [← HD.out, show 40 - k = 0 by omega, mcG]
        have hk40 : k = 40 := by omega
        subst hk40
        go_wp2
        go_ret2
        exact ⟨by rw [← Hk.out]; rfl, hbel⟩

def fcO (xs : List Int) (n : Int) : Bool := gqO xs n && decide (0 < (cvA xs n.toNat).length)
def fcV (xs : List Int) (n : Int) : List (Int × Int) := if fcO xs n then hdR (cvA xs n.toNat) else []
theorem fcV_no {xs : List Int} {n : Int} (h : fcO xs n = false) : fcV xs n = [] := by rw [fcV, h]; rfl
theorem fcV_yes {xs : List Int} {n : Nat} (h : fcO xs (n : Int) = true) : fcV xs (n : Int) = hdR (cvA xs n) := by rw [fcV, h, Int.toNat_natCast]; rfl
theorem gqO_parts {xs : List Int} {n : Int} (h : gqO xs n = true) : gpP xs = true ∧ 0 ≤ n ∧ n ≤ 40 := by
  rw [gqO, Bool.and_eq_true] at h
  exact ⟨h.1, inB_true.1 h.2⟩
set_option maxRecDepth 100000 in
set_option maxHeartbeats 800000 in
theorem spec_FirstCover_c (w : World) (A : Option Addr) (m c : Nat) (xs : List Int) (hA : Il w A xs) (hm : m = xs.length) (hn : m ≤ 1048576) (hmc : m ≤ c) (n : Int) :
    Calls Try.prog 17 #[.slice A m c, .int .i64 n] w fun en w' => (∃ v, en = .returned (.tuple #[v, .bool (fcO xs n)]) ∧ OwnR w' w.heap.size v (fcV xs n)) ∧ Below w.heap.size w w' := by
  have Hm := Lib.hid hm
  clear hm
  cases hg : gqO xs n with
  | false =>
    have ho : fcO xs n = false := by rw [fcO, hg]; rfl
    rw [fcV_no ho, ho]
    clear ho
    go_enter Try.func17, Try.ntmps17
    go_wp2_with fail
    refine (gpAsked_c _ _ _ _ xs hA Hm.out hn hmc _).mono ?_
    rintro e w1 ⟨rfl, b1⟩
    have hA_1 := hA.below b1
    go_wp2
    go_ret2
    exact ⟨⟨_, rfl, OwnR.nil _ _⟩, b1⟩
  | true =>
    obtain ⟨h1, h2, h3⟩ := gqO_parts hg
    obtain ⟨M, rfl⟩ := Int.eq_ofNat_of_zero_le h2
    have Hp := Lib.hid h1
    have Hq := Lib.hid hg
    clear h1
    have Hg := Lib.hid hg
    go_enter Try.func17, Try.ntmps17
    go_wp2_with fail
    refine (gpAsked_c _ _ _ _ xs hA Hm.out hn hmc _).mono ?_
    rintro e w1 ⟨rfl, b1⟩
    have hA_1 := hA.below b1
    have hA1 := hA_1
    have bb1 := b1
    have hs1 := bb1.size
    have Hc := gpAll_c _ A m c xs hA1 Hm.out Hp.out M (by omega)
    have h9 := cvA_len Hp.out M
    obtain ⟨C, hC⟩ : ∃ C, (cvA xs M).length = C := ⟨_, rfl⟩
    rw [hC] at Hc h9
    have HC := Lib.hid Hc
    have HCe := Lib.hid hC
    clear Hc hC
    by_cases hz : C = 0
    · have Ho : Hid (fcO xs (M : Int) = false) := by show _ = _; rw [fcO, Int.toNat_natCast, HCe.out, hz]; simp
      subst hz
      go_wp2_with fail
      refine HC.out.mono ?_
      rintro e w5 ⟨⟨v5, rfl, o5⟩, b5⟩
      obtain ⟨A5, n5, q5, rfl, _, _⟩ := o5.form
      go_wp2
      go_ret2
      exact ⟨⟨_, by rw [Ho.out]; rfl, by rw [fcV_no Ho.out]; exact OwnR.nil _ _⟩, (b1).trans (b5.mono hs1)⟩
    · have Ho : Hid (fcO xs (M : Int) = true) := by show _ = _; rw [fcO, Int.toNat_natCast, HCe.out, Hq.out, decide_eq_true (by omega)]; rfl
      have hzb : ((C : Int) == 0) = false := beq_eq_false_iff_ne.2 (by omega)
      clear hz
      go_wp2_with fail
      refine HC.out.mono ?_
      rintro e w5 ⟨⟨v5, rfl, o5⟩, b5⟩
      obtain ⟨A5, n5, q5, rfl, rfl, _⟩ := o5.form
      have O5 := Lib.hid o5
      go_wp2
      go_ret2
      exact ⟨⟨_, by rw [Ho.out]; rfl, by rw [fcV_yes Ho.out]; exact OwnR.mono O5.out hs1⟩, (b1).trans (b5.mono hs1)⟩
def ccvV (xs : List Int) (n : Int) : Int := if gqO xs n then ((cvA xs n.toNat).length : Int) else 0
theorem ccvV_no {xs : List Int} {n : Int} (h : gqO xs n = false) : ccvV xs n = 0 := by rw [ccvV, h]; rfl
theorem ccvV_yes {xs : List Int} {n : Nat} (h : gqO xs (n : Int) = true) : ccvV xs (n : Int) = ((cvA xs n).length : Int) := by rw [ccvV, h, Int.toNat_natCast]; rfl
set_option maxRecDepth 100000 in
set_option maxHeartbeats 800000 in
theorem spec_CountCovers_c (w : World) (A : Option Addr) (m c : Nat) (xs : List Int) (hA : Il w A xs) (hm : m = xs.length) (hn : m ≤ 1048576) (hmc : m ≤ c) (n : Int) :
    Calls Try.prog 18 #[.slice A m c, .int .i64 n] w fun en w' => en = .returned (.tuple #[.int .i64 (ccvV xs n), .bool (gqO xs n)]) ∧ Below w.heap.size w w' := by
  have Hm := Lib.hid hm
  clear hm
  cases hg : gqO xs n with
  | false =>
    rw [ccvV_no hg]
    go_enter Try.func18, Try.ntmps18
    go_wp2_with fail
    refine (gpAsked_c _ _ _ _ xs hA Hm.out hn hmc _).mono ?_
    rintro e w1 ⟨rfl, b1⟩
    have hA_1 := hA.below b1
    go_wp2
    go_ret2
    exact ⟨rfl, b1⟩
  | true =>
    obtain ⟨h1, h2, h3⟩ := gqO_parts hg
    obtain ⟨M, rfl⟩ := Int.eq_ofNat_of_zero_le h2
    have Hp := Lib.hid h1
    rw [ccvV_yes hg]
    clear h1
    have Hg := Lib.hid hg
    go_enter Try.func18, Try.ntmps18
    go_wp2_with fail
    refine (gpAsked_c _ _ _ _ xs hA Hm.out hn hmc _).mono ?_
    rintro e w1 ⟨rfl, b1⟩
    have hA_1 := hA.below b1
    have hA1 := hA_1
    have bb1 := b1
    have hs1 := bb1.size
    have HC := Lib.hid (gpAll_c _ A m c xs hA1 Hm.out Hp.out M (by omega))
    go_wp2_with fail
    refine HC.out.mono ?_
    rintro e w5 ⟨⟨v5, rfl, o5⟩, b5⟩
    obtain ⟨A5, n5, q5, rfl, _, _⟩ := o5.form
    go_wp2
    go_ret2
    exact ⟨rfl, (b1).trans (b5.mono hs1)⟩

end Go.Proofs.Ytgkciiklgadgkaa
