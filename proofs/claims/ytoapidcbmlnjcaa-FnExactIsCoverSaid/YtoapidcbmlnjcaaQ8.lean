import Derived.Test.YtoapidcbmlnjcaaQ7
import Derived.Test.YtoapidcbmlnjcaaM1
import Derived.Laws.Rows
namespace Go.Proofs.Ytoapidcbmlnjcaa
open Go.RowKit
set_option linter.unusedVariables false
set_option linter.unusedSimpArgs false

/-- Of each remainder from x on of the prime p, f of them: what g tells. -/
def cvX (g : List (Int × Int) → List (List (Int × Int))) (bs : List (Int × Int)) (p : Int) : Nat → Nat → List (List (Int × Int))
  | 0, _ => []
  | f + 1, x => g (bs ++ [(p, (x : Int))]) ++ cvX g bs p f (x + 1)
/-- The covers of 1 to n with the beginning bs and l more primes. -/
def cvN (xs : List Int) (n : Nat) : Nat → List (Int × Int) → List (List (Int × Int))
  | 0, bs => if covB bs n = true then [bs] else []
  | l + 1, bs => cvX (cvN xs n l) bs (ivL xs bs.length) (ivL xs bs.length).toNat 0
theorem cvX_len {g : List (Int × Int) → List (List (Int × Int))} {M : Nat} (h : ∀ bs, (g bs).length ≤ M) (bs : List (Int × Int)) (p : Int) : ∀ f x, (cvX g bs p f x).length ≤ f * M
  | 0, _ => by simp [cvX]
  | f + 1, x => by
    have h1 := cvX_len h bs p f (x + 1)
    have h2 := h (bs ++ [(p, (x : Int))])
    rw [cvX, List.length_append, Nat.succ_mul]
    omega
theorem cvN_len {xs : List Int} (hx : ∀ i, ivL xs i ≤ 13) (n : Nat) : ∀ l bs, (cvN xs n l bs).length ≤ 13 ^ l
  | 0, bs => by rw [cvN]; split <;> simp
  | l + 1, bs => by
    have h1 := cvX_len (cvN_len hx n l) bs (ivL xs bs.length) (ivL xs bs.length).toNat 0
    have h2 : (ivL xs bs.length).toNat ≤ 13 := by have := hx bs.length; omega
    have h3 := Nat.mul_le_mul h2 (Nat.le_refl (13 ^ l))
    have h4 : 13 ^ (l + 1) = 13 * 13 ^ l := by rw [Nat.pow_succ, Nat.mul_comm]
    rw [cvN]
    omega
def hdR (ps : List (List (Int × Int))) : List (Int × Int) := ps.headD []

/-- What was there is as it was, but for the cells o and o + 1. -/
structure Kept3 (w w' : World) (o : Nat) : Prop where
  os : w'.os = w.os
  tape : w'.tape = w.tape
  output : w'.output = w.output
  size : w.heap.size ≤ w'.heap.size
  block : ∀ k, k < w.heap.size → k ≠ o → k ≠ o + 1 → w'.heap[k]? = w.heap[k]?
theorem Kept3.of_below {w w' : World} {o : Nat} (h : Below w.heap.size w w') : Kept3 w w' o := ⟨h.os, h.tape, h.output, h.size, fun k hk _ _ => h.block k hk⟩
theorem Kept3.trans {a b c : World} {o : Nat} (h : Kept3 a b o) (k : Kept3 b c o) : Kept3 a c o :=
  ⟨k.os.trans h.os, k.tape.trans h.tape, k.output.trans h.output, Nat.le_trans h.size k.size, fun i hi h1 h2 => (k.block i (Nat.lt_of_lt_of_le hi h.size) h1 h2).trans (h.block i hi h1 h2)⟩
theorem Kept3.set {w : World} {o i : Nat} (v : Value) (h : i = o ∨ i = o + 1) : Kept3 w (w.setCell ⟨i, 0, none⟩ v) o :=
  ⟨rfl, rfl, rfl, by simp, fun k hk h1 h2 => heap_setCell_other w ⟨i, 0, none⟩ k v (by rcases h with rfl | rfl <;> assumption)⟩
theorem Kept3.cell {w w' : World} {o : Nat} (h : Kept3 w w' o) {b off : Nat} (hb : b < w.heap.size) (h1 : b ≠ o) (h2 : b ≠ o + 1) : w'.cell? ⟨b, off, none⟩ = w.cell? ⟨b, off, none⟩ :=
  World.cell?_of_block (a := ⟨b, off, none⟩) (h.block b hb h1 h2)
/-- An address that lies not in o and o + 1. -/
def offO (A : Option Addr) (o : Nat) : Prop := ∀ b off, A = some ⟨b, off, none⟩ → b ≠ o ∧ b ≠ o + 1
theorem Kept3.rl {w w' : World} {o : Nat} (h : Kept3 w w' o) {A : Option Addr} {rs : List (Int × Int)} (hA : Rl w A rs) (ho : offO A o) : Rl w' A rs := fun hp => by
  obtain ⟨b, off, e, hb, hr⟩ := hA hp
  obtain ⟨h1, h2⟩ := ho b off e
  exact ⟨b, off, e, Nat.lt_of_lt_of_le hb h.size, fun k hk => ⟨(h.cell hb h1 h2).trans (hr k hk).1, (h.cell hb h1 h2).trans (hr k hk).2⟩⟩
theorem Kept3.il {w w' : World} {o : Nat} (h : Kept3 w w' o) {A : Option Addr} {xs : List Int} (hA : Il w A xs) (ho : offO A o) : Il w' A xs := fun hp => by
  obtain ⟨b, off, e, hb, hr⟩ := hA hp
  obtain ⟨h1, h2⟩ := ho b off e
  exact ⟨b, off, e, Nat.lt_of_lt_of_le hb h.size, fun k hk => (h.cell hb h1 h2).trans (hr k hk)⟩

/-- What lies in o and o + 1: how many covers there are, and the first of them. -/
structure At3 (w : World) (o : Nat) (v : Value) (ps : List (List (Int × Int))) : Prop where
  count : w.heap[o]? = some (.cells #[.int .i64 (ps.length : Int)] 3 (0, 0))
  first : w.heap[o + 1]? = some (.cells #[v] 26 (0, 0))
  own : OwnR w (o + 2) v (hdR ps)
theorem At3.below {w w' : World} {o : Nat} {v : Value} {ps : List (List (Int × Int))} (h : At3 w o v ps) (b : Below w.heap.size w w') : At3 w' o v ps :=
  ⟨(b.block o (Array.getElem?_eq_some_iff.1 h.count).1).trans h.count, (b.block _ (Array.getElem?_eq_some_iff.1 h.first).1).trans h.first, OwnR.below h.own b⟩
theorem At3.more {w : World} {o : Nat} {v : Value} {ps : List (List (Int × Int))} (h : At3 w o v ps) (hp : ps ≠ []) (r : List (Int × Int)) : At3 (w.setCell ⟨o, 0, none⟩ (.int .i64 ((ps.length : Int) + 1))) o v (ps ++ [r]) := by
  refine ⟨?_, ?_, ?_⟩
  · have := heap_setCell_same w o 0 _ _ (.int .i64 ((ps.length : Int) + 1)) h.count
    rw [this, List.length_append]
    rfl
  · exact (heap_setCell_other w ⟨o, 0, none⟩ (o + 1) _ (by simp)).trans h.first
  · have e : hdR (ps ++ [r]) = hdR ps := by
      cases ps with
      | nil => exact absurd rfl hp
      | cons a t => rfl
    rw [e]
    exact ownsRow_setCell_below h.own (a := ⟨o, 0, none⟩) (by simp) _
theorem At3.one {w w5 : World} {o : Nat} {v v5 : Value} {r : List (Int × Int)} (h : At3 w o v []) (b : Below w.heap.size w w5) (h5 : OwnR w5 (o + 2) v5 r) : At3 ((w5.setCell ⟨o + 1, 0, none⟩ v5).setCell ⟨o, 0, none⟩ (.int .i64 1)) o v5 [r] := by
  have H := h.below b
  have c1 := heap_setCell_same w5 (o + 1) 0 _ _ v5 H.first
  have c0 := (heap_setCell_other w5 ⟨o + 1, 0, none⟩ o v5 (by simp)).trans H.count
  refine ⟨?_, ?_, ?_⟩
  · exact heap_setCell_same _ o 0 _ _ _ c0
  · exact (heap_setCell_other _ ⟨o, 0, none⟩ (o + 1) _ (by simp)).trans c1
  · exact ownsRow_setCell_below (ownsRow_setCell_below h5 (a := ⟨o + 1, 0, none⟩) (by simp) _) (a := ⟨o, 0, none⟩) (by simp) _

/-- What gpLook asks and leaves. -/
def LookOk3 (xs : List Int) (P : Option Addr) (cp M o l : Nat) : Prop := ∀ (w : World) (A : Option Addr) (c : Nat) (bs : List (Int × Int)) (v : Value) (ps T : List (List (Int × Int))), Il w P xs → (0 < xs.length → offO P o) → Rl w A bs → offO A o →
    bs.length + l = xs.length → goodL bs = true → At3 w o v ps → ps ++ cvN xs M l bs = T → T.length ≤ 1048576 →
    Calls Try.prog 123 #[.slice P xs.length cp, .slice A bs.length c, .int .i64 (M : Int), .pointer (some ⟨o, 0, none⟩), .pointer (some ⟨o + 1, 0, none⟩)] w fun en w' => en = .returned (.tuple #[]) ∧ ∃ v', At3 w' o v' T ∧ Kept3 w w' o

set_option maxRecDepth 100000 in
set_option maxHeartbeats 1600000 in
theorem gpLook_0 (xs : List Int) (P : Option Addr) (cp M o : Nat) (hM : M ≤ 40) : LookOk3 xs P cp M o 0 := by
  intro w A c bs v ps T hP hPo hA hAo hlen hg h3 hT hTl
  obtain ⟨m, hm⟩ : ∃ m, bs.length = m := ⟨_, rfl⟩
  have hm2 : xs.length = m := by omega
  have hgl := good_len hg
  rw [hm, hm2]
  have Hm := Lib.hid hm.symm
  have Hg := Lib.hid hg
  have Hc := gpCovers_c w A m c bs hA Hm.out hg M (by omega)
  have ho2 : o + 1 < w.heap.size := (Array.getElem?_eq_some_iff.1 h3.first).1
  have hm9 : m ≤ 12 := by omega
  rw [cvN] at hT
  cases hcov : covB bs M with
  | false =>
    rw [hcov] at Hc hT
    have HC := Lib.hid Hc
    have HT : Hid (ps = T) := by show _ = _; rw [← hT]; simp
    have H3 := Lib.hid h3
    clear hT Hc hm hm2 hlen hcov hg hgl h3
    go_enter Try.func123, Try.ntmps123
    go_wp2_with fail
    refine HC.out.mono ?_
    rintro e w2 ⟨rfl, b2⟩
    go_wp2
    try simp only [Exit.inBlock, Exit.then]
    refine bodyPost_ret (results_none rfl _ _ _) rfl ?_
    exact ⟨rfl, v, by rw [← HT.out]; exact H3.out.below b2, Kept3.of_below b2⟩
  | true =>
    rw [hcov] at Hc hT
    have HC := Lib.hid Hc
    have HT : Hid (ps ++ [bs] = T) := by show _ = _; rw [← hT]; simp
    have H3 := Lib.hid h3
    have hpl : ps.length ≤ 1048576 := by rw [← HT.out, List.length_append] at hTl; omega
    clear hT Hc hm hm2 hlen hcov hg hgl h3
    obtain ⟨C, hC⟩ : ∃ C : Int, (ps.length : Int) = C := ⟨_, rfl⟩
    by_cases hps : ps = []
    · have hC0 : C = 0 := by rw [← hC, hps]; rfl
      subst hC0
      subst hps
      clear hC
      go_enter Try.func123, Try.ntmps123
      go_wp2_with fail
      refine HC.out.mono ?_
      rintro e w2 ⟨rfl, b2⟩
      have H2 := Lib.hid (H3.out.below b2)
      have hs2 := b2.size
      have hA2 := hA.below b2
      have c0 : w2.cell? ⟨o, 0, none⟩ = some (.int .i64 0) := cell_of_row w2 o 0 _ _ _ H2.out.count
      have f0 : w2.frozen? ⟨o, 0, none⟩ = false := frozen_of_row w2 o 0 _ _ H2.out.count
      have hA3 := Lib.hid (hA2.below ((Below.refl w2.heap.size w2).alloc (Nat.le_refl _) (.cells #[] 59)))
      go_wp2_with (at_builtin; refine wp_app_rules _ rfl _ _ rfl w2.heap.size _ [] rfl (own_empty0 _) _ _ _ bs rfl hA3.out Hm.out (by have := Hm.out; simp; omega) (by simp) ?_; intro v5 w5 o5 b5; rw [List.nil_append] at o5; obtain ⟨A5, n5, q5, rfl, rfl, _⟩ := o5.form; have h5 := ((Below.refl w2.heap.size w2).alloc (Nat.le_refl _) (.cells #[] 59)).trans b5; have H5 := Lib.hid (H2.out.below h5); have c5 : w5.cell? ⟨o + 1, 0, none⟩ = some v := cell_of_row w5 (o + 1) 0 _ _ _ H5.out.first; have f5 : w5.frozen? ⟨o + 1, 0, none⟩ = false := frozen_of_row w5 (o + 1) 0 _ _ H5.out.first; have d5 : w5.cell? ⟨o, 0, none⟩ = some (.int .i64 0) := cell_of_row w5 o 0 _ _ _ H5.out.count; have g5 : w5.frozen? ⟨o, 0, none⟩ = false := frozen_of_row w5 o 0 _ _ H5.out.count)
      try simp only [Exit.inBlock, Exit.then]
      refine bodyPost_ret (results_none rfl _ _ _) rfl ?_
      exact ⟨rfl, _, by rw [← HT.out]; exact H2.out.one h5 (OwnR.mono o5 (by omega)), ((Kept3.of_below (b2.trans (h5.mono hs2))).trans (Kept3.set _ (.inr rfl))).trans (Kept3.set _ (.inl rfl))⟩
    · have hC1 : 1 ≤ C := by
        have := List.length_pos_iff.2 hps
        omega
      have hC9 : C ≤ 1048576 := by omega
      have hCz : (C == 0) = false := beq_eq_false_iff_ne.2 (by omega)
      have hw : IntKind.i64.wrap (C + 1) = C + 1 := IntWalk.i64_in _ (by omega)
      have HCe := Lib.hid hC
      have Hps := Lib.hid hps
      clear hps hC
      go_enter Try.func123, Try.ntmps123
      go_wp2_with fail
      refine HC.out.mono ?_
      rintro e w2 ⟨rfl, b2⟩
      have H2 := Lib.hid (H3.out.below b2)
      have c0 : w2.cell? ⟨o, 0, none⟩ = some (.int .i64 C) := by rw [← HCe.out]; exact cell_of_row w2 o 0 _ _ _ H2.out.count
      have f0 : w2.frozen? ⟨o, 0, none⟩ = false := frozen_of_row w2 o 0 _ _ H2.out.count
      go_wp2
      try simp only [Exit.inBlock, Exit.then]
      refine bodyPost_ret (results_none rfl _ _ _) rfl ?_
      have H9 := H2.out.more Hps.out bs
      rw [HCe.out, HT.out] at H9
      exact ⟨rfl, v, H9, (Kept3.of_below b2).trans (Kept3.set _ (.inl rfl))⟩

end Go.Proofs.Ytoapidcbmlnjcaa
