import Derived.Test.YtkpililllihgcaaJC
namespace Go.Proofs.Ytkpililllihgcaa
open Go.RowKit
set_option linter.unusedVariables false
set_option linter.unusedSimpArgs false

theorem tb6_at {M i : Nat} (h : i < M) : ivL (tbL 6 M) i = u1 (i + 1) := by simp [ivL, tbL, h, tbF, u1]
theorem tb6_small (M : Nat) : smallL (tbL 6 M) := fun k => by
  by_cases hk : k < M
  · rw [tb6_at hk, u1]; split <;> omega
  · have : ivL (tbL 6 M) k = 0 := by rw [ivL, List.getD_eq_getElem?_getD, List.getElem?_eq_none (by rw [tbL_len]; omega)]; rfl
    omega
theorem tb6_arI {M : Nat} (hM : 1 ≤ M) : ∀ n, 1 ≤ n → n ≤ 200 → arI (tbL 6 M) n = u1 n := fun n h1 h9 => by
  rw [arI, if_neg (by omega)]
  by_cases hk : n - 1 < M
  · rw [tb6_at hk, show n - 1 + 1 = n by omega]
  · rw [ivL, List.getD_eq_getElem?_getD, List.getElem?_eq_none (by rw [tbL_len]; omega), u1, if_neg (by omega)]; rfl
/-- What the machine's quotient tells of a table undone. -/
theorem un_result {xs : List Int} {m G : Nat} {q : Nat → Int} (hx : tabB xs = true) (hm : m = xs.length) (h0 : ivL xs 0 = 1 ∨ ivL xs 0 = -1)
    (hG : (tabB (unL xs m) = true ∧ G = m) ∨ (tabB (unL xs m) = false ∧ 1 ≤ G ∧ G ≤ m ∧ ¬ (-1000000 ≤ ivL (unL xs G) (G - 1) ∧ ivL (unL xs G) (G - 1) ≤ 1000000)))
    (hq : ∀ n, 1 ≤ n → n ≤ G → q n = ivL (unL xs G) (n - 1)) : tabB (qL q m) = unO xs ∧ joR q m = unR xs := by
  rcases hG with ⟨h1, rfl⟩ | ⟨h1, h2, h3, h4⟩
  · have e : qL q G = unL xs G := qL_ext (unL_len _ _) fun i hi => hq (i + 1) (by omega) (by omega)
    have ho : unO xs = true := by rw [unO, hx, decide_eq_true h0, ← hm, h1]; rfl
    rw [joR, e, h1, unR_yes ho, ho, ← hm]
    exact ⟨rfl, rfl⟩
  · have ho : unO xs = false := by rw [unO, ← hm, h1, Bool.and_false]
    have ht : tabB (qL q m) = false := by
      rw [tabB, Bool.and_eq_false_iff]
      right
      refine allB_false (k := G - 1) (by rw [qL_len]; omega) (inB_false.2 ?_)
      rw [qL_at (by omega), show G - 1 + 1 = G by omega, hq G h2 (Nat.le_refl _)]
      exact h4
    rw [joR_no ht, unR_no ho, ho, ht]
    exact ⟨rfl, rfl⟩
set_option maxRecDepth 100000 in
set_option maxHeartbeats 800000 in
theorem impl_UndoTable_c (w : World) (A : Option Addr) (m c : Nat) (xs : List Int) (hA : Il w A xs) (hm : m = xs.length) (hn : m ≤ 1048576) :
    Calls Try.prog 38 #[.slice A m c] w fun en w' => (∃ v, en = .returned (.tuple #[v, .bool (unO xs)]) ∧ OwnI w' w.heap.size v (unR xs)) ∧ Below w.heap.size w w' := by
  have Ht := Lib.hid (fun W => impl_TableOf_c W 6 (m : Int))
  by_cases hM : 1 ≤ m ∧ m ≤ 200
  · obtain ⟨M1, M9⟩ := hM
    have ho : tbOk ((6 : Nat) : Int) (m : Int) = true := by rw [tbOk, show inB ((6 : Nat) : Int) 0 6 = true from rfl]; exact inB_true.2 ⟨by omega, by omega⟩
    have ha : tbA 6 (m : Int) = tbL 6 m := tbA_yes ho
    rw [show tbOk 6 (m : Int) = true from ho, ha] at Ht
    have Hl := Lib.hid (tbL_len 6 m)
    have HA := Lib.hid hA
    obtain ⟨b, off, hb1, hb2, hb3⟩ := hA (by omega)
    have hc0 := hb3 0 (by omega)
    rw [Nat.add_zero] at hc0
    have m0 : (0 : Int) < (m : Int) := by omega
    by_cases h0 : ivL xs 0 = 1 ∨ ivL xs 0 = -1
    · cases hx : tabB xs with
      | false =>
        have hs : unO xs = false := by rw [unO, hx]; rfl
        rw [unR_no hs, hs]
        have hp : ovP (tbL 6 m) xs = false := by rw [ovP, hx, Bool.and_false]; rfl
        have Hj := Lib.hid (fun W A1 c1 (h1 : Il W A1 (tbL 6 m)) h2 => joined_no W A1 m c1 (tbL 6 m) h1 (tbL_len 6 m).symm hn A m c xs h2 hm hn hp 75)
        obtain ⟨l, hl⟩ : ∃ l, tbL 6 m = l := ⟨_, rfl⟩
        rw [hl] at Ht Hl Hj
        subst hb1
        obtain ⟨a0, ha0⟩ : ∃ a, ivL xs 0 = a := ⟨_, rfl⟩
        rw [ha0] at h0 hc0
        clear ho ha hm hA hl hx hs hp hb3 ha0
        have hg : (a0 != 1 && a0 != -1) = false := by rcases h0 with rfl | rfl <;> rfl
        rcases h0 with rfl | rfl
        all_goals
          go_enter Try.func38, Try.ntmps38
          go_wp2_with fail
          refine (Ht.out _).mono ?_
          rintro e w1 ⟨⟨v, rfl, o1⟩, b1⟩
          obtain ⟨A1, c1, rfl⟩ := o1.shape
          rw [Hl.out] at o1 ⊢
          have HI := Lib.hid (Il_of_own_n o1 Hl.out.symm)
          have hc1 := (b1.cell (p := ⟨b, off, none⟩) hb2).trans hc0
          clear o1
          go_wp2_with fail
          refine (Hj.out _ _ _ HI.out (HA.out.below b1)).mono ?_
          rintro e w2 ⟨⟨v2, rfl, o2⟩, b2⟩
          have o2b := OwnI.mono o2 b1.size
          go_wp2
          go_ret2
          exact ⟨⟨_, rfl, o2b⟩, b1.trans (b2.mono b1.size)⟩
      | true =>
        obtain ⟨x1, x2, x3⟩ := tabB_small hx
        obtain ⟨G, hG9, hgood, hGG⟩ : ∃ G, G ≤ 200 ∧ goodG xs G ∧ ((tabB (unL xs m) = true ∧ G = m) ∨ (tabB (unL xs m) = false ∧ 1 ≤ G ∧ G ≤ m ∧ ¬ (-1000000 ≤ ivL (unL xs G) (G - 1) ∧ ivL (unL xs G) (G - 1) ≤ 1000000))) := by
          rcases un_far (a := xs) M1 M9 with ⟨a, b⟩ | ⟨a, G, g1, g2, g3, g4⟩
          · exact ⟨m, M9, b, .inl ⟨a, rfl⟩⟩
          · exact ⟨G, by omega, g3, .inr ⟨a, g1, g2, g4⟩⟩
        have Hq := Lib.hid (fun q hq => un_result (q := q) hx hm h0 hGG hq)
        have Hj := Lib.hid (fun W A1 c1 (h1 : Il W A1 (tbL 6 m)) h2 => joined_yes W A1 m c1 (tbL 6 m) h1 (tbL_len 6 m).symm A c xs h2 hm (smallL_tab (tb6_small m) (by rw [tbL_len]; exact M1) (by rw [tbL_len]; exact M9)) hx 75 (fun q => ∀ n, 1 ≤ n → n ≤ G → q n = ivL (unL xs G) (n - 1)) (fun _ _ => rfl) (fun W2 => quotient_c W2 (tbL 6 m) xs (tb6_arI M1) x1 h0 G hG9 hgood))
        obtain ⟨l, hl⟩ : ∃ l, tbL 6 m = l := ⟨_, rfl⟩
        rw [hl] at Ht Hl Hj
        subst hb1
        obtain ⟨a0, ha0⟩ : ∃ a, ivL xs 0 = a := ⟨_, rfl⟩
        rw [ha0] at h0 hc0
        clear ho ha hm hA hl hx hb3 ha0 x1 hgood hGG
        rcases h0 with rfl | rfl
        all_goals
          go_enter Try.func38, Try.ntmps38
          go_wp2_with fail
          refine (Ht.out _).mono ?_
          rintro e w1 ⟨⟨v, rfl, o1⟩, b1⟩
          obtain ⟨A1, c1, rfl⟩ := o1.shape
          rw [Hl.out] at o1 ⊢
          have HI := Lib.hid (Il_of_own_n o1 Hl.out.symm)
          have hc1 := (b1.cell (p := ⟨b, off, none⟩) hb2).trans hc0
          clear o1
          go_wp2_with fail
          refine (Hj.out _ _ _ HI.out (HA.out.below b1)).mono ?_
          rintro e w2 ⟨⟨v2, q, rfl, hq, o2⟩, b2⟩
          obtain ⟨e1, e2⟩ := Hq.out q hq
          rw [e1]
          rw [e2] at o2
          have o2b := OwnI.mono o2 b1.size
          go_wp2
          go_ret2
          exact ⟨⟨_, rfl, o2b⟩, b1.trans (b2.mono b1.size)⟩
    · have hs : unO xs = false := by rw [unO, decide_eq_false h0, Bool.and_false]; rfl
      rw [unR_no hs, hs]
      obtain ⟨l, hl⟩ : ∃ l, tbL 6 m = l := ⟨_, rfl⟩
      rw [hl] at Ht Hl
      subst hb1
      obtain ⟨a0, ha0⟩ : ∃ a, ivL xs 0 = a := ⟨_, rfl⟩
      rw [ha0] at h0 hc0
      have z1 : (a0 != 1) = true := bne_iff_ne.2 (by omega)
      have z2 : (a0 != -1) = true := bne_iff_ne.2 (by omega)
      clear ho ha hm hA hl hs hb3 ha0 h0
      go_enter Try.func38, Try.ntmps38
      go_wp2_with fail
      refine (Ht.out _).mono ?_
      rintro e w1 ⟨⟨v, rfl, o1⟩, b1⟩
      obtain ⟨A1, c1, rfl⟩ := o1.shape
      have hc1 := (b1.cell (p := ⟨b, off, none⟩) hb2).trans hc0
      clear o1
      go_wp2
      go_ret2
      exact ⟨⟨_, rfl, OwnI.nil _ _⟩, b1⟩
  · have hx : tabB xs = false := by rw [tabB, ← hm, show inB (m : Int) 1 200 = false from inB_false.2 (by omega)]; rfl
    have ho : tbOk 6 (m : Int) = false := by rw [tbOk, show inB (m : Int) 1 200 = false from inB_false.2 (by omega), Bool.and_false]
    have hs : unO xs = false := by rw [unO, hx]; rfl
    rw [unR_no hs, hs]
    rw [ho, tbA_no ho] at Ht
    clear hm hA hx ho hs hM
    go_enter Try.func38, Try.ntmps38
    go_wp2_with fail
    refine (Ht.out _).mono ?_
    rintro e w1 ⟨⟨v, rfl, o1⟩, b1⟩
    obtain ⟨A1, c1, rfl⟩ := o1.shape
    clear o1
    go_wp2
    go_ret2
    exact ⟨⟨_, rfl, OwnI.nil _ _⟩, b1⟩
end Go.Proofs.Ytkpililllihgcaa
