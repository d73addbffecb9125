import Derived.Test.YtbgoimhgmgldpaaDoorRF
import Derived.Test.YtbgoimhgmgldpaaDoorRB
import Derived.Lib.IndexMore
import Derived.Lib.AtoiAll
namespace Go.Proofs.YtbgoimhgmgldpaaDoor
open Go.RowKit
set_option maxRecDepth 100000
set_option linter.unusedVariables false
set_option linter.unusedSimpArgs false

/-! What the program reads a puzzle's text as: pure. -/
theorem index1_missz {c : UInt8} : ∀ {l : List UInt8}, c ∉ l → Lib.index l [c] = -1
  | [], _ => rfl
  | b :: l, h => by
    have h1 : (c == b) = false := beq_eq_false_iff_ne.2 fun e => h (by rw [e]; exact List.mem_cons_self)
    have h2 := index1_missz (l := l) fun e => h (List.mem_cons_of_mem _ e)
    rw [Lib.index, h2]
    simp [List.isPrefixOf, h1]
theorem index1_hitz {c : UInt8} {r : List UInt8} : ∀ {l : List UInt8}, c ∉ l → Lib.index (l ++ c :: r) [c] = (l.length : Int)
  | [], _ => by
    rw [List.nil_append, Lib.index]
    simp [List.isPrefixOf]
  | b :: l, h => by
    have h1 : (c == b) = false := beq_eq_false_iff_ne.2 fun e => h (by rw [e]; exact List.mem_cons_self)
    have h2 := index1_hitz (r := r) (l := l) fun e => h (List.mem_cons_of_mem _ e)
    have h3 : ((l.length : Int) == -1) = false := beq_eq_false_iff_ne.2 (by omega)
    rw [List.cons_append, Lib.index, h2, h3]
    simp [List.isPrefixOf, h1]
theorem ba_extz {a b : ByteArray} (h : a.data.toList = b.data.toList) : a = b := by
  cases a; cases b
  simp only at h
  congr
  exact Array.toList_inj.1 h
theorem ba_listz (a b : ByteArray) : (a ++ b).data.toList = a.data.toList ++ b.data.toList := by
  rw [ByteArray.data_append, Array.toList_append]
theorem byN_list (s : ByteArray) (i : Nat) : byN s i = ((s.data.toList[i]?).map UInt8.toNat).getD 0 := by
  unfold byN
  by_cases h : i < s.size
  · rw [dif_pos h]
    have h2 : i < s.data.toList.length := by simpa using h
    rw [List.getElem?_eq_getElem h2]
    simp [ByteArray.getElem_eq_getElem_data]
  · rw [dif_neg h, List.getElem?_eq_none (by simpa using h)]; rfl
theorem ex_list (s : ByteArray) (i j : Nat) : (s.extract i j).data.toList = (s.data.toList.drop i).take (j - i) := by
  rw [ByteArray.data_extract, Array.toList_extract, List.extract_eq_take_drop]
theorem ba_size (s : ByteArray) : s.size = s.data.toList.length := by simp
theorem ex_all (s : ByteArray) : s.extract 0 s.size = s := by
  apply ba_extz
  rw [ex_list, List.drop_zero, Nat.sub_zero, ba_size, List.take_length]
/-- A text without that byte is one piece. -/
theorem spO_none {s : ByteArray} {b : Nat} : ∀ k, (∀ i, i < k → byN s i ≠ b) → spO s b k = ([], 0)
  | 0, _ => rfl
  | k + 1, h => by rw [spO_on (h k (by omega)), spO_none k fun i hi => h i (by omega)]
theorem splitL_one {s : ByteArray} {b : Nat} (h : ∀ i, i < s.size → byN s i ≠ b) : splitL s b = [s] := by
  rw [splitL, spO_none _ h, ex_all]; rfl
/-- A text with that byte: what is ahead of it, and the pieces behind it. -/
theorem splitL_cons {a c : ByteArray} {d : UInt8} (h : ∀ i, i < a.size → byN a i ≠ d.toNat) : splitL (a ++ ⟨#[d]⟩ ++ c) d.toNat = a :: splitL c d.toNat := by
  obtain ⟨s, hs⟩ : ∃ s, a ++ ⟨#[d]⟩ ++ c = s := ⟨_, rfl⟩
  have hl : s.data.toList = a.data.toList ++ d :: c.data.toList := by rw [← hs, ba_listz, ba_listz]; simp
  have hsz : s.size = a.size + 1 + c.size := by rw [ba_size, hl, ba_size a, ba_size c]; simp; omega
  rw [hs]
  have hb1 : ∀ i, i < a.size → byN s i = byN a i := fun i hi => by
    rw [byN_list, byN_list, hl, List.getElem?_append_left (by rw [← ba_size]; exact hi)]
  have hb2 : byN s a.size = d.toNat := by
    rw [byN_list, hl, List.getElem?_append_right (by rw [← ba_size]; exact Nat.le_refl _), ba_size, Nat.sub_self]; rfl
  have hb3 : ∀ i, byN s (a.size + 1 + i) = byN c i := fun i => by
    rw [byN_list, byN_list, hl, List.getElem?_append_right (by rw [← ba_size]; omega), ← ba_size, show a.size + 1 + i - a.size = i + 1 by omega, List.getElem?_cons_succ]
  have h0 : spO s d.toNat (a.size + 1) = ([a], a.size + 1) := by
    rw [spO_cut hb2, spO_none a.size fun i hi => by rw [hb1 i hi]; exact h i hi]
    have : s.extract 0 a.size = a := by
      apply ba_extz
      rw [ex_list, hl, List.drop_zero, Nat.sub_zero, ba_size, List.take_append_of_le_length (Nat.le_refl _), List.take_length]
    rw [this]; rfl
  have hex : ∀ i j, s.extract (a.size + 1 + i) (a.size + 1 + j) = c.extract i j := fun i j => by
    apply ba_extz
    rw [ex_list, ex_list, hl, show a.size + 1 + j - (a.size + 1 + i) = j - i by omega, List.drop_append, ← ba_size,
      show a.size + 1 + i - a.size = i + 1 by omega, List.drop_succ_cons, List.drop_eq_nil_of_le (by rw [← ba_size]; omega), List.nil_append]
  have hj : ∀ j, spO s d.toNat (a.size + 1 + j) = (a :: (spO c d.toNat j).1, a.size + 1 + (spO c d.toNat j).2) := by
    intro j
    induction j with
    | zero => exact h0
    | succ j ih =>
      rw [← Nat.add_assoc]
      by_cases hc : byN c j = d.toNat
      · rw [spO_cut (by rw [hb3]; exact hc), spO_cut hc, ih]
        simp only
        rw [hex]; rfl
      · rw [spO_on (by rw [hb3]; exact hc), spO_on hc, ih]
  rw [splitL, hsz, hj, splitL]
  simp only
  rw [hex]; rfl
theorem splitL_pos (s : ByteArray) (b : Nat) : 1 ≤ (splitL s b).length := by rw [splitL, List.length_append]; exact Nat.le_add_left _ _
theorem cut_atz (c : UInt8) : ∀ l : List UInt8, c ∉ l ∨ ∃ a b, l = a ++ c :: b ∧ c ∉ a
  | [] => Or.inl (by simp)
  | x :: l => by
    by_cases h : c = x
    · exact Or.inr ⟨[], l, by rw [h]; rfl, by simp⟩
    · rcases cut_atz c l with h2 | ⟨a, b, rfl, h2⟩
      · exact Or.inl (by simp [h, h2])
      · exact Or.inr ⟨x :: a, b, rfl, by simp [h, h2]⟩
theorem byN_ne {s : ByteArray} {c : UInt8} (h : c ∉ s.data.toList) (i : Nat) (hi : i < s.size) : byN s i ≠ c.toNat := by
  have hi2 : i < s.data.toList.length := by rw [← ba_size]; exact hi
  rw [byN_list, List.getElem?_eq_getElem hi2]
  intro e
  exact h (by rw [← UInt8.toNat_inj.1 e]; exact List.getElem_mem hi2)
/-- What the program's cut tells. -/
theorem cut_nonez {l : List UInt8} {c : UInt8} (h : c ∉ l) : Lib.cut l [c] = (l, [], false) := by
  rw [Lib.cut, index1_missz h]; rfl
theorem cut_somez {a b : List UInt8} {c : UInt8} (h : c ∉ a) : Lib.cut (a ++ c :: b) [c] = (a, b, true) := by
  rw [Lib.cut, index1_hitz h, if_pos (by omega), Int.toNat_natCast]
  rw [List.take_append_of_le_length (Nat.le_refl _), List.take_length, List.drop_append, List.drop_eq_nil_of_le (by omega), Nat.add_sub_cancel_left]
  rfl
/-- A number that is read as 0 .. 3 is that digit. -/
theorem rdA_ten {s : ByteArray} (h : 49 ≤ byN s 0) : ∀ k, 10 ≤ rdA s (k + 2)
  | 0 => by
    rw [rdA, rdA, rdA]; omega
  | k + 1 => by
    have := rdA_ten h k
    rw [rdA]; omega
theorem rdN_dig {s : ByteArray} (h0 : 0 ≤ rdN s) (h3 : rdN s ≤ 3) : s = ⟨#[dig (rdN s)]⟩ := by
  have hc : (rdS s && rdD s) = true := by
    cases hc : (rdS s && rdD s) with
    | true => rfl
    | false => rw [rdN, hc] at h0; simp at h0
  have hv : rdN s = (rdA s s.size : Int) := by rw [rdN, hc]; rfl
  rw [Bool.and_eq_true] at hc
  obtain ⟨hS, hD⟩ := hc
  rw [rdS, Bool.and_eq_true, inB_true] at hS
  obtain ⟨⟨g1, g6⟩, hz⟩ := hS
  have hd : ∀ i, i < s.size → 48 ≤ byN s i ∧ byN s i ≤ 57 := fun i hi => of_decide_eq_true (List.all_eq_true.1 hD i (List.mem_range.2 hi))
  have h1 : s.size = 1 := by
    by_cases h : s.size = 1
    · exact h
    · exfalso
      have hb := hd 0 (by omega)
      have hne : byN s 0 ≠ 48 := by
        intro e
        rw [e, decide_eq_true (show 1 < s.size by omega)] at hz
        exact absurd hz (by decide)
      obtain ⟨k, hk⟩ : ∃ k, s.size = k + 2 := ⟨s.size - 2, by omega⟩
      have := rdA_ten (s := s) (by omega) k
      rw [hv, hk] at h3
      omega
  have hb := hd 0 (by omega)
  have hv2 : rdN s = ((byN s 0 - 48 : Nat) : Int) := by rw [hv, h1, rdA, rdA]; simp
  apply ba_extz
  have hl : s.data.toList.length = 1 := by rw [← ba_size]; exact h1
  obtain ⟨x, hx⟩ : ∃ x, s.data.toList = [x] := List.length_eq_one_iff.1 hl
  have hbx : byN s 0 = x.toNat := by rw [byN_list, hx]; rfl
  rw [hx, hv2]
  show [x] = [dig _]
  rw [dig, Int.toNat_natCast, hbx, show 48 + (x.toNat - 48) = x.toNat by omega]
  simp
theorem rdN_of (n : Int) (h0 : 0 ≤ n) (h3 : n ≤ 3) : rdN ⟨#[dig n]⟩ = n := by
  have : n = 0 ∨ n = 1 ∨ n = 2 ∨ n = 3 := by omega
  rcases this with rfl | rfl | rfl | rfl <;> decide +kernel
theorem atoi_of (n : Int) (h0 : 0 ≤ n) (h3 : n ≤ 3) : Lib.atoiAll [dig n] = .ok n := by
  have : n = 0 ∨ n = 1 ∨ n = 2 ∨ n = 3 := by omega
  rcases this with rfl | rfl | rfl | rfl <;> decide +kernel

/-- A text cut at its first colon. -/
def cuP (s : ByteArray) : ByteArray := ⟨(Lib.cut s.data.toList [58]).1.toArray⟩
def cuC (s : ByteArray) : ByteArray := ⟨(Lib.cut s.data.toList [58]).2.1.toArray⟩
theorem pzB_two {s : ByteArray} {n : Int} (h : pzB s n = true) : s.size ≤ 48 ∧ 0 ≤ n ∧ n ≤ 3 := by
  rw [pzB, Bool.and_eq_true, inB_true] at h
  exact ⟨(patB_parts h.1).2.1, h.2⟩
theorem dig_no (n : Int) (h0 : 0 ≤ n) (h3 : n ≤ 3) : dig n ≠ 58 := by
  have : n = 0 ∨ n = 1 ∨ n = 2 ∨ n = 3 := by omega
  rcases this with rfl | rfl | rfl | rfl <;> decide
theorem atoi_nil : ¬ ∃ u, Lib.atoiAll [] = .ok u := by
  rintro ⟨u, h⟩
  have : (match Lib.atoiAll [] with | .ok _ => true | _ => false) = false := by decide +kernel
  rw [h] at this
  exact absurd this (fun e => Bool.noConfusion e)
/-- What a text reads as, as the program reads it: cut, a number, and the text of both is the text. -/
theorem pp_parts (s : ByteArray) :
    (∀ R, Lib.atoiAll (cuC s).data.toList = .ok R → ppB s = (pzB (cuP s) R && decide (ptxT (cuP s) R = s)) ∧ (ppB s = true → ppA s = cuP s ∧ ppN s = R)) ∧
    ((¬ ∃ R, Lib.atoiAll (cuC s).data.toList = .ok R) → ppB s = false) := by
  rcases cut_atz 58 s.data.toList with h | ⟨a, b, hl, ha⟩
  · have e : Lib.cut s.data.toList [58] = (s.data.toList, [], false) := cut_nonez h
    have ec : (cuC s).data.toList = [] := by simp [cuC, e]
    have hp : ppB s = false := by
      have : splitL s 58 = [s] := splitL_one (b := 58) fun i hi => byN_ne h i hi
      rw [ppB, this, decide_eq_false (show ¬ [s].length = 2 from fun e => by simp at e), Bool.and_false]; rfl
    rw [ec]
    exact ⟨fun R hR => absurd ⟨R, hR⟩ atoi_nil, fun _ => hp⟩
  · have e : Lib.cut s.data.toList [58] = (a, b, true) := by rw [hl]; exact cut_somez ha
    obtain ⟨A, hA⟩ : ∃ A : ByteArray, A.data.toList = a := ⟨⟨a.toArray⟩, by simp⟩
    obtain ⟨B, hB⟩ : ∃ B : ByteArray, B.data.toList = b := ⟨⟨b.toArray⟩, by simp⟩
    have hs : A ++ ⟨#[58]⟩ ++ B = s := by
      apply ba_extz
      rw [ba_listz, ba_listz, hA, hB, hl]; simp
    have eP : cuP s = A := by apply ba_extz; rw [hA]; simp [cuP, e]
    have eC : cuC s = B := by apply ba_extz; rw [hB]; simp [cuC, e]
    have hsp : splitL s 58 = A :: splitL B 58 := by
      rw [← hs]
      exact splitL_cons (d := 58) fun i hi => byN_ne (by rw [hA]; exact ha) i hi
    have hsz : s.size = A.size + 1 + B.size := by rw [ba_size, hl, ba_size A, ba_size B, hA, hB]; simp; omega
    have hT : ∀ R, ptxT A R = s → B = ⟨#[dig R]⟩ := fun R h => by
      rw [ptxT, ← hs] at h
      have := congrArg (fun z : ByteArray => z.data.toList) h
      simp only [ba_listz] at this
      exact (ba_extz (List.append_cancel_left this)).symm
    rw [eP, eC]
    by_cases hb : (58 : UInt8) ∈ B.data.toList
    · have hp : ppB s = false := by
        rcases cut_atz 58 B.data.toList with h | ⟨a2, b2, hl2, ha2⟩
        · exact absurd hb h
        · obtain ⟨A2, hA2⟩ : ∃ A : ByteArray, A.data.toList = a2 := ⟨⟨a2.toArray⟩, by simp⟩
          obtain ⟨B2, hB2⟩ : ∃ B : ByteArray, B.data.toList = b2 := ⟨⟨b2.toArray⟩, by simp⟩
          have hs2 : A2 ++ ⟨#[58]⟩ ++ B2 = B := by
            apply ba_extz
            rw [ba_listz, ba_listz, hA2, hB2, hl2]; simp
          have h2 : splitL B 58 = A2 :: splitL B2 58 := by
            rw [← hs2]
            exact splitL_cons (d := 58) fun i hi => byN_ne (by rw [hA2]; exact ha2) i hi
          have h3 := splitL_pos B2 58
          have : ¬ (splitL s 58).length = 2 := by rw [hsp, h2]; simp only [List.length_cons]; omega
          rw [ppB, decide_eq_false this, Bool.and_false]; rfl
      refine ⟨fun R hR => ⟨?_, fun h => absurd h (by rw [hp]; decide)⟩, fun _ => hp⟩
      rw [hp]
      symm
      rw [Bool.and_eq_false_iff]
      by_cases hz : pzB A R = true
      · right
        rw [decide_eq_false_iff_not]
        intro h
        obtain ⟨_, h0, h3⟩ := pzB_two hz
        rw [hT R h] at hb
        have : (58 : UInt8) = dig R := by simpa using hb
        exact dig_no R h0 h3 this.symm
      · left; simpa using hz
    · have h1 : splitL B 58 = [B] := splitL_one (b := 58) fun i hi => byN_ne hb i hi
      have hpA : ppA s = A := by rw [ppA, hsp]; rfl
      have hpN : ppN s = rdN B := by rw [ppN, hsp, h1]; rfl
      have hlen : decide ((splitL s 58).length = 2) = true := by rw [hsp, h1]; rfl
      have hpB : ppB s = (decide (s.size ≤ 50) && pzB A (rdN B)) := by rw [ppB, hlen, hpA, hpN, Bool.and_true]
      have hyes : ppB s = true → B = ⟨#[dig (rdN B)]⟩ ∧ 0 ≤ rdN B ∧ rdN B ≤ 3 ∧ pzB A (rdN B) = true := fun h => by
        rw [hpB, Bool.and_eq_true] at h
        obtain ⟨_, h0, h3⟩ := pzB_two h.2
        exact ⟨rdN_dig h0 h3, h0, h3, h.2⟩
      have hat : ppB s = true → Lib.atoiAll B.data.toList = .ok (rdN B) := fun h => by
        obtain ⟨e, h0, h3, _⟩ := hyes h
        have := atoi_of (rdN B) h0 h3
        rw [show B.data.toList = [dig (rdN B)] from congrArg (fun z : ByteArray => z.data.toList) e]
        exact this
      constructor
      · intro R hR
        constructor
        · rw [Bool.eq_iff_iff]
          constructor
          · intro h
            have h2 := hat h
            rw [hR] at h2
            obtain ⟨e, h0, h3, hz⟩ := hyes h
            have hRe : R = rdN B := by injection h2
            rw [Bool.and_eq_true, decide_eq_true_eq, hRe]
            refine ⟨hz, ?_⟩
            rw [ptxT, ← e]; exact hs
          · intro h
            rw [Bool.and_eq_true, decide_eq_true_eq] at h
            obtain ⟨h48, h0, h3⟩ := pzB_two h.1
            have e := hT R h.2
            have hr : rdN B = R := by rw [e]; exact rdN_of R h0 h3
            rw [hpB, Bool.and_eq_true, decide_eq_true_eq, hr]
            refine ⟨?_, h.1⟩
            have hB1 : B.size = 1 := by rw [e]; rfl
            omega
        · intro h
          have h2 := hat h
          rw [hR] at h2
          refine ⟨hpA, ?_⟩
          rw [hpN]
          injection h2 with h2
          exact h2.symm
      · intro hno
        cases h : ppB s with
        | false => rfl
        | true => exact absurd ⟨_, hat h⟩ hno

end Go.Proofs.YtbgoimhgmgldpaaDoor
