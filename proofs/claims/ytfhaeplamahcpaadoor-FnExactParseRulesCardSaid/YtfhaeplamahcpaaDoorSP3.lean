import Derived.Test.YtfhaeplamahcpaaDoorSP1
import Derived.Lib.IndexMore
import Derived.Lib.AtoiAll
namespace Go.Proofs.YtfhaeplamahcpaaDoor
open Go.RowKit
set_option linter.unusedVariables false
set_option linter.unusedSimpArgs false

/-! What the program reads: the text split at commas, each piece cut at its first colon, both halves read by strconv.Atoi. -/
theorem index1_miss {c : UInt8} : ∀ {l : List UInt8}, c ∉ l → Lib.index l [c] = -1
  | [], _ => rfl
  | b :: l, h => by
    have h1 : (c == b) = false := beq_eq_false_iff_ne.2 fun e => h (by rw [e]; exact List.mem_cons_self)
    have h2 := index1_miss (l := l) fun e => h (List.mem_cons_of_mem _ e)
    rw [Lib.index, h2]
    simp [List.isPrefixOf, h1]
theorem index1_hit {c : UInt8} {r : List UInt8} : ∀ {l : List UInt8}, c ∉ l → Lib.index (l ++ c :: r) [c] = (l.length : Int)
  | [], _ => by
    rw [List.nil_append, Lib.index]
    simp [List.isPrefixOf]
  | b :: l, h => by
    have h1 : (c == b) = false := beq_eq_false_iff_ne.2 fun e => h (by rw [e]; exact List.mem_cons_self)
    have h2 := index1_hit (r := r) (l := l) fun e => h (List.mem_cons_of_mem _ e)
    have h3 : ((l.length : Int) == -1) = false := beq_eq_false_iff_ne.2 (by omega)
    rw [List.cons_append, Lib.index, h2, h3]
    simp [List.isPrefixOf, h1]
/-- A text split at commas. -/
def sqL : Nat → List UInt8 → List (List UInt8)
  | 0, l => [l]
  | f + 1, l => if Lib.index l [44] = -1 then [l] else l.take (Lib.index l [44]).toNat :: sqL f (l.drop ((Lib.index l [44]).toNat + 1))
/-- A piece read; all pieces. -/
def pcR (l : List UInt8) : Option (Int × Int) :=
  match Lib.atoiAll (Lib.cut l [58]).1, Lib.atoiAll (Lib.cut l [58]).2.1 with
  | .ok e, .ok r => some (e, r)
  | _, _ => none
def pcL : List (List UInt8) → Option (List (Int × Int))
  | [] => some []
  | l :: t => match pcR l, pcL t with
    | some x, some xs => some (x :: xs)
    | _, _ => none
def rdI (s : ByteArray) : Option (List (Int × Int)) := pcL (sqL s.size s.data.toList)
/-- The bytes of a number of one or two digits, of a rule, of rules. -/
def dgL (n : Int) : List UInt8 := (numT n).data.toList
def rsL (x : Int × Int) : List UInt8 := dgL x.1 ++ 58 :: dgL x.2
def jnL : List (Int × Int) → List UInt8
  | [] => []
  | [x] => rsL x
  | x :: y :: t => rsL x ++ 44 :: jnL (y :: t)
def dgOk (n : Nat) : Bool := decide (Lib.atoiAll (dgL (n : Int)) = .ok (n : Int)) && !(dgL (n : Int)).contains 44 && !(dgL (n : Int)).contains 58
theorem dgOk_all : (List.range 100).all dgOk = true := by decide +kernel
theorem dgL_parts {n : Int} (h0 : 0 ≤ n) (h9 : n < 100) : Lib.atoiAll (dgL n) = .ok n ∧ 44 ∉ dgL n ∧ 58 ∉ dgL n := by
  obtain ⟨k, rfl⟩ := Int.eq_ofNat_of_zero_le h0
  have h := List.all_eq_true.1 dgOk_all k (List.mem_range.2 (by omega))
  rw [dgOk, Bool.and_eq_true, Bool.and_eq_true] at h
  refine ⟨of_decide_eq_true h.1.1, fun e => ?_, fun e => ?_⟩
  · have := h.1.2
    rw [List.contains_iff_mem.2 e] at this
    exact absurd this (by decide)
  · have := h.2
    rw [List.contains_iff_mem.2 e] at this
    exact absurd this (by decide)
theorem rsL_comma {x : Int × Int} (h1 : 0 ≤ x.1) (h2 : x.1 < 100) (h3 : 0 ≤ x.2) (h4 : x.2 < 100) : (44 : UInt8) ∉ rsL x := by
  intro h
  rw [rsL] at h
  rcases List.mem_append.1 h with h | h
  · exact (dgL_parts h1 h2).2.1 h
  · rcases List.mem_cons.1 h with h | h
    · exact absurd h (by decide)
    · exact (dgL_parts h3 h4).2.1 h
theorem pcR_rsL {x : Int × Int} (h1 : 0 ≤ x.1) (h2 : x.1 < 100) (h3 : 0 ≤ x.2) (h4 : x.2 < 100) : pcR (rsL x) = some x := by
  obtain ⟨a1, a2, a3⟩ := dgL_parts h1 h2
  obtain ⟨b1, b2, b3⟩ := dgL_parts h3 h4
  have hi : Lib.index (rsL x) [58] = ((dgL x.1).length : Int) := index1_hit a3
  have hc : Lib.cut (rsL x) [58] = (dgL x.1, dgL x.2, true) := by
    rw [Lib.cut, hi, if_pos (by omega), Int.toNat_natCast, rsL]
    simp
  rw [pcR, hc]
  simp only [a1, b1]
/-- Good rules, each within what has two digits. -/
def smL (rs : List (Int × Int)) : Prop := ∀ x ∈ rs, 0 ≤ x.1 ∧ x.1 < 100 ∧ 0 ≤ x.2 ∧ x.2 < 100
theorem sqL_jnL : ∀ (rs : List (Int × Int)) (f : Nat), rs ≠ [] → smL rs → rs.length ≤ f + 1 → sqL f (jnL rs) = rs.map rsL
  | [], _, h, _, _ => absurd rfl h
  | [x], 0, _, _, _ => rfl
  | [x], f + 1, _, hs, _ => by
    obtain ⟨h1, h2, h3, h4⟩ := hs x List.mem_cons_self
    rw [jnL, sqL, if_pos (index1_miss (rsL_comma h1 h2 h3 h4))]
    rfl
  | x :: y :: t, 0, _, _, hl => by simp at hl
  | x :: y :: t, f + 1, _, hs, hl => by
    obtain ⟨h1, h2, h3, h4⟩ := hs x List.mem_cons_self
    have hi : Lib.index (rsL x ++ 44 :: jnL (y :: t)) [44] = ((rsL x).length : Int) := index1_hit (rsL_comma h1 h2 h3 h4)
    rw [jnL, sqL, hi, if_neg (by omega), Int.toNat_natCast, List.take_left]
    rw [show (rsL x ++ 44 :: jnL (y :: t)).drop ((rsL x).length + 1) = jnL (y :: t) by simp]
    rw [sqL_jnL (y :: t) f (by simp) (fun z hz => hs z (List.mem_cons_of_mem _ hz)) (by simp at hl ⊢; omega)]
    rfl
theorem pcL_map : ∀ rs : List (Int × Int), smL rs → pcL (rs.map rsL) = some rs
  | [], _ => rfl
  | x :: t, hs => by
    obtain ⟨h1, h2, h3, h4⟩ := hs x List.mem_cons_self
    rw [List.map_cons, pcL, pcR_rsL h1 h2 h3 h4, pcL_map t fun z hz => hs z (List.mem_cons_of_mem _ hz)]
theorem jnL_snoc : ∀ (rs : List (Int × Int)) (x : Int × Int), rs ≠ [] → jnL (rs ++ [x]) = jnL rs ++ 44 :: rsL x
  | [], _, h => absurd rfl h
  | [y], x, _ => rfl
  | y :: z :: t, x, _ => by
    have h := jnL_snoc (z :: t) x (by simp)
    show rsL y ++ 44 :: jnL (z :: (t ++ [x])) = _
    rw [show z :: (t ++ [x]) = (z :: t) ++ [x] from rfl, h, jnL]
    simp
theorem jnL_len : ∀ rs : List (Int × Int), rs.length ≤ (jnL rs).length
  | [] => Nat.le_refl _
  | [x] => by rw [jnL, rsL]; simp; omega
  | x :: y :: t => by
    have h := jnL_len (y :: t)
    rw [jnL]
    simp at h ⊢
    omega
theorem data_append (a b : ByteArray) : (a ++ b).data.toList = a.data.toList ++ b.data.toList := by simp [ByteArray.data_append]
theorem ruleT_bytes (e r : Int) : (ruleT e r).data.toList = rsL (e, r) := by
  rw [ruleT, data_append, data_append, rsL, dgL, dgL]
  simp
theorem txt_bytes {rs : List (Int × Int)} : ∀ k, k < rs.length → (txt rs (k + 1)).data.toList = jnL (rs.take (k + 1))
  | 0, h => by
    rw [txt_one, data_append, ruleT_bytes, List.take_succ_eq_append_getElem h]
    have hp : rs[0] = (evL rs 0, reL rs 0) := by simp [evL, reL, List.getD_eq_getElem?_getD, List.getElem?_eq_getElem h]
    rw [hp]
    rfl
  | k + 1, h => by
    have hp : rs[k + 1] = (evL rs (k + 1), reL rs (k + 1)) := by simp [evL, reL, List.getD_eq_getElem?_getD, List.getElem?_eq_getElem h]
    have hne : rs.take (k + 1) ≠ [] := by
      intro e
      have h1 := congrArg List.length e
      rw [List.length_take, List.length_nil] at h1
      omega
    rw [txt_succ rs (k + 1) (by omega), data_append, data_append, ruleT_bytes, txt_bytes k (by omega), List.take_succ_eq_append_getElem h, hp, jnL_snoc _ _ hne]
    simp
theorem smL_good {rs : List (Int × Int)} (hg : goodL rs = true) : smL rs := by
  intro x hx
  obtain ⟨k, hk, rfl⟩ := List.mem_iff_getElem.1 hx
  obtain ⟨e1, e2, r1, r2⟩ := okR_at hg hk
  have hp : rs[k] = (evL rs k, reL rs k) := by simp [evL, reL, List.getD_eq_getElem?_getD, List.getElem?_eq_getElem hk]
  rw [hp]
  show 0 ≤ evL rs k ∧ evL rs k < 100 ∧ 0 ≤ reL rs k ∧ reL rs k < 100
  omega
/-- The program's reading of a text of good rules gives them. -/
theorem rdI_text {rs : List (Int × Int)} (hg : goodL rs = true) (h : 0 < rs.length) : rdI (textF rs) = some rs := by
  have hb : (textF rs).data.toList = jnL rs := by
    obtain ⟨k, hk⟩ : ∃ k, rs.length = k + 1 := ⟨rs.length - 1, by omega⟩
    rw [textF, if_neg (by omega), hk, txt_bytes k (by omega), ← hk, List.take_length]
  have hsz : rs.length ≤ (textF rs).size := by
    have h1 := jnL_len rs
    rw [← hb] at h1
    simpa using h1
  have hne : rs ≠ [] := fun e => by rw [e] at h; exact absurd h (by decide)
  rw [rdI, hb, sqL_jnL rs _ hne (smL_good hg) (by omega), pcL_map rs (smL_good hg)]
/-- What the program answers: where what it read are good rules with this very text. -/
theorem pr_read {s : ByteArray} {rs : List (Int × Int)} (hd : s ≠ ⟨#[45]⟩) (h : rdI s = some rs) : prB s = (goodL rs && decide (textF rs = s)) ∧ prL s = if goodL rs && decide (textF rs = s) then rs else [] := by
  by_cases hc : goodL rs = true ∧ textF rs = s
  · obtain ⟨h1, h2⟩ := pr_of hc.1 hc.2
    rw [h1, h2, hc.1, decide_eq_true hc.2]
    exact ⟨rfl, rfl⟩
  · have hf : (goodL rs && decide (textF rs = s)) = false := by
      cases hg : goodL rs with
      | false => rfl
      | true => rw [decide_eq_false fun e => hc ⟨hg, e⟩]; rfl
    rw [hf]
    refine pr_not fun rs' hg' ht' => hc ?_
    have h0 : 0 < rs'.length := by
      rcases Nat.eq_zero_or_pos rs'.length with e | e
      · rw [List.length_eq_zero_iff.1 e, textF_nil] at ht'
        exact absurd ht'.symm hd
      · exact e
    have h1 := rdI_text hg' h0
    rw [ht', h] at h1
    injection h1 with h1
    rw [h1]
    exact ⟨hg', ht'⟩
theorem pr_none {s : ByteArray} (hd : s ≠ ⟨#[45]⟩) (h : rdI s = none) : prB s = false ∧ prL s = [] := by
  refine pr_not fun rs' hg' ht' => ?_
  have h0 : 0 < rs'.length := by
    rcases Nat.eq_zero_or_pos rs'.length with e | e
    · rw [List.length_eq_zero_iff.1 e, textF_nil] at ht'
      exact absurd ht'.symm hd
    · exact e
  have h1 := rdI_text hg' h0
  rw [ht', h] at h1
  cases h1
end Go.Proofs.YtfhaeplamahcpaaDoor
