import Derived.Test.YtfhaeplamahcpaaDoorD2
namespace Go.Proofs.YtfhaeplamahcpaaDoor
open Go.RowKit
set_option linter.unusedVariables false
set_option linter.unusedSimpArgs false

/-! Rules read out of a text, byte for byte; a text of rules read gives the rules. -/
def byP (s : ByteArray) (i : Nat) : Nat := if h : i < s.size then (s[i]'h).toNat else 0
theorem byP_at {s : ByteArray} {i : Nat} (h : i < s.size) : (s[i]'h).toNat = byP s i := by rw [byP, dif_pos h]
theorem byP_left {a b : ByteArray} {i : Nat} (h : i < a.size) : byP (a ++ b) i = byP a i := by
  have h2 : i < (a ++ b).size := by rw [ByteArray.size_append]; omega
  rw [byP, dif_pos h2, byP, dif_pos h, ByteArray.getElem_append_left h]
theorem byP_right {a b : ByteArray} {i : Nat} (h : i < b.size) : byP (a ++ b) (a.size + i) = byP b i := by
  have h2 : a.size + i < (a ++ b).size := by rw [ByteArray.size_append]; omega
  rw [byP, dif_pos h2, byP, dif_pos h, ByteArray.getElem_append_right (by omega)]
  simp
/-- What is read: the whole rules, the number that is being read, the Every that stands. -/
abbrev ScS := List (Int × Int) × Nat × Nat
def scB (t : ScS) (b : Nat) : ScS :=
  if b = 44 then (t.1 ++ [((t.2.2 : Int), (t.2.1 : Int))], 0, 0)
  else if b = 58 then (t.1, 0, t.2.1)
  else if 48 ≤ b ∧ b ≤ 57 then (t.1, min 1000 (10 * t.2.1 + (b - 48)), t.2.2)
  else t
def scG (t : ScS) (s : ByteArray) : Nat → ScS
  | 0 => t
  | k + 1 => scB (scG t s k) (byP s k)
theorem scG_left (t : ScS) (a b : ByteArray) : ∀ k, k ≤ a.size → scG t (a ++ b) k = scG t a k
  | 0, _ => rfl
  | k + 1, h => by rw [scG, scG, scG_left t a b k (by omega), byP_left (by omega)]
theorem scG_right (t : ScS) (a b : ByteArray) : ∀ k, k ≤ b.size → scG t (a ++ b) (a.size + k) = scG (scG t a a.size) b k
  | 0, _ => scG_left t a b a.size (Nat.le_refl _)
  | k + 1, h => by rw [show a.size + (k + 1) = (a.size + k) + 1 by omega, scG, scG, scG_right t a b k (by omega), byP_right (by omega)]
theorem scG_app (t : ScS) (a b : ByteArray) : scG t (a ++ b) (a ++ b).size = scG (scG t a a.size) b b.size := by
  rw [ByteArray.size_append]
  exact scG_right t a b b.size (Nat.le_refl _)
theorem dig_nat {n : Int} (h0 : 0 ≤ n) (h9 : n < 10) : (dig n).toNat = 48 + n.toNat := by
  unfold dig
  rw [UInt8.toNat_ofNat_of_lt' (by show 48 + n.toNat < 256; omega)]
theorem scB_dig (o : List (Int × Int)) (a e : Nat) {n : Int} (h0 : 0 ≤ n) (h9 : n < 10) (ha : a ≤ 9) : scB (o, a, e) (48 + n.toNat) = (o, 10 * a + n.toNat, e) := by
  rw [scB, if_neg (by omega), if_neg (by omega), if_pos (by omega)]
  show (o, min 1000 (10 * a + (48 + n.toNat - 48)), e) = _
  rw [show 48 + n.toNat - 48 = n.toNat by omega, Nat.min_eq_right (by omega)]
theorem scG_num (o : List (Int × Int)) (e : Nat) {n : Int} (h0 : 0 ≤ n) (h9 : n < 100) : scG (o, 0, e) (numT n) (numT n).size = (o, n.toNat, e) := by
  by_cases h : n < 10
  · rw [numT_small h]
    show scB (o, 0, e) (byP ⟨#[dig n]⟩ 0) = _
    rw [show byP ⟨#[dig n]⟩ 0 = (dig n).toNat from rfl, dig_nat h0 h, scB_dig o 0 e h0 h (by omega)]
    simp
  · rw [numT_big h]
    show scB (scB (o, 0, e) (byP ⟨#[dig (n / 10), dig (n % 10)]⟩ 0)) (byP ⟨#[dig (n / 10), dig (n % 10)]⟩ 1) = _
    rw [show byP ⟨#[dig (n / 10), dig (n % 10)]⟩ 0 = (dig (n / 10)).toNat from rfl, show byP ⟨#[dig (n / 10), dig (n % 10)]⟩ 1 = (dig (n % 10)).toNat from rfl,
      dig_nat (by omega) (by omega), dig_nat (by omega) (by omega), scB_dig o 0 e (by omega) (by omega) (by omega), scB_dig o _ e (by omega) (by omega) (by omega)]
    have : 10 * (10 * 0 + (n / 10).toNat) + (n % 10).toNat = n.toNat := by omega
    rw [this]
theorem scG_rule (o : List (Int × Int)) {e r : Int} (e0 : 0 ≤ e) (e9 : e < 100) (r0 : 0 ≤ r) (r9 : r < 100) : scG (o, 0, 0) (ruleT e r) (ruleT e r).size = (o, r.toNat, e.toNat) := by
  rw [ruleT, scG_app, scG_app, scG_num o 0 e0 e9]
  show scG (scB (o, e.toNat, 0) 58) (numT r) (numT r).size = _
  exact scG_num o e.toNat r0 r9
def scI : ScS := ([], 0, 0)
theorem scG_txt {rs : List (Int × Int)} (hg : goodL rs = true) : ∀ k, k < rs.length → scG scI (txt rs (k + 1)) (txt rs (k + 1)).size = (rs.take k, (reL rs k).toNat, (evL rs k).toNat)
  | 0, h => by
    obtain ⟨e1, e2, r1, r2⟩ := okR_at hg h
    rw [txt_one, scG_app]
    exact scG_rule [] (by omega) (by omega) r1 (by omega)
  | k + 1, h => by
    obtain ⟨e1, e2, r1, r2⟩ := okR_at hg h
    obtain ⟨f1, f2, q1, q2⟩ := okR_at hg (show k < rs.length by omega)
    rw [txt_succ rs (k + 1) (by omega), scG_app, scG_app, scG_txt hg k (by omega)]
    show scG (scB (rs.take k, (reL rs k).toNat, (evL rs k).toNat) 44) _ _ = _
    rw [show scB (rs.take k, (reL rs k).toNat, (evL rs k).toNat) 44 = (rs.take (k + 1), 0, 0) by
      rw [scB, if_pos rfl, List.take_succ_eq_append_getElem (by omega)]
      have hp : rs[k]'(by omega) = (evL rs k, reL rs k) := by simp [evL, reL, List.getD_eq_getElem?_getD, List.getElem?_eq_getElem (show k < rs.length by omega)]
      rw [hp]
      show (rs.take k ++ [(((evL rs k).toNat : Int), ((reL rs k).toNat : Int))], 0, 0) = _
      rw [Int.toNat_of_nonneg (by omega), Int.toNat_of_nonneg (by omega)]]
    exact scG_rule _ (by omega) (by omega) r1 (by omega)
/-- The rules that a text's bytes tell. -/
def scL (s : ByteArray) : List (Int × Int) := (scB (scG scI s s.size) 44).1
theorem scL_txt {rs : List (Int × Int)} (hg : goodL rs = true) (h : 0 < rs.length) : scL (txt rs rs.length) = rs := by
  obtain ⟨k, hk⟩ : ∃ k, rs.length = k + 1 := ⟨rs.length - 1, by omega⟩
  obtain ⟨e1, e2, r1, r2⟩ := okR_at hg (show k < rs.length by omega)
  rw [hk, scL, scG_txt hg k (by omega), scB, if_pos rfl]
  have hp : rs[k]'(by omega) = (evL rs k, reL rs k) := by simp [evL, reL, List.getD_eq_getElem?_getD, List.getElem?_eq_getElem (show k < rs.length by omega)]
  show rs.take k ++ [(((evL rs k).toNat : Int), ((reL rs k).toNat : Int))] = rs
  rw [Int.toNat_of_nonneg (by omega), Int.toNat_of_nonneg (by omega), ← hp, ← List.take_succ_eq_append_getElem (show k < rs.length by omega), ← hk, List.take_length]
/-- The text's one reading: whoever has a text of good rules has the rules. -/
theorem textF_inj {rs : List (Int × Int)} (hg : goodL rs = true) (h : 0 < rs.length) : scL (textF rs) = rs := by
  rw [textF, if_neg (by omega)]
  exact scL_txt hg h
theorem textF_size {rs : List (Int × Int)} (hg : goodL rs = true) : (textF rs).size ≤ 72 := by
  have h12 := good_len hg
  rw [textF]
  split
  · decide
  · have := txt_size rs rs.length
    omega
end Go.Proofs.YtfhaeplamahcpaaDoor
