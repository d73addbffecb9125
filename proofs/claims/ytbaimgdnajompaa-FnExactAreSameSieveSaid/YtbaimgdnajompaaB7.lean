import Derived.Test.YtbaimgdnajompaaB6
import Derived.Deep.SlicePairs
namespace Go.Proofs.Ytbaimgdnajompaa
open Go.RowKit
set_option linter.unusedVariables false
set_option linter.unusedSimpArgs false

/-- append(v, s...) at a step of a region that draws its order, v a row of rules that the call owns, s read elsewhere. -/
theorem step_app_rules {ops : Array Oper} {o : Oper} {a : Act} {K : Act → World → Prop} {Q : Exit → Act → World → Prop} {E : Prop} (w : World) (hgd : o.guard = none) (s x : Operand)
    (ho : o.op = .call { callee := .builtin .append, args := #[s, x], argTypes := #[31, 31] }) (B : Nat) (v : Value) (rs : List (Int × Int)) (hs : a.eval s = v) (hown : OwnR w B v rs) (ad : Addr) (m c : Nat) (ss : List (Int × Int))
    (hx : a.eval x = .slice (some ad) m c) (hm : m = ss.length) (hnews : ∀ j u, (cellsR ss)[j]? = some u → w.cell? (ad.add j) = some u) (hl : rs.length + ss.length ≤ 1048576) (hB : B ≤ w.heap.size)
    (h : ∀ v' w', OwnR w' B v' (rs ++ ss) → w.grownBy w' v.ownBlock → K (a.put o.dst v') w') :
    if Region.wanted o (yielded ops a.tmps) = true then Oper.wp Try.prog o a w K Q else E := by
  have hw : Region.wanted o (yielded ops a.tmps) = true := by simp [Region.wanted, hgd]
  rw [if_pos hw]
  subst hm
  obtain ⟨i0, hi, hz0, hz1, hz2⟩ := info_parts info_R
  refine wp_append_own w s x 31 ho B 25 i0 _ 2 16 Try.underlying31 hi hz0 hz1 hz2 rfl (by decide) v _ _ hs hown ad _ c (cellsR ss) hx (cellsR_length ss) hnews ?_ (by unfold maxLen; omega) (by omega) hB ?_
  · intro u hu
    simp only [cellsR, List.mem_flatMap] at hu
    obtain ⟨r, _, hr⟩ := hu
    simp at hr
    rcases hr with rfl | rfl <;> rfl
  · intro v' w' hown' hg _
    refine h v' w' ?_ hg
    simpa [OwnR, cellsR, List.flatMap_append] using hown'

/-- The cells of a part of the rules that a slice holds. -/
theorem cells_of_rules {w : World} {b off : Nat} {rs : List (Int × Int)} (hr : RulesAt w b off rs) (s t : Nat) {j : Nat} {u : Value} (h : (cellsR ((rs.drop s).take t))[j]? = some u) : w.cell? ⟨b, off + s * 2 + j, none⟩ = some u := by
  have hl : j < (cellsR ((rs.drop s).take t)).length := (List.getElem?_eq_some_iff.1 h).1
  rw [cellsR_length] at hl
  have hk : j / 2 < ((rs.drop s).take t).length := by omega
  have hks : s + j / 2 < rs.length := by simp only [List.length_take, List.length_drop] at hk; omega
  have hkt : j / 2 < t := by simp only [List.length_take, List.length_drop] at hk; omega
  have hc := cellsR_get ((rs.drop s).take t) (j / 2) hk
  have e1 : evL ((rs.drop s).take t) (j / 2) = evL rs (s + j / 2) := by simp [evL, List.getElem?_take, hkt]
  have e2 : reL ((rs.drop s).take t) (j / 2) = reL rs (s + j / 2) := by simp [reL, List.getElem?_take, hkt]
  have hx := hr (s + j / 2) hks
  rcases Nat.mod_two_eq_zero_or_one j with he | he
  · have ej : j = j / 2 * 2 := by omega
    rw [ej, hc.1, e1] at h
    rw [show off + s * 2 + j = off + (s + j / 2) * 2 by omega, hx.1]
    exact h
  · have ej : j = j / 2 * 2 + 1 := by omega
    rw [ej, hc.2, e2] at h
    rw [show off + s * 2 + j = off + (s + j / 2) * 2 + 1 by omega, hx.2]
    exact h
theorem RulesAt.below {w w' : World} {b off : Nat} {rs : List (Int × Int)} (h : RulesAt w b off rs) (hlt : b < w.heap.size) (hb : Below w.heap.size w w') : RulesAt w' b off rs :=
  fun k hk => ⟨(hb.cell (p := ⟨b, off + k * 2, none⟩) hlt).trans (h k hk).1, (hb.cell (p := ⟨b, off + k * 2 + 1, none⟩) hlt).trans (h k hk).2⟩
theorem own_empty (w : World) : OwnR ((w.alloc (.cells #[] 25)).drew) w.heap.size (.slice (some ⟨w.heap.size, 0, none⟩) 0 0) [] :=
  World.ownsRow.drew (World.ownsRow_made w #[] 0 (Nat.le_refl _) (by simp [maxLen]) (by simp))
theorem erase_parts (rs : List (Int × Int)) (K : Nat) : ([] ++ (rs.drop 0).take K) ++ (rs.drop (K + 1)).take rs.length = rs.eraseIdx K := by
  rw [List.nil_append, List.drop_zero, List.take_of_length_le (l := rs.drop (K + 1)) (by simp), List.eraseIdx_eq_take_drop_succ]

set_option maxRecDepth 100000 in
set_option maxHeartbeats 1600000 in
theorem siWithout_c (w : World) (A : Option Addr) (m c : Nat) (rs : List (Int × Int)) (hA : Rl w A rs) (hm : m = rs.length) (h12 : m ≤ 12) (hmc : m ≤ c) (K : Nat) (hK : K < m) :
    Calls Try.prog 80 #[.slice A m c, .int .i64 (K : Int)] w fun en w' => (∃ v, en = .returned v ∧ OwnR w' w.heap.size v (rs.eraseIdx K)) ∧ Below w.heap.size w w' := by
  have Hm := Lib.hid hm
  obtain ⟨b, off, rfl, hb, hr⟩ := hA (by omega)
  have hk0 : (0 : Int) ≤ (K : Int) := by omega
  have hk1 : (K : Int) ≤ (c : Int) := by omega
  have hk2 : (0 : Int) ≤ (K : Int) + 1 := by omega
  have hk3 : (K : Int) + 1 ≤ (m : Int) := by omega
  have hk4 : (m : Int) ≤ (c : Int) := by omega
  have hw : IntKind.i64.wrap ((K : Int) + 1) = (K : Int) + 1 := IntWalk.i64_in _ (by omega)
  have hn1 : ((K : Int) + 1).toNat = K + 1 := by omega
  have b0 : Below w.heap.size w ((w.alloc (.cells #[] 25)).drew) := ((Below.refl _ _).alloc (Nat.le_refl _) _).drew
  have hl1 : K = ((rs.drop 0).take K).length := by simp; omega
  have hl2 : m - (K + 1) = ((rs.drop (K + 1)).take rs.length).length := by simp; omega
  have hn2 : ∀ j u, (cellsR ((rs.drop 0).take K))[j]? = some u → ((w.alloc (.cells #[] 25)).drew).cell? ((⟨b, off, none⟩ : Addr).add j) = some u := fun j u h => by
    rw [Go.WideShapes.add_plain]; simpa using cells_of_rules (hr.below hb b0) 0 K h
  have Hl1 := Lib.hid hl1
  have Hl2 := Lib.hid hl2
  have Hn2 := Lib.hid hn2
  have hlen1 : ([] : List (Int × Int)).length + ((rs.drop 0).take K).length ≤ 1048576 := by rw [← hl1]; simp; omega
  have hlen2 : ([] ++ (rs.drop 0).take K : List (Int × Int)).length + ((rs.drop (K + 1)).take rs.length).length ≤ 1048576 := by rw [← hl2, List.nil_append, ← hl1]; omega
  have Hlen1 := Lib.hid hlen1
  have Hlen2 := Lib.hid hlen2
  have Hr := Lib.hid hr
  clear hm hl1 hl2 hn2 hlen1 hlen2 hr
  by_cases hc : c = K + 1
  · obtain rfl : m = K + 1 := by omega
    subst hc
    have hk5 : (K : Int) ≤ (K : Int) + 1 := by omega
    have Hz := Lib.hid (show (rs.drop (K + 1)).take rs.length = [] from List.eq_nil_of_length_eq_zero (by rw [← Hl2.out]; omega))
    go_enter Try.func80, Try.ntmps80
    go_wp2_with fail
    go_region_held3 (fun _ => True) (first | exact trivial | trivial) (first | (refine step_app_rules _ (by rfl) (.tmp 5) (.tmp 8) (by rfl) w.heap.size _ [] (by rfl) (own_empty w) _ _ _ ((rs.drop 0).take K) (by rfl) Hl1.out Hn2.out Hlen1.out (by simp) ?_; intro v5 w5 o5 g5; have b5 := b0.trans (below_of_grown g5 b0.size (by intro q hq; simp [Value.ownBlock] at hq; omega)); have hs5 := b5.size) | (refine step_app_rules w5 (by rfl) (.tmp 9) (.tmp 13) (by rfl) w.heap.size v5 ([] ++ (rs.drop 0).take K) (by rfl) o5 _ _ _ ((rs.drop (K + 1)).take rs.length) (by rfl) (by rw [Hz.out]; first | rfl | simp) (by rw [Hz.out]; intro j u h; simp [cellsR] at h) Hlen2.out hs5 ?_; intro v6 w6 o6 g6; have b6 := b5.trans (below_of_grown g6 hs5 fun q hq => (World.ownsRow.lt o5 q hq).1)))
    go_wp2
    go_ret
    exact ⟨⟨_, rfl, by rw [← erase_parts]; exact o6⟩, b6⟩
  · go_enter Try.func80, Try.ntmps80
    go_wp2_with fail
    go_region_held3 (fun _ => True) (first | exact trivial | trivial) (first | (refine step_app_rules _ (by rfl) (.tmp 5) (.tmp 8) (by rfl) w.heap.size _ [] (by rfl) (own_empty w) _ _ _ ((rs.drop 0).take K) (by rfl) Hl1.out Hn2.out Hlen1.out (by simp) ?_; intro v5 w5 o5 g5; have b5 := b0.trans (below_of_grown g5 b0.size (by intro q hq; simp [Value.ownBlock] at hq; omega)); have hs5 := b5.size; have Hn3 := Lib.hid (show ∀ j u, (cellsR ((rs.drop (K + 1)).take rs.length))[j]? = some u → w5.cell? ((⟨b, off + (K + 1) * 2, none⟩ : Addr).add j) = some u from fun j u h => by rw [Go.WideShapes.add_plain]; exact cells_of_rules (RulesAt.below Hr.out hb b5) (K + 1) rs.length h)) | (refine step_app_rules w5 (by rfl) (.tmp 9) (.tmp 13) (by rfl) w.heap.size v5 ([] ++ (rs.drop 0).take K) (by rfl) o5 _ _ _ ((rs.drop (K + 1)).take rs.length) (by rfl) Hl2.out Hn3.out Hlen2.out hs5 ?_; intro v6 w6 o6 g6; have b6 := b5.trans (below_of_grown g6 hs5 fun q hq => (World.ownsRow.lt o5 q hq).1)))
    go_wp2
    go_ret
    exact ⟨⟨_, rfl, by rw [← erase_parts]; exact o6⟩, b6⟩

end Go.Proofs.Ytbaimgdnajompaa
