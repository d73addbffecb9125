import Derived.Test.YtfhaeplamahcpaaDoorD2
import Derived.Test.YtfhaeplamahcpaaDoorSh
import Derived.Lib.Join
import Derived.Lib.ItoaNum
namespace Go.Proofs.YtfhaeplamahcpaaDoor
open Go.RowKit
set_option maxRecDepth 100000
set_option linter.unusedVariables false
set_option linter.unusedSimpArgs false

theorem decDigits_small {n : Nat} (h : n < 100) : (⟨(Lib.decDigits n).toArray⟩ : ByteArray) = numT n := by
  by_cases h1 : n < 10
  · rw [Lib.decDigits, dif_pos h1, numT_small (by omega)]
    have : dig (n : Int) = UInt8.ofNat (48 + n) := by unfold dig; rw [Int.toNat_natCast]
    rw [this]
  · rw [Lib.decDigits, dif_neg h1, numT_big (by omega), Lib.decDigits, dif_pos (by omega)]
    have e1 : dig ((n : Int) / 10) = UInt8.ofNat (48 + n / 10) := by unfold dig; congr 2
    have e2 : dig ((n : Int) % 10) = UInt8.ofNat (48 + n % 10) := by unfold dig; congr 2
    rw [e1, e2]
    rfl
theorem itoa_c (n : Int) (w : World) (h0 : 0 ≤ n) (h1 : n < 100) :
    Calls Tryd.prog 20 #[.int .i64 n] w fun en w' => en = .returned (.string (numT n)) ∧ w = w' := by
  obtain ⟨k, rfl⟩ := Int.eq_ofNat_of_zero_le h0
  rw [← decDigits_small (by omega)]
  exact (Tryd.strconv_Itoa_small k (by omega) w).mono fun _ _ ⟨he, hw⟩ => ⟨he, hw.symm⟩

theorem itoa_s (n : Int) (w : World) (h0 : 0 ≤ n) (h1 : n < 100) :
    Calls Tryd.prog 20 #[.int .i64 n] w fun en w' => en = .returned (.string (numT n)) ∧ w' = w :=
  (itoa_c n w h0 h1).mono fun _ _ ⟨he, hw⟩ => ⟨he, hw.symm⟩

/-- The rules' texts, each. -/
def textsL (rs : List (Int × Int)) : List ByteArray := rs.map fun r => ruleT r.1 r.2
theorem textsL_len (rs : List (Int × Int)) : (textsL rs).length = rs.length := by simp [textsL]
theorem textsL_get {rs : List (Int × Int)} {k : Nat} (h : k < rs.length) : (textsL rs)[k]? = some (ruleT (evL rs k) (reL rs k)) := by
  rw [textsL, List.getElem?_map, List.getElem?_eq_getElem h, evL_ext h]
  rfl
theorem ba_list (a b : ByteArray) : (a ++ b).data.toList = a.data.toList ++ b.data.toList := by
  rw [ByteArray.data_append, Array.toList_append]
theorem ba_ext {a b : ByteArray} (h : a.data.toList = b.data.toList) : a = b := by
  cases a; cases b
  simp only at h
  congr
  exact Array.toList_inj.1 h
theorem joinTail_snoc (sep x : List UInt8) (r : List (List UInt8)) : Lib.joinTail sep (r ++ [x]) = Lib.joinTail sep r ++ (sep ++ x) := by
  simp [Lib.joinTail]
theorem txt_join : ∀ (rs : List (Int × Int)) (k : Nat), k < rs.length →
    (txt rs (k + 1)).data.toList = Lib.join (((textsL rs).take (k + 1)).map (·.data.toList)) [44]
  | rs, 0, h => by
    have hg := textsL_get h
    have : (textsL rs).take (0 + 1) = [ruleT (evL rs 0) (reL rs 0)] := by
      rw [List.take_add_one, List.take_zero, hg]
      rfl
    rw [this, txt_one, txt_zero, ba_list]
    simp [Lib.join_one]
  | rs, k + 1, h => by
    have ih := txt_join rs k (by omega)
    have hg := textsL_get h
    rw [List.take_add_one, hg, List.map_append, txt_succ rs (k + 1) (by omega), ba_list, ba_list, ih]
    have hne : ((textsL rs).take (k + 1)).map (·.data.toList) ≠ [] := by
      intro e
      have h1 : min (k + 1) rs.length = 0 := by
        have := congrArg List.length e
        rw [List.length_map, List.length_take, textsL_len] at this
        exact this
      omega
    generalize ((textsL rs).take (k + 1)).map (·.data.toList) = L at hne ⊢
    cases L with
    | nil => exact absurd rfl hne
    | cons x r =>
      show Lib.join (x :: r) [44] ++ [44] ++ _ = Lib.join (x :: (r ++ [_])) [44]
      rw [Lib.join_cons, Lib.join_cons, joinTail_snoc]
      simp
theorem join_all {rs : List (Int × Int)} (h : 0 < rs.length) : (⟨(Lib.join ((textsL rs).map (·.data.toList)) [44]).toArray⟩ : ByteArray) = txt rs rs.length := by
  apply ba_ext
  have := txt_join rs (rs.length - 1) (by omega)
  rw [show rs.length - 1 + 1 = rs.length by omega, List.take_of_length_le (by rw [textsL_len]; exact Nat.le_refl _)] at this
  rw [this]

theorem join_c (g c : Nat) (rs : List (Int × Int)) (w : World) (hpos : 0 < rs.length) (h12 : rs.length ≤ 1000000)
    (hcells : ∀ (j : Nat) x, (textsL rs)[j]? = some x → w.cell? ⟨g, 0 + j, none⟩ = some (.string x)) (hg : g < w.heap.size) (hcap : rs.length ≤ c) :
    Calls Tryd.prog 21 #[.slice (some ⟨g, 0, none⟩) rs.length c, .string ⟨#[44]⟩] w fun e w' => e = .returned (.string (txt rs rs.length)) ∧ Below w.heap.size w w' := by
  have hj := join_all hpos
  have hs := txt_size rs rs.length
  have hl : (Lib.join ((textsL rs).map (·.data.toList)) [44]).length ≤ 140737488355328 := by
    rw [← hj] at hs
    have : (⟨(Lib.join ((textsL rs).map (·.data.toList)) [44]).toArray⟩ : ByteArray).size = (Lib.join ((textsL rs).map (·.data.toList)) [44]).length := List.size_toArray
    omega
  have h := Tryd.strings_Join g 0 c (textsL rs) ⟨#[44]⟩ w hcells hg (by rw [textsL_len]; omega) (by rw [textsL_len]; exact hcap) hl
  rw [textsL_len] at h
  refine h.mono fun e w' ⟨he, hb⟩ => ⟨?_, hb⟩
  rw [he]
  exact congrArg (fun z => Ending.returned (.string z)) hj

/-- The text of rules, as the functions answer. -/
def textV (rs : List (Int × Int)) : ByteArray := if goodL rs = true then textF rs else ⟨#[]⟩
theorem textV_yes {rs : List (Int × Int)} (h : goodL rs = true) : textV rs = textF rs := if_pos h
theorem textV_no {rs : List (Int × Int)} (h : goodL rs = false) : textV rs = ⟨#[]⟩ := if_neg (by rw [h]; decide)


theorem info_S : (Tryd.prog.info? 9).map (fun i => (i.zero, i.size, i.bytes)) = some (some (.string ⟨#[]⟩), 1, 16) := by kernel_rfl

set_option maxRecDepth 100000 in
set_option maxHeartbeats 1000000 in
theorem impl_RulesText_c (w : World) (A : Option Addr) (m c : Nat) (rs : List (Int × Int)) (hA0 : Rl w A rs) (hm : m = rs.length) (hn : m ≤ 1048576) :
    Calls Tryd.prog 11 #[.slice A m c] w fun en w' => en = .returned (.tuple #[.string (textV rs), .bool (goodL rs)]) ∧ Below w.heap.size w w' := by
  have Hm := Lib.hid hm
  clear hm
  cases hg : goodL rs with
  | false =>
    rw [textV_no hg]
    go_enter Tryd.func11, Tryd.ntmps11
    go_wp2_with fail
    refine (implAreRules_c _ _ _ rs _ hA0 Hm.out hn).mono ?_
    rintro e w1 ⟨rfl, b1⟩
    go_wp2
    go_ret2
    exact ⟨rfl, b1⟩
  | true =>
    rw [textV_yes hg]
    have h12 : m ≤ 12 := by rw [Hm.out]; exact good_len hg
    have Hg := Lib.hid hg
    by_cases h0 : m = 0
    · subst h0
      rw [textF, if_pos Hm.out.symm]
      go_enter Tryd.func11, Tryd.ntmps11
      go_wp2_with fail
      refine (implAreRules_c _ _ _ rs _ hA0 Hm.out hn).mono ?_
      rintro e w1 ⟨rfl, b1⟩
      go_wp2
      go_ret2
      exact ⟨rfl, b1⟩
    have hT : textF rs = txt rs m := by rw [textF, if_neg (by rw [← Hm.out]; exact h0), Hm.out]
    rw [hT]
    clear hT
    have hmk := fun W => mk_full Tryd.underlying45 info_S m (by omega) (by omega) W
    have hmb : (m == 0) = false := by simp; omega
    have hmb2 : ((m : Int) == 0) = false := by simp; omega
    go_enter Tryd.func11, Tryd.ntmps11
    go_wp2_with fail
    refine (implAreRules_c _ _ _ rs _ hA0 Hm.out hn).mono ?_
    rintro e w1 ⟨rfl, b1⟩
    have hA := hA0.below b1
    go_wp2_with fail
    clear hmk hmb hmb2
    have hml := mk_owns (e := 9) #[.string ⟨#[]⟩] 1 m (by unfold maxLen; omega) w1
    rw [Nat.mul_one] at hml
    go_loopw [18] (fun i wr => ∃ k : Nat, k ≤ m ∧ i = .int .i64 k ∧ (∃ xs, wr.ownsRow w1.heap.size 9 1 (.slice (some ⟨w1.heap.size, 0, none⟩) m m) m xs ∧ ∀ j, j < k → xs[j]? = some (.string (ruleT (evL rs j) (reL rs j)))) ∧ Below w1.heap.size w1 wr) (fun i _ => m - (intOf i).toNat)
    case atStart => exact ⟨0, Nat.zero_le _, rfl, ⟨_, hml, by omega⟩, (Below.refl _ _).alloc (Nat.le_refl _) _⟩
    case round =>
      clear hml
      obtain ⟨k, hk, rfl, ⟨xs, hown, hxs⟩, hbel⟩ := hrel
      have Hxs := Lib.hid hxs
      have Hown := Lib.hid hown
      clear hxs hown
      have bz := (b1).size
      by_cases hlt : k < m
      · have hlt1 : k < rs.length := by have := Hm.out; omega
        obtain ⟨b, off, rfl, hb, hr⟩ := hA (by omega)
        have hbw := hbel
        have hc0 := (hbw.cell (p := ⟨b, off + k * 2, none⟩) hb).trans (hr k hlt1).1
        have hc1 := (hbw.cell (p := ⟨b, off + k * 2 + 1, none⟩) hb).trans (hr k hlt1).2
        obtain ⟨e1, e2, e3, e4⟩ := okR_at Hg.out hlt1
        have hn1 : 0 ≤ evL rs k := by omega
        have hn2 : evL rs k < 100 := by omega
        have hn4 : reL rs k < 100 := by omega
        have a1 := addColon (evL rs k)
        have a2 := addRule (evL rs k) (reL rs k)
        have hs := hbel.size
        obtain ⟨x0, hx0, hf0⟩ := own_get Hown.out k (by omega)
        have hg : w1.heap.size < wr.heap.size := (Hown.out.lt _ rfl).2
        have hki : (k : Int) < (m : Int) := by omega
        have Hrt := Lib.hid (show ruleT (evL rs k) (reL rs k) = ruleT (evL rs k) (reL rs k) from rfl)
        generalize hev : evL rs k = ev at *
        generalize hrv : reL rs k = rv at *
        have Hev := Lib.hid hev
        have Hrv := Lib.hid hrv
        clear hev hrv
        go_wp2_with fail
        obtain ⟨W, hd0, hd1, hsz, hbel2, hown1, hy0, hz0, hWe⟩ : ∃ W, W.cell? ⟨wr.heap.size, 0, none⟩ = some (.int .i64 ev) ∧ W.cell? ⟨wr.heap.size, 1, none⟩ = some (.int .i64 rv) ∧ wr.heap.size < W.heap.size ∧ Below w1.heap.size w1 W ∧ W.ownsRow w1.heap.size 9 1 (.slice (some ⟨w1.heap.size, 0, none⟩) m m) m xs ∧
            W.cell? ⟨w1.heap.size, k, none⟩ = some x0 ∧ W.frozen? ⟨w1.heap.size, k, none⟩ = false ∧
            wr.alloc (.cells #[.int .i64 ev, .int .i64 rv] 32) = W :=
          ⟨_, by simp, by simp, by simp, hbel.alloc hs _, World.ownsRow.alloc Hown.out _, (World.cell?_alloc_past _ _ _ hg).trans hx0, (World.frozen?_alloc_past _ _ _ hg).trans hf0, rfl⟩
        rw [hWe]
        clear hWe
        have Hown1 := Lib.hid hown1
        clear hown1 hx0 hf0
        go_still_tail 11, (by kernel_rfl)
        repeat (first | still_step | still_call (itoa_s _ _ (by assumption) (by assumption)))
        refine wpStill_nil ?_
        go_wp2
        go_roundw
        case rel =>
          have h2 := (World.ownsRow.drew Hown1.out).stored k (.string (ruleT ev rv))
          refine ⟨k + 1, by omega, by go_num, ⟨_, h2.1, fun j hj => ?_⟩, (hbel2.drew.setCell (Nat.le_refl _) _)⟩
          have hxl : xs.length = m := by have := Hown.out.1; omega
          rcases Nat.lt_succ_iff_lt_or_eq.1 hj with h | h
          · have := Hxs.out j h
            rw [List.getElem?_set_ne (by omega)]
            exact this
          · subst h
            rw [List.getElem?_set_self (by omega), Hev.out, Hrv.out]
        case measure => simp [intOf]; omega
      · have hkn : k = m := by omega
        subst hkn
        have Hl := Hm.out
        have hpos : 0 < rs.length := by omega
        have hown := Hown.out
        have hxl : xs.length = rs.length := by have := hown.1; omega
        have hcells : ∀ (j : Nat) x, (textsL rs)[j]? = some x → wr.cell? ⟨w1.heap.size, 0 + j, none⟩ = some (.string x) := by
          intro j x hx
          have hj : j < rs.length := by
            rw [← textsL_len rs]
            exact (List.getElem?_eq_some_iff.1 hx).1
          have e := textsL_get hj
          have e2 := Hxs.out j (by omega)
          rw [Nat.zero_add, hown.cellAt j (by omega), e2]
          rw [hx] at e
          exact congrArg (fun z => some (Value.string z)) (Option.some.inj e).symm
        have hgs : w1.heap.size < wr.heap.size := (hown.lt _ rfl).2
        have hJ := join_c w1.heap.size rs.length rs wr hpos (by omega) hcells hgs (Nat.le_refl _)
        rw [← Hl] at hJ
        clear hcells hown hxl Hl
        go_wp2_with fail
        refine hJ.mono ?_
        rintro e w2 ⟨rfl, b2⟩
        go_wp2
        go_ret2
        exact ⟨rfl, (b1).trans ((hbel.trans (b2.mono hbel.size)).mono bz)⟩


end Go.Proofs.YtfhaeplamahcpaaDoor
