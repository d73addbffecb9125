import Derived.Test.YtaapfapejekkfaaW0
namespace Go.Proofs.Ytaapfapejekkfaa
open Go.RowKit
set_option linter.unusedVariables false
set_option linter.unusedSimpArgs false

def zeroW : Array Value := #[.int .i64 0, .slice none 0 0, .slice none 0 0]
theorem upF_mem {p : Int → Bool} {k : Nat} {x : Int} : x ∈ upF p k ↔ 1 ≤ x ∧ x ≤ (k : Int) ∧ p x = true := by
  simp only [upF, List.mem_filter, List.mem_map, List.mem_range]
  constructor
  · rintro ⟨⟨i, h1, rfl⟩, h2⟩; exact ⟨by omega, by omega, h2⟩
  · rintro ⟨h1, h2, h3⟩; exact ⟨⟨(x - 1).toNat, by omega, by omega⟩, h3⟩
theorem turns_none {rs : List (Int × Int)} {P : Nat} (hg : goodL rs = true) (hp : perF rs = (P : Int)) (h1 : 1 ≤ P) (h : anyLeft rs P = false) : upF (leftF rs) (2 * P) = [] := by
  rw [List.eq_nil_iff_forall_not_mem]
  intro x hx
  have hl := (upF_mem.1 hx).2.2
  have hd := per_dvd hg (by omega)
  rw [hp] at hd
  have h2 := left_add hd (x % (P : Int)) (x / (P : Int))
  rw [Int.emod_add_mul_ediv, hl] at h2
  have h3 := Int.emod_nonneg x (b := (P : Int)) (by omega)
  have h4 := Int.emod_lt_of_pos x (b := (P : Int)) (by omega)
  have : anyLeft rs P = true := anyLeft_iff.2 ⟨(x % (P : Int)).toNat, by omega, by rw [Int.toNat_of_nonneg h3]; exact h2.symm⟩
  rw [this] at h
  cases h
theorem whB_per {rs : List (Int × Int)} (h : perOk rs = false) : whB rs = false := by
  cases hg : goodL rs with
  | false => exact whB_no hg
  | true =>
    rw [perOk, hg, Bool.true_and, Bool.not_eq_false'] at h
    exact whB_big (by have := beq_iff_eq.1 h; omega)

theorem perV_per {xs : List (Int × Int)} (h : perOk xs = true) : perV xs = perF xs := by rw [perV, (perOk_parts h).1]; rfl
theorem zeroW_0 {w : World} {g : Nat} {t : TypeId} {fr : Nat × Nat} (h : w.heap[g]? = some (.cells zeroW t fr)) : w.cell? ⟨g, 0, none⟩ = some (.int .i64 0) := cell_of_row w g 0 _ _ _ h
theorem zeroW_1 {w : World} {g : Nat} {t : TypeId} {fr : Nat × Nat} (h : w.heap[g]? = some (.cells zeroW t fr)) : w.cell? ⟨g, 1, none⟩ = some (.slice none 0 0) := cell_of_row w g 1 _ _ _ h
theorem zeroW_2 {w : World} {g : Nat} {t : TypeId} {fr : Nat × Nat} (h : w.heap[g]? = some (.cells zeroW t fr)) : w.cell? ⟨g, 2, none⟩ = some (.slice none 0 0) := cell_of_row w g 2 _ _ _ h
/-- What wheelOf hands back. -/
def WheelV (w : World) (B : Nat) (v : Value) (rs : List (Int × Int)) : Prop :=
  ∃ vs vt, v = .agg #[.int .i64 (whP rs : Int), vs, vt] ∧ HeadI w B vs (spV rs) ∧ OwnI w B vt (stV rs)

set_option maxRecDepth 100000 in
set_option maxHeartbeats 800000 in
theorem wheelOf_1 (w : World) (A : Option Addr) (m c : Nat) (rs : List (Int × Int)) (hA : Rl w A rs) (hm : m = rs.length) (hn : m ≤ 1048576) (hk : perOk rs = false) :
    Calls Try.prog 199 #[.slice A m c] w fun en w' => (∃ v, en = .returned (.tuple #[v, .bool (whB rs)]) ∧ WheelV w' w.heap.size v rs) ∧ Below w.heap.size w w' := by
  have Hm := Lib.hid hm
  clear hm
  have hw := whB_per hk
  have hv := perV_no hk
  rw [hw]
  have Hw := Lib.hid hw
  clear hw
  have hz1 : (w.alloc (.cells zeroW 130)).heap[w.heap.size]? = some (.cells zeroW 130 (0, 0)) := heap_alloc_new w _
  have Hz1 := Lib.hid hz1
  clear hz1
  go_enter Try.func199, Try.ntmps199
  go_wp2_with fail
  refine (impl_PeriodOfRules_c _ _ _ _ rs (hA.below ((Below.refl _ _).alloc (Nat.le_refl _) _)) Hm.out hn).mono ?_
  rw [hk, hv]
  rintro e w1 ⟨rfl, b1⟩
  have b01 : Below w.heap.size w w1 := ((Below.refl _ _).alloc (Nat.le_refl _) _).trans (b1.mono (by simp))
  have hlt1 : w.heap.size < w1.heap.size := by have := b1.size; simp at this; omega
  have hc := (b1.block _ (by simp)).trans Hz1.out
  have hc0 := zeroW_0 hc
  have hc1 := zeroW_1 hc
  have hc2 := zeroW_2 hc
  have hf := fun k => frozen_of_row w1 w.heap.size k _ _ hc
  clear hc
  go_wp2
  try simp only [Exit.inBlock, Exit.then]
  refine bodyPost_ret (v := .tuple #[.agg zeroW, .bool false]) (by rw [results_cell_tmp rfl]; go_simp; rfl) rfl ⟨⟨_, rfl, _, _, by rw [whP_no Hw.out]; rfl, by rw [spV_no Hw.out]; exact HeadI.nil _ _, by rw [stV_no Hw.out]; exact OwnI.nil _ _⟩, ?_⟩
  exact ((b01.setCell (by simp) _).setCell (by simp) _).setCell (by simp) _
set_option maxRecDepth 100000 in
set_option maxHeartbeats 800000 in
theorem wheelOf_2 (w : World) (A : Option Addr) (m c : Nat) (rs : List (Int × Int)) (hA : Rl w A rs) (hm : m = rs.length) (hn : m ≤ 1048576) (hk : perOk rs = true) (hb : 5000 < perF rs) :
    Calls Try.prog 199 #[.slice A m c] w fun en w' => (∃ v, en = .returned (.tuple #[v, .bool (whB rs)]) ∧ WheelV w' w.heap.size v rs) ∧ Below w.heap.size w w' := by
  have Hm := Lib.hid hm
  clear hm
  have hw : whB rs = false := whB_big (by omega)
  have hv := perV_per hk
  rw [hw]
  have Hw := Lib.hid hw
  clear hw
  have hz1 : (w.alloc (.cells zeroW 130)).heap[w.heap.size]? = some (.cells zeroW 130 (0, 0)) := heap_alloc_new w _
  have Hz1 := Lib.hid hz1
  clear hz1
  go_enter Try.func199, Try.ntmps199
  go_wp2_with fail
  refine (impl_PeriodOfRules_c _ _ _ _ rs (hA.below ((Below.refl _ _).alloc (Nat.le_refl _) _)) Hm.out hn).mono ?_
  rw [hk, hv]
  rintro e w1 ⟨rfl, b1⟩
  have b01 : Below w.heap.size w w1 := ((Below.refl _ _).alloc (Nat.le_refl _) _).trans (b1.mono (by simp))
  have hlt1 : w.heap.size < w1.heap.size := by have := b1.size; simp at this; omega
  have hc := (b1.block _ (by simp)).trans Hz1.out
  have hc0 := zeroW_0 hc
  have hc1 := zeroW_1 hc
  have hc2 := zeroW_2 hc
  have hf := fun k => frozen_of_row w1 w.heap.size k _ _ hc
  clear hc
  go_wp2
  try simp only [Exit.inBlock, Exit.then]
  refine bodyPost_ret (v := .tuple #[.agg zeroW, .bool false]) (by rw [results_cell_tmp rfl]; go_simp; rfl) rfl ⟨⟨_, rfl, _, _, by rw [whP_no Hw.out]; rfl, by rw [spV_no Hw.out]; exact HeadI.nil _ _, by rw [stV_no Hw.out]; exact OwnI.nil _ _⟩, ?_⟩
  exact ((b01.setCell (by simp) _).setCell (by simp) _).setCell (by simp) _
set_option maxRecDepth 100000 in
set_option maxHeartbeats 800000 in
theorem wheelOf_3 (w : World) (A : Option Addr) (m c : Nat) (rs : List (Int × Int)) (hA : Rl w A rs) (hm : m = rs.length) (hn : m ≤ 1048576) (hk : perOk rs = true) (P : Nat) (hP : perF rs = (P : Int)) (hP5 : P ≤ 5000) (hno : anyLeft rs P = false) :
    Calls Try.prog 199 #[.slice A m c] w fun en w' => (∃ v, en = .returned (.tuple #[v, .bool (whB rs)]) ∧ WheelV w' w.heap.size v rs) ∧ Below w.heap.size w w' := by
  have Hm := Lib.hid hm
  clear hm
  obtain ⟨hg, _, p1, _⟩ := perOk_parts hk
  have hw : whB rs = false := whB_none (by rw [hP]; exact hno)
  have hv : perV rs = (P : Int) := (perV_per hk).trans hP
  have hnil := turns_none hg hP (by omega) hno
  rw [hw]
  have Hw := Lib.hid hw
  have Hg := Lib.hid hg
  have Hnil := Lib.hid hnil
  clear hw hg hnil hno
  have hz1 : (w.alloc (.cells zeroW 130)).heap[w.heap.size]? = some (.cells zeroW 130 (0, 0)) := heap_alloc_new w _
  have Hz1 := Lib.hid hz1
  clear hz1
  go_enter Try.func199, Try.ntmps199
  go_wp2_with fail
  refine (impl_PeriodOfRules_c _ _ _ _ rs (hA.below ((Below.refl _ _).alloc (Nat.le_refl _) _)) Hm.out hn).mono ?_
  rw [hk, hv]
  rintro e w1 ⟨rfl, b1⟩
  have b01 : Below w.heap.size w w1 := ((Below.refl _ _).alloc (Nat.le_refl _) _).trans (b1.mono (by simp))
  have hlt1 : w.heap.size < w1.heap.size := by have := b1.size; simp at this; omega
  have hc := (b1.block _ (by simp)).trans Hz1.out
  have Hc := Lib.hid hc
  clear hc
  have hA1 := hA.below b01
  go_wp2_with fail
  refine (leftInTurns_c _ _ _ _ rs hA1 Hm.out Hg.out P (by omega)).mono ?_
  rw [Hnil.out]
  rintro e w2 ⟨⟨v2, rfl, o2⟩, b2⟩
  obtain ⟨A2, c2, rfl⟩ := o2.shape
  clear o2
  have b02 := b01.trans (b2.mono b01.size)
  have hc := (b2.block _ hlt1).trans Hc.out
  have hc0 := zeroW_0 hc
  have hc1 := zeroW_1 hc
  have hc2 := zeroW_2 hc
  have hf := fun k => frozen_of_row w2 w.heap.size k _ _ hc
  clear hc
  go_wp2
  try simp only [Exit.inBlock, Exit.then]
  refine bodyPost_ret (v := .tuple #[.agg zeroW, .bool false]) (by rw [results_cell_tmp rfl]; go_simp; rfl) rfl ⟨⟨_, rfl, _, _, by rw [whP_no Hw.out]; rfl, by rw [spV_no Hw.out]; exact HeadI.nil _ _, by rw [stV_no Hw.out]; exact OwnI.nil _ _⟩, ?_⟩
  exact ((b02.setCell (by simp) _).setCell (by simp) _).setCell (by simp) _
set_option maxRecDepth 100000 in
set_option maxHeartbeats 800000 in
theorem wheelOf_4 (w : World) (A : Option Addr) (m c : Nat) (rs : List (Int × Int)) (hA : Rl w A rs) (hm : m = rs.length) (hn : m ≤ 1048576) (hk : perOk rs = true) (P : Nat) (hP : perF rs = (P : Int)) (hP5 : P ≤ 5000) (hw : whB rs = true) :
    Calls Try.prog 199 #[.slice A m c] w fun en w' => (∃ v, en = .returned (.tuple #[v, .bool (whB rs)]) ∧ WheelV w' w.heap.size v rs) ∧ Below w.heap.size w w' := by
  have Hm := Lib.hid hm
  clear hm
  obtain ⟨hg, _, p1, _⟩ := perOk_parts hk
  have hv : perV rs = (P : Int) := (perV_per hk).trans hP
  have hwp : whP rs = P := by have := (whB_parts hw).2.2.2.1; omega
  have htw := two_len hw
  have hpos := spk_pos hw
  have hsl := spk_len rs
  rw [hwp] at htw hsl
  rw [hw]
  have Hw := Lib.hid hw
  have Hg := Lib.hid hg
  have Hwp := Lib.hid hwp
  obtain ⟨S, hS⟩ : ∃ S, (spk rs).length = S := ⟨_, rfl⟩
  have HS := Lib.hid hS
  rw [hS] at htw hpos hsl
  have Htw := Lib.hid htw
  clear hw hg hwp hS htw
  have hz1 : (w.alloc (.cells zeroW 130)).heap[w.heap.size]? = some (.cells zeroW 130 (0, 0)) := heap_alloc_new w _
  have Hz1 := Lib.hid hz1
  clear hz1
  go_enter Try.func199, Try.ntmps199
  go_wp2_with fail
  refine (impl_PeriodOfRules_c _ _ _ _ rs (hA.below ((Below.refl _ _).alloc (Nat.le_refl _) _)) Hm.out hn).mono ?_
  rw [hk, hv]
  rintro e w1 ⟨rfl, b1⟩
  have b01 : Below w.heap.size w w1 := ((Below.refl _ _).alloc (Nat.le_refl _) _).trans (b1.mono (by simp))
  have hlt1 : w.heap.size < w1.heap.size := by have := b1.size; simp at this; omega
  have hc := (b1.block _ (by simp)).trans Hz1.out
  have Hc := Lib.hid hc
  clear hc
  have hA1 := hA.below b01
  go_wp2_with fail
  refine (leftInTurns_c _ _ _ _ rs hA1 Hm.out Hg.out P (by omega)).mono ?_
  rintro e w2 ⟨⟨v2, rfl, o2⟩, b2⟩
  have b02 := b01.trans (b2.mono b01.size)
  have Hc2 := Lib.hid ((b2.block _ hlt1).trans Hc.out)
  have hlt2 : w.heap.size < w2.heap.size := Nat.lt_of_lt_of_le hlt1 b2.size
  obtain ⟨g, c2, e2, hg1, hg2, hcs⟩ := own_cells o2 (by rw [Htw.out]; omega)
  rcases o2.form with ⟨e3, e4⟩ | ⟨g', c', e3, _, _, hcap⟩
  · rw [e4] at hcs; have := Htw.out; rw [e4] at this; simp at this; omega
  rw [e2] at e3
  injection e3 with e5 e6 e7
  subst e7
  subst e2
  clear e5 e6
  have Hcs := Lib.hid hcs
  have O2 := Lib.hid o2
  clear o2 hcs
  rw [Htw.out]
  rw [Htw.out] at hcap
  have hc1 : (S : Int) + 1 ≤ (c2 : Int) := by omega
  have hmk := fun W => mk_full Try.underlying48 info_I S (by omega) (by omega) W
  go_wp2_with fail
  go_quiet (fail)
  go_wp2_with fail
  clear hmk
  have hml : ((w2.drewN nq).alloc (.cells (madeCells #[.int .i64 0] (S * 1)) 3)).ownsRow w2.heap.size 3 1 (.slice (some ⟨w2.heap.size, 0, none⟩) S S) S (madeCells #[.int .i64 0] (S * 1)).toList := mk_owns (e := 3) #[.int .i64 0] 1 S (by unfold maxLen; omega) (w2.drewN nq)
  rw [Nat.mul_one] at hml
  go_loopw [49] (fun i wr => ∃ k : Nat, k ≤ S ∧ i = .int .i64 (k : Int) ∧ (∃ ys, wr.ownsRow w2.heap.size 3 1 (.slice (some ⟨w2.heap.size, 0, none⟩) S S) S ys ∧ ∀ j, j < k → ys[j]? = some (.int .i64 (stI rs j))) ∧ Below w2.heap.size w2 wr) (fun i _ => S - (intOf i).toNat)
  case atStart => exact ⟨0, Nat.zero_le _, rfl, ⟨_, hml, by omega⟩, (below_drewN (Below.refl _ _) nq).alloc (Nat.le_refl _) _⟩
  case round =>
    clear hml
    obtain ⟨k, hk, rfl, ⟨ys, hown, hxs⟩, hbel⟩ := hrel
    have Hxs := Lib.hid hxs
    have Hown := Lib.hid hown
    clear hxs hown
    by_cases hlt : k < S
    · have hc0 : wr.cell? ⟨g, k, none⟩ = some (.int .i64 (ivL (spk rs) k)) := (hbel.cell (p := ⟨g, k, none⟩) hg2).trans ((Hcs.out k (by rw [Htw.out]; omega)).trans (by rw [← Hwp.out, two_at Hw.out (by rw [HS.out]; exact hlt)]))
      have hc3 : wr.cell? ⟨g, 1 + k, none⟩ = some (.int .i64 (nxS rs k)) := (hbel.cell (p := ⟨g, 1 + k, none⟩) hg2).trans (by rw [Nat.add_comm 1 k]; exact (Hcs.out (k + 1) (by rw [Htw.out]; omega)).trans (by rw [← Hwp.out, two_next Hw.out (by rw [HS.out]; exact hlt)]))
      have hat := spk_at (rs := rs) (k := k) (by rw [HS.out]; exact hlt)
      have hnx := nxS_bound Hw.out k
      rw [Hwp.out] at hat
      have hs := hbel.size
      obtain ⟨x0, hx0, hf0⟩ := own_get Hown.out k (by omega)
      have Hst : Hid (stI rs k = nxS rs k - ivL (spk rs) k) := rfl
      obtain ⟨X, hX⟩ : ∃ X, nxS rs k = X := ⟨_, rfl⟩
      obtain ⟨Y, hY⟩ : ∃ Y, ivL (spk rs) k = Y := ⟨_, rfl⟩
      rw [hX] at hc3 hnx
      rw [hY] at hc0 hat
      have Hst2 : Hid (stI rs k = X - Y) := by show _ = _; rw [Hst.out, hX, hY]
      clear hX hY
      go_wp2
      go_roundw
      case rel =>
        have h2 := (Hown.out.stored k (.int .i64 (X - Y))).1
        refine ⟨k + 1, by omega, by go_num, ⟨_, h2, fun j hj => ?_⟩, hbel.setCell (Nat.le_refl _) _⟩
        have hxl : ys.length = S * 1 := Hown.out.1
        rcases Nat.lt_succ_iff_lt_or_eq.1 hj with h | h
        · rw [List.getElem?_set_ne (by omega)]
          exact Hxs.out j h
        · subst h
          rw [List.getElem?_set_self (by omega), Hst2.out]
      case measure => simp [intOf]; omega
    · have hc := (hbel.block _ hlt2).trans Hc2.out
      have hc0 := zeroW_0 hc
      have hc1 := zeroW_1 hc
      have hc2 := zeroW_2 hc
      have hf := fun k => frozen_of_row wr w.heap.size k _ _ hc
      clear hc
      have hkS : k = S := by omega
      subst hkS
      have hs := hbel.size
      have Hown2 : Hid (OwnI wr w2.heap.size (.slice (some ⟨w2.heap.size, 0, none⟩) k k) (stA rs)) := by
        have h := Hown.out
        have hl : (stA rs).length = k := by rw [stA_len, HS.out]
        have e : ys = (stA rs).map (Value.int .i64) := cellsI_of (by rw [h.1, hl]; omega) (fun j hj => by rw [hl] at hj; rw [Hxs.out j hj, stA, stL_at (by rw [HS.out]; exact hj)])
        rw [e] at h
        show World.ownsRow _ _ _ _ _ _ _
        rw [hl]
        exact h
      have Hhead : Hid (HeadI wr w1.heap.size (.slice (some ⟨g, 0, none⟩) k k) (spk rs)) := by
        have h := OwnI.below O2.out hbel
        have e := spk_two Hw.out
        rw [Hwp.out] at e
        rw [e] at h
        exact ⟨_, _, _, _, by rw [HS.out], h⟩
      go_wp2
      try simp only [Exit.inBlock, Exit.then]
      refine bodyPost_ret (v := .tuple #[.agg #[.int .i64 (P : Int), .slice (some ⟨g, 0, none⟩) k k, .slice (some ⟨w2.heap.size, 0, none⟩) k k], .bool true]) (by rw [results_cell_tmp rfl]; go_simp) rfl ⟨⟨_, rfl, _, _, by rw [Hwp.out], ?_, ?_⟩, ?_⟩
      · rw [spV_yes Hw.out]
        exact (((Hhead.out.setB hlt1 _).setB hlt1 _).setB hlt1 _).mono (by omega)
      · rw [stV_yes Hw.out]
        exact (((Hown2.out.setB hlt2 _).setB hlt2 _).setB hlt2 _).mono (by omega)
      · exact (((b02.trans (hbel.mono b02.size)).setCell (by simp) _).setCell (by simp) _).setCell (by simp) _


theorem wheelOf_c (w : World) (A : Option Addr) (m c : Nat) (rs : List (Int × Int)) (hA : Rl w A rs) (hm : m = rs.length) (hn : m ≤ 1048576) :
    Calls Try.prog 199 #[.slice A m c] w fun en w' => (∃ v, en = .returned (.tuple #[v, .bool (whB rs)]) ∧ WheelV w' w.heap.size v rs) ∧ Below w.heap.size w w' := by
  cases hk : perOk rs with
  | false => exact wheelOf_1 w A m c rs hA hm hn hk
  | true =>
    obtain ⟨hg, _, p1, _⟩ := perOk_parts hk
    by_cases hb : 5000 < perF rs
    · exact wheelOf_2 w A m c rs hA hm hn hk hb
    · obtain ⟨P, hP⟩ := Int.eq_ofNat_of_zero_le (show 0 ≤ perF rs by omega)
      cases ha : anyLeft rs P with
      | false => exact wheelOf_3 w A m c rs hA hm hn hk P hP (by omega) ha
      | true => exact wheelOf_4 w A m c rs hA hm hn hk P hP (by omega) (whB_some hg ⟨p1, by omega⟩ (by rw [hP]; exact ha))

end Go.Proofs.Ytaapfapejekkfaa
