import Derived.Test.YtaapfapejekkfaaYA
import Derived.Test.YtaapfapejekkfaaY9
import Derived.StillTailTactics
namespace Go.Proofs.Ytaapfapejekkfaa
open Go.RowKit
set_option linter.unusedVariables false
set_option linter.unusedSimpArgs false

theorem tabB_small {xs : List Int} (h : tabB xs = true) : smallL xs ∧ 1 ≤ xs.length ∧ xs.length ≤ 200 := by
  rw [tabB, Bool.and_eq_true] at h
  obtain ⟨h1, h2⟩ := h
  have h1 := inB_true.1 h1
  refine ⟨fun k => ?_, by omega, by omega⟩
  by_cases hk : k < xs.length
  · simp only [allB, decide_eq_true_eq] at h2
    exact inB_true.1 (h2 k hk)
  · have : ivL xs k = 0 := by simp [ivL, hk]
    omega
theorem madeI_at {n j : Nat} (h : j < n) : (madeCells #[Value.int .i64 0] n).toList[j]? = some (.int .i64 0) := by
  simp [madeCells, h, Nat.mod_one]
set_option maxRecDepth 100000 in
set_option maxHeartbeats 2000000 in
theorem dvOver_c (w : World) (A : Option Addr) (m c : Nat) (xs : List Int) (hA : Il w A xs) (hm : m = xs.length) (A2 : Option Addr) (c2 : Nat) (ys : List Int) (hA2 : Il w A2 ys) (hm2 : m = ys.length) (hn : m ≤ 200) (hx : smallL xs) (hy : smallL ys) :
    Calls Try.prog 242 #[.slice A m c, .slice A2 m c2] w fun en w' => (∃ v, en = .returned v ∧ OwnI w' w.heap.size v (ovL xs ys m)) ∧ Below w.heap.size w w' := by
  have Hm := Lib.hid hm
  have Hm2 := Lib.hid hm2
  have Hx := Lib.hid hx
  have Hy := Lib.hid hy
  have hmk : ∀ w : World, (Instr.makeSlice 48 (.int .i64 (m : Int)) (.int .i64 (m : Int))).run Try.prog w = .ok (.slice (some ⟨w.heap.size, 0, none⟩) m m) (w.alloc (.cells (madeCells (Value.cells (.int .i64 0)) (m * 1)) 3)) := fun w => mk_full Try.underlying48 info_I m (by omega) (by omega) w
  have hmo : (w.alloc (.cells (madeCells #[.int .i64 0] m) 3)).ownsRow w.heap.size 3 1 (.slice (some ⟨w.heap.size, 0, none⟩) m m) m (madeCells #[.int .i64 0] m).toList := by
    have h := mk_owns (e := 3) #[.int .i64 0] 1 m (by unfold maxLen; omega) w
    rwa [Nat.mul_one] at h
  have Hmo := Lib.hid hmo
  clear hm hm2 hx hy hmo
  go_enter Try.func242, Try.ntmps242
  go_wp2
  clear hmk
  go_loopw [6] (fun d wr => ∃ e : Nat, e ≤ m ∧ d = .int .i64 ((e : Int) + 1) ∧ (∃ zs, wr.ownsRow w.heap.size 3 1 (.slice (some ⟨w.heap.size, 0, none⟩) m m) m zs ∧ ∀ j, j < m → zs[j]? = some (.int .i64 (ovS xs ys (j + 1) e))) ∧ Below w.heap.size w wr) (fun d _ => m + 2 - (intOf d).toNat)
  case atStart => exact ⟨0, Nat.zero_le _, rfl, ⟨_, Hmo.out, fun j hj => madeI_at hj⟩, (Below.refl _ _).alloc (Nat.le_refl _) _⟩
  case round =>
    obtain ⟨e, he, rfl, ⟨zs, hown, hzs⟩, hbel⟩ := hrel
    have Hown := Lib.hid hown
    have Hzs := Lib.hid hzs
    have Hbel := Lib.hid hbel
    clear hown hzs hbel
    by_cases hlt : e < m
    · have heL : (e : Int) < (m : Int) := by omega
      have heL2 : (e : Int) + 1 ≤ (m : Int) := by omega
      go_wp2_with fail
      go_loopw [7] (fun i wr => ∃ k : Nat, 1 ≤ k ∧ k ≤ m + 1 ∧ i = .int .i64 (k : Int) ∧ (∃ zs, wr.ownsRow w.heap.size 3 1 (.slice (some ⟨w.heap.size, 0, none⟩) m m) m zs ∧ ∀ j, j < m → zs[j]? = some (.int .i64 (ovM xs ys (j + 1) (e + 1) k))) ∧ Below w.heap.size w wr) (fun i _ => m + 2 - (intOf i).toNat)
      case atStart => exact ⟨1, Nat.le_refl _, by omega, rfl, ⟨zs, Hown.out, fun j hj => by rw [Hzs.out j hj, ovM_start xs ys (by omega) (by omega)]; rfl⟩, Hbel.out⟩
      case round =>
        clear Hown Hzs Hbel
        clear zs
        obtain ⟨k, hk1, hk9, rfl, ⟨zs, hown, hzs⟩, hbel⟩ := hrel
        have Hown := Lib.hid hown
        have Hzs := Lib.hid hzs
        have hs := hbel.size
        clear hown hzs
        obtain ⟨P, hP⟩ : ∃ P, k * (e + 1) = P := ⟨_, rfl⟩
        have hPi : (k : Int) * ((e : Int) + 1) = (P : Int) := by rw [← hP, Int.natCast_mul]; rfl
        have hPk : k ≤ P := by rw [← hP]; exact Nat.le_mul_of_pos_right k (by omega)
        have hP9 : P ≤ 40401 := by have := Nat.mul_le_mul (show k ≤ 201 by omega) (show e + 1 ≤ 201 by omega); omega
        have HP := Lib.hid hP
        clear hP
        by_cases hin : P ≤ m
        · obtain ⟨bx, ox, rfl, hbx, hrx⟩ := hA (by have := Hm.out; omega)
          obtain ⟨by1, oy, rfl, hby, hry⟩ := hA2 (by have := Hm2.out; omega)
          have hcx := (hbel.cell (p := ⟨bx, ox + e, none⟩) hbx).trans (hrx e (by have := Hm.out; omega))
          have hcy := (hbel.cell (p := ⟨by1, oy + (k - 1), none⟩) hby).trans (hry (k - 1) (by have := Hm2.out; omega))
          obtain ⟨x0, hx0, hf0⟩ := own_get Hown.out (P - 1) (by omega)
          have hx1 := (World.ownsRow.cellAt Hown.out (P - 1) (by omega)).trans (Hzs.out (P - 1) (by omega))
          have hbd := ovM_bound Hx.out Hy.out (P - 1 + 1) (e + 1) k
          have hmb := mul_small (Hx.out e) (Hy.out (k - 1))
          have Hhit := Lib.hid (ovM_hit xs ys (d := e + 1) (k := k) (by omega))
          have hkp : (k : Int) - 1 = ((k - 1 : Nat) : Int) := by omega
          have hPp : (P : Int) - 1 = ((P - 1 : Nat) : Int) := by omega
          rw [HP.out] at Hhit
          rw [show P - 1 + 1 = P by omega] at hx1 hbd
          obtain ⟨O, hO⟩ : ∃ O, ovM xs ys P (e + 1) k = O := ⟨_, rfl⟩
          rw [hO] at hx1 hbd Hhit
          obtain ⟨X, hX⟩ : ∃ X, ivL xs e = X := ⟨_, rfl⟩
          obtain ⟨Y, hY⟩ : ∃ Y, ivL ys (k - 1) = Y := ⟨_, rfl⟩
          obtain ⟨k', hk'⟩ : ∃ k', k - 1 = k' := ⟨_, rfl⟩
          obtain ⟨P', hP'⟩ : ∃ P', P - 1 = P' := ⟨_, rfl⟩
          rw [hk'] at hcy hkp
          rw [hP'] at hx0 hf0 hx1 hPp
          rw [show e + 1 - 1 = e by omega, hX, hY] at Hhit
          rw [hX, hY] at hmb
          rw [hX] at hcx
          rw [hk'] at hY
          rw [hY] at hcy
          obtain ⟨Z, hZ⟩ : ∃ Z, X * Y = Z := ⟨_, rfl⟩
          rw [hZ] at hmb Hhit
          have hP1 : P' < m := by omega
          have hPL : (P' : Int) < (m : Int) := by omega
          have hkL : (k' : Int) < (m : Int) := by omega
          have hw1 : IntKind.i64.wrap (P : Int) = (P : Int) := IntWalk.i64_in _ (by omega)
          have hw2 : IntKind.i64.wrap (P' : Int) = (P' : Int) := IntWalk.i64_in _ (by omega)
          have hw3 : IntKind.i64.wrap (e : Int) = (e : Int) := IntWalk.i64_in _ (by omega)
          have hw4 : IntKind.i64.wrap (k' : Int) = (k' : Int) := IntWalk.i64_in _ (by omega)
          have hw5 : IntKind.i64.wrap Z = Z := IntWalk.i64_in _ (by omega)
          have hw6 : IntKind.i64.wrap (O + Z) = O + Z := IntWalk.i64_in _ (by omega)
          have HPP := Lib.hid hP'
          clear hX hY hO hk' hP' hx0
          go_wp2_with fail
          go_still_tail 20, (by kernel_rfl)
          go_wp2
          go_roundw
          case rel =>
            have h2 := ((World.ownsRow.drew Hown.out).stored P' (.int .i64 (O + Z))).1
            have hxl : zs.length = m * 1 := Hown.out.1
            refine ⟨k + 1, by omega, by have := HP.out; omega, by go_num, ⟨_, h2, fun j hj => ?_⟩, hbel.drew.setCell (Nat.le_refl _) _⟩
            by_cases hjP : j = P'
            · subst hjP
              have hjP : j + 1 = P := by have := HPP.out; omega
              rw [List.getElem?_set_self (by omega), hjP, Hhit.out]
            · rw [List.getElem?_set_ne (by omega), ovM_other xs ys (by have := HPP.out; have := HP.out; omega)]
              exact Hzs.out j hj
          case measure => simp [intOf]; omega
        · have Hend := Lib.hid (fun j (hj : j < m) => ovM_end xs ys (n := j + 1) (d := e + 1) (k := k) (m := m) (by omega) (by have := HP.out; omega) (by omega))
          go_wp2
          go_roundw
          case rel => exact ⟨e + 1, by omega, by go_num, ⟨zs, Hown.out, fun j hj => by rw [Hzs.out j hj, Hend.out j hj]⟩, hbel⟩
          case measure => simp [intOf]; omega
    · have Hk := Lib.hid (show e = m by omega)
      go_wp2
      go_ret
      have hz : zs = (ovL xs ys m).map (Value.int .i64) := cellsI_of (by rw [ovL_len]; have := Hown.out.1; omega) fun j hj => by
        rw [ovL_len] at hj
        rw [Hzs.out j hj, ovL_at hj, Hk.out, ovS_all xs ys (by omega) (by omega)]
      refine ⟨⟨_, rfl, ?_⟩, Hbel.out⟩
      have h := Hown.out
      rw [hz] at h
      rw [OwnI, ovL_len]
      exact h

def ovP (xs ys : List Int) : Bool := tabB xs && tabB ys && decide (xs.length = ys.length)
def ovO (xs ys : List Int) : Bool := ovP xs ys && tabB (ovL xs ys xs.length)
def ovR (xs ys : List Int) : List Int := if ovO xs ys then ovL xs ys xs.length else []
theorem ovR_no {xs ys : List Int} (h : ovO xs ys = false) : ovR xs ys = [] := by rw [ovR, h]; rfl
theorem ovR_yes {xs ys : List Int} (h : ovO xs ys = true) : ovR xs ys = ovL xs ys xs.length := by rw [ovR, h]; rfl
theorem ovR_len (xs ys : List Int) : (ovR xs ys).length ≤ 1048576 := by
  cases h : ovO xs ys with
  | false => rw [ovR_no h]; exact Nat.zero_le _
  | true =>
    rw [ovR_yes h, ovL_len]
    simp only [ovO, ovP, Bool.and_eq_true] at h
    have := (tabB_small h.1.1.1).2.2
    omega
set_option maxRecDepth 100000 in
set_option maxHeartbeats 800000 in
theorem spec_OverDivisors_c (w : World) (A : Option Addr) (m c : Nat) (xs : List Int) (hA : Il w A xs) (hm : m = xs.length) (hn : m ≤ 1048576) (A2 : Option Addr) (m2 c2 : Nat) (ys : List Int) (hA2 : Il w A2 ys) (hm2 : m2 = ys.length) (hn2 : m2 ≤ 1048576) :
    Calls Try.prog 115 #[.slice A m c, .slice A2 m2 c2] w fun en w' => (∃ v, en = .returned (.tuple #[v, .bool (ovO xs ys)]) ∧ OwnI w' w.heap.size v (ovR xs ys)) ∧ Below w.heap.size w w' := by
  have Hm := Lib.hid hm
  have Hm2 := Lib.hid hm2
  clear hm hm2
  cases hg : tabB xs with
  | false =>
    have ho : ovO xs ys = false := by first | (simp [ovO, ovP, *]; done) | (rw [ovO, ovP, show decide (xs.length = ys.length) = false from decide_eq_false (by have := Hm.out; have := Hm2.out; omega), Bool.and_false]; rfl)
    rw [ovR_no ho, ho]
    clear ho
    go_enter Try.func115, Try.ntmps115
    go_wp2_with fail
    refine (dvIs_c _ _ _ _ xs hA Hm.out hn).mono ?_
    rintro e w1 ⟨rfl, rfl⟩
    go_wp2
    go_ret2
    exact ⟨⟨_, rfl, OwnI.nil _ _⟩, (Below.refl _ _)⟩
  | true =>
    cases hh : tabB ys with
    | false =>
      have ho : ovO xs ys = false := by first | (simp [ovO, ovP, *]; done) | (rw [ovO, ovP, show decide (xs.length = ys.length) = false from decide_eq_false (by have := Hm.out; have := Hm2.out; omega), Bool.and_false]; rfl)
      rw [ovR_no ho, ho]
      clear ho
      go_enter Try.func115, Try.ntmps115
      go_wp2_with fail
      refine (dvIs_c _ _ _ _ xs hA Hm.out hn).mono ?_
      rintro e w1 ⟨rfl, rfl⟩
      go_wp2_with fail
      refine (dvIs_c _ _ _ _ ys hA2 Hm2.out hn2).mono ?_
      rintro e w2 ⟨rfl, rfl⟩
      go_wp2
      go_ret2
      exact ⟨⟨_, rfl, OwnI.nil _ _⟩, (Below.refl _ _)⟩
    | true =>
      by_cases hl : m = m2
      rotate_left
      · skip
        have ho : ovO xs ys = false := by first | (simp [ovO, ovP, *]; done) | (rw [ovO, ovP, show decide (xs.length = ys.length) = false from decide_eq_false (by have := Hm.out; have := Hm2.out; omega), Bool.and_false]; rfl)
        rw [ovR_no ho, ho]
        clear ho
        go_enter Try.func115, Try.ntmps115
        go_wp2_with fail
        refine (dvIs_c _ _ _ _ xs hA Hm.out hn).mono ?_
        rintro e w1 ⟨rfl, rfl⟩
        go_wp2_with fail
        refine (dvIs_c _ _ _ _ ys hA2 Hm2.out hn2).mono ?_
        rintro e w2 ⟨rfl, rfl⟩
        go_wp2
        go_ret2
        exact ⟨⟨_, rfl, OwnI.nil _ _⟩, (Below.refl _ _)⟩
      · skip
        have hp : ovP xs ys = true := by rw [ovP, hg, hh, decide_eq_true (show xs.length = ys.length by have := Hm.out; have := Hm2.out; omega)]; rfl
        obtain ⟨x1, x2, x3⟩ := tabB_small hg
        obtain ⟨y1, y2, y3⟩ := tabB_small hh
        subst hl
        have hO : ovO xs ys = tabB (ovL xs ys m) := by rw [ovO, hp, Bool.true_and, Hm.out]
        have hR : ovO xs ys = true → ovR xs ys = ovL xs ys m := fun h => by rw [ovR_yes h, Hm.out]
        have Hx := Lib.hid x1
        have Hy := Lib.hid y1
        have Hm9 : m ≤ 200 := by have := Hm.out; omega
        have HO := Lib.hid hO
        have HR := Lib.hid hR
        have HN := Lib.hid (fun h => ovR_no (xs := xs) (ys := ys) h)
        clear hp x1 y1 x2 x3 y2 y3 hO hR
        obtain ⟨L, hL⟩ : ∃ L, ovL xs ys m = L := ⟨_, rfl⟩
        have hLl := ovL_len xs ys m
        have HL := Lib.hid hL
        rw [hL] at HO HR hLl
        clear hL
        have Hg := Lib.hid hg
        have Hh := Lib.hid hh
        go_enter Try.func115, Try.ntmps115
        go_wp2_with fail
        refine (dvIs_c _ _ _ _ xs hA Hm.out hn).mono ?_
        rintro e w1 ⟨rfl, rfl⟩
        go_wp2_with fail
        refine (dvIs_c _ _ _ _ ys hA2 Hm2.out hn2).mono ?_
        rintro e w2 ⟨rfl, rfl⟩
        go_wp2_with fail
        refine (dvOver_c _ _ _ _ xs hA Hm.out _ _ ys hA2 Hm2.out Hm9 Hx.out Hy.out).mono ?_
        rw [HL.out]
        rintro e w5 ⟨⟨v5, rfl, o5⟩, b5⟩
        obtain ⟨A5, c5, rfl⟩ := o5.shape
        have I5 := Lib.hid (Il_of_own o5)
        have O5 := Lib.hid o5
        rw [hLl] at O5
        clear o5
        cases ht : tabB L with
        | false =>
          have Ht := Lib.hid (ht ▸ dvIs_c w5 A5 _ c5 L I5.out rfl (by omega))
          have Ho := Lib.hid (HO.out.trans ht)
          rw [hLl] at Ht
          clear ht
          go_wp2_with fail
          refine Ht.out.mono ?_
          rintro e w6 ⟨rfl, rfl⟩
          go_wp2
          go_ret2
          exact ⟨⟨_, by rw [Ho.out]; rfl, by rw [HN.out Ho.out]; exact OwnI.nil _ _⟩, b5⟩
        | true =>
          have Ht := Lib.hid (ht ▸ dvIs_c w5 A5 _ c5 L I5.out rfl (by omega))
          have Ho := Lib.hid (HO.out.trans ht)
          rw [hLl] at Ht
          clear ht
          go_wp2_with fail
          refine Ht.out.mono ?_
          rintro e w6 ⟨rfl, rfl⟩
          go_wp2
          go_ret2
          exact ⟨⟨_, by rw [Ho.out]; rfl, by rw [HR.out Ho.out]; exact O5.out⟩, b5⟩

end Go.Proofs.Ytaapfapejekkfaa
