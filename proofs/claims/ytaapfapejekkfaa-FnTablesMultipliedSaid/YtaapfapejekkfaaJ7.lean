import Derived.Test.YtaapfapejekkfaaJ4
import Derived.Test.YtaapfapejekkfaaYB
import Derived.Laws.Rows
namespace Go.Proofs.Ytaapfapejekkfaa
open Go.RowKit
set_option linter.unusedVariables false
set_option linter.unusedSimpArgs false

/-- The function of a kind. -/
def kdF : Nat → Nat
  | 0 => 313
  | 1 => 314
  | 2 => 315
  | 3 => 316
  | 4 => 317
  | 5 => 318
  | _ => 319
def kdV (k : Int) : Value := if inB k 0 6 then .func (.func (kdF k.toNat)) #[] #[] else Value.nilFunc
theorem kdV_no {k : Int} (h : inB k 0 6 = false) : kdV k = Value.nilFunc := by rw [kdV, h]; rfl
theorem kdV_yes {k : Nat} (h : inB (k : Int) 0 6 = true) : kdV (k : Int) = .func (.func (kdF k)) #[] #[] := by rw [kdV, h, Int.toNat_natCast]; rfl
def kdC : Array Value := #[.func (.func (kdF 0)) #[] #[], .func (.func (kdF 1)) #[] #[], .func (.func (kdF 2)) #[] #[], .func (.func (kdF 3)) #[] #[], .func (.func (kdF 4)) #[] #[], .func (.func (kdF 5)) #[] #[], .func (.func (kdF 6)) #[] #[]]
theorem kdC_one : kdC.all (·.oneCell') = true := by simp [kdC, Value.oneCell']
theorem size7 : (Try.prog.info? 181).map (·.size) = some 7 := by kernel_rfl
theorem kdC_at {K : Nat} (h : K ≤ 6) : kdC[K]? = some (.func (.func (kdF K)) #[] #[]) := by
  have hK : K = 0 ∨ K = 1 ∨ K = 2 ∨ K = 3 ∨ K = 4 ∨ K = 5 ∨ K = 6 := by omega
  rcases hK with rfl | rfl | rfl | rfl | rfl | rfl | rfl <;> rfl
set_option maxRecDepth 100000 in
set_option maxHeartbeats 800000 in
theorem numberOfKind_c (w : World) (k : Int) :
    Calls Try.prog 251 #[.int .i64 k] w fun en w' => en = .returned (.tuple #[kdV k, .bool (inB k 0 6)]) ∧ Below w.heap.size w w' := by
  have hz : (w.alloc (.cells #[Value.nilFunc, Value.nilFunc, Value.nilFunc, Value.nilFunc, Value.nilFunc, Value.nilFunc, Value.nilFunc] 181)).heap[w.heap.size]? = some (.cells #[Value.nilFunc, Value.nilFunc, Value.nilFunc, Value.nilFunc, Value.nilFunc, Value.nilFunc, Value.nilFunc] 181 (0, 0)) := heap_alloc_new w _
  have b1 : Below w.heap.size w ((w.alloc (.cells #[Value.nilFunc, Value.nilFunc, Value.nilFunc, Value.nilFunc, Value.nilFunc, Value.nilFunc, Value.nilFunc] 181)).setRow w.heap.size kdC) := ((Below.refl _ w).alloc (Nat.le_refl _) _).trans ⟨rfl, rfl, rfl, by simp, fun i hi => setRow_other _ _ _ _ (by omega)⟩
  have hW : ((w.alloc (.cells #[Value.nilFunc, Value.nilFunc, Value.nilFunc, Value.nilFunc, Value.nilFunc, Value.nilFunc, Value.nilFunc] 181)).setRow w.heap.size kdC).heap[w.heap.size]? = some (.cells kdC 181 (0, 0)) := setRow_heap _ _ _ _ _ _ hz
  have hcl := fun j (hj : j ≤ 6) => (cell_of_row _ w.heap.size j _ _ _ hW).trans (kdC_at hj)
  have Hz := Lib.hid hz
  have B1 := Lib.hid b1
  have Hcl := Lib.hid hcl
  have Hs7 := Lib.hid size7
  clear hz b1 hW hcl
  by_cases h0 : 0 ≤ k
  · by_cases h6 : k ≤ 6
    · have hg : inB k 0 6 = true := inB_true.2 ⟨h0, h6⟩
      obtain ⟨K, rfl⟩ := Int.eq_ofNat_of_zero_le h0
      rw [kdV_yes hg, hg]
      have hK : K ≤ 6 := by omega
      have hc := Hcl.out K hK
      obtain ⟨F, hF⟩ : ∃ F, kdF K = F := ⟨_, rfl⟩
      rw [hF] at hc ⊢
      clear hg hF Hcl
      go_enter Try.func251, Try.ntmps251
      go_wp2_with (refine wpList_store_row rfl 181 (.tmp 4) (.tmp 5) rfl w.heap.size kdC rfl rfl _ _ Hz.out (Hs7.out.trans rfl) rfl kdC_one ?_)
      go_ret2
      exact ⟨rfl, B1.out⟩
    · have hg : inB k 0 6 = false := inB_false.2 (by omega)
      rw [kdV_no hg, hg]
      clear hg Hcl
      go_enter Try.func251, Try.ntmps251
      go_wp2_with (refine wpList_store_row rfl 181 (.tmp 4) (.tmp 5) rfl w.heap.size kdC rfl rfl _ _ Hz.out (Hs7.out.trans rfl) rfl kdC_one ?_)
      go_ret2
      exact ⟨rfl, B1.out⟩
  · have hg : inB k 0 6 = false := inB_false.2 (by omega)
    rw [kdV_no hg, hg]
    clear hg Hcl
    go_enter Try.func251, Try.ntmps251
    go_wp2_with (refine wpList_store_row rfl 181 (.tmp 4) (.tmp 5) rfl w.heap.size kdC rfl rfl _ _ Hz.out (Hs7.out.trans rfl) rfl kdC_one ?_)
    go_ret2
    exact ⟨rfl, B1.out⟩
set_option maxRecDepth 100000 in
theorem kd_enter {K : Nat} (h : K ≤ 6) : ∀ (args : Array Value) (w : World), Sem.run Try.prog (callFunc (kdF K) args) w = .ok (.enter (kdF K) args) w := by
  have hK : K = 0 ∨ K = 1 ∨ K = 2 ∨ K = 3 ∨ K = 4 ∨ K = 5 ∨ K = 6 := by omega
  rcases hK with rfl | rfl | rfl | rfl | rfl | rfl | rfl <;> exact fun _ _ => rfl
theorem kd_c {K : Nat} (h : K ≤ 6) (w : World) (N : Nat) (h1 : 1 ≤ N) (h9 : N ≤ 1000) : Calls Try.prog (kdF K) #[.int .i64 (N : Int)] w fun en w' => en = .returned (.int .i64 (tbF K N)) ∧ Below w.heap.size w w' := by
  have hK : K = 0 ∨ K = 1 ∨ K = 2 ∨ K = 3 ∨ K = 4 ∨ K = 5 ∨ K = 6 := by omega
  rcases hK with rfl | rfl | rfl | rfl | rfl | rfl | rfl
  · exact one_c w _
  · exact self_c w _
  · exact countDivisors_c w N h1 (by omega)
  · exact sumDivisors_c w N h1 (by omega)
  · exact totient_c w N h1 (by omega)
  · show Calls _ _ _ _ fun en w' => en = .returned (.int .i64 (sgD N)) ∧ _
    rw [← sg_same h1]
    exact sign_c w N h1 (by omega)
  · have h2 := unit_c w (N : Int)
    have e : (if (N : Int) = 1 then (1 : Int) else 0) = tbF 6 N := by
      show _ = if N = 1 then (1 : Int) else 0
      by_cases h3 : N = 1
      · subst h3; rfl
      · rw [if_neg h3, if_neg (by omega)]
    rw [e] at h2
    exact h2
set_option maxRecDepth 100000 in
set_option maxHeartbeats 800000 in
theorem impl_TableOf_c (w : World) (k m : Int) :
    Calls Try.prog 123 #[.int .i64 k, .int .i64 m] w fun en w' => (∃ v, en = .returned (.tuple #[v, .bool (tbOk k m)]) ∧ OwnI w' w.heap.size v (tbA k m)) ∧ Below w.heap.size w w' := by
  have Hk := Lib.hid (fun W => numberOfKind_c W k)
  cases hg : inB k 0 6 with
  | false =>
    have ho : tbOk k m = false := by rw [tbOk, hg]; rfl
    rw [tbA_no ho, ho]
    rw [hg, kdV_no hg] at Hk
    clear hg ho
    go_enter Try.func123, Try.ntmps123
    go_wp2_with fail
    refine (Hk.out _).mono ?_
    rintro e w1 ⟨rfl, b1⟩
    go_wp2
    go_ret2
    exact ⟨⟨_, rfl, OwnI.nil _ _⟩, b1⟩
  | true =>
    obtain ⟨k1, k9⟩ := inB_true.1 hg
    obtain ⟨K, rfl⟩ := Int.eq_ofNat_of_zero_le k1
    have hK6 : K ≤ 6 := by omega
    rw [hg, kdV_yes hg] at Hk
    have Hen := Lib.hid (kd_enter hK6)
    have Hkd := Lib.hid (fun W N a b => kd_c hK6 W N a b)
    obtain ⟨F, hF⟩ : ∃ F, kdF K = F := ⟨_, rfl⟩
    rw [hF] at Hk Hen Hkd
    by_cases h1 : 1 ≤ m
    · by_cases h2 : m ≤ 200
      · have ho : tbOk (K : Int) m = true := by rw [tbOk, hg]; exact inB_true.2 ⟨h1, h2⟩
        obtain ⟨M, rfl⟩ := Int.eq_ofNat_of_zero_le (show 0 ≤ m by omega)
        rw [tbA_yes ho, ho]
        have M1 : 1 ≤ M := by omega
        have M9 : M ≤ 200 := by omega
        clear ho hg k1 k9 hF h1 h2
        have hmk : ∀ w : World, (Instr.makeSlice 48 (.int .i64 (M : Int)) (.int .i64 (M : Int))).run Try.prog w = .ok (.slice (some ⟨w.heap.size, 0, none⟩) M M) (w.alloc (.cells (madeCells (Value.cells (.int .i64 0)) (M * 1)) 3)) := fun w => mk_full Try.underlying48 info_I M (by omega) (by omega) w
        go_enter Try.func123, Try.ntmps123
        go_wp2_with fail
        refine (Hk.out _).mono ?_
        rintro e w1 ⟨rfl, b1⟩
        have hmo : (w1.alloc (.cells (madeCells #[.int .i64 0] M) 3)).ownsRow w1.heap.size 3 1 (.slice (some ⟨w1.heap.size, 0, none⟩) M M) M (madeCells #[.int .i64 0] M).toList := by
          have h := mk_owns (e := 3) #[.int .i64 0] 1 M (by unfold maxLen; omega) w1
          rwa [Nat.mul_one] at h
        have Hmo := Lib.hid hmo
        clear hmo
        go_wp2
        clear hmk
        go_loopw [9, 29] (fun _ i wr => ∃ k : Nat, k ≤ M ∧ i = .int .i64 (k : Int) ∧ (∃ zs, wr.ownsRow w1.heap.size 3 1 (.slice (some ⟨w1.heap.size, 0, none⟩) M M) M zs ∧ ∀ j, j < k → zs[j]? = some (.int .i64 (tbF K (j + 1)))) ∧ Below w1.heap.size w1 wr) (fun _ i _ => M + 2 - (intOf i).toNat)
        case atStart => exact ⟨0, Nat.zero_le _, rfl, ⟨_, Hmo.out, fun j hj => by omega⟩, (Below.refl _ _).alloc (Nat.le_refl _) _⟩
        case round =>
          obtain ⟨k, hk, rfl, ⟨zs, hown, hzs⟩, hbel⟩ := hrel
          have Hown := Lib.hid hown
          have Hzs := Lib.hid hzs
          have hs := hbel.size
          clear hown hzs
          by_cases hlt : k < M
          · have Hc := Lib.hid (fun W => Hkd.out W (k + 1) (by omega) (by omega))
            rw [show ((k + 1 : Nat) : Int) = (k : Int) + 1 by omega] at Hc
            obtain ⟨V, hV⟩ : ∃ V, tbF K (k + 1) = V := ⟨_, rfl⟩
            rw [hV] at Hc
            have HV := Lib.hid hV
            clear hV
            have hen := Hen.out
            have hkM : (k : Int) < (M : Int) := by omega
            have hw1 : IntKind.i64.wrap (k : Int) = (k : Int) := IntWalk.i64_in _ (by omega)
            go_wp2_with fail
            refine (Hc.out _).mono ?_
            rintro e w2 ⟨rfl, b2⟩
            clear hen
            have Hown2 := Lib.hid (own_below Hown.out b2)
            obtain ⟨x0, hx0, hf0⟩ := own_get Hown2.out k (by omega)
            go_wp2
            go_roundw
            case rel =>
              have h2 := (World.ownsRow.stored Hown2.out k (.int .i64 V)).1
              have hxl : zs.length = M * 1 := Hown.out.1
              refine ⟨k + 1, by omega, by go_num, ⟨_, h2, fun j hj => ?_⟩, (hbel.trans (b2.mono hs)).setCell (Nat.le_refl _) _⟩
              by_cases hjk : j = k
              · subst hjk
                rw [List.getElem?_set_self (by omega), HV.out]
              · rw [List.getElem?_set_ne (by omega)]
                exact Hzs.out j (by omega)
            case measure => simp [intOf]; omega
          · have Hk2 := Lib.hid (show k = M by omega)
            go_wp2
            go_ret2
            have hz : zs = (tbL K M).map (Value.int .i64) := cellsI_of (by rw [tbL_len]; have := Hown.out.1; omega) fun j hj => by
              rw [tbL_len] at hj
              rw [Hzs.out j (by have := Hk2.out; omega)]
              simp [ivL, tbL, hj]
            refine ⟨⟨_, rfl, ?_⟩, b1.trans (hbel.mono b1.size)⟩
            have h := Hown.out
            rw [hz] at h
            have h3 : OwnI wr w1.heap.size (.slice (some ⟨w1.heap.size, 0, none⟩) M M) (tbL K M) := by rw [OwnI, tbL_len]; exact h
            exact OwnI.mono h3 b1.size
      · have ho : tbOk (K : Int) m = false := by rw [tbOk, hg, show inB m 1 200 = false from inB_false.2 (by omega)]; rfl
        rw [tbA_no ho, ho]
        clear hg ho k1 k9 hF
        go_enter Try.func123, Try.ntmps123
        go_wp2_with fail
        refine (Hk.out _).mono ?_
        rintro e w1 ⟨rfl, b1⟩
        go_wp2
        go_ret2
        exact ⟨⟨_, rfl, OwnI.nil _ _⟩, b1⟩
    · have ho : tbOk (K : Int) m = false := by rw [tbOk, hg, show inB m 1 200 = false from inB_false.2 (by omega)]; rfl
      rw [tbA_no ho, ho]
      clear hg ho k1 k9 hF
      go_enter Try.func123, Try.ntmps123
      go_wp2_with fail
      refine (Hk.out _).mono ?_
      rintro e w1 ⟨rfl, b1⟩
      go_wp2
      go_ret2
      exact ⟨⟨_, rfl, OwnI.nil _ _⟩, b1⟩
end Go.Proofs.Ytaapfapejekkfaa
