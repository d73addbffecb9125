import Derived.Test.YtfhaeplamahcpaaDoorSP6
import Derived.Deep.QuietTactic
import Derived.BigQuiet
import Derived.RegionTactic
import Derived.OwnWalk
namespace Go.Proofs.YtfhaeplamahcpaaDoor
open Go.RowKit Go.Shelf
set_option linter.unusedVariables false
set_option linter.unusedSimpArgs false

/-! strings.Cut at a separator of one byte: no word of bytealg.MaxLen is wanted. -/
theorem idx37 (s : ByteArray) (c : UInt8) (w : World) : Calls Tryd.prog 37 #[.string s, .string ⟨#[c]⟩] w fun e w' => e = .returned (.int .i64 (Lib.indexByte s.data.toList c)) ∧ w' = w :=
  Any.stringslite_Index_one { Tryd.lays143 with } s c w
set_option maxRecDepth 100000 in
set_option maxHeartbeats 1000000 in
theorem cut25 (s : ByteArray) (w : World) (hs : s.size ≤ 1048576) :
    Calls Tryd.prog 25 #[.string s, .string ⟨#[58]⟩] w fun e w' => e = .returned (.tuple #[.string ⟨(Lib.cut s.data.toList [58]).1.toArray⟩, .string ⟨(Lib.cut s.data.toList [58]).2.1.toArray⟩, .bool (Lib.cut s.data.toList [58]).2.2]) ∧ Below w.heap.size w w' := by
  have HI := Lib.hid (fun W => idx37 s 58 W)
  have hz : (⟨#[58]⟩ : ByteArray).size = 1 := rfl
  rcases Lib.indexB_cases s ⟨#[58]⟩ with hx | ⟨i, hx, hi⟩
  · obtain ⟨e1, e2, e3⟩ := Lib.cutB_miss s ⟨#[58]⟩ hx
    have e1' : (⟨(Lib.cut s.data.toList [58]).1.toArray⟩ : ByteArray) = s := e1
    have e2' : (⟨(Lib.cut s.data.toList [58]).2.1.toArray⟩ : ByteArray) = ⟨#[]⟩ := e2
    have e3' : (Lib.cut s.data.toList [58]).2.2 = false := e3
    have hb : Lib.indexByte s.data.toList 58 = -1 := by rw [← Lib.index_one]; exact hx
    rw [e1', e2', e3']
    rw [hb] at HI
    clear e1 e2 e3 e1' e2' e3' hx hb
    go_enter Tryd.func25, Tryd.ntmps25
    go_wp2_with fail
    refine (HI.out _).mono ?_
    rintro e w2 ⟨rfl, rfl⟩
    go_wp2
    refine bodyPost_ret (results_tmp3 rfl _ _ _) rfl ?_
    exact ⟨rfl, Below.refl _ _⟩
  · obtain ⟨e1, e2, e3⟩ := Lib.cutB_hit s ⟨#[58]⟩ i hx
    have e1' : (⟨(Lib.cut s.data.toList [58]).1.toArray⟩ : ByteArray) = s.extract 0 i := e1
    have e2' : (⟨(Lib.cut s.data.toList [58]).2.1.toArray⟩ : ByteArray) = s.extract (i + 1) s.size := e2
    have e3' : (Lib.cut s.data.toList [58]).2.2 = true := e3
    have hb : Lib.indexByte s.data.toList 58 = (i : Int) := by rw [← Lib.index_one]; exact hx
    rw [e1', e2', e3']
    rw [hb] at HI
    rw [hz] at hi
    have hi0 : (0 : Int) ≤ (i : Int) := Int.natCast_nonneg i
    have hi1 : (i : Int) ≤ (s.size : Int) := by omega
    have hi2 : (0 : Int) ≤ (i : Int) + 1 := by omega
    have hi3 : (i : Int) + 1 ≤ (s.size : Int) := by omega
    have hw2 : IntKind.i64.wrap ((i : Int) + 1) = (i : Int) + 1 := IntWalk.i64_in _ (by omega)
    have ht1 : ((i : Int) + 1).toNat = i + 1 := by omega
    clear e1 e2 e3 e1' e2' e3' hx hb
    go_enter Tryd.func25, Tryd.ntmps25
    go_wp2_with fail
    refine (HI.out _).mono ?_
    rintro e w2 ⟨rfl, rfl⟩
    go_wp2
    go_region
    all_goals go_wp2
    all_goals (refine bodyPost_ret (results_tmp3 rfl _ _ _) rfl ?_)
    all_goals exact ⟨rfl, (Below.refl _ _).drew⟩
set_option maxHeartbeats 1000000 in
theorem cut17 (s : ByteArray) (w : World) (hs : s.size ≤ 1048576) :
    Calls Tryd.prog 17 #[.string s, .string ⟨#[58]⟩] w fun e w' => e = .returned (.tuple #[.string ⟨(Lib.cut s.data.toList [58]).1.toArray⟩, .string ⟨(Lib.cut s.data.toList [58]).2.1.toArray⟩, .bool (Lib.cut s.data.toList [58]).2.2]) ∧ Below w.heap.size w w' := by
  have HC := Lib.hid (cut25 s w hs)
  go_enter Tryd.func17, Tryd.ntmps17
  go_wp2_with fail
  refine HC.out.mono ?_
  rintro e w2 ⟨rfl, b2⟩
  go_wp2
  refine bodyPost_ret (results_tmp3 rfl _ _ _) rfl ?_
  exact ⟨rfl, b2⟩
end Go.Proofs.YtfhaeplamahcpaaDoor
