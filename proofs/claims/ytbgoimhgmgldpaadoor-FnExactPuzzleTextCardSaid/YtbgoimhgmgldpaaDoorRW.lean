import Derived.Test.YtbgoimhgmgldpaaDoorRU
import Derived.Test.YtbgoimhgmgldpaaDoorRT
import Derived.Test.YtbgoimhgmgldpaaDoorRH
import Derived.Test.YtbgoimhgmgldpaaDoorSh
import Derived.Deep.QuietTactic
import Derived.BigQuiet
import Derived.RegionTactic
import Derived.OwnWalk
import Derived.StillTailTactics
import Derived.Lib.ItoaNum
import Derived.Lib.AtoiErrMem
import Derived.Shelf.Strings.Search3
namespace Go.Proofs.YtbgoimhgmgldpaaDoor
open Go.RowKit Go.Shelf
set_option linter.unusedVariables false
set_option linter.unusedSimpArgs false

/-! The library's functions that texts of puzzles call. -/
theorem dec1 {n : Nat} (h : n < 10) : (⟨(Lib.decDigits n).toArray⟩ : ByteArray) = ⟨#[dig (n : Int)]⟩ := by
  rw [Lib.decDigits, dif_pos h]
  have : dig (n : Int) = UInt8.ofNat (48 + n) := by unfold dig; rw [Int.toNat_natCast]
  rw [this]
theorem itoa1_s (n : Int) (w : World) (h0 : 0 ≤ n) (h1 : n ≤ 3) :
    Calls Tryd.prog 15 #[.int .i64 n] w fun e w' => e = .returned (.string ⟨#[dig n]⟩) ∧ w' = w := by
  obtain ⟨k, rfl⟩ := Int.eq_ofNat_of_zero_le h0
  rw [← dec1 (by omega)]
  exact Tryd.strconv_Itoa_small k (by omega) w
set_option maxRecDepth 100000 in
set_option maxHeartbeats 1200000 in
theorem impl_PuzzleText_c (w : World) (s : ByteArray) (n : Int) (hs : (s.size : Int) ≤ 1000000000) :
    Calls Tryd.prog 8 #[.agg #[.string s, .int .i64 n]] w fun en w' => en = .returned (.tuple #[.string (ptxV s n), .bool (pzB s n)]) ∧ Below w.heap.size w w' := by
  have Hp := Lib.hid (fun W => impl_IsPuzzle_c W s n hs)
  have b0 : Below w.heap.size w (w.alloc (.cells #[.string s, .int .i64 n] 27)) := (Below.refl _ _).alloc (Nat.le_refl _) _
  have P0 := BoxP.new w (.string s) (.int .i64 n) 27
  have B0 := Lib.hid b0
  have HP0 := Lib.hid P0
  clear b0 P0
  cases hg : pzB s n with
  | false =>
    rw [ptxV_no hg]
    rw [hg] at Hp
    clear hg
    go_enter Tryd.func8, Tryd.ntmps8
    go_wp2_with fail
    refine (Hp.out _).mono ?_
    rintro e w2 ⟨rfl, b2⟩
    go_wp2
    go_ret2
    exact ⟨rfl, B0.out.trans (b2.mono B0.out.size)⟩
  | true =>
    rw [ptxV_yes hg]
    obtain ⟨h48, h0, h3⟩ := pzB_two hg
    rw [hg] at Hp
    clear hg
    have hz1 : (⟨#[58]⟩ : ByteArray).size = 1 := rfl
    have hz2 : (⟨#[dig n]⟩ : ByteArray).size = 1 := rfl
    have a1 := addP s ⟨#[58]⟩ (by omega)
    have a2 := addP (s ++ ⟨#[58]⟩) ⟨#[dig n]⟩ (by rw [ByteArray.size_append]; omega)
    rw [show s ++ ⟨#[58]⟩ ++ ⟨#[dig n]⟩ = ptxT s n from rfl] at a2
    go_enter Tryd.func8, Tryd.ntmps8
    go_wp2_with fail
    refine (Hp.out _).mono ?_
    rintro e w2 ⟨rfl, b2⟩
    have P2 := HP0.out.below b2
    have c0 := P2.1
    have c1 := P2.2.1
    go_wp2_with fail
    go_still_tail 7, (by kernel_rfl)
    repeat (first | still_step | still_call (itoa1_s _ _ (by assumption) (by assumption)))
    refine wpStill_nil ?_
    go_wp2
    go_ret2
    exact ⟨rfl, (B0.out.trans (b2.mono B0.out.size)).drew⟩
theorem idx31 (s : ByteArray) (c : UInt8) (w : World) : Calls Tryd.prog 31 #[.string s, .string ⟨#[c]⟩] w fun e w' => e = .returned (.int .i64 (Lib.indexByte s.data.toList c)) ∧ w' = w :=
  Any.stringslite_Index_one { Tryd.lays220 with } s c w
set_option maxRecDepth 100000 in
set_option maxHeartbeats 1000000 in
theorem cut25 (s : ByteArray) (w : World) (hs : s.size ≤ 1048576) :
    Calls Tryd.prog 25 #[.string s, .string ⟨#[58]⟩] w fun e w' => e = .returned (.tuple #[.string ⟨(Lib.cut s.data.toList [58]).1.toArray⟩, .string ⟨(Lib.cut s.data.toList [58]).2.1.toArray⟩, .bool (Lib.cut s.data.toList [58]).2.2]) ∧ Below w.heap.size w w' := by
  have HI := Lib.hid (fun W => idx31 s 58 W)
  have hz : (⟨#[58]⟩ : ByteArray).size = 1 := rfl
  rcases Lib.indexB_cases s ⟨#[58]⟩ with hx | ⟨i, hx, hi⟩
  · obtain ⟨e1, e2, e3⟩ := Lib.cutB_miss s ⟨#[58]⟩ hx
    have e1' : (⟨(Lib.cut s.data.toList [58]).1.toArray⟩ : ByteArray) = s := e1
    have e2' : (⟨(Lib.cut s.data.toList [58]).2.1.toArray⟩ : ByteArray) = ⟨#[]⟩ := e2
    have e3' : (Lib.cut s.data.toList [58]).2.2 = false := e3
    have hb : Lib.indexByte s.data.toList 58 = -1 := by rw [← Lib.index_one]; exact hx
    rw [e1', e2', e3']
    rw [hb] at HI
    clear e1 e2 e3 e1' e2' e3' hx hb
    go_enter Tryd.func25, Tryd.ntmps25
    go_wp2_with fail
    refine (HI.out _).mono ?_
    rintro e w2 ⟨rfl, rfl⟩
    go_wp2
    refine bodyPost_ret (results_tmp3 rfl _ _ _) rfl ?_
    exact ⟨rfl, Below.refl _ _⟩
  · obtain ⟨e1, e2, e3⟩ := Lib.cutB_hit s ⟨#[58]⟩ i hx
    have e1' : (⟨(Lib.cut s.data.toList [58]).1.toArray⟩ : ByteArray) = s.extract 0 i := e1
    have e2' : (⟨(Lib.cut s.data.toList [58]).2.1.toArray⟩ : ByteArray) = s.extract (i + 1) s.size := e2
    have e3' : (Lib.cut s.data.toList [58]).2.2 = true := e3
    have hb : Lib.indexByte s.data.toList 58 = (i : Int) := by rw [← Lib.index_one]; exact hx
    rw [e1', e2', e3']
    rw [hb] at HI
    rw [hz] at hi
    have hi0 : (0 : Int) ≤ (i : Int) := Int.natCast_nonneg i
    have hi1 : (i : Int) ≤ (s.size : Int) := by omega
    have hi2 : (0 : Int) ≤ (i : Int) + 1 := by omega
    have hi3 : (i : Int) + 1 ≤ (s.size : Int) := by omega
    have hw2 : IntKind.i64.wrap ((i : Int) + 1) = (i : Int) + 1 := IntWalk.i64_in _ (by omega)
    have ht1 : ((i : Int) + 1).toNat = i + 1 := by omega
    clear e1 e2 e3 e1' e2' e3' hx hb
    go_enter Tryd.func25, Tryd.ntmps25
    go_wp2_with fail
    refine (HI.out _).mono ?_
    rintro e w2 ⟨rfl, rfl⟩
    go_wp2
    go_region
    all_goals go_wp2
    all_goals (refine bodyPost_ret (results_tmp3 rfl _ _ _) rfl ?_)
    all_goals exact ⟨rfl, (Below.refl _ _).drew⟩
set_option maxHeartbeats 1000000 in
theorem cut17 (s : ByteArray) (w : World) (hs : s.size ≤ 1048576) :
    Calls Tryd.prog 18 #[.string s, .string ⟨#[58]⟩] w fun e w' => e = .returned (.tuple #[.string ⟨(Lib.cut s.data.toList [58]).1.toArray⟩, .string ⟨(Lib.cut s.data.toList [58]).2.1.toArray⟩, .bool (Lib.cut s.data.toList [58]).2.2]) ∧ Below w.heap.size w w' := by
  have HC := Lib.hid (cut25 s w hs)
  go_enter Tryd.func18, Tryd.ntmps18
  go_wp2_with fail
  refine HC.out.mono ?_
  rintro e w2 ⟨rfl, b2⟩
  go_wp2
  refine bodyPost_ret (results_tmp3 rfl _ _ _) rfl ?_
  exact ⟨rfl, b2⟩
attribute [local go_sem] Oper.semAt_some
/-- What is asked of the library's variables: ErrSyntax and ErrRange errors. -/
def IsErr (v : Value) : Prop := v = .nilIface ∨ ∃ te pe, v = .iface te pe
structure LW (w : World) : Prop where
  syn : ∃ v, w.cell? ⟨1, 0, none⟩ = some v ∧ IsErr v
  rng : ∃ v, w.cell? ⟨2, 0, none⟩ = some v ∧ IsErr v
theorem cell_keep {w w' : World} (hb : Below w.heap.size w w') {p : Addr} {v : Value} (h : w.cell? p = some v) : w'.cell? p = some v :=
  (hb.cell (World.block_lt_of_cell? w p (by rw [h]))).trans h
theorem LW.below {w w' : World} (h : LW w) (hb : Below w.heap.size w w') : LW w' := by
  obtain ⟨⟨v, h2, h3⟩, ⟨u, h4, h5⟩⟩ := h
  exact ⟨⟨v, cell_keep hb h2, h3⟩, ⟨u, cell_keep hb h4, h5⟩⟩
theorem atoi_ok (t : ByteArray) (w : World) (ht : t.size ≤ 1048576) {u : Int} (h : Lib.atoiAll t.data.toList = .ok u) :
    Calls Tryd.prog 19 #[.string t] w fun e w' => e = .returned (.tuple #[.int .i64 u, .nilIface]) ∧ Below w.heap.size w w' := by
  refine (Tryd.strconv_Atoi_ok t (by omega) u h w).mono ?_
  rintro e w' ⟨rfl, rfl | ⟨y, rfl⟩⟩
  · exact ⟨rfl, Below.refl _ _⟩
  · exact ⟨rfl, Lib.bytesWorld_below w _ y⟩
theorem atoi_bad (t : ByteArray) (w : World) (hl : LW w) (ht : t.size ≤ 1048576) (h : ¬ (∃ u, Lib.atoiAll t.data.toList = .ok u)) :
    Calls Tryd.prog 19 #[.string t] w fun e w' => (∃ u te pe, e = .returned (.tuple #[.int .i64 u, .iface te pe])) ∧ Below w.heap.size w w' := by
  cases hk : Lib.atoiAll t.data.toList with
  | ok u => exact absurd ⟨u, hk⟩ h
  | «syntax» =>
    obtain ⟨v, h1, h2⟩ := hl.syn
    refine (Tryd.strconv_Atoi_syntax t (by omega) hk v w h1 h2).mono ?_
    rintro e w' ⟨N, rfl, _, _, hb⟩
    exact ⟨⟨_, _, _, rfl⟩, hb⟩
  | range =>
    obtain ⟨v, h1, h2⟩ := hl.rng
    refine (Tryd.strconv_Atoi_range t (by omega) hk v w h1 h2).mono ?_
    rintro e w' ⟨N, rfl, _, _, hb⟩
    exact ⟨⟨_, _, _, rfl⟩, hb⟩

end Go.Proofs.YtbgoimhgmgldpaaDoor
