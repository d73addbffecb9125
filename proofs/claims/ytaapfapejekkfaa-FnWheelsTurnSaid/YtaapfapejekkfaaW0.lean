import Derived.Test.YtaapfapejekkfaaS9
import Derived.Test.YtaapfapejekkfaaH1
import Derived.Laws.ResultCell
namespace Go.Proofs.Ytaapfapejekkfaa
open Go.RowKit
set_option linter.unusedVariables false
set_option linter.unusedSimpArgs false

theorem wheel_info : (Try.prog.info? 130).map (·.size) = some 3 := by kernel_rfl
theorem results_wheel {fn : Func} {p u : Tmp} (h : fn.results = #[.cell p 130, .tmp u]) (tmps : Array Value) (w : World) (g : Nat) (t : TypeId) (cs : Array Value) (fr : Nat × Nat)
    (hp : tmps.getD p undef = .pointer (some ⟨g, 0, none⟩)) (hg : w.heap[g]? = some (.cells cs t fr)) (hs : cs.size = 3) :
    (results fn tmps).run Try.prog w = .ok (.tuple #[.agg cs, tmps.getD u undef]) w := by
  rw [results_cell_tmp h, hp]
  simp only [asAddr, Sem.run_pure, Result.andThen_ok, run_loadVar_row w g t _ cs fr _ hg Try.underlying130 rfl (by rw [wheel_info, hs])]

theorem isFar_c (n : Int) (w : World) :
    Calls Try.prog 200 #[.int .i64 n] w fun e w' => e = .returned (.bool (inB n 0 1000000000)) ∧ w = w' := by
  by_cases h1 : 0 ≤ n
  · by_cases h2 : n ≤ 1000000000
    · rw [inB_true.2 ⟨h1, h2⟩]
      go_enter Try.func200, Try.ntmps200
      go_wp2
      go_ret
      exact ⟨rfl, rfl⟩
    · rw [inB_false.2 (by omega)]
      go_enter Try.func200, Try.ntmps200
      go_wp2
      go_ret
      exact ⟨rfl, rfl⟩
  · rw [inB_false.2 (by omega)]
    go_enter Try.func200, Try.ntmps200
    go_wp2
    go_ret
    exact ⟨rfl, rfl⟩

set_option maxRecDepth 100000 in
set_option maxHeartbeats 800000 in
theorem leftInTurns_c (w : World) (A : Option Addr) (m c : Nat) (rs : List (Int × Int)) (hA : Rl w A rs) (hm : m = rs.length) (hg : goodL rs = true) (P : Nat) (hP : P ≤ 50000) :
    Calls Try.prog 298 #[.slice A m c, .int .i64 (P : Int)] w fun en w' => (∃ v, en = .returned v ∧ OwnI w' w.heap.size v (upF (leftF rs) (2 * P))) ∧ Below w.heap.size w w' := by
  have Hm := Lib.hid hm
  have Hg := Lib.hid hg
  clear hm hg
  go_enter Try.func298, Try.ntmps298
  go_wp2
  go_loopw [5, 6] (fun v i wr => ∃ k : Nat, k ≤ 2 * P ∧ i = .int .i64 ((k : Int) + 1) ∧ OwnI wr w.heap.size v (upF (leftF rs) k) ∧ Below w.heap.size w wr) (fun _ i _ => 2 * P + 1 - (intOf i).toNat)
  case atStart => exact ⟨0, Nat.zero_le _, rfl, World.ownsRow_nil _ _ _ _, Below.refl _ _⟩
  case round =>
    rename_i v
    obtain ⟨k, hk, rfl, hown, hbel⟩ := hrel
    have Hown := Lib.hid hown
    clear hown
    have hs := hbel.size
    have hR := hA.below hbel
    by_cases hlt : k < 2 * P
    · have hul := upF_len (leftF rs) k
      cases hl : leftF rs ((k : Int) + 1) with
      | true =>
        have Hy := Lib.hid (upF_yes hl)
        go_wp2_with fail
        refine (isLeft_c _ _ _ rs _ _ hR Hm.out Hg.out (by omega) (by omega)).mono ?_
        rw [hl]
        rintro e w1 ⟨rfl, b1⟩
        have hown1 := OwnI.below Hown.out b1
        have hs1 := b1.size
        go_wp2_with (at_builtin; refine wp_app_int _ rfl _ _ rfl w.heap.size _ _ rfl hown1 _ rfl (by omega) (by omega) ?_; intro v' w2 hown2 b2)
        go_roundw
        case rel => exact ⟨k + 1, by omega, by go_num, by rw [Hy.out]; exact hown2, (hbel.trans (b1.mono hs)).trans b2⟩
        case measure => simp [intOf]; omega
      | false =>
        have Hy := Lib.hid (upF_no hl)
        go_wp2_with fail
        refine (isLeft_c _ _ _ rs _ _ hR Hm.out Hg.out (by omega) (by omega)).mono ?_
        rw [hl]
        rintro e w1 ⟨rfl, b1⟩
        go_wp2
        go_roundw
        case rel => exact ⟨k + 1, by omega, by go_num, by rw [Hy.out]; exact OwnI.below Hown.out b1, hbel.trans (b1.mono hs)⟩
        case measure => simp [intOf]; omega
    · go_wp2
      go_ret
      have hkM : k = 2 * P := by omega
      subst hkM
      exact ⟨⟨_, rfl, Hown.out⟩, hbel⟩

end Go.Proofs.Ytaapfapejekkfaa
