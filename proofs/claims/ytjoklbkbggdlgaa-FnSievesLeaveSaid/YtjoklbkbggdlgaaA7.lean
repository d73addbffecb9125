import Derived.Test.YtjoklbkbggdlgaaA6
import Derived.Test.YtjoklbkbggdlgaaP0
namespace Go.Proofs.Ytjoklbkbggdlgaa
open Go.RowKit
set_option linter.unusedVariables false
set_option linter.unusedSimpArgs false

def okM (rs : List (Int × Int)) (n : Int) : Bool := goodL rs && mostB n
set_option maxRecDepth 100000 in
set_option maxHeartbeats 400000 in
theorem siMost_c (w : World) (A : Option Addr) (m c : Nat) (rs : List (Int × Int)) (hA : Rl w A rs) (hm : m = rs.length) (hn : m ≤ 1048576) (n : Int) :
    Calls Try.prog 50 #[.slice A m c, .int .i64 n] w fun en w' => en = .returned (.bool (okM rs n)) ∧ Below w.heap.size w w' := by
  have Hm := Lib.hid hm
  clear hm
  cases hg : goodL rs with
  | false =>
    rw [show okM rs n = false by simp [okM, hg]]
    go_enter Try.func50, Try.ntmps50
    go_wp2_with fail
    refine (good_c _ _ _ rs _ hA Hm.out hn).mono ?_
    rintro e w1 ⟨rfl, b1⟩
    have hA_1 := hA.below b1
    go_wp2
    go_ret
    exact ⟨rfl, b1⟩
  | true =>
    rw [show okM rs n = mostB n by simp [okM, hg]]
    have Hg := Lib.hid hg
    go_enter Try.func50, Try.ntmps50
    go_wp2_with fail
    refine (good_c _ _ _ rs _ hA Hm.out hn).mono ?_
    rintro e w1 ⟨rfl, b1⟩
    have hA_1 := hA.below b1
    go_wp2_with fail
    refine (l1In_c _ _ _ _).mono ?_
    rintro e w2 ⟨rfl, rfl⟩
    go_wp2
    go_ret
    exact ⟨rfl, b1⟩

/-- Of 1, .., k those with p, in order. -/
def upF (p : Int → Bool) (k : Nat) : List Int := ((List.range k).map fun i : Nat => (i : Int) + 1).filter p
theorem upF_succ (p : Int → Bool) (k : Nat) : upF p (k + 1) = if p ((k : Int) + 1) = true then upF p k ++ [(k : Int) + 1] else upF p k := by
  simp only [upF, List.range_succ, List.map_append, List.filter_append, List.map_cons, List.map_nil]
  cases h : p ((k : Int) + 1) <;> simp [h]
theorem upF_yes {p : Int → Bool} {k : Nat} (h : p ((k : Int) + 1) = true) : upF p (k + 1) = upF p k ++ [(k : Int) + 1] := by rw [upF_succ, if_pos h]
theorem upF_no {p : Int → Bool} {k : Nat} (h : p ((k : Int) + 1) = false) : upF p (k + 1) = upF p k := by rw [upF_succ, if_neg (by rw [h]; exact Bool.false_ne_true)]
theorem upF_len (p : Int → Bool) (k : Nat) : (upF p k).length ≤ k := Nat.le_trans (List.length_filter_le _ _) (by simp)

theorem OwnR.below {w w' : World} {B : Nat} {v : Value} {rs : List (Int × Int)} (h : OwnR w B v rs) (hb : Below w.heap.size w w') : OwnR w' B v rs := own_below h hb


set_option maxHeartbeats 800000 in
theorem siList_c (w : World) (A : Option Addr) (m c : Nat) (rs : List (Int × Int)) (hA : Rl w A rs) (hm : m = rs.length) (hg : goodL rs = true) (M : Nat) (hM : M ≤ 600) :
    Calls Try.prog 51 #[.slice A m c, .int .i64 (M : Int)] w fun en w' => (∃ v, en = .returned v ∧ OwnI w' w.heap.size v (upF (leftF rs) M)) ∧ Below w.heap.size w w' := by
  have Hm := Lib.hid hm
  have Hg := Lib.hid hg
  clear hm hg
  go_enter Try.func51, Try.ntmps51
  go_wp2
  go_loopw [5, 6] (fun v i wr => ∃ k : Nat, k ≤ M ∧ i = .int .i64 ((k : Int) + 1) ∧ OwnI wr w.heap.size v (upF (leftF rs) k) ∧ Below w.heap.size w wr) (fun _ i _ => M + 1 - (intOf i).toNat)
  case atStart => exact ⟨0, Nat.zero_le _, rfl, World.ownsRow_nil _ _ _ _, Below.refl _ _⟩
  case round =>
    rename_i v
    obtain ⟨k, hk, rfl, hown, hbel⟩ := hrel
    have Hown := Lib.hid hown
    clear hown
    have hs := hbel.size
    have hR := hA.below hbel
    by_cases hlt : k < M
    · have hul := upF_len (leftF rs) k
      cases hl : leftF rs ((k : Int) + 1) with
      | true =>
        have Hy := Lib.hid (upF_yes hl)
        go_wp2_with fail
        refine (siLeft_c _ _ _ rs _ _ hR Hm.out Hg.out (by omega) (by omega)).mono ?_
        rintro e w1 ⟨rfl, b1⟩
        have hown1 := OwnI.below Hown.out b1
        have hs1 := b1.size
        go_wp2_with (at_builtin; refine wp_app_int _ rfl _ _ rfl w.heap.size _ _ rfl hown1 _ rfl (by omega) (by omega) ?_; intro v' w2 hown2 b2)
        go_roundw
        case rel => exact ⟨k + 1, by omega, by go_num, by rw [Hy.out]; exact hown2, (hbel.trans (b1.mono hs)).trans b2⟩
        case measure => simp [intOf]; omega
      | false =>
        have Hy := Lib.hid (upF_no hl)
        go_wp2_with fail
        refine (siLeft_c _ _ _ rs _ _ hR Hm.out Hg.out (by omega) (by omega)).mono ?_
        rintro e w1 ⟨rfl, b1⟩
        go_wp2
        go_roundw
        case rel => exact ⟨k + 1, by omega, by go_num, by rw [Hy.out]; exact OwnI.below Hown.out b1, hbel.trans (b1.mono hs)⟩
        case measure => simp [intOf]; omega
    · go_wp2
      go_ret
      have hkM : k = M := by omega
      subst hkM
      exact ⟨⟨_, rfl, Hown.out⟩, hbel⟩

end Go.Proofs.Ytjoklbkbggdlgaa
