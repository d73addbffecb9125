import Derived.Test.YtaapfapejekkfaaG2
import Derived.Lib.MinMax
namespace Go.Proofs.Ytaapfapejekkfaa
open Go.RowKit
set_option linter.unusedVariables false
set_option linter.unusedSimpArgs false

set_option maxRecDepth 100000 in
set_option maxHeartbeats 1600000 in
theorem primesBetween_c (w : World) (lo hi : Nat) (hl0 : lo ≤ 1000000000) (hh : hi ≤ 1000000000) (hd : hi + 1 - lo ≤ 100000) :
    Calls Try.prog 320 #[.int .i64 (lo : Int), .int .i64 (hi : Int)] w fun en w' => (∃ v, en = .returned v ∧ OwnI w' w.heap.size v (prB lo hi)) ∧ Below w.heap.size w w' := by
  rw [prB_two]
  have hmx : max (lo : Int) 2 = ((max lo 2 : Nat) : Int) := by omega
  have hlo : 2 ≤ max lo 2 := Nat.le_max_right _ _
  have hlo9 : max lo 2 ≤ 1000000000 := by omega
  have hd2 : hi + 1 - max lo 2 ≤ 100000 := by omega
  generalize max lo 2 = l at *
  by_cases hgt : hi < l
  · rw [show prB l hi = [] by rw [prB, show hi + 1 - l = 0 by omega]; rfl]
    go_enter Try.func320, Try.ntmps320
    go_wp2
    go_ret
    exact ⟨⟨_, rfl, OwnI.nil _ _⟩, Below.refl _ _⟩
  · obtain ⟨L, hL⟩ : ∃ L, hi + 1 - l = L := ⟨_, rfl⟩
    unfold prB
    rw [hL] at hd2 ⊢
    have hLi : (hi : Int) - (l : Int) + 1 = (L : Int) := by omega
    have hmk := fun W => mk_full Try.underlying199 info_Bo L (by omega) (by omega) W
    have hml := mk_owns (e := 4) #[.bool false] 1 L (by unfold maxLen; omega) w
    rw [Nat.mul_one] at hml
    have HL := Lib.hid hL
    clear hL
    go_enter Try.func320, Try.ntmps320
    go_wp2_with fail
    clear hmk hmx
    have HLi := Lib.hid hLi
    clear hLi
    go_loopw [6] (fun i wr => ∃ d : Nat, i = .int .i64 (d : Int) ∧ 2 ≤ d ∧ d ≤ 31623 ∧ (∃ ys, wr.ownsRow w.heap.size 4 1 (.slice (some ⟨w.heap.size, 0, none⟩) L L) L ys ∧ ∀ j, j < L → ys[j]? = some (.bool (anyD (l + j) d))) ∧ Below w.heap.size w wr) (fun i _ => 31624 - (intOf i).toNat)
    case atStart => exact ⟨2, rfl, by omega, by omega, ⟨_, hml, fun j hj => by rw [anyD_two]; simp [madeCells, hj, Nat.mod_one]⟩, (Below.refl _ _).alloc (Nat.le_refl _) _⟩
    case round =>
      clear hml
      obtain ⟨d, rfl, d1, d2, ⟨ys, hown, hys⟩, hbel⟩ := hrel
      have Hown := Lib.hid hown
      have Hys := Lib.hid hys
      clear hown hys
      have hs1 : (d : Int) * (d : Int) ≤ 1000014129 := by
        have := Nat.mul_le_mul d2 d2
        have h3 : ((d * d : Nat) : Int) ≤ 1000014129 := by omega
        rwa [Int.natCast_mul] at h3
      have hs0 : 0 ≤ (d : Int) * (d : Int) := Int.mul_nonneg (by omega) (by omega)
      have hz : ((d : Int) == 0) = false := beq_eq_false_iff_ne.2 (by omega)
      by_cases hlt : (d : Int) * (d : Int) ≤ (hi : Int)
      · have hlt2 : d * d ≤ hi := by
          have h3 : ((d * d : Nat) : Int) ≤ (hi : Int) := by rwa [Int.natCast_mul]
          omega
        have hd := sq_le hlt2 (by omega)
        obtain ⟨f, hf⟩ : ∃ f, (l + d - 1) / d * d = f := ⟨_, rfl⟩
        obtain ⟨M, hM⟩ : ∃ M, max (d * d) f = M := ⟨_, rfl⟩
        have hfi : ((l : Int) + (d : Int) - 1) / (d : Int) * (d : Int) = (f : Int) := by
          rw [← hf, Int.natCast_mul, Int.natCast_ediv]
          congr 2
          omega
        have hMi : max ((d : Int) * (d : Int)) (f : Int) = (M : Int) := by
          rw [← hM, ← Int.natCast_mul]
          omega
        have hf2 : f ≤ l + d - 1 := by rw [← hf]; exact Nat.div_mul_le_self _ _
        have hM1 : d * d ≤ M := by omega
        have hMl : l ≤ M := by have := mul_first_ge (lo := l) (d := d) (by omega); omega
        have hMd : M % d = 0 := by
          rcases Nat.le_total (d * d) f with h | h
          · rw [← hM, Nat.max_eq_right h, ← hf, Nat.mul_mod_left]
          · rw [← hM, Nat.max_eq_left h, Nat.mul_mod_left]
        have hM9 : M ≤ 2000000000 := by omega
        have Hst := Lib.hid (fun j (hj : j < L) => (Hys.out j hj).trans (by rw [← mkB_start (lo := l) d1 (Nat.le_add_right l j), hf, hM]))
        have HMd := Lib.hid hMd
        have HM1 := Lib.hid hM1
        have hq0 : 0 ≤ ((l : Int) + (d : Int) - 1) / (d : Int) := Int.ediv_nonneg (by omega) (by omega)
        have hq1 : ((l : Int) + (d : Int) - 1) / (d : Int) ≤ (l : Int) + (d : Int) - 1 := Int.ediv_le_self _ (by omega)
        have hfi9 : ((l : Int) + (d : Int) - 1) / (d : Int) * (d : Int) ≤ 2000000000 := by rw [hfi]; omega
        have hfi0 : 0 ≤ ((l : Int) + (d : Int) - 1) / (d : Int) * (d : Int) := by rw [hfi]; omega
        clear hM hf hMd hM1 hlt2
        go_wp2_with fail
        clear hfi hMi hfi9 hfi0 hq0 hq1 hs1 hs0
        go_loopw [8] (fun i wr => ∃ q : Nat, i = .int .i64 ((l : Int) + (q : Int)) ∧ l + q ≤ 2000000000 ∧ d * d ≤ l + q ∧ (l + q) % d = 0 ∧ (∃ ys, wr.ownsRow w.heap.size 4 1 (.slice (some ⟨w.heap.size, 0, none⟩) L L) L ys ∧ ∀ j, j < L → ys[j]? = some (.bool (mkB d (l + q) (l + j)))) ∧ Below w.heap.size w wr) (fun i _ => hi + 1 - (intOf i).toNat)
        case atStart => exact ⟨M - l, by rw [show (M : Int) = (l : Int) + ((M - l : Nat) : Int) by omega], by omega, by rw [show l + (M - l) = M by omega]; exact HM1.out, by rw [show l + (M - l) = M by omega]; exact HMd.out, ⟨ys, Hown.out, fun j hj => by rw [show l + (M - l) = M by omega]; exact Hst.out j hj⟩, hbel⟩
        case round =>
          clear Hst HMd HM1 Hys Hown hbel
          clear ys
          obtain ⟨q, rfl, q2, q3, q4, ⟨ys, hown, hys⟩, hbel⟩ := hrel
          have Hown := Lib.hid hown
          have Hys := Lib.hid hys
          have Q3 := Lib.hid q3
          have Q4 := Lib.hid q4
          clear hown hys q3 q4
          by_cases hin : (l : Int) + (q : Int) ≤ (hi : Int)
          · have e1 : (l : Int) + (q : Int) - (l : Int) = (q : Int) := by omega
            have hqL : q < L := by have := HL.out; omega
            obtain ⟨x0, hx0, hf0⟩ := own_get Hown.out q (by omega)
            have hs := hbel.size
            go_wp2
            go_roundw
            case rel =>
              have h2 := (Hown.out.stored q (.bool true)).1
              have hxl : ys.length = L * 1 := Hown.out.1
              refine ⟨q + d, by rw [Int.natCast_add, Int.add_assoc], by omega, by have := Q3.out; omega, by rw [← Nat.add_assoc, Nat.add_mod_right]; exact Q4.out, ⟨_, h2, fun j hj => ?_⟩, hbel.setCell (Nat.le_refl _) _⟩
              by_cases hjq : j = q
              · subst hjq
                rw [List.getElem?_set_self (by omega), ← Nat.add_assoc, mkB_hit Q3.out Q4.out d1]
              · rw [List.getElem?_set_ne (by omega), ← Nat.add_assoc, mkB_other Q4.out d1 (by omega)]
                exact Hys.out j hj
            case measure => simp [intOf]; omega
          · go_wp2
            go_roundw
            case rel => exact ⟨d + 1, by go_num, by omega, by omega, ⟨ys, Hown.out, fun j hj => by rw [← mkB_end (m := l + q) d1 (by have := HL.out; omega)]; exact Hys.out j hj⟩, hbel⟩
            case measure => simp [intOf]; omega
      · have hlt2 : hi < d * d := by
          rcases Nat.lt_or_ge hi (d * d) with h3 | h3
          · exact h3
          · exact absurd (show (d : Int) * (d : Int) ≤ (hi : Int) by rw [← Int.natCast_mul]; omega) hlt
        have Hfin := Lib.hid (fun j (hj : j < L) => (Hys.out j hj : ys[j]? = some (.bool (anyD (l + j) d))))
        have Hpr := Lib.hid (fun j (hj : j < L) => anyD_prime (n := l + j) (d := d) (by omega) (by have := HL.out; omega))
        clear Hys hlt2
        have hs := hbel.size
        have Hbel := Lib.hid hbel
        clear hbel
        rename World => w2
        go_wp2_with fail
        go_loopw [9, 55] (fun v i w3 => ∃ k : Nat, k ≤ L ∧ i = .int .i64 (k : Int) ∧ OwnI w3 w2.heap.size v (flF primeB l k) ∧ Below w2.heap.size w2 w3) (fun _ i _ => L - (intOf i).toNat)
        case atStart => exact ⟨0, Nat.zero_le _, rfl, World.ownsRow_nil _ _ _ _, Below.refl _ _⟩
        case round =>
          rename_i v
          obtain ⟨k, hk, rfl, hown, hb3⟩ := hrel
          have Hout := Lib.hid hown
          clear hown
          have hs3 := hb3.size
          by_cases hin : k < L
          · obtain ⟨g, hg, hg1, hg2⟩ := own_form Hown.out (by omega)
            injection hg with hg
            injection hg with hg
            subst hg
            have hc0 := (hb3.cell (p := ⟨w.heap.size, k, none⟩) hg2).trans ((Hown.out.cellAt k (by omega)).trans (Hfin.out k hin))
            have hP := Hpr.out k hin
            have hul := flF_len primeB l k
            have Hl := Lib.hid (show (flF primeB l k).length ≤ 1048575 by omega)
            clear hul
            cases hp : primeB (l + k) with
            | true =>
              have Hy := Lib.hid (flF_yes hp)
              have ha : anyD (l + k) d = false := by rw [hp] at hP; simpa using hP
              rw [ha] at hc0
              clear hP ha
              go_wp2_with (at_builtin; refine wp_app_int _ rfl _ _ rfl w2.heap.size _ _ rfl Hout.out _ rfl (by have := Hl.out; omega) hs3 ?_; intro v' w4 hown4 b4)
              go_roundw
              case rel => exact ⟨k + 1, by omega, by go_num, by rw [Hy.out, Int.natCast_add]; exact hown4, hb3.trans b4⟩
              case measure => simp [intOf]; omega
            | false =>
              have Hy := Lib.hid (flF_no hp)
              have ha : anyD (l + k) d = true := by rw [hp] at hP; simpa using hP
              rw [ha] at hc0
              clear hP ha
              go_wp2
              go_roundw
              case rel => exact ⟨k + 1, by omega, by go_num, by rw [Hy.out]; exact Hout.out, hb3⟩
              case measure => simp [intOf]; omega
          · go_wp2
            go_ret
            have hkM : k = L := by omega
            subst hkM
            exact ⟨⟨_, rfl, OwnI.mono Hout.out hs⟩, Hbel.out.trans (hb3.mono hs)⟩

end Go.Proofs.Ytaapfapejekkfaa
