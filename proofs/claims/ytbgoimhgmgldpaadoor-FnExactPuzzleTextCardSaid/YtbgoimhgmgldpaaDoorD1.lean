import Derived.Test.YtbgoimhgmgldpaaDoorL0
import Derived.Laws.IdiomStrings
import Derived.IntWalk
import Derived.Deep.RegionWith
namespace Go.Proofs.YtbgoimhgmgldpaaDoor
open Go.RowKit
set_option maxRecDepth 100000
set_option linter.unusedVariables false
set_option linter.unusedSimpArgs false

/-- A digit's letter. -/
def dig (n : Int) : UInt8 := UInt8.ofNat (48 + n.toNat)
/-- The letters of a number of one or two digits. -/
def numT (n : Int) : ByteArray := if n < 10 then ⟨#[dig n]⟩ else ⟨#[dig (n / 10), dig (n % 10)]⟩

theorem conv_one (n : Int) (W : World) (h0 : 0 ≤ n) (h1 : n < 10) :
    (convert 46 9 (.slice (some ⟨W.heap.size, 0, none⟩) 1 1)).run Tryd.prog (W.alloc (.cells #[.int .u8 (48 + n)] 5)) = .ok (.string ⟨#[dig n]⟩) (W.alloc (.cells #[.int .u8 (48 + n)] 5)) := by
  have hd : ((dig n).toNat : Int) = 48 + n := by
    unfold dig
    rw [UInt8.toNat_ofNat_of_lt' (by show 48 + n.toNat < 256; omega)]
    omega
  exact run_convert_bytes_back (P := Tryd.prog) (W.alloc (.cells #[.int .u8 (48 + n)] 5)) 46 9 5 ⟨W.heap.size, 0, none⟩ 1 [dig n] Tryd.underlying46 Tryd.underlying5 Tryd.underlying9 (fun j hj => by
    obtain rfl : j = 0 := by simpa using hj
    rw [show ([dig n][0]'hj) = dig n from rfl, hd]
    simp [Addr.add])

theorem l1Num_one (n : Int) (w : World) (h0 : 0 ≤ n) (h1 : n < 10) :
    Calls Tryd.prog 13 #[.int .i64 n] w fun en w' => en = .returned (.string ⟨#[dig n]⟩) ∧ Below w.heap.size w w' := by
  have hcv := conv_one n w h0 h1
  go_enter Tryd.func13, Tryd.ntmps13
  go_wp2
  go_ret
  exact ⟨rfl, (Below.refl _ _).alloc (Nat.le_refl _) _⟩

theorem conv_at (n : Int) (W : World) (g : Nat) (h0 : 0 ≤ n) (h1 : n < 10) (hc : W.cell? ⟨g, 0, none⟩ = some (.int .u8 (48 + n))) :
    (convert 46 9 (.slice (some ⟨g, 0, none⟩) 1 1)).run Tryd.prog W = .ok (.string ⟨#[dig n]⟩) W := by
  have hd : ((dig n).toNat : Int) = 48 + n := by
    unfold dig
    rw [UInt8.toNat_ofNat_of_lt' (by show 48 + n.toNat < 256; omega)]
    omega
  exact run_convert_bytes_back (P := Tryd.prog) W 46 9 5 ⟨g, 0, none⟩ 1 [dig n] Tryd.underlying46 Tryd.underlying5 Tryd.underlying9 (fun j hj => by
    obtain rfl : j = 0 := by simpa using hj
    rw [show ([dig n][0]'hj) = dig n from rfl, hd]
    simpa [Addr.add] using hc)

theorem keep_byte {w w1 : World} {v : Value} (b1 : Below (w.alloc (.cells #[v] 5)).heap.size (w.alloc (.cells #[v] 5)) w1) : w1.cell? ⟨w.heap.size, 0, none⟩ = some v :=
  (b1.cell (p := ⟨w.heap.size, 0, none⟩) (by simp)).trans (by simp)
theorem keep_byte2 {w w1 : World} {v : Value} (b1 : Below (w.alloc (.cells #[v] 5)).drew.heap.size (w.alloc (.cells #[v] 5)).drew w1) : w1.cell? ⟨w.heap.size, 0, none⟩ = some v :=
  (b1.cell (p := ⟨w.heap.size, 0, none⟩) (by simp)).trans (by simp)
theorem below_a {w w1 : World} {o : Obj} (b1 : Below w.drew.heap.size w.drew w1) : Below w.heap.size w (w1.alloc o) := ((Below.refl _ w).drew.trans b1).alloc b1.size _
theorem below_b {w w1 : World} {o : Obj} (b1 : Below (w.alloc o).drew.heap.size (w.alloc o).drew w1) : Below w.heap.size w w1 := ((Below.refl _ w).alloc (Nat.le_refl _) o).drew.trans (b1.mono (by show w.heap.size ≤ (w.alloc o).heap.size; simp))
theorem conv_drew (n : Int) (W : World) (h0 : 0 ≤ n) (h1 : n < 10) :
    (convert 46 9 (.slice (some ⟨W.heap.size, 0, none⟩) 1 1)).run Tryd.prog (W.alloc (.cells #[.int .u8 (48 + n)] 5)).drew = .ok (.string ⟨#[dig n]⟩) (W.alloc (.cells #[.int .u8 (48 + n)] 5)).drew :=
  conv_at n _ _ h0 h1 (by simp)

set_option maxHeartbeats 1600000 in
theorem l1Num_two (n : Int) (w : World) (h0 : 10 ≤ n) (h1 : n < 100) :
    Calls Tryd.prog 13 #[.int .i64 n] w fun en w' => en = .returned (.string ⟨#[dig (n / 10), dig (n % 10)]⟩) ∧ Below w.heap.size w w' := by
  have t1 : n.tdiv 10 = n / 10 := Int.tdiv_eq_ediv_of_nonneg (by omega)
  have t2 : n.tmod 10 = n % 10 := Int.tmod_eq_emod_of_nonneg (by omega)
  have hw : IntKind.i64.wrap (48 + n % 10) = 48 + n % 10 := IntWalk.i64_in _ (by omega)
  have hw2 : IntKind.i64.wrap (n / 10) = n / 10 := IntWalk.i64_in _ (by omega)
  have hw3 : IntKind.i64.wrap (n % 10) = n % 10 := IntWalk.i64_in _ (by omega)
  have hw4 : IntKind.u8.wrap (48 + n % 10) = 48 + n % 10 := by
    have : (48 + n % 10) % 256 = 48 + n % 10 := Int.emod_eq_of_lt (by omega) (by omega)
    simpa [IntKind.wrap, IntKind.bits, IntKind.signed] using this
  have d0 : 0 ≤ n / 10 := by omega
  have d1 : n / 10 < 10 := by omega
  have m0 : 0 ≤ n % 10 := by omega
  have m1 : n % 10 < 10 := by omega
  have hcv := fun W => conv_one (n % 10) W m0 m1
  have hcvd := fun W => conv_drew (n % 10) W m0 m1
  clear h1
  have hlt : ¬ n < 10 := by omega
  go_enter Tryd.func13, Tryd.ntmps13
  go_wp2_with fail
  go_region_with (go_at_call 13; refine (l1Num_one _ _ d0 d1).mono ?_; rintro e w1 ⟨rfl, b1⟩; first | (have hcv2 := conv_at (n % 10) w1 w.heap.size m0 m1 (keep_byte b1)) | (have hcv2 := conv_at (n % 10) w1 w.heap.size m0 m1 (keep_byte2 b1)) | skip)
  all_goals go_wp2
  all_goals (try simp only [Act.put, List.setIfInBounds_toArray, List.set_cons_succ, List.set_cons_zero])
  all_goals go_ret
  all_goals refine ⟨?_, ?_⟩
  all_goals first | exact below_a b1 | exact below_b b1 | rfl

end Go.Proofs.YtbgoimhgmgldpaaDoor
