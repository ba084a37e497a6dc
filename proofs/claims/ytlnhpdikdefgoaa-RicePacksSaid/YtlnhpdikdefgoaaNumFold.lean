/- Fold and Unfold: the code's and the document's. -/
import Derived.Test.YtlnhpdikdefgoaaNumMath
namespace Go.Proofs.Ytlnhpdikdefgoaa
open Go.RowKit

set_option maxHeartbeats 400000 in
theorem nFold_any (v : Int) (w : World) (h1 : -9223372036854775808 ≤ v) (h2 : v < 9223372036854775808) :
    Calls Try.prog 46 #[.int .i64 v] w fun e w' => e = .returned (.int .u64 (fold v)) ∧ w = w' := by
  by_cases h : 0 ≤ v
  · have hf : ((fold v : Nat) : Int) = 2 * v := by unfold fold; rw [if_pos h]; omega
    have Hf := Lib.hid hf
    clear hf
    go_enter Try.func46, Try.ntmps46
    go_wp2
    go_ret
    exact ⟨ret_int (by rw [Hf.out]), rfl⟩
  · have hf : ((fold v : Nat) : Int) = -2 * v - 1 := by unfold fold; rw [if_neg h]; omega
    have Hf := Lib.hid hf
    clear hf
    go_enter Try.func46, Try.ntmps46
    go_wp2
    go_ret
    exact ⟨ret_int (by rw [Hf.out]; omega), rfl⟩

set_option maxHeartbeats 400000 in
theorem nUnfold_any (u : Nat) (w : World) (h1 : u < 18446744073709551616) :
    Calls Try.prog 64 #[.int .u64 u] w fun e w' => e = .returned (.int .i64 (unfold_ u)) ∧ w = w' := by
  by_cases h : u % 2 = 0
  · have hf : unfold_ u = ((u / 2 : Nat) : Int) := by unfold unfold_; omega
    have Hf := Lib.hid hf
    have hb : ((u : Int) % 2 == 0) = true := by simp; omega
    clear hf
    go_enter Try.func64, Try.ntmps64
    go_wp2
    go_ret
    exact ⟨ret_int (by rw [Hf.out]; omega), rfl⟩
  · have hf : unfold_ u = -((u / 2 : Nat) : Int) - 1 := by unfold unfold_; omega
    have Hf := Lib.hid hf
    have hb : ((u : Int) % 2 == 0) = false := by simp; omega
    clear hf
    go_enter Try.func64, Try.ntmps64
    go_wp2
    go_ret
    exact ⟨ret_int (by rw [Hf.out]; omega), rfl⟩


set_option maxHeartbeats 400000 in
theorem qFold_any (v : Int) (w : World) (h1 : -9223372036854775808 ≤ v) (h2 : v < 9223372036854775808) :
    Calls Try.prog 31 #[.int .i64 v] w fun e w' => e = .returned (.int .u64 (fold v)) ∧ w = w' := by
  by_cases h : 0 ≤ v
  · have hf : ((fold v : Nat) : Int) = 2 * v := by unfold fold; rw [if_pos h]; omega
    have Hf := Lib.hid hf
    clear hf
    go_enter Try.func31, Try.ntmps31
    go_wp2
    go_ret
    exact ⟨ret_int (by rw [Hf.out]; omega), rfl⟩
  · have hf : ((fold v : Nat) : Int) = -2 * v - 1 := by unfold fold; rw [if_neg h]; omega
    have Hf := Lib.hid hf
    clear hf
    go_enter Try.func31, Try.ntmps31
    go_wp2
    go_ret
    exact ⟨ret_int (by rw [Hf.out]; omega), rfl⟩

set_option maxHeartbeats 400000 in
theorem qUnfold_any (u : Nat) (w : World) (h1 : u < 18446744073709551616) :
    Calls Try.prog 37 #[.int .u64 u] w fun e w' => e = .returned (.int .i64 (unfold_ u)) ∧ w = w' := by
  by_cases h : u % 2 = 0
  · have hf : unfold_ u = ((u / 2 : Nat) : Int) := by unfold unfold_; omega
    have Hf := Lib.hid hf
    have hb : ((u : Int) % 2 == 0) = true := by simp; omega
    clear hf
    go_enter Try.func37, Try.ntmps37
    go_wp2
    go_ret
    exact ⟨ret_int (by rw [Hf.out]; omega), rfl⟩
  · have hf : unfold_ u = -((u / 2 : Nat) : Int) - 1 := by unfold unfold_; omega
    have Hf := Lib.hid hf
    have hb : ((u : Int) % 2 == 0) = false := by simp; omega
    clear hf
    go_enter Try.func37, Try.ntmps37
    go_wp2
    go_ret
    exact ⟨ret_int (by rw [Hf.out]; omega), rfl⟩


end Go.Proofs.Ytlnhpdikdefgoaa
