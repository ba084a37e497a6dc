/- The contracts of Next and Chance, the code's and the document's, and of awake. -/
import Derived.Test.YtcngppdjhmdceaaGueMath
import Derived.Lib.MinMax
namespace Go.Proofs.Ytcngppdjhmdceaa
open Go.RowKit

theorem wrap16 {n : Nat} (h : n < 65536) : IntKind.u16.wrap (n : Int) = n := by rw [IntKind.wrap_u16]; omega
theorem nx_zero_wrap {p : Nat} (h : p < 65536) (k : Nat) : IntKind.u16.wrap ((p : Int) - (p : Int) / 2 ^ k) = ((nx p false k : Nat) : Int) := by rw [nx_zero_int, wrap16 (nx_lt h _ _)]
theorem nx_one_wrap {p : Nat} (h : p < 65536) (k : Nat) : IntKind.u16.wrap ((p : Int) + (65535 - (p : Int)) / 2 ^ k) = ((nx p true k : Nat) : Int) := by rw [nx_one_int h, wrap16 (nx_lt h _ _)]

set_option maxHeartbeats 400000 in
theorem next_any (p : Nat) (b r : Int) (w : World) (hp : p < 65536) :
    Calls Try.prog 9 #[.int .u16 p, .int .i64 b, .int .i64 r] w fun e w' => e = .returned (.int .u16 (nx p (b != 0) (rt r) : Nat)) ∧ w' = w := by
  have hk := rt_int r
  obtain ⟨k, hkk⟩ : ∃ k, rt r = k := ⟨_, rfl⟩
  have hb := rt_bd r
  rw [hkk] at hk hb ⊢
  clear hkk
  obtain ⟨one, hone⟩ : ∃ one, (b != 0) = one := ⟨_, rfl⟩
  rw [hone]
  go_enter Try.func9, Try.ntmps9
  cases one
  · go_wp2
    go_ret
    exact ⟨ret_int (nx_zero_wrap hp k), rfl⟩
  · go_wp2
    go_ret
    exact ⟨ret_int (nx_one_wrap hp k), rfl⟩

set_option maxHeartbeats 400000 in
theorem qNext_any (p : Nat) (b r : Int) (w : World) (hp : p < 65536) :
    Calls Try.prog 10 #[.int .u16 p, .int .i64 b, .int .i64 r] w fun e w' => e = .returned (.int .u16 (nx p (b != 0) (rt r) : Nat)) ∧ w' = w := by
  have hk := rt_int2 r
  obtain ⟨k, hkk⟩ : ∃ k, rt r = k := ⟨_, rfl⟩
  have hb := rt_bd r
  rw [hkk] at hk hb ⊢
  clear hkk
  obtain ⟨one, hone⟩ : ∃ one, (b != 0) = one := ⟨_, rfl⟩
  rw [hone]
  go_enter Try.func10, Try.ntmps10
  cases one
  · go_wp2
    go_ret
    exact ⟨ret_int (nx_zero_wrap hp k), rfl⟩
  · go_wp2
    go_ret
    exact ⟨ret_int (nx_one_wrap hp k), rfl⟩

set_option maxHeartbeats 400000 in
theorem chance_any (p : Nat) (w : World) (hp : p < 65536) :
    Calls Try.prog 11 #[.int .u16 p] w fun e w' => e = .returned (.int .i64 (ch p : Nat)) ∧ w' = w := by
  go_enter Try.func11, Try.ntmps11
  go_wp2
  go_ret
  exact ⟨ret_int (ch_int p), rfl⟩

set_option maxHeartbeats 400000 in
theorem qChance_any (p : Nat) (w : World) (hp : p < 65536) :
    Calls Try.prog 12 #[.int .u16 p] w fun e w' => e = .returned (.int .i64 (ch p : Nat)) ∧ w' = w := by
  go_enter Try.func12, Try.ntmps12
  go_wp2
  go_ret
  exact ⟨ret_int (ch_int2 p), rfl⟩

theorem awake_nx : nx 32768 ((1 : Int) != 0) (rt 4) = 34815 := by decide +kernel
theorem awake_ch : ch 32768 = 2048 := by decide +kernel

set_option maxHeartbeats 400000 in
theorem awake_any (w : World) : Calls Try.prog 8 #[] w fun e w' => e = .returned (.bool true) ∧ w' = w := by
  go_enter Try.func8, Try.ntmps8
  go_wp2_with fail
  refine (next_any 32768 1 4 _ (by decide)).mono ?_
  rw [awake_nx]
  rintro e w' ⟨rfl, rfl⟩
  go_wp2_with fail
  refine (chance_any 32768 _ (by decide)).mono ?_
  rw [awake_ch]
  rintro e w' ⟨rfl, rfl⟩
  go_wp2_with fail
  go_ret
  exact ⟨rfl, rfl⟩

end Go.Proofs.Ytcngppdjhmdceaa
