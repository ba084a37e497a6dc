/- The contracts of Next and Chance, the code's and the document's. -/
import Derived.Test.YtpknbfkknnaajaaDoorGueMath
import Derived.Lib.MinMax
namespace Go.Proofs.YtpknbfkknnaajaaDoor
open Go.RowKit

theorem wrap16 {n : Nat} (h : n < 65536) : IntKind.u16.wrap (n : Int) = n := by rw [IntKind.wrap_u16]; omega
theorem nx_zero_wrap {p : Nat} (h : p < 65536) (k : Nat) : IntKind.u16.wrap ((p : Int) - (p : Int) / 2 ^ k) = ((nx p false k : Nat) : Int) := by rw [nx_zero_int, wrap16 (nx_lt h _ _)]
theorem nx_one_wrap {p : Nat} (h : p < 65536) (k : Nat) : IntKind.u16.wrap ((p : Int) + (65535 - (p : Int)) / 2 ^ k) = ((nx p true k : Nat) : Int) := by rw [nx_one_int h, wrap16 (nx_lt h _ _)]

set_option maxHeartbeats 400000 in
theorem next_any (p : Nat) (b r : Int) (w : World) (hp : p < 65536) :
    Calls Tryd.prog 100 #[.int .u16 p, .int .i64 b, .int .i64 r] w fun e w' => e = .returned (.int .u16 (nx p (b != 0) (rt r) : Nat)) ∧ w' = w := by
  have hk := rt_int r
  obtain ⟨k, hkk⟩ : ∃ k, rt r = k := ⟨_, rfl⟩
  have hb := rt_bd r
  rw [hkk] at hk hb ⊢
  clear hkk
  obtain ⟨one, hone⟩ : ∃ one, (b != 0) = one := ⟨_, rfl⟩
  rw [hone]
  go_enter Tryd.func100, Tryd.ntmps100
  cases one
  · go_wp2
    go_ret
    exact ⟨ret_int (nx_zero_wrap hp k), rfl⟩
  · go_wp2
    go_ret
    exact ⟨ret_int (nx_one_wrap hp k), rfl⟩

set_option maxHeartbeats 400000 in
theorem qNext_any (p : Nat) (b r : Int) (w : World) (hp : p < 65536) :
    Calls Tryd.prog 67 #[.int .u16 p, .int .i64 b, .int .i64 r] w fun e w' => e = .returned (.int .u16 (nx p (b != 0) (rt r) : Nat)) ∧ w' = w := by
  have hk := rt_int2 r
  obtain ⟨k, hkk⟩ : ∃ k, rt r = k := ⟨_, rfl⟩
  have hb := rt_bd r
  rw [hkk] at hk hb ⊢
  clear hkk
  obtain ⟨one, hone⟩ : ∃ one, (b != 0) = one := ⟨_, rfl⟩
  rw [hone]
  go_enter Tryd.func67, Tryd.ntmps67
  cases one
  · go_wp2
    go_ret
    exact ⟨ret_int (nx_zero_wrap hp k), rfl⟩
  · go_wp2
    go_ret
    exact ⟨ret_int (nx_one_wrap hp k), rfl⟩

set_option maxHeartbeats 400000 in
theorem chance_any (p : Nat) (w : World) (hp : p < 65536) :
    Calls Tryd.prog 91 #[.int .u16 p] w fun e w' => e = .returned (.int .i64 (ch p : Nat)) ∧ w' = w := by
  go_enter Tryd.func91, Tryd.ntmps91
  go_wp2
  go_ret
  exact ⟨ret_int (ch_int p), rfl⟩

set_option maxHeartbeats 400000 in
theorem qChance_any (p : Nat) (w : World) (hp : p < 65536) :
    Calls Tryd.prog 65 #[.int .u16 p] w fun e w' => e = .returned (.int .i64 (ch p : Nat)) ∧ w' = w := by
  go_enter Tryd.func65, Tryd.ntmps65
  go_wp2
  go_ret
  exact ⟨ret_int (ch_int2 p), rfl⟩

end Go.Proofs.YtpknbfkknnaajaaDoor
