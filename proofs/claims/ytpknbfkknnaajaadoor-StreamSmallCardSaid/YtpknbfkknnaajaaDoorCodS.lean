/- The contracts of coder.span: high, mid, narrow, settled, shift; at the head of a block of whatever type. -/
import Derived.Test.YtpknbfkknnaajaaDoorKit
import Derived.Test.YtpknbfkknnaajaaDoorCodMath
import Derived.Deep.QuietTactic
import Derived.BigQuiet
import Derived.Lib.MinMax
import Derived.Laws.BitsAllLaws
namespace Go.Proofs.YtpknbfkknnaajaaDoor
set_option maxRecDepth 100000
open Go.RowKit

/-- A range at the head of block g: low, and how far high is below the greatest number. -/
structure Span (w : World) (g : Nat) (l h : Nat) : Prop where
  c0 : w.cell? ⟨g, 0, none⟩ = some (.int .u32 l)
  c1 : w.cell? ⟨g, 1, none⟩ = some (.int .u32 (4294967295 - h))
  f0 : w.frozen? ⟨g, 0, none⟩ = false
  f1 : w.frozen? ⟨g, 1, none⟩ = false

theorem not_nat (s : Nat) (h : s < 4294967296) : 4294967295 ^^^ s = 4294967295 - s := by
  have h1 : ((BitVec.allOnes 32) ^^^ (BitVec.ofNat 32 s)).toNat = (~~~ (BitVec.ofNat 32 s)).toNat := by rw [BitVec.allOnes_xor]
  rw [BitVec.toNat_xor, BitVec.toNat_not, BitVec.toNat_allOnes, BitVec.toNat_ofNat, Nat.mod_eq_of_lt h] at h1
  exact h1
theorem not_u32 (x : Int) (h0 : 0 ≤ x) (h1 : x < 4294967296) : bits .xor .u32 IntKind.u32.max x = 4294967295 - x := by
  obtain ⟨s, rfl⟩ := Int.eq_ofNat_of_zero_le h0
  have := u32_xor_nat 4294967295 s (by omega) (by omega)
  rw [not_nat s (by omega)] at this
  show bits .xor .u32 ((4294967295 : Nat) : Int) (s : Int) = _
  rw [this]
  omega
theorem cmid_int {l h k : Nat} (o : Open l h) (hk : k ≤ 4095) :
    (((l : Int) + ((h : Int) - l) / 4096 * k) % 4294967296 + ((h : Int) - l) % 4096 * k % 4294967296 / 4096) % 4294967296 = ((midN l h k : Nat) : Int) := by
  obtain ⟨d, rfl⟩ : ∃ d, h = l + d := ⟨h - l, by have := o.lt; omega⟩
  have h1 := mid_parts d k hk (by have := o.hi; omega)
  have h2 := o.hi
  have e1 : (((l + d : Nat) : Int) - l) = (d : Int) := by omega
  have e2 : (d : Int) / 4096 * k = ((d / 4096 * k : Nat) : Int) := by simp
  have e3 : (d : Int) % 4096 * k = ((d % 4096 * k : Nat) : Int) := by simp
  rw [e1, e2, e3]
  unfold midN
  rw [show l + d - l = d from by omega]
  omega
theorem ones8 (h : Nat) (_hh : h < 4294967296) : (4294967295 - (h : Int)) * 256 % 4294967296 = 4294967295 - ((shh h : Nat) : Int) := by unfold shh; omega
theorem settled_int (l h : Nat) : (((l : Int) / 16777216) == ((h : Int) / 16777216)) = settledB l h := by
  unfold settledB
  by_cases e : l / 16777216 = h / 16777216
  · rw [decide_eq_true e, beq_iff_eq]; omega
  · rw [decide_eq_false e, beq_eq_false_iff_ne]; omega

theorem Span.drewN {w : World} {g l h : Nat} (s : Span w g l h) (n : Nat) : Span (w.drewN n) g l h := ⟨s.c0, s.c1, s.f0, s.f1⟩

set_option maxHeartbeats 400000 in
theorem high_any (g l h : Nat) (w : World) (s : Span w g l h) (hh : h < 4294967296) :
    Calls Tryd.prog 80 #[.pointer (some ⟨g, 0, none⟩)] w fun e w' => e = .returned (.int .u32 h) ∧ w' = w := by
  have c1 := s.c1
  clear s
  go_enter Tryd.func80, Tryd.ntmps80
  go_wp2
  go_ret
  exact ⟨ret_int (by rw [not_u32 _ (by omega) (by omega)]; omega), rfl⟩

set_option maxHeartbeats 800000 in
theorem mid_any (g l h : Nat) (c : Int) (w : World) (s : Span w g l h) (o : Open l h) :
    Calls Tryd.prog 70 #[.pointer (some ⟨g, 0, none⟩), .int .i64 c] w fun e w' => e = .returned (.int .u32 (midN l h (cc c))) ∧ ∃ n, w' = w.drewN n := by
  have c0 := s.c0
  have hlt := o.lt
  have hhi := o.hi
  go_enter Tryd.func70, Tryd.ntmps70
  go_wp2
  go_quiet ((go_at_call 80; exact Calls.quiet_of_same (high_any g l h _ (s.drewN _) o.hi)))
  go_wp2
  go_ret
  exact ⟨ret_int (by rw [cc_eq2]; exact cmid_int o (cc_bd c).2), _, rfl⟩
set_option maxHeartbeats 800000 in
theorem settled_any (g l h : Nat) (w : World) (s : Span w g l h) (o : Rng l h) :
    Calls Tryd.prog 72 #[.pointer (some ⟨g, 0, none⟩)] w fun e w' => e = .returned (.bool (settledB l h)) ∧ ∃ n, w' = w.drewN n := by
  have c0 := s.c0
  go_enter Tryd.func72, Tryd.ntmps72
  go_wp2
  go_quiet ((go_at_call 80; exact Calls.quiet_of_same (high_any g l h _ (s.drewN _) o.2)))
  go_wp2
  go_ret
  exact ⟨ret_bool (settled_int l h), _, rfl⟩
set_option maxHeartbeats 800000 in
theorem narrow_one (g l h m : Nat) (w : World) (s : Span w g l h) (hm : m < 4294967296) :
    Calls Tryd.prog 71 #[.pointer (some ⟨g, 0, none⟩), .bool true, .int .u32 m] w fun e w' => e = .returned (.tuple #[]) ∧ w' = w.setCell ⟨g, 1, none⟩ (.int .u32 (4294967295 - m)) := by
  obtain ⟨c0, c1, f0, f1⟩ := s
  go_enter Tryd.func71, Tryd.ntmps71
  go_wp2
  go_end0
  exact ⟨rfl, by rw [not_u32 _ (by omega) (by omega)]⟩
set_option maxHeartbeats 800000 in
theorem narrow_zero (g l h m : Nat) (w : World) (s : Span w g l h) (hm : m < 4294967295) :
    Calls Tryd.prog 71 #[.pointer (some ⟨g, 0, none⟩), .bool false, .int .u32 m] w fun e w' => e = .returned (.tuple #[]) ∧ w' = w.setCell ⟨g, 0, none⟩ (.int .u32 ((m + 1 : Nat) : Int)) := by
  obtain ⟨c0, c1, f0, f1⟩ := s
  go_enter Tryd.func71, Tryd.ntmps71
  go_wp2
  go_end0
  exact ⟨rfl, by rw [show ((m + 1 : Nat) : Int) = (m : Int) + 1 from by omega]⟩
set_option maxHeartbeats 800000 in
theorem shift_any (g l h : Nat) (w : World) (s : Span w g l h) (o1 : l < 4294967296) (o2 : h < 4294967296) :
    Calls Tryd.prog 37 #[.pointer (some ⟨g, 0, none⟩)] w fun e w' => e = .returned (.int .u8 ((l / 16777216 : Nat) : Int)) ∧ w' = (w.setCell ⟨g, 0, none⟩ (.int .u32 (shl l))).setCell ⟨g, 1, none⟩ (.int .u32 (4294967295 - shh h)) := by
  obtain ⟨c0, c1, f0, f1⟩ := s
  go_enter Tryd.func37, Tryd.ntmps37
  go_wp2
  go_ret
  exact ⟨ret_int (by omega), by rw [ones8 h o2, show ((shl l : Nat) : Int) = (l : Int) * 256 % 4294967296 from by unfold shl; omega]⟩

end Go.Proofs.YtpknbfkknnaajaaDoor
