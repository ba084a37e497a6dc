/- The document's little numbers of a picture's head. -/
import Derived.Test.YtlmhodkdcllcjaaNumQ
import Derived.Test.YtlmhodkdcllcjaaWavMath
import Derived.Test.YtlmhodkdcllcjaaPicN
namespace Go.Proofs.Ytlmhodkdcllcjaa
open Go.RowKit
set_option maxRecDepth 100000

attribute [local go_sem ↓] Go.wp_at_zero Go.wp_at_succ

theorem slc_row {w : World} {A : Option Addr} {n : Nat} {xs : List Int} (h : Row w .u8 A n xs) {p k c : Nat} (hp : p + k ≤ n) (hc : n ≤ c) : Row w .u8 (cutAt A p c) k (slc xs p k) := h.cut hp hc

set_option maxHeartbeats 800000 in
/-- A number at a place. -/
theorem qPlittle_any (A : Option Addr) (n c : Nat) (xs : List Int) (p k : Nat) (w : World) (hr : Row w .u8 A n xs) (hb : ∀ x ∈ xs, 0 ≤ x ∧ x < 256) (hp : p + k ≤ n) (hk : k ≤ 4) (hn : n ≤ 1000000000) (hc : n ≤ c) :
    Calls Try.prog 21 #[.slice A n c, .int .i64 p, .int .i64 k] w fun e w' => e = .returned (.int .i64 (leAt xs p k : Nat)) ∧ Fresh w w' := by
  obtain ⟨i0, hi, hz0, hz1, hz2⟩ := info_parts Try.infoByteQ
  have hsl : ∀ W, (Instr.slice 22 (.slice A n c) (some (.int .i64 (p : Int))) (some (.int .i64 ((p : Int) + k))) none).run Try.prog W = .ok (.slice (cutAt A p c) k (c - p)) W := fun W => by
    have := run_slice_part 22 5 Try.underlying22 (fun w => by simp [sizeOf, typeInfo, hi, hz1]) A n c p (p + k) ((p : Int) + k) (by omega) (by omega) (by omega) W
    rw [this, Nat.add_sub_cancel_left]
  have hlt : leAt xs p k < 4294967296 := by
    have h1 := leAt_lt hb (p := p) (k := k) (by have := hr.len; omega)
    have h2 : 256 ^ k ≤ 256 ^ 4 := Nat.pow_le_pow_right (by decide) hk
    omega
  have HN := Lib.hid (qnNew_any (cutAt A p c) k (c - p) (slc xs p k) w (slc_row hr hp hc) (slc_byte p k hb) (by omega))
  have HL : Hid (∀ (V : World) (g : Nat) (B : Option Addr) (d : Nat), QN V g B d (slc xs p k) 0 0 → Calls Try.prog 37 #[.pointer (some ⟨g, 0, none⟩), .int .i64 k] V fun e w' => e = .returned (.int .u64 (leAt xs p k : Nat)) ∧ Kept (fun j => j = g) V w') := Lib.hid fun V g B d hq => by
    have h1 := qnLittle_any g B d (slc xs p k) 0 0 k V hq (by omega)
    have hsl2 : (slc xs p k).length = k := slc_length (by have := hr.len; omega)
    have e : qtk (slc xs p k) 0 0 k = (slc xs p k, 0 + k, 0) := by
      unfold qtk
      rw [if_neg (by simp), if_pos (by omega), List.drop_zero, List.take_of_length_le (by omega)]
    rw [e] at h1
    exact h1.mono fun e w' h => ⟨h.1, h.2.2⟩
  have p1 : (p : Int) + (k : Int) ≤ 1000000000 := by omega
  generalize leAt xs p k = v at *
  generalize slc xs p k = s at *
  clear hr hb
  go_enter Try.func21, Try.ntmps21
  go_wp2_with fail
  refine HN.out.mono ?_
  rintro e w1 ⟨g, B, d, rfl, hq, hg, _, hf⟩
  have HQ := Lib.hid (And.intro hq (And.intro hg hf))
  clear hq hg hf HN
  go_wp2_with fail
  refine (HL.out _ _ _ _ HQ.out.1).mono ?_
  rintro e w2 ⟨rfl, hk2⟩
  have H2 : Hid (Fresh w w2) := Lib.hid (HQ.out.2.2.trans hk2 fun i hi e => by have := HQ.out.2.1; omega)
  clear HQ hk2 HL
  go_wp2_with fail
  go_ret
  exact ⟨rfl, H2.out⟩

end Go.Proofs.Ytlmhodkdcllcjaa
