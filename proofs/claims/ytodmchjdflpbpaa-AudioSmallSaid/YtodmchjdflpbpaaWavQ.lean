/- The document's Parse and Make of WAV files. -/
import Derived.Test.YtodmchjdflpbpaaNumQ
import Derived.Test.YtodmchjdflpbpaaWavMath
import Derived.Test.YtodmchjdflpbpaaHelpStr
import Derived.Test.YtodmchjdflpbpaaHelpCopy
import Derived.Deep.RegionHeld3
namespace Go.Proofs.Ytodmchjdflpbpaa
open Go.RowKit
set_option maxRecDepth 100000

attribute [local go_sem ↓] Go.wp_at_zero Go.wp_at_succ

theorem slc_row {w : World} {A : Option Addr} {n : Nat} {xs : List Int} (h : Row w .u8 A n xs) {p k c : Nat} (hp : p + k ≤ n) (hc : n ≤ c) : Row w .u8 (cutAt A p c) k (slc xs p k) := h.cut hp hc


theorem wgo_next {bs : List Int} {p : Nat} {s u : WSt} (h8 : p + 8 ≤ bs.length) (hf : wfmt bs p s = u) (hd : ¬ (slc bs p 4 = nData ∧ u.1 = true)) : wgo bs p s = wgo bs (p + 8 + leAt bs (p + 4) 4 + leAt bs (p + 4) 4 % 2) u := by
  conv => lhs; rw [wgo]
  rw [if_pos h8, hf, if_neg hd]
theorem wgo_end {bs : List Int} {p : Nat} {s : WSt} (h8 : p + 8 ≤ bs.length) (hf : wfmt bs p s = s) (hd : slc bs p 4 = nData) (h1 : s.1 = true) : wgo bs p s = wfin bs.length s (p + 8) (leAt bs (p + 4) 4) := by
  conv => lhs; rw [wgo]
  rw [if_pos h8, hf, if_pos ⟨hd, h1⟩]

/-- What Parse tells. -/
def wval : Option (Nat × Nat × Nat × Nat) → Value
  | none => .agg #[.int .i64 0, .int .i64 0, .int .i64 0, .int .i64 0]
  | some r => .agg #[.int .i64 r.1, .int .i64 r.2.1, .int .i64 r.2.2.1, .int .i64 r.2.2.2]

/-- Four bytes, held against a name. -/
theorem str_is {ys zs : List Int} (l : List UInt8) (hy : ∀ c ∈ ys, 0 ≤ c ∧ c < 256) (hz : ∀ c ∈ zs, 0 ≤ c ∧ c < 256) (hl : (strOfNums zs).toList = l) : ((strOfNums ys).toList == l) = decide (ys = zs) := by
  rw [← hl]
  exact str_dec hy hz
theorem is_riff {ys : List Int} (hy : ∀ c ∈ ys, 0 ≤ c ∧ c < 256) : ((strOfNums ys).toList == [82, 73, 70, 70]) = decide (ys = nRIFF) := str_is _ hy (by decide) (by rw [Lib.strOfNums_toList]; decide)
theorem is_wave {ys : List Int} (hy : ∀ c ∈ ys, 0 ≤ c ∧ c < 256) : ((strOfNums ys).toList == [87, 65, 86, 69]) = decide (ys = nWAVE) := str_is _ hy (by decide) (by rw [Lib.strOfNums_toList]; decide)
theorem is_fmt {ys : List Int} (hy : ∀ c ∈ ys, 0 ≤ c ∧ c < 256) : ((strOfNums ys).toList == [102, 109, 116, 32]) = decide (ys = nFmt) := str_is _ hy (by decide) (by rw [Lib.strOfNums_toList]; decide)
theorem is_data {ys : List Int} (hy : ∀ c ∈ ys, 0 ≤ c ∧ c < 256) : ((strOfNums ys).toList == [100, 97, 116, 97]) = decide (ys = nData) := str_is _ hy (by decide) (by rw [Lib.strOfNums_toList]; decide)


end Go.Proofs.Ytodmchjdflpbpaa
