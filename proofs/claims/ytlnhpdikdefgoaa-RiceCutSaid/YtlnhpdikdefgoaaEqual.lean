/- The contract of bytes.Equal. -/
import Derived.Test.YtlnhpdikdefgoaaHelpStr
namespace Go.Proofs.Ytlnhpdikdefgoaa
open Go.RowKit

set_option maxHeartbeats 400000 in
theorem equal_any (A B : Option Addr) (n m c d : Nat) (xs ys : List Int) (w : World) (ha : Row w .u8 A n xs) (hb : Row w .u8 B m ys) (hx : ∀ c ∈ xs, 0 ≤ c ∧ c < 256) (hy : ∀ c ∈ ys, 0 ≤ c ∧ c < 256) :
    Calls Try.prog 34 #[.slice A n c, .slice B m d] w fun e w' => e = .returned (.bool (decide (xs = ys))) ∧ w = w' := by
  have h1 := row_string ha c
  have h2 := row_string hb d
  have hd := str_dec hx hy
  have Hd := Lib.hid hd
  clear ha hb hx hy hd
  go_enter Try.func34, Try.ntmps34
  go_wp2
  go_ret
  exact ⟨ret_bool (by rw [← Hd.out]), rfl⟩

end Go.Proofs.Ytlnhpdikdefgoaa
