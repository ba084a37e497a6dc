/- The contracts of num.Reader. -/
import Derived.Test.YtodmchjdflpbpaaNumW
import Derived.Deep.QuietTactic
import Derived.BigQuiet
namespace Go.Proofs.Ytodmchjdflpbpaa
open Go.RowKit

/-- A number joined by 'or' from sevens. -/
theorem or_seven (acc c i : Nat) (hi : i ≤ 9) (hc : c < 256) (ha : acc < 128 ^ i) (h9 : i = 9 → c ≤ 1) :
    bits .or .u64 (acc : Int) (IntKind.u64.wrap (IntKind.u64.wrap (bits .and .u8 (c : Int) 127) * 2 ^ (7 * i))) = ((acc + c % 128 * 128 ^ i : Nat) : Int) := by
  have e1 : IntKind.u64.wrap (bits .and .u8 (c : Int) 127) = ((c % 128 : Nat) : Int) := by
    rw [show (127 : Int) = ((127 : Nat) : Int) from rfl, u8_and_nat _ _ hc (by omega), nat_mask7, IntKind.wrap_u64]
    omega
  have e2 : (2 : Nat) ^ (7 * i) = 128 ^ i := by rw [Nat.pow_mul]
  have hlt : c % 128 * 128 ^ i < 18446744073709551616 := by
    by_cases e : i = 9
    · have := h9 e; subst e; simp; omega
    · have h8 : 128 ^ i ≤ 128 ^ 8 := Nat.pow_le_pow_right (by omega) (by omega)
      have := Nat.mul_le_mul (show c % 128 ≤ 127 by omega) h8
      omega
  have e3 : IntKind.u64.wrap (((c % 128 : Nat) : Int) * 2 ^ (7 * i)) = ((c % 128 * 128 ^ i : Nat) : Int) := by
    have : (((c % 128 : Nat) : Int) * 2 ^ (7 * i)) = ((c % 128 * 128 ^ i : Nat) : Int) := by rw [← e2]; simp
    rw [this, IntKind.wrap_u64]
    omega
  have ha2 : acc < 18446744073709551616 := Nat.lt_of_lt_of_le ha (Nat.le_trans (Nat.pow_le_pow_right (by omega) hi) (by decide))
  rw [e1, e3, u64_or_nat _ _ ha2 hlt, Nat.or_comm, nat_join (7 * i) (c % 128 * 128 ^ i) acc (by rw [e2]; exact Nat.mul_mod_left _ _) (by rw [e2]; exact ha), Nat.add_comm]

theorem rd_cons (i acc : Nat) (c : Int) (r : List Int) : rd i acc (c :: r) = if i = 9 ∧ 1 < c then (0, 0, 4) else if c = 0 ∧ 0 < i then (0, 0, 4) else
    if c < 128 then (acc + c.toNat % 128 * 128 ^ i, i + 1, 0) else rd (i + 1) (acc + c.toNat % 128 * 128 ^ i) r := rfl

/-- Behind the bytes that were read, the rest. -/
def RdEnd (w : World) (r : Nat × Nat × Int) (e : Ending) (w' : World) : Prop := e = .returned (.tuple #[.int .u64 r.1, .int .i64 r.2.1, .int .i64 r.2.2]) ∧ w = w'

theorem rd_take (xs : List Int) (h : ∀ c ∈ xs, 0 ≤ c ∧ c < 256) : ∀ (i acc : Nat), i ≤ 9 → rd i acc (xs.take (10 - i)) = rd i acc xs := by
  induction xs with
  | nil => intro i acc _; simp
  | cons c r ih =>
    intro i acc hi
    rw [show 10 - i = 9 - i + 1 from by omega, List.take_succ_cons, rd, rd]
    have hc := h c (by simp)
    split
    · rfl
    split
    · rfl
    split
    · rfl
    · rename_i h1 h2 h3
      have : i ≠ 9 := by rintro rfl; apply h1; omega
      have := ih (fun c hc => h c (by simp [hc])) (i + 1) (acc + c.toNat % 128 * 128 ^ i) (by omega)
      rw [show 9 - i = 10 - (i + 1) from by omega]
      exact this

theorem getD_mem {xs : List Int} {k : Nat} (h : k < xs.length) : xs.getD k 0 ∈ xs := by
  rw [List.getD_eq_getElem?_getD, List.getElem?_eq_getElem h]; exact List.getElem_mem _
theorem drop_cons {xs : List Int} {k : Nat} (h : k < xs.length) : xs.drop k = xs.getD k 0 :: xs.drop (k + 1) := by
  rw [List.drop_eq_getElem_cons h, List.getD_eq_getElem?_getD, List.getElem?_eq_getElem h]; rfl

/-- A slice's beginning. -/
theorem run_slice_to {P : Program} (t e : TypeId) (ht : P.underlying t = some (.slice e)) (hc : ∀ w, (sizeOf e).run P w = .ok 1 w) (A : Option Addr) (n c h : Nat) (k : Int) (hk : k = h) (hh : h ≤ c) (W : World) :
    (Instr.slice t (.slice A n c) none (some (.int .i64 k)) none).run P W = .ok (.slice A h c) W := by
  subst hk
  have he : P.elem t = e := by simp [Program.elem, ht]
  rw [run_slice_h W t A n c (by rw [he]; exact ht) .i64 (h : Int) (by omega) (by omega), he, hc]
  rcases A with _ | a
  · simp [Result.andThen, sliced]
  · simp [Result.andThen, sliced, Addr.add]


end Go.Proofs.Ytodmchjdflpbpaa
