/- The contracts of the document's own sums (valiseref03.Add, Sum). -/
import Derived.Test.YtfaoolkhepihkaaCrcB
namespace Go.Proofs.Ytfaoolkhepihkaa
open Go.RowKit
theorem bit_int {x : Nat} (hx : x < 256) (k : Nat) : (x : Int) / 2 ^ k % 4294967296 = ((x / 2 ^ k : Nat) : Int) := by
  have h : x / 2 ^ k ≤ x := Nat.div_le_self _ _
  have e : (x : Int) / 2 ^ k = ((x / 2 ^ k : Nat) : Int) := by simp
  rw [e]
  clear e
  generalize x / 2 ^ k = y at *
  omega
theorem bit_test {q x : Nat} (hq : q < 4294967296) (hx : x < 256) (k : Nat) :
    bits .and .u32 (bits .xor .u32 (q : Int) ((x : Int) / 2 ^ k % 4294967296)) 1 = (((q ^^^ x / 2 ^ k % 2) % 2 : Nat) : Int) := by
  have h : x / 2 ^ k ≤ x := Nat.div_le_self _ _
  rw [bit_int hx, u32_xor_nat q _ hq (by omega), u32_one _ (Nat.xor_lt_two_pow (n := 32) hq (by omega)), xor_mod2, xor_mod2]
  omega
theorem xor_bit_half (q b : Nat) (hb : b < 2) : (q ^^^ b) / 2 = q / 2 := by
  rw [xor_div2, show b / 2 = 0 by omega, Nat.xor_zero]
theorem st_bit_odd {q b : Nat} (hq : q < 4294967296) (hb : b < 2) (ho : (q ^^^ b) % 2 = 1) : bits .xor .u32 ((q : Int) / 2) 3988292384 = ((st (q ^^^ b) : Nat) : Int) := by
  have := u32_xor_nat (q / 2) 3988292384 (by omega) (by omega)
  rw [st_odd ho, xor_bit_half q b hb]
  simpa using this
theorem st_bit_even {q b : Nat} (hb : b < 2) (ho : (q ^^^ b) % 2 = 0) : (q : Int) / 2 = ((st (q ^^^ b) : Nat) : Int) := by
  rw [st_even ho, xor_bit_half q b hb]
  omega

set_option maxHeartbeats 1600000 in
theorem refAdd_any (sum : Nat) (A : Option Addr) (n c : Nat) (xs : List Int) (w : World) (hs : sum < 4294967296) (hr : Row w .u8 A n xs) (hx : Byt xs) (hn : n ≤ 281474976710656) :
    Calls Try.prog 13 #[.int .u32 sum, .slice A n c] w fun e w' => e = .returned (.int .u32 (crcOf sum xs : Nat)) ∧ w' = w := by
  have hnot := not32 sum hs
  have HR := Lib.hid hr
  have HX := Lib.hid hx
  have hsl := inv_lt hs
  clear hr hx
  go_enter Try.func13, Try.ntmps13
  go_wp2_with fail
  clear hnot
  go_loop [5, 6] (fun s i => ∃ j : Nat, j ≤ n ∧ i = .int .i64 j ∧ s = .int .u32 (run (inv sum) (xs.take j) : Nat)) (fun _ i => (n - intOf i).toNat)
  case atStart => exact ⟨0, by omega, rfl, rfl⟩
  case round =>
    obtain ⟨j, hj, rfl, rfl⟩ := hrel
    have hrl := run_lt hsl (HX.out.take j)
    by_cases hlt : j < n
    · obtain ⟨b, o, rfl, hb, hc⟩ := HR.out.at_ j hlt
      have hjx : j < xs.length := by rw [HR.out.len]; exact hlt
      have hst := run_take (s := inv sum) hjx
      have hbx := HX.out.at_ hjx
      generalize run (inv sum) (xs.take j) = s at *
      generalize xs.getD j 0 = x at *
      obtain ⟨x, rfl⟩ := Int.eq_ofNat_of_zero_le hbx.1
      have hx8 : x < 256 := by omega
      rw [Int.toNat_natCast, ← bitn8 hx8] at hst
      have Hst := Lib.hid hst
      clear hst
      have hj0 : (0 : Int) ≤ (j : Int) := by omega
      have hj1 : (j : Int) < (n : Int) := by omega
      go_wp2_with fail
      go_loop [5, 7] (fun u i => ∃ k : Nat, k ≤ 8 ∧ i = .int .i64 k ∧ u = .int .u32 (bitn s x k : Nat)) (fun _ i => (8 - intOf i).toNat)
      case atStart => exact ⟨0, by omega, rfl, rfl⟩
      case round =>
        obtain ⟨k, hk, rfl, rfl⟩ := hrel
        have hbl := bitn_lt (v := x) hrl k
        by_cases hlt2 : k < 8
        · have hbs : bitn s x (k + 1) = st (bitn s x k ^^^ x / 2 ^ k % 2) := rfl
          generalize bitn s x k = q at *
          have Hbs := Lib.hid hbs
          clear hbs
          have hbt := bit_test hbl hx8 k
          by_cases ho : (q ^^^ x / 2 ^ k % 2) % 2 = 1
          · have hb1 : (bits .and .u32 (bits .xor .u32 (q : Int) ((x : Int) / 2 ^ k % 4294967296)) 1 == 1) = true := by rw [hbt, ho]; rfl
            have hfin := st_bit_odd hbl (by omega) ho
            have Hfin := Lib.hid hfin
            clear hbt hfin
            go_wp2_with fail
            go_round
            case rel => exact ⟨k + 1, by omega, by go_num, by rw [Hbs.out, Hfin.out]⟩
            case measure => simp [intOf]; omega
          · have hb1 : (bits .and .u32 (bits .xor .u32 (q : Int) ((x : Int) / 2 ^ k % 4294967296)) 1 == 1) = false := by rw [hbt, show (q ^^^ x / 2 ^ k % 2) % 2 = 0 by omega]; rfl
            have hfin := st_bit_even (q := q) (b := x / 2 ^ k % 2) (by omega) (by omega)
            have Hfin := Lib.hid hfin
            clear hbt hfin
            go_wp2_with fail
            go_round
            case rel => exact ⟨k + 1, by omega, by go_num, by rw [Hbs.out, Hfin.out]⟩
            case measure => simp [intOf]; omega
        · obtain rfl : k = 8 := by omega
          go_wp2_with fail
          go_round
          case rel => exact ⟨j + 1, by omega, by go_num, by rw [Hst.out]⟩
          case measure => simp [intOf]; omega
    · have hfin := not32 _ hrl
      have hall : xs.take j = xs := List.take_of_length_le (by rw [HR.out.len]; omega)
      have Hall := Lib.hid hall
      clear hall
      go_wp2_with fail
      go_ret
      exact ⟨ret_int (by unfold crcOf; rw [Hall.out]), rfl⟩

set_option maxHeartbeats 800000 in
theorem refSum_any (A : Option Addr) (n c : Nat) (xs : List Int) (w : World) (hr : Row w .u8 A n xs) (hx : Byt xs) (hn : n ≤ 281474976710656) :
    Calls Try.prog 11 #[.slice A n c] w fun e w' => e = .returned (.int .u32 (crcOf 0 xs : Nat)) ∧ w' = w := by
  go_enter Try.func11, Try.ntmps11
  go_wp2_with fail
  refine (refAdd_any 0 A n c xs _ (by omega) hr hx hn).mono ?_
  rintro e w1 ⟨rfl, rfl⟩
  go_wp2_with fail
  go_ret
  exact ⟨rfl, rfl⟩

end Go.Proofs.Ytfaoolkhepihkaa
