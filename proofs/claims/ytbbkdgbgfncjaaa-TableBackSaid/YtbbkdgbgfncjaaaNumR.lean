/- The contracts of num.Reader. -/
import Derived.Test.YtbbkdgbgfncjaaaNumW
import Derived.Deep.QuietTactic
import Derived.BigQuiet
namespace Go.Proofs.Ytbbkdgbgfncjaaa
open Go.RowKit

/-- A number joined by 'or' from sevens. -/
theorem or_seven (acc c i : Nat) (hi : i ≤ 9) (hc : c < 256) (ha : acc < 128 ^ i) (h9 : i = 9 → c ≤ 1) :
    bits .or .u64 (acc : Int) (IntKind.u64.wrap (IntKind.u64.wrap (bits .and .u8 (c : Int) 127) * 2 ^ (7 * i))) = ((acc + c % 128 * 128 ^ i : Nat) : Int) := by
  have e1 : IntKind.u64.wrap (bits .and .u8 (c : Int) 127) = ((c % 128 : Nat) : Int) := by
    rw [show (127 : Int) = ((127 : Nat) : Int) from rfl, u8_and_nat _ _ hc (by omega), nat_mask7, IntKind.wrap_u64]
    omega
  have e2 : (2 : Nat) ^ (7 * i) = 128 ^ i := by rw [Nat.pow_mul]
  have hlt : c % 128 * 128 ^ i < 18446744073709551616 := by
    by_cases e : i = 9
    · have := h9 e; subst e; simp; omega
    · have h8 : 128 ^ i ≤ 128 ^ 8 := Nat.pow_le_pow_right (by omega) (by omega)
      have := Nat.mul_le_mul (show c % 128 ≤ 127 by omega) h8
      omega
  have e3 : IntKind.u64.wrap (((c % 128 : Nat) : Int) * 2 ^ (7 * i)) = ((c % 128 * 128 ^ i : Nat) : Int) := by
    have : (((c % 128 : Nat) : Int) * 2 ^ (7 * i)) = ((c % 128 * 128 ^ i : Nat) : Int) := by rw [← e2]; simp
    rw [this, IntKind.wrap_u64]
    omega
  have ha2 : acc < 18446744073709551616 := Nat.lt_of_lt_of_le ha (Nat.le_trans (Nat.pow_le_pow_right (by omega) hi) (by decide))
  rw [e1, e3, u64_or_nat _ _ ha2 hlt, Nat.or_comm, nat_join (7 * i) (c % 128 * 128 ^ i) acc (by rw [e2]; exact Nat.mul_mod_left _ _) (by rw [e2]; exact ha), Nat.add_comm]

theorem rd_cons (i acc : Nat) (c : Int) (r : List Int) : rd i acc (c :: r) = if i = 9 ∧ 1 < c then (0, 0, 4) else if c = 0 ∧ 0 < i then (0, 0, 4) else
    if c < 128 then (acc + c.toNat % 128 * 128 ^ i, i + 1, 0) else rd (i + 1) (acc + c.toNat % 128 * 128 ^ i) r := rfl

/-- Behind the bytes that were read, the rest. -/
def RdEnd (w : World) (r : Nat × Nat × Int) (e : Ending) (w' : World) : Prop := e = .returned (.tuple #[.int .u64 r.1, .int .i64 r.2.1, .int .i64 r.2.2]) ∧ w = w'

theorem rd_take (xs : List Int) (h : ∀ c ∈ xs, 0 ≤ c ∧ c < 256) : ∀ (i acc : Nat), i ≤ 9 → rd i acc (xs.take (10 - i)) = rd i acc xs := by
  induction xs with
  | nil => intro i acc _; simp
  | cons c r ih =>
    intro i acc hi
    rw [show 10 - i = 9 - i + 1 from by omega, List.take_succ_cons, rd, rd]
    have hc := h c (by simp)
    split
    · rfl
    split
    · rfl
    split
    · rfl
    · rename_i h1 h2 h3
      have : i ≠ 9 := by rintro rfl; apply h1; omega
      have := ih (fun c hc => h c (by simp [hc])) (i + 1) (acc + c.toNat % 128 * 128 ^ i) (by omega)
      rw [show 9 - i = 10 - (i + 1) from by omega]
      exact this

theorem getD_mem {xs : List Int} {k : Nat} (h : k < xs.length) : xs.getD k 0 ∈ xs := by
  rw [List.getD_eq_getElem?_getD, List.getElem?_eq_getElem h]; exact List.getElem_mem _
theorem drop_cons {xs : List Int} {k : Nat} (h : k < xs.length) : xs.drop k = xs.getD k 0 :: xs.drop (k + 1) := by
  rw [List.drop_eq_getElem_cons h, List.getD_eq_getElem?_getD, List.getElem?_eq_getElem h]; rfl

/-- A slice's beginning. -/
theorem run_slice_to {P : Program} (t e : TypeId) (ht : P.underlying t = some (.slice e)) (hc : ∀ w, (sizeOf e).run P w = .ok 1 w) (A : Option Addr) (n c h : Nat) (k : Int) (hk : k = h) (hh : h ≤ c) (W : World) :
    (Instr.slice t (.slice A n c) none (some (.int .i64 k)) none).run P W = .ok (.slice A h c) W := by
  subst hk
  have he : P.elem t = e := by simp [Program.elem, ht]
  rw [run_slice_h W t A n c (by rw [he]; exact ht) .i64 (h : Int) (by omega) (by omega), he, hc]
  rcases A with _ | a
  · simp [Result.andThen, sliced]
  · simp [Result.andThen, sliced, Addr.add]

set_option maxRecDepth 100000 in
set_option maxHeartbeats 3200000 in
theorem nSevens_any (A : Option Addr) (n c : Nat) (xs : List Int) (w : World) (hr : Row w .u8 A n xs) (hb : ∀ c ∈ xs, 0 ≤ c ∧ c < 256) (hc : n ≤ c) (hn : n ≤ 140737488355328) :
    Calls Try.prog 38 #[.slice A n c] w (RdEnd w (rd 0 0 xs)) := by
  have Hr := Lib.hid hr
  have hlen := hr.len
  have Hlen := Lib.hid hlen
  obtain ⟨m, hm⟩ : ∃ m : Nat, min (n : Int) 10 = m := ⟨(min (n : Int) 10).toNat, by omega⟩
  have hmn : m ≤ n := by omega
  have hm10 : m ≤ 10 := by omega
  have hsl : ∀ W, (Instr.slice 22 (.slice A n c) none (some (.int .i64 (min (n : Int) 10))) none).run Try.prog W = .ok (.slice A m c) W := fun W =>
    run_slice_to _ _ Try.underlying22 byte_size A n c m _ hm (by omega) W
  obtain ⟨R, hR⟩ : ∃ R, R = rd 0 0 xs := ⟨_, rfl⟩
  rw [← hR]
  have HR := Lib.hid hR
  have Hm := Lib.hid hm
  have Hb := Lib.hid hb
  clear hm hr hlen hb hR
  go_enter Try.func38, Try.ntmps38
  go_wp2_with fail
  go_loop [2, 13] (fun v i => ∃ k acc : Nat, k ≤ m ∧ k ≤ 9 ∧ i = .int .i64 k ∧ v = .int .u64 acc ∧ acc < 128 ^ k ∧ R = rd k acc (xs.drop k)) (fun _ i => (m - intOf i).toNat)
  case atStart => exact ⟨0, 0, by omega, by omega, rfl, rfl, by simp, by simpa using HR.out⟩
  case round =>
    obtain ⟨k, acc, hkm, hk9, rfl, rfl, hacc, hrd⟩ := hrel
    by_cases hlt : k < m
    · obtain ⟨b, o, rfl, hbl, hcell⟩ := Hr.out.at_ k (by omega)
      have hdrop := drop_cons (xs := xs) (k := k) (by rw [Hlen.out]; omega)
      have hbd := Hb.out (xs.getD k 0) (getD_mem (by rw [Hlen.out]; omega))
      rw [hdrop] at hrd
      generalize xs.getD k 0 = cc at *
      obtain ⟨x, rfl⟩ := Int.eq_ofNat_of_zero_le hbd.1
      have hx : x < 256 := by omega
      rw [rd_cons, Int.toNat_natCast] at hrd
      have Hacc := Lib.hid hacc
      clear hdrop hbd hacc
      by_cases h1 : k = 9 ∧ (1 : Int) < (x : Int)
      · rw [if_pos h1] at hrd
        have Hrd := Lib.hid hrd
        clear hrd
        obtain ⟨rfl, h1x⟩ := h1
        go_wp2_with fail
        refine bodyPost_ret (v := .tuple #[.int .u64 0, .int .i64 0, .int .i64 4]) (by simp [results, Try.results38, go_sem]) rfl ?_
        rw [Hrd.out]
        exact ⟨rfl, rfl⟩
      · rw [if_neg h1] at hrd
        by_cases h2 : (x : Int) = 0 ∧ 0 < k
        · rw [if_pos h2] at hrd
          have Hrd := Lib.hid hrd
          have hx1 : ¬ (1 : Int) < (x : Int) := by omega
          have hx0 : ((x : Int) == 0) = true := by simp; omega
          have hk0 : (0 : Int) < k := by omega
          clear hrd h1 h2
          go_wp2_with fail
          all_goals
            refine bodyPost_ret (v := .tuple #[.int .u64 0, .int .i64 0, .int .i64 4]) (by simp [results, Try.results38, go_sem]) rfl ?_
            rw [Hrd.out]
            exact ⟨rfl, rfl⟩
        · rw [if_neg h2] at hrd
          have hor := or_seven acc x k hk9 hx Hacc.out (fun h => by omega)
          have Hor := Lib.hid hor
          have hbound : (x : Int) < 128 ∨ (k < 9 ∧ acc + x % 128 * 128 ^ k < 128 ^ (k + 1)) := by
            by_cases h3 : (x : Int) < 128
            · exact .inl h3
            · refine .inr ⟨by omega, ?_⟩
              have := Hacc.out
              have := Nat.mul_le_mul_right (128 ^ k) (show x % 128 ≤ 127 by omega)
              rw [Nat.pow_succ]; omega
          have Hbound := Lib.hid hbound
          have h9' : (((k : Int) == 9) = false) ∨ (((k : Int) == 9) = true ∧ ¬ (1 : Int) < (x : Int)) := by
            by_cases e : k = 9
            · exact .inr ⟨by simp; omega, by omega⟩
            · exact .inl (by simp; omega)
          have h0' : (((x : Int) == 0) = false) ∨ (((x : Int) == 0) = true ∧ ¬ (0 : Int) < (k : Int)) := by
            by_cases e : x = 0
            · exact .inr ⟨by simp; omega, by omega⟩
            · exact .inl (by simp; omega)
          clear hor hbound h1 h2
          by_cases h3 : (x : Int) < 128
          · rw [if_pos h3] at hrd
            have Hrd := Lib.hid hrd
            clear hrd
            rcases h9' with hb9 | ⟨hb9, hx1⟩ <;> rcases h0' with hx0 | ⟨hx0, hk0⟩
            all_goals
              go_wp2_with fail
              refine bodyPost_ret (v := .tuple #[.int .u64 (acc + x % 128 * 128 ^ k : Nat), .int .i64 (k + 1 : Nat), .int .i64 0]) (by simp only [results, Try.results38, go_sem, Hor.out]; simp) rfl ?_
              rw [Hrd.out]
              exact ⟨rfl, rfl⟩
          · rw [if_neg h3] at hrd
            have Hrd := Lib.hid hrd
            clear hrd
            have hb9 : ((k : Int) == 9) = false := by have := Hbound.out; simp; omega
            have hx0 : ((x : Int) == 0) = false := by simp; omega
            clear h9' h0'
            go_wp2_with fail
            go_round
            case rel => exact ⟨k + 1, acc + x % 128 * 128 ^ k, by omega, by have := Hbound.out; omega, by go_num, by rw [Hor.out], by have := Hbound.out; omega, Hrd.out⟩
            case measure => simp [intOf]; omega
    · obtain rfl : k = m := by omega
      have : xs.drop k = [] := List.drop_eq_nil_of_le (by rw [Hlen.out]; have := Hm.out; omega)
      rw [this] at hrd
      have Hrd := Lib.hid hrd
      clear hrd this
      go_wp2_with fail
      refine bodyPost_ret (v := .tuple #[.int .u64 0, .int .i64 0, .int .i64 3]) (by simp [results, Try.results38, go_sem]) rfl ?_
      rw [Hrd.out]
      exact ⟨rfl, rfl⟩

end Go.Proofs.Ytbbkdgbgfncjaaa
