/- The contracts of num.Reader: New, Zig, Little, Big, Text. -/
import Derived.Test.YtodmchjdflpbpaaNumR2
namespace Go.Proofs.Ytodmchjdflpbpaa
open Go.RowKit
set_option maxRecDepth 100000

theorem or_le (acc c i : Nat) (hi : i ≤ 7) (hc : c < 256) (ha : acc < 256 ^ i) :
    bits .or .u64 (acc : Int) (IntKind.u64.wrap ((c : Int) * 2 ^ (8 * i))) = ((acc + c * 256 ^ i : Nat) : Int) := by
  have e2 : (2 : Nat) ^ (8 * i) = 256 ^ i := by rw [Nat.pow_mul]
  have h7 : 256 ^ i ≤ 256 ^ 7 := Nat.pow_le_pow_right (by omega) (by omega)
  have hlt : c * 256 ^ i < 18446744073709551616 := by
    have := Nat.mul_le_mul (show c ≤ 255 by omega) h7
    omega
  have e3 : IntKind.u64.wrap ((c : Int) * 2 ^ (8 * i)) = ((c * 256 ^ i : Nat) : Int) := by
    have : ((c : Int) * 2 ^ (8 * i)) = ((c * 256 ^ i : Nat) : Int) := by rw [← e2]; simp
    rw [this, IntKind.wrap_u64]
    omega
  rw [e3, u64_or_nat _ _ (by omega) hlt, Nat.or_comm, nat_join (8 * i) (c * 256 ^ i) acc (by rw [e2]; exact Nat.mul_mod_left _ _) (by rw [e2]; exact ha), Nat.add_comm]

theorem or_be (acc c i : Nat) (hi : i ≤ 7) (hc : c < 256) (ha : acc < 256 ^ i) :
    bits .or .u64 (IntKind.u64.wrap ((acc : Int) * 256)) (c : Int) = ((256 * acc + c : Nat) : Int) := by
  have h7 : 256 ^ i ≤ 256 ^ 7 := Nat.pow_le_pow_right (by omega) (by omega)
  have e3 : IntKind.u64.wrap ((acc : Int) * 256) = ((256 * acc : Nat) : Int) := by rw [IntKind.wrap_u64]; omega
  rw [e3, u64_or_nat _ _ (by omega) (by omega), nat_join 8 (256 * acc) c (by simp) (by omega)]

theorem tk_byte (bs : List Int) (p : Nat) (err : Int) (n : Nat) (h : ∀ c ∈ bs, 0 ≤ c ∧ c < 256) : ∀ c ∈ (tk bs p err n).1, 0 ≤ c ∧ c < 256 := by
  unfold tk
  split
  · simp
  split
  · intro c hc
    exact h c (List.mem_of_mem_drop (List.mem_of_mem_take hc))
  · simp
theorem tk_len_le (bs : List Int) (p : Nat) (err : Int) (n : Nat) : (tk bs p err n).1.length ≤ n := by
  unfold tk
  split
  · simp
  split
  · simp; omega
  · simp

/-- A number's reading leaves. -/
def IntPost (g : Nat) (t : TypeId) (ext : List Value) (A : Option Addr) (c : Nat) (bs : List Int) (w : World) (v : Value) (p : Nat) (err : Int) (e : Ending) (w' : World) : Prop :=
  e = .returned v ∧ NRd w' g t ext A c bs p err ∧ Mine g w w'

section
variable (g : Nat) (t : TypeId) (ext : List Value) (A : Option Addr) (c : Nat) (bs : List Int) (p : Nat) (err : Int) (w : World)

set_option maxHeartbeats 1600000 in
theorem nrLittle_any (n : Int) (h : NRd w g t ext A c bs p err) :
    Calls Try.prog 31 #[.pointer (some ⟨g, 0, none⟩), .int .i64 n] w (IntPost g t ext A c bs w (.int .u64 (leNum (tk bs p err (wid n)).1)) (tk bs p err (wid n)).2.1 (tk bs p err (wid n)).2.2) := by
  have h8 := wid_le n
  have hby := tk_byte bs p err (wid n) h.byte
  have hle := tk_len_le bs p err (wid n)
  have Hby := Lib.hid hby
  clear hby
  go_enter Try.func31, Try.ntmps31
  go_wp2_with fail
  refine (nWidth_any n _).mono ?_
  rintro e w' ⟨rfl, rfl⟩
  go_wp2_with fail
  refine (nrTake_any g t ext A c bs p err _ (wid n) (by omega) h).mono ?_
  rintro e w1 ⟨A', m, c', rfl, hr, hA, hc, h1, hk⟩
  have hlen := hr.len
  generalize tk bs p err (wid n) = r at *
  obtain ⟨xs, p1, e1⟩ := r
  simp only at *
  have hm8 : m ≤ 8 := by omega
  have Hlen := Lib.hid hlen
  have Hr := Lib.hid hr
  have Hp := Lib.hid (And.intro h1 hk)
  clear hle hlen hr h1 hk h h8 hA
  go_wp2_with fail
  go_loop [5, 13] (fun v i => ∃ k : Nat, k ≤ m ∧ i = .int .i64 k ∧ v = .int .u64 (leNum (xs.take k))) (fun _ i => (m - intOf i).toNat)
  case atStart => exact ⟨0, by omega, rfl, rfl⟩
  case round =>
    obtain ⟨k, hkm, rfl, rfl⟩ := hrel
    by_cases hlt : k < m
    · obtain ⟨b, o, rfl, hbl, hcell⟩ := Hr.out.at_ k hlt
      have hkl : k < xs.length := by rw [Hlen.out]; exact hlt
      have hbd := Hby.out _ (getD_mem hkl)
      have htk : leNum (xs.take (k + 1)) = leNum (xs.take k) + (xs.getD k 0).toNat * 256 ^ k := by
        rw [List.take_succ_eq_append_getElem hkl, leNum_snoc, List.length_take, Nat.min_eq_left (by omega), List.getD_eq_getElem?_getD, List.getElem?_eq_getElem hkl, Option.getD_some]
      have hlt2 := leNum_lt (xs.take k) (fun c hc => Hby.out c (List.mem_of_mem_take hc))
      rw [List.length_take, Nat.min_eq_left (by omega)] at hlt2
      generalize xs.getD k 0 = cc at *
      obtain ⟨x, rfl⟩ := Int.eq_ofNat_of_zero_le hbd.1
      have hx : x < 256 := by omega
      rw [Int.toNat_natCast] at htk
      have hor := or_le (leNum (xs.take k)) x k (by omega) hx hlt2
      rw [← htk] at hor
      have Hor := Lib.hid hor
      clear hor htk hlt2 hbd hkl
      go_wp2_with fail
      go_round
      case rel => exact ⟨k + 1, by omega, by go_num, by rw [Hor.out]⟩
      case measure => simp [intOf]; omega
    · obtain rfl : k = m := by omega
      have hall : xs.take k = xs := List.take_of_length_le (by rw [Hlen.out]; omega)
      rw [hall]
      go_wp2_with fail
      go_ret
      exact ⟨rfl, Hp.out.1, Hp.out.2⟩


set_option maxHeartbeats 400000 in
theorem nrLittle_nil (n : Int) : Calls Try.prog 31 #[.pointer none, .int .i64 n] w fun e w' => e = .returned (.int .u64 0) ∧ w = w' := by
  go_enter Try.func31, Try.ntmps31
  go_wp2_with fail
  refine (nWidth_any n _).mono ?_
  rintro e w' ⟨rfl, rfl⟩
  go_wp2_with fail
  refine (nrTake_nil _ _).mono ?_
  rintro e w' ⟨rfl, rfl⟩
  go_wp2_with fail
  go_loop [5, 13] (fun v i => i = .int .i64 0 ∧ v = .int .u64 0) (fun _ _ => 0)
  case atStart => exact ⟨rfl, rfl⟩
  case round =>
    obtain ⟨rfl, rfl⟩ := hrel
    go_wp2_with fail
    go_ret
    exact ⟨rfl, rfl⟩


theorem nx_fits (h : NRd w g t ext A c bs p err) : (nx bs p err).1 < 18446744073709551616 := by
  unfold nx
  split
  · simp
  · exact (rd_fits (bs.drop p) 0 0 (fun x hx => h.byte x (List.mem_of_mem_drop hx)) (by omega) (by simp)).1


end

set_option maxHeartbeats 800000 in
/-- New: a reader of a copy. -/
theorem nrNew_any (A : Option Addr) (n c : Nat) (xs : List Int) (w : World) (hr : Row w .u8 A n xs) (hb : ∀ c ∈ xs, 0 ≤ c ∧ c < 256) (hn : n ≤ 140737488355328) :
    Calls Try.prog 15 #[.slice A n c] w fun e w' => ∃ g A' c', e = .returned (.pointer (some ⟨g, 0, none⟩)) ∧ NRd w' g 73 [] A' c' xs 0 0 ∧ w.heap.size ≤ g ∧ (∀ b o, A' = some ⟨b, o, none⟩ → w.heap.size ≤ b) ∧ Fresh w w' := by
  obtain ⟨i0, hi, hz0, hz1, hz2⟩ := info_parts Try.infoByteN
  have hlen := hr.len
  have Hlen := Lib.hid hlen
  clear hlen
  go_enter Try.func15, Try.ntmps15
  go_wp2_with (at_builtin; refine wpList_app _ rfl _ _ 27 rfl 5 i0 .u8 1 Try.underlying27 hi hz0 hz1 hz2 (.slice none 0 0) [] rfl (Own.nil _ _ _) A n c xs rfl hr (by unfold maxLen; simp; omega) (by simp; omega) ?_)
  intro v' w' hown hg hat
  have hf : Fresh w w' := (Kept.refl _ _).grown hg (fun k e _ => by cases e)
  obtain ⟨A', c', rfl, hrow, hown'⟩ := hown.row
  have hcap := hown.cap
  have hnew : ∀ b o, A' = some ⟨b, o, none⟩ → b = w.heap.size := by
    intro b o e
    have := hown' b o e
    rcases hat with e' | e'
    · rw [e'] at this; cases this
    · rw [e'] at this; injection this with this; exact this.symm
  have hlt : ∀ b o, A' = some ⟨b, o, none⟩ → b < w'.heap.size := fun b o e => hown.lt (hown' b o e)
  have hz := hf.size
  have hNR : NRd (w'.alloc (.cells #[.slice A' xs.length c', .int .i64 0, .int .i64 0] 73)) w'.heap.size 73 [] A' c' xs 0 0 := by
    refine ⟨Blk.new _ _ _, hrow.kept ((Kept.refl (fun _ => False) w').alloc _) (fun _ _ _ _ => id), fun b o e _ => ?_, hb, by omega, hcap, by rw [Hlen.out]; exact hn⟩
    have := hlt b o e
    omega
  have HNR := Lib.hid hNR
  have hkA : Fresh w (w'.alloc (.cells #[.slice A' xs.length c', .int .i64 0, .int .i64 0] 73)) := hf.alloc _
  have HkA := Lib.hid (And.intro hkA hnew)
  clear hown hat hown' hrow hlt hNR hkA hnew hg
  go_wp2_with fail
  go_ret
  exact ⟨w'.heap.size, A', c', rfl, HNR.out, hz, fun b o e => by have := HkA.out.2 b o e; omega, HkA.out.1⟩

end Go.Proofs.Ytodmchjdflpbpaa
