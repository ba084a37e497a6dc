/- The contracts of num.Reader: New, Zig, Little, Big, Text. -/
import Derived.Test.YtbbkdgbgfncjaaaNumR2
namespace Go.Proofs.Ytbbkdgbgfncjaaa
open Go.RowKit
set_option maxRecDepth 100000

theorem or_le (acc c i : Nat) (hi : i ≤ 7) (hc : c < 256) (ha : acc < 256 ^ i) :
    bits .or .u64 (acc : Int) (IntKind.u64.wrap ((c : Int) * 2 ^ (8 * i))) = ((acc + c * 256 ^ i : Nat) : Int) := by
  have e2 : (2 : Nat) ^ (8 * i) = 256 ^ i := by rw [Nat.pow_mul]
  have h7 : 256 ^ i ≤ 256 ^ 7 := Nat.pow_le_pow_right (by omega) (by omega)
  have hlt : c * 256 ^ i < 18446744073709551616 := by
    have := Nat.mul_le_mul (show c ≤ 255 by omega) h7
    omega
  have e3 : IntKind.u64.wrap ((c : Int) * 2 ^ (8 * i)) = ((c * 256 ^ i : Nat) : Int) := by
    have : ((c : Int) * 2 ^ (8 * i)) = ((c * 256 ^ i : Nat) : Int) := by rw [← e2]; simp
    rw [this, IntKind.wrap_u64]
    omega
  rw [e3, u64_or_nat _ _ (by omega) hlt, Nat.or_comm, nat_join (8 * i) (c * 256 ^ i) acc (by rw [e2]; exact Nat.mul_mod_left _ _) (by rw [e2]; exact ha), Nat.add_comm]

theorem or_be (acc c i : Nat) (hi : i ≤ 7) (hc : c < 256) (ha : acc < 256 ^ i) :
    bits .or .u64 (IntKind.u64.wrap ((acc : Int) * 256)) (c : Int) = ((256 * acc + c : Nat) : Int) := by
  have h7 : 256 ^ i ≤ 256 ^ 7 := Nat.pow_le_pow_right (by omega) (by omega)
  have e3 : IntKind.u64.wrap ((acc : Int) * 256) = ((256 * acc : Nat) : Int) := by rw [IntKind.wrap_u64]; omega
  rw [e3, u64_or_nat _ _ (by omega) (by omega), nat_join 8 (256 * acc) c (by simp) (by omega)]

theorem tk_byte (bs : List Int) (p : Nat) (err : Int) (n : Nat) (h : ∀ c ∈ bs, 0 ≤ c ∧ c < 256) : ∀ c ∈ (tk bs p err n).1, 0 ≤ c ∧ c < 256 := by
  unfold tk
  split
  · simp
  split
  · intro c hc
    exact h c (List.mem_of_mem_drop (List.mem_of_mem_take hc))
  · simp
theorem tk_len_le (bs : List Int) (p : Nat) (err : Int) (n : Nat) : (tk bs p err n).1.length ≤ n := by
  unfold tk
  split
  · simp
  split
  · simp; omega
  · simp

/-- A number's reading leaves. -/
def IntPost (g : Nat) (t : TypeId) (ext : List Value) (A : Option Addr) (c : Nat) (bs : List Int) (w : World) (v : Value) (p : Nat) (err : Int) (e : Ending) (w' : World) : Prop :=
  e = .returned v ∧ NRd w' g t ext A c bs p err ∧ Mine g w w'

section
variable (g : Nat) (t : TypeId) (ext : List Value) (A : Option Addr) (c : Nat) (bs : List Int) (p : Nat) (err : Int) (w : World)





theorem nx_fits (h : NRd w g t ext A c bs p err) : (nx bs p err).1 < 18446744073709551616 := by
  unfold nx
  split
  · simp
  · exact (rd_fits (bs.drop p) 0 0 (fun x hx => h.byte x (List.mem_of_mem_drop hx)) (by omega) (by simp)).1


end

set_option maxHeartbeats 800000 in
/-- New: a reader of a copy. -/
theorem nrNew_any (A : Option Addr) (n c : Nat) (xs : List Int) (w : World) (hr : Row w .u8 A n xs) (hb : ∀ c ∈ xs, 0 ≤ c ∧ c < 256) (hn : n ≤ 140737488355328) :
    Calls Try.prog 26 #[.slice A n c] w fun e w' => ∃ g A' c', e = .returned (.pointer (some ⟨g, 0, none⟩)) ∧ NRd w' g 57 [] A' c' xs 0 0 ∧ w.heap.size ≤ g ∧ (∀ b o, A' = some ⟨b, o, none⟩ → w.heap.size ≤ b) ∧ Fresh w w' := by
  obtain ⟨i0, hi, hz0, hz1, hz2⟩ := info_parts Try.infoByteN
  have hlen := hr.len
  have Hlen := Lib.hid hlen
  clear hlen
  go_enter Try.func26, Try.ntmps26
  go_wp2_with (at_builtin; refine wpList_app _ rfl _ _ 22 rfl 5 i0 .u8 1 Try.underlying22 hi hz0 hz1 hz2 (.slice none 0 0) [] rfl (Own.nil _ _ _) A n c xs rfl hr (by unfold maxLen; simp; omega) (by simp; omega) ?_)
  intro v' w' hown hg hat
  have hf : Fresh w w' := (Kept.refl _ _).grown hg (fun k e _ => by cases e)
  obtain ⟨A', c', rfl, hrow, hown'⟩ := hown.row
  have hcap := hown.cap
  have hnew : ∀ b o, A' = some ⟨b, o, none⟩ → b = w.heap.size := by
    intro b o e
    have := hown' b o e
    rcases hat with e' | e'
    · rw [e'] at this; cases this
    · rw [e'] at this; injection this with this; exact this.symm
  have hlt : ∀ b o, A' = some ⟨b, o, none⟩ → b < w'.heap.size := fun b o e => hown.lt (hown' b o e)
  have hz := hf.size
  have hNR : NRd (w'.alloc (.cells #[.slice A' xs.length c', .int .i64 0, .int .i64 0] 57)) w'.heap.size 57 [] A' c' xs 0 0 := by
    refine ⟨Blk.new _ _ _, hrow.kept ((Kept.refl (fun _ => False) w').alloc _) (fun _ _ _ _ => id), fun b o e _ => ?_, hb, by omega, hcap, by rw [Hlen.out]; exact hn⟩
    have := hlt b o e
    omega
  have HNR := Lib.hid hNR
  have hkA : Fresh w (w'.alloc (.cells #[.slice A' xs.length c', .int .i64 0, .int .i64 0] 57)) := hf.alloc _
  have HkA := Lib.hid (And.intro hkA hnew)
  clear hown hat hown' hrow hlt hNR hkA hnew hg
  go_wp2_with fail
  go_ret
  exact ⟨w'.heap.size, A', c', rfl, HNR.out, hz, fun b o e => by have := HkA.out.2 b o e; omega, HkA.out.1⟩

end Go.Proofs.Ytbbkdgbgfncjaaa
