/- The document's number of a picture's head. -/
import Derived.Test.YtlmhodkdcllcjaaPicQ
namespace Go.Proofs.Ytlmhodkdcllcjaa
open Go.RowKit
set_option maxRecDepth 100000

attribute [local go_sem ↓] Go.wp_at_zero Go.wp_at_succ

theorem pow10_le {k : Nat} (h : k ≤ 6) : (10 : Int) ^ k ≤ 1000000 := by
  rcases (by omega : k = 0 ∨ k = 1 ∨ k = 2 ∨ k = 3 ∨ k = 4 ∨ k = 5 ∨ k = 6) with rfl | rfl | rfl | rfl | rfl | rfl | rfl <;> decide
theorem numP_bad {l : List Int} {i j k : Nat} {v : Int} (h : numR l 6 i 0 = (v, j, 6 - k)) (hk : k < 1 ∨ (5 < k ∧ k ≤ 6)) : numP l i = (-1, -1) := by
  rw [numP, h, if_pos (by show 6 - k = 6 ∨ 6 - k = 0; omega)]
theorem numP_good {l : List Int} {i j k : Nat} {v : Int} (h : numR l 6 i 0 = (v, j, 6 - k)) (hk : ¬ k < 1 ∧ ¬ 5 < k) : numP l i = (v, (j : Int)) := by
  rw [numP, h, if_neg (by show ¬ (6 - k = 6 ∨ 6 - k = 0); omega)]

set_option maxHeartbeats 6400000 in
theorem qNumber_any (A : Option Addr) (n c : Nat) (l : List Int) (i : Nat) (w : World) (hr : Row w .u8 A n l) (h8 : B8 l) (hn : n ≤ 1000000000) (hi : i ≤ n) :
    Calls Try.prog 26 #[.slice A n c, .int .i64 (i : Int)] w fun e w' => e = .returned (.tuple #[.int .i64 (numP l i).1, .int .i64 (numP l i).2]) ∧ Fresh w w' := by
  obtain rfl := hr.len
  have HR : Hid (∀ V, Fresh w V → Row V .u8 A l.length l) := Lib.hid fun V hV => hr.kept hV (fun _ _ _ _ => id)
  have H8 := Lib.hid h8
  clear hr h8
  go_enter Try.func26, Try.ntmps26
  go_wp2_with fail
  go_loopw [7, 6, 1] (fun u v a wr => ∃ k j : Nat, ∃ z : Int, k ≤ 6 ∧ i ≤ j ∧ j ≤ l.length ∧ u = .int .i64 (k : Int) ∧ v = .int .i64 z ∧ a = .int .i64 (j : Int) ∧ Fresh w wr ∧ numR l (6 - k) j z = numR l 6 i 0 ∧ 0 ≤ z ∧ z + 1 ≤ 10 ^ k) (fun _ _ a _ => (l.length - intOf a).toNat)
  case atStart => exact ⟨0, i, 0, by omega, by omega, by omega, rfl, rfl, rfl, Kept.refl _ _, rfl, by omega, by simp⟩
  case round =>
    obtain ⟨k, j, z, hk, hij, hj, rfl, rfl, rfl, hfr, hw, hz, hzp⟩ := hrel
    have HF := Lib.hid hfr
    have hzb : z + 1 ≤ 1000000 := Int.le_trans hzp (pow10_le hk)
    by_cases hgo : k < 6 ∧ j < l.length ∧ 48 ≤ l.getD j 0 ∧ l.getD j 0 ≤ 57
    · obtain ⟨hk6, hlt, h48, h57⟩ := hgo
      obtain ⟨b, o, rfl, hb, hc⟩ := (HR.out wr hfr).at_ j hlt
      have HW : Hid (numR l (6 - (k + 1)) (j + 1) (10 * z + (l.getD j 0 - 48)) = numR l 6 i 0 ∧ 10 * z + (l.getD j 0 - 48) + 1 ≤ 10 ^ (k + 1)) := Lib.hid ⟨by
        rw [← hw, show 6 - k = 6 - (k + 1) + 1 by omega, numR, if_pos ⟨hlt, h48, h57⟩], by rw [Int.pow_succ]; omega⟩
      generalize l.getD j 0 = x at *
      have j0 : (j : Int) < (l.length : Int) := by omega
      have k0 : (k : Int) < 6 := by omega
      clear hfr hw hzp
      go_wp2_with fail
      go_roundw
      case rel => exact ⟨k + 1, j + 1, 10 * z + (x - 48), by omega, by omega, by omega, by go_num, by go_num, by go_num, HF.out, HW.out.1, by omega, HW.out.2⟩
      case measure => simp [intOf]; omega
    · have HS : Hid (numR l 6 i 0 = (z, j, 6 - k)) := Lib.hid (by
        rw [← hw]
        rcases Nat.lt_or_ge k 6 with h | h
        · rw [show 6 - k = 6 - (k + 1) + 1 by omega, numR, if_neg (fun h2 => hgo ⟨h, h2⟩)]
        · rw [show k = 6 by omega]
          rfl)
      have hstop : ¬ j < l.length ∨ (j < l.length ∧ l.getD j 0 < 48) ∨ (j < l.length ∧ ¬ l.getD j 0 < 48 ∧ 57 < l.getD j 0) ∨ (j < l.length ∧ ¬ l.getD j 0 < 48 ∧ ¬ 57 < l.getD j 0 ∧ ¬ k < 6) := by omega
      have hend : Hid ((k < 1 ∨ (¬ k < 1 ∧ 5 < k)) ∧ numP l i = (-1, -1) ∨ (¬ k < 1 ∧ ¬ 5 < k) ∧ numP l i = (z, (j : Int))) := Lib.hid (by
        rcases (by omega : (k < 1 ∨ (5 < k ∧ k ≤ 6)) ∨ (¬ k < 1 ∧ ¬ 5 < k)) with h | h
        · exact .inl ⟨by omega, numP_bad HS.out h⟩
        · exact .inr ⟨h, numP_good HS.out h⟩)
      have hx := H8.out.at_ j
      clear hw hzp hgo HS
      have hat : j < l.length → ∃ b o, A = some ⟨b, o, none⟩ ∧ b < wr.heap.size ∧ wr.cell? ⟨b, o + j, none⟩ = some (.int .u8 (l.getD j 0)) := fun h => (HR.out wr hfr).at_ j h
      generalize l.getD j 0 = x at *
      clear hfr
      rcases hend.out with ⟨hk1 | ⟨hk1, hk2⟩, he⟩ | ⟨⟨hk1, hk2⟩, he⟩
      all_goals
        have HE := Lib.hid he
        clear he hend
        rcases hstop with h1 | hst
        · clear hat
          go_wp2_with fail
          go_ret2
          exact ⟨by rw [HE.out]; rfl, HF.out⟩
        obtain ⟨b, o, rfl, hb, hc⟩ := hat (by omega)
        clear hat
        rcases hst with ⟨h1, h2⟩ | ⟨h1, h2, h3⟩ | ⟨h1, h2, h3, h4⟩
        all_goals first
          | (exfalso; omega)
          | (go_wp2_with fail
             go_ret2
             exact ⟨by rw [HE.out]; rfl, HF.out⟩)

end Go.Proofs.Ytlmhodkdcllcjaa
