/- The contract of bits.New. -/
import Derived.Test.YtlnhpdikdefgoaaBitsR2
import Derived.Deep.DrawnRows
namespace Go.Proofs.Ytlnhpdikdefgoaa
open Go.RowKit

attribute [local go_sem ↓] Go.wp_at_zero Go.wp_at_succ

set_option maxHeartbeats 800000 in
theorem rNew_any (A : Option Addr) (n c : Nat) (xs : List Int) (w : World) (h : Row w .u8 A n xs) (hn : n ≤ 100000000) (hby : ∀ j, 0 ≤ xs.getD j 0 ∧ xs.getD j 0 < 256) :
    Calls Try.prog 32 #[.slice A n c] w fun e w' => ∃ g B d, e = .returned (.pointer (some ⟨g, 0, none⟩)) ∧ Rd w' g 81 B d xs 0 0 ∧ w.heap.size ≤ g ∧ (∀ b o, B = some ⟨b, o, none⟩ → w.heap.size ≤ b) ∧ Fresh w w' := by
  obtain ⟨i0, hi, hz0, hz1, hz2⟩ := info_parts Try.infoByte
  have Hlen := Lib.hid h.len
  go_enter Try.func32, Try.ntmps32
  go_wp2_with (at_builtin; refine wpList_app _ rfl _ _ 25 rfl 5 i0 .u8 1 Try.underlying25 hi hz0 hz1 hz2 (.slice none 0 0) [] rfl (Own.nil _ _ _) A n c xs rfl h (by unfold maxLen; simp; omega) (by simp; omega) ?_)
  intro v' w1 hown hg hat
  obtain ⟨B, d, rfl, hr, hB⟩ := hown.row
  have hk : Fresh w w1 := (Kept.refl _ _).grown hg (fun k e _ => by cases e)
  have hBl : ∀ b o, B = some ⟨b, o, none⟩ → w.heap.size ≤ b := by
    intro b o e
    have := hB b o e
    rcases hat with e' | e'
    · rw [e'] at this; cases this
    · rw [e'] at this; injection this with this; omega
  have Hb := Lib.hid hBl
  clear hown hB hg hat hBl
  go_wp2
  go_ret
  have hr' := hr.kept ((Kept.refl (fun _ => False) _).alloc (.cells #[.slice B xs.length d, .int .i64 0, .int .i64 0] 81)) (fun _ _ _ _ => id)
  exact ⟨w1.heap.size, B, d, rfl, ⟨Blk.new _ _ _, hr', hby, by omega, by have := Hlen.out; omega⟩, hk.size, Hb.out, hk.alloc _⟩

end Go.Proofs.Ytlnhpdikdefgoaa
