/- What the laws of WAV files ask of the code; awake. -/
import Derived.Test.YtjpfmnfojcaedaaWavM
namespace Go.Proofs.Ytjpfmnfojcaedaa
open Go.RowKit
set_option maxRecDepth 100000

attribute [local go_sem ↓] Go.wp_at_zero Go.wp_at_succ

/-- The code's two calls answer as the document's. -/
structure WavOK : Prop where
  parse : ∀ (A : Option Addr) (n c : Nat) (xs : List Int) (w : World), Row w .u8 A n xs → (∀ x ∈ xs, 0 ≤ x ∧ x < 256) → n ≤ 100000000 → n ≤ c →
    Calls Try.prog 10 #[.slice A n c] w fun e w' => e = .returned (.tuple #[wval (wparse xs), .bool (wparse xs).isSome]) ∧ Fresh w w'
  make : ∀ (ch b f t : Int) (A : Option Addr) (n c : Nat) (xs : List Int) (w : World), -9223372036854775808 ≤ ch ∧ ch < 9223372036854775808 → -9223372036854775808 ≤ b ∧ b < 9223372036854775808 → Row w .u8 A n xs → (∀ x ∈ xs, 0 ≤ x ∧ x < 256) → n ≤ 100000000 → n ≤ c →
    Calls Try.prog 14 #[.agg #[.int .i64 ch, .int .i64 b, .int .i64 f, .int .i64 t], .slice A n c] w fun e w' => ∃ u, e = .returned u ∧ NewRow w w' 5 .u8 u (wmake ch b xs)

theorem laidB (w : World) (e : TypeId) (xs : List Int) : Row (w.alloc (.cells (ivs .u8 xs).toArray e)) .u8 (some ⟨w.heap.size, 0, none⟩) xs.length xs := Row.of_cells (heap_alloc_new w _)

set_option maxHeartbeats 1600000 in
theorem awakeW_any (hc : WavOK) (w : World) : Calls Try.prog 8 #[] w fun e w' => e = .returned (.bool true) ∧ Fresh w w' := by
  have HM := Lib.hid (hc.make 1 8 0 0 (some ⟨w.heap.size, 0, none⟩) 2 2 [1, 2] _ (by omega) (by omega) (laidB w 5 [1, 2]) (by decide) (by omega) (by omega))
  have hw := wback (ch := 1) (b := 8) (by unfold wok; omega) [1, 2] [] (by decide)
  rw [List.append_nil] at hw
  have hlen := wmake_length (ch := 1) (b := 8) (by unfold wok; omega) [1, 2]
  have hbm : ∀ x ∈ wmake 1 8 [1, 2], 0 ≤ x ∧ x < 256 := wmake_byte 1 8 (by decide)
  have hw' : wparse (wmake 1 8 [1, 2]) = some (1, 8, 44, 46) := hw
  have HW := Lib.hid (And.intro hw' (And.intro hlen (And.intro hbm hc)))
  clear hc hw hw' hlen hbm
  go_enter Try.func8, Try.ntmps8
  go_wp2_with fail
  refine HM.out.mono ?_
  rintro e w1 ⟨u, rfl, hu, hn1, hf1⟩
  have hcap0 := hu
  obtain ⟨Au, cu, rfl, hru, _⟩ := hu.row
  have H1 := Lib.hid (((Kept.refl (fun _ => False) w).alloc (.cells (ivs .u8 [1, 2]).toArray 5)).trans hf1 (fun _ _ h => h))
  have HP := HW.out.2.2.2.parse Au _ cu (wmake 1 8 [1, 2]) w1 hru HW.out.2.2.1 (by have := HW.out.2.1; simp at this; omega) hcap0.cap
  rw [HW.out.1] at HP
  have HP' := Lib.hid HP
  clear hu hn1 hf1 hru HM HP hcap0
  generalize (wmake 1 8 [1, 2]).length = lu at *
  go_wp2_with fail
  refine HP'.out.mono ?_
  rintro e w2 ⟨rfl, hf2⟩
  simp only [wval, Option.isSome_some]
  have H2 := Lib.hid (H1.out.trans hf2 (fun _ _ h => h))
  clear hf2 HP' H1
  go_wp2_with fail
  go_ret
  exact ⟨rfl, H2.out.alloc _⟩

end Go.Proofs.Ytjpfmnfojcaedaa
