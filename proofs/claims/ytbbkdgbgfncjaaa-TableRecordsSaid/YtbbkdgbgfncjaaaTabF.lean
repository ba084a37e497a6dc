/- The code's Unpack of tables; what the laws of tables ask of it. -/
import Derived.Test.YtbbkdgbgfncjaaaTabE
namespace Go.Proofs.Ytbbkdgbgfncjaaa
open Go.RowKit
set_option maxRecDepth 100000

attribute [local go_sem ↓] Go.wp_at_zero Go.wp_at_succ

set_option maxHeartbeats 3200000 in
theorem cUnpackT_any (A : Option Addr) (n c : Nat) (xs : List Int) (most : Int) (w : World) (hr : Row w .u8 A n xs) (hb : ∀ x ∈ xs, 0 ≤ x ∧ x < 256) (hn : n ≤ 16777216) :
    Calls Try.prog 19 #[.slice A n c, .int .i64 most] w fun e w' => ∃ u, e = .returned (.tuple #[u, .int .i64 (tabU xs most).1]) ∧ NewRow w w' 5 .u8 u (tabU xs most).2 := by
  obtain rfl := hr.len
  have HN := Lib.hid (nrNew_any A xs.length c xs w hr hb (by omega))
  have Hn := Lib.hid hn
  obtain ⟨R, hR⟩ : ∃ R, R = tabU xs most := ⟨_, rfl⟩
  have HR := Lib.hid hR
  rw [← hR]
  clear hr hn hR
  obtain ⟨er, ys⟩ := R
  simp only []
  generalize hlu : ys.length = lu
  have Hlu := Lib.hid hlu
  clear hlu
  go_enter Try.func19, Try.ntmps19
  go_wp2_with fail
  refine HN.out.mono ?_
  rintro e w1 ⟨g, A', c', rfl, hrd, hgw, _, hf1⟩
  have hfa : Fresh w1 (w1.alloc (.cells #[.pointer (some ⟨g, 0, none⟩)] 47)) := (Kept.refl _ _).alloc _
  have HF0 := (cRecords_any g 57 [] A' c' xs most _ (hrd.kept hfa id (fun _ _ _ _ => id)) Hn.out)
  rw [← HR.out] at HF0
  have HF := Lib.hid HF0
  have H1 := Lib.hid (And.intro (hf1.trans hfa fun _ _ e => e) hgw)
  clear hrd hgw hf1 hfa HN HF0
  go_wp2_with fail
  refine HF.out.mono ?_
  rintro e w2 ⟨u, rfl, hu, hun, hk⟩
  obtain ⟨B, d, eu, _, _⟩ := hu.row
  simp only [] at hu eu ⊢
  rw [Hlu.out] at eu
  have HU : Hid (u = .slice B lu d ∧ NewRow w w2 5 .u8 u ys) := Lib.hid ⟨eu, hu, fun k e => by
    have := hun k e
    have := H1.out.1.size
    omega, H1.out.1.trans hk fun i hi e => by
    have := H1.out.2
    omega⟩
  rw [eu]
  clear eu hu hun hk HF
  go_wp2_with fail
  go_ret2
  rw [← HU.out.1]
  exact ⟨_, rfl, HU.out.2⟩

/-- The code keeps what the laws of tables ask. -/
theorem tableOK : TableOK tabX tabU where
  score := fun A n c bs wd w hr _ hn hc hw => cScore_any A n c bs wd w hr hn hc hw
  width := fun A n c bs w hr _ hn hc => cWidth_any A n c bs w hr hn hc
  delta := fun A n c bs wd w hr h8 hn _ hw => cDelta_any A n c bs wd w hr h8 (by omega) hw
  undelta := fun A n c bs wd w hr h8 hn _ hw => cUndelta_any A n c bs wd w hr h8 (by omega) hw
  pack := fun A n c bs w hr h8 hn hc h0 => cPackT_yes A n c bs w hr h8 hn hc h0
  refuse := fun A n c bs w hr _ hn hc h0 => cPackT_no A n c bs w hr hn hc h0
  unpack := fun A n c xs most w hr hb hn _ => cUnpackT_any A n c xs most w hr hb hn
  byte := fun _ h => tabX_byte h.1
  len := fun _ h => tabX_len h.2.1
  back := fun _ most h => tabX_back most h.1 h.2.1 h.2.2

end Go.Proofs.Ytbbkdgbgfncjaaa
