/- FilterPaeth: the guess is one of the three, and none of them is nearer to their line. -/
import Derived.Test.YtnmapfoinhomdaaFilCw
import Derived.Test.YtnmapfoinhomdaaArgs
namespace Go.Proofs.Ytnmapfoinhomdaa.filterPaeth
open Go.ChangeShapes Go.WideShapes Go.ChangeAt Go.RowKit

attribute [local go_sem ↓] Go.wp_at_zero Go.wp_at_succ

set_option maxHeartbeats 1600000 in
/-- How far a number is from the line. -/
theorem far_any (B : Nat) (p v : Int) (w : World) (hB : w.cell? ⟨B, 0, none⟩ = some (.int .i64 p)) (hp : -1000 ≤ p ∧ p ≤ 1000) (hv : -1000 ≤ v ∧ v ≤ 1000) :
    Calls Try.prog 24 #[.int .i64 v, .pointer (some ⟨B, 0, none⟩)] w fun e w' => e = .returned (.int .i64 (amt (v - p))) ∧ w = w' := by
  have hm : amt (v - p) = max (v - p) (p - v) := by unfold amt; rw [Int.neg_sub]
  rw [hm]
  clear hm
  go_enter Try.func24, Try.ntmps24
  go_wp2_with fail
  go_ret
  exact ⟨rfl, rfl⟩

set_option maxRecDepth 100000 in
set_option maxHeartbeats 6400000 in
theorem walk (ok : FilterOK) (x : Int) (hx : 0 ≤ x ∧ x ≤ 255) (y : Int) (hy : 0 ≤ y ∧ y ≤ 255) (z : Int) (hz : 0 ≤ z ∧ z ≤ 255) (w : World) :
    Calls Try.prog 6 #[.int .u8 x, .int .u8 y, .int .u8 z] w fun e w' => e = .returned (.bool true) ∧ Below w.heap.size w w' := by
  have HP := Lib.hid (ok.paeth x y z w (by omega) (by omega) (by omega))
  obtain ⟨h1, h2, h3, h4⟩ := pae_near x y z
  have HO := Lib.hid ok
  have hin := pae_in (a := x) (b := y) (c := z) (by omega) (by omega) (by omega)
  generalize pae x y z = g at *
  have hcs : (g == x) = true ∨ ((g == x) = false ∧ (g == y) = true) ∨ ((g == x) = false ∧ (g == y) = false ∧ (g == z) = true) := by
    simp only [beq_iff_eq, beq_eq_false_iff_ne]
    omega
  have H234 := Lib.hid (And.intro h2 (And.intro h3 h4))
  clear h1 h2 h3 h4 ok
  rcases hcs with k1 | ⟨k1, k2⟩ | ⟨k1, k2, k3⟩
  all_goals
    go_enter Try.func6, Try.ntmps6
    go_wp2_with fail
    refine HP.out.mono ?_
    rintro e w1 ⟨rfl, hf⟩
    have HA := Lib.hid (awakeF_any HO.out (w1.alloc (.cells #[.int .i64 (x + y - z)] 3)))
    have HX := Lib.hid hf
    clear hf HP
    go_wp2_with fail
    refine HA.out.mono ?_
    rintro e w2 ⟨rfl, hf2⟩
    have hc0 : w2.cell? ⟨w1.heap.size, 0, none⟩ = some (.int .i64 (x + y - z)) := (hf2.cell (by simp) id).trans (cell_one_new _ _ _ 0 _ rfl)
    have HFar : Hid (∀ v : Int, -1000 ≤ v ∧ v ≤ 1000 → Calls Try.prog 24 #[.int .i64 v, .pointer (some ⟨w1.heap.size, 0, none⟩)] w2 fun e w' => e = .returned (.int .i64 (amt (v - (x + y - z)))) ∧ w2 = w') := Lib.hid fun v hv => far_any _ (x + y - z) v w2 hc0 (by omega) hv
    have HL := Lib.hid (Fresh.two (HX.out.alloc (.cells #[.int .i64 (x + y - z)] 3)) hf2).toBelow
    clear hf2 hc0 HA HX
    obtain ⟨h2, h3, h4⟩ := H234.out
    generalize hp1 : amt (g - (x + y - z)) = d0 at *
    generalize hp2 : amt (x - (x + y - z)) = d1 at *
    generalize hp3 : amt (y - (x + y - z)) = d2 at *
    generalize hp4 : amt (z - (x + y - z)) = d3 at *
    have HG := Lib.hid (HFar.out g (by omega))
    have HX1 := Lib.hid (HFar.out x (by omega))
    have HY1 := Lib.hid (HFar.out y (by omega))
    have HZ1 := Lib.hid (HFar.out z (by omega))
    rw [hp1] at HG
    rw [hp2] at HX1
    rw [hp3] at HY1
    rw [hp4] at HZ1
    clear hp1 hp2 hp3 hp4 HFar H234
    go_wp2_with fail
    refine HG.out.mono ?_
    rintro e wx ⟨rfl, rfl⟩
    go_wp2_with fail
    refine HX1.out.mono ?_
    rintro e wx ⟨rfl, rfl⟩
    go_wp2_with fail
    refine HG.out.mono ?_
    rintro e wx ⟨rfl, rfl⟩
    go_wp2_with fail
    refine HY1.out.mono ?_
    rintro e wx ⟨rfl, rfl⟩
    go_wp2_with fail
    refine HG.out.mono ?_
    rintro e wx ⟨rfl, rfl⟩
    go_wp2_with fail
    refine HZ1.out.mono ?_
    rintro e wx ⟨rfl, rfl⟩
    go_wp2_with fail
    go_ret
    exact ⟨rfl, HL.out⟩

set_option maxRecDepth 100000 in
theorem lifted (os : Os) (started : os.Started) (H : Type) (enc : TypeId × Value → H) :
    ReturnsInHanded {} Try.checked os 6 .any (Rows.filterPaethSpec.pre6 enc Try.prog Try.f6 Rows.filterPaethRow.domain false) (Rows.filterPaethSpec.post enc Try.prog Try.f6 false true false false) := by
  refine returnsInHanded_of_change (C := Try.checked) Try.own started (by kernel_rfl) Try.func6
    (ChangeSpec.witness6 (enc := enc) (C := Try.checked) false ⟨#[], #[.int .u8 0, .int .u8 0, .int .u8 0], []⟩ 8 (by kernel_rfl) (by kernel_rfl) (by kernel_rfl) (by kernel_rfl)) ?_
  intro W base args ds gs before hval0 hW hcnd _
  have hval : ∀ (j : Nat) t v, Try.f6.params[j]? = some t → args[j]? = some v → Value.okWide Try.prog W .any base t v := hval0
  have hpost : ∀ W', Below W.heap.size W W' → Rows.filterPaethSpec.post enc Try.prog Try.f6 false true false false W args (.bool true) W' := fun W' hb =>
    law_post (by kernel_rfl) Try.underlying4 (by kernel_rfl) rfl (fun ds hl => match ds, hl with | [d1, d2, d3], _ => ⟨rfl, rfl, rfl⟩) hW hb
  obtain ⟨p, q, hA0, hV, rfl, hfz, hnd⟩ := hW
  have hA : DataW.TrodAll enc Try.prog W 0 (fun _ => true) true Try.f6.params.toList args.toList ds p := hA0
  rw [Try.params6] at hA hval
  obtain ⟨v0, vs0, d0, ds0, p0, q0, hargs, rfl, rfl, h0, r0⟩ := trodAll_cons hA
  obtain ⟨v1, vs1, d1, ds1, p1, q1, rfl, rfl, rfl, h1, r1⟩ := trodAll_cons r0
  obtain ⟨v2, vs2, d2, ds2, p2, q2, rfl, rfl, rfl, h2, r2⟩ := trodAll_cons r1
  obtain ⟨rfl, rfl, rfl⟩ := trodAll_nil r2
  obtain rfl : args = #[v0, v1, v2] := by cases args; simp_all
  obtain ⟨a0, rfl, rfl, rfl, w0⟩ := open_int Try.underlying5 (hval 0 5 v0 rfl rfl) h0
  obtain ⟨a1, rfl, rfl, rfl, w1⟩ := open_int Try.underlying5 (hval 1 5 v1 rfl rfl) h1
  obtain ⟨a2, rfl, rfl, rfl, w2⟩ := open_int Try.underlying5 (hval 2 5 v2 rfl rfl) h2
  refine (walk filterOK a0 (bounds_u8 w0) a1 (bounds_u8 w1) a2 (bounds_u8 w2) W).mono fun e W' ⟨he, hb⟩ => ⟨_, he, hpost W' hb⟩

/-- The statement. -/
theorem proved : Rows.FilterPaethSaid :=
  OpenClaim.holds_of_wide 6 Try.f6 rfl rfl rfl rfl rfl rfl rfl ⟨rfl, rfl, rfl, rfl, rfl⟩ rfl rfl rfl rfl rfl (by kernel_rfl) Try.func6 (by kernel_rfl)
    (of_decide_eq_true (by kernel_rfl)) (by unfold Func.isWrapper; first | (rw [if_pos (by decide +kernel)]; kernel_rfl) | (rw [if_neg (by decide +kernel)]; exact ⟨rfl, rfl⟩))
    (fun os started H enc _ => lifted os started H enc)
#print axioms proved

end Go.Proofs.Ytnmapfoinhomdaa.filterPaeth
