/- FilterFlat: of a row that is like the one ahead nothing is left by kind 2, nor by the best kind, which is 2 at most. -/
import Derived.Test.YtnmapfoinhomdaaFilCw
import Derived.Test.YtnmapfoinhomdaaArgs
namespace Go.Proofs.Ytnmapfoinhomdaa.filterFlat
open Go.ChangeShapes Go.WideShapes Go.ChangeAt Go.RowKit

attribute [local go_sem ↓] Go.wp_at_zero Go.wp_at_succ

set_option maxRecDepth 100000 in
set_option maxHeartbeats 6400000 in
theorem walk (ok : FilterOK) (A : Option Addr) (n c : Nat) (xs : List Int) (p : Int) (hp : I64 p) (w : World) (_ : A = none → c = 0) (hr : Row w .u8 A n xs) (hb : ∀ x ∈ xs, 0 ≤ x ∧ x < 256) (_ : n ≤ maxLen) (hnc : n ≤ c) :
    Calls Try.prog 7 #[.slice A n c, .int .i64 p] w fun e w' => e = .returned (.bool true) ∧ Below w.heap.size w w' := by
  by_cases hlong : 500 < n
  · have h1 : 500 < (n : Int) := by omega
    have HA := Lib.hid (awakeF_any ok w)
    clear hr ok
    go_enter Try.func7, Try.ntmps7
    go_wp2_with fail
    refine HA.out.mono ?_
    rintro e w1 ⟨rfl, hf⟩
    have HF := Lib.hid hf.toBelow
    clear hf HA
    go_wp2_with fail
    go_ret
    exact ⟨rfl, HF.out⟩
  · have h1 : ¬ 500 < (n : Int) := by omega
    obtain ⟨hb2, hbz⟩ := flat_best (row := xs) (n := plN p)
    have HZ : Hid ((∀ i, i < n → (rowF 2 xs xs (plN p)).getD i 0 = 0) ∧ ∀ i, i < n → (rowF (bst xs xs (plN p) : Nat) xs xs (plN p)).getD i 0 = 0) := Lib.hid ⟨fun i hi => flat_two (by rw [hr.len]; exact hi), fun i hi => hbz i (by rw [hr.len]; exact hi)⟩
    have HT := Lib.hid (ok.rowT (k := 2) c c hr hr hb hb (by omega) (by omega) hnc hnc (by unfold I64; omega) hp)
    have HBe : Hid (∀ V, Fresh w V → Calls Try.prog 15 #[.slice A n c, .slice A n c, .int .i64 p] V fun e w' => e = .returned (.int .i64 (bst xs xs (plN p) : Nat)) ∧ Fresh V w') := Lib.hid fun V hV => ok.best A n c xs A n c xs p V (hr.fresh hV) (hr.fresh hV) hb hb (by omega) (by omega) hnc hnc hp
    have HT2 : Hid (∀ V, Fresh w V → Calls Try.prog 11 #[.int .i64 (bst xs xs (plN p) : Nat), .slice A n c, .slice A n c, .int .i64 p] V fun e w' => ToldB V w' e n (rowF (bst xs xs (plN p) : Nat) xs xs (plN p))) := Lib.hid fun V hV => ok.rowT c c (hr.fresh hV) (hr.fresh hV) hb hb (by omega) (by omega) hnc hnc (by unfold I64; omega) hp
    have HAw : Hid (∀ V, Calls Try.prog 8 #[] V fun e w' => e = .returned (.bool true) ∧ Fresh V w') := Lib.hid fun V => awakeF_any ok V
    generalize bst xs xs (plN p) = kb at *
    generalize rowF 2 xs xs (plN p) = ya at *
    generalize rowF (kb : Nat) xs xs (plN p) = yb at *
    have hself : ((n : Int) != (n : Int)) = false := by simp
    clear hr hb ok hp hbz
    go_enter Try.func7, Try.ntmps7
    go_wp2_with fail
    refine HT.out.mono ?_
    rintro e w1 ⟨B1, d1, rfl, hr1, _, hf1⟩
    have HF1 := Lib.hid hf1
    have HR1 := Lib.hid hr1
    clear hr1 hf1 HT
    go_wp2_with fail
    refine (HBe.out w1 HF1.out).mono ?_
    rintro e w2 ⟨rfl, hf2⟩
    have HF2 := Lib.hid (Fresh.two HF1.out hf2)
    have HS2 := Lib.hid hf2
    clear hf2 HBe
    go_wp2_with fail
    refine (HT2.out w2 HF2.out).mono ?_
    rintro e w3 ⟨B2, d2, rfl, hr2, _, hf3⟩
    have HF3 := Lib.hid (Fresh.two HF2.out hf3)
    have HR2 : Hid (∀ V, Fresh w3 V → Row V .u8 B1 n ya ∧ Row V .u8 B2 n yb) := Lib.hid fun V hV => ⟨HR1.out.fresh (Fresh.two HS2.out (Fresh.two hf3 hV)), hr2.fresh hV⟩
    clear hr2 hf3 HT2 HR1 HS2
    go_wp2_with fail
    refine (HAw.out _).mono ?_
    rintro e w4 ⟨rfl, hf4⟩
    have HF4 := Lib.hid (Fresh.two HF3.out hf4)
    have HR3 : Hid (∀ V, Fresh w4 V → Row V .u8 B1 n ya ∧ Row V .u8 B2 n yb) := Lib.hid fun V hV => HR2.out V (Fresh.two hf4 hV)
    clear hf4 HR2
    go_wp2_with fail
    go_loopw [8] (fun i V => ∃ j : Nat, j ≤ n ∧ i = .int .i64 j ∧ Fresh w4 V) (fun i _ => (n - intOf i).toNat)
    case atStart => exact ⟨0, by omega, rfl, Kept.refl _ _⟩
    case round =>
      obtain ⟨j, hj, rfl, hfr⟩ := hrel
      have HFr := Lib.hid hfr
      by_cases hjl : j < n
      · obtain ⟨hr1, hr2⟩ := HR3.out wr hfr
        obtain ⟨b1, o1, rfl, hb1, c0⟩ := hr1.at_ j hjl
        obtain ⟨b2, o2, rfl, hb2', c3⟩ := hr2.at_ j hjl
        rw [HZ.out.1 j hjl] at c0
        rw [HZ.out.2 j hjl] at c3
        have ij : (j : Int) < (n : Int) := by omega
        clear hr1 hr2 hfr
        go_wp2_with fail
        go_roundw
        case rel => exact ⟨j + 1, by omega, by go_num, HFr.out⟩
        case measure => simp [intOf]; omega
      · have HL := Lib.hid (Fresh.two HF4.out HFr.out).toBelow
        have hk2 : (kb : Int) ≤ 2 := by omega
        have q0 : ¬ (j : Int) < (n : Int) := by omega
        clear hfr
        go_wp2_with fail
        go_ret
        exact ⟨rfl, HL.out⟩

set_option maxRecDepth 100000 in
theorem lifted (os : Os) (started : os.Started) (H : Type) (enc : TypeId × Value → H) :
    ReturnsInHanded {} Try.checked os 7 .any (Rows.filterFlatSpec.pre6 enc Try.prog Try.f7 Rows.filterFlatRow.domain false) (Rows.filterFlatSpec.post enc Try.prog Try.f7 false true false false) := by
  refine returnsInHanded_of_change (C := Try.checked) Try.own started (by kernel_rfl) Try.func7
    (ChangeSpec.witness6 (enc := enc) (C := Try.checked) false ⟨#[], #[.slice none 0 0, .int .i64 0], []⟩ 8 (by kernel_rfl) (by kernel_rfl) (by kernel_rfl) (by kernel_rfl)) ?_
  intro W base args ds gs before hval0 hW hcnd _
  have hval : ∀ (j : Nat) t v, Try.f7.params[j]? = some t → args[j]? = some v → Value.okWide Try.prog W .any base t v := hval0
  have hpost : ∀ W', Below W.heap.size W W' → Rows.filterFlatSpec.post enc Try.prog Try.f7 false true false false W args (.bool true) W' := fun W' hb =>
    law_post (by kernel_rfl) Try.underlying4 (by kernel_rfl) rfl (fun ds hl => match ds, hl with | [d1, d2], _ => ⟨rfl, rfl, rfl⟩) hW hb
  obtain ⟨p, q, hA0, hV, rfl, hfz, hnd⟩ := hW
  have hA : DataW.TrodAll enc Try.prog W 0 (fun _ => true) true Try.f7.params.toList args.toList ds p := hA0
  rw [Try.params7] at hA hval
  obtain ⟨v0, vs0, d0, ds0, p0, q0, hargs, rfl, rfl, h0, r0⟩ := trodAll_cons hA
  obtain ⟨v1, vs1, d1, ds1, p1, q1, rfl, rfl, rfl, h1, r1⟩ := trodAll_cons r0
  obtain ⟨rfl, rfl, rfl⟩ := trodAll_nil r1
  obtain rfl : args = #[v0, v1] := by cases args; simp_all
  obtain ⟨A0, n0, c0, xs0, rfl, hz0, hr0, hb0, hn0, hc0⟩ := open_rowc Try.underlying22 Try.underlying5 (by kernel_rfl) (hval 0 22 v0 rfl rfl) h0
  obtain ⟨a1, rfl, rfl, rfl, w1⟩ := open_int Try.underlying3 (hval 1 3 v1 rfl rfl) h1
  refine (walk filterOK A0 n0 c0 xs0 a1 (bounds_i64 w1) W hz0 hr0 (range_bytes hb0) hn0 hc0).mono fun e W' ⟨he, hb⟩ => ⟨_, he, hpost W' hb⟩

/-- The statement. -/
theorem proved : Rows.FilterFlatSaid :=
  OpenClaim.holds_of_wide 7 Try.f7 rfl rfl rfl rfl rfl rfl rfl ⟨rfl, rfl, rfl, rfl, rfl⟩ rfl rfl rfl rfl rfl (by kernel_rfl) Try.func7 (by kernel_rfl)
    (of_decide_eq_true (by kernel_rfl)) (by unfold Func.isWrapper; first | (rw [if_pos (by decide +kernel)]; kernel_rfl) | (rw [if_neg (by decide +kernel)]; exact ⟨rfl, rfl⟩))
    (fun os started H enc _ => lifted os started H enc)
#print axioms proved

end Go.Proofs.Ytnmapfoinhomdaa.filterFlat
