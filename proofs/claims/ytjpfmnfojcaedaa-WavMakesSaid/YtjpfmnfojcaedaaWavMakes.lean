/- WavMakes: whatever file is made, of whatever channels and bits, its bytes are what the document says, or there are none; and what was handed in stays. For all values and all samples. -/
import Derived.Test.YtjpfmnfojcaedaaWavE
import Derived.Lib.SmallJoins
import Derived.Test.YtjpfmnfojcaedaaHelpByte
import Derived.Test.YtjpfmnfojcaedaaArgs
namespace Go.Proofs.Ytjpfmnfojcaedaa.wavMakes
open Go.ChangeShapes Go.WideShapes Go.ChangeAt Go.RowKit

attribute [local go_sem ↓] Go.wp_at_zero Go.wp_at_succ

set_option maxRecDepth 100000 in
set_option maxHeartbeats 3200000 in
theorem walk (ok : WavOK) (ch b f t : Int) (hch : -9223372036854775808 ≤ ch ∧ ch ≤ 9223372036854775807) (hbi : -9223372036854775808 ≤ b ∧ b ≤ 9223372036854775807) (A : Option Addr) (n c : Nat) (xs : List Int) (w : World) (hz : A = none → c = 0) (hr : Row w .u8 A n xs) (hb : ∀ x ∈ xs, 0 ≤ x ∧ x < 256) (_ : n ≤ maxLen) (hnc : n ≤ c) :
    Calls Try.prog 4 #[.agg #[.int .i64 ch, .int .i64 b, .int .i64 f, .int .i64 t], .slice A n c] w fun e w' => e = .returned (.bool true) ∧ Below w.heap.size w w' := by
  obtain ⟨W0, hW0⟩ : ∃ W0, W0 = w.alloc (.cells #[.int .i64 ch, .int .i64 b, .int .i64 f, .int .i64 t] 26) := ⟨_, rfl⟩
  have hb0 : Blk W0 w.heap.size 26 #[.int .i64 ch, .int .i64 b, .int .i64 f, .int .i64 t] := by rw [hW0]; exact Blk.new _ _ _
  have hf0 : Fresh w W0 := by rw [hW0]; exact (Kept.refl _ _).alloc _
  by_cases hlong : 5000 < n
  · have h1 : 5000 < (n : Int) := by omega
    have HA := Lib.hid (awakeW_any ok W0)
    have H0 := Lib.hid hf0
    clear hr ok hb0 hf0
    go_enter Try.func4, Try.ntmps4
    go_wp2_with fail
    rw [← hW0]
    refine HA.out.mono ?_
    rintro e w1 ⟨rfl, hf⟩
    have HF := Lib.hid (H0.out.trans hf fun _ _ e => e).toBelow
    clear hf HA hW0
    go_wp2_with fail
    go_ret
    exact ⟨rfl, HF.out⟩
  · have h1 : ¬ 5000 < (n : Int) := by omega
    have HO := Lib.hid (hOwnByte_any A n c xs 71 W0 (hr.kept hf0 (fun _ _ _ _ => id)) hz (by omega))
    have hlen := hr.len
    have HR := Lib.hid (And.intro hr (And.intro ok (And.intro hb hnc)))
    have hzb := wmake_byte ch b hb
    have H0 := Lib.hid (And.intro hb0 (And.intro hf0 hzb))
    obtain ⟨z, hzz⟩ : ∃ z, wmake ch b xs = z := ⟨_, rfl⟩
    rw [hzz] at H0
    have Hzz := Lib.hid hzz
    clear hr ok hb hzb hb0 hf0 hzz
    go_enter Try.func4, Try.ntmps4
    go_wp2_with fail
    rw [← hW0]
    refine HO.out.mono ?_
    rintro e w1 ⟨q, rfl, hq, hqs, hf1⟩
    have HC : Hid (∀ V, Fresh w1 V → Row V .u8 (some ⟨q, 0, none⟩) n xs ∧ Copy V q 5 .u8 xs 71) := Lib.hid fun V hV => by
      have hq' : Copy V q 5 .u8 xs 71 := ⟨hq.blk.kept hV id⟩
      have := hq'.row
      rw [hlen] at this
      exact ⟨this, hq'⟩
    have F1 := Lib.hid (H0.out.2.1.trans hf1 fun _ _ e => e)
    have HB : Hid (∀ V, Fresh w1 V → V.cell? ⟨w.heap.size, 0, none⟩ = some (.int .i64 ch) ∧ V.cell? ⟨w.heap.size, 1, none⟩ = some (.int .i64 b) ∧ V.cell? ⟨w.heap.size, 2, none⟩ = some (.int .i64 f) ∧ V.cell? ⟨w.heap.size, 3, none⟩ = some (.int .i64 t)) := Lib.hid fun V hV => by
      have b1 := (H0.out.1.kept hf1 id).kept hV id
      exact ⟨b1.cell 0, b1.cell 1, b1.cell 2, b1.cell 3⟩
    have HMk : Hid (∀ V, Fresh w1 V → Calls Try.prog 14 #[.agg #[.int .i64 ch, .int .i64 b, .int .i64 f, .int .i64 t], .slice (some ⟨q, 0, none⟩) n (n + 3)] V fun e w' => ∃ A4 c4, e = .returned (.slice A4 z.length c4) ∧ Row w' .u8 A4 z.length z ∧ Fresh V w') := Lib.hid fun V hV => by
      refine (HR.out.2.1.make ch b f t (some ⟨q, 0, none⟩) n (n + 3) xs V (by omega) (by omega) (HC.out V hV).1 HR.out.2.2.1 (by omega) (by omega)).mono ?_
      rintro e w' ⟨u, rfl, hu⟩
      rw [Hzz.out] at hu
      obtain ⟨Au, cu, rfl, hru, _⟩ := hu.1.row
      exact ⟨Au, cu, rfl, hru, hu.2.2⟩
    have HRf : Hid (∀ V, Fresh w1 V → Calls Try.prog 15 #[.agg #[.int .i64 ch, .int .i64 b, .int .i64 f, .int .i64 t], .slice A n c] V fun e w' => ∃ A4 c4, e = .returned (.slice A4 z.length c4) ∧ Row w' .u8 A4 z.length z ∧ Fresh V w') := Lib.hid fun V hV => by
      refine (qWMake_any ch b f t A n c xs V (HR.out.1.kept (F1.out.trans hV fun _ _ e => e) (fun _ _ _ _ => id)) (by omega)).mono ?_
      rintro e w' ⟨u, rfl, hu⟩
      rw [Hzz.out] at hu
      obtain ⟨Au, cu, rfl, hru, _⟩ := hu.1.row
      exact ⟨Au, cu, rfl, hru, hu.2.2⟩
    have HK : Hid (∀ V, Fresh w1 V → Calls Try.prog 12 #[.slice (some ⟨q, 0, none⟩) n (n + 3), .slice A n c, .int .u8 71] V fun e w' => e = .returned (.bool true) ∧ ∃ k, w' = V.drewN k) := Lib.hid fun V hV =>
      hKeptByte_any q n c A xs 71 V (HC.out V hV).2 (HR.out.1.kept (F1.out.trans hV fun _ _ e => e) (fun _ _ _ _ => id)) (by omega)
    have Hdd : Hid (decide (z = z) = true) := Lib.hid (decide_eq_true rfl)
    have s0 := HB.out _ (Kept.refl _ w1).drew
    clear hq hf1 HO hW0
    go_wp2_with fail
    go_region_held3 (fun V => V.cell? ⟨w.heap.size, 0, none⟩ = some (.int .i64 ch) ∧ V.cell? ⟨w.heap.size, 1, none⟩ = some (.int .i64 b) ∧ V.cell? ⟨w.heap.size, 2, none⟩ = some (.int .i64 f) ∧ V.cell? ⟨w.heap.size, 3, none⟩ = some (.int .i64 t)) (first | exact s0 | exact s3 | exact s4 | exact s5 | exact s7 | go_keep)
      (first
        | (go_at_call 8; refine (awakeW_any HR.out.2.1 _).mono ?_; rintro e3 w3 ⟨rfl, hf3⟩; have f3 := (Kept.refl (fun _ => False) w1).drew.trans hf3 fun _ _ e => e; have s3 := HB.out w3 f3)
        | (go_at_call 14; refine (HMk.out _ f3).mono ?_; rintro e4 w4 ⟨A4, c4, rfl, r4, hf4⟩; have f4 := f3.trans hf4 fun _ _ e => e; have s4 := HB.out w4 f4)
        | (go_at_call 15; refine (HRf.out _ f4).mono ?_; rintro e5 w5 ⟨A5, c5, rfl, r5, hf5⟩; have f5 := f4.trans hf5 fun _ _ e => e; have s5 := HB.out w5 f5)
        | (go_at_call 13; refine (hBytes_any A4 A5 z.length z.length c4 c5 z z _ (r4.kept hf5 (fun _ _ _ _ => id)) r5 H0.out.2.2 H0.out.2.2).mono ?_; rintro e6 w6 ⟨rfl, rfl⟩; (try rw [Hdd.out]))
        | (go_at_call 12; refine (HK.out _ f5).mono ?_; rintro e7 w7 ⟨rfl, k7, rfl⟩; have s7 := HB.out (w5.drewN k7) (f5.drewN k7)))
    have H9 := Lib.hid (F1.out.trans (f5.drewN k7) fun _ _ e => e).toBelow
    clear f3 f4 f5 r4 r5 hf3 hf4 hf5 s3 s4 s5 s7
    go_wp2_with fail
    go_ret
    exact ⟨rfl, H9.out⟩

set_option maxRecDepth 100000 in
theorem lifted (os : Os) (started : os.Started) (H : Type) (enc : TypeId × Value → H) :
    ReturnsInHanded {} Try.checked os 4 .any (Rows.wavMakesSpec.pre6 enc Try.prog Try.f4 Rows.wavMakesRow.domain false) (Rows.wavMakesSpec.post enc Try.prog Try.f4 false true false false) := by
  refine returnsInHanded_of_change (C := Try.checked) Try.own started (by kernel_rfl) Try.func4
    (ChangeSpec.witness6 (enc := enc) (C := Try.checked) false ⟨#[], #[.agg #[.int .i64 0, .int .i64 0, .int .i64 0, .int .i64 0], .slice none 0 0], []⟩ 8 (by kernel_rfl) (by kernel_rfl) (by kernel_rfl) (by kernel_rfl)) ?_
  intro W base args ds gs before hval0 hW hcnd _
  have hval : ∀ (j : Nat) t v, Try.f4.params[j]? = some t → args[j]? = some v → Value.okWide Try.prog W .any base t v := hval0
  have hpost : ∀ W', Below W.heap.size W W' → Rows.wavMakesSpec.post enc Try.prog Try.f4 false true false false W args (.bool true) W' := fun W' hb =>
    law_post (by kernel_rfl) Try.underlying4 (by kernel_rfl) rfl (fun ds hl => match ds, hl with | [d1, d2], _ => ⟨rfl, rfl, rfl⟩) hW hb
  obtain ⟨p, q, hA0, hV, rfl, hfz, hnd⟩ := hW
  have hA : DataW.TrodAll enc Try.prog W 0 (fun _ => true) true Try.f4.params.toList args.toList ds p := hA0
  rw [Try.params4] at hA hval
  obtain ⟨v0, vs0, d0, ds0, p0, q0, hargs, rfl, rfl, h0, r0⟩ := trodAll_cons hA
  obtain ⟨v1, vs1, d1, ds1, p1, q1, rfl, rfl, rfl, h1, r1⟩ := trodAll_cons r0
  obtain ⟨rfl, rfl, rfl⟩ := trodAll_nil r1
  obtain rfl : args = #[v0, v1] := by cases args; simp_all
  obtain ⟨z0, z1, z2, z3, y0, y1, y2, y3, m0, rfl, rfl, rfl, g0, g1, g2, g3⟩ := Go.Joins.open_agg4 Try.underlying26 (by kernel_rfl) (by kernel_rfl) (hval 0 26 v0 rfl rfl) h0
  obtain ⟨ch, e0, rfl, wch⟩ := DataW.trod_int Try.underlying3 g0
  simp only [List.cons.injEq, and_true] at e0
  subst e0
  obtain ⟨bi, e1, rfl, wbi⟩ := DataW.trod_int Try.underlying3 g1
  simp only [List.cons.injEq, and_true] at e1
  subst e1
  obtain ⟨fr, e2, rfl, wfr⟩ := DataW.trod_int Try.underlying3 g2
  simp only [List.cons.injEq, and_true] at e2
  subst e2
  obtain ⟨tt, e3, rfl, wtt⟩ := DataW.trod_int Try.underlying3 g3
  simp only [List.cons.injEq, and_true] at e3
  subst e3
  obtain ⟨A1, n1, c1, xs1, rfl, hz1, hr1, hb1, hn1, hc1⟩ := open_rowc Try.underlying22 Try.underlying5 (by kernel_rfl) (hval 1 22 v1 rfl rfl) h1
  refine (walk wavOK ch bi fr tt (bounds_i64 wch) (bounds_i64 wbi) A1 n1 c1 xs1 W hz1 hr1 (range_bytes hb1) hn1 hc1).mono fun e W' ⟨he, hb⟩ => ⟨_, he, hpost W' hb⟩

/-- The statement. -/
theorem proved : Rows.WavMakesSaid :=
  OpenClaim.holds_of_wide 4 Try.f4 rfl rfl rfl rfl rfl rfl rfl ⟨rfl, rfl, rfl, rfl, rfl⟩ rfl rfl rfl rfl rfl (by kernel_rfl) Try.func4 (by kernel_rfl)
    (of_decide_eq_true (by kernel_rfl)) (by unfold Func.isWrapper; first | (rw [if_pos (by decide +kernel)]; kernel_rfl) | (rw [if_neg (by decide +kernel)]; exact ⟨rfl, rfl⟩))
    (fun os started H enc _ => lifted os started H enc)
#print axioms proved

end Go.Proofs.Ytjpfmnfojcaedaa.wavMakes
