/- AudioTotal: of any bytes, and any most: an error, or bytes, at most most; asked again it is the same; what was handed in stays. -/
import Derived.Test.YtodmchjdflpbpaaGreatPart8
import Derived.Test.YtodmchjdflpbpaaGreatHelpByte
import Derived.Test.YtodmchjdflpbpaaGreatHelpStr
import Derived.Test.YtodmchjdflpbpaaGreatArgs
import Derived.Lib.MinMax
namespace Go.Proofs.YtodmchjdflpbpaaGreat.audioTotal
open Go.ChangeShapes Go.WideShapes Go.ChangeAt Go.RowKit

attribute [local go_sem ↓] Go.wp_at_zero Go.wp_at_succ

variable {ap : List Int → List Int} {au : List Int → Int → Int × List Int}
theorem two {a b c : World} (h : Fresh a b) (k : Fresh b c) : Fresh a c := h.trans k fun _ _ e => e
set_option maxRecDepth 100000 in
set_option maxHeartbeats 3200000 in
theorem walk (ok : AudioOK ap au) (A : Option Addr) (n c : Nat) (xs : List Int) (most : Int) (w : World) (hz : A = none → c = 0) (hr : Row w .u8 A n xs) (hb : ∀ x ∈ xs, 0 ≤ x ∧ x < 256) (_ : n ≤ maxLen) (hnc : n ≤ c) :
    Calls Tryz.prog 4 #[.slice A n c, .int .i64 most] w fun e w' => e = .returned (.bool true) ∧ Below w.heap.size w w' := by
  by_cases hlong : 3000 < n ∨ 5000 < most
  · have HA := Lib.hid (awakeA_any ok w)
    have hcs : (3000 < (n : Int)) ∨ (¬ 3000 < (n : Int) ∧ 5000 < most) := by omega
    clear hr ok hlong
    rcases hcs with k1 | ⟨k1, k2⟩
    all_goals
      go_enter Tryz.func4, Tryz.ntmps4
      go_wp2_with fail
      refine HA.out.mono ?_
      rintro e w1 ⟨rfl, hf⟩
      have HF := Lib.hid hf.toBelow
      clear hf HA
      go_wp2_with fail
      go_ret
      exact ⟨rfl, HF.out⟩
  · have k1 : ¬ 3000 < (n : Int) := by omega
    have k2 : ¬ 5000 < most := by omega
    have HOw := Lib.hid (hOwnByte_any A n c xs 71 w hr hz (by omega))
    have hlen := hr.len
    have HR := Lib.hid hr
    have HB := Lib.hid hb
    have hu1 : ∀ q V, Row V .u8 q n xs → ∀ cq, n ≤ cq → Calls Tryz.prog 11 #[.slice q n cq, .int .i64 most] V fun e w' => ∃ u, e = .returned (.tuple #[u, .int .i64 (au xs most).1]) ∧ NewRow V w' 5 .u8 u (au xs most).2 := fun q V hV cq hcq => ok.unpack q n cq xs most V hV hb (by omega) hcq
    have HT := ok.total xs most hb (by omega)
    have HAw : Hid (∀ V, Calls Tryz.prog 6 #[] V fun e w' => e = .returned (.bool true) ∧ Fresh V w') := Lib.hid fun V => awakeA_any ok V
    generalize (au xs most).1 = E at *
    generalize (au xs most).2 = L at *
    have HBL : Hid (∀ x ∈ L, 0 ≤ x ∧ x < 256) := Lib.hid (by
      rcases HT with h | h
      · exact h.2.1
      · rw [h.1]; intro x hx; cases hx)
    have HU := Lib.hid hu1
    have hLl : L.length ≤ 1048576 := by
      rcases HT with h | h
      · exact h.2.2.2
      · rw [h.1]; simp
    have HT2 : Hid ((E = 0 ∧ (L.length : Int) ≤ max most 0) ∨ (L.length = 0 ∧ E = 3) ∨ (L.length = 0 ∧ E = 4) ∨ (L.length = 0 ∧ E = 5)) := Lib.hid (by
      rcases HT with h | ⟨h, h3 | h3 | h3⟩
      · exact .inl ⟨h.1, h.2.2.1⟩
      · exact .inr (.inl ⟨by rw [h]; rfl, h3⟩)
      · exact .inr (.inr (.inl ⟨by rw [h]; rfl, h3⟩))
      · exact .inr (.inr (.inr ⟨by rw [h]; rfl, h3⟩)))
    clear hr hb ok hu1 HT
    generalize hll : L.length = ll at *
    have HLl := Lib.hid hll
    clear hll
    go_enter Tryz.func4, Tryz.ntmps4
    go_wp2_with fail
    refine HOw.out.mono ?_
    rintro e w1 ⟨q, rfl, hq, _, hf1⟩
    have HC : Hid (∀ V, Fresh w1 V → Row V .u8 (some ⟨q, 0, none⟩) n xs ∧ Copy V q 5 .u8 xs 71) := Lib.hid fun V hV => by
      have hq' : Copy V q 5 .u8 xs 71 := ⟨hq.blk.kept hV id⟩
      have := hq'.row
      rw [hlen] at this
      exact ⟨this, hq'⟩
    have HQ : Hid (∀ V, Fresh w1 V → Row V .u8 A n xs) := Lib.hid fun V hV => (HR.out.kept hf1 fun _ _ _ _ => id).kept hV fun _ _ _ _ => id
    have HE := Lib.hid hf1
    have HU1 := Lib.hid (HU.out (some ⟨q, 0, none⟩) w1 (HC.out w1 (Kept.refl _ _)).1 (n + 3) (by omega))
    clear hq hf1 HOw hlen
    go_wp2_with fail
    refine HU1.out.mono ?_
    rintro e w2 ⟨u2, rfl, hu2, _, hf2⟩
    obtain ⟨A2, c2, rfl, hr2, _⟩ := hu2.row
    rw [HLl.out] at hr2 ⊢
    have HF2 := Lib.hid hf2
    have HR2 : Hid (∀ V, Fresh w2 V → Row V .u8 A2 ll L) := Lib.hid fun V hV => hr2.kept hV fun _ _ _ _ => id
    have HU2 := Lib.hid (HU.out A w2 (HQ.out w2 hf2) c hnc)
    clear hu2 hr2 hf2 HU1 HU
    go_wp2_with fail
    refine HU2.out.mono ?_
    rintro e w3 ⟨u3, rfl, hu3, _, hf3⟩
    obtain ⟨A3, c3, rfl, hr3, _⟩ := hu3.row
    rw [HLl.out] at hr3 ⊢
    have HF3 := Lib.hid (two HF2.out hf3)
    have HR3 : Hid (∀ V, Fresh w3 V → Row V .u8 A2 ll L ∧ Row V .u8 A3 ll L) := Lib.hid fun V hV => ⟨HR2.out V (two hf3 hV), hr3.kept hV fun _ _ _ _ => id⟩
    clear hu3 hr3 hf3 HU2 HF2 HR2
    go_wp2_with fail
    refine (HAw.out _).mono ?_
    rintro e w4 ⟨rfl, hf4⟩
    have HF4 := Lib.hid (two HF3.out hf4)
    have HR4 : Hid (∀ V, Fresh w4 V → Row V .u8 A2 ll L ∧ Row V .u8 A3 ll L) := Lib.hid fun V hV => HR3.out V (two hf4 hV)
    have HK := Lib.hid (hKeptByte_any q n c A xs 71 w4 (HC.out w4 HF4.out).2 (HQ.out w4 HF4.out) (by omega))
    clear hf4 HF3 HAw HR3
    go_wp2_with fail
    refine HK.out.mono ?_
    rintro e w5 ⟨rfl, k5, rfl⟩
    have HF5 := Lib.hid (HF4.out.drewN k5)
    have hr5 := HR4.out _ ((Kept.refl (fun _ => False) w4).drewN k5)
    generalize w4.drewN k5 = w5 at *
    have HBy := hBytes_any A2 A3 ll ll c2 c3 L L w5 hr5.1 hr5.2 HBL.out HBL.out
    rw [show decide (L = L) = true from by simp] at HBy
    have HBy := Lib.hid HBy
    have HL := Lib.hid (two HE.out HF5.out).toBelow
    have hee : (E == E) = true := by simp
    clear HK HF4 HR4 hr5 HF5
    go_wp2_with fail
    refine HBy.out.mono ?_
    rintro e w6 ⟨rfl, rfl⟩
    clear HBy
    rcases HT2.out with ⟨h1, h2⟩ | ⟨h1, h2⟩ | ⟨h1, h2⟩ | ⟨h1, h2⟩
    all_goals
      subst E
      first | subst ll | skip
      clear HT2
      go_wp2_with fail
      go_ret
      exact ⟨rfl, HL.out⟩

set_option maxRecDepth 100000 in
theorem lifted (os : Os) (started : os.Started) (H : Type) (enc : TypeId × Value → H) :
    ReturnsInHanded {} Tryz.checked os 4 .any (Rows.audioTotalSpec.pre6 enc Tryz.prog Tryz.f4 Rows.audioTotalRow.domain false) (Rows.audioTotalSpec.post enc Tryz.prog Tryz.f4 false true false false) := by
  refine returnsInHanded_of_change (C := Tryz.checked) Tryz.own started (by kernel_rfl) Tryz.func4
    (ChangeSpec.witness6 (enc := enc) (C := Tryz.checked) false ⟨#[], #[.slice none 0 0, .int .i64 0], []⟩ 8 (by kernel_rfl) (by kernel_rfl) (by kernel_rfl) (by kernel_rfl)) ?_
  intro W base args ds gs before hval0 hW hcnd _
  have hval : ∀ (j : Nat) t v, Tryz.f4.params[j]? = some t → args[j]? = some v → Value.okWide Tryz.prog W .any base t v := hval0
  have hpost : ∀ W', Below W.heap.size W W' → Rows.audioTotalSpec.post enc Tryz.prog Tryz.f4 false true false false W args (.bool true) W' := fun W' hb =>
    law_post (by kernel_rfl) Tryz.underlying4 (by kernel_rfl) rfl (fun ds hl => match ds, hl with | [d1, d2], _ => ⟨rfl, rfl, rfl⟩) hW hb
  obtain ⟨p, q, hA0, hV, rfl, hfz, hnd⟩ := hW
  have hA : DataW.TrodAll enc Tryz.prog W 0 (fun _ => true) true Tryz.f4.params.toList args.toList ds p := hA0
  rw [Tryz.params4] at hA hval
  obtain ⟨v0, vs0, d0, ds0, p0, q0, hargs, rfl, rfl, h0, r0⟩ := trodAll_cons hA
  obtain ⟨v1, vs1, d1, ds1, p1, q1, rfl, rfl, rfl, h1, r1⟩ := trodAll_cons r0
  obtain ⟨rfl, rfl, rfl⟩ := trodAll_nil r1
  obtain rfl : args = #[v0, v1] := by cases args; simp_all
  obtain ⟨A0, n0, c0, xs0, rfl, hz0, hr0, hb0, hn0, hc0⟩ := open_rowc Tryz.underlying22 Tryz.underlying5 (by kernel_rfl) (hval 0 22 v0 rfl rfl) h0
  obtain ⟨a1, rfl, rfl, rfl, w1⟩ := open_int Tryz.underlying3 (hval 1 3 v1 rfl rfl) h1
  refine (walk audioOK A0 n0 c0 xs0 a1 W hz0 hr0 (range_bytes hb0) hn0 hc0).mono fun e W' ⟨he, hb⟩ => ⟨_, he, hpost W' hb⟩

/-- The statement. -/
theorem proved : Rows.AudioTotalSaid :=
  OpenClaim.holds_of_wide 4 Tryz.f4 rfl rfl rfl rfl rfl rfl rfl ⟨rfl, rfl, rfl, rfl, rfl⟩ rfl rfl rfl rfl rfl (by kernel_rfl) Tryz.func4 (by kernel_rfl)
    (of_decide_eq_true (by kernel_rfl)) (by unfold Func.isWrapper; first | (rw [if_pos (by decide +kernel)]; kernel_rfl) | (rw [if_neg (by decide +kernel)]; exact ⟨rfl, rfl⟩))
    (fun os started H enc _ => lifted os started H enc)
#print axioms proved

end Go.Proofs.YtodmchjdflpbpaaGreat.audioTotal
