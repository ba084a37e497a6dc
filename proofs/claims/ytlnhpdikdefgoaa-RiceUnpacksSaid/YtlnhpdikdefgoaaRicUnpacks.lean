/- RiceUnpacks: whatever bytes are unpacked, to how many numbers ever: what Unpack answers is what the document says, and what was handed in stays. For all bytes and every count. -/
import Derived.Test.YtlnhpdikdefgoaaRicAw
import Derived.Test.YtlnhpdikdefgoaaRicH
import Derived.Test.YtlnhpdikdefgoaaHelpInt32
import Derived.Test.YtlnhpdikdefgoaaHelpByte
import Derived.Test.YtlnhpdikdefgoaaArgs
namespace Go.Proofs.Ytlnhpdikdefgoaa.riceUnpacks
open Go.ChangeShapes Go.WideShapes Go.ChangeAt Go.RowKit

attribute [local go_sem ↓] Go.wp_at_zero Go.wp_at_succ

set_option maxRecDepth 100000 in
set_option maxHeartbeats 1600000 in
theorem walk (ok : RiceOK) (A : Option Addr) (n c : Nat) (xs : List Int) (m : Int) (w : World) (hz : A = none → c = 0) (hr : Row w .u8 A n xs) (hb : ∀ x ∈ xs, 0 ≤ x ∧ x < 256) (_ : n ≤ maxLen) (_ : n ≤ c) :
    Calls Try.prog 4 #[.slice A n c, .int .i64 m] w fun e w' => e = .returned (.bool true) ∧ Below w.heap.size w w' := by
  by_cases hlong : 600 < n
  · have h1 : 600 < (n : Int) := by omega
    have HA := Lib.hid (awakeR_any ok w)
    clear hr ok
    go_enter Try.func4, Try.ntmps4
    go_wp2_with fail
    refine HA.out.mono ?_
    rintro e w1 ⟨rfl, hf⟩
    have HF := Lib.hid hf.toBelow
    clear hf HA
    go_wp2_with fail
    go_ret
    exact ⟨rfl, HF.out⟩
  · have h1 : ¬ 600 < (n : Int) := by omega
    by_cases hmid : 2000 < m ∧ m ≤ 1048576
    · obtain ⟨h2, h3⟩ := hmid
      have HA := Lib.hid (awakeR_any ok w)
      clear hr ok
      go_enter Try.func4, Try.ntmps4
      go_wp2_with fail
      refine HA.out.mono ?_
      rintro e w1 ⟨rfl, hf⟩
      have HF := Lib.hid hf.toBelow
      clear hf HA
      go_wp2_with fail
      go_ret
      exact ⟨rfl, HF.out⟩
    · have HO := Lib.hid (hOwnByte_any A n c xs 71 w hr hz (by omega))
      have hlen := hr.len
      have HR := Lib.hid (And.intro hr ok)
      have HQ : Hid (∀ V, Fresh w V → Row V .u8 A n xs) := Lib.hid fun V hV => hr.kept hV (fun _ _ _ _ => id)
      have hle := unL_len xs m
      clear hr ok
      rcases Int.lt_or_le 2000 m with h2 | h2
      focus
        have h3 : ¬ m ≤ 1048576 := by omega
        go_enter Try.func4, Try.ntmps4
        go_wp2_with fail
      rotate_left
      focus
        have h3 : ¬ 2000 < m := by omega
        go_enter Try.func4, Try.ntmps4
        go_wp2_with fail
      all_goals
        clear hmid h2 h3
        refine HO.out.mono ?_
        rintro e w1 ⟨q, rfl, hq, hqs, hf1⟩
        have HC : Hid (∀ V, Fresh w1 V → Row V .u8 (some ⟨q, 0, none⟩) n xs ∧ Copy V q 5 .u8 xs 71) := Lib.hid fun V hV => by
          have hq' : Copy V q 5 .u8 xs 71 := ⟨hq.blk.kept hV id⟩
          have := hq'.row
          rw [hlen] at this
          exact ⟨this, hq'⟩
        have H1 := Lib.hid hf1
        have HP := Lib.hid (HR.out.2.un (some ⟨q, 0, none⟩) n (n + 3) xs m w1 (HC.out w1 (Kept.refl _ _)).1 hb (by omega))
        have HU : Hid (∀ V, Fresh w V → Calls Try.prog 20 #[.slice A n c, .int .i64 m] V fun e w' => RUn V w' e xs m) := Lib.hid fun V hV => qUn A n c xs m V (HQ.out V hV) hb (by omega)
        clear hq hf1 HO
        unfold RUn at HP HU
        generalize unL xs m = l at *
        generalize unE xs m = er at *
        go_wp2_with fail
        refine HP.out.mono ?_
        rintro e w2 ⟨u, rfl, hu, _, hf2⟩
        obtain ⟨Au, cu, rfl, hru, _⟩ := hu.row
        have H2 := Lib.hid (And.intro hru (And.intro hf2 (H1.out.trans hf2 (fun _ _ h => h))))
        clear hu hf2 hru HP
        have HQ2 := Lib.hid (HU.out w2 H2.out.2.2)
        clear HU
        go_wp2_with fail
        refine HQ2.out.mono ?_
        rintro e w3 ⟨v, rfl, hv, _, hf3⟩
        obtain ⟨Av, cv, rfl, hrv, _⟩ := hv.row
        have H3 := Lib.hid (And.intro hrv (And.intro (H2.out.1.kept hf3 (fun _ _ _ _ => id)) (And.intro (H2.out.2.1.trans hf3 (fun _ _ h => h)) (H2.out.2.2.trans hf3 (fun _ _ h => h)))))
        have HA := Lib.hid (awakeR_any HR.out.2 w3)
        clear hv hrv hf3 HQ2 H2
        go_wp2_with fail
        refine HA.out.mono ?_
        rintro e w4 ⟨rfl, hf4⟩
        have HB := Lib.hid (hPlainInt32_any Au Av _ _ cu cv l l w4 (H3.out.2.1.kept hf4 (fun _ _ _ _ => id)) (H3.out.1.kept hf4 (fun _ _ _ _ => id)) (by omega) (by omega))
        rw [decide_eq_true rfl] at HB
        have H4 := Lib.hid (And.intro (H3.out.2.2.1.trans hf4 (fun _ _ h => h)) (H3.out.2.2.2.trans hf4 (fun _ _ h => h)))
        clear hf4 H3 HA
        go_wp2_with fail
        refine HB.out.mono ?_
        rintro e w5 ⟨rfl, k5, rfl⟩
        have HK := Lib.hid (hKeptByte_any q n c A xs 71 (w4.drewN k5) (HC.out _ (H4.out.1.drewN k5)).2 (HQ.out _ (H4.out.2.drewN k5)) (by omega))
        have H5 := Lib.hid (H4.out.2.drewN k5)
        clear HB H4 HC HQ
        generalize w4.drewN k5 = w5 at *
        go_wp2_with fail
        refine HK.out.mono ?_
        rintro e w7 ⟨rfl, k7, rfl⟩
        have H7 := Lib.hid (H5.out.drewN k7).toBelow
        clear H5 HK
        go_wp2_with fail
        go_ret
        exact ⟨rfl, H7.out⟩


set_option maxRecDepth 100000 in
theorem lifted (os : Os) (started : os.Started) (H : Type) (enc : TypeId × Value → H) :
    ReturnsInHanded {} Try.checked os 4 .any (Rows.riceUnpacksSpec.pre6 enc Try.prog Try.f4 Rows.riceUnpacksRow.domain false) (Rows.riceUnpacksSpec.post enc Try.prog Try.f4 false true false false) := by
  refine returnsInHanded_of_change (C := Try.checked) Try.own started (by kernel_rfl) Try.func4
    (ChangeSpec.witness6 (enc := enc) (C := Try.checked) false ⟨#[], #[.slice none 0 0, .int .i64 0], []⟩ 8 (by kernel_rfl) (by kernel_rfl) (by kernel_rfl) (by kernel_rfl)) ?_
  intro W base args ds gs before hval0 hW hcnd _
  have hval : ∀ (j : Nat) t v, Try.f4.params[j]? = some t → args[j]? = some v → Value.okWide Try.prog W .any base t v := hval0
  have hpost : ∀ W', Below W.heap.size W W' → Rows.riceUnpacksSpec.post enc Try.prog Try.f4 false true false false W args (.bool true) W' := fun W' hb =>
    law_post (by kernel_rfl) Try.underlying4 (by kernel_rfl) rfl (fun ds hl => match ds, hl with | [d1, d2], _ => ⟨rfl, rfl, rfl⟩) hW hb
  obtain ⟨p, q, hA0, hV, rfl, hfz, hnd⟩ := hW
  have hA : DataW.TrodAll enc Try.prog W 0 (fun _ => true) true Try.f4.params.toList args.toList ds p := hA0
  rw [Try.params4] at hA hval
  obtain ⟨v0, vs0, d0, ds0, p0, q0, hargs, rfl, rfl, h0, r0⟩ := trodAll_cons hA
  obtain ⟨v1, vs1, d1, ds1, p1, q1, rfl, rfl, rfl, h1, r1⟩ := trodAll_cons r0
  obtain ⟨rfl, rfl, rfl⟩ := trodAll_nil r1
  obtain rfl : args = #[v0, v1] := by cases args; simp_all
  obtain ⟨A0, n0, c0, xs0, rfl, hz0, hr0, hb0, hn0, hc0⟩ := open_rowc Try.underlying25 Try.underlying5 (by kernel_rfl) (hval 0 25 v0 rfl rfl) h0
  obtain ⟨a1, rfl, rfl, rfl, w1⟩ := open_int Try.underlying3 (hval 1 3 v1 rfl rfl) h1
  refine (walk riceOK A0 n0 c0 xs0 a1 W hz0 hr0 (range_bytes hb0) hn0 hc0).mono fun e W' ⟨he, hb⟩ => ⟨_, he, hpost W' hb⟩

/-- The statement. -/
theorem proved : Rows.RiceUnpacksSaid :=
  OpenClaim.holds_of_wide 4 Try.f4 rfl rfl rfl rfl rfl rfl rfl ⟨rfl, rfl, rfl, rfl, rfl⟩ rfl rfl rfl rfl rfl (by kernel_rfl) Try.func4 (by kernel_rfl)
    (of_decide_eq_true (by kernel_rfl)) (by unfold Func.isWrapper; first | (rw [if_pos (by decide +kernel)]; kernel_rfl) | (rw [if_neg (by decide +kernel)]; exact ⟨rfl, rfl⟩))
    (fun os started H enc _ => lifted os started H enc)
#print axioms proved

end Go.Proofs.Ytlnhpdikdefgoaa.riceUnpacks
