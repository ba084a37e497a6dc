/- TableBack: what is taken away from any bytes, by any width, is there again, in both orders; what is packed is unpacked, one byte less is not enough for it, and it is at most four bytes longer; what is not packed has no width. For all bytes and widths. -/
import Derived.Test.YtbbkdgbgfncjaaaTabF
namespace Go.Proofs.Ytbbkdgbgfncjaaa.tableBack
open Go.ChangeShapes Go.WideShapes Go.ChangeAt Go.RowKit

attribute [local go_sem ↓] Go.wp_at_zero Go.wp_at_succ

variable {tp : List Int → List Int} {tu : List Int → Int → Int × List Int}
theorem two {a b c : World} (h : Fresh a b) (k : Fresh b c) : Fresh a c := h.trans k fun _ _ e => e
set_option maxRecDepth 100000 in
set_option maxHeartbeats 6400000 in
theorem walk (ok : TableOK tp tu) (A : Option Addr) (n c : Nat) (xs : List Int) (wd : Int) (hwd : -9223372036854775808 ≤ wd ∧ wd ≤ 9223372036854775807) (w : World) (_ : A = none → c = 0) (hr : Row w .u8 A n xs) (hb : ∀ x ∈ xs, 0 ≤ x ∧ x < 256) (_ : n ≤ maxLen) (hnc : n ≤ c) :
    Calls Try.prog 4 #[.slice A n c, .int .i64 wd] w fun e w' => e = .returned (.bool true) ∧ Below w.heap.size w w' := by
  by_cases hlong : 3000 < n
  · have h1 : 3000 < (n : Int) := by omega
    have HA := Lib.hid (awakeT_any ok w)
    clear hr ok
    go_enter Try.func4, Try.ntmps4
    go_wp2_with fail
    refine HA.out.mono ?_
    rintro e w1 ⟨rfl, hf⟩
    have HF := Lib.hid hf.toBelow
    clear hf HA
    go_wp2_with fail
    go_ret
    exact ⟨rfl, HF.out⟩
  · have h1 : ¬ 3000 < (n : Int) := by omega
    have hlen := hr.len
    have HR : Hid (∀ V, Fresh w V → Row V .u8 A n xs) := Lib.hid fun V hV => hr.kept hV fun _ _ _ _ => id
    have HB := Lib.hid hb
    have HO := Lib.hid ok
    have HN : Hid (n ≤ 3000 ∧ n ≤ c ∧ xs.length = n) := Lib.hid ⟨by omega, hnc, hlen⟩
    have HI : Hid (I64 wd) := Lib.hid hwd
    have hdl := dlt_len xs (wid1 wd)
    have hul := und_len xs (wid1 wd)
    have hdb := dlt_byte hb (wid1 wd)
    have hub := und_byte hb (wid1 wd)
    rw [hlen] at hdl hul
    have HD := Lib.hid (And.intro hdl (And.intro hul (And.intro hdb hub)))
    have n3 : (n : Int) ≤ 3000 := by omega
    have G0 : Hid (Fresh w w) := Lib.hid (Kept.refl _ _)
    clear hr hb ok hlen hlong hnc hwd hdl hul hdb hub
    go_enter Try.func4, Try.ntmps4
    go_wp2_with fail
    refine (awakeT_any HO.out _).mono ?_
    rintro e w2 ⟨rfl, hf⟩
    have G1 := Lib.hid (two G0.out hf)
    clear hf G0
    go_wp2_with fail
    refine (HO.out.delta A n c xs wd _ (HR.out _ G1.out) HB.out (by have := HN.out.1; omega) HN.out.2.1 HI.out).mono ?_
    rintro e v1 ⟨u1, rfl, hu1, _, hf⟩
    obtain ⟨B1, c1, rfl, hb1, _⟩ := hu1.row
    have hc1 := hu1.cap
    rw [HD.out.1] at hb1 hc1 ⊢
    have G2 := Lib.hid (two G1.out hf)
    have hk := HO.out.undelta B1 n c1 (dlt xs (wid1 wd)) wd v1 hb1 HD.out.2.2.1 (by have := HN.out.1; omega) hc1 HI.out
    rw [und_dlt HB.out (wid1_pos wd)] at hk
    have HK := Lib.hid hk
    clear hf hu1 hb1 hc1 hk
    go_wp2_with fail
    refine HK.out.mono ?_
    rintro e v2 ⟨u2, rfl, hu2, _, hf⟩
    obtain ⟨B2, c2, rfl, hb2, _⟩ := hu2.row
    rw [HN.out.2.2] at hb2 ⊢
    have hby := hBytes_any B2 A n n c2 c xs xs v2 hb2 (HR.out _ (two G2.out hf)) HB.out HB.out
    rw [decide_eq_true rfl] at hby
    have HBy := Lib.hid hby
    have G3 := Lib.hid (two G2.out hf)
    clear hf hu2 hb2 hby HK
    go_wp2_with fail
    refine HBy.out.mono ?_
    rintro e v ⟨rfl, rfl⟩
    clear HBy
    go_wp2_with fail
    refine (HO.out.undelta A n c xs wd _ (HR.out _ G3.out) HB.out (by have := HN.out.1; omega) HN.out.2.1 HI.out).mono ?_
    rintro e v3 ⟨u3, rfl, hu3, _, hf⟩
    obtain ⟨B3, c3, rfl, hb3, _⟩ := hu3.row
    have hc3 := hu3.cap
    rw [HD.out.2.1] at hb3 hc3 ⊢
    have G4 := Lib.hid (two G3.out hf)
    have hk := HO.out.delta B3 n c3 (und xs (wid1 wd)) wd v3 hb3 HD.out.2.2.2 (by have := HN.out.1; omega) hc3 HI.out
    rw [dlt_und HB.out (wid1_pos wd)] at hk
    have HK := Lib.hid hk
    clear hf hu3 hb3 hc3 hk
    go_wp2_with fail
    refine HK.out.mono ?_
    rintro e v4 ⟨u4, rfl, hu4, _, hf⟩
    obtain ⟨B4, c4, rfl, hb4, _⟩ := hu4.row
    rw [HN.out.2.2] at hb4 ⊢
    have hby := hBytes_any B4 A n n c4 c xs xs v4 hb4 (HR.out _ (two G4.out hf)) HB.out HB.out
    rw [decide_eq_true rfl] at hby
    have HBy := Lib.hid hby
    have G5 := Lib.hid (two G4.out hf)
    clear hf hu4 hb4 hby HK
    go_wp2_with fail
    refine HBy.out.mono ?_
    rintro e v ⟨rfl, rfl⟩
    clear HBy
    by_cases hw0 : wdt xs = 0
    · have HP := Lib.hid (HO.out.refuse A n c xs v4 (HR.out _ G5.out) HB.out (by have := HN.out.1; omega) HN.out.2.1 hw0)
      have HW0 := Lib.hid hw0
      clear hw0
      go_wp2_with fail
      refine HP.out.mono ?_
      rintro e w3 ⟨rfl, hf⟩
      have G6 := Lib.hid (two G5.out hf)
      clear hf HP
      go_wp2_with fail
      refine (HO.out.width A n c xs _ (HR.out _ G6.out) HB.out (by have := HN.out.1; omega) HN.out.2.1).mono ?_
      rw [HW0.out]
      rintro e w4 ⟨rfl, hf⟩
      have HE := Lib.hid (two G6.out hf).toBelow
      clear hf
      go_wp2_with fail
      go_ret
      exact ⟨rfl, HE.out⟩
    · have HT : Hid (TbIn xs) := Lib.hid ⟨HB.out, by have := HN.out; omega, hw0⟩
      have HP := Lib.hid (HO.out.pack A n c xs v4 (HR.out _ G5.out) HB.out (by have := HN.out.1; omega) HN.out.2.1 hw0)
      clear hw0
      go_wp2_with fail
      refine HP.out.mono ?_
      rintro e w3 ⟨u, rfl, hu, _, hf⟩
      obtain ⟨Bx, cx, rfl, hbx, _⟩ := hu.row
      have hcx := hu.cap
      have hlx := HO.out.len xs HT.out
      obtain ⟨lx, hlx2⟩ : ∃ lx, lx = (tp xs).length := ⟨_, rfl⟩
      rw [← hlx2] at hbx hcx hlx ⊢
      have HX : Hid (∀ V, Fresh w3 V → Row V .u8 Bx lx (tp xs)) := Lib.hid fun V hV => hbx.kept hV fun _ _ _ _ => id
      have HU : Hid (∀ V, Fresh w3 V → ∀ most, Calls Try.prog 19 #[.slice Bx lx cx, .int .i64 most] V fun e w' => ∃ u, e = .returned (.tuple #[u, .int .i64 (if (n : Int) ≤ most then ((0 : Int), xs) else (5, [])).1]) ∧ NewRow V w' 5 .u8 u (if (n : Int) ≤ most then ((0 : Int), xs) else (5, [])).2) := Lib.hid fun V hV most => by
        have h := HO.out.unpack Bx lx cx (tp xs) most V (HX.out V hV) (HO.out.byte xs HT.out) (by have := HN.out; omega) hcx
        rw [HO.out.back xs most HT.out, HN.out.2.2] at h
        exact h
      have G6 := Lib.hid (two G5.out hf)
      have F6 : Hid (Fresh w3 w3) := Lib.hid (Kept.refl _ _)
      have l1 : (lx : Int) ≤ (n : Int) + 4 := by rw [HN.out.2.2] at hlx; omega
      clear hf hu hbx hcx hlx hlx2 HP
      have hu1 := HU.out w3 F6.out (n : Int)
      rw [if_pos (Int.le_refl _)] at hu1
      have HU1 := Lib.hid hu1
      clear hu1
      go_wp2_with fail
      refine HU1.out.mono ?_
      rintro e w4 ⟨u2, rfl, hu2, _, hf⟩
      obtain ⟨B2, c2, rfl, hb2, _⟩ := hu2.row
      simp only [HN.out.2.2] at hb2 ⊢
      have HY : Hid (∀ V, Fresh w4 V → Row V .u8 B2 n xs) := Lib.hid fun V hV => hb2.kept hV fun _ _ _ _ => id
      have G7 := Lib.hid (two G6.out hf)
      have F7 := Lib.hid (two F6.out hf)
      clear hf hu2 hb2 HU1 F6 G6
      have hu3 := HU.out w4 F7.out ((n : Int) - 1)
      rw [if_neg (show ¬ (n : Int) ≤ (n : Int) - 1 by omega)] at hu3
      have HU3 := Lib.hid hu3
      clear hu3
      go_wp2_with fail
      refine HU3.out.mono ?_
      rintro e w5 ⟨u3, rfl, hu3, _, hf⟩
      have G8 := Lib.hid (two G7.out hf)
      have hby := hBytes_any A B2 n n c c2 xs xs w5 (HR.out _ G8.out) (HY.out _ hf) HB.out HB.out
      rw [decide_eq_true rfl] at hby
      have HBy := Lib.hid hby
      have HE := Lib.hid G8.out.toBelow
      clear hf hu3 HU3 hby
      go_wp2_with fail
      refine HBy.out.mono ?_
      rintro e v ⟨rfl, rfl⟩
      clear HBy
      go_wp2_with fail
      go_ret
      exact ⟨rfl, HE.out⟩

set_option maxRecDepth 100000 in
theorem lifted (os : Os) (started : os.Started) (H : Type) (enc : TypeId × Value → H) :
    ReturnsInHanded {} Try.checked os 4 .any (Rows.tableBackSpec.pre6 enc Try.prog Try.f4 Rows.tableBackRow.domain false) (Rows.tableBackSpec.post enc Try.prog Try.f4 false true false false) := by
  refine returnsInHanded_of_change (C := Try.checked) Try.own started (by kernel_rfl) Try.func4
    (ChangeSpec.witness6 (enc := enc) (C := Try.checked) false ⟨#[], #[.slice none 0 0, .int .i64 0], []⟩ 8 (by kernel_rfl) (by kernel_rfl) (by kernel_rfl) (by kernel_rfl)) ?_
  intro W base args ds gs before hval0 hW hcnd _
  have hval : ∀ (j : Nat) t v, Try.f4.params[j]? = some t → args[j]? = some v → Value.okWide Try.prog W .any base t v := hval0
  have hpost : ∀ W', Below W.heap.size W W' → Rows.tableBackSpec.post enc Try.prog Try.f4 false true false false W args (.bool true) W' := fun W' hb =>
    law_post (by kernel_rfl) Try.underlying4 (by kernel_rfl) rfl (fun ds hl => match ds, hl with | [d1, d2], _ => ⟨rfl, rfl, rfl⟩) hW hb
  obtain ⟨p, q, hA0, hV, rfl, hfz, hnd⟩ := hW
  have hA : DataW.TrodAll enc Try.prog W 0 (fun _ => true) true Try.f4.params.toList args.toList ds p := hA0
  rw [Try.params4] at hA hval
  obtain ⟨v0, vs0, d0, ds0, p0, q0, hargs, rfl, rfl, h0, r0⟩ := trodAll_cons hA
  obtain ⟨v1, vs1, d1, ds1, p1, q1, rfl, rfl, rfl, h1, r1⟩ := trodAll_cons r0
  obtain ⟨rfl, rfl, rfl⟩ := trodAll_nil r1
  obtain rfl : args = #[v0, v1] := by cases args; simp_all
  obtain ⟨A0, n0, c0, xs0, rfl, hz0, hr0, hb0, hn0, hc0⟩ := open_rowc Try.underlying22 Try.underlying5 (by kernel_rfl) (hval 0 22 v0 rfl rfl) h0
  obtain ⟨a1, rfl, rfl, rfl, w1⟩ := open_int Try.underlying3 (hval 1 3 v1 rfl rfl) h1
  refine (walk tableOK A0 n0 c0 xs0 a1 (bounds_i64 w1) W hz0 hr0 (range_bytes hb0) hn0 hc0).mono fun e W' ⟨he, hb⟩ => ⟨_, he, hpost W' hb⟩

/-- The statement. -/
theorem proved : Rows.TableBackSaid :=
  OpenClaim.holds_of_wide 4 Try.f4 rfl rfl rfl rfl rfl rfl rfl ⟨rfl, rfl, rfl, rfl, rfl⟩ rfl rfl rfl rfl rfl (by kernel_rfl) Try.func4 (by kernel_rfl)
    (of_decide_eq_true (by kernel_rfl)) (by unfold Func.isWrapper; first | (rw [if_pos (by decide +kernel)]; kernel_rfl) | (rw [if_neg (by decide +kernel)]; exact ⟨rfl, rfl⟩))
    (fun os started H enc _ => lifted os started H enc)
#print axioms proved

end Go.Proofs.Ytbbkdgbgfncjaaa.tableBack
