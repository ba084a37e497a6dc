/- TableTells: the score and the best width of any bytes, and what is left of them and what they are of, are what the document says; what was handed in stays. For all bytes and widths. -/
import Derived.Test.YtbbkdgbgfncjaaaTabF
namespace Go.Proofs.Ytbbkdgbgfncjaaa.tableTells
open Go.ChangeShapes Go.WideShapes Go.ChangeAt Go.RowKit

attribute [local go_sem ↓] Go.wp_at_zero Go.wp_at_succ

variable {tp : List Int → List Int} {tu : List Int → Int → Int × List Int}
theorem two {a b c : World} (h : Fresh a b) (k : Fresh b c) : Fresh a c := h.trans k fun _ _ e => e
set_option maxRecDepth 100000 in
set_option maxHeartbeats 6400000 in
theorem walk (ok : TableOK tp tu) (A : Option Addr) (n c : Nat) (xs : List Int) (wd : Int) (hwd : -9223372036854775808 ≤ wd ∧ wd ≤ 9223372036854775807) (w : World) (hz : A = none → c = 0) (hr : Row w .u8 A n xs) (hb : ∀ x ∈ xs, 0 ≤ x ∧ x < 256) (_ : n ≤ maxLen) (hnc : n ≤ c) :
    Calls Try.prog 3 #[.slice A n c, .int .i64 wd] w fun e w' => e = .returned (.bool true) ∧ Below w.heap.size w w' := by
  by_cases hlong : 3000 < n
  · have h1 : 3000 < (n : Int) := by omega
    have HA := Lib.hid (awakeT_any ok w)
    clear hr ok
    go_enter Try.func3, Try.ntmps3
    go_wp2_with fail
    refine HA.out.mono ?_
    rintro e w1 ⟨rfl, hf⟩
    have HF := Lib.hid hf.toBelow
    clear hf HA
    go_wp2_with fail
    go_ret
    exact ⟨rfl, HF.out⟩
  · have h1 : ¬ 3000 < (n : Int) := by omega
    have HOw := Lib.hid (hOwnByte_any A n c xs 71 w hr hz (by omega))
    have hlen := hr.len
    have HR := Lib.hid hr
    have HB := Lib.hid hb
    have HO := Lib.hid ok
    have HN : Hid (n ≤ 3000 ∧ n ≤ c ∧ xs.length = n) := Lib.hid ⟨by omega, hnc, hlen⟩
    have HI : Hid (I64 wd) := Lib.hid hwd
    have hdl := dlt_len xs (wid1 wd)
    have hul := und_len xs (wid1 wd)
    have hdb := dlt_byte hb (wid1 wd)
    have hub := und_byte hb (wid1 wd)
    rw [hlen] at hdl hul
    have HD := Lib.hid (And.intro hdl (And.intro hul (And.intro hdb hub)))
    obtain ⟨s, hs⟩ : ∃ s, s = scr xs wd := ⟨_, rfl⟩
    obtain ⟨q, hq⟩ : ∃ q, q = wdt xs := ⟨_, rfl⟩
    have HSQ := Lib.hid (And.intro hs hq)
    clear hr hb ok hlen hlong hnc hwd hdl hul hdb hub hs hq
    go_enter Try.func3, Try.ntmps3
    go_wp2_with fail
    refine HOw.out.mono ?_
    rintro e w1 ⟨p, rfl, hp, _, hf1⟩
    have HC : Hid (∀ V, Fresh w1 V → Row V .u8 (some ⟨p, 0, none⟩) n xs ∧ Copy V p 5 .u8 xs 71) := Lib.hid fun V hV => by
      have hp' : Copy V p 5 .u8 xs 71 := ⟨hp.blk.kept hV id⟩
      have := hp'.row
      rw [HN.out.2.2] at this
      exact ⟨this, hp'⟩
    have HQ : Hid (∀ V, Fresh w1 V → Row V .u8 A n xs) := Lib.hid fun V hV => (HR.out.kept hf1 fun _ _ _ _ => id).kept hV fun _ _ _ _ => id
    have HE := Lib.hid hf1
    have G0 : Hid (Fresh w1 w1) := Lib.hid (Kept.refl _ _)
    clear hp hf1 HOw
    go_wp2_with fail
    refine (awakeT_any HO.out _).mono ?_
    rintro e w2 ⟨rfl, hf⟩
    have G1 := Lib.hid (two G0.out hf)
    clear hf
    go_wp2_with fail
    refine (HO.out.score _ n (n + 3) xs wd _ (HC.out _ G1.out).1 HB.out (by have := HN.out.1; omega) (by omega) HI.out).mono ?_
    rw [← HSQ.out.1]
    rintro e w3 ⟨rfl, hf⟩
    have G2 := Lib.hid (two G1.out hf)
    clear hf
    go_wp2_with fail
    refine (qScore_any A n c xs wd _ (HQ.out _ G2.out) (by have := HN.out.1; omega) HI.out).mono ?_
    rw [← HSQ.out.1]
    rintro e w4 ⟨rfl, hf⟩
    have G3 := Lib.hid (two G2.out hf)
    clear hf
    go_wp2_with fail
    refine (HO.out.width _ n (n + 3) xs _ (HC.out _ G3.out).1 HB.out (by have := HN.out.1; omega) (by omega)).mono ?_
    rw [← HSQ.out.2]
    rintro e w5 ⟨rfl, hf⟩
    have G4 := Lib.hid (two G3.out hf)
    clear hf
    go_wp2_with fail
    refine (qWidth_any A n c xs _ (HQ.out _ G4.out) (by have := HN.out.1; omega)).mono ?_
    rw [← HSQ.out.2]
    rintro e w6 ⟨rfl, hf⟩
    have G5 := Lib.hid (two G4.out hf)
    clear hf
    go_wp2_with fail
    refine (HO.out.delta _ n (n + 3) xs wd _ (HC.out _ G5.out).1 HB.out (by have := HN.out.1; omega) (by omega) HI.out).mono ?_
    rintro e v5 ⟨u5, rfl, hu5, _, hf⟩
    obtain ⟨B5, c5, rfl, hb5, _⟩ := hu5.row
    rw [HD.out.1] at hb5 ⊢
    have K5 : Hid (∀ V, Fresh v5 V → Row V .u8 B5 n (dlt xs (wid1 wd))) := Lib.hid fun V hV => hb5.kept hV fun _ _ _ _ => id
    have G6 := Lib.hid (two G5.out hf)
    clear hf hu5 hb5
    go_wp2_with fail
    refine (qDelta_any A n c xs wd _ (HQ.out _ G6.out) HB.out (by have := HN.out.1; omega) HI.out).mono ?_
    rintro e v6 ⟨u6, rfl, hu6, _, hf⟩
    obtain ⟨B6, c6, rfl, hb6, _⟩ := hu6.row
    rw [HD.out.1] at hb6 ⊢
    have hby := hBytes_any B5 B6 n n c5 c6 _ _ v6 (K5.out _ hf) hb6 HD.out.2.2.1 HD.out.2.2.1
    rw [decide_eq_true rfl] at hby
    have HBy := Lib.hid hby
    have G7 := Lib.hid (two G6.out hf)
    clear hf hu6 hb6 hby
    go_wp2_with fail
    refine HBy.out.mono ?_
    rintro e v ⟨rfl, rfl⟩
    clear HBy
    go_wp2_with fail
    refine (HO.out.undelta _ n (n + 3) xs wd _ (HC.out _ G7.out).1 HB.out (by have := HN.out.1; omega) (by omega) HI.out).mono ?_
    rintro e v7 ⟨u7, rfl, hu7, _, hf⟩
    obtain ⟨B7, c7, rfl, hb7, _⟩ := hu7.row
    rw [HD.out.2.1] at hb7 ⊢
    have K7 : Hid (∀ V, Fresh v7 V → Row V .u8 B7 n (und xs (wid1 wd))) := Lib.hid fun V hV => hb7.kept hV fun _ _ _ _ => id
    have G8 := Lib.hid (two G7.out hf)
    clear hf hu7 hb7
    go_wp2_with fail
    refine (qUndelta_any A n c xs wd _ (HQ.out _ G8.out) HB.out (by have := HN.out.1; omega) HI.out).mono ?_
    rintro e v8 ⟨u8, rfl, hu8, _, hf⟩
    obtain ⟨B8, c8, rfl, hb8, _⟩ := hu8.row
    rw [HD.out.2.1] at hb8 ⊢
    have hby := hBytes_any B7 B8 n n c7 c8 _ _ v8 (K7.out _ hf) hb8 HD.out.2.2.2 HD.out.2.2.2
    rw [decide_eq_true rfl] at hby
    have HBy := Lib.hid hby
    have G9 := Lib.hid (two G8.out hf)
    clear hf hu8 hb8 hby
    go_wp2_with fail
    refine HBy.out.mono ?_
    rintro e v ⟨rfl, rfl⟩
    clear HBy
    have HK := Lib.hid (hKeptByte_any p n c A xs 71 _ (HC.out _ G9.out).2 (HQ.out _ G9.out) (by have := HN.out.1; omega))
    go_wp2_with fail
    refine HK.out.mono ?_
    rintro e w7 ⟨rfl, k7, rfl⟩
    have H7 := Lib.hid ((two HE.out G9.out).drewN k7).toBelow
    clear HK
    go_wp2_with fail
    go_ret
    exact ⟨rfl, H7.out⟩

set_option maxRecDepth 100000 in
theorem lifted (os : Os) (started : os.Started) (H : Type) (enc : TypeId × Value → H) :
    ReturnsInHanded {} Try.checked os 3 .any (Rows.tableTellsSpec.pre6 enc Try.prog Try.f3 Rows.tableTellsRow.domain false) (Rows.tableTellsSpec.post enc Try.prog Try.f3 false true false false) := by
  refine returnsInHanded_of_change (C := Try.checked) Try.own started (by kernel_rfl) Try.func3
    (ChangeSpec.witness6 (enc := enc) (C := Try.checked) false ⟨#[], #[.slice none 0 0, .int .i64 0], []⟩ 8 (by kernel_rfl) (by kernel_rfl) (by kernel_rfl) (by kernel_rfl)) ?_
  intro W base args ds gs before hval0 hW hcnd _
  have hval : ∀ (j : Nat) t v, Try.f3.params[j]? = some t → args[j]? = some v → Value.okWide Try.prog W .any base t v := hval0
  have hpost : ∀ W', Below W.heap.size W W' → Rows.tableTellsSpec.post enc Try.prog Try.f3 false true false false W args (.bool true) W' := fun W' hb =>
    law_post (by kernel_rfl) Try.underlying4 (by kernel_rfl) rfl (fun ds hl => match ds, hl with | [d1, d2], _ => ⟨rfl, rfl, rfl⟩) hW hb
  obtain ⟨p, q, hA0, hV, rfl, hfz, hnd⟩ := hW
  have hA : DataW.TrodAll enc Try.prog W 0 (fun _ => true) true Try.f3.params.toList args.toList ds p := hA0
  rw [Try.params3] at hA hval
  obtain ⟨v0, vs0, d0, ds0, p0, q0, hargs, rfl, rfl, h0, r0⟩ := trodAll_cons hA
  obtain ⟨v1, vs1, d1, ds1, p1, q1, rfl, rfl, rfl, h1, r1⟩ := trodAll_cons r0
  obtain ⟨rfl, rfl, rfl⟩ := trodAll_nil r1
  obtain rfl : args = #[v0, v1] := by cases args; simp_all
  obtain ⟨A0, n0, c0, xs0, rfl, hz0, hr0, hb0, hn0, hc0⟩ := open_rowc Try.underlying22 Try.underlying5 (by kernel_rfl) (hval 0 22 v0 rfl rfl) h0
  obtain ⟨a1, rfl, rfl, rfl, w1⟩ := open_int Try.underlying3 (hval 1 3 v1 rfl rfl) h1
  refine (walk tableOK A0 n0 c0 xs0 a1 (bounds_i64 w1) W hz0 hr0 (range_bytes hb0) hn0 hc0).mono fun e W' ⟨he, hb⟩ => ⟨_, he, hpost W' hb⟩

/-- The statement. -/
theorem proved : Rows.TableTellsSaid :=
  OpenClaim.holds_of_wide 3 Try.f3 rfl rfl rfl rfl rfl rfl rfl ⟨rfl, rfl, rfl, rfl, rfl⟩ rfl rfl rfl rfl rfl (by kernel_rfl) Try.func3 (by kernel_rfl)
    (of_decide_eq_true (by kernel_rfl)) (by unfold Func.isWrapper; first | (rw [if_pos (by decide +kernel)]; kernel_rfl) | (rw [if_neg (by decide +kernel)]; exact ⟨rfl, rfl⟩))
    (fun os started H enc _ => lifted os started H enc)
#print axioms proved

end Go.Proofs.Ytbbkdgbgfncjaaa.tableTells
