/- TableRecords: records that are alike, of two to sixteen bytes, four and more of them, have a width that they come again at: at most their own, with a score as great at least. For all records and numbers. -/
import Derived.Test.YtbbkdgbgfncjaaaTabF
namespace Go.Proofs.Ytbbkdgbgfncjaaa.tableRecords
open Go.ChangeShapes Go.WideShapes Go.ChangeAt Go.RowKit

attribute [local go_sem ↓] Go.wp_at_zero Go.wp_at_succ

variable {tp : List Int → List Int} {tu : List Int → Int → Int × List Int}
theorem two {a b c : World} (h : Fresh a b) (k : Fresh b c) : Fresh a c := h.trans k fun _ _ e => e
set_option maxRecDepth 100000 in
set_option maxHeartbeats 3200000 in
theorem walk (ok : TableOK tp tu) (A : Option Addr) (n c : Nat) (xs : List Int) (x1 : Int) (w : World) (_ : A = none → c = 0) (hr : Row w .u8 A n xs) (hb : ∀ x ∈ xs, 0 ≤ x ∧ x < 256) (_ : n ≤ maxLen) (_ : n ≤ c) :
    Calls Try.prog 5 #[.slice A n c, .int .i64 x1] w fun e w' => e = .returned (.bool true) ∧ Below w.heap.size w w' := by
  by_cases hlong : n < 2 ∨ 16 < n
  · have hcs : (n : Int) < 2 ∨ (¬ (n : Int) < 2 ∧ 16 < (n : Int)) := by omega
    have HA := Lib.hid (awakeT_any ok w)
    clear hr ok hlong
    rcases hcs with k1 | ⟨k1, k2⟩
    all_goals
      go_enter Try.func5, Try.ntmps5
      go_wp2_with fail
      refine HA.out.mono ?_
      rintro e w1 ⟨rfl, hf⟩
      have HF := Lib.hid hf.toBelow
      clear hf HA
      go_wp2_with fail
      go_ret
      exact ⟨rfl, HF.out⟩
  · have k1 : ¬ (n : Int) < 2 := by omega
    have k2 : ¬ 16 < (n : Int) := by omega
    obtain ⟨i0, hi, hz0, hz1, hz2⟩ := info_parts Try.infoByteT
    obtain ⟨r, hrr, er⟩ := u64_mod x1 20 (by omega)
    obtain ⟨t, ht⟩ : ∃ t, t = 4 + r := ⟨_, rfl⟩
    have et : (4 : Int) + (r : Int) = (t : Int) := by omega
    have t23 : (t : Int) ≤ 23 := by omega
    have hlen := hr.len
    have HR : Hid (∀ V, Fresh w V → Row V .u8 A n xs) := Lib.hid fun V hV => hr.kept hV fun _ _ _ _ => id
    have HB := Lib.hid hb
    have HO := Lib.hid ok
    have HN : Hid (2 ≤ n ∧ n ≤ 16 ∧ 4 ≤ t ∧ t ≤ 23 ∧ xs.length = n) := Lib.hid (by omega)
    have hfl : ∀ j, ((List.replicate j xs).flatten).length = j * n := fun j => by simp [hlen]
    have HFL := Lib.hid hfl
    clear hr hb ok hlen hlong ht hrr hfl
    go_enter Try.func5, Try.ntmps5
    go_wp2_with fail
    go_loopw [5, 6] (fun v iv wr => ∃ j : Nat, j ≤ t ∧ iv = .int .i64 (j : Int) ∧ NewRow w wr 5 .u8 v (List.replicate j xs).flatten) (fun _ iv _ => (t - intOf iv).toNat)
    case atStart => exact ⟨0, by omega, rfl, Own.nil _ _ _, fun k e => (by cases e), Kept.refl _ _⟩
    case round =>
      obtain ⟨j, hj, rfl, hN⟩ := hrel
      have HQ := Lib.hid hN
      clear hN
      by_cases hlt : j < t
      · have j1 : (j : Int) < (t : Int) := by omega
        have hjn : j * n ≤ 23 * 16 := Nat.mul_le_mul (by have := HN.out; omega) HN.out.2.1
        have HJ := Lib.hid (And.intro hlt hjn)
        clear hlt hjn hj
        go_wp2_with (at_builtin; refine wpList_new _ w rfl _ _ 22 rfl 5 i0 .u8 1 Try.underlying22 hi hz0 hz1 hz2 _ (List.replicate j xs).flatten rfl HQ.out A n c xs rfl (HR.out _ HQ.out.2.2) (by unfold maxLen; rw [HFL.out]; have := HJ.out; omega) (by rw [HFL.out]; have := HJ.out; omega) ?_; intro v9 X9 N9)
        have H9 : Hid (NewRow w X9 5 .u8 v9 (List.replicate (j + 1) xs).flatten) := Lib.hid (by rw [List.replicate_succ', List.flatten_append, List.flatten_singleton]; exact N9)
        clear N9
        go_roundw
        case rel => exact ⟨j + 1, by have := HJ.out; omega, by go_num, H9.out⟩
        case measure => have := HJ.out; simp [intOf]; omega
      · obtain rfl : j = t := by omega
        obtain ⟨bs, hbs⟩ : ∃ bs, bs = (List.replicate j xs).flatten := ⟨_, rfl⟩
        have hw := rep_wdt xs j (by rw [HN.out.2.2.2.2]; exact HN.out.1) (by rw [HN.out.2.2.2.2]; exact HN.out.2.1) HN.out.2.2.1
        rw [HN.out.2.2.2.2] at hw
        have hb8 : ∀ x ∈ bs, 0 ≤ x ∧ x < 256 := fun x hx => by
          rw [hbs] at hx
          obtain ⟨l, hl, hxl⟩ := List.mem_flatten.1 hx
          rw [(List.mem_replicate.1 hl).2] at hxl
          exact HB.out x hxl
        have hbl : bs.length ≤ 368 := by rw [hbs, HFL.out]; exact Nat.mul_le_mul HN.out.2.2.2.1 HN.out.2.1
        rw [← hbs] at hw HQ
        have hcap := HQ.out.1.row
        obtain ⟨Ab, cb, rfl, hrb, _⟩ := HQ.out.1.row
        have hcb := HQ.out.1.cap
        obtain ⟨l, hl⟩ : ∃ l, l = bs.length := ⟨_, rfl⟩
        rw [← hl] at hrb hcb hbl ⊢
        have HRb : Hid (∀ V, Fresh wr V → Row V .u8 Ab l bs) := Lib.hid fun V hV => hrb.kept hV fun _ _ _ _ => id
        have HW := Lib.hid (HO.out.width Ab l cb bs wr hrb hb8 (by omega) hcb)
        have HS : Hid (∀ V, Fresh wr V → ∀ v : Nat, v ≤ 1000 → Calls Try.prog 8 #[.slice Ab l cb, .int .i64 (v : Int)] V fun e w' => e = .returned (.int .i64 (scr bs (v : Int) : Nat)) ∧ Fresh V w') := Lib.hid fun V hV v hv => HO.out.score Ab l cb bs v V (HRb.out V hV) hb8 (by omega) hcb (by unfold I64; omega)
        have HF := Lib.hid HQ.out.2.2
        obtain ⟨q, hq⟩ : ∃ q, q = wdt bs := ⟨_, rfl⟩
        rw [← hq] at hw HW
        have q1 : (2 : Int) ≤ (q : Int) := by omega
        have q2 : (q : Int) ≤ (n : Int) := by omega
        have HS1 : Hid (∀ V, Fresh wr V → Calls Try.prog 8 #[.slice Ab l cb, .int .i64 (q : Int)] V fun e w' => e = .returned (.int .i64 (scr bs (q : Int) : Nat)) ∧ Fresh V w') := Lib.hid fun V hV => HS.out V hV q (by have := HN.out; omega)
        have HS2 : Hid (∀ V, Fresh wr V → Calls Try.prog 8 #[.slice Ab l cb, .int .i64 (n : Int)] V fun e w' => e = .returned (.int .i64 (scr bs (n : Int) : Nat)) ∧ Fresh V w') := Lib.hid fun V hV => HS.out V hV n (by have := HN.out; omega)
        obtain ⟨u, hu⟩ : ∃ u, u = scr bs (q : Int) := ⟨_, rfl⟩
        obtain ⟨z, hz⟩ : ∃ z, z = scr bs (n : Int) := ⟨_, rfl⟩
        rw [← hu] at hw HS1
        rw [← hz] at hw HS2
        have uz : (z : Int) ≤ (u : Int) := by omega
        have j1 : ¬ (j : Int) < (j : Int) := by omega
        clear hw hb8 hbl hcap hrb hcb hl hq hu hz hbs HQ HRb HS hj hlt
        go_wp2_with fail
        refine HW.out.mono ?_
        rintro e w2 ⟨rfl, hf2⟩
        have HF2 := Lib.hid hf2
        clear hf2 HW
        go_wp2_with fail
        refine (awakeT_any HO.out _).mono ?_
        rintro e w3 ⟨rfl, hf3⟩
        have HF3 := Lib.hid (two HF2.out hf3)
        clear hf3 HF2
        go_wp2_with fail
        refine (HS1.out _ HF3.out).mono ?_
        rintro e w4 ⟨rfl, hf4⟩
        have HF4 := Lib.hid (two HF3.out hf4)
        clear hf4 HF3
        go_wp2_with fail
        refine (HS2.out _ HF4.out).mono ?_
        rintro e w5 ⟨rfl, hf5⟩
        have HE := Lib.hid (two HF.out (two HF4.out hf5)).toBelow
        clear hf5 HF4
        go_wp2_with fail
        go_ret
        exact ⟨rfl, HE.out⟩

set_option maxRecDepth 100000 in
theorem lifted (os : Os) (started : os.Started) (H : Type) (enc : TypeId × Value → H) :
    ReturnsInHanded {} Try.checked os 5 .any (Rows.tableRecordsSpec.pre6 enc Try.prog Try.f5 Rows.tableRecordsRow.domain false) (Rows.tableRecordsSpec.post enc Try.prog Try.f5 false true false false) := by
  refine returnsInHanded_of_change (C := Try.checked) Try.own started (by kernel_rfl) Try.func5
    (ChangeSpec.witness6 (enc := enc) (C := Try.checked) false ⟨#[], #[.slice none 0 0, .int .i64 0], []⟩ 8 (by kernel_rfl) (by kernel_rfl) (by kernel_rfl) (by kernel_rfl)) ?_
  intro W base args ds gs before hval0 hW hcnd _
  have hval : ∀ (j : Nat) t v, Try.f5.params[j]? = some t → args[j]? = some v → Value.okWide Try.prog W .any base t v := hval0
  have hpost : ∀ W', Below W.heap.size W W' → Rows.tableRecordsSpec.post enc Try.prog Try.f5 false true false false W args (.bool true) W' := fun W' hb =>
    law_post (by kernel_rfl) Try.underlying4 (by kernel_rfl) rfl (fun ds hl => match ds, hl with | [d1, d2], _ => ⟨rfl, rfl, rfl⟩) hW hb
  obtain ⟨p, q, hA0, hV, rfl, hfz, hnd⟩ := hW
  have hA : DataW.TrodAll enc Try.prog W 0 (fun _ => true) true Try.f5.params.toList args.toList ds p := hA0
  rw [Try.params5] at hA hval
  obtain ⟨v0, vs0, d0, ds0, p0, q0, hargs, rfl, rfl, h0, r0⟩ := trodAll_cons hA
  obtain ⟨v1, vs1, d1, ds1, p1, q1, rfl, rfl, rfl, h1, r1⟩ := trodAll_cons r0
  obtain ⟨rfl, rfl, rfl⟩ := trodAll_nil r1
  obtain rfl : args = #[v0, v1] := by cases args; simp_all
  obtain ⟨A0, n0, c0, xs0, rfl, hz0, hr0, hb0, hn0, hc0⟩ := open_rowc Try.underlying22 Try.underlying5 (by kernel_rfl) (hval 0 22 v0 rfl rfl) h0
  obtain ⟨a1, rfl, rfl, rfl, w1⟩ := open_int Try.underlying3 (hval 1 3 v1 rfl rfl) h1
  refine (walk tableOK A0 n0 c0 xs0 a1 W hz0 hr0 (range_bytes hb0) hn0 hc0).mono fun e W' ⟨he, hb⟩ => ⟨_, he, hpost W' hb⟩

/-- The statement. -/
theorem proved : Rows.TableRecordsSaid :=
  OpenClaim.holds_of_wide 5 Try.f5 rfl rfl rfl rfl rfl rfl rfl ⟨rfl, rfl, rfl, rfl, rfl⟩ rfl rfl rfl rfl rfl (by kernel_rfl) Try.func5 (by kernel_rfl)
    (of_decide_eq_true (by kernel_rfl)) (by unfold Func.isWrapper; first | (rw [if_pos (by decide +kernel)]; kernel_rfl) | (rw [if_neg (by decide +kernel)]; exact ⟨rfl, rfl⟩))
    (fun os started H enc _ => lifted os started H enc)
#print axioms proved

end Go.Proofs.Ytbbkdgbgfncjaaa.tableRecords
