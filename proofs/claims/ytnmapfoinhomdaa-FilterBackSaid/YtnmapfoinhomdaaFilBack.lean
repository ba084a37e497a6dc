/- FilterBack: what is turned by any kind is turned back; what is applied is undone, and has a byte more for each row. -/
import Derived.Test.YtnmapfoinhomdaaFilCw
import Derived.Test.YtnmapfoinhomdaaHelpStr
import Derived.Test.YtnmapfoinhomdaaArgs
namespace Go.Proofs.Ytnmapfoinhomdaa.filterBack
open Go.ChangeShapes Go.WideShapes Go.ChangeAt Go.RowKit

attribute [local go_sem ↓] Go.wp_at_zero Go.wp_at_succ

theorem run_slice_upto {P : Program} (t e : TypeId) (ht : P.underlying t = some (.slice e)) (hc : ∀ w, (sizeOf e).run P w = .ok 1 w) (A : Option Addr) (n c h : Nat) (hh : h ≤ c) (W : World) :
    (Instr.slice t (.slice A n c) none (some (.int .i64 (h : Int))) none).run P W = .ok (.slice A h c) W := by
  have he : P.elem t = e := by simp [Program.elem, ht]
  rw [run_slice_h W t A n c (by rw [he]; exact ht) .i64 (h : Int) (by omega) (by omega), he, hc]
  have h0 : ∀ a : Addr, a.add 0 = a := fun a => by unfold Addr.add; split <;> simp_all
  cases A <;> simp [Result.andThen, sliced, h0]
/-- What is applied is undone, all told. -/
theorem back_all {b : List Int} {W P : Nat} (hW : 1 ≤ W ∧ W ≤ 1048576) (hP : 1 ≤ P ∧ P ≤ 4) (h8 : B8 b) (hm : b.length % W = 0) (hl : b.length ≤ 1048576) :
    apO b W P = (apF b W (plN P), 0) ∧ udO (apF b W (plN P)) W P = (b, 0) ∧ (apF b W (plN P)).length = b.length + b.length / W := by
  obtain ⟨e1, e2, e3⟩ := undo_apply (n := plN P) (plN_in P).1 hW.1 h8 hm
  have e4 : b.length / W * W = b.length := by
    have := Nat.div_add_mod b.length W
    rw [hm, Nat.mul_comm] at this
    omega
  have e5 : (apF b W (plN P)).length = b.length / W * (W + 1) := by rw [e3, Nat.mul_add, e4, Nat.mul_one]
  refine ⟨?_, ?_, e3⟩
  · rw [apO, if_pos ⟨by omega, by omega, by omega, by omega, hl, by rw [Int.toNat_natCast]; exact hm⟩, Int.toNat_natCast]
  · rw [udO, if_pos ⟨by omega, by omega, by omega, by omega, by rw [Int.toNat_natCast, e5]; exact Nat.mul_mod_left _ _, by
      rw [Int.toNat_natCast, e5, Nat.mul_div_cancel _ (by omega), ← e5, e3, Nat.add_sub_cancel]
      exact hl⟩, Int.toNat_natCast, if_pos e2, e1]

set_option maxRecDepth 100000 in
set_option maxHeartbeats 6400000 in
theorem walk (ok : FilterOK) (k : Int) (hk : I64 k) (A : Option Addr) (n c : Nat) (xs : List Int) (B : Option Addr) (m d : Nat) (ys : List Int) (p : Int) (hp : I64 p) (C : Option Addr) (n4 c4 : Nat) (zs : List Int) (wd : Int) (w : World)
    (_ : A = none → c = 0) (hr : Row w .u8 A n xs) (hb : ∀ x ∈ xs, 0 ≤ x ∧ x < 256) (_ : n ≤ maxLen) (hnc : n ≤ c) (_ : B = none → d = 0) (hr2 : Row w .u8 B m ys) (hb2 : ∀ x ∈ ys, 0 ≤ x ∧ x < 256) (_ : m ≤ maxLen) (hmd : m ≤ d)
    (_ : C = none → c4 = 0) (hr3 : Row w .u8 C n4 zs) (hb3 : ∀ x ∈ zs, 0 ≤ x ∧ x < 256) (_ : n4 ≤ maxLen) (hc4 : n4 ≤ c4) :
    Calls Try.prog 5 #[.int .i64 k, .slice A n c, .slice B m d, .int .i64 p, .slice C n4 c4, .int .i64 wd] w fun e w' => e = .returned (.bool true) ∧ Below w.heap.size w w' := by
  have hcs : 2000 < (n : Int) ∨ (¬ 2000 < (n : Int) ∧ 2000 < (m : Int)) ∨ (¬ 2000 < (n : Int) ∧ ¬ 2000 < (m : Int) ∧ 2000 < (n4 : Int)) ∨ (¬ 2000 < (n : Int) ∧ ¬ 2000 < (m : Int) ∧ ¬ 2000 < (n4 : Int)) := by omega
  rcases hcs with h1 | ⟨h1, h2⟩ | ⟨h1, h2, h3⟩ | ⟨h1, h2, h3⟩
  rotate_right
  · obtain ⟨i0, hi, hz0, hz1, hz2⟩ := info_parts Try.infoCol
    obtain ⟨r50, hr50, e50⟩ := u64_mod wd 50 (by omega)
    obtain ⟨r4, hr4, e4⟩ := u64_mod p 4 (by omega)
    obtain ⟨W, hW⟩ : ∃ W, W = 1 + r50 := ⟨_, rfl⟩
    obtain ⟨P, hP⟩ : ∃ P, P = 1 + r4 := ⟨_, rfl⟩
    have t1 : 1 + (r50 : Int) = (W : Int) := by omega
    have t2 : 1 + (r4 : Int) = (P : Int) := by omega
    have r0 : (0 : Int) ≤ (r50 : Int) := by omega
    have r40 : (0 : Int) ≤ (r4 : Int) := by omega
    have hWr : 1 ≤ W ∧ W ≤ 50 := by omega
    have hPr : 1 ≤ P ∧ P ≤ 4 := by omega
    obtain ⟨q, hq⟩ : ∃ q, n4 / W = q := ⟨_, rfl⟩
    obtain ⟨L, hL⟩ : ∃ L, q * W = L := ⟨_, rfl⟩
    have hLn : L ≤ n4 := by rw [← hL, ← hq]; exact Nat.div_mul_le_self _ _
    have hqn : q ≤ n4 := by rw [← hq]; exact Nat.div_le_self _ _
    have hLq : L / W = q := by rw [← hL]; exact Nat.mul_div_cancel _ (by omega)
    have hLm : L % W = 0 := by rw [← hL]; exact Nat.mul_mod_left _ _
    obtain ⟨zt, hzt⟩ : ∃ z, zs.take L = z := ⟨_, rfl⟩
    have hrt : ∀ V, Fresh w V → Row V .u8 C L zt := fun V hV => by rw [← hzt]; exact (hr3.fresh hV).take hLn
    have hlt := (hrt w (Kept.refl _ _)).len
    have h8t : B8 zt := fun x hx => hb3 x (List.mem_of_mem_take (by rw [hzt]; exact hx))
    obtain ⟨b1, b2, b3⟩ := back_all (b := zt) (W := W) (P := P) (by omega) hPr h8t (by rw [hlt]; exact hLm) (by omega)
    have hX8 : B8 (apF zt W (plN P)) := apN_byte _ _ _ _
    rw [hlt, hLq] at b3
    generalize apF zt W (plN P) = X at *
    have HAp : Hid (∀ V, Fresh w V → Calls Try.prog 20 #[.slice C L c4, .int .i64 (W : Int), .int .i64 (P : Int)] V fun e w' => ToldE V w' e X 0) := Lib.hid fun V hV => by
      have h := ok.applyT c4 (wd := (W : Int)) (p := (P : Int)) (hrt V hV) h8t (by omega) (by omega) (by unfold I64; omega) (by unfold I64; omega)
      rw [b1] at h
      exact h
    have HUn : Hid (∀ V (D : Option Addr) (cD : Nat), Row V .u8 D (L + q) X → L + q ≤ cD → Calls Try.prog 22 #[.slice D (L + q) cD, .int .i64 (W : Int), .int .i64 (P : Int)] V fun e w' => ToldE V w' e zt 0) := Lib.hid fun V D cD hD hcD => by
      have h := ok.undoT cD (wd := (W : Int)) (p := (P : Int)) hD hX8 (by omega) hcD (by unfold I64; omega) (by unfold I64; omega)
      rw [b2] at h
      exact h
    have f1 : ((n4 : Nat) : Int) / (W : Int) = (q : Int) := by exact_mod_cast hq
    have f2 : (q : Int) * (W : Int) = (L : Int) := by exact_mod_cast hL
    have f3 : ((L : Nat) : Int) / (W : Int) = (q : Int) := by exact_mod_cast hLq
    have w1 : IntKind.i64.wrap ((q : Int) * (W : Int)) = (L : Int) := by rw [f2]; exact IntWalk.i64_in _ (by omega)
    have g1 : (W = 0) = False := by simp only [eq_iff_iff, iff_false]; omega
    have hsl : ∀ V, (Instr.slice 22 (.slice C n4 c4) none (some (.int .i64 (L : Int))) none).run Try.prog V = .ok (.slice C L c4) V := fun V => run_slice_upto (P := Try.prog) 22 5 Try.underlying22 (fun w => by simp [sizeOf, typeInfo, hi, hz1]) C n4 c4 L (by omega) V
    have HN : Hid (L ≤ 2000 ∧ q ≤ 2000 ∧ X.length = L + q) := Lib.hid ⟨by omega, by omega, b3⟩
    have HT : Hid (∀ V, Fresh w V → Row V .u8 C L zt) := Lib.hid hrt
    have H8 : Hid (∀ x ∈ zt, 0 ≤ x ∧ x < 256) := Lib.hid h8t
    have HQ : Hid (∀ V, Fresh w V → Row V .u8 A n xs ∧ Row V .u8 B m ys) := Lib.hid fun V hV => ⟨hr.fresh hV, hr2.fresh hV⟩
    have HB : Hid ((B8 xs ∧ B8 ys) ∧ (I64 k ∧ I64 p)) := Lib.hid ⟨⟨hb, hb2⟩, hk, hp⟩
    have HO := Lib.hid ok
    have HA := Lib.hid (awakeF_any ok w)
    have HUR := Lib.hid (And.intro (un_row (k := k) (row := xs) (up := ys) (plN_in p).1 hb) (row_un (k := k) (row := xs) (up := ys) (plN_in p).1 hb))
    have L0 : (L : Int) ≤ 2000 := by omega
    have q0 : (q : Int) ≤ 2000 := by omega
    clear hr hb ok hk hp hr2 hb2 hr3 hb3 hrt h8t hX8 b1 b2 b3 hlt hzt hLm hLq hL hq hW hP
    go_enter Try.func5, Try.ntmps5
    go_wp2_with fail
    refine HA.out.mono ?_
    rintro e w2 ⟨rfl, hf2⟩
    have HF2 := Lib.hid hf2
    clear hf2 HA
    have HC2 := Lib.hid (HO.out.rowT (k := k) c d (HQ.out w2 HF2.out).1 (HQ.out w2 HF2.out).2 HB.out.1.1 HB.out.1.2 (by omega) (by omega) hnc hmd HB.out.2.1 HB.out.2.2)
    go_wp2_with fail
    refine HC2.out.mono ?_
    rintro e w3 ⟨B2, d2, rfl, hr2, hd2, hf2⟩
    have HF3 := Lib.hid (Fresh.two HF2.out hf2)
    have HR2 : Hid (∀ V, Fresh w3 V → Row V .u8 B2 n (rowF k xs ys (plN p))) := Lib.hid fun V hV => hr2.fresh hV
    have HS2 := Lib.hid hf2
    clear hr2 hf2 HC2
    have HC3 := Lib.hid (show Calls _ _ _ w3 (fun e w' => ToldB w3 w' e n xs) from by have h := HO.out.unT (k := k) d2 d (HR2.out w3 (Kept.refl _ _)) (HQ.out w3 HF3.out).2 (rowF_byte _ _ _ _) HB.out.1.2 (by omega) (by omega) hd2 hmd HB.out.2.1 HB.out.2.2; rw [HUR.out.1] at h; exact h)
    go_wp2_with fail
    refine HC3.out.mono ?_
    rintro e w4 ⟨B3, d3, rfl, hr3, hd3, hf3⟩
    have HF4 := Lib.hid (Fresh.two HF3.out hf3)
    have HR3 : Hid (∀ V, Fresh w4 V → Row V .u8 B3 n (xs)) := Lib.hid fun V hV => hr3.fresh hV
    have HS3 := Lib.hid hf3
    clear hr3 hf3 HC3
    have HC4 := hBytes_any B3 A n n d3 c (xs) (xs) w4 (HR3.out w4 (Kept.refl _ _)) ((HQ.out w4 HF4.out).1) (HB.out.1.1) (HB.out.1.1)
    rw [show decide ((xs) = (xs)) = true from by simp] at HC4
    have HC4 := Lib.hid HC4
    go_wp2_with fail
    refine HC4.out.mono ?_
    rintro e wx ⟨rfl, rfl⟩
    clear HC4
    clear HR2 HR3 HS2 HS3 HF2 HF3
    have HC4 := Lib.hid (HO.out.unT (k := k) c d (HQ.out w4 HF4.out).1 (HQ.out w4 HF4.out).2 HB.out.1.1 HB.out.1.2 (by omega) (by omega) hnc hmd HB.out.2.1 HB.out.2.2)
    go_wp2_with fail
    refine HC4.out.mono ?_
    rintro e w5 ⟨B4, d4, rfl, hr4, hd4, hf4⟩
    have HF5 := Lib.hid (Fresh.two HF4.out hf4)
    have HR4 : Hid (∀ V, Fresh w5 V → Row V .u8 B4 n (unF k xs ys (plN p))) := Lib.hid fun V hV => hr4.fresh hV
    have HS4 := Lib.hid hf4
    clear hr4 hf4 HC4
    have HC5 := Lib.hid (show Calls _ _ _ w5 (fun e w' => ToldB w5 w' e n xs) from by have h := HO.out.rowT (k := k) d4 d (HR4.out w5 (Kept.refl _ _)) (HQ.out w5 HF5.out).2 (unN_byte _ _ _ _ _) HB.out.1.2 (by omega) (by omega) hd4 hmd HB.out.2.1 HB.out.2.2; rw [HUR.out.2] at h; exact h)
    go_wp2_with fail
    refine HC5.out.mono ?_
    rintro e w6 ⟨B5, d5, rfl, hr5, hd5, hf5⟩
    have HF6 := Lib.hid (Fresh.two HF5.out hf5)
    have HR5 : Hid (∀ V, Fresh w6 V → Row V .u8 B5 n (xs)) := Lib.hid fun V hV => hr5.fresh hV
    have HS5 := Lib.hid hf5
    clear hr5 hf5 HC5
    have HC6 := hBytes_any B5 A n n d5 c (xs) (xs) w6 (HR5.out w6 (Kept.refl _ _)) ((HQ.out w6 HF6.out).1) (HB.out.1.1) (HB.out.1.1)
    rw [show decide ((xs) = (xs)) = true from by simp] at HC6
    have HC6 := Lib.hid HC6
    go_wp2_with fail
    refine HC6.out.mono ?_
    rintro e wx ⟨rfl, rfl⟩
    clear HC6
    clear HR4 HR5 HS4 HS5 HF4 HF5
    have HAp6 := Lib.hid (HAp.out w6 HF6.out)
    clear HAp
    go_wp2_with fail
    refine HAp6.out.mono ?_
    rintro e w7 ⟨D, mD, cD, rfl, hrD, hcD, hf7⟩
    obtain rfl : mD = L + q := by have := hrD.len; have := HN.out.2.2; omega
    have HF7 := Lib.hid (Fresh.two HF6.out hf7)
    have HUn7 := Lib.hid (HUn.out w7 D cD hrD hcD)
    clear hrD hf7 HUn HAp6
    go_wp2_with fail
    refine HUn7.out.mono ?_
    rintro e w8 ⟨E, mE, cE, rfl, hrE, hcE, hf8⟩
    have HF8 := Lib.hid (Fresh.two HF7.out hf8)
    obtain rfl : mE = L := by have := hrE.len; have := (HT.out w8 HF8.out).len; omega
    have HBy := hBytes_any C E mE mE c4 cE zt zt w8 (HT.out w8 HF8.out) hrE H8.out H8.out
    rw [show decide (zt = zt) = true from by simp] at HBy
    have HBy := Lib.hid HBy
    have HL := Lib.hid HF8.out.toBelow
    clear hrE hf8 HUn7
    go_wp2_with fail
    refine HBy.out.mono ?_
    rintro e wx ⟨rfl, rfl⟩
    clear HBy
    go_wp2_with fail
    go_ret
    exact ⟨rfl, HL.out⟩
  all_goals
    have HA := Lib.hid (awakeF_any ok w)
    clear hr hr2 hr3 ok
    go_enter Try.func5, Try.ntmps5
    go_wp2_with fail
    refine HA.out.mono ?_
    rintro e w1 ⟨rfl, hf⟩
    have HF := Lib.hid hf.toBelow
    clear hf HA
    go_wp2_with fail
    go_ret
    exact ⟨rfl, HF.out⟩

set_option maxRecDepth 100000 in
theorem lifted (os : Os) (started : os.Started) (H : Type) (enc : TypeId × Value → H) :
    ReturnsInHanded {} Try.checked os 5 .any (Rows.filterBackSpec.pre6 enc Try.prog Try.f5 Rows.filterBackRow.domain false) (Rows.filterBackSpec.post enc Try.prog Try.f5 false true false false) := by
  refine returnsInHanded_of_change (C := Try.checked) Try.own started (by kernel_rfl) Try.func5
    (ChangeSpec.witness6 (enc := enc) (C := Try.checked) false ⟨#[], #[.int .i64 0, .slice none 0 0, .slice none 0 0, .int .i64 0, .slice none 0 0, .int .i64 0], []⟩ 8 (by kernel_rfl) (by kernel_rfl) (by kernel_rfl) (by kernel_rfl)) ?_
  intro W base args ds gs before hval0 hW hcnd _
  have hval : ∀ (j : Nat) t v, Try.f5.params[j]? = some t → args[j]? = some v → Value.okWide Try.prog W .any base t v := hval0
  have hpost : ∀ W', Below W.heap.size W W' → Rows.filterBackSpec.post enc Try.prog Try.f5 false true false false W args (.bool true) W' := fun W' hb =>
    law_post (by kernel_rfl) Try.underlying4 (by kernel_rfl) rfl (fun ds hl => match ds, hl with | [d1, d2, d3, d4, d5, d6], _ => ⟨rfl, rfl, rfl⟩) hW hb
  obtain ⟨p, q, hA0, hV, rfl, hfz, hnd⟩ := hW
  have hA : DataW.TrodAll enc Try.prog W 0 (fun _ => true) true Try.f5.params.toList args.toList ds p := hA0
  rw [Try.params5] at hA hval
  obtain ⟨v0, vs0, d0, ds0, p0, q0, hargs, rfl, rfl, h0, r0⟩ := trodAll_cons hA
  obtain ⟨v1, vs1, d1, ds1, p1, q1, rfl, rfl, rfl, h1, r1⟩ := trodAll_cons r0
  obtain ⟨v2, vs2, d2, ds2, p2, q2, rfl, rfl, rfl, h2, r2⟩ := trodAll_cons r1
  obtain ⟨v3, vs3, d3, ds3, p3, q3, rfl, rfl, rfl, h3, r3⟩ := trodAll_cons r2
  obtain ⟨v4, vs4, d4, ds4, p4, q4, rfl, rfl, rfl, h4, r4⟩ := trodAll_cons r3
  obtain ⟨v5, vs5, d5, ds5, p5, q5, rfl, rfl, rfl, h5, r5⟩ := trodAll_cons r4
  obtain ⟨rfl, rfl, rfl⟩ := trodAll_nil r5
  obtain rfl : args = #[v0, v1, v2, v3, v4, v5] := by cases args; simp_all
  obtain ⟨a0, rfl, rfl, rfl, w0⟩ := open_int Try.underlying3 (hval 0 3 v0 rfl rfl) h0
  obtain ⟨A1, n1, c1, xs1, rfl, hz1, hr1, hb1, hn1, hc1⟩ := open_rowc Try.underlying22 Try.underlying5 (by kernel_rfl) (hval 1 22 v1 rfl rfl) h1
  obtain ⟨A2, n2, c2, xs2, rfl, hz2, hr2, hb2, hn2, hc2⟩ := open_rowc Try.underlying22 Try.underlying5 (by kernel_rfl) (hval 2 22 v2 rfl rfl) h2
  obtain ⟨a3, rfl, rfl, rfl, w3⟩ := open_int Try.underlying3 (hval 3 3 v3 rfl rfl) h3
  obtain ⟨A4, n4, c4, xs4, rfl, hz4, hr4, hb4, hn4, hc4⟩ := open_rowc Try.underlying22 Try.underlying5 (by kernel_rfl) (hval 4 22 v4 rfl rfl) h4
  obtain ⟨a5, rfl, rfl, rfl, w5⟩ := open_int Try.underlying3 (hval 5 3 v5 rfl rfl) h5
  refine (walk filterOK a0 (bounds_i64 w0) A1 n1 c1 xs1 A2 n2 c2 xs2 a3 (bounds_i64 w3) A4 n4 c4 xs4 a5 W hz1 hr1 (range_bytes hb1) hn1 hc1 hz2 hr2 (range_bytes hb2) hn2 hc2 hz4 hr4 (range_bytes hb4) hn4 hc4).mono fun e W' ⟨he, hb⟩ => ⟨_, he, hpost W' hb⟩

/-- The statement. -/
theorem proved : Rows.FilterBackSaid :=
  OpenClaim.holds_of_wide 5 Try.f5 rfl rfl rfl rfl rfl rfl rfl ⟨rfl, rfl, rfl, rfl, rfl⟩ rfl rfl rfl rfl rfl (by kernel_rfl) Try.func5 (by kernel_rfl)
    (of_decide_eq_true (by kernel_rfl)) (by unfold Func.isWrapper; first | (rw [if_pos (by decide +kernel)]; kernel_rfl) | (rw [if_neg (by decide +kernel)]; exact ⟨rfl, rfl⟩))
    (fun os started H enc _ => lifted os started H enc)
#print axioms proved

end Go.Proofs.Ytnmapfoinhomdaa.filterBack
