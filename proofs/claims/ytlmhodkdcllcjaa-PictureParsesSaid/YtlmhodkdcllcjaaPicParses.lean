/- PictureParses: whatever bytes are read, where their pixels are is told as the document says, by both forms, and what was handed in stays. For all bytes. -/
import Derived.Test.YtlmhodkdcllcjaaPicAw
import Derived.Test.YtlmhodkdcllcjaaHelpByte
namespace Go.Proofs.Ytlmhodkdcllcjaa.pictureParses
open Go.ChangeShapes Go.WideShapes Go.ChangeAt Go.RowKit

attribute [local go_sem ↓] Go.wp_at_zero Go.wp_at_succ

theorem pval_form (o : Option (Nat × Nat × Nat × Nat × Nat)) : ∃ a b c d e : Int, pval o = .agg #[.int .i64 a, .int .i64 b, .int .i64 c, .int .i64 d, .int .i64 e] := by
  rcases o with _ | ⟨a, b, c, d, e⟩
  · exact ⟨0, 0, 0, 0, 0, rfl⟩
  · exact ⟨a, b, c, d, e, rfl⟩

set_option maxRecDepth 100000 in
set_option maxHeartbeats 6400000 in
theorem walk (A : Option Addr) (n c : Nat) (xs : List Int) (w : World) (hz : A = none → c = 0) (hr : Row w .u8 A n xs) (hb : ∀ x ∈ xs, 0 ≤ x ∧ x < 256) (_ : n ≤ maxLen) (hnc : n ≤ c) :
    Calls Try.prog 3 #[.slice A n c] w fun e w' => e = .returned (.bool true) ∧ Below w.heap.size w w' := by
  by_cases hlong : 5000 < n
  · have h1 : 5000 < (n : Int) := by omega
    have HA := Lib.hid (awakeP_any w)
    clear hr
    go_enter Try.func3, Try.ntmps3
    go_wp2_with fail
    refine HA.out.mono ?_
    rintro e w1 ⟨rfl, hf⟩
    have HF := Lib.hid hf.toBelow
    clear hf HA
    go_wp2_with fail
    go_ret
    exact ⟨rfl, HF.out⟩
  · have h1 : ¬ 5000 < (n : Int) := by omega
    have HO := Lib.hid (hOwnByte_any A n c xs 71 w hr hz (by omega))
    have hlen := hr.len
    have HN : Hid (n ≤ 5000 ∧ n ≤ c ∧ xs.length = n) := Lib.hid ⟨by omega, hnc, hlen⟩
    have HR := Lib.hid (And.intro hr hb)
    obtain ⟨a0, a1, a2, a3, a4, ea⟩ := pval_form (bmpP xs)
    obtain ⟨b0, b1, b2, b3, b4, eb⟩ := pval_form (pnmP xs)
    obtain ⟨c0, c1, c2, c3, c4, ec⟩ := pval_form (picP xs)
    have KB : ∀ (B : Option Addr) (d : Nat), n ≤ d → Hid (∀ V, Row V .u8 B n xs → Calls Try.prog 9 #[.slice B n d] V fun e w' => e = .returned (.tuple #[.agg #[.int .i64 a0, .int .i64 a1, .int .i64 a2, .int .i64 a3, .int .i64 a4], .bool (bmpP xs).isSome]) ∧ Fresh V w') := fun B d hd => Lib.hid fun V hV => by
      have := cBmp_any B n d xs V hV HR.out.2 (by have := HN.out.1; omega) hd
      rw [ea] at this
      exact this
    have KP : ∀ (B : Option Addr) (d : Nat), Hid (∀ V, Row V .u8 B n xs → Calls Try.prog 11 #[.slice B n d] V fun e w' => e = .returned (.tuple #[.agg #[.int .i64 b0, .int .i64 b1, .int .i64 b2, .int .i64 b3, .int .i64 b4], .bool (pnmP xs).isSome]) ∧ Fresh V w') := fun B d => Lib.hid fun V hV => by
      have := cPnm_any B n d xs V hV HR.out.2 (by have := HN.out.1; omega)
      rw [eb] at this
      exact this
    have KQ : ∀ (B : Option Addr) (d : Nat), n ≤ d → Hid (∀ V, Row V .u8 B n xs → Calls Try.prog 13 #[.slice B n d] V fun e w' => e = .returned (.tuple #[.agg #[.int .i64 c0, .int .i64 c1, .int .i64 c2, .int .i64 c3, .int .i64 c4], .bool (picP xs).isSome]) ∧ Fresh V w') := fun B d hd => Lib.hid fun V hV => by
      have := cPic_any B n d xs V hV HR.out.2 (by have := HN.out.1; omega) hd
      rw [ec] at this
      exact this
    have LB : Hid (∀ V, Fresh w V → Calls Try.prog 10 #[.slice A n c] V fun e w' => e = .returned (.tuple #[.agg #[.int .i64 a0, .int .i64 a1, .int .i64 a2, .int .i64 a3, .int .i64 a4], .bool (bmpP xs).isSome]) ∧ Fresh V w') := Lib.hid fun V hV => by
      have := qBmp_any A n c xs V (HR.out.1.kept hV (fun _ _ _ _ => id)) HR.out.2 (by have := HN.out.1; omega) hnc
      rw [ea] at this
      exact this
    have LP : Hid (∀ V, Fresh w V → Calls Try.prog 12 #[.slice A n c] V fun e w' => e = .returned (.tuple #[.agg #[.int .i64 b0, .int .i64 b1, .int .i64 b2, .int .i64 b3, .int .i64 b4], .bool (pnmP xs).isSome]) ∧ Fresh V w') := Lib.hid fun V hV => by
      have := qPnm_any A n c xs V (HR.out.1.kept hV (fun _ _ _ _ => id)) HR.out.2 (by have := HN.out.1; omega)
      rw [eb] at this
      exact this
    have LQ : Hid (∀ V, Fresh w V → Calls Try.prog 14 #[.slice A n c] V fun e w' => e = .returned (.tuple #[.agg #[.int .i64 c0, .int .i64 c1, .int .i64 c2, .int .i64 c3, .int .i64 c4], .bool (picP xs).isSome]) ∧ Fresh V w') := Lib.hid fun V hV => by
      have := qPic_any A n c xs V (HR.out.1.kept hV (fun _ _ _ _ => id)) HR.out.2 (by have := HN.out.1; omega) hnc
      rw [ec] at this
      exact this
    clear ea eb ec
    have KB := Lib.hid KB
    have KP := Lib.hid KP
    have KQ := Lib.hid KQ
    generalize (bmpP xs).isSome = ba at *
    generalize (pnmP xs).isSome = bp at *
    generalize (picP xs).isSome = bq at *
    have hn5 : n ≤ 5000 := HN.out.1
    clear hr hb hlen hnc hlong
    go_enter Try.func3, Try.ntmps3
    go_wp2_with fail
    refine HO.out.mono ?_
    rintro e w1 ⟨q, rfl, hq, hqs, hf1⟩
    have HC : Hid (∀ V, Fresh w1 V → Row V .u8 (some ⟨q, 0, none⟩) n xs ∧ Copy V q 5 .u8 xs 71) := Lib.hid fun V hV => by
      have hq' : Copy V q 5 .u8 xs 71 := ⟨hq.blk.kept hV id⟩
      have := hq'.row
      rw [HN.out.2.2] at this
      exact ⟨this, hq'⟩
    have G0 : Hid (Fresh w1 w1 ∧ Fresh w w1) := Lib.hid ⟨Kept.refl _ _, hf1⟩
    have MB := Lib.hid ((KB.out (some ⟨q, 0, none⟩) (n + 3) (by omega)).out)
    have MP := Lib.hid ((KP.out (some ⟨q, 0, none⟩) (n + 3)).out)
    have MQ := Lib.hid ((KQ.out (some ⟨q, 0, none⟩) (n + 3) (by omega)).out)
    clear hq hf1 HO KB KP KQ
    go_wp2_with fail
    refine (MB.out _ (HC.out _ G0.out.1).1).mono ?_
    rintro e v1 ⟨rfl, hf⟩
    have G1 : Hid (Fresh w1 (v1.alloc (.cells #[.int .i64 a0, .int .i64 a1, .int .i64 a2, .int .i64 a3, .int .i64 a4] 26)) ∧ Fresh w (v1.alloc (.cells #[.int .i64 a0, .int .i64 a1, .int .i64 a2, .int .i64 a3, .int .i64 a4] 26))) := Lib.hid ⟨(G0.out.1.trans hf fun _ _ e => e).alloc _, (G0.out.2.trans hf fun _ _ e => e).alloc _⟩
    have P0_1 := Lib.hid (Blk.new v1 26 #[.int .i64 a0, .int .i64 a1, .int .i64 a2, .int .i64 a3, .int .i64 a4])
    clear hf G0 MB
    go_wp2_with fail
    refine (LB.out _ G1.out.2).mono ?_
    rintro e v2 ⟨rfl, hf⟩
    have G2 : Hid (Fresh w1 (v2.alloc (.cells #[.int .i64 a0, .int .i64 a1, .int .i64 a2, .int .i64 a3, .int .i64 a4] 26)) ∧ Fresh w (v2.alloc (.cells #[.int .i64 a0, .int .i64 a1, .int .i64 a2, .int .i64 a3, .int .i64 a4] 26))) := Lib.hid ⟨(G1.out.1.trans hf fun _ _ e => e).alloc _, (G1.out.2.trans hf fun _ _ e => e).alloc _⟩
    have P0_2 := Lib.hid (((P0_1.out).kept hf id).alloc (.cells #[.int .i64 a0, .int .i64 a1, .int .i64 a2, .int .i64 a3, .int .i64 a4] 26))
    have P1_2 := Lib.hid (Blk.new v2 26 #[.int .i64 a0, .int .i64 a1, .int .i64 a2, .int .i64 a3, .int .i64 a4])
    clear hf G1 LB P0_1
    go_wp2_with fail
    refine (MP.out _ (HC.out _ G2.out.1).1).mono ?_
    rintro e v3 ⟨rfl, hf⟩
    have G3 : Hid (Fresh w1 (v3.alloc (.cells #[.int .i64 b0, .int .i64 b1, .int .i64 b2, .int .i64 b3, .int .i64 b4] 26)) ∧ Fresh w (v3.alloc (.cells #[.int .i64 b0, .int .i64 b1, .int .i64 b2, .int .i64 b3, .int .i64 b4] 26))) := Lib.hid ⟨(G2.out.1.trans hf fun _ _ e => e).alloc _, (G2.out.2.trans hf fun _ _ e => e).alloc _⟩
    have P0_3 := Lib.hid (((P0_2.out).kept hf id).alloc (.cells #[.int .i64 b0, .int .i64 b1, .int .i64 b2, .int .i64 b3, .int .i64 b4] 26))
    have P1_3 := Lib.hid (((P1_2.out).kept hf id).alloc (.cells #[.int .i64 b0, .int .i64 b1, .int .i64 b2, .int .i64 b3, .int .i64 b4] 26))
    have P2_3 := Lib.hid (Blk.new v3 26 #[.int .i64 b0, .int .i64 b1, .int .i64 b2, .int .i64 b3, .int .i64 b4])
    clear hf G2 MP P0_2 P1_2
    go_wp2_with fail
    refine (LP.out _ G3.out.2).mono ?_
    rintro e v4 ⟨rfl, hf⟩
    have G4 : Hid (Fresh w1 (v4.alloc (.cells #[.int .i64 b0, .int .i64 b1, .int .i64 b2, .int .i64 b3, .int .i64 b4] 26)) ∧ Fresh w (v4.alloc (.cells #[.int .i64 b0, .int .i64 b1, .int .i64 b2, .int .i64 b3, .int .i64 b4] 26))) := Lib.hid ⟨(G3.out.1.trans hf fun _ _ e => e).alloc _, (G3.out.2.trans hf fun _ _ e => e).alloc _⟩
    have P0_4 := Lib.hid (((P0_3.out).kept hf id).alloc (.cells #[.int .i64 b0, .int .i64 b1, .int .i64 b2, .int .i64 b3, .int .i64 b4] 26))
    have P1_4 := Lib.hid (((P1_3.out).kept hf id).alloc (.cells #[.int .i64 b0, .int .i64 b1, .int .i64 b2, .int .i64 b3, .int .i64 b4] 26))
    have P2_4 := Lib.hid (((P2_3.out).kept hf id).alloc (.cells #[.int .i64 b0, .int .i64 b1, .int .i64 b2, .int .i64 b3, .int .i64 b4] 26))
    have P3_4 := Lib.hid (Blk.new v4 26 #[.int .i64 b0, .int .i64 b1, .int .i64 b2, .int .i64 b3, .int .i64 b4])
    clear hf G3 LP P0_3 P1_3 P2_3
    go_wp2_with fail
    refine (MQ.out _ (HC.out _ G4.out.1).1).mono ?_
    rintro e v5 ⟨rfl, hf⟩
    have G5 : Hid (Fresh w1 (v5.alloc (.cells #[.int .i64 c0, .int .i64 c1, .int .i64 c2, .int .i64 c3, .int .i64 c4] 26)) ∧ Fresh w (v5.alloc (.cells #[.int .i64 c0, .int .i64 c1, .int .i64 c2, .int .i64 c3, .int .i64 c4] 26))) := Lib.hid ⟨(G4.out.1.trans hf fun _ _ e => e).alloc _, (G4.out.2.trans hf fun _ _ e => e).alloc _⟩
    have P0_5 := Lib.hid (((P0_4.out).kept hf id).alloc (.cells #[.int .i64 c0, .int .i64 c1, .int .i64 c2, .int .i64 c3, .int .i64 c4] 26))
    have P1_5 := Lib.hid (((P1_4.out).kept hf id).alloc (.cells #[.int .i64 c0, .int .i64 c1, .int .i64 c2, .int .i64 c3, .int .i64 c4] 26))
    have P2_5 := Lib.hid (((P2_4.out).kept hf id).alloc (.cells #[.int .i64 c0, .int .i64 c1, .int .i64 c2, .int .i64 c3, .int .i64 c4] 26))
    have P3_5 := Lib.hid (((P3_4.out).kept hf id).alloc (.cells #[.int .i64 c0, .int .i64 c1, .int .i64 c2, .int .i64 c3, .int .i64 c4] 26))
    have P4_5 := Lib.hid (Blk.new v5 26 #[.int .i64 c0, .int .i64 c1, .int .i64 c2, .int .i64 c3, .int .i64 c4])
    clear hf G4 MQ P0_4 P1_4 P2_4 P3_4
    go_wp2_with fail
    refine (LQ.out _ G5.out.2).mono ?_
    rintro e v6 ⟨rfl, hf⟩
    have G6 : Hid (Fresh w1 (v6.alloc (.cells #[.int .i64 c0, .int .i64 c1, .int .i64 c2, .int .i64 c3, .int .i64 c4] 26)) ∧ Fresh w (v6.alloc (.cells #[.int .i64 c0, .int .i64 c1, .int .i64 c2, .int .i64 c3, .int .i64 c4] 26))) := Lib.hid ⟨(G5.out.1.trans hf fun _ _ e => e).alloc _, (G5.out.2.trans hf fun _ _ e => e).alloc _⟩
    have P0_6 := Lib.hid (((P0_5.out).kept hf id).alloc (.cells #[.int .i64 c0, .int .i64 c1, .int .i64 c2, .int .i64 c3, .int .i64 c4] 26))
    have P1_6 := Lib.hid (((P1_5.out).kept hf id).alloc (.cells #[.int .i64 c0, .int .i64 c1, .int .i64 c2, .int .i64 c3, .int .i64 c4] 26))
    have P2_6 := Lib.hid (((P2_5.out).kept hf id).alloc (.cells #[.int .i64 c0, .int .i64 c1, .int .i64 c2, .int .i64 c3, .int .i64 c4] 26))
    have P3_6 := Lib.hid (((P3_5.out).kept hf id).alloc (.cells #[.int .i64 c0, .int .i64 c1, .int .i64 c2, .int .i64 c3, .int .i64 c4] 26))
    have P4_6 := Lib.hid (((P4_5.out).kept hf id).alloc (.cells #[.int .i64 c0, .int .i64 c1, .int .i64 c2, .int .i64 c3, .int .i64 c4] 26))
    have P5_6 := Lib.hid (Blk.new v6 26 #[.int .i64 c0, .int .i64 c1, .int .i64 c2, .int .i64 c3, .int .i64 c4])
    clear hf G5 LQ P0_5 P1_5 P2_5 P3_5 P4_5
    go_wp2_with fail
    refine (awakeP_any _).mono ?_
    rintro e wz ⟨rfl, hf⟩
    have hb0 := (P0_6.out).kept hf id
    have d00 : wz.cell? ⟨v1.heap.size, 0, none⟩ = some (.int .i64 a0) := (hb0.cell 0).trans rfl
    have d01 : wz.cell? ⟨v1.heap.size, 1, none⟩ = some (.int .i64 a1) := (hb0.cell 1).trans rfl
    have d02 : wz.cell? ⟨v1.heap.size, 2, none⟩ = some (.int .i64 a2) := (hb0.cell 2).trans rfl
    have d03 : wz.cell? ⟨v1.heap.size, 3, none⟩ = some (.int .i64 a3) := (hb0.cell 3).trans rfl
    have d04 : wz.cell? ⟨v1.heap.size, 4, none⟩ = some (.int .i64 a4) := (hb0.cell 4).trans rfl
    have hb1 := (P1_6.out).kept hf id
    have d10 : wz.cell? ⟨v2.heap.size, 0, none⟩ = some (.int .i64 a0) := (hb1.cell 0).trans rfl
    have d11 : wz.cell? ⟨v2.heap.size, 1, none⟩ = some (.int .i64 a1) := (hb1.cell 1).trans rfl
    have d12 : wz.cell? ⟨v2.heap.size, 2, none⟩ = some (.int .i64 a2) := (hb1.cell 2).trans rfl
    have d13 : wz.cell? ⟨v2.heap.size, 3, none⟩ = some (.int .i64 a3) := (hb1.cell 3).trans rfl
    have d14 : wz.cell? ⟨v2.heap.size, 4, none⟩ = some (.int .i64 a4) := (hb1.cell 4).trans rfl
    have hb2 := (P2_6.out).kept hf id
    have d20 : wz.cell? ⟨v3.heap.size, 0, none⟩ = some (.int .i64 b0) := (hb2.cell 0).trans rfl
    have d21 : wz.cell? ⟨v3.heap.size, 1, none⟩ = some (.int .i64 b1) := (hb2.cell 1).trans rfl
    have d22 : wz.cell? ⟨v3.heap.size, 2, none⟩ = some (.int .i64 b2) := (hb2.cell 2).trans rfl
    have d23 : wz.cell? ⟨v3.heap.size, 3, none⟩ = some (.int .i64 b3) := (hb2.cell 3).trans rfl
    have d24 : wz.cell? ⟨v3.heap.size, 4, none⟩ = some (.int .i64 b4) := (hb2.cell 4).trans rfl
    have hb3 := (P3_6.out).kept hf id
    have d30 : wz.cell? ⟨v4.heap.size, 0, none⟩ = some (.int .i64 b0) := (hb3.cell 0).trans rfl
    have d31 : wz.cell? ⟨v4.heap.size, 1, none⟩ = some (.int .i64 b1) := (hb3.cell 1).trans rfl
    have d32 : wz.cell? ⟨v4.heap.size, 2, none⟩ = some (.int .i64 b2) := (hb3.cell 2).trans rfl
    have d33 : wz.cell? ⟨v4.heap.size, 3, none⟩ = some (.int .i64 b3) := (hb3.cell 3).trans rfl
    have d34 : wz.cell? ⟨v4.heap.size, 4, none⟩ = some (.int .i64 b4) := (hb3.cell 4).trans rfl
    have hb4 := (P4_6.out).kept hf id
    have d40 : wz.cell? ⟨v5.heap.size, 0, none⟩ = some (.int .i64 c0) := (hb4.cell 0).trans rfl
    have d41 : wz.cell? ⟨v5.heap.size, 1, none⟩ = some (.int .i64 c1) := (hb4.cell 1).trans rfl
    have d42 : wz.cell? ⟨v5.heap.size, 2, none⟩ = some (.int .i64 c2) := (hb4.cell 2).trans rfl
    have d43 : wz.cell? ⟨v5.heap.size, 3, none⟩ = some (.int .i64 c3) := (hb4.cell 3).trans rfl
    have d44 : wz.cell? ⟨v5.heap.size, 4, none⟩ = some (.int .i64 c4) := (hb4.cell 4).trans rfl
    have hb5 := (P5_6.out).kept hf id
    have d50 : wz.cell? ⟨v6.heap.size, 0, none⟩ = some (.int .i64 c0) := (hb5.cell 0).trans rfl
    have d51 : wz.cell? ⟨v6.heap.size, 1, none⟩ = some (.int .i64 c1) := (hb5.cell 1).trans rfl
    have d52 : wz.cell? ⟨v6.heap.size, 2, none⟩ = some (.int .i64 c2) := (hb5.cell 2).trans rfl
    have d53 : wz.cell? ⟨v6.heap.size, 3, none⟩ = some (.int .i64 c3) := (hb5.cell 3).trans rfl
    have d54 : wz.cell? ⟨v6.heap.size, 4, none⟩ = some (.int .i64 c4) := (hb5.cell 4).trans rfl
    have GZ := Lib.hid (And.intro (G6.out.1.trans hf fun _ _ e => e) (G6.out.2.trans hf fun _ _ e => e))
    have HK := Lib.hid (hKeptByte_any q n c A xs 71 wz (HC.out _ GZ.out.1).2 (HR.out.1.kept GZ.out.2 (fun _ _ _ _ => id)) (by have := HN.out.1; omega))
    clear hf G6 hb0 P0_6 hb1 P1_6 hb2 P2_6 hb3 P3_6 hb4 P4_6 hb5 P5_6
    go_wp2_with fail
    refine HK.out.mono ?_
    rintro e w7 ⟨rfl, k7, rfl⟩
    have H7 := Lib.hid (GZ.out.2.drewN k7).toBelow
    clear GZ HK
    go_wp2_with fail
    go_ret
    exact ⟨rfl, H7.out⟩

set_option maxRecDepth 100000 in
theorem lifted (os : Os) (started : os.Started) (H : Type) (enc : TypeId × Value → H) :
    ReturnsInHanded {} Try.checked os 3 .any (Rows.pictureParsesSpec.pre6 enc Try.prog Try.f3 Rows.pictureParsesRow.domain false) (Rows.pictureParsesSpec.post enc Try.prog Try.f3 false true false false) := by
  refine returnsInHanded_of_change (C := Try.checked) Try.own started (by kernel_rfl) Try.func3
    (ChangeSpec.witness6 (enc := enc) (C := Try.checked) false ⟨#[], #[.slice none 0 0], []⟩ 8 (by kernel_rfl) (by kernel_rfl) (by kernel_rfl) (by kernel_rfl)) ?_
  intro W base args ds gs before hval0 hW hcnd _
  have hval : ∀ (j : Nat) t v, Try.f3.params[j]? = some t → args[j]? = some v → Value.okWide Try.prog W .any base t v := hval0
  have hpost : ∀ W', Below W.heap.size W W' → Rows.pictureParsesSpec.post enc Try.prog Try.f3 false true false false W args (.bool true) W' := fun W' hb =>
    law_post (by kernel_rfl) Try.underlying4 (by kernel_rfl) rfl (fun ds hl => match ds, hl with | [d1], _ => ⟨rfl, rfl, rfl⟩) hW hb
  obtain ⟨p, q, hA0, hV, rfl, hfz, hnd⟩ := hW
  have hA : DataW.TrodAll enc Try.prog W 0 (fun _ => true) true Try.f3.params.toList args.toList ds p := hA0
  rw [Try.params3] at hA hval
  obtain ⟨v0, vs0, d0, ds0, p0, q0, hargs, rfl, rfl, h0, r0⟩ := trodAll_cons hA
  obtain ⟨rfl, rfl, rfl⟩ := trodAll_nil r0
  obtain rfl : args = #[v0] := by cases args; simp_all
  obtain ⟨A0, n0, c0, xs0, rfl, hz0, hr0, hb0, hn0, hc0⟩ := open_rowc Try.underlying22 Try.underlying5 (by kernel_rfl) (hval 0 22 v0 rfl rfl) h0
  refine (walk A0 n0 c0 xs0 W hz0 hr0 (range_bytes hb0) hn0 hc0).mono fun e W' ⟨he, hb⟩ => ⟨_, he, hpost W' hb⟩

/-- The statement. -/
theorem proved : Rows.PictureParsesSaid :=
  OpenClaim.holds_of_wide 3 Try.f3 rfl rfl rfl rfl rfl rfl rfl ⟨rfl, rfl, rfl, rfl, rfl⟩ rfl rfl rfl rfl rfl (by kernel_rfl) Try.func3 (by kernel_rfl)
    (of_decide_eq_true (by kernel_rfl)) (by unfold Func.isWrapper; first | (rw [if_pos (by decide +kernel)]; kernel_rfl) | (rw [if_neg (by decide +kernel)]; exact ⟨rfl, rfl⟩))
    (fun os started H enc _ => lifted os started H enc)
#print axioms proved

end Go.Proofs.Ytlmhodkdcllcjaa.pictureParses
