/- PictureBmp: a file with a head that says what a bitmap has to say is read as one, as soon as all its rows are there; its rows are whole fours of bytes. For all numbers. -/
import Derived.Test.YtlmhodkdcllcjaaPicAw
import Derived.Test.YtlmhodkdcllcjaaPicBm
import Derived.Test.YtlmhodkdcllcjaaAppNew
import Derived.Lib.SlBytesConst
namespace Go.Proofs.Ytlmhodkdcllcjaa.pictureBmp
open Go.ChangeShapes Go.WideShapes Go.ChangeAt Go.RowKit

attribute [local go_sem ↓] Go.wp_at_zero Go.wp_at_succ

def lenOf : Value → Nat
  | .slice _ n _ => n
  | _ => 0

set_option maxRecDepth 100000 in
set_option maxHeartbeats 6400000 in
theorem walk (x0 x1 : Int) (colour below : Bool) (x4 x5 : Int) (w : World) :
    Calls Try.prog 6 #[.int .i64 x0, .int .i64 x1, .bool colour, .bool below, .int .i64 x4, .int .i64 x5] w fun e w' => e = .returned (.bool true) ∧ Below w.heap.size w w' := by
  obtain ⟨i0, hi, hz0, hz1, hz2⟩ := info_parts Try.infoByteQ
  obtain ⟨r0, hr0, er0⟩ := u64_mod x0 20 (by omega)
  obtain ⟨r1, hr1, er1⟩ := u64_mod x1 20 (by omega)
  obtain ⟨gp, hgp, egp⟩ := u64_mod x4 30 (by omega)
  obtain ⟨m, hm, em⟩ := u64_mod x5 3 (by omega)
  obtain ⟨a, ha⟩ : ∃ a, a = 1 + r0 := ⟨_, rfl⟩
  obtain ⟨b, hb⟩ : ∃ b, b = 1 + r1 := ⟨_, rfl⟩
  obtain ⟨f, hf⟩ : ∃ f, f = 54 + gp := ⟨_, rfl⟩
  have ea : (1 : Int) + (r0 : Int) = (a : Int) := by omega
  have eb : (1 : Int) + (r1 : Int) = (b : Int) := by omega
  have ef : (54 : Int) + (gp : Int) = (f : Int) := by omega
  have a20 : (a : Int) ≤ 20 := by omega
  have b20 : (b : Int) ≤ 20 := by omega
  have f84 : (f : Int) ≤ 84 := by omega
  have HG : Hid (1 ≤ a ∧ 1 ≤ b ∧ f = 54 + gp ∧ a ≤ 20 ∧ b ≤ 20 ∧ gp < 30 ∧ m < 3) := Lib.hid (by omega)
  have HL : Hid (∀ (V : World) (vi ni : Int) (v n : Nat), vi = v → ni = n → n ≤ 8 → Calls Try.prog 17 #[.int .u64 vi, .int .i64 ni] V fun e w' => ∃ u A c, e = .returned u ∧ u = .slice A n c ∧ Row w' .u8 A n (leBytes v n) ∧ Fresh V w') := Lib.hid fun V vi ni v n hv hn' h8 => by
    subst hv hn'
    refine (qLit_any v n V h8).mono ?_
    rintro e w' ⟨u, rfl, hu⟩
    obtain ⟨Au, cu, rfl, hru, _⟩ := hu.1.row
    rw [leBytes_length] at hru ⊢
    exact ⟨_, Au, cu, rfl, rfl, hru, hu.2.2⟩
  clear ha hb hf hr0 hr1 hgp
  cases colour with
  | true =>
    cases below with
    | true =>
      obtain ⟨st, hst⟩ : ∃ st, st = strB a 3 := ⟨_, rfl⟩
      obtain ⟨h, hh⟩ : ∃ h : Nat, h = 4294967296 - b := ⟨_, rfl⟩
      have HH : Hid (h < 4294967296 ∧ amt4 h = b) := Lib.hid (by
        have h1 := HG.out
        rw [hh]
        unfold amt4
        constructor
        · omega
        · split <;> omega)
      have est : ((a : Int) * 3 + 3) / 4 * 4 = (st : Int) := by rw [hst]; unfold strB; omega
      have eh : (4294967296 : Int) - (b : Int) = (h : Int) := by have h1 := HG.out; omega
      have st64 : st ≤ 64 := by rw [hst]; have h1 := HG.out; unfold strB; omega
      have st4 : 4 ≤ st := by rw [hst]; have h1 := HG.out; unfold strB; omega
      obtain ⟨sb, hsb⟩ : ∃ sb, sb = st * b := ⟨_, rfl⟩
      have esb : (st : Int) * (b : Int) = (sb : Int) := by rw [hsb]; simp
      have sb1 : sb ≤ 1280 := by rw [hsb]; exact Nat.mul_le_mul st64 HG.out.2.2.2.2.1
      have sb2 : 4 ≤ sb := by rw [hsb]; exact Nat.le_trans st4 (Nat.le_mul_of_pos_right _ HG.out.2.1)
      obtain ⟨nn, hnn⟩ : ∃ nn, nn = sb - m := ⟨_, rfl⟩
      have enn : (sb : Int) - (m : Int) = (nn : Int) := by omega
      have sb3 : (sb : Int) ≤ 1280 := by omega
      have nn3 : (nn : Int) ≤ 1280 := by omega
      have HS : Hid (st = strB a 3 ∧ sb = st * b ∧ nn = sb - m ∧ sb ≤ 1280 ∧ nn ≤ 1280 ∧ 4 ≤ sb) := Lib.hid (by omega)
      clear hst hh hsb hnn st64 st4 sb1 sb2 hm
      obtain ⟨W0, hW0⟩ : ∃ W0, W0 = w.alloc (.cells #[.int .i64 (a : Nat), .int .i64 (b : Nat), .int .i64 3, .int .i64 (st : Nat), .int .i64 (f : Nat)] 26) := ⟨_, rfl⟩
      have hb0 : Blk W0 w.heap.size 26 #[.int .i64 (a : Nat), .int .i64 (b : Nat), .int .i64 3, .int .i64 (st : Nat), .int .i64 (f : Nat)] := by rw [hW0]; exact Blk.new _ _ _
      have hf0 : Fresh w W0 := by rw [hW0]; exact (Kept.refl _ _).alloc _
      have hz : W0.heap.size = w.heap.size + 1 := by rw [hW0]; simp
      obtain ⟨W1, hW1⟩ : ∃ W1, W1 = W0.alloc (.cells (ivs .u8 bm0).toArray 5 ((ivs .u8 bm0).toArray.size, (ivs .u8 bm0).toArray.size + 1)) := ⟨_, rfl⟩
      obtain ⟨s0, hs0⟩ : ∃ s0 : Value, s0 = .slice (some ⟨w.heap.size + 1, 0, none⟩) 10 10 := ⟨_, rfl⟩
      have hcv : (convert 22 22 (.slice (some ⟨w.heap.size + 1, 0, none⟩) 10 10)).run Try.prog ((w.alloc (.cells #[.int .i64 (a : Nat), .int .i64 (b : Nat), .int .i64 3, .int .i64 (st : Nat), .int .i64 (f : Nat)] 26)).alloc (.cells #[.int .u8 66, .int .u8 77, .int .u8 0, .int .u8 0, .int .u8 0, .int .u8 0, .int .u8 0, .int .u8 0, .int .u8 0, .int .u8 0] 5)) = .ok s0 W1 := by
        rw [hs0]
        have := Lib.run_convert_bytes_const (P := Try.prog) W0 22 5 (ivs .u8 bm0).toArray 10 10 Try.underlying22 Try.underlying5
        rw [← hW1, hz, hW0] at this
        exact this
      have hr1 : Row W1 .u8 (some ⟨w.heap.size + 1, 0, none⟩) 10 bm0 := by rw [hW1, ← hz]; exact laidP W0 5 _ bm0
      have hf1 : Fresh W0 W1 := by rw [hW1]; exact (Kept.refl _ _).alloc _
      have k4 : W1.cell? ⟨w.heap.size, 4, none⟩ = some (.int .i64 (f : Nat)) := ((hb0.kept hf1 id).cell 4).trans rfl
      have HX := Lib.hid (And.intro hb0 (And.intro hf0 (And.intro hr1 hf1)))
      have HS0 := Lib.hid hs0
      clear hb0 hf0 hr1 hf1 hW0 hW1 hs0
      go_enter Try.func6, Try.ntmps6
      go_wp2_with fail
      clear hcv k4
      refine (HL.out _ _ _ (f) 4 (by rfl) rfl (by omega)).mono ?_
      rintro e V1 ⟨u1, A1, d1, rfl, hu1, r1, g1⟩
      have P1 := Lib.hid (And.intro (HX.out.2.2.2.trans g1 fun _ _ e => e) (HX.out.2.2.1.kept g1 (fun _ _ _ _ => id)))
      have R1 := Lib.hid (And.intro hu1 r1)
      clear hu1 r1 g1
      go_wp2_with (at_builtin; refine wpList_new_full _ W0 P1.out.1 rfl _ _ 22 rfl 5 i0 .u8 1 Try.underlying22 hi hz0 hz1 hz2 ⟨w.heap.size + 1, 0, none⟩ 10 bm0 HS0.out P1.out.2 A1 4 d1 _ R1.out.1 R1.out.2 (by omega) (by decide) (by decide) ?_; intro v1 X1 N1)
      obtain ⟨L1, hL1⟩ : ∃ L, L = bm0 ++ leBytes (f) 4 := ⟨_, rfl⟩
      rw [← hL1] at N1
      have l1 : L1.length = 14 := by rw [hL1, List.length_append, show bm0.length = 10 from rfl, leBytes_length]
      have HL1 := Lib.hid hL1
      clear hL1
      refine (HL.out _ _ _ (40) 4 (by rfl) rfl (by omega)).mono ?_
      rintro e V2 ⟨u2, A2, d2, rfl, hu2, r2, g2⟩
      have P2 := Lib.hid (N1.fresh g2)
      have R2 := Lib.hid (And.intro hu2 r2)
      clear N1 hu2 r2 g2
      go_wp2_with (at_builtin; refine wpList_new _ W0 rfl _ _ 22 rfl 5 i0 .u8 1 Try.underlying22 hi hz0 hz1 hz2 _ L1 rfl P2.out A2 4 d2 _ R2.out.1 R2.out.2 (by unfold maxLen; omega) (by omega) ?_; intro v2 X2 N2)
      obtain ⟨L2, hL2⟩ : ∃ L, L = L1 ++ leBytes (40) 4 := ⟨_, rfl⟩
      rw [← hL2] at N2
      have l2 : L2.length = 18 := by rw [hL2, List.length_append, l1, leBytes_length]
      have HL2 := Lib.hid hL2
      clear hL2
      refine (HL.out _ _ _ (a) 4 (by rfl) rfl (by omega)).mono ?_
      rintro e V3 ⟨u3, A3, d3, rfl, hu3, r3, g3⟩
      have P3 := Lib.hid (N2.fresh g3)
      have R3 := Lib.hid (And.intro hu3 r3)
      clear N2 hu3 r3 g3
      go_wp2_with (at_builtin; refine wpList_new _ W0 rfl _ _ 22 rfl 5 i0 .u8 1 Try.underlying22 hi hz0 hz1 hz2 _ L2 rfl P3.out A3 4 d3 _ R3.out.1 R3.out.2 (by unfold maxLen; omega) (by omega) ?_; intro v3 X3 N3)
      obtain ⟨L3, hL3⟩ : ∃ L, L = L2 ++ leBytes (a) 4 := ⟨_, rfl⟩
      rw [← hL3] at N3
      have l3 : L3.length = 22 := by rw [hL3, List.length_append, l2, leBytes_length]
      have HL3 := Lib.hid hL3
      clear hL3
      refine (HL.out _ _ _ (h) 4 (by first | rfl | omega) rfl (by omega)).mono ?_
      rintro e V4 ⟨u4, A4, d4, rfl, hu4, r4, g4⟩
      have P4 := Lib.hid (N3.fresh g4)
      have R4 := Lib.hid (And.intro hu4 r4)
      clear N3 hu4 r4 g4
      go_wp2_with (at_builtin; refine wpList_new _ W0 rfl _ _ 22 rfl 5 i0 .u8 1 Try.underlying22 hi hz0 hz1 hz2 _ L3 rfl P4.out A4 4 d4 _ R4.out.1 R4.out.2 (by unfold maxLen; omega) (by omega) ?_; intro v4 X4 N4)
      obtain ⟨L4, hL4⟩ : ∃ L, L = L3 ++ leBytes (h) 4 := ⟨_, rfl⟩
      rw [← hL4] at N4
      have l4 : L4.length = 26 := by rw [hL4, List.length_append, l3, leBytes_length]
      have HL4 := Lib.hid hL4
      clear hL4
      refine (HL.out _ _ _ (1) 2 (by rfl) rfl (by omega)).mono ?_
      rintro e V5 ⟨u5, A5, d5, rfl, hu5, r5, g5⟩
      have P5 := Lib.hid (N4.fresh g5)
      have R5 := Lib.hid (And.intro hu5 r5)
      clear N4 hu5 r5 g5
      go_wp2_with (at_builtin; refine wpList_new _ W0 rfl _ _ 22 rfl 5 i0 .u8 1 Try.underlying22 hi hz0 hz1 hz2 _ L4 rfl P5.out A5 2 d5 _ R5.out.1 R5.out.2 (by unfold maxLen; omega) (by omega) ?_; intro v5 X5 N5; have c2 : X5.cell? ⟨w.heap.size, 2, none⟩ = some (.int .i64 3) := ((HX.out.1.kept N5.2.2 id).cell 2).trans rfl)
      obtain ⟨L5, hL5⟩ : ∃ L, L = L4 ++ leBytes (1) 2 := ⟨_, rfl⟩
      rw [← hL5] at N5
      have l5 : L5.length = 28 := by rw [hL5, List.length_append, l4, leBytes_length]
      have HL5 := Lib.hid hL5
      clear hL5
      refine (HL.out _ _ _ (24) 2 (by rfl) rfl (by omega)).mono ?_
      rintro e V6 ⟨u6, A6, d6, rfl, hu6, r6, g6⟩
      have P6 := Lib.hid (N5.fresh g6)
      have R6 := Lib.hid (And.intro hu6 r6)
      clear N5 hu6 r6 g6
      go_wp2_with (at_builtin; refine wpList_new _ W0 rfl _ _ 22 rfl 5 i0 .u8 1 Try.underlying22 hi hz0 hz1 hz2 _ L5 rfl P6.out A6 2 d6 _ R6.out.1 R6.out.2 (by unfold maxLen; omega) (by omega) ?_; intro v6 X6 N6)
      obtain ⟨L6, hL6⟩ : ∃ L, L = L5 ++ leBytes (24) 2 := ⟨_, rfl⟩
      rw [← hL6] at N6
      have l6 : L6.length = 30 := by rw [hL6, List.length_append, l5, leBytes_length]
      have HL6 := Lib.hid hL6
      clear hL6
      have HN6 := Lib.hid N6
      clear N6 l1 l2 l3 l4 l5
      go_loopw [15] (fun v wr => ∃ k : Nat, k ≤ 24 + gp ∧ NewRow W0 wr 5 .u8 v (L6 ++ List.replicate k 0)) (fun v _ => 54 + gp - lenOf v)
      case atStart => exact ⟨0, by omega, by rw [List.replicate_zero, List.append_nil]; exact HN6.out⟩
      case round =>
        obtain ⟨k, hk, hN⟩ := hrel
        obtain ⟨Ak, ck, rfl, _, _⟩ := hN.1.row
        obtain ⟨ln, hln⟩ : ∃ ln, ln = (L6 ++ List.replicate k (0 : Int)).length := ⟨_, rfl⟩
        have hln2 : ln = 30 + k := by rw [hln, List.length_append, l6, List.length_replicate]
        rw [← hln] at hN ⊢
        have HN := Lib.hid (And.intro hN hln)
        have Hln := Lib.hid hln2
        clear hN hln
        by_cases hlt : k < 24 + gp
        · have k1 : (ln : Int) < (f : Int) := by omega
          clear hln2
          go_wp2_with (at_builtin; refine wpList_new _ W0 rfl _ _ 22 rfl 5 i0 .u8 1 Try.underlying22 hi hz0 hz1 hz2 _ (L6 ++ List.replicate k 0) rfl (HN.out.1.fresh ((Kept.refl _ _).alloc _)) _ 1 1 [_] rfl (Row.one _ _ _ _) (by unfold maxLen; rw [← HN.out.2, Hln.out]; omega) (by rw [← HN.out.2, Hln.out]; omega) ?_; intro v9 X9 N9)
          have H9 : Hid (NewRow W0 X9 5 .u8 v9 (L6 ++ List.replicate (k + 1) 0)) := Lib.hid (by rw [List.replicate_succ', ← List.append_assoc]; exact N9)
          clear N9
          go_roundw
          case rel => exact ⟨k + 1, by omega, H9.out⟩
          case measure =>
            obtain ⟨A9, c9, e9, _, _⟩ := H9.out.1.row
            rw [e9]
            have h1 := Hln.out
            have h2 := l6
            simp [lenOf]
            omega
        · obtain rfl : k = 24 + gp := by omega
          have k1 : ¬ (ln : Int) < (f : Int) := by omega
          obtain ⟨L7, hL7⟩ : ∃ L, L = L6 ++ List.replicate (24 + gp) 0 := ⟨_, rfl⟩
          rw [← hL7] at HN
          have HL7 := Lib.hid hL7
          have b3 := HX.out.1.kept HN.out.1.2.2 id
          have c3 : wr.cell? ⟨w.heap.size, 3, none⟩ = some (.int .i64 (st : Nat)) := (b3.cell 3).trans rfl
          clear hln2 hL7 b3 HN6 hlt hk
          go_wp2_with fail
          go_loopw [15, 17] (fun v iv wq => ∃ k : Nat, k ≤ nn ∧ iv = .int .i64 (k : Int) ∧ NewRow W0 wq 5 .u8 v (L7 ++ pxs k)) (fun _ iv _ => (nn - intOf iv).toNat)
          case atStart => exact ⟨0, by omega, rfl, by rw [show pxs 0 = [] from rfl, List.append_nil]; exact HN.out.1⟩
          case round =>
            obtain ⟨k, hk, rfl, hN⟩ := hrel
            have HQ := Lib.hid hN
            clear hN
            by_cases hlt : k < nn
            · have k2 : (k : Int) < (nn : Int) := by omega
              obtain ⟨y, hy⟩ : ∃ y : Int, y = ((k % 256 : Nat) : Int) := ⟨_, rfl⟩
              have k3 : (k : Int) % 256 = y := by omega
              have Hy := Lib.hid hy
              clear hy
              have l7 : Hid ((L7 ++ pxs k).length ≤ 2000) := Lib.hid (by rw [List.length_append, pxs_len, ← HN.out.2, Hln.out]; omega)
              go_wp2_with (at_builtin; refine wpList_new _ W0 rfl _ _ 22 rfl 5 i0 .u8 1 Try.underlying22 hi hz0 hz1 hz2 _ (L7 ++ pxs k) rfl (HQ.out.fresh ((Kept.refl _ _).alloc _)) _ 1 1 [_] rfl (Row.one _ _ _ _) (by unfold maxLen; have := l7.out; omega) (by have := l7.out; omega) ?_; intro v9 X9 N9)
              have H9 : Hid (NewRow W0 X9 5 .u8 v9 (L7 ++ pxs (k + 1))) := Lib.hid (by rw [pxs_succ, ← List.append_assoc, ← Hy.out]; exact N9)
              clear N9
              go_roundw
              case rel => exact ⟨k + 1, by omega, by go_num, H9.out⟩
              case measure => simp [intOf]; omega
            · obtain rfl : k = nn := by omega
              obtain ⟨lb, hlb⟩ : ∃ lb, lb = (L7 ++ pxs k).length := ⟨_, rfl⟩
              have hlb2 : lb = f + k := by rw [hlb, List.length_append, pxs_len, ← HN.out.2, Hln.out]; have := HG.out; omega
              obtain ⟨Av, cv, rfl, hrow, _⟩ := HQ.out.1.row
              have hcap := HQ.out.1.cap
              have hLL : L7 ++ pxs k = bmL f a h 24 (24 + gp) (pxs k) := by
                rw [HL7.out, HL6.out, HL5.out, HL4.out, HL3.out, HL2.out, HL1.out]
                unfold bmL
                simp only [List.append_assoc]
              have hpic := bm_pic (f := f) (a := a) (h := h) (d := 24) (z := 24 + gp) (px := pxs k) (by have := HG.out; omega) (by have := HG.out; omega) HH.out.1 (by decide) (by have := HG.out; omega) (by omega)
              rw [← hLL, ← hlb, HH.out.2, show plnB 24 = 3 from rfl] at hpic
              have HB := cBmp_any Av lb cv (L7 ++ pxs k) wr (by rw [hlb]; exact hrow) (by rw [hLL]; exact bmL_byte _ _ _ _ _ (pxs_byte _)) (by have := HS.out; have := HG.out; omega) (by rw [hlb]; exact hcap)
              rw [hpic] at HB
              rw [← hlb]
              have HB := Lib.hid HB
              have HF1 : Hid (Fresh W0 wr) := Lib.hid HQ.out.2.2
              by_cases hm0 : m = 0
              · have hfit : fitP a b (strB a 3 : Nat) f lb := by
                  have h1 := HG.out
                  have h2 := HS.out
                  refine ⟨by omega, by omega, by omega, by omega, by omega, ?_⟩
                  rw [← h2.1, esb]
                  omega
                rw [show bmpR a b 3 f lb = some (a, b, 3, strB a 3, f) from if_pos hfit, ← HS.out.1] at HB
                simp only [pval, Option.isSome_some] at HB
                have q1 : ¬ (k : Int) < (sb : Int) := by have := HS.out; omega
                clear hlb hlb2 hcap hrow hLL hpic hfit hm0 hlt hk
                go_wp2_with fail
                refine HB.out.mono ?_
                rintro e V1 ⟨rfl, hg1⟩
                have b3 := HX.out.1.kept ((HF1.out.trans hg1 fun _ _ e => e).alloc (.cells #[.int .i64 (a : Nat), .int .i64 (b : Nat), .int .i64 3, .int .i64 (st : Nat), .int .i64 (f : Nat)] 26)) id
                have c3 : (V1.alloc (.cells #[.int .i64 (a : Nat), .int .i64 (b : Nat), .int .i64 3, .int .i64 (st : Nat), .int .i64 (f : Nat)] 26)).cell? ⟨w.heap.size, 3, none⟩ = some (.int .i64 (st : Nat)) := (b3.cell 3).trans rfl
                have HV1 := Lib.hid (And.intro b3 (And.intro (Blk.new V1 26 #[.int .i64 (a : Nat), .int .i64 (b : Nat), .int .i64 3, .int .i64 (st : Nat), .int .i64 (f : Nat)]) ((HF1.out.trans hg1 fun _ _ e => e).alloc (.cells #[.int .i64 (a : Nat), .int .i64 (b : Nat), .int .i64 3, .int .i64 (st : Nat), .int .i64 (f : Nat)] 26))))
                clear b3 hg1 HB
                go_wp2_with fail
                refine (awakeP_any _).mono ?_
                rintro e V2 ⟨rfl, hg2⟩
                have b4 := HV1.out.1.kept hg2 id
                have b5 := HV1.out.2.1.kept hg2 id
                have d0 : V2.cell? ⟨w.heap.size, 0, none⟩ = some (.int .i64 (a : Nat)) := (b4.cell 0).trans rfl
                have d1 : V2.cell? ⟨w.heap.size, 1, none⟩ = some (.int .i64 (b : Nat)) := (b4.cell 1).trans rfl
                have d2 : V2.cell? ⟨w.heap.size, 2, none⟩ = some (.int .i64 3) := (b4.cell 2).trans rfl
                have d3 : V2.cell? ⟨w.heap.size, 3, none⟩ = some (.int .i64 (st : Nat)) := (b4.cell 3).trans rfl
                have d4 : V2.cell? ⟨w.heap.size, 4, none⟩ = some (.int .i64 (f : Nat)) := (b4.cell 4).trans rfl
                have e0 : V2.cell? ⟨V1.heap.size, 0, none⟩ = some (.int .i64 (a : Nat)) := (b5.cell 0).trans rfl
                have e1 : V2.cell? ⟨V1.heap.size, 1, none⟩ = some (.int .i64 (b : Nat)) := (b5.cell 1).trans rfl
                have e2 : V2.cell? ⟨V1.heap.size, 2, none⟩ = some (.int .i64 3) := (b5.cell 2).trans rfl
                have e3 : V2.cell? ⟨V1.heap.size, 3, none⟩ = some (.int .i64 (st : Nat)) := (b5.cell 3).trans rfl
                have e4 : V2.cell? ⟨V1.heap.size, 4, none⟩ = some (.int .i64 (f : Nat)) := (b5.cell 4).trans rfl
                have HE := Lib.hid ((HX.out.2.1.trans (HV1.out.2.2.trans hg2 fun _ _ e => e) fun _ _ e => e).toBelow)
                clear b4 b5 hg2 HV1 c3
                go_wp2_with fail
                go_ret
                exact ⟨rfl, HE.out⟩
              · have hfit : ¬ fitP a b (strB a 3 : Nat) f lb := by
                  have h1 := HG.out
                  have h2 := HS.out
                  rintro ⟨_, _, _, _, _, h3⟩
                  rw [← h2.1, esb] at h3
                  omega
                rw [show bmpR a b 3 f lb = none from if_neg hfit] at HB
                simp only [pval, Option.isSome_none] at HB
                have q1 : (k : Int) < (sb : Int) := by have := HS.out; have := HG.out; omega
                clear hlb hlb2 hcap hrow hLL hpic hfit hm0 hlt hk
                go_wp2_with fail
                refine HB.out.mono ?_
                rintro e V1 ⟨rfl, hg1⟩
                have b3 := HX.out.1.kept ((HF1.out.trans hg1 fun _ _ e => e).alloc (.cells #[.int .i64 0, .int .i64 0, .int .i64 0, .int .i64 0, .int .i64 0] 26)) id
                have c3 : (V1.alloc (.cells #[.int .i64 0, .int .i64 0, .int .i64 0, .int .i64 0, .int .i64 0] 26)).cell? ⟨w.heap.size, 3, none⟩ = some (.int .i64 (st : Nat)) := (b3.cell 3).trans rfl
                have HV1 := Lib.hid (And.intro (Blk.new V1 26 #[.int .i64 0, .int .i64 0, .int .i64 0, .int .i64 0, .int .i64 0]) ((HF1.out.trans hg1 fun _ _ e => e).alloc (.cells #[.int .i64 0, .int .i64 0, .int .i64 0, .int .i64 0, .int .i64 0] 26)))
                clear b3 hg1 HB
                go_wp2_with fail
                refine (awakeP_any _).mono ?_
                rintro e V2 ⟨rfl, hg2⟩
                have b5 := HV1.out.1.kept hg2 id
                have e0 : V2.cell? ⟨V1.heap.size, 0, none⟩ = some (.int .i64 0) := (b5.cell 0).trans rfl
                have e1 : V2.cell? ⟨V1.heap.size, 1, none⟩ = some (.int .i64 0) := (b5.cell 1).trans rfl
                have e2 : V2.cell? ⟨V1.heap.size, 2, none⟩ = some (.int .i64 0) := (b5.cell 2).trans rfl
                have e3 : V2.cell? ⟨V1.heap.size, 3, none⟩ = some (.int .i64 0) := (b5.cell 3).trans rfl
                have e4 : V2.cell? ⟨V1.heap.size, 4, none⟩ = some (.int .i64 0) := (b5.cell 4).trans rfl
                have HE := Lib.hid ((HX.out.2.1.trans (HV1.out.2.trans hg2 fun _ _ e => e) fun _ _ e => e).toBelow)
                clear b5 hg2 HV1 c3
                go_wp2_with fail
                go_ret
                exact ⟨rfl, HE.out⟩
    | false =>
      obtain ⟨st, hst⟩ : ∃ st, st = strB a 3 := ⟨_, rfl⟩
      obtain ⟨h, hh⟩ : ∃ h : Nat, h = b := ⟨_, rfl⟩
      have HH : Hid (h < 4294967296 ∧ amt4 h = b) := Lib.hid (by
        have h1 := HG.out
        rw [hh]
        unfold amt4
        constructor
        · omega
        · split <;> omega)
      have est : ((a : Int) * 3 + 3) / 4 * 4 = (st : Int) := by rw [hst]; unfold strB; omega
      have eh : h = b := hh
      have st64 : st ≤ 64 := by rw [hst]; have h1 := HG.out; unfold strB; omega
      have st4 : 4 ≤ st := by rw [hst]; have h1 := HG.out; unfold strB; omega
      obtain ⟨sb, hsb⟩ : ∃ sb, sb = st * b := ⟨_, rfl⟩
      have esb : (st : Int) * (b : Int) = (sb : Int) := by rw [hsb]; simp
      have sb1 : sb ≤ 1280 := by rw [hsb]; exact Nat.mul_le_mul st64 HG.out.2.2.2.2.1
      have sb2 : 4 ≤ sb := by rw [hsb]; exact Nat.le_trans st4 (Nat.le_mul_of_pos_right _ HG.out.2.1)
      obtain ⟨nn, hnn⟩ : ∃ nn, nn = sb - m := ⟨_, rfl⟩
      have enn : (sb : Int) - (m : Int) = (nn : Int) := by omega
      have sb3 : (sb : Int) ≤ 1280 := by omega
      have nn3 : (nn : Int) ≤ 1280 := by omega
      have HS : Hid (st = strB a 3 ∧ sb = st * b ∧ nn = sb - m ∧ sb ≤ 1280 ∧ nn ≤ 1280 ∧ 4 ≤ sb) := Lib.hid (by omega)
      clear hst hh hsb hnn st64 st4 sb1 sb2 hm
      obtain ⟨W0, hW0⟩ : ∃ W0, W0 = w.alloc (.cells #[.int .i64 (a : Nat), .int .i64 (b : Nat), .int .i64 3, .int .i64 (st : Nat), .int .i64 (f : Nat)] 26) := ⟨_, rfl⟩
      have hb0 : Blk W0 w.heap.size 26 #[.int .i64 (a : Nat), .int .i64 (b : Nat), .int .i64 3, .int .i64 (st : Nat), .int .i64 (f : Nat)] := by rw [hW0]; exact Blk.new _ _ _
      have hf0 : Fresh w W0 := by rw [hW0]; exact (Kept.refl _ _).alloc _
      have hz : W0.heap.size = w.heap.size + 1 := by rw [hW0]; simp
      obtain ⟨W1, hW1⟩ : ∃ W1, W1 = W0.alloc (.cells (ivs .u8 bm0).toArray 5 ((ivs .u8 bm0).toArray.size, (ivs .u8 bm0).toArray.size + 1)) := ⟨_, rfl⟩
      obtain ⟨s0, hs0⟩ : ∃ s0 : Value, s0 = .slice (some ⟨w.heap.size + 1, 0, none⟩) 10 10 := ⟨_, rfl⟩
      have hcv : (convert 22 22 (.slice (some ⟨w.heap.size + 1, 0, none⟩) 10 10)).run Try.prog ((w.alloc (.cells #[.int .i64 (a : Nat), .int .i64 (b : Nat), .int .i64 3, .int .i64 (st : Nat), .int .i64 (f : Nat)] 26)).alloc (.cells #[.int .u8 66, .int .u8 77, .int .u8 0, .int .u8 0, .int .u8 0, .int .u8 0, .int .u8 0, .int .u8 0, .int .u8 0, .int .u8 0] 5)) = .ok s0 W1 := by
        rw [hs0]
        have := Lib.run_convert_bytes_const (P := Try.prog) W0 22 5 (ivs .u8 bm0).toArray 10 10 Try.underlying22 Try.underlying5
        rw [← hW1, hz, hW0] at this
        exact this
      have hr1 : Row W1 .u8 (some ⟨w.heap.size + 1, 0, none⟩) 10 bm0 := by rw [hW1, ← hz]; exact laidP W0 5 _ bm0
      have hf1 : Fresh W0 W1 := by rw [hW1]; exact (Kept.refl _ _).alloc _
      have k4 : W1.cell? ⟨w.heap.size, 4, none⟩ = some (.int .i64 (f : Nat)) := ((hb0.kept hf1 id).cell 4).trans rfl
      have HX := Lib.hid (And.intro hb0 (And.intro hf0 (And.intro hr1 hf1)))
      have HS0 := Lib.hid hs0
      clear hb0 hf0 hr1 hf1 hW0 hW1 hs0
      go_enter Try.func6, Try.ntmps6
      go_wp2_with fail
      clear hcv k4
      refine (HL.out _ _ _ (f) 4 (by rfl) rfl (by omega)).mono ?_
      rintro e V1 ⟨u1, A1, d1, rfl, hu1, r1, g1⟩
      have P1 := Lib.hid (And.intro (HX.out.2.2.2.trans g1 fun _ _ e => e) (HX.out.2.2.1.kept g1 (fun _ _ _ _ => id)))
      have R1 := Lib.hid (And.intro hu1 r1)
      clear hu1 r1 g1
      go_wp2_with (at_builtin; refine wpList_new_full _ W0 P1.out.1 rfl _ _ 22 rfl 5 i0 .u8 1 Try.underlying22 hi hz0 hz1 hz2 ⟨w.heap.size + 1, 0, none⟩ 10 bm0 HS0.out P1.out.2 A1 4 d1 _ R1.out.1 R1.out.2 (by omega) (by decide) (by decide) ?_; intro v1 X1 N1)
      obtain ⟨L1, hL1⟩ : ∃ L, L = bm0 ++ leBytes (f) 4 := ⟨_, rfl⟩
      rw [← hL1] at N1
      have l1 : L1.length = 14 := by rw [hL1, List.length_append, show bm0.length = 10 from rfl, leBytes_length]
      have HL1 := Lib.hid hL1
      clear hL1
      refine (HL.out _ _ _ (40) 4 (by rfl) rfl (by omega)).mono ?_
      rintro e V2 ⟨u2, A2, d2, rfl, hu2, r2, g2⟩
      have P2 := Lib.hid (N1.fresh g2)
      have R2 := Lib.hid (And.intro hu2 r2)
      clear N1 hu2 r2 g2
      go_wp2_with (at_builtin; refine wpList_new _ W0 rfl _ _ 22 rfl 5 i0 .u8 1 Try.underlying22 hi hz0 hz1 hz2 _ L1 rfl P2.out A2 4 d2 _ R2.out.1 R2.out.2 (by unfold maxLen; omega) (by omega) ?_; intro v2 X2 N2)
      obtain ⟨L2, hL2⟩ : ∃ L, L = L1 ++ leBytes (40) 4 := ⟨_, rfl⟩
      rw [← hL2] at N2
      have l2 : L2.length = 18 := by rw [hL2, List.length_append, l1, leBytes_length]
      have HL2 := Lib.hid hL2
      clear hL2
      refine (HL.out _ _ _ (a) 4 (by rfl) rfl (by omega)).mono ?_
      rintro e V3 ⟨u3, A3, d3, rfl, hu3, r3, g3⟩
      have P3 := Lib.hid (N2.fresh g3)
      have R3 := Lib.hid (And.intro hu3 r3)
      clear N2 hu3 r3 g3
      go_wp2_with (at_builtin; refine wpList_new _ W0 rfl _ _ 22 rfl 5 i0 .u8 1 Try.underlying22 hi hz0 hz1 hz2 _ L2 rfl P3.out A3 4 d3 _ R3.out.1 R3.out.2 (by unfold maxLen; omega) (by omega) ?_; intro v3 X3 N3)
      obtain ⟨L3, hL3⟩ : ∃ L, L = L2 ++ leBytes (a) 4 := ⟨_, rfl⟩
      rw [← hL3] at N3
      have l3 : L3.length = 22 := by rw [hL3, List.length_append, l2, leBytes_length]
      have HL3 := Lib.hid hL3
      clear hL3
      refine (HL.out _ _ _ (h) 4 (by first | rfl | omega) rfl (by omega)).mono ?_
      rintro e V4 ⟨u4, A4, d4, rfl, hu4, r4, g4⟩
      have P4 := Lib.hid (N3.fresh g4)
      have R4 := Lib.hid (And.intro hu4 r4)
      clear N3 hu4 r4 g4
      go_wp2_with (at_builtin; refine wpList_new _ W0 rfl _ _ 22 rfl 5 i0 .u8 1 Try.underlying22 hi hz0 hz1 hz2 _ L3 rfl P4.out A4 4 d4 _ R4.out.1 R4.out.2 (by unfold maxLen; omega) (by omega) ?_; intro v4 X4 N4)
      obtain ⟨L4, hL4⟩ : ∃ L, L = L3 ++ leBytes (h) 4 := ⟨_, rfl⟩
      rw [← hL4] at N4
      have l4 : L4.length = 26 := by rw [hL4, List.length_append, l3, leBytes_length]
      have HL4 := Lib.hid hL4
      clear hL4
      refine (HL.out _ _ _ (1) 2 (by rfl) rfl (by omega)).mono ?_
      rintro e V5 ⟨u5, A5, d5, rfl, hu5, r5, g5⟩
      have P5 := Lib.hid (N4.fresh g5)
      have R5 := Lib.hid (And.intro hu5 r5)
      clear N4 hu5 r5 g5
      go_wp2_with (at_builtin; refine wpList_new _ W0 rfl _ _ 22 rfl 5 i0 .u8 1 Try.underlying22 hi hz0 hz1 hz2 _ L4 rfl P5.out A5 2 d5 _ R5.out.1 R5.out.2 (by unfold maxLen; omega) (by omega) ?_; intro v5 X5 N5; have c2 : X5.cell? ⟨w.heap.size, 2, none⟩ = some (.int .i64 3) := ((HX.out.1.kept N5.2.2 id).cell 2).trans rfl)
      obtain ⟨L5, hL5⟩ : ∃ L, L = L4 ++ leBytes (1) 2 := ⟨_, rfl⟩
      rw [← hL5] at N5
      have l5 : L5.length = 28 := by rw [hL5, List.length_append, l4, leBytes_length]
      have HL5 := Lib.hid hL5
      clear hL5
      refine (HL.out _ _ _ (24) 2 (by rfl) rfl (by omega)).mono ?_
      rintro e V6 ⟨u6, A6, d6, rfl, hu6, r6, g6⟩
      have P6 := Lib.hid (N5.fresh g6)
      have R6 := Lib.hid (And.intro hu6 r6)
      clear N5 hu6 r6 g6
      go_wp2_with (at_builtin; refine wpList_new _ W0 rfl _ _ 22 rfl 5 i0 .u8 1 Try.underlying22 hi hz0 hz1 hz2 _ L5 rfl P6.out A6 2 d6 _ R6.out.1 R6.out.2 (by unfold maxLen; omega) (by omega) ?_; intro v6 X6 N6)
      obtain ⟨L6, hL6⟩ : ∃ L, L = L5 ++ leBytes (24) 2 := ⟨_, rfl⟩
      rw [← hL6] at N6
      have l6 : L6.length = 30 := by rw [hL6, List.length_append, l5, leBytes_length]
      have HL6 := Lib.hid hL6
      clear hL6
      have HN6 := Lib.hid N6
      clear N6 l1 l2 l3 l4 l5
      go_loopw [15] (fun v wr => ∃ k : Nat, k ≤ 24 + gp ∧ NewRow W0 wr 5 .u8 v (L6 ++ List.replicate k 0)) (fun v _ => 54 + gp - lenOf v)
      case atStart => exact ⟨0, by omega, by rw [List.replicate_zero, List.append_nil]; exact HN6.out⟩
      case round =>
        obtain ⟨k, hk, hN⟩ := hrel
        obtain ⟨Ak, ck, rfl, _, _⟩ := hN.1.row
        obtain ⟨ln, hln⟩ : ∃ ln, ln = (L6 ++ List.replicate k (0 : Int)).length := ⟨_, rfl⟩
        have hln2 : ln = 30 + k := by rw [hln, List.length_append, l6, List.length_replicate]
        rw [← hln] at hN ⊢
        have HN := Lib.hid (And.intro hN hln)
        have Hln := Lib.hid hln2
        clear hN hln
        by_cases hlt : k < 24 + gp
        · have k1 : (ln : Int) < (f : Int) := by omega
          clear hln2
          go_wp2_with (at_builtin; refine wpList_new _ W0 rfl _ _ 22 rfl 5 i0 .u8 1 Try.underlying22 hi hz0 hz1 hz2 _ (L6 ++ List.replicate k 0) rfl (HN.out.1.fresh ((Kept.refl _ _).alloc _)) _ 1 1 [_] rfl (Row.one _ _ _ _) (by unfold maxLen; rw [← HN.out.2, Hln.out]; omega) (by rw [← HN.out.2, Hln.out]; omega) ?_; intro v9 X9 N9)
          have H9 : Hid (NewRow W0 X9 5 .u8 v9 (L6 ++ List.replicate (k + 1) 0)) := Lib.hid (by rw [List.replicate_succ', ← List.append_assoc]; exact N9)
          clear N9
          go_roundw
          case rel => exact ⟨k + 1, by omega, H9.out⟩
          case measure =>
            obtain ⟨A9, c9, e9, _, _⟩ := H9.out.1.row
            rw [e9]
            have h1 := Hln.out
            have h2 := l6
            simp [lenOf]
            omega
        · obtain rfl : k = 24 + gp := by omega
          have k1 : ¬ (ln : Int) < (f : Int) := by omega
          obtain ⟨L7, hL7⟩ : ∃ L, L = L6 ++ List.replicate (24 + gp) 0 := ⟨_, rfl⟩
          rw [← hL7] at HN
          have HL7 := Lib.hid hL7
          have b3 := HX.out.1.kept HN.out.1.2.2 id
          have c3 : wr.cell? ⟨w.heap.size, 3, none⟩ = some (.int .i64 (st : Nat)) := (b3.cell 3).trans rfl
          clear hln2 hL7 b3 HN6 hlt hk
          go_wp2_with fail
          go_loopw [15, 17] (fun v iv wq => ∃ k : Nat, k ≤ nn ∧ iv = .int .i64 (k : Int) ∧ NewRow W0 wq 5 .u8 v (L7 ++ pxs k)) (fun _ iv _ => (nn - intOf iv).toNat)
          case atStart => exact ⟨0, by omega, rfl, by rw [show pxs 0 = [] from rfl, List.append_nil]; exact HN.out.1⟩
          case round =>
            obtain ⟨k, hk, rfl, hN⟩ := hrel
            have HQ := Lib.hid hN
            clear hN
            by_cases hlt : k < nn
            · have k2 : (k : Int) < (nn : Int) := by omega
              obtain ⟨y, hy⟩ : ∃ y : Int, y = ((k % 256 : Nat) : Int) := ⟨_, rfl⟩
              have k3 : (k : Int) % 256 = y := by omega
              have Hy := Lib.hid hy
              clear hy
              have l7 : Hid ((L7 ++ pxs k).length ≤ 2000) := Lib.hid (by rw [List.length_append, pxs_len, ← HN.out.2, Hln.out]; omega)
              go_wp2_with (at_builtin; refine wpList_new _ W0 rfl _ _ 22 rfl 5 i0 .u8 1 Try.underlying22 hi hz0 hz1 hz2 _ (L7 ++ pxs k) rfl (HQ.out.fresh ((Kept.refl _ _).alloc _)) _ 1 1 [_] rfl (Row.one _ _ _ _) (by unfold maxLen; have := l7.out; omega) (by have := l7.out; omega) ?_; intro v9 X9 N9)
              have H9 : Hid (NewRow W0 X9 5 .u8 v9 (L7 ++ pxs (k + 1))) := Lib.hid (by rw [pxs_succ, ← List.append_assoc, ← Hy.out]; exact N9)
              clear N9
              go_roundw
              case rel => exact ⟨k + 1, by omega, by go_num, H9.out⟩
              case measure => simp [intOf]; omega
            · obtain rfl : k = nn := by omega
              obtain ⟨lb, hlb⟩ : ∃ lb, lb = (L7 ++ pxs k).length := ⟨_, rfl⟩
              have hlb2 : lb = f + k := by rw [hlb, List.length_append, pxs_len, ← HN.out.2, Hln.out]; have := HG.out; omega
              obtain ⟨Av, cv, rfl, hrow, _⟩ := HQ.out.1.row
              have hcap := HQ.out.1.cap
              have hLL : L7 ++ pxs k = bmL f a h 24 (24 + gp) (pxs k) := by
                rw [HL7.out, HL6.out, HL5.out, HL4.out, HL3.out, HL2.out, HL1.out]
                unfold bmL
                simp only [List.append_assoc]
              have hpic := bm_pic (f := f) (a := a) (h := h) (d := 24) (z := 24 + gp) (px := pxs k) (by have := HG.out; omega) (by have := HG.out; omega) HH.out.1 (by decide) (by have := HG.out; omega) (by omega)
              rw [← hLL, ← hlb, HH.out.2, show plnB 24 = 3 from rfl] at hpic
              have HB := cBmp_any Av lb cv (L7 ++ pxs k) wr (by rw [hlb]; exact hrow) (by rw [hLL]; exact bmL_byte _ _ _ _ _ (pxs_byte _)) (by have := HS.out; have := HG.out; omega) (by rw [hlb]; exact hcap)
              rw [hpic] at HB
              rw [← hlb]
              have HB := Lib.hid HB
              have HF1 : Hid (Fresh W0 wr) := Lib.hid HQ.out.2.2
              by_cases hm0 : m = 0
              · have hfit : fitP a b (strB a 3 : Nat) f lb := by
                  have h1 := HG.out
                  have h2 := HS.out
                  refine ⟨by omega, by omega, by omega, by omega, by omega, ?_⟩
                  rw [← h2.1, esb]
                  omega
                rw [show bmpR a b 3 f lb = some (a, b, 3, strB a 3, f) from if_pos hfit, ← HS.out.1] at HB
                simp only [pval, Option.isSome_some] at HB
                have q1 : ¬ (k : Int) < (sb : Int) := by have := HS.out; omega
                clear hlb hlb2 hcap hrow hLL hpic hfit hm0 hlt hk
                go_wp2_with fail
                refine HB.out.mono ?_
                rintro e V1 ⟨rfl, hg1⟩
                have b3 := HX.out.1.kept ((HF1.out.trans hg1 fun _ _ e => e).alloc (.cells #[.int .i64 (a : Nat), .int .i64 (b : Nat), .int .i64 3, .int .i64 (st : Nat), .int .i64 (f : Nat)] 26)) id
                have c3 : (V1.alloc (.cells #[.int .i64 (a : Nat), .int .i64 (b : Nat), .int .i64 3, .int .i64 (st : Nat), .int .i64 (f : Nat)] 26)).cell? ⟨w.heap.size, 3, none⟩ = some (.int .i64 (st : Nat)) := (b3.cell 3).trans rfl
                have HV1 := Lib.hid (And.intro b3 (And.intro (Blk.new V1 26 #[.int .i64 (a : Nat), .int .i64 (b : Nat), .int .i64 3, .int .i64 (st : Nat), .int .i64 (f : Nat)]) ((HF1.out.trans hg1 fun _ _ e => e).alloc (.cells #[.int .i64 (a : Nat), .int .i64 (b : Nat), .int .i64 3, .int .i64 (st : Nat), .int .i64 (f : Nat)] 26))))
                clear b3 hg1 HB
                go_wp2_with fail
                refine (awakeP_any _).mono ?_
                rintro e V2 ⟨rfl, hg2⟩
                have b4 := HV1.out.1.kept hg2 id
                have b5 := HV1.out.2.1.kept hg2 id
                have d0 : V2.cell? ⟨w.heap.size, 0, none⟩ = some (.int .i64 (a : Nat)) := (b4.cell 0).trans rfl
                have d1 : V2.cell? ⟨w.heap.size, 1, none⟩ = some (.int .i64 (b : Nat)) := (b4.cell 1).trans rfl
                have d2 : V2.cell? ⟨w.heap.size, 2, none⟩ = some (.int .i64 3) := (b4.cell 2).trans rfl
                have d3 : V2.cell? ⟨w.heap.size, 3, none⟩ = some (.int .i64 (st : Nat)) := (b4.cell 3).trans rfl
                have d4 : V2.cell? ⟨w.heap.size, 4, none⟩ = some (.int .i64 (f : Nat)) := (b4.cell 4).trans rfl
                have e0 : V2.cell? ⟨V1.heap.size, 0, none⟩ = some (.int .i64 (a : Nat)) := (b5.cell 0).trans rfl
                have e1 : V2.cell? ⟨V1.heap.size, 1, none⟩ = some (.int .i64 (b : Nat)) := (b5.cell 1).trans rfl
                have e2 : V2.cell? ⟨V1.heap.size, 2, none⟩ = some (.int .i64 3) := (b5.cell 2).trans rfl
                have e3 : V2.cell? ⟨V1.heap.size, 3, none⟩ = some (.int .i64 (st : Nat)) := (b5.cell 3).trans rfl
                have e4 : V2.cell? ⟨V1.heap.size, 4, none⟩ = some (.int .i64 (f : Nat)) := (b5.cell 4).trans rfl
                have HE := Lib.hid ((HX.out.2.1.trans (HV1.out.2.2.trans hg2 fun _ _ e => e) fun _ _ e => e).toBelow)
                clear b4 b5 hg2 HV1 c3
                go_wp2_with fail
                go_ret
                exact ⟨rfl, HE.out⟩
              · have hfit : ¬ fitP a b (strB a 3 : Nat) f lb := by
                  have h1 := HG.out
                  have h2 := HS.out
                  rintro ⟨_, _, _, _, _, h3⟩
                  rw [← h2.1, esb] at h3
                  omega
                rw [show bmpR a b 3 f lb = none from if_neg hfit] at HB
                simp only [pval, Option.isSome_none] at HB
                have q1 : (k : Int) < (sb : Int) := by have := HS.out; have := HG.out; omega
                clear hlb hlb2 hcap hrow hLL hpic hfit hm0 hlt hk
                go_wp2_with fail
                refine HB.out.mono ?_
                rintro e V1 ⟨rfl, hg1⟩
                have b3 := HX.out.1.kept ((HF1.out.trans hg1 fun _ _ e => e).alloc (.cells #[.int .i64 0, .int .i64 0, .int .i64 0, .int .i64 0, .int .i64 0] 26)) id
                have c3 : (V1.alloc (.cells #[.int .i64 0, .int .i64 0, .int .i64 0, .int .i64 0, .int .i64 0] 26)).cell? ⟨w.heap.size, 3, none⟩ = some (.int .i64 (st : Nat)) := (b3.cell 3).trans rfl
                have HV1 := Lib.hid (And.intro (Blk.new V1 26 #[.int .i64 0, .int .i64 0, .int .i64 0, .int .i64 0, .int .i64 0]) ((HF1.out.trans hg1 fun _ _ e => e).alloc (.cells #[.int .i64 0, .int .i64 0, .int .i64 0, .int .i64 0, .int .i64 0] 26)))
                clear b3 hg1 HB
                go_wp2_with fail
                refine (awakeP_any _).mono ?_
                rintro e V2 ⟨rfl, hg2⟩
                have b5 := HV1.out.1.kept hg2 id
                have e0 : V2.cell? ⟨V1.heap.size, 0, none⟩ = some (.int .i64 0) := (b5.cell 0).trans rfl
                have e1 : V2.cell? ⟨V1.heap.size, 1, none⟩ = some (.int .i64 0) := (b5.cell 1).trans rfl
                have e2 : V2.cell? ⟨V1.heap.size, 2, none⟩ = some (.int .i64 0) := (b5.cell 2).trans rfl
                have e3 : V2.cell? ⟨V1.heap.size, 3, none⟩ = some (.int .i64 0) := (b5.cell 3).trans rfl
                have e4 : V2.cell? ⟨V1.heap.size, 4, none⟩ = some (.int .i64 0) := (b5.cell 4).trans rfl
                have HE := Lib.hid ((HX.out.2.1.trans (HV1.out.2.trans hg2 fun _ _ e => e) fun _ _ e => e).toBelow)
                clear b5 hg2 HV1 c3
                go_wp2_with fail
                go_ret
                exact ⟨rfl, HE.out⟩
  | false =>
    cases below with
    | true =>
      obtain ⟨st, hst⟩ : ∃ st, st = strB a 1 := ⟨_, rfl⟩
      obtain ⟨h, hh⟩ : ∃ h : Nat, h = 4294967296 - b := ⟨_, rfl⟩
      have HH : Hid (h < 4294967296 ∧ amt4 h = b) := Lib.hid (by
        have h1 := HG.out
        rw [hh]
        unfold amt4
        constructor
        · omega
        · split <;> omega)
      have est : ((a : Int) + 3) / 4 * 4 = (st : Int) := by rw [hst]; unfold strB; omega
      have eh : (4294967296 : Int) - (b : Int) = (h : Int) := by have h1 := HG.out; omega
      have st64 : st ≤ 64 := by rw [hst]; have h1 := HG.out; unfold strB; omega
      have st4 : 4 ≤ st := by rw [hst]; have h1 := HG.out; unfold strB; omega
      obtain ⟨sb, hsb⟩ : ∃ sb, sb = st * b := ⟨_, rfl⟩
      have esb : (st : Int) * (b : Int) = (sb : Int) := by rw [hsb]; simp
      have sb1 : sb ≤ 1280 := by rw [hsb]; exact Nat.mul_le_mul st64 HG.out.2.2.2.2.1
      have sb2 : 4 ≤ sb := by rw [hsb]; exact Nat.le_trans st4 (Nat.le_mul_of_pos_right _ HG.out.2.1)
      obtain ⟨nn, hnn⟩ : ∃ nn, nn = sb - m := ⟨_, rfl⟩
      have enn : (sb : Int) - (m : Int) = (nn : Int) := by omega
      have sb3 : (sb : Int) ≤ 1280 := by omega
      have nn3 : (nn : Int) ≤ 1280 := by omega
      have HS : Hid (st = strB a 1 ∧ sb = st * b ∧ nn = sb - m ∧ sb ≤ 1280 ∧ nn ≤ 1280 ∧ 4 ≤ sb) := Lib.hid (by omega)
      clear hst hh hsb hnn st64 st4 sb1 sb2 hm
      obtain ⟨W0, hW0⟩ : ∃ W0, W0 = w.alloc (.cells #[.int .i64 (a : Nat), .int .i64 (b : Nat), .int .i64 1, .int .i64 (st : Nat), .int .i64 (f : Nat)] 26) := ⟨_, rfl⟩
      have hb0 : Blk W0 w.heap.size 26 #[.int .i64 (a : Nat), .int .i64 (b : Nat), .int .i64 1, .int .i64 (st : Nat), .int .i64 (f : Nat)] := by rw [hW0]; exact Blk.new _ _ _
      have hf0 : Fresh w W0 := by rw [hW0]; exact (Kept.refl _ _).alloc _
      have hz : W0.heap.size = w.heap.size + 1 := by rw [hW0]; simp
      obtain ⟨W1, hW1⟩ : ∃ W1, W1 = W0.alloc (.cells (ivs .u8 bm0).toArray 5 ((ivs .u8 bm0).toArray.size, (ivs .u8 bm0).toArray.size + 1)) := ⟨_, rfl⟩
      obtain ⟨s0, hs0⟩ : ∃ s0 : Value, s0 = .slice (some ⟨w.heap.size + 1, 0, none⟩) 10 10 := ⟨_, rfl⟩
      have hcv : (convert 22 22 (.slice (some ⟨w.heap.size + 1, 0, none⟩) 10 10)).run Try.prog ((w.alloc (.cells #[.int .i64 (a : Nat), .int .i64 (b : Nat), .int .i64 1, .int .i64 (st : Nat), .int .i64 (f : Nat)] 26)).alloc (.cells #[.int .u8 66, .int .u8 77, .int .u8 0, .int .u8 0, .int .u8 0, .int .u8 0, .int .u8 0, .int .u8 0, .int .u8 0, .int .u8 0] 5)) = .ok s0 W1 := by
        rw [hs0]
        have := Lib.run_convert_bytes_const (P := Try.prog) W0 22 5 (ivs .u8 bm0).toArray 10 10 Try.underlying22 Try.underlying5
        rw [← hW1, hz, hW0] at this
        exact this
      have hr1 : Row W1 .u8 (some ⟨w.heap.size + 1, 0, none⟩) 10 bm0 := by rw [hW1, ← hz]; exact laidP W0 5 _ bm0
      have hf1 : Fresh W0 W1 := by rw [hW1]; exact (Kept.refl _ _).alloc _
      have k4 : W1.cell? ⟨w.heap.size, 4, none⟩ = some (.int .i64 (f : Nat)) := ((hb0.kept hf1 id).cell 4).trans rfl
      have HX := Lib.hid (And.intro hb0 (And.intro hf0 (And.intro hr1 hf1)))
      have HS0 := Lib.hid hs0
      clear hb0 hf0 hr1 hf1 hW0 hW1 hs0
      go_enter Try.func6, Try.ntmps6
      go_wp2_with fail
      clear hcv k4
      refine (HL.out _ _ _ (f) 4 (by rfl) rfl (by omega)).mono ?_
      rintro e V1 ⟨u1, A1, d1, rfl, hu1, r1, g1⟩
      have P1 := Lib.hid (And.intro (HX.out.2.2.2.trans g1 fun _ _ e => e) (HX.out.2.2.1.kept g1 (fun _ _ _ _ => id)))
      have R1 := Lib.hid (And.intro hu1 r1)
      clear hu1 r1 g1
      go_wp2_with (at_builtin; refine wpList_new_full _ W0 P1.out.1 rfl _ _ 22 rfl 5 i0 .u8 1 Try.underlying22 hi hz0 hz1 hz2 ⟨w.heap.size + 1, 0, none⟩ 10 bm0 HS0.out P1.out.2 A1 4 d1 _ R1.out.1 R1.out.2 (by omega) (by decide) (by decide) ?_; intro v1 X1 N1)
      obtain ⟨L1, hL1⟩ : ∃ L, L = bm0 ++ leBytes (f) 4 := ⟨_, rfl⟩
      rw [← hL1] at N1
      have l1 : L1.length = 14 := by rw [hL1, List.length_append, show bm0.length = 10 from rfl, leBytes_length]
      have HL1 := Lib.hid hL1
      clear hL1
      refine (HL.out _ _ _ (40) 4 (by rfl) rfl (by omega)).mono ?_
      rintro e V2 ⟨u2, A2, d2, rfl, hu2, r2, g2⟩
      have P2 := Lib.hid (N1.fresh g2)
      have R2 := Lib.hid (And.intro hu2 r2)
      clear N1 hu2 r2 g2
      go_wp2_with (at_builtin; refine wpList_new _ W0 rfl _ _ 22 rfl 5 i0 .u8 1 Try.underlying22 hi hz0 hz1 hz2 _ L1 rfl P2.out A2 4 d2 _ R2.out.1 R2.out.2 (by unfold maxLen; omega) (by omega) ?_; intro v2 X2 N2)
      obtain ⟨L2, hL2⟩ : ∃ L, L = L1 ++ leBytes (40) 4 := ⟨_, rfl⟩
      rw [← hL2] at N2
      have l2 : L2.length = 18 := by rw [hL2, List.length_append, l1, leBytes_length]
      have HL2 := Lib.hid hL2
      clear hL2
      refine (HL.out _ _ _ (a) 4 (by rfl) rfl (by omega)).mono ?_
      rintro e V3 ⟨u3, A3, d3, rfl, hu3, r3, g3⟩
      have P3 := Lib.hid (N2.fresh g3)
      have R3 := Lib.hid (And.intro hu3 r3)
      clear N2 hu3 r3 g3
      go_wp2_with (at_builtin; refine wpList_new _ W0 rfl _ _ 22 rfl 5 i0 .u8 1 Try.underlying22 hi hz0 hz1 hz2 _ L2 rfl P3.out A3 4 d3 _ R3.out.1 R3.out.2 (by unfold maxLen; omega) (by omega) ?_; intro v3 X3 N3)
      obtain ⟨L3, hL3⟩ : ∃ L, L = L2 ++ leBytes (a) 4 := ⟨_, rfl⟩
      rw [← hL3] at N3
      have l3 : L3.length = 22 := by rw [hL3, List.length_append, l2, leBytes_length]
      have HL3 := Lib.hid hL3
      clear hL3
      refine (HL.out _ _ _ (h) 4 (by first | rfl | omega) rfl (by omega)).mono ?_
      rintro e V4 ⟨u4, A4, d4, rfl, hu4, r4, g4⟩
      have P4 := Lib.hid (N3.fresh g4)
      have R4 := Lib.hid (And.intro hu4 r4)
      clear N3 hu4 r4 g4
      go_wp2_with (at_builtin; refine wpList_new _ W0 rfl _ _ 22 rfl 5 i0 .u8 1 Try.underlying22 hi hz0 hz1 hz2 _ L3 rfl P4.out A4 4 d4 _ R4.out.1 R4.out.2 (by unfold maxLen; omega) (by omega) ?_; intro v4 X4 N4)
      obtain ⟨L4, hL4⟩ : ∃ L, L = L3 ++ leBytes (h) 4 := ⟨_, rfl⟩
      rw [← hL4] at N4
      have l4 : L4.length = 26 := by rw [hL4, List.length_append, l3, leBytes_length]
      have HL4 := Lib.hid hL4
      clear hL4
      refine (HL.out _ _ _ (1) 2 (by rfl) rfl (by omega)).mono ?_
      rintro e V5 ⟨u5, A5, d5, rfl, hu5, r5, g5⟩
      have P5 := Lib.hid (N4.fresh g5)
      have R5 := Lib.hid (And.intro hu5 r5)
      clear N4 hu5 r5 g5
      go_wp2_with (at_builtin; refine wpList_new _ W0 rfl _ _ 22 rfl 5 i0 .u8 1 Try.underlying22 hi hz0 hz1 hz2 _ L4 rfl P5.out A5 2 d5 _ R5.out.1 R5.out.2 (by unfold maxLen; omega) (by omega) ?_; intro v5 X5 N5; have c2 : X5.cell? ⟨w.heap.size, 2, none⟩ = some (.int .i64 1) := ((HX.out.1.kept N5.2.2 id).cell 2).trans rfl)
      obtain ⟨L5, hL5⟩ : ∃ L, L = L4 ++ leBytes (1) 2 := ⟨_, rfl⟩
      rw [← hL5] at N5
      have l5 : L5.length = 28 := by rw [hL5, List.length_append, l4, leBytes_length]
      have HL5 := Lib.hid hL5
      clear hL5
      refine (HL.out _ _ _ (8) 2 (by rfl) rfl (by omega)).mono ?_
      rintro e V6 ⟨u6, A6, d6, rfl, hu6, r6, g6⟩
      have P6 := Lib.hid (N5.fresh g6)
      have R6 := Lib.hid (And.intro hu6 r6)
      clear N5 hu6 r6 g6
      go_wp2_with (at_builtin; refine wpList_new _ W0 rfl _ _ 22 rfl 5 i0 .u8 1 Try.underlying22 hi hz0 hz1 hz2 _ L5 rfl P6.out A6 2 d6 _ R6.out.1 R6.out.2 (by unfold maxLen; omega) (by omega) ?_; intro v6 X6 N6)
      obtain ⟨L6, hL6⟩ : ∃ L, L = L5 ++ leBytes (8) 2 := ⟨_, rfl⟩
      rw [← hL6] at N6
      have l6 : L6.length = 30 := by rw [hL6, List.length_append, l5, leBytes_length]
      have HL6 := Lib.hid hL6
      clear hL6
      have HN6 := Lib.hid N6
      clear N6 l1 l2 l3 l4 l5
      go_loopw [15] (fun v wr => ∃ k : Nat, k ≤ 24 + gp ∧ NewRow W0 wr 5 .u8 v (L6 ++ List.replicate k 0)) (fun v _ => 54 + gp - lenOf v)
      case atStart => exact ⟨0, by omega, by rw [List.replicate_zero, List.append_nil]; exact HN6.out⟩
      case round =>
        obtain ⟨k, hk, hN⟩ := hrel
        obtain ⟨Ak, ck, rfl, _, _⟩ := hN.1.row
        obtain ⟨ln, hln⟩ : ∃ ln, ln = (L6 ++ List.replicate k (0 : Int)).length := ⟨_, rfl⟩
        have hln2 : ln = 30 + k := by rw [hln, List.length_append, l6, List.length_replicate]
        rw [← hln] at hN ⊢
        have HN := Lib.hid (And.intro hN hln)
        have Hln := Lib.hid hln2
        clear hN hln
        by_cases hlt : k < 24 + gp
        · have k1 : (ln : Int) < (f : Int) := by omega
          clear hln2
          go_wp2_with (at_builtin; refine wpList_new _ W0 rfl _ _ 22 rfl 5 i0 .u8 1 Try.underlying22 hi hz0 hz1 hz2 _ (L6 ++ List.replicate k 0) rfl (HN.out.1.fresh ((Kept.refl _ _).alloc _)) _ 1 1 [_] rfl (Row.one _ _ _ _) (by unfold maxLen; rw [← HN.out.2, Hln.out]; omega) (by rw [← HN.out.2, Hln.out]; omega) ?_; intro v9 X9 N9)
          have H9 : Hid (NewRow W0 X9 5 .u8 v9 (L6 ++ List.replicate (k + 1) 0)) := Lib.hid (by rw [List.replicate_succ', ← List.append_assoc]; exact N9)
          clear N9
          go_roundw
          case rel => exact ⟨k + 1, by omega, H9.out⟩
          case measure =>
            obtain ⟨A9, c9, e9, _, _⟩ := H9.out.1.row
            rw [e9]
            have h1 := Hln.out
            have h2 := l6
            simp [lenOf]
            omega
        · obtain rfl : k = 24 + gp := by omega
          have k1 : ¬ (ln : Int) < (f : Int) := by omega
          obtain ⟨L7, hL7⟩ : ∃ L, L = L6 ++ List.replicate (24 + gp) 0 := ⟨_, rfl⟩
          rw [← hL7] at HN
          have HL7 := Lib.hid hL7
          have b3 := HX.out.1.kept HN.out.1.2.2 id
          have c3 : wr.cell? ⟨w.heap.size, 3, none⟩ = some (.int .i64 (st : Nat)) := (b3.cell 3).trans rfl
          clear hln2 hL7 b3 HN6 hlt hk
          go_wp2_with fail
          go_loopw [15, 17] (fun v iv wq => ∃ k : Nat, k ≤ nn ∧ iv = .int .i64 (k : Int) ∧ NewRow W0 wq 5 .u8 v (L7 ++ pxs k)) (fun _ iv _ => (nn - intOf iv).toNat)
          case atStart => exact ⟨0, by omega, rfl, by rw [show pxs 0 = [] from rfl, List.append_nil]; exact HN.out.1⟩
          case round =>
            obtain ⟨k, hk, rfl, hN⟩ := hrel
            have HQ := Lib.hid hN
            clear hN
            by_cases hlt : k < nn
            · have k2 : (k : Int) < (nn : Int) := by omega
              obtain ⟨y, hy⟩ : ∃ y : Int, y = ((k % 256 : Nat) : Int) := ⟨_, rfl⟩
              have k3 : (k : Int) % 256 = y := by omega
              have Hy := Lib.hid hy
              clear hy
              have l7 : Hid ((L7 ++ pxs k).length ≤ 2000) := Lib.hid (by rw [List.length_append, pxs_len, ← HN.out.2, Hln.out]; omega)
              go_wp2_with (at_builtin; refine wpList_new _ W0 rfl _ _ 22 rfl 5 i0 .u8 1 Try.underlying22 hi hz0 hz1 hz2 _ (L7 ++ pxs k) rfl (HQ.out.fresh ((Kept.refl _ _).alloc _)) _ 1 1 [_] rfl (Row.one _ _ _ _) (by unfold maxLen; have := l7.out; omega) (by have := l7.out; omega) ?_; intro v9 X9 N9)
              have H9 : Hid (NewRow W0 X9 5 .u8 v9 (L7 ++ pxs (k + 1))) := Lib.hid (by rw [pxs_succ, ← List.append_assoc, ← Hy.out]; exact N9)
              clear N9
              go_roundw
              case rel => exact ⟨k + 1, by omega, by go_num, H9.out⟩
              case measure => simp [intOf]; omega
            · obtain rfl : k = nn := by omega
              obtain ⟨lb, hlb⟩ : ∃ lb, lb = (L7 ++ pxs k).length := ⟨_, rfl⟩
              have hlb2 : lb = f + k := by rw [hlb, List.length_append, pxs_len, ← HN.out.2, Hln.out]; have := HG.out; omega
              obtain ⟨Av, cv, rfl, hrow, _⟩ := HQ.out.1.row
              have hcap := HQ.out.1.cap
              have hLL : L7 ++ pxs k = bmL f a h 8 (24 + gp) (pxs k) := by
                rw [HL7.out, HL6.out, HL5.out, HL4.out, HL3.out, HL2.out, HL1.out]
                unfold bmL
                simp only [List.append_assoc]
              have hpic := bm_pic (f := f) (a := a) (h := h) (d := 8) (z := 24 + gp) (px := pxs k) (by have := HG.out; omega) (by have := HG.out; omega) HH.out.1 (by decide) (by have := HG.out; omega) (by omega)
              rw [← hLL, ← hlb, HH.out.2, show plnB 8 = 1 from rfl] at hpic
              have HB := cBmp_any Av lb cv (L7 ++ pxs k) wr (by rw [hlb]; exact hrow) (by rw [hLL]; exact bmL_byte _ _ _ _ _ (pxs_byte _)) (by have := HS.out; have := HG.out; omega) (by rw [hlb]; exact hcap)
              rw [hpic] at HB
              rw [← hlb]
              have HB := Lib.hid HB
              have HF1 : Hid (Fresh W0 wr) := Lib.hid HQ.out.2.2
              by_cases hm0 : m = 0
              · have hfit : fitP a b (strB a 1 : Nat) f lb := by
                  have h1 := HG.out
                  have h2 := HS.out
                  refine ⟨by omega, by omega, by omega, by omega, by omega, ?_⟩
                  rw [← h2.1, esb]
                  omega
                rw [show bmpR a b 1 f lb = some (a, b, 1, strB a 1, f) from if_pos hfit, ← HS.out.1] at HB
                simp only [pval, Option.isSome_some] at HB
                have q1 : ¬ (k : Int) < (sb : Int) := by have := HS.out; omega
                clear hlb hlb2 hcap hrow hLL hpic hfit hm0 hlt hk
                go_wp2_with fail
                refine HB.out.mono ?_
                rintro e V1 ⟨rfl, hg1⟩
                have b3 := HX.out.1.kept ((HF1.out.trans hg1 fun _ _ e => e).alloc (.cells #[.int .i64 (a : Nat), .int .i64 (b : Nat), .int .i64 1, .int .i64 (st : Nat), .int .i64 (f : Nat)] 26)) id
                have c3 : (V1.alloc (.cells #[.int .i64 (a : Nat), .int .i64 (b : Nat), .int .i64 1, .int .i64 (st : Nat), .int .i64 (f : Nat)] 26)).cell? ⟨w.heap.size, 3, none⟩ = some (.int .i64 (st : Nat)) := (b3.cell 3).trans rfl
                have HV1 := Lib.hid (And.intro b3 (And.intro (Blk.new V1 26 #[.int .i64 (a : Nat), .int .i64 (b : Nat), .int .i64 1, .int .i64 (st : Nat), .int .i64 (f : Nat)]) ((HF1.out.trans hg1 fun _ _ e => e).alloc (.cells #[.int .i64 (a : Nat), .int .i64 (b : Nat), .int .i64 1, .int .i64 (st : Nat), .int .i64 (f : Nat)] 26))))
                clear b3 hg1 HB
                go_wp2_with fail
                refine (awakeP_any _).mono ?_
                rintro e V2 ⟨rfl, hg2⟩
                have b4 := HV1.out.1.kept hg2 id
                have b5 := HV1.out.2.1.kept hg2 id
                have d0 : V2.cell? ⟨w.heap.size, 0, none⟩ = some (.int .i64 (a : Nat)) := (b4.cell 0).trans rfl
                have d1 : V2.cell? ⟨w.heap.size, 1, none⟩ = some (.int .i64 (b : Nat)) := (b4.cell 1).trans rfl
                have d2 : V2.cell? ⟨w.heap.size, 2, none⟩ = some (.int .i64 1) := (b4.cell 2).trans rfl
                have d3 : V2.cell? ⟨w.heap.size, 3, none⟩ = some (.int .i64 (st : Nat)) := (b4.cell 3).trans rfl
                have d4 : V2.cell? ⟨w.heap.size, 4, none⟩ = some (.int .i64 (f : Nat)) := (b4.cell 4).trans rfl
                have e0 : V2.cell? ⟨V1.heap.size, 0, none⟩ = some (.int .i64 (a : Nat)) := (b5.cell 0).trans rfl
                have e1 : V2.cell? ⟨V1.heap.size, 1, none⟩ = some (.int .i64 (b : Nat)) := (b5.cell 1).trans rfl
                have e2 : V2.cell? ⟨V1.heap.size, 2, none⟩ = some (.int .i64 1) := (b5.cell 2).trans rfl
                have e3 : V2.cell? ⟨V1.heap.size, 3, none⟩ = some (.int .i64 (st : Nat)) := (b5.cell 3).trans rfl
                have e4 : V2.cell? ⟨V1.heap.size, 4, none⟩ = some (.int .i64 (f : Nat)) := (b5.cell 4).trans rfl
                have HE := Lib.hid ((HX.out.2.1.trans (HV1.out.2.2.trans hg2 fun _ _ e => e) fun _ _ e => e).toBelow)
                clear b4 b5 hg2 HV1 c3
                go_wp2_with fail
                go_ret
                exact ⟨rfl, HE.out⟩
              · have hfit : ¬ fitP a b (strB a 1 : Nat) f lb := by
                  have h1 := HG.out
                  have h2 := HS.out
                  rintro ⟨_, _, _, _, _, h3⟩
                  rw [← h2.1, esb] at h3
                  omega
                rw [show bmpR a b 1 f lb = none from if_neg hfit] at HB
                simp only [pval, Option.isSome_none] at HB
                have q1 : (k : Int) < (sb : Int) := by have := HS.out; have := HG.out; omega
                clear hlb hlb2 hcap hrow hLL hpic hfit hm0 hlt hk
                go_wp2_with fail
                refine HB.out.mono ?_
                rintro e V1 ⟨rfl, hg1⟩
                have b3 := HX.out.1.kept ((HF1.out.trans hg1 fun _ _ e => e).alloc (.cells #[.int .i64 0, .int .i64 0, .int .i64 0, .int .i64 0, .int .i64 0] 26)) id
                have c3 : (V1.alloc (.cells #[.int .i64 0, .int .i64 0, .int .i64 0, .int .i64 0, .int .i64 0] 26)).cell? ⟨w.heap.size, 3, none⟩ = some (.int .i64 (st : Nat)) := (b3.cell 3).trans rfl
                have HV1 := Lib.hid (And.intro (Blk.new V1 26 #[.int .i64 0, .int .i64 0, .int .i64 0, .int .i64 0, .int .i64 0]) ((HF1.out.trans hg1 fun _ _ e => e).alloc (.cells #[.int .i64 0, .int .i64 0, .int .i64 0, .int .i64 0, .int .i64 0] 26)))
                clear b3 hg1 HB
                go_wp2_with fail
                refine (awakeP_any _).mono ?_
                rintro e V2 ⟨rfl, hg2⟩
                have b5 := HV1.out.1.kept hg2 id
                have e0 : V2.cell? ⟨V1.heap.size, 0, none⟩ = some (.int .i64 0) := (b5.cell 0).trans rfl
                have e1 : V2.cell? ⟨V1.heap.size, 1, none⟩ = some (.int .i64 0) := (b5.cell 1).trans rfl
                have e2 : V2.cell? ⟨V1.heap.size, 2, none⟩ = some (.int .i64 0) := (b5.cell 2).trans rfl
                have e3 : V2.cell? ⟨V1.heap.size, 3, none⟩ = some (.int .i64 0) := (b5.cell 3).trans rfl
                have e4 : V2.cell? ⟨V1.heap.size, 4, none⟩ = some (.int .i64 0) := (b5.cell 4).trans rfl
                have HE := Lib.hid ((HX.out.2.1.trans (HV1.out.2.trans hg2 fun _ _ e => e) fun _ _ e => e).toBelow)
                clear b5 hg2 HV1 c3
                go_wp2_with fail
                go_ret
                exact ⟨rfl, HE.out⟩
    | false =>
      obtain ⟨st, hst⟩ : ∃ st, st = strB a 1 := ⟨_, rfl⟩
      obtain ⟨h, hh⟩ : ∃ h : Nat, h = b := ⟨_, rfl⟩
      have HH : Hid (h < 4294967296 ∧ amt4 h = b) := Lib.hid (by
        have h1 := HG.out
        rw [hh]
        unfold amt4
        constructor
        · omega
        · split <;> omega)
      have est : ((a : Int) + 3) / 4 * 4 = (st : Int) := by rw [hst]; unfold strB; omega
      have eh : h = b := hh
      have st64 : st ≤ 64 := by rw [hst]; have h1 := HG.out; unfold strB; omega
      have st4 : 4 ≤ st := by rw [hst]; have h1 := HG.out; unfold strB; omega
      obtain ⟨sb, hsb⟩ : ∃ sb, sb = st * b := ⟨_, rfl⟩
      have esb : (st : Int) * (b : Int) = (sb : Int) := by rw [hsb]; simp
      have sb1 : sb ≤ 1280 := by rw [hsb]; exact Nat.mul_le_mul st64 HG.out.2.2.2.2.1
      have sb2 : 4 ≤ sb := by rw [hsb]; exact Nat.le_trans st4 (Nat.le_mul_of_pos_right _ HG.out.2.1)
      obtain ⟨nn, hnn⟩ : ∃ nn, nn = sb - m := ⟨_, rfl⟩
      have enn : (sb : Int) - (m : Int) = (nn : Int) := by omega
      have sb3 : (sb : Int) ≤ 1280 := by omega
      have nn3 : (nn : Int) ≤ 1280 := by omega
      have HS : Hid (st = strB a 1 ∧ sb = st * b ∧ nn = sb - m ∧ sb ≤ 1280 ∧ nn ≤ 1280 ∧ 4 ≤ sb) := Lib.hid (by omega)
      clear hst hh hsb hnn st64 st4 sb1 sb2 hm
      obtain ⟨W0, hW0⟩ : ∃ W0, W0 = w.alloc (.cells #[.int .i64 (a : Nat), .int .i64 (b : Nat), .int .i64 1, .int .i64 (st : Nat), .int .i64 (f : Nat)] 26) := ⟨_, rfl⟩
      have hb0 : Blk W0 w.heap.size 26 #[.int .i64 (a : Nat), .int .i64 (b : Nat), .int .i64 1, .int .i64 (st : Nat), .int .i64 (f : Nat)] := by rw [hW0]; exact Blk.new _ _ _
      have hf0 : Fresh w W0 := by rw [hW0]; exact (Kept.refl _ _).alloc _
      have hz : W0.heap.size = w.heap.size + 1 := by rw [hW0]; simp
      obtain ⟨W1, hW1⟩ : ∃ W1, W1 = W0.alloc (.cells (ivs .u8 bm0).toArray 5 ((ivs .u8 bm0).toArray.size, (ivs .u8 bm0).toArray.size + 1)) := ⟨_, rfl⟩
      obtain ⟨s0, hs0⟩ : ∃ s0 : Value, s0 = .slice (some ⟨w.heap.size + 1, 0, none⟩) 10 10 := ⟨_, rfl⟩
      have hcv : (convert 22 22 (.slice (some ⟨w.heap.size + 1, 0, none⟩) 10 10)).run Try.prog ((w.alloc (.cells #[.int .i64 (a : Nat), .int .i64 (b : Nat), .int .i64 1, .int .i64 (st : Nat), .int .i64 (f : Nat)] 26)).alloc (.cells #[.int .u8 66, .int .u8 77, .int .u8 0, .int .u8 0, .int .u8 0, .int .u8 0, .int .u8 0, .int .u8 0, .int .u8 0, .int .u8 0] 5)) = .ok s0 W1 := by
        rw [hs0]
        have := Lib.run_convert_bytes_const (P := Try.prog) W0 22 5 (ivs .u8 bm0).toArray 10 10 Try.underlying22 Try.underlying5
        rw [← hW1, hz, hW0] at this
        exact this
      have hr1 : Row W1 .u8 (some ⟨w.heap.size + 1, 0, none⟩) 10 bm0 := by rw [hW1, ← hz]; exact laidP W0 5 _ bm0
      have hf1 : Fresh W0 W1 := by rw [hW1]; exact (Kept.refl _ _).alloc _
      have k4 : W1.cell? ⟨w.heap.size, 4, none⟩ = some (.int .i64 (f : Nat)) := ((hb0.kept hf1 id).cell 4).trans rfl
      have HX := Lib.hid (And.intro hb0 (And.intro hf0 (And.intro hr1 hf1)))
      have HS0 := Lib.hid hs0
      clear hb0 hf0 hr1 hf1 hW0 hW1 hs0
      go_enter Try.func6, Try.ntmps6
      go_wp2_with fail
      clear hcv k4
      refine (HL.out _ _ _ (f) 4 (by rfl) rfl (by omega)).mono ?_
      rintro e V1 ⟨u1, A1, d1, rfl, hu1, r1, g1⟩
      have P1 := Lib.hid (And.intro (HX.out.2.2.2.trans g1 fun _ _ e => e) (HX.out.2.2.1.kept g1 (fun _ _ _ _ => id)))
      have R1 := Lib.hid (And.intro hu1 r1)
      clear hu1 r1 g1
      go_wp2_with (at_builtin; refine wpList_new_full _ W0 P1.out.1 rfl _ _ 22 rfl 5 i0 .u8 1 Try.underlying22 hi hz0 hz1 hz2 ⟨w.heap.size + 1, 0, none⟩ 10 bm0 HS0.out P1.out.2 A1 4 d1 _ R1.out.1 R1.out.2 (by omega) (by decide) (by decide) ?_; intro v1 X1 N1)
      obtain ⟨L1, hL1⟩ : ∃ L, L = bm0 ++ leBytes (f) 4 := ⟨_, rfl⟩
      rw [← hL1] at N1
      have l1 : L1.length = 14 := by rw [hL1, List.length_append, show bm0.length = 10 from rfl, leBytes_length]
      have HL1 := Lib.hid hL1
      clear hL1
      refine (HL.out _ _ _ (40) 4 (by rfl) rfl (by omega)).mono ?_
      rintro e V2 ⟨u2, A2, d2, rfl, hu2, r2, g2⟩
      have P2 := Lib.hid (N1.fresh g2)
      have R2 := Lib.hid (And.intro hu2 r2)
      clear N1 hu2 r2 g2
      go_wp2_with (at_builtin; refine wpList_new _ W0 rfl _ _ 22 rfl 5 i0 .u8 1 Try.underlying22 hi hz0 hz1 hz2 _ L1 rfl P2.out A2 4 d2 _ R2.out.1 R2.out.2 (by unfold maxLen; omega) (by omega) ?_; intro v2 X2 N2)
      obtain ⟨L2, hL2⟩ : ∃ L, L = L1 ++ leBytes (40) 4 := ⟨_, rfl⟩
      rw [← hL2] at N2
      have l2 : L2.length = 18 := by rw [hL2, List.length_append, l1, leBytes_length]
      have HL2 := Lib.hid hL2
      clear hL2
      refine (HL.out _ _ _ (a) 4 (by rfl) rfl (by omega)).mono ?_
      rintro e V3 ⟨u3, A3, d3, rfl, hu3, r3, g3⟩
      have P3 := Lib.hid (N2.fresh g3)
      have R3 := Lib.hid (And.intro hu3 r3)
      clear N2 hu3 r3 g3
      go_wp2_with (at_builtin; refine wpList_new _ W0 rfl _ _ 22 rfl 5 i0 .u8 1 Try.underlying22 hi hz0 hz1 hz2 _ L2 rfl P3.out A3 4 d3 _ R3.out.1 R3.out.2 (by unfold maxLen; omega) (by omega) ?_; intro v3 X3 N3)
      obtain ⟨L3, hL3⟩ : ∃ L, L = L2 ++ leBytes (a) 4 := ⟨_, rfl⟩
      rw [← hL3] at N3
      have l3 : L3.length = 22 := by rw [hL3, List.length_append, l2, leBytes_length]
      have HL3 := Lib.hid hL3
      clear hL3
      refine (HL.out _ _ _ (h) 4 (by first | rfl | omega) rfl (by omega)).mono ?_
      rintro e V4 ⟨u4, A4, d4, rfl, hu4, r4, g4⟩
      have P4 := Lib.hid (N3.fresh g4)
      have R4 := Lib.hid (And.intro hu4 r4)
      clear N3 hu4 r4 g4
      go_wp2_with (at_builtin; refine wpList_new _ W0 rfl _ _ 22 rfl 5 i0 .u8 1 Try.underlying22 hi hz0 hz1 hz2 _ L3 rfl P4.out A4 4 d4 _ R4.out.1 R4.out.2 (by unfold maxLen; omega) (by omega) ?_; intro v4 X4 N4)
      obtain ⟨L4, hL4⟩ : ∃ L, L = L3 ++ leBytes (h) 4 := ⟨_, rfl⟩
      rw [← hL4] at N4
      have l4 : L4.length = 26 := by rw [hL4, List.length_append, l3, leBytes_length]
      have HL4 := Lib.hid hL4
      clear hL4
      refine (HL.out _ _ _ (1) 2 (by rfl) rfl (by omega)).mono ?_
      rintro e V5 ⟨u5, A5, d5, rfl, hu5, r5, g5⟩
      have P5 := Lib.hid (N4.fresh g5)
      have R5 := Lib.hid (And.intro hu5 r5)
      clear N4 hu5 r5 g5
      go_wp2_with (at_builtin; refine wpList_new _ W0 rfl _ _ 22 rfl 5 i0 .u8 1 Try.underlying22 hi hz0 hz1 hz2 _ L4 rfl P5.out A5 2 d5 _ R5.out.1 R5.out.2 (by unfold maxLen; omega) (by omega) ?_; intro v5 X5 N5; have c2 : X5.cell? ⟨w.heap.size, 2, none⟩ = some (.int .i64 1) := ((HX.out.1.kept N5.2.2 id).cell 2).trans rfl)
      obtain ⟨L5, hL5⟩ : ∃ L, L = L4 ++ leBytes (1) 2 := ⟨_, rfl⟩
      rw [← hL5] at N5
      have l5 : L5.length = 28 := by rw [hL5, List.length_append, l4, leBytes_length]
      have HL5 := Lib.hid hL5
      clear hL5
      refine (HL.out _ _ _ (8) 2 (by rfl) rfl (by omega)).mono ?_
      rintro e V6 ⟨u6, A6, d6, rfl, hu6, r6, g6⟩
      have P6 := Lib.hid (N5.fresh g6)
      have R6 := Lib.hid (And.intro hu6 r6)
      clear N5 hu6 r6 g6
      go_wp2_with (at_builtin; refine wpList_new _ W0 rfl _ _ 22 rfl 5 i0 .u8 1 Try.underlying22 hi hz0 hz1 hz2 _ L5 rfl P6.out A6 2 d6 _ R6.out.1 R6.out.2 (by unfold maxLen; omega) (by omega) ?_; intro v6 X6 N6)
      obtain ⟨L6, hL6⟩ : ∃ L, L = L5 ++ leBytes (8) 2 := ⟨_, rfl⟩
      rw [← hL6] at N6
      have l6 : L6.length = 30 := by rw [hL6, List.length_append, l5, leBytes_length]
      have HL6 := Lib.hid hL6
      clear hL6
      have HN6 := Lib.hid N6
      clear N6 l1 l2 l3 l4 l5
      go_loopw [15] (fun v wr => ∃ k : Nat, k ≤ 24 + gp ∧ NewRow W0 wr 5 .u8 v (L6 ++ List.replicate k 0)) (fun v _ => 54 + gp - lenOf v)
      case atStart => exact ⟨0, by omega, by rw [List.replicate_zero, List.append_nil]; exact HN6.out⟩
      case round =>
        obtain ⟨k, hk, hN⟩ := hrel
        obtain ⟨Ak, ck, rfl, _, _⟩ := hN.1.row
        obtain ⟨ln, hln⟩ : ∃ ln, ln = (L6 ++ List.replicate k (0 : Int)).length := ⟨_, rfl⟩
        have hln2 : ln = 30 + k := by rw [hln, List.length_append, l6, List.length_replicate]
        rw [← hln] at hN ⊢
        have HN := Lib.hid (And.intro hN hln)
        have Hln := Lib.hid hln2
        clear hN hln
        by_cases hlt : k < 24 + gp
        · have k1 : (ln : Int) < (f : Int) := by omega
          clear hln2
          go_wp2_with (at_builtin; refine wpList_new _ W0 rfl _ _ 22 rfl 5 i0 .u8 1 Try.underlying22 hi hz0 hz1 hz2 _ (L6 ++ List.replicate k 0) rfl (HN.out.1.fresh ((Kept.refl _ _).alloc _)) _ 1 1 [_] rfl (Row.one _ _ _ _) (by unfold maxLen; rw [← HN.out.2, Hln.out]; omega) (by rw [← HN.out.2, Hln.out]; omega) ?_; intro v9 X9 N9)
          have H9 : Hid (NewRow W0 X9 5 .u8 v9 (L6 ++ List.replicate (k + 1) 0)) := Lib.hid (by rw [List.replicate_succ', ← List.append_assoc]; exact N9)
          clear N9
          go_roundw
          case rel => exact ⟨k + 1, by omega, H9.out⟩
          case measure =>
            obtain ⟨A9, c9, e9, _, _⟩ := H9.out.1.row
            rw [e9]
            have h1 := Hln.out
            have h2 := l6
            simp [lenOf]
            omega
        · obtain rfl : k = 24 + gp := by omega
          have k1 : ¬ (ln : Int) < (f : Int) := by omega
          obtain ⟨L7, hL7⟩ : ∃ L, L = L6 ++ List.replicate (24 + gp) 0 := ⟨_, rfl⟩
          rw [← hL7] at HN
          have HL7 := Lib.hid hL7
          have b3 := HX.out.1.kept HN.out.1.2.2 id
          have c3 : wr.cell? ⟨w.heap.size, 3, none⟩ = some (.int .i64 (st : Nat)) := (b3.cell 3).trans rfl
          clear hln2 hL7 b3 HN6 hlt hk
          go_wp2_with fail
          go_loopw [15, 17] (fun v iv wq => ∃ k : Nat, k ≤ nn ∧ iv = .int .i64 (k : Int) ∧ NewRow W0 wq 5 .u8 v (L7 ++ pxs k)) (fun _ iv _ => (nn - intOf iv).toNat)
          case atStart => exact ⟨0, by omega, rfl, by rw [show pxs 0 = [] from rfl, List.append_nil]; exact HN.out.1⟩
          case round =>
            obtain ⟨k, hk, rfl, hN⟩ := hrel
            have HQ := Lib.hid hN
            clear hN
            by_cases hlt : k < nn
            · have k2 : (k : Int) < (nn : Int) := by omega
              obtain ⟨y, hy⟩ : ∃ y : Int, y = ((k % 256 : Nat) : Int) := ⟨_, rfl⟩
              have k3 : (k : Int) % 256 = y := by omega
              have Hy := Lib.hid hy
              clear hy
              have l7 : Hid ((L7 ++ pxs k).length ≤ 2000) := Lib.hid (by rw [List.length_append, pxs_len, ← HN.out.2, Hln.out]; omega)
              go_wp2_with (at_builtin; refine wpList_new _ W0 rfl _ _ 22 rfl 5 i0 .u8 1 Try.underlying22 hi hz0 hz1 hz2 _ (L7 ++ pxs k) rfl (HQ.out.fresh ((Kept.refl _ _).alloc _)) _ 1 1 [_] rfl (Row.one _ _ _ _) (by unfold maxLen; have := l7.out; omega) (by have := l7.out; omega) ?_; intro v9 X9 N9)
              have H9 : Hid (NewRow W0 X9 5 .u8 v9 (L7 ++ pxs (k + 1))) := Lib.hid (by rw [pxs_succ, ← List.append_assoc, ← Hy.out]; exact N9)
              clear N9
              go_roundw
              case rel => exact ⟨k + 1, by omega, by go_num, H9.out⟩
              case measure => simp [intOf]; omega
            · obtain rfl : k = nn := by omega
              obtain ⟨lb, hlb⟩ : ∃ lb, lb = (L7 ++ pxs k).length := ⟨_, rfl⟩
              have hlb2 : lb = f + k := by rw [hlb, List.length_append, pxs_len, ← HN.out.2, Hln.out]; have := HG.out; omega
              obtain ⟨Av, cv, rfl, hrow, _⟩ := HQ.out.1.row
              have hcap := HQ.out.1.cap
              have hLL : L7 ++ pxs k = bmL f a h 8 (24 + gp) (pxs k) := by
                rw [HL7.out, HL6.out, HL5.out, HL4.out, HL3.out, HL2.out, HL1.out]
                unfold bmL
                simp only [List.append_assoc]
              have hpic := bm_pic (f := f) (a := a) (h := h) (d := 8) (z := 24 + gp) (px := pxs k) (by have := HG.out; omega) (by have := HG.out; omega) HH.out.1 (by decide) (by have := HG.out; omega) (by omega)
              rw [← hLL, ← hlb, HH.out.2, show plnB 8 = 1 from rfl] at hpic
              have HB := cBmp_any Av lb cv (L7 ++ pxs k) wr (by rw [hlb]; exact hrow) (by rw [hLL]; exact bmL_byte _ _ _ _ _ (pxs_byte _)) (by have := HS.out; have := HG.out; omega) (by rw [hlb]; exact hcap)
              rw [hpic] at HB
              rw [← hlb]
              have HB := Lib.hid HB
              have HF1 : Hid (Fresh W0 wr) := Lib.hid HQ.out.2.2
              by_cases hm0 : m = 0
              · have hfit : fitP a b (strB a 1 : Nat) f lb := by
                  have h1 := HG.out
                  have h2 := HS.out
                  refine ⟨by omega, by omega, by omega, by omega, by omega, ?_⟩
                  rw [← h2.1, esb]
                  omega
                rw [show bmpR a b 1 f lb = some (a, b, 1, strB a 1, f) from if_pos hfit, ← HS.out.1] at HB
                simp only [pval, Option.isSome_some] at HB
                have q1 : ¬ (k : Int) < (sb : Int) := by have := HS.out; omega
                clear hlb hlb2 hcap hrow hLL hpic hfit hm0 hlt hk
                go_wp2_with fail
                refine HB.out.mono ?_
                rintro e V1 ⟨rfl, hg1⟩
                have b3 := HX.out.1.kept ((HF1.out.trans hg1 fun _ _ e => e).alloc (.cells #[.int .i64 (a : Nat), .int .i64 (b : Nat), .int .i64 1, .int .i64 (st : Nat), .int .i64 (f : Nat)] 26)) id
                have c3 : (V1.alloc (.cells #[.int .i64 (a : Nat), .int .i64 (b : Nat), .int .i64 1, .int .i64 (st : Nat), .int .i64 (f : Nat)] 26)).cell? ⟨w.heap.size, 3, none⟩ = some (.int .i64 (st : Nat)) := (b3.cell 3).trans rfl
                have HV1 := Lib.hid (And.intro b3 (And.intro (Blk.new V1 26 #[.int .i64 (a : Nat), .int .i64 (b : Nat), .int .i64 1, .int .i64 (st : Nat), .int .i64 (f : Nat)]) ((HF1.out.trans hg1 fun _ _ e => e).alloc (.cells #[.int .i64 (a : Nat), .int .i64 (b : Nat), .int .i64 1, .int .i64 (st : Nat), .int .i64 (f : Nat)] 26))))
                clear b3 hg1 HB
                go_wp2_with fail
                refine (awakeP_any _).mono ?_
                rintro e V2 ⟨rfl, hg2⟩
                have b4 := HV1.out.1.kept hg2 id
                have b5 := HV1.out.2.1.kept hg2 id
                have d0 : V2.cell? ⟨w.heap.size, 0, none⟩ = some (.int .i64 (a : Nat)) := (b4.cell 0).trans rfl
                have d1 : V2.cell? ⟨w.heap.size, 1, none⟩ = some (.int .i64 (b : Nat)) := (b4.cell 1).trans rfl
                have d2 : V2.cell? ⟨w.heap.size, 2, none⟩ = some (.int .i64 1) := (b4.cell 2).trans rfl
                have d3 : V2.cell? ⟨w.heap.size, 3, none⟩ = some (.int .i64 (st : Nat)) := (b4.cell 3).trans rfl
                have d4 : V2.cell? ⟨w.heap.size, 4, none⟩ = some (.int .i64 (f : Nat)) := (b4.cell 4).trans rfl
                have e0 : V2.cell? ⟨V1.heap.size, 0, none⟩ = some (.int .i64 (a : Nat)) := (b5.cell 0).trans rfl
                have e1 : V2.cell? ⟨V1.heap.size, 1, none⟩ = some (.int .i64 (b : Nat)) := (b5.cell 1).trans rfl
                have e2 : V2.cell? ⟨V1.heap.size, 2, none⟩ = some (.int .i64 1) := (b5.cell 2).trans rfl
                have e3 : V2.cell? ⟨V1.heap.size, 3, none⟩ = some (.int .i64 (st : Nat)) := (b5.cell 3).trans rfl
                have e4 : V2.cell? ⟨V1.heap.size, 4, none⟩ = some (.int .i64 (f : Nat)) := (b5.cell 4).trans rfl
                have HE := Lib.hid ((HX.out.2.1.trans (HV1.out.2.2.trans hg2 fun _ _ e => e) fun _ _ e => e).toBelow)
                clear b4 b5 hg2 HV1 c3
                go_wp2_with fail
                go_ret
                exact ⟨rfl, HE.out⟩
              · have hfit : ¬ fitP a b (strB a 1 : Nat) f lb := by
                  have h1 := HG.out
                  have h2 := HS.out
                  rintro ⟨_, _, _, _, _, h3⟩
                  rw [← h2.1, esb] at h3
                  omega
                rw [show bmpR a b 1 f lb = none from if_neg hfit] at HB
                simp only [pval, Option.isSome_none] at HB
                have q1 : (k : Int) < (sb : Int) := by have := HS.out; have := HG.out; omega
                clear hlb hlb2 hcap hrow hLL hpic hfit hm0 hlt hk
                go_wp2_with fail
                refine HB.out.mono ?_
                rintro e V1 ⟨rfl, hg1⟩
                have b3 := HX.out.1.kept ((HF1.out.trans hg1 fun _ _ e => e).alloc (.cells #[.int .i64 0, .int .i64 0, .int .i64 0, .int .i64 0, .int .i64 0] 26)) id
                have c3 : (V1.alloc (.cells #[.int .i64 0, .int .i64 0, .int .i64 0, .int .i64 0, .int .i64 0] 26)).cell? ⟨w.heap.size, 3, none⟩ = some (.int .i64 (st : Nat)) := (b3.cell 3).trans rfl
                have HV1 := Lib.hid (And.intro (Blk.new V1 26 #[.int .i64 0, .int .i64 0, .int .i64 0, .int .i64 0, .int .i64 0]) ((HF1.out.trans hg1 fun _ _ e => e).alloc (.cells #[.int .i64 0, .int .i64 0, .int .i64 0, .int .i64 0, .int .i64 0] 26)))
                clear b3 hg1 HB
                go_wp2_with fail
                refine (awakeP_any _).mono ?_
                rintro e V2 ⟨rfl, hg2⟩
                have b5 := HV1.out.1.kept hg2 id
                have e0 : V2.cell? ⟨V1.heap.size, 0, none⟩ = some (.int .i64 0) := (b5.cell 0).trans rfl
                have e1 : V2.cell? ⟨V1.heap.size, 1, none⟩ = some (.int .i64 0) := (b5.cell 1).trans rfl
                have e2 : V2.cell? ⟨V1.heap.size, 2, none⟩ = some (.int .i64 0) := (b5.cell 2).trans rfl
                have e3 : V2.cell? ⟨V1.heap.size, 3, none⟩ = some (.int .i64 0) := (b5.cell 3).trans rfl
                have e4 : V2.cell? ⟨V1.heap.size, 4, none⟩ = some (.int .i64 0) := (b5.cell 4).trans rfl
                have HE := Lib.hid ((HX.out.2.1.trans (HV1.out.2.trans hg2 fun _ _ e => e) fun _ _ e => e).toBelow)
                clear b5 hg2 HV1 c3
                go_wp2_with fail
                go_ret
                exact ⟨rfl, HE.out⟩


set_option maxRecDepth 100000 in
theorem lifted (os : Os) (started : os.Started) (H : Type) (enc : TypeId × Value → H) :
    ReturnsInHanded {} Try.checked os 6 .any (Rows.pictureBmpSpec.pre6 enc Try.prog Try.f6 Rows.pictureBmpRow.domain false) (Rows.pictureBmpSpec.post enc Try.prog Try.f6 false true false false) := by
  refine returnsInHanded_of_change (C := Try.checked) Try.own started (by kernel_rfl) Try.func6
    (ChangeSpec.witness6 (enc := enc) (C := Try.checked) false ⟨#[], #[.int .i64 0, .int .i64 0, .bool false, .bool false, .int .i64 0, .int .i64 0], []⟩ 8 (by kernel_rfl) (by kernel_rfl) (by kernel_rfl) (by kernel_rfl)) ?_
  intro W base args ds gs before hval0 hW hcnd _
  have hval : ∀ (j : Nat) t v, Try.f6.params[j]? = some t → args[j]? = some v → Value.okWide Try.prog W .any base t v := hval0
  have hpost : ∀ W', Below W.heap.size W W' → Rows.pictureBmpSpec.post enc Try.prog Try.f6 false true false false W args (.bool true) W' := fun W' hb =>
    law_post (by kernel_rfl) Try.underlying4 (by kernel_rfl) rfl (fun ds hl => match ds, hl with | [d1, d2, d3, d4, d5, d6], _ => ⟨rfl, rfl, rfl⟩) hW hb
  obtain ⟨p, q, hA0, hV, rfl, hfz, hnd⟩ := hW
  have hA : DataW.TrodAll enc Try.prog W 0 (fun _ => true) true Try.f6.params.toList args.toList ds p := hA0
  rw [Try.params6] at hA hval
  obtain ⟨v0, vs0, d0, ds0, p0, q0, hargs, rfl, rfl, h0, r0⟩ := trodAll_cons hA
  obtain ⟨v1, vs1, d1, ds1, p1, q1, rfl, rfl, rfl, h1, r1⟩ := trodAll_cons r0
  obtain ⟨v2, vs2, d2, ds2, p2, q2, rfl, rfl, rfl, h2, r2⟩ := trodAll_cons r1
  obtain ⟨v3, vs3, d3, ds3, p3, q3, rfl, rfl, rfl, h3, r3⟩ := trodAll_cons r2
  obtain ⟨v4, vs4, d4, ds4, p4, q4, rfl, rfl, rfl, h4, r4⟩ := trodAll_cons r3
  obtain ⟨v5, vs5, d5, ds5, p5, q5, rfl, rfl, rfl, h5, r5⟩ := trodAll_cons r4
  obtain ⟨rfl, rfl, rfl⟩ := trodAll_nil r5
  obtain rfl : args = #[v0, v1, v2, v3, v4, v5] := by cases args; simp_all
  obtain ⟨a0, rfl, rfl, rfl, w0⟩ := open_int Try.underlying3 (hval 0 3 v0 rfl rfl) h0
  obtain ⟨a1, rfl, rfl, rfl, w1⟩ := open_int Try.underlying3 (hval 1 3 v1 rfl rfl) h1
  obtain ⟨a2, rfl, rfl, rfl⟩ := open_bool Try.underlying4 (hval 2 4 v2 rfl rfl) h2
  obtain ⟨a3, rfl, rfl, rfl⟩ := open_bool Try.underlying4 (hval 3 4 v3 rfl rfl) h3
  obtain ⟨a4, rfl, rfl, rfl, w4⟩ := open_int Try.underlying3 (hval 4 3 v4 rfl rfl) h4
  obtain ⟨a5, rfl, rfl, rfl, w5⟩ := open_int Try.underlying3 (hval 5 3 v5 rfl rfl) h5
  refine (walk a0 a1 a2 a3 a4 a5 W).mono fun e W' ⟨he, hb⟩ => ⟨_, he, hpost W' hb⟩

/-- The statement. -/
theorem proved : Rows.PictureBmpSaid :=
  OpenClaim.holds_of_wide 6 Try.f6 rfl rfl rfl rfl rfl rfl rfl ⟨rfl, rfl, rfl, rfl, rfl⟩ rfl rfl rfl rfl rfl (by kernel_rfl) Try.func6 (by kernel_rfl)
    (of_decide_eq_true (by kernel_rfl)) (by unfold Func.isWrapper; first | (rw [if_pos (by decide +kernel)]; kernel_rfl) | (rw [if_neg (by decide +kernel)]; exact ⟨rfl, rfl⟩))
    (fun os started H enc _ => lifted os started H enc)
#print axioms proved

end Go.Proofs.Ytlmhodkdcllcjaa.pictureBmp
