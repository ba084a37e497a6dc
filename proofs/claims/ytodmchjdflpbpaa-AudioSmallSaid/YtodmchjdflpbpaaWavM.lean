/- The document's Make of WAV files. -/
import Derived.Test.YtodmchjdflpbpaaWavQ
import Derived.Test.YtodmchjdflpbpaaAppNew
import Derived.Lib.SlBytesConst
namespace Go.Proofs.Ytodmchjdflpbpaa
open Go.RowKit
set_option maxRecDepth 100000

attribute [local go_sem ↓] Go.wp_at_zero Go.wp_at_succ

theorem Row.of_cells {w : World} {k : IntKind} {g : Nat} {e : TypeId} {fz : Nat × Nat} {xs : List Int} (h : w.heap[g]? = some (.cells (ivs k xs).toArray e fz)) : Row w k (some ⟨g, 0, none⟩) xs.length xs :=
  ⟨rfl, fun j hj => ⟨g, 0, rfl, (Array.getElem?_eq_some_iff.1 h).1, by
    rw [Nat.zero_add, cell_of_row _ _ _ _ _ _ h, List.getElem?_toArray, ivs_get hj]⟩⟩

set_option maxHeartbeats 6400000 in
/-- Make: P13.2, where it makes one. -/
theorem qWMake_ok (ch b : Nat) (f t : Int) (A : Option Addr) (n c : Nat) (xs : List Int) (w : World) (h : wok ch b) (hr : Row w .u8 A n xs) (hn : n ≤ 1000000000) :
    Calls Try.prog 4 #[.agg #[.int .i64 ch, .int .i64 b, .int .i64 f, .int .i64 t], .slice A n c] w fun e w' => ∃ u, e = .returned u ∧ NewRow w w' 5 .u8 u (wmake ch b xs) := by
  obtain ⟨i0, hi, hz0, hz1, hz2⟩ := info_parts Try.infoByteQ
  rw [wmake_ok h]
  obtain rfl := hr.len
  obtain ⟨W0, hW0⟩ : ∃ W0, W0 = w.alloc (.cells #[.int .i64 ch, .int .i64 b, .int .i64 f, .int .i64 t] 26) := ⟨_, rfl⟩
  have hb0 : Blk W0 w.heap.size 26 #[.int .i64 ch, .int .i64 b, .int .i64 f, .int .i64 t] := by rw [hW0]; exact Blk.new _ _ _
  have hf0 : Fresh w W0 := by rw [hW0]; exact (Kept.refl _ _).alloc _
  have hz : W0.heap.size = w.heap.size + 1 := by rw [hW0]; simp
  obtain ⟨W1, hW1⟩ : ∃ W1, W1 = W0.alloc (.cells (ivs .u8 nRIFF).toArray 5 ((ivs .u8 nRIFF).toArray.size, (ivs .u8 nRIFF).toArray.size + 1)) := ⟨_, rfl⟩
  obtain ⟨s0, hs0⟩ : ∃ s0 : Value, s0 = .slice (some ⟨w.heap.size + 1, 0, none⟩) 4 4 := ⟨_, rfl⟩
  have hcv : (convert 27 27 (.slice (some ⟨w.heap.size + 1, 0, none⟩) 4 4)).run Try.prog ((w.alloc (.cells #[.int .i64 ch, .int .i64 b, .int .i64 f, .int .i64 t] 26)).alloc (.cells #[.int .u8 82, .int .u8 73, .int .u8 70, .int .u8 70] 5)) = .ok s0 W1 := by
    rw [hs0]
    have := Lib.run_convert_bytes_const (P := Try.prog) W0 27 5 (ivs .u8 nRIFF).toArray 4 4 Try.underlying27 Try.underlying5
    rw [← hW1, hz, hW0] at this
    exact this
  have hr1 : Row W1 .u8 (some ⟨w.heap.size + 1, 0, none⟩) 4 nRIFF := by rw [hW1, ← hz]; exact Row.of_cells (heap_alloc_new W0 _)
  have hf1 : Fresh W0 W1 := by rw [hW1]; exact (Kept.refl _ _).alloc _
  have h8 := h
  unfold wok at h8
  have k1 : ¬ (ch : Int) < 1 := by omega
  have k2 : ¬ (8 : Int) < (ch : Int) := by omega
  have hcs : ((((b : Int) != 8) = false)) ∨ ((((b : Int) != 8) = true) ∧ (((b : Int) != 16) = false)) := by
    simp only [bne_iff_ne, ne_eq, bne_eq_false_iff_eq]
    omega
  obtain ⟨m8, hm8⟩ : ∃ m8, m8 = ch * b := ⟨_, rfl⟩
  have hm : (ch : Int) * (b : Int) = (m8 : Int) := by rw [hm8]; simp
  have m8l : m8 ≤ 128 ∧ 8 ≤ m8 := by
    rw [hm8]
    rcases h8.2.2 with e | e <;> subst e <;> omega
  obtain ⟨fr, hfr⟩ : ∃ fr, fr = m8 / 8 := ⟨_, rfl⟩
  have hf8 : (m8 : Int) / 8 = (fr : Int) := by omega
  have hfrl : ch * b / 8 = fr := by rw [hfr, hm8]
  have m80 : (0 : Int) ≤ (m8 : Int) := by omega
  have m81 : (m8 : Int) ≤ 128 := by omega
  have fr0 : (0 : Int) ≤ (fr : Int) := by omega
  have fr1 : (fr : Int) ≤ 16 := by omega
  have n0 : (xs.length : Int) ≤ 1000000000 := by omega
  have ch0 : (0 : Int) ≤ (ch : Int) := by omega
  have bb0 : (0 : Int) ≤ (b : Int) ∧ (b : Int) ≤ 16 := by omega
  obtain ⟨bb1, bb2⟩ := bb0
  have HL : Hid (∀ (V : World) (vi ni : Int) (v n : Nat), vi = v → ni = n → n ≤ 8 → Calls Try.prog 7 #[.int .u64 vi, .int .i64 ni] V fun e w' => ∃ u A c, e = .returned u ∧ u = .slice A n c ∧ Row w' .u8 A n (leBytes v n) ∧ Fresh V w') := Lib.hid fun V vi ni v n hv hn' h8 => by
    subst hv hn'
    refine (qLit_any v n V h8).mono ?_
    rintro e w' ⟨u, rfl, hu⟩
    obtain ⟨Au, cu, rfl, hru, _⟩ := hu.1.row
    rw [leBytes_length] at hru ⊢
    exact ⟨_, Au, cu, rfl, rfl, hru, hu.2.2⟩
  have HX := Lib.hid (And.intro hb0 (And.intro hf0 (And.intro hr1 (And.intro hf1 hr))))
  have HFR := Lib.hid (And.intro hfrl h)
  have HS0 := Lib.hid hs0
  clear hb0 hf0 hr1 hf1 hr hm8 hfr hfrl h8 h m8l hW0 hW1 hs0
  rcases hcs with k4 | ⟨k4, k5⟩
  all_goals
    go_enter Try.func4, Try.ntmps4
    go_wp2_with fail
    clear hcv
    refine (HL.out _ _ _ (36 + xs.length) 4 (by omega) rfl (by omega)).mono ?_
    rintro e V1 ⟨u1, A1, d1, rfl, hu1, r1, g1⟩
    have P1 := Lib.hid (And.intro (HX.out.2.2.2.1.trans g1 fun _ _ e => e) (HX.out.2.2.1.kept g1 (fun _ _ _ _ => id)))
    have R1 := Lib.hid (And.intro hu1 r1)
    clear hu1 r1 g1
    go_wp2_with (first
      | (at_builtin; refine wpList_new_full _ W0 P1.out.1 rfl _ _ 27 rfl 5 i0 .u8 1 Try.underlying27 hi hz0 hz1 hz2 ⟨w.heap.size + 1, 0, none⟩ 4 nRIFF HS0.out P1.out.2 A1 4 d1 _ R1.out.1 R1.out.2 (by omega) (by decide) (by decide) ?_; intro v1 X1 N1; have M1 := Lib.hid N1; clear N1)
      | (at_builtin; refine wpList_new_str _ W0 rfl _ _ 27 9 rfl 5 i0 Try.underlying27 Try.underlying9 hi hz0 hz1 hz2 _ (nRIFF ++ leBytes (36 + xs.length) 4) rfl M1.out _ (nWAVE ++ nFmt) rfl rfl (by unfold maxLen; simp [leBytes_length, nRIFF, nWAVE, nFmt]) (by simp [leBytes_length, nRIFF, nWAVE, nFmt]) ?_; intro v2 X2 N2))
    obtain ⟨L2, hL2⟩ : ∃ L, L = (nRIFF ++ leBytes (36 + xs.length) 4) ++ (nWAVE ++ nFmt) := ⟨_, rfl⟩
    rw [← hL2] at N2
    have l2 : L2.length = 16 := by rw [hL2, List.length_append, List.length_append, leBytes_length]; rfl
    have HL2 := Lib.hid hL2
    clear hL2
    refine (HL.out _ _ _ (16) 4 (by rfl) rfl (by omega)).mono ?_
    rintro e V3 ⟨u3, A3, d3, rfl, hu3, r3, g3⟩
    have P3 := Lib.hid (N2.fresh g3)
    have R3 := Lib.hid (And.intro hu3 r3)
    clear N2 hu3 r3 g3
    go_wp2_with (at_builtin; refine wpList_new _ W0 rfl _ _ 27 rfl 5 i0 .u8 1 Try.underlying27 hi hz0 hz1 hz2 _ L2 rfl P3.out A3 4 d3 _ R3.out.1 R3.out.2 (by unfold maxLen; omega) (by omega) ?_; intro v3 X3 N3)
    obtain ⟨L3, hL3⟩ : ∃ L, L = L2 ++ leBytes (16) 4 := ⟨_, rfl⟩
    rw [← hL3] at N3
    have l3 : L3.length = 20 := by rw [hL3, List.length_append, l2, leBytes_length]
    have HL3 := Lib.hid hL3
    clear hL3
    refine (HL.out _ _ _ (1) 2 (by rfl) rfl (by omega)).mono ?_
    rintro e V4 ⟨u4, A4, d4, rfl, hu4, r4, g4⟩
    have P4 := Lib.hid (N3.fresh g4)
    have R4 := Lib.hid (And.intro hu4 r4)
    clear N3 hu4 r4 g4
    go_wp2_with (at_builtin; refine wpList_new _ W0 rfl _ _ 27 rfl 5 i0 .u8 1 Try.underlying27 hi hz0 hz1 hz2 _ L3 rfl P4.out A4 2 d4 _ R4.out.1 R4.out.2 (by unfold maxLen; omega) (by omega) ?_; intro v4 X4 N4; have c4 : X4.cell? ⟨w.heap.size, 0, none⟩ = some (.int .i64 ch) := (HX.out.1.kept N4.2.2 id).cell 0)
    obtain ⟨L4, hL4⟩ : ∃ L, L = L3 ++ leBytes (1) 2 := ⟨_, rfl⟩
    rw [← hL4] at N4
    have l4 : L4.length = 22 := by rw [hL4, List.length_append, l3, leBytes_length]
    have HL4 := Lib.hid hL4
    clear hL4
    refine (HL.out _ _ _ (ch) 2 (by rfl) rfl (by omega)).mono ?_
    rintro e V5 ⟨u5, A5, d5, rfl, hu5, r5, g5⟩
    have P5 := Lib.hid (N4.fresh g5)
    have R5 := Lib.hid (And.intro hu5 r5)
    clear N4 hu5 r5 g5
    go_wp2_with (at_builtin; refine wpList_new _ W0 rfl _ _ 27 rfl 5 i0 .u8 1 Try.underlying27 hi hz0 hz1 hz2 _ L4 rfl P5.out A5 2 d5 _ R5.out.1 R5.out.2 (by unfold maxLen; omega) (by omega) ?_; intro v5 X5 N5)
    obtain ⟨L5, hL5⟩ : ∃ L, L = L4 ++ leBytes (ch) 2 := ⟨_, rfl⟩
    rw [← hL5] at N5
    have l5 : L5.length = 24 := by rw [hL5, List.length_append, l4, leBytes_length]
    have HL5 := Lib.hid hL5
    clear hL5
    refine (HL.out _ _ _ (8000) 4 (by rfl) rfl (by omega)).mono ?_
    rintro e V6 ⟨u6, A6, d6, rfl, hu6, r6, g6⟩
    have P6 := Lib.hid (N5.fresh g6)
    have R6 := Lib.hid (And.intro hu6 r6)
    clear N5 hu6 r6 g6
    go_wp2_with (at_builtin; refine wpList_new _ W0 rfl _ _ 27 rfl 5 i0 .u8 1 Try.underlying27 hi hz0 hz1 hz2 _ L5 rfl P6.out A6 4 d6 _ R6.out.1 R6.out.2 (by unfold maxLen; omega) (by omega) ?_; intro v6 X6 N6)
    obtain ⟨L6, hL6⟩ : ∃ L, L = L5 ++ leBytes (8000) 4 := ⟨_, rfl⟩
    rw [← hL6] at N6
    have l6 : L6.length = 28 := by rw [hL6, List.length_append, l5, leBytes_length]
    have HL6 := Lib.hid hL6
    clear hL6
    refine (HL.out _ _ _ (8000 * fr) 4 (by omega) rfl (by omega)).mono ?_
    rintro e V7 ⟨u7, A7, d7, rfl, hu7, r7, g7⟩
    have P7 := Lib.hid (N6.fresh g7)
    have R7 := Lib.hid (And.intro hu7 r7)
    clear N6 hu7 r7 g7
    go_wp2_with (at_builtin; refine wpList_new _ W0 rfl _ _ 27 rfl 5 i0 .u8 1 Try.underlying27 hi hz0 hz1 hz2 _ L6 rfl P7.out A7 4 d7 _ R7.out.1 R7.out.2 (by unfold maxLen; omega) (by omega) ?_; intro v7 X7 N7)
    obtain ⟨L7, hL7⟩ : ∃ L, L = L6 ++ leBytes (8000 * fr) 4 := ⟨_, rfl⟩
    rw [← hL7] at N7
    have l7 : L7.length = 32 := by rw [hL7, List.length_append, l6, leBytes_length]
    have HL7 := Lib.hid hL7
    clear hL7
    refine (HL.out _ _ _ (fr) 2 (by rfl) rfl (by omega)).mono ?_
    rintro e V8 ⟨u8, A8, d8, rfl, hu8, r8, g8⟩
    have P8 := Lib.hid (N7.fresh g8)
    have R8 := Lib.hid (And.intro hu8 r8)
    clear N7 hu8 r8 g8
    go_wp2_with (at_builtin; refine wpList_new _ W0 rfl _ _ 27 rfl 5 i0 .u8 1 Try.underlying27 hi hz0 hz1 hz2 _ L7 rfl P8.out A8 2 d8 _ R8.out.1 R8.out.2 (by unfold maxLen; omega) (by omega) ?_; intro v8 X8 N8; have c8 : X8.cell? ⟨w.heap.size, 1, none⟩ = some (.int .i64 b) := (HX.out.1.kept N8.2.2 id).cell 1)
    obtain ⟨L8, hL8⟩ : ∃ L, L = L7 ++ leBytes (fr) 2 := ⟨_, rfl⟩
    rw [← hL8] at N8
    have l8 : L8.length = 34 := by rw [hL8, List.length_append, l7, leBytes_length]
    have HL8 := Lib.hid hL8
    clear hL8
    refine (HL.out _ _ _ (b) 2 (by rfl) rfl (by omega)).mono ?_
    rintro e V9 ⟨u9, A9, d9, rfl, hu9, r9, g9⟩
    have P9 := Lib.hid (N8.fresh g9)
    have R9 := Lib.hid (And.intro hu9 r9)
    clear N8 hu9 r9 g9
    go_wp2_with (first
      | (at_builtin; refine wpList_new _ W0 rfl _ _ 27 rfl 5 i0 .u8 1 Try.underlying27 hi hz0 hz1 hz2 _ L8 rfl P9.out A9 2 d9 _ R9.out.1 R9.out.2 (by unfold maxLen; omega) (by omega) ?_; intro v9 X9 N9; have M9 := Lib.hid N9; clear N9)
      | (at_builtin; refine wpList_new_str _ W0 rfl _ _ 27 9 rfl 5 i0 Try.underlying27 Try.underlying9 hi hz0 hz1 hz2 _ (L8 ++ leBytes b 2) rfl M9.out _ nData rfl rfl (by rw [List.length_append, l8, leBytes_length]; decide) (by rw [List.length_append, l8, leBytes_length]; decide) ?_; intro v10 X10 N10))
    obtain ⟨L10, hL10⟩ : ∃ L, L = (L8 ++ leBytes b 2) ++ nData := ⟨_, rfl⟩
    rw [← hL10] at N10
    have l10 : L10.length = 40 := by rw [hL10, List.length_append, List.length_append, l8, leBytes_length]; rfl
    have HL10 := Lib.hid hL10
    clear hL10
    refine (HL.out _ _ _ (xs.length) 4 (by rfl) rfl (by omega)).mono ?_
    rintro e V11 ⟨u11, A11, d11, rfl, hu11, r11, g11⟩
    have P11 := Lib.hid (N10.fresh g11)
    have R11 := Lib.hid (And.intro hu11 r11)
    clear N10 hu11 r11 g11
    go_wp2_with (at_builtin; refine wpList_new _ W0 rfl _ _ 27 rfl 5 i0 .u8 1 Try.underlying27 hi hz0 hz1 hz2 _ L10 rfl P11.out A11 4 d11 _ R11.out.1 R11.out.2 (by unfold maxLen; omega) (by omega) ?_; intro v11 X11 N11)
    obtain ⟨L11, hL11⟩ : ∃ L, L = L10 ++ leBytes (xs.length) 4 := ⟨_, rfl⟩
    rw [← hL11] at N11
    have l11 : L11.length = 44 := by rw [hL11, List.length_append, l10, leBytes_length]
    have HL11 := Lib.hid hL11
    clear hL11
    refine (hCopyBytes_any A xs.length c xs _ (HX.out.2.2.2.2.kept (HX.out.2.1.trans N11.2.2 fun _ _ e => e) (fun _ _ _ _ => id)) (by omega)).mono ?_
    rintro e V12 ⟨u12, rfl, hu12⟩
    obtain ⟨A12, d12, he12, r12, _⟩ := hu12.1.row
    have P12 := Lib.hid (N11.fresh hu12.2.2)
    have R12 := Lib.hid (And.intro he12 r12)
    clear N11 hu12 he12 r12
    go_wp2_with (at_builtin; refine wpList_new _ W0 rfl _ _ 27 rfl 5 i0 .u8 1 Try.underlying27 hi hz0 hz1 hz2 _ L11 rfl P12.out A12 xs.length d12 _ R12.out.1 R12.out.2 (by unfold maxLen; omega) (by omega) ?_; intro v12 X12 N12)
    have N13 := Lib.hid N12
    clear N12
    go_wp2_with fail
    refine bodyPost_ret (results_tmp rfl _ _ _) rfl ?_
    have e : L11 ++ xs = whead ch b xs.length ++ (wdata xs.length ++ xs) := by
      rw [HL11.out, HL10.out, HL8.out, HL7.out, HL6.out, HL5.out, HL4.out, HL3.out, HL2.out]
      unfold whead wdata
      rw [HFR.out.1]
      simp only [List.append_assoc]
    rw [← e]
    exact ⟨_, rfl, N13.out.1, fun k hk => Nat.le_trans HX.out.2.1.size (N13.out.2.1 k hk), HX.out.2.1.trans N13.out.2.2 fun _ _ e => e⟩

set_option maxHeartbeats 1600000 in
/-- Make: P13.2. -/
theorem qWMake_any (ch b f t : Int) (A : Option Addr) (n c : Nat) (xs : List Int) (w : World) (hr : Row w .u8 A n xs) (hn : n ≤ 1000000000) :
    Calls Try.prog 4 #[.agg #[.int .i64 ch, .int .i64 b, .int .i64 f, .int .i64 t], .slice A n c] w fun e w' => ∃ u, e = .returned u ∧ NewRow w w' 5 .u8 u (wmake ch b xs) := by
  by_cases h : ch < 1 ∨ 8 < ch ∨ (b ≠ 8 ∧ b ≠ 16)
  · have hm : wmake ch b xs = [] := by unfold wmake; rw [if_pos h]
    rw [hm]
    have hcs : (ch < 1) ∨ (¬ ch < 1 ∧ 8 < ch) ∨ (¬ ch < 1 ∧ ¬ 8 < ch ∧ ((b != 8) = true) ∧ ((b != 16) = true)) := by
      simp only [bne_iff_ne, ne_eq]
      omega
    clear h hr hm
    rcases hcs with k1 | ⟨k1, k2⟩ | ⟨k1, k2, k3, k4⟩
    all_goals
      go_enter Try.func4, Try.ntmps4
      go_wp2_with fail
      refine bodyPost_ret (results_tmp rfl _ _ _) rfl ?_
      exact ⟨_, rfl, Own.nil _ _ _, fun k e => (by cases e), (Kept.refl _ _).alloc _⟩
  · obtain ⟨ch', rfl⟩ := Int.eq_ofNat_of_zero_le (show 0 ≤ ch by omega)
    obtain ⟨b', rfl⟩ := Int.eq_ofNat_of_zero_le (show 0 ≤ b by omega)
    exact qWMake_ok ch' b' f t A n c xs w (by unfold wok; omega) hr hn

end Go.Proofs.Ytodmchjdflpbpaa
