/- The code's Bmp. -/
import Derived.Test.YtlmhodkdcllcjaaPicD
namespace Go.Proofs.Ytlmhodkdcllcjaa
open Go.RowKit
set_option maxRecDepth 100000

attribute [local go_sem ↓] Go.wp_at_zero Go.wp_at_succ

set_option maxHeartbeats 3200000 in
theorem cBmpHead_cut (g R : Nat) (A : Option Addr) (c : Nat) (bs : List Int) (w : World) (h54 : bs.length < 54) (h0 : Blk w g 57 #[.pointer (some ⟨R, 0, none⟩)]) (h1 : NRd w R 73 [] A c bs 0 0) :
    Calls Try.prog 19 #[.pointer (some ⟨g, 0, none⟩)] w fun e w' => e = .returned (hval none) ∧ Kept (fun k => k = R) w w' := by
  have H0 : Hid (BS w g R A c bs 0 0 (w.alloc (.cells #[.int .u64 0, .int .u64 0, .int .u64 0, .int .u64 0, .int .u64 0] 38))) := Lib.hid ⟨Blk.new _ _ _, h0.alloc _, h1.kept ((Kept.refl (fun _ => False) w).alloc _) id (fun _ _ _ _ => id), (Kept.refl _ _).alloc _, h1.blk.lt⟩
  have C0 : Hid (Cutt 0 0 0) := Lib.hid (.inr rfl)
  have HL := Lib.hid h54
  clear h0 h1 h54
  generalize hW0 : w.alloc (.cells #[.int .u64 0, .int .u64 0, .int .u64 0, .int .u64 0, .int .u64 0] 38) = W0 at *
  have c0 := H0.out.c0
  go_enter Try.func19, Try.ntmps19
  go_wp2_with fail
  clear hW0
  refine (rRaw_cut R _ [] A c bs _ _ _ 0 2 2 rfl (by omega) C0.out H0.out.rd).mono ?_
  rintro e w1 ⟨A0, m0, d0, ys0, p0, r0, rfl, hrow, hr, hc, hk⟩
  have s0 := row_string hrow d0
  have H1 := Lib.hid (H0.out.step hr hk)
  have C1 := Lib.hid hc
  have c0 := H1.out.c0
  clear H0 hr hk hc C0 hrow
  go_wp2_with fail
  refine (rRaw_cut R _ [] A c bs _ _ _ 2 8 8 rfl (by omega) C1.out H1.out.rd).mono ?_
  rintro e w2 ⟨A1, m1, d1, ys1, p1, r1, rfl, hrow, hr, hc, hk⟩
  have H2 := Lib.hid (H1.out.step hr hk)
  have C2 := Lib.hid hc
  have c0 := H2.out.c0
  clear H1 hr hk hc C1 hrow
  go_wp2_with fail
  refine (rLit_cut R _ [] A c bs _ _ _ 10 4 4 rfl (by omega) C2.out H2.out.rd).mono ?_
  rintro e w3 ⟨x2, p2, r2, rfl, hx, hr, hc, hk⟩
  have B2 := Lib.hid hx
  clear hx
  have H3 := Lib.hid (H2.out.step hr hk)
  have C3 := Lib.hid hc
  have c0 := H3.out.c0
  clear H2 hr hk hc C2
  go_wp2_with fail
  refine (rLit_cut R _ [] A c bs _ _ _ 14 4 4 rfl (by omega) C3.out H3.out.rd).mono ?_
  rintro e w4 ⟨x3, p3, r3, rfl, hx, hr, hc, hk⟩
  have B3 := Lib.hid hx
  clear hx
  have H4 := Lib.hid (H3.out.step hr hk)
  have C4 := Lib.hid hc
  have c0 := H4.out.c0
  clear H3 hr hk hc C3
  go_wp2_with fail
  refine (rLit_cut R _ [] A c bs _ _ _ 18 4 4 rfl (by omega) C4.out H4.out.rd).mono ?_
  rintro e w5 ⟨x4, p4, r4, rfl, hx, hr, hc, hk⟩
  have B4 := Lib.hid hx
  clear hx
  have H5 := Lib.hid (H4.out.step hr hk)
  have C5 := Lib.hid hc
  have c0 := H5.out.c0
  clear H4 hr hk hc C4
  go_wp2_with fail
  refine (rLit_cut R _ [] A c bs _ _ _ 22 4 4 rfl (by omega) C5.out H5.out.rd).mono ?_
  rintro e w6 ⟨x5, p5, r5, rfl, hx, hr, hc, hk⟩
  have B5 := Lib.hid hx
  clear hx
  have H6 := Lib.hid (H5.out.step hr hk)
  have C6 := Lib.hid hc
  have c0 := H6.out.c0
  clear H5 hr hk hc C5
  go_wp2_with fail
  refine (cAmount_any x5 _ B5.out).mono ?_
  rintro e wz ⟨rfl, rfl⟩
  go_wp2_with fail
  refine (rLit_cut R _ [] A c bs _ _ _ 26 2 2 rfl (by omega) C6.out H6.out.rd).mono ?_
  rintro e w7 ⟨x6, p6, r6, rfl, hx, hr, hc, hk⟩
  have B6 := Lib.hid hx
  clear hx
  have H7 := Lib.hid (H6.out.step hr hk)
  have C7 := Lib.hid hc
  have c0 := H7.out.c0
  clear H6 hr hk hc C6
  go_wp2_with fail
  refine (rLit_cut R _ [] A c bs _ _ _ 28 2 2 rfl (by omega) C7.out H7.out.rd).mono ?_
  rintro e w8 ⟨x7, p7, r7, rfl, hx, hr, hc, hk⟩
  have B7 := Lib.hid hx
  clear hx
  have H8 := Lib.hid (H7.out.step hr hk)
  have C8 := Lib.hid hc
  have c0 := H8.out.c0
  clear H7 hr hk hc C7
  go_wp2_with fail
  refine (cPlanesOf_any x7 _).mono ?_
  rintro e wz ⟨rfl, rfl⟩
  go_wp2_with fail
  refine (rLit_cut R _ [] A c bs _ _ _ 30 4 4 rfl (by omega) C8.out H8.out.rd).mono ?_
  rintro e w9 ⟨x8, p8, r8, rfl, hx, hr, hc, hk⟩
  have B8 := Lib.hid hx
  clear hx
  have H9 := Lib.hid (H8.out.step hr hk)
  have C9 := Lib.hid hc
  have c0 := H9.out.c0
  clear H8 hr hk hc C8
  go_wp2_with fail
  refine (rRaw_cut R _ [] A c bs _ _ _ 34 20 20 rfl (by omega) C9.out H9.out.rd).mono ?_
  rintro e w10 ⟨A9, m9, d9, ys9, p9, r9, rfl, hrow, hr, hc, hk⟩
  have H10 := Lib.hid (H9.out.step hr hk)
  have C10 := Lib.hid hc
  have c0 := H10.out.c0
  clear H9 hr hk hc C9 hrow
  go_wp2_with fail
  refine (nrErr_any R _ [] A c bs _ _ _ H10.out.rd).mono ?_
  rintro e wz ⟨rfl, rfl⟩
  have hne : r9 ≠ 0 := by
    rcases C10.out with h | h
    · exact h
    · have := H10.out.rd.le
      have := HL.out
      omega
  have bne : (r9 != 0) = true := by simpa using hne
  have rz0 : w10.cell? ⟨w.heap.size, 0, none⟩ = some (.int .u64 0) := (H10.out.res.cell 0).trans rfl
  have rzf0 : w10.frozen? ⟨w.heap.size, 0, none⟩ = false := H10.out.res.frozen 0
  have rz1 : w10.cell? ⟨w.heap.size, 1, none⟩ = some (.int .u64 0) := (H10.out.res.cell 1).trans rfl
  have rzf1 : w10.frozen? ⟨w.heap.size, 1, none⟩ = false := H10.out.res.frozen 1
  have rz2 : w10.cell? ⟨w.heap.size, 2, none⟩ = some (.int .u64 0) := (H10.out.res.cell 2).trans rfl
  have rzf2 : w10.frozen? ⟨w.heap.size, 2, none⟩ = false := H10.out.res.frozen 2
  have rz3 : w10.cell? ⟨w.heap.size, 3, none⟩ = some (.int .u64 0) := (H10.out.res.cell 3).trans rfl
  have rzf3 : w10.frozen? ⟨w.heap.size, 3, none⟩ = false := H10.out.res.frozen 3
  have rz4 : w10.cell? ⟨w.heap.size, 4, none⟩ = some (.int .u64 0) := (H10.out.res.cell 4).trans rfl
  have rzf4 : w10.frozen? ⟨w.heap.size, 4, none⟩ = false := H10.out.res.frozen 4
  clear hne C10
  go_wp2_with fail
  refine bodyPost_ret (v := hval none) (by simp [results, Try.f19, go_sem, hval, rz0, rz1, rz2, rz3, rz4]) rfl ?_
  exact ⟨rfl, set5k H10.out.fr _ _ _ _ _⟩

theorem cBmpHead_any (g R : Nat) (A : Option Addr) (c : Nat) (bs : List Int) (w : World) (h0 : Blk w g 57 #[.pointer (some ⟨R, 0, none⟩)]) (h1 : NRd w R 73 [] A c bs 0 0) :
    Calls Try.prog 19 #[.pointer (some ⟨g, 0, none⟩)] w fun e w' => e = .returned (hval (bmpH bs)) ∧ Kept (fun k => k = R) w w' := by
  by_cases h : 54 ≤ bs.length
  · exact cBmpHead_ok g R A c bs w h h0 h1
  · rw [show bmpH bs = none from if_neg (fun e => h e.1.1)]
    exact cBmpHead_cut g R A c bs w (by omega) h0 h1

set_option maxHeartbeats 1600000 in
theorem cNewBmp_any (A : Option Addr) (n c : Nat) (l : List Int) (w : World) (hr : Row w .u8 A n l) (h8 : B8 l) (hn : n ≤ 1000000000) (hnc : n ≤ c) :
    Calls Try.prog 18 #[.slice A n c] w fun e w' => ∃ g R A' c', e = .returned (.pointer (some ⟨g, 0, none⟩)) ∧ Blk w' g 57 #[.pointer (some ⟨R, 0, none⟩)] ∧ NRd w' R 73 [] A' c' (l.take 54) 0 0 ∧ w.heap.size ≤ R ∧ Fresh w w' := by
  obtain rfl := hr.len
  obtain ⟨m, hm⟩ : ∃ m : Nat, min (l.length : Int) 54 = m := ⟨(min (l.length : Int) 54).toNat, by omega⟩
  have hsl : ∀ W, (Instr.slice 22 (.slice A l.length c) none (some (.int .i64 (min (l.length : Int) 54))) none).run Try.prog W = .ok (.slice A m c) W := fun W =>
    run_slice_to _ _ Try.underlying22 byte_size A l.length c m _ hm (by omega) W
  have hrow : Row w .u8 A m (l.take 54) := by
    refine ⟨by rw [List.length_take]; omega, fun j hj => ?_⟩
    obtain ⟨b, o, e, hb, hc⟩ := hr.at_ j (by omega)
    exact ⟨b, o, e, hb, by rw [hc, getD_cut (by omega)]⟩
  have HN := Lib.hid (nrNew_any A m c (l.take 54) w hrow (fun x hx => h8 x (List.mem_of_mem_take hx)) (by omega))
  clear hrow hr hm
  go_enter Try.func18, Try.ntmps18
  go_wp2_with fail
  refine HN.out.mono ?_
  rintro e w1 ⟨R, A', c', rfl, h1, h2, _, h4⟩
  have H1 := Lib.hid (And.intro h1 (And.intro h2 h4))
  clear h1 h2 h4 HN
  go_wp2_with fail
  go_ret
  exact ⟨w1.heap.size, R, A', c', rfl, Blk.new _ _ _, H1.out.1.kept ((Kept.refl (fun _ => False) _).alloc _) id (fun _ _ _ _ => id), H1.out.2.1, H1.out.2.2.alloc _⟩

set_option maxHeartbeats 1600000 in
/-- Bmp: P16.1. -/
theorem cBmp_any (A : Option Addr) (n c : Nat) (l : List Int) (w : World) (hr : Row w .u8 A n l) (h8 : B8 l) (hn : n ≤ 1000000000) (hnc : n ≤ c) :
    Calls Try.prog 9 #[.slice A n c] w fun e w' => e = .returned (.tuple #[pval (bmpP l), .bool (bmpP l).isSome]) ∧ Fresh w w' := by
  obtain rfl := hr.len
  obtain ⟨W0, hW0⟩ : ∃ W0, W0 = w.alloc (.cells #[.int .i64 0, .int .i64 0, .int .i64 0, .int .i64 0, .int .i64 0] 26) := ⟨_, rfl⟩
  have hf0 : Fresh w W0 := by rw [hW0]; exact (Kept.refl _ _).alloc _
  have hb0 : Blk W0 w.heap.size 26 #[.int .i64 0, .int .i64 0, .int .i64 0, .int .i64 0, .int .i64 0] := by rw [hW0]; exact Blk.new _ _ _
  have HN := Lib.hid (cNewBmp_any A l.length c l W0 (hr.kept hf0 (fun _ _ _ _ => id)) h8 hn hnc)
  have H0 := Lib.hid (And.intro hf0 hb0)
  have HC := Lib.hid (And.intro h8 hn)
  obtain ⟨n, hnn⟩ : ∃ n, n = l.length := ⟨_, rfl⟩
  have Hn := Lib.hid hnn
  rw [← hnn] at HN ⊢
  clear hr h8 hn hf0 hb0 hnn hnc
  go_enter Try.func9, Try.ntmps9
  go_wp2_with fail
  rw [← hW0]
  clear hW0
  refine HN.out.mono ?_
  rintro e w1 ⟨g, R, A', c', rfl, h1, h2, h3, h4⟩
  have H1 := Lib.hid (And.intro h1 (And.intro h2 (And.intro h3 h4)))
  clear h1 h2 h3 h4 HN
  go_wp2_with fail
  refine (cBmpHead_any g R A' c' (l.take 54) w1 H1.out.1 H1.out.2.1).mono ?_
  rw [bmpH_cut]
  rintro e w2 ⟨rfl, hk⟩
  have hf2 : Fresh W0 w2 := H1.out.2.2.2.trans hk fun i hi e => by have := H1.out.2.2.1; omega
  have H2 := Lib.hid hf2
  clear hk hf2
  go_wp2_with fail
  refine (cWithin_any (bmpH l) n w2 (fun r hr => bmpH_ok HC.out.1 hr) (by rw [Hn.out]; exact HC.out.2)).mono ?_
  rw [show fitO n (bmpH l) = bmpP l from by rw [Hn.out, bmpP_fit]]
  rintro e w3 ⟨rfl, hf3⟩
  have hf := H2.out.trans hf3 fun _ _ e => e
  have hr := H0.out.2.kept hf id
  obtain ⟨o, ho⟩ : ∃ o, o = bmpP l := ⟨_, rfl⟩
  rw [← ho]
  have Ho := Lib.hid ho
  have HF := Lib.hid (H0.out.1.trans hf fun _ _ e => e)
  have rz0 : w3.cell? ⟨w.heap.size, 0, none⟩ = some (.int .i64 0) := (hr.cell 0).trans rfl
  have rzf0 : w3.frozen? ⟨w.heap.size, 0, none⟩ = false := hr.frozen 0
  have rz1 : w3.cell? ⟨w.heap.size, 1, none⟩ = some (.int .i64 0) := (hr.cell 1).trans rfl
  have rzf1 : w3.frozen? ⟨w.heap.size, 1, none⟩ = false := hr.frozen 1
  have rz2 : w3.cell? ⟨w.heap.size, 2, none⟩ = some (.int .i64 0) := (hr.cell 2).trans rfl
  have rzf2 : w3.frozen? ⟨w.heap.size, 2, none⟩ = false := hr.frozen 2
  have rz3 : w3.cell? ⟨w.heap.size, 3, none⟩ = some (.int .i64 0) := (hr.cell 3).trans rfl
  have rzf3 : w3.frozen? ⟨w.heap.size, 3, none⟩ = false := hr.frozen 3
  have rz4 : w3.cell? ⟨w.heap.size, 4, none⟩ = some (.int .i64 0) := (hr.cell 4).trans rfl
  have rzf4 : w3.frozen? ⟨w.heap.size, 4, none⟩ = false := hr.frozen 4
  clear hf3 hf hr ho
  cases o with
  | none =>
    simp only [pval, Option.isSome_none]
    go_wp2_with fail
    refine bodyPost_ret (v := .tuple #[pval none, .bool false]) (by simp [results, Try.f9, go_sem, pval, rz0, rz1, rz2, rz3, rz4]) rfl ?_
    exact ⟨by rw [← Ho.out]; rfl, set5 HF.out _ _ _ _ _⟩
  | some r =>
    simp only [pval, Option.isSome_some]
    go_wp2_with fail
    refine bodyPost_ret (v := .tuple #[pval (some r), .bool true]) (by simp [results, Try.f9, go_sem, pval, rz0, rz1, rz2, rz3, rz4]) rfl ?_
    exact ⟨by rw [← Ho.out]; rfl, set5 HF.out _ _ _ _ _⟩

end Go.Proofs.Ytlmhodkdcllcjaa
