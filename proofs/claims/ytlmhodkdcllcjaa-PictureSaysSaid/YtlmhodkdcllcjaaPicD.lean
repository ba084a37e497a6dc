/- The code's head of a BMP file. -/
import Derived.Test.YtlmhodkdcllcjaaPicC
import Derived.Test.YtlmhodkdcllcjaaNumR3
import Derived.Test.YtlmhodkdcllcjaaHelpStr
namespace Go.Proofs.Ytlmhodkdcllcjaa
open Go.RowKit
set_option maxRecDepth 100000

attribute [local go_sem ↓] Go.wp_at_zero Go.wp_at_succ

/-- What the head of a BMP file tells. -/
def bmpH (l : List Int) : Option (Nat × Nat × Nat × Nat × Nat) :=
  if hdB l ∧ okB (leAt l 10 4) (leAt l 14 4) (leAt l 26 2) (leAt l 28 2) (leAt l 30 4) then some (leAt l 18 4, amt4 (leAt l 22 4), plnB (leAt l 28 2), strB (leAt l 18 4) (plnB (leAt l 28 2)), leAt l 10 4) else none
theorem bmpP_fit (l : List Int) : bmpP l = fitO l.length (bmpH l) := by
  unfold bmpP bmpH
  split
  · rfl
  · rfl
theorem bmpH_ok {l : List Int} (h8 : B8 l) {r : Nat × Nat × Nat × Nat × Nat} (h : bmpH l = some r) : okH r := by
  unfold bmpH at h
  split at h
  · rename_i hc
    injection h with h
    subst h
    have h54 := hc.1.1
    have b10 := leAt_lt h8 (p := 10) (k := 4) (by omega)
    have b18 := leAt_lt h8 (p := 18) (k := 4) (by omega)
    have hp : plnB (leAt l 28 2) ≤ 3 := by unfold plnB; split <;> omega
    refine ⟨hp, ?_, by simp only []; omega⟩
    simp only []
    unfold strB
    have := Nat.mul_le_mul (show leAt l 18 4 ≤ 4294967296 by omega) hp
    omega
  · cases h

/-- Two bytes, held against a text. -/
theorem is_two {ys : List Int} (a b : Nat) (ha : a < 256) (hb : b < 256) (l : List UInt8) (hl : (strOfNums [(a : Int), (b : Int)]).toList = l) (hy : ∀ c ∈ ys, 0 ≤ c ∧ c < 256) : ((strOfNums ys).toList == l) = decide (ys = [(a : Int), (b : Int)]) := by
  rw [← hl]
  exact str_dec hy (fun c hc => by simp at hc; omega)
theorem slc_two {l : List Int} (h : 2 ≤ l.length) (a b : Int) : slc l 0 2 = [a, b] ↔ l.getD 0 0 = a ∧ l.getD 1 0 = b := by
  match l, h with
  | x :: y :: r, _ => simp [slc]
theorem slc_cut {l : List Int} {n p k : Nat} (h : p + k ≤ n) : slc (l.take n) p k = slc l p k := by
  unfold slc
  rw [List.drop_take, List.take_take, Nat.min_eq_left (by omega)]
theorem getD_cut {l : List Int} {n p : Nat} (h : p < n) : (l.take n).getD p 0 = l.getD p 0 := by
  rw [List.getD_eq_getElem?_getD, List.getD_eq_getElem?_getD, List.getElem?_take_of_lt h]
theorem bmpH_cut (l : List Int) : bmpH (l.take 54) = bmpH l := by
  have hh : hdB (l.take 54) ↔ hdB l := by
    unfold hdB
    rw [List.length_take, getD_cut (by omega), getD_cut (by omega)]
    omega
  unfold bmpH leAt
  rw [slc_cut (by omega), slc_cut (by omega), slc_cut (by omega), slc_cut (by omega), slc_cut (by omega), slc_cut (by omega), slc_cut (by omega)]
  simp only [hh]

section
variable (g : Nat) (t : TypeId) (ext : List Value) (A : Option Addr) (c : Nat) (bs : List Int) (p : Nat) (err : Int) (w : World)
theorem tk_in {bs : List Int} {p n : Nat} (h : p + n ≤ bs.length) : tk bs p 0 n = (slc bs p n, p + n, 0) := by
  unfold tk; rw [if_neg (by simp), if_pos (by omega)]; rfl
/-- A reading that is whole. -/
theorem rRaw_ok (n : Int) (k : Nat) (hk : n = k) (hp : p + k ≤ bs.length) (h : NRd w g t ext A c bs p 0) :
    Calls Try.prog 30 #[.pointer (some ⟨g, 0, none⟩), .int .i64 n] w fun e w' => ∃ A' m d, e = .returned (.slice A' m d) ∧ Row w' .u8 A' m (slc bs p k) ∧ NRd w' g t ext A c bs (p + k) 0 ∧ Mine g w w' := by
  subst hk
  have hs := h.small
  have h1 := nrRaw_any g t ext A c bs p 0 w k (by omega) h
  rw [Int.toNat_natCast, tk_in hp] at h1
  refine h1.mono ?_
  rintro e w' ⟨u, rfl, ho, _, hr, hm⟩
  obtain ⟨A', d, rfl, hrow, _⟩ := ho.row
  exact ⟨A', _, d, rfl, hrow, hr, hm⟩
theorem rLit_ok (n : Int) (k : Nat) (hk : n = k) (hk8 : k ≤ 8) (hp : p + k ≤ bs.length) (h : NRd w g t ext A c bs p 0) :
    Calls Try.prog 31 #[.pointer (some ⟨g, 0, none⟩), .int .i64 n] w fun e w' => e = .returned (.int .u64 (leAt bs p k : Nat)) ∧ NRd w' g t ext A c bs (p + k) 0 ∧ Mine g w w' := by
  subst hk
  have h1 := nrLittle_any g t ext A c bs p 0 w k h
  rw [show wid (k : Int) = k from by unfold wid; omega, tk_in hp] at h1
  exact h1
/-- A reading that may be cut off. -/
def Cutt (S : Nat) (p : Nat) (err : Int) : Prop := err ≠ 0 ∨ p = S
theorem tk_cutt {bs : List Int} {p S : Nat} {err : Int} (n : Nat) (h : Cutt S p err) : Cutt (S + n) (tk bs p err n).2.1 (tk bs p err n).2.2 := by
  unfold tk Cutt at *
  rcases h with h | h
  · rw [if_pos h]; exact .inl h
  · split
    · rename_i h2; exact .inl h2
    split
    · exact .inr (by simp only []; omega)
    · exact .inl (by simp)
theorem rRaw_cut (S : Nat) (n : Int) (k : Nat) (hk : n = k) (hk2 : k ≤ 100) (hq : Cutt S p err) (h : NRd w g t ext A c bs p err) :
    Calls Try.prog 30 #[.pointer (some ⟨g, 0, none⟩), .int .i64 n] w fun e w' => ∃ A' m d ys p' err', e = .returned (.slice A' m d) ∧ Row w' .u8 A' m ys ∧ NRd w' g t ext A c bs p' err' ∧ Cutt (S + k) p' err' ∧ Mine g w w' := by
  subst hk
  have h1 := nrRaw_any g t ext A c bs p err w k (by omega) h
  rw [Int.toNat_natCast] at h1
  refine h1.mono ?_
  rintro e w' ⟨u, rfl, ho, _, hr, hm⟩
  obtain ⟨A', d, rfl, hrow, _⟩ := ho.row
  exact ⟨A', _, d, _, _, _, rfl, hrow, hr, tk_cutt k hq, hm⟩
theorem rLit_cut (S : Nat) (n : Int) (k : Nat) (hk : n = k) (hk8 : k ≤ 4) (hq : Cutt S p err) (h : NRd w g t ext A c bs p err) :
    Calls Try.prog 31 #[.pointer (some ⟨g, 0, none⟩), .int .i64 n] w fun e w' => ∃ x p' err', e = .returned (.int .u64 (x : Nat)) ∧ x < 4294967296 ∧ NRd w' g t ext A c bs p' err' ∧ Cutt (S + k) p' err' ∧ Mine g w w' := by
  subst hk
  have h1 := nrLittle_any g t ext A c bs p err w k h
  rw [show wid (k : Int) = k from by unfold wid; omega] at h1
  refine h1.mono ?_
  rintro e w' ⟨rfl, hr, hm⟩
  have hl := tk_len_le bs p err k
  have h2 := leNum_lt _ (tk_byte bs p err k h.byte)
  have h3 : 256 ^ (tk bs p err k).1.length ≤ 256 ^ 4 := Nat.pow_le_pow_right (by decide) (by omega)
  exact ⟨_, _, _, rfl, by omega, hr, tk_cutt k hq, hm⟩
end

/-- Amid a head: what is to be told, the parser, its reader. -/
structure BS (w : World) (g R : Nat) (A : Option Addr) (c : Nat) (bs : List Int) (p : Nat) (err : Int) (W : World) : Prop where
  res : Blk W w.heap.size 38 #[.int .u64 0, .int .u64 0, .int .u64 0, .int .u64 0, .int .u64 0]
  blk : Blk W g 57 #[.pointer (some ⟨R, 0, none⟩)]
  rd : NRd W R 73 [] A c bs p err
  fr : Kept (fun k => k = R) w W
  lt : R < w.heap.size
theorem BS.step {w W V : World} {g R : Nat} {A : Option Addr} {c : Nat} {bs : List Int} {p p' : Nat} {err err' : Int} (h : BS w g R A c bs p err W) (hr : NRd V R 73 [] A c bs p' err') (hk : Mine R W V) : BS w g R A c bs p' err' V :=
  ⟨h.res.kept hk (fun e => absurd h.lt (by rw [← e]; exact Nat.lt_irrefl _)), h.blk.kept hk (h.blk.ne_ h.rd.blk (by decide)), hr, h.fr.trans hk (fun _ _ e => e), h.lt⟩
theorem BS.c0 {w W : World} {g R : Nat} {A : Option Addr} {c : Nat} {bs : List Int} {p : Nat} {err : Int} (h : BS w g R A c bs p err W) : W.cell? ⟨g, 0, none⟩ = some (.pointer (some ⟨R, 0, none⟩)) := (h.blk.cell 0).trans rfl
theorem set5k {S : Nat → Prop} {w W : World} (h : Kept S w W) (a b c d e : Value) : Kept S w (((((W.setCell ⟨w.heap.size, 0, none⟩ a).setCell ⟨w.heap.size, 1, none⟩ b).setCell ⟨w.heap.size, 2, none⟩ c).setCell ⟨w.heap.size, 3, none⟩ d).setCell ⟨w.heap.size, 4, none⟩ e) :=
  ((((h.setCell (p := ⟨w.heap.size, 0, none⟩) (fun e => absurd e (Nat.lt_irrefl _)) a).setCell (p := ⟨w.heap.size, 1, none⟩) (fun e => absurd e (Nat.lt_irrefl _)) b).setCell (p := ⟨w.heap.size, 2, none⟩) (fun e => absurd e (Nat.lt_irrefl _)) c).setCell (p := ⟨w.heap.size, 3, none⟩) (fun e => absurd e (Nat.lt_irrefl _)) d).setCell (p := ⟨w.heap.size, 4, none⟩) (fun e => absurd e (Nat.lt_irrefl _)) e

theorem strU_w (a p : Nat) (h : a < 4294967296) (hp : p ≤ 3) : IntKind.u64.wrap (IntKind.u64.wrap ((IntKind.u64.wrap (IntKind.u64.wrap ((a : Int) * (p : Int)) + 3)).tdiv 4) * 4) = ((strB a p : Nat) : Int) := by
  obtain ⟨m, hm⟩ : ∃ m, m = a * p := ⟨_, rfl⟩
  have e : (a : Int) * (p : Int) = (m : Int) := by rw [hm]; simp
  have hm1 : m ≤ 4294967296 * 3 := by rw [hm]; exact Nat.mul_le_mul (by omega) hp
  unfold strB
  rw [← hm, e, IntWalk.u64_in (m : Int) (by omega), IntWalk.u64_in ((m : Int) + 3) (by omega), Int.tdiv_eq_ediv_of_nonneg (by omega), IntWalk.u64_in (((m : Int) + 3) / 4) (by omega), IntWalk.u64_in _ (by omega)]
  omega

set_option maxHeartbeats 1600000 in
theorem cBmpHead_ok (g R : Nat) (A : Option Addr) (c : Nat) (bs : List Int) (w : World) (h54 : 54 ≤ bs.length) (h0 : Blk w g 57 #[.pointer (some ⟨R, 0, none⟩)]) (h1 : NRd w R 73 [] A c bs 0 0) :
    Calls Try.prog 19 #[.pointer (some ⟨g, 0, none⟩)] w fun e w' => e = .returned (hval (bmpH bs)) ∧ Kept (fun k => k = R) w w' := by
  have H0 : Hid (BS w g R A c bs 0 0 (w.alloc (.cells #[.int .u64 0, .int .u64 0, .int .u64 0, .int .u64 0, .int .u64 0] 38))) := Lib.hid ⟨Blk.new _ _ _, h0.alloc _, h1.kept ((Kept.refl (fun _ => False) w).alloc _) id (fun _ _ _ _ => id), (Kept.refl _ _).alloc _, h1.blk.lt⟩
  have H8 := Lib.hid h1.byte
  have HL := Lib.hid h54
  clear h0 h1 h54
  generalize hW0 : w.alloc (.cells #[.int .u64 0, .int .u64 0, .int .u64 0, .int .u64 0, .int .u64 0] 38) = W0 at *
  have c0 := H0.out.c0
  go_enter Try.func19, Try.ntmps19
  go_wp2_with fail
  clear hW0
  -- 0
  refine (rRaw_ok R _ [] A c bs 0 _ 2 2 rfl (by have := HL.out; omega) H0.out.rd).mono ?_
  rintro e w1 ⟨A0, m0, d0, rfl, hrow, hr, hk⟩
  have s0 := row_string hrow d0
  have e0 := is_two 66 77 (by omega) (by omega) [66, 77] (by rw [Lib.strOfNums_toList]; decide) (slc_byte 0 2 H8.out)
  have HT := Lib.hid (slc_two (l := bs) (by have := HL.out; omega) 66 77)
  generalize slc bs 0 2 = ys at *
  have K1 := Lib.hid (H0.out.step hr hk)
  have c0 := K1.out.c0
  clear H0 hr hk hrow
  go_wp2_with fail
  -- 1
  refine (rRaw_ok R _ [] A c bs 2 _ 8 8 rfl (by have := HL.out; omega) K1.out.rd).mono ?_
  rintro e w2 ⟨A1, m1, d1, rfl, hrow, hr, hk⟩
  have K2 := Lib.hid (K1.out.step hr hk)
  have c0 := K2.out.c0
  clear K1 hr hk hrow
  go_wp2_with fail
  -- 2
  refine (rLit_ok R _ [] A c bs 10 _ 4 4 rfl (by omega) (by have := HL.out; omega) K2.out.rd).mono ?_
  rintro e w3 ⟨rfl, hr, hk⟩
  have B2 : Hid (leAt bs 10 4 < 4294967296) := Lib.hid (Nat.lt_of_lt_of_le (leAt_lt H8.out (p := 10) (k := 4) (by have := HL.out; omega)) (by decide))
  obtain ⟨x10, q2⟩ : ∃ x10, x10 = leAt bs 10 4 := ⟨_, rfl⟩
  rw [← q2] at B2 ⊢
  have E2 := Lib.hid q2
  clear q2
  have K3 := Lib.hid (K2.out.step hr hk)
  have c0 := K3.out.c0
  clear K2 hr hk
  go_wp2_with fail
  -- 3
  refine (rLit_ok R _ [] A c bs 14 _ 4 4 rfl (by omega) (by have := HL.out; omega) K3.out.rd).mono ?_
  rintro e w4 ⟨rfl, hr, hk⟩
  have B3 : Hid (leAt bs 14 4 < 4294967296) := Lib.hid (Nat.lt_of_lt_of_le (leAt_lt H8.out (p := 14) (k := 4) (by have := HL.out; omega)) (by decide))
  obtain ⟨x14, q3⟩ : ∃ x14, x14 = leAt bs 14 4 := ⟨_, rfl⟩
  rw [← q3] at B3 ⊢
  have E3 := Lib.hid q3
  clear q3
  have K4 := Lib.hid (K3.out.step hr hk)
  have c0 := K4.out.c0
  clear K3 hr hk
  go_wp2_with fail
  -- 4
  refine (rLit_ok R _ [] A c bs 18 _ 4 4 rfl (by omega) (by have := HL.out; omega) K4.out.rd).mono ?_
  rintro e w5 ⟨rfl, hr, hk⟩
  have B4 : Hid (leAt bs 18 4 < 4294967296) := Lib.hid (Nat.lt_of_lt_of_le (leAt_lt H8.out (p := 18) (k := 4) (by have := HL.out; omega)) (by decide))
  obtain ⟨x18, q4⟩ : ∃ x18, x18 = leAt bs 18 4 := ⟨_, rfl⟩
  rw [← q4] at B4 ⊢
  have E4 := Lib.hid q4
  clear q4
  have K5 := Lib.hid (K4.out.step hr hk)
  have c0 := K5.out.c0
  clear K4 hr hk
  go_wp2_with fail
  -- 5
  refine (rLit_ok R _ [] A c bs 22 _ 4 4 rfl (by omega) (by have := HL.out; omega) K5.out.rd).mono ?_
  rintro e w6 ⟨rfl, hr, hk⟩
  have B5 : Hid (leAt bs 22 4 < 4294967296) := Lib.hid (Nat.lt_of_lt_of_le (leAt_lt H8.out (p := 22) (k := 4) (by have := HL.out; omega)) (by decide))
  obtain ⟨x22, q5⟩ : ∃ x22, x22 = leAt bs 22 4 := ⟨_, rfl⟩
  rw [← q5] at B5 ⊢
  have E5 := Lib.hid q5
  clear q5
  have K6 := Lib.hid (K5.out.step hr hk)
  have c0 := K6.out.c0
  clear K5 hr hk
  go_wp2_with fail
  refine (cAmount_any x22 _ B5.out).mono ?_
  rintro e wz ⟨rfl, rfl⟩
  obtain ⟨ah, hah⟩ : ∃ ah, ah = amt4 x22 := ⟨_, rfl⟩
  rw [← hah]
  have Hah := Lib.hid hah
  clear hah
  go_wp2_with fail
  -- 6
  refine (rLit_ok R _ [] A c bs 26 _ 2 2 rfl (by omega) (by have := HL.out; omega) K6.out.rd).mono ?_
  rintro e w7 ⟨rfl, hr, hk⟩
  have B6 : Hid (leAt bs 26 2 < 4294967296) := Lib.hid (Nat.lt_of_lt_of_le (leAt_lt H8.out (p := 26) (k := 2) (by have := HL.out; omega)) (by decide))
  obtain ⟨x26, q6⟩ : ∃ x26, x26 = leAt bs 26 2 := ⟨_, rfl⟩
  rw [← q6] at B6 ⊢
  have E6 := Lib.hid q6
  clear q6
  have K7 := Lib.hid (K6.out.step hr hk)
  have c0 := K7.out.c0
  clear K6 hr hk
  go_wp2_with fail
  -- 7
  refine (rLit_ok R _ [] A c bs 28 _ 2 2 rfl (by omega) (by have := HL.out; omega) K7.out.rd).mono ?_
  rintro e w8 ⟨rfl, hr, hk⟩
  have B7 : Hid (leAt bs 28 2 < 4294967296) := Lib.hid (Nat.lt_of_lt_of_le (leAt_lt H8.out (p := 28) (k := 2) (by have := HL.out; omega)) (by decide))
  obtain ⟨x28, q7⟩ : ∃ x28, x28 = leAt bs 28 2 := ⟨_, rfl⟩
  rw [← q7] at B7 ⊢
  have E7 := Lib.hid q7
  clear q7
  have K8 := Lib.hid (K7.out.step hr hk)
  have c0 := K8.out.c0
  clear K7 hr hk
  go_wp2_with fail
  refine (cPlanesOf_any x28 _).mono ?_
  rintro e wz ⟨rfl, rfl⟩
  obtain ⟨pl, hpl⟩ : ∃ pl, pl = plnC x28 := ⟨_, rfl⟩
  rw [← hpl]
  have Hpl := Lib.hid hpl
  clear hpl
  go_wp2_with fail
  -- 8
  refine (rLit_ok R _ [] A c bs 30 _ 4 4 rfl (by omega) (by have := HL.out; omega) K8.out.rd).mono ?_
  rintro e w9 ⟨rfl, hr, hk⟩
  have B8 : Hid (leAt bs 30 4 < 4294967296) := Lib.hid (Nat.lt_of_lt_of_le (leAt_lt H8.out (p := 30) (k := 4) (by have := HL.out; omega)) (by decide))
  obtain ⟨x30, q8⟩ : ∃ x30, x30 = leAt bs 30 4 := ⟨_, rfl⟩
  rw [← q8] at B8 ⊢
  have E8 := Lib.hid q8
  clear q8
  have K9 := Lib.hid (K8.out.step hr hk)
  have c0 := K9.out.c0
  clear K8 hr hk
  go_wp2_with fail
  -- 9
  refine (rRaw_ok R _ [] A c bs 34 _ 20 20 rfl (by have := HL.out; omega) K9.out.rd).mono ?_
  rintro e w10 ⟨A9, m9, d9, rfl, hrow, hr, hk⟩
  have K10 := Lib.hid (K9.out.step hr hk)
  have c0 := K10.out.c0
  clear K9 hr hk hrow
  go_wp2_with fail
  refine (nrErr_any R _ [] A c bs 54 0 _ K10.out.rd).mono ?_
  rintro e wz ⟨rfl, rfl⟩
  have HB : Hid (bmpH bs = if ys = [((66 : Nat) : Int), ((77 : Nat) : Int)] ∧ okB x10 x14 x26 x28 x30 then some (x18, ah, plnB x28, strB x18 (plnB x28), x10) else none) := Lib.hid (by
    unfold bmpH
    rw [← E2.out, ← E3.out, ← E4.out, ← E5.out, ← E6.out, ← E7.out, ← E8.out, ← Hah.out]
    have hh : hdB bs ↔ ys = [((66 : Nat) : Int), ((77 : Nat) : Int)] := by
      rw [show (((66 : Nat) : Int)) = 66 from rfl, show (((77 : Nat) : Int)) = 77 from rfl, HT.out]
      exact ⟨fun h => h.2, fun h => ⟨HL.out, h⟩⟩
    simp only [hh])
  by_cases hk : ys = [((66 : Nat) : Int), ((77 : Nat) : Int)]
  · rw [decide_eq_true hk] at e0
    have HK := Lib.hid hk
    clear hk
    by_cases g1 : 54 ≤ x10
    · have g1' : ¬ (x10 : Int) < 54 := by omega
      by_cases g2 : 40 ≤ x14
      · have g2' : ¬ (x14 : Int) < 40 := by omega
        by_cases g3 : x26 = 1
        · have g3' : ((x26 : Int) != 1) = false := by simp; omega
          by_cases g4 : x28 = 24 ∨ x28 = 8
          · obtain ⟨pn, hpn⟩ : ∃ pn, pn = plnB x28 := ⟨_, rfl⟩
            have hp2 : pl = (pn : Int) ∧ 1 ≤ pn ∧ pn ≤ 3 := by
              rw [Hpl.out, hpn]
              unfold plnB plnC
              rcases g4 with e | e <;> subst e <;> decide
            obtain ⟨rfl, hp3, hp4⟩ := hp2
            have g4' : ((pn : Int) == 0) = false := by simp; omega
            by_cases g5 : x30 = 0
            · have g5' : ((x30 : Int) != 0) = false := by simp; omega
              have HQ : Hid (bmpH bs = some (x18, ah, pn, strB x18 pn, x10)) := Lib.hid (by rw [HB.out, if_pos ⟨HK.out, g1, g2, g3, g4, g5⟩, hpn])
              obtain ⟨st, hst⟩ : ∃ st, st = strB x18 pn := ⟨_, rfl⟩
              have HP := Lib.hid (And.intro hp3 hp4)
              have HW := Lib.hid (strU_w x18 pn B4.out hp4)
              rw [← hst] at HQ HW
              clear g1 g2 g3 g4 g5 hst hpn hp3 hp4
              have rz0 : w10.cell? ⟨w.heap.size, 0, none⟩ = some (.int .u64 0) := (K10.out.res.cell 0).trans rfl
              have rzf0 : w10.frozen? ⟨w.heap.size, 0, none⟩ = false := K10.out.res.frozen 0
              have rz1 : w10.cell? ⟨w.heap.size, 1, none⟩ = some (.int .u64 0) := (K10.out.res.cell 1).trans rfl
              have rzf1 : w10.frozen? ⟨w.heap.size, 1, none⟩ = false := K10.out.res.frozen 1
              have rz2 : w10.cell? ⟨w.heap.size, 2, none⟩ = some (.int .u64 0) := (K10.out.res.cell 2).trans rfl
              have rzf2 : w10.frozen? ⟨w.heap.size, 2, none⟩ = false := K10.out.res.frozen 2
              have rz3 : w10.cell? ⟨w.heap.size, 3, none⟩ = some (.int .u64 0) := (K10.out.res.cell 3).trans rfl
              have rzf3 : w10.frozen? ⟨w.heap.size, 3, none⟩ = false := K10.out.res.frozen 3
              have rz4 : w10.cell? ⟨w.heap.size, 4, none⟩ = some (.int .u64 0) := (K10.out.res.cell 4).trans rfl
              have rzf4 : w10.frozen? ⟨w.heap.size, 4, none⟩ = false := K10.out.res.frozen 4
              go_wp2_with fail
              rw [HW.out]
              refine bodyPost_ret (v := hval (some (x18, ah, pn, st, x10))) (by simp [results, Try.f19, go_sem, hval, rz0, rz1, rz2, rz3, rz4]) rfl ?_
              exact ⟨by rw [HQ.out], set5k K10.out.fr _ _ _ _ _⟩
            · have g5' : ((x30 : Int) != 0) = true := by simp; omega
              have HQ : Hid (bmpH bs = none) := Lib.hid (by rw [HB.out, if_neg (fun h => g5 h.2.2.2.2.2)])
              have rz0 : w10.cell? ⟨w.heap.size, 0, none⟩ = some (.int .u64 0) := (K10.out.res.cell 0).trans rfl
              have rzf0 : w10.frozen? ⟨w.heap.size, 0, none⟩ = false := K10.out.res.frozen 0
              have rz1 : w10.cell? ⟨w.heap.size, 1, none⟩ = some (.int .u64 0) := (K10.out.res.cell 1).trans rfl
              have rzf1 : w10.frozen? ⟨w.heap.size, 1, none⟩ = false := K10.out.res.frozen 1
              have rz2 : w10.cell? ⟨w.heap.size, 2, none⟩ = some (.int .u64 0) := (K10.out.res.cell 2).trans rfl
              have rzf2 : w10.frozen? ⟨w.heap.size, 2, none⟩ = false := K10.out.res.frozen 2
              have rz3 : w10.cell? ⟨w.heap.size, 3, none⟩ = some (.int .u64 0) := (K10.out.res.cell 3).trans rfl
              have rzf3 : w10.frozen? ⟨w.heap.size, 3, none⟩ = false := K10.out.res.frozen 3
              have rz4 : w10.cell? ⟨w.heap.size, 4, none⟩ = some (.int .u64 0) := (K10.out.res.cell 4).trans rfl
              have rzf4 : w10.frozen? ⟨w.heap.size, 4, none⟩ = false := K10.out.res.frozen 4
              go_wp2_with fail
              refine bodyPost_ret (v := hval none) (by simp [results, Try.f19, go_sem, hval, rz0, rz1, rz2, rz3, rz4]) rfl ?_
              exact ⟨by rw [HQ.out], set5k K10.out.fr _ _ _ _ _⟩
          · have hp2 : pl = 0 := by
              rw [Hpl.out]
              unfold plnC
              rw [if_neg (by omega), if_neg (by omega)]
            subst hp2
            have HQ : Hid (bmpH bs = none) := Lib.hid (by rw [HB.out, if_neg (fun h => g4 h.2.2.2.2.1)])
            have rz0 : w10.cell? ⟨w.heap.size, 0, none⟩ = some (.int .u64 0) := (K10.out.res.cell 0).trans rfl
            have rzf0 : w10.frozen? ⟨w.heap.size, 0, none⟩ = false := K10.out.res.frozen 0
            have rz1 : w10.cell? ⟨w.heap.size, 1, none⟩ = some (.int .u64 0) := (K10.out.res.cell 1).trans rfl
            have rzf1 : w10.frozen? ⟨w.heap.size, 1, none⟩ = false := K10.out.res.frozen 1
            have rz2 : w10.cell? ⟨w.heap.size, 2, none⟩ = some (.int .u64 0) := (K10.out.res.cell 2).trans rfl
            have rzf2 : w10.frozen? ⟨w.heap.size, 2, none⟩ = false := K10.out.res.frozen 2
            have rz3 : w10.cell? ⟨w.heap.size, 3, none⟩ = some (.int .u64 0) := (K10.out.res.cell 3).trans rfl
            have rzf3 : w10.frozen? ⟨w.heap.size, 3, none⟩ = false := K10.out.res.frozen 3
            have rz4 : w10.cell? ⟨w.heap.size, 4, none⟩ = some (.int .u64 0) := (K10.out.res.cell 4).trans rfl
            have rzf4 : w10.frozen? ⟨w.heap.size, 4, none⟩ = false := K10.out.res.frozen 4
            go_wp2_with fail
            refine bodyPost_ret (v := hval none) (by simp [results, Try.f19, go_sem, hval, rz0, rz1, rz2, rz3, rz4]) rfl ?_
            exact ⟨by rw [HQ.out], set5k K10.out.fr _ _ _ _ _⟩
        · have g3' : ((x26 : Int) != 1) = true := by simp; omega
          have HQ : Hid (bmpH bs = none) := Lib.hid (by rw [HB.out, if_neg (fun h => g3 h.2.2.2.1)])
          have rz0 : w10.cell? ⟨w.heap.size, 0, none⟩ = some (.int .u64 0) := (K10.out.res.cell 0).trans rfl
          have rzf0 : w10.frozen? ⟨w.heap.size, 0, none⟩ = false := K10.out.res.frozen 0
          have rz1 : w10.cell? ⟨w.heap.size, 1, none⟩ = some (.int .u64 0) := (K10.out.res.cell 1).trans rfl
          have rzf1 : w10.frozen? ⟨w.heap.size, 1, none⟩ = false := K10.out.res.frozen 1
          have rz2 : w10.cell? ⟨w.heap.size, 2, none⟩ = some (.int .u64 0) := (K10.out.res.cell 2).trans rfl
          have rzf2 : w10.frozen? ⟨w.heap.size, 2, none⟩ = false := K10.out.res.frozen 2
          have rz3 : w10.cell? ⟨w.heap.size, 3, none⟩ = some (.int .u64 0) := (K10.out.res.cell 3).trans rfl
          have rzf3 : w10.frozen? ⟨w.heap.size, 3, none⟩ = false := K10.out.res.frozen 3
          have rz4 : w10.cell? ⟨w.heap.size, 4, none⟩ = some (.int .u64 0) := (K10.out.res.cell 4).trans rfl
          have rzf4 : w10.frozen? ⟨w.heap.size, 4, none⟩ = false := K10.out.res.frozen 4
          go_wp2_with fail
          refine bodyPost_ret (v := hval none) (by simp [results, Try.f19, go_sem, hval, rz0, rz1, rz2, rz3, rz4]) rfl ?_
          exact ⟨by rw [HQ.out], set5k K10.out.fr _ _ _ _ _⟩
      · have g2' : (x14 : Int) < 40 := by omega
        have HQ : Hid (bmpH bs = none) := Lib.hid (by rw [HB.out, if_neg (fun h => g2 h.2.2.1)])
        have rz0 : w10.cell? ⟨w.heap.size, 0, none⟩ = some (.int .u64 0) := (K10.out.res.cell 0).trans rfl
        have rzf0 : w10.frozen? ⟨w.heap.size, 0, none⟩ = false := K10.out.res.frozen 0
        have rz1 : w10.cell? ⟨w.heap.size, 1, none⟩ = some (.int .u64 0) := (K10.out.res.cell 1).trans rfl
        have rzf1 : w10.frozen? ⟨w.heap.size, 1, none⟩ = false := K10.out.res.frozen 1
        have rz2 : w10.cell? ⟨w.heap.size, 2, none⟩ = some (.int .u64 0) := (K10.out.res.cell 2).trans rfl
        have rzf2 : w10.frozen? ⟨w.heap.size, 2, none⟩ = false := K10.out.res.frozen 2
        have rz3 : w10.cell? ⟨w.heap.size, 3, none⟩ = some (.int .u64 0) := (K10.out.res.cell 3).trans rfl
        have rzf3 : w10.frozen? ⟨w.heap.size, 3, none⟩ = false := K10.out.res.frozen 3
        have rz4 : w10.cell? ⟨w.heap.size, 4, none⟩ = some (.int .u64 0) := (K10.out.res.cell 4).trans rfl
        have rzf4 : w10.frozen? ⟨w.heap.size, 4, none⟩ = false := K10.out.res.frozen 4
        go_wp2_with fail
        refine bodyPost_ret (v := hval none) (by simp [results, Try.f19, go_sem, hval, rz0, rz1, rz2, rz3, rz4]) rfl ?_
        exact ⟨by rw [HQ.out], set5k K10.out.fr _ _ _ _ _⟩
    · have g1' : (x10 : Int) < 54 := by omega
      have HQ : Hid (bmpH bs = none) := Lib.hid (by rw [HB.out, if_neg (fun h => g1 h.2.1)])
      have rz0 : w10.cell? ⟨w.heap.size, 0, none⟩ = some (.int .u64 0) := (K10.out.res.cell 0).trans rfl
      have rzf0 : w10.frozen? ⟨w.heap.size, 0, none⟩ = false := K10.out.res.frozen 0
      have rz1 : w10.cell? ⟨w.heap.size, 1, none⟩ = some (.int .u64 0) := (K10.out.res.cell 1).trans rfl
      have rzf1 : w10.frozen? ⟨w.heap.size, 1, none⟩ = false := K10.out.res.frozen 1
      have rz2 : w10.cell? ⟨w.heap.size, 2, none⟩ = some (.int .u64 0) := (K10.out.res.cell 2).trans rfl
      have rzf2 : w10.frozen? ⟨w.heap.size, 2, none⟩ = false := K10.out.res.frozen 2
      have rz3 : w10.cell? ⟨w.heap.size, 3, none⟩ = some (.int .u64 0) := (K10.out.res.cell 3).trans rfl
      have rzf3 : w10.frozen? ⟨w.heap.size, 3, none⟩ = false := K10.out.res.frozen 3
      have rz4 : w10.cell? ⟨w.heap.size, 4, none⟩ = some (.int .u64 0) := (K10.out.res.cell 4).trans rfl
      have rzf4 : w10.frozen? ⟨w.heap.size, 4, none⟩ = false := K10.out.res.frozen 4
      go_wp2_with fail
      refine bodyPost_ret (v := hval none) (by simp [results, Try.f19, go_sem, hval, rz0, rz1, rz2, rz3, rz4]) rfl ?_
      exact ⟨by rw [HQ.out], set5k K10.out.fr _ _ _ _ _⟩
  · rw [decide_eq_false hk] at e0
    have HQ : Hid (bmpH bs = none) := Lib.hid (by rw [HB.out, if_neg (fun h => hk h.1)])
    have rz0 : w10.cell? ⟨w.heap.size, 0, none⟩ = some (.int .u64 0) := (K10.out.res.cell 0).trans rfl
    have rzf0 : w10.frozen? ⟨w.heap.size, 0, none⟩ = false := K10.out.res.frozen 0
    have rz1 : w10.cell? ⟨w.heap.size, 1, none⟩ = some (.int .u64 0) := (K10.out.res.cell 1).trans rfl
    have rzf1 : w10.frozen? ⟨w.heap.size, 1, none⟩ = false := K10.out.res.frozen 1
    have rz2 : w10.cell? ⟨w.heap.size, 2, none⟩ = some (.int .u64 0) := (K10.out.res.cell 2).trans rfl
    have rzf2 : w10.frozen? ⟨w.heap.size, 2, none⟩ = false := K10.out.res.frozen 2
    have rz3 : w10.cell? ⟨w.heap.size, 3, none⟩ = some (.int .u64 0) := (K10.out.res.cell 3).trans rfl
    have rzf3 : w10.frozen? ⟨w.heap.size, 3, none⟩ = false := K10.out.res.frozen 3
    have rz4 : w10.cell? ⟨w.heap.size, 4, none⟩ = some (.int .u64 0) := (K10.out.res.cell 4).trans rfl
    have rzf4 : w10.frozen? ⟨w.heap.size, 4, none⟩ = false := K10.out.res.frozen 4
    go_wp2_with fail
    refine bodyPost_ret (v := hval none) (by simp [results, Try.f19, go_sem, hval, rz0, rz1, rz2, rz3, rz4]) rfl ?_
    exact ⟨by rw [HQ.out], set5k K10.out.fr _ _ _ _ _⟩

end Go.Proofs.Ytlmhodkdcllcjaa
