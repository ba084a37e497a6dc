/- The code's bytes by their places, distances, Paeth, amounts, guesses, neighbours. -/
import Derived.Test.YtnmapfoinhomdaaFilAw
namespace Go.Proofs.Ytnmapfoinhomdaa
open Go.RowKit
set_option maxRecDepth 100000

attribute [local go_sem ↓] Go.wp_at_zero Go.wp_at_succ

/-- A guess out of what stands around; what stands around. -/
def gsx (k x y z : Int) : Int := if k = 1 then x else if k = 2 then y else if k = 3 then pae x y z else if k = 4 then (x + y) / 2 else 0
theorem gsx_ges (k : Int) (row up : List Int) (i n : Nat) : gsx k (ahd row i n) (up.getD i 0) (ahd up i n) = ges k row up i n := rfl
def nrv (row up : List Int) (i n : Nat) : Value := .agg #[.int .u8 (ahd row i n), .int .u8 (up.getD i 0), .int .u8 (ahd up i n)]

set_option maxHeartbeats 800000 in
theorem cAtF_any (A : Option Addr) (n c : Nat) (l : List Int) (i : Int) (w : World) (hr : Row w .u8 A n l) (_ : n ≤ 1000000000) :
    Calls Try.prog 43 #[.slice A n c, .int .i64 i] w fun e w' => e = .returned (.int .u8 (if i < 0 then 0 else l.getD i.toNat 0)) ∧ w = w' := by
  by_cases h0 : i < 0
  · rw [if_pos h0]
    clear hr
    go_enter Try.func43, Try.ntmps43
    go_wp2_with fail
    go_ret
    exact ⟨rfl, rfl⟩
  · rw [if_neg h0]
    by_cases h1 : i < (n : Int)
    · obtain ⟨k, rfl⟩ : ∃ k : Nat, i = k := ⟨i.toNat, by omega⟩
      rw [Int.toNat_natCast]
      obtain ⟨b, o, rfl, hb, hc⟩ := hr.at_ k (by omega)
      have k0 : (0 : Int) ≤ (k : Int) := by omega
      have k1 : ¬ (n : Int) ≤ (k : Int) := by omega
      generalize l.getD k 0 = v at *
      clear hr hb h0
      go_enter Try.func43, Try.ntmps43
      go_wp2_with fail
      go_ret
      exact ⟨rfl, rfl⟩
    · have hv : l.getD i.toNat 0 = 0 := by
        simp only [List.getD]
        rw [List.getElem?_eq_none (by rw [hr.len]; omega)]
        rfl
      have k1 : (n : Int) ≤ i := by omega
      rw [hv]
      clear hr hv
      go_enter Try.func43, Try.ntmps43
      go_wp2_with fail
      go_ret
      exact ⟨rfl, rfl⟩

set_option maxHeartbeats 800000 in
theorem cApart_any (a b : Int) (w : World) (ha : -1000000 ≤ a ∧ a ≤ 1000000) (hb : -1000000 ≤ b ∧ b ≤ 1000000) : Calls Try.prog 31 #[.int .i64 a, .int .i64 b] w fun e w' => e = .returned (.int .i64 (max (a - b) (b - a))) ∧ w = w' := by
  go_enter Try.func31, Try.ntmps31
  go_wp2_with fail
  go_ret
  exact ⟨rfl, rfl⟩

set_option maxHeartbeats 800000 in
theorem cAmountF_any (v : Int) (w : World) (hv : 0 ≤ v ∧ v < 256) : Calls Try.prog 39 #[.int .u8 v] w fun e w' => e = .returned (.int .u64 (wgb v : Nat)) ∧ w = w' := by
  by_cases h : 128 < v
  · have hg : ((wgb v : Nat) : Int) = 256 - v := by unfold wgb; rw [if_pos h]; omega
    rw [hg]
    clear hg
    go_enter Try.func39, Try.ntmps39
    go_wp2_with fail
    go_ret
    exact ⟨rfl, rfl⟩
  · have hg : ((wgb v : Nat) : Int) = v := by unfold wgb; rw [if_neg h]; omega
    rw [hg]
    clear hg
    go_enter Try.func39, Try.ntmps39
    go_wp2_with fail
    go_ret
    exact ⟨rfl, rfl⟩

set_option maxHeartbeats 800000 in
/-- The field of a row. -/
theorem cField_any (A : Option Addr) (n c : Nat) (B : Option Addr) (m d : Nat) (p : Int) (w : World) :
    Calls Try.prog 25 #[.slice A n c, .slice B m d, .int .i64 p] w fun e w' => e = .returned (.agg #[.slice A n c, .slice B m d, .int .i64 (plN p : Nat)]) ∧ Fresh w w' := by
  rw [(plN_in p).2]
  go_enter Try.func25, Try.ntmps25
  go_wp2_with fail
  exact bodyPost_ret (v := .agg #[.slice A n c, .slice B m d, .int .i64 (max p 1)]) (by simp [results, Try.results25, go_sem]) rfl ⟨rfl, (Kept.refl _ _).alloc _⟩

set_option maxHeartbeats 800000 in
/-- The nearest of three: P17.1. -/
theorem cPaethF_any (a b c : Int) (w : World) (ha : 0 ≤ a ∧ a < 256) (hb : 0 ≤ b ∧ b < 256) (hc : 0 ≤ c ∧ c < 256) :
    Calls Try.prog 17 #[.int .u8 a, .int .u8 b, .int .u8 c] w fun e w' => e = .returned (.int .u8 (pae a b c)) ∧ w = w' := by
  have HA : Hid (∀ v : Int, 0 ≤ v ∧ v < 256 → Calls Try.prog 31 #[.int .i64 (a + b - c), .int .i64 v] w fun e w' => e = .returned (.int .i64 (amt (a + b - c - v))) ∧ w = w') := Lib.hid fun v hv => by
    have := cApart_any (a + b - c) v w (by omega) (by omega)
    rwa [show max (a + b - c - v) (v - (a + b - c)) = amt (a + b - c - v) from by unfold amt; omega] at this
  have H1 := Lib.hid (HA.out a ha)
  have H2 := Lib.hid (HA.out b hb)
  have H3 := Lib.hid (HA.out c hc)
  obtain ⟨N, hN⟩ : ∃ N, N = if amt (a + b - c - b) < amt (a + b - c - a) then b else a := ⟨_, rfl⟩
  have HM := Lib.hid (HA.out N (by rw [hN]; split <;> assumption))
  have hN0 : 0 ≤ N ∧ N < 256 := by rw [hN]; split <;> assumption
  have Hp : Hid (pae a b c = if amt (a + b - c - c) < amt (a + b - c - N) then c else N) := Lib.hid (by
    rw [hN]
    unfold pae
    generalize hx : amt (a + b - c - a) = x at *
    generalize hy : amt (a + b - c - b) = y at *
    generalize amt (a + b - c - c) = z at *
    by_cases h1 : y < x
    · rw [if_pos h1, if_neg (by omega), hy]
      by_cases h2 : z < y
      · rw [if_neg (by omega), if_pos h2]
      · rw [if_pos (by omega), if_neg h2]
    · rw [if_neg h1, hx]
      by_cases h2 : z < x
      · rw [if_neg (by omega), if_neg (by omega), if_pos h2]
      · rw [if_pos (by omega), if_neg h2])
  rw [Hp.out]
  have HN := Lib.hid hN
  clear Hp HA hN
  have x0 : ∀ w, (Instr.index 50 (.agg #[.int .u8 b, .int .u8 c]) (.int .i64 0)).run Try.prog w = .ok (.int .u8 b) w := fun _ => by kernel_rfl
  have x1 : ∀ w, (Instr.index 50 (.agg #[.int .u8 b, .int .u8 c]) (.int .i64 1)).run Try.prog w = .ok (.int .u8 c) w := fun _ => by kernel_rfl
  have hsum : 0 ≤ a + b ∧ a + b ≤ 510 ∧ -255 ≤ a + b - c ∧ a + b - c ≤ 510 := by omega
  generalize amt (a + b - c - a) = x at *
  generalize amt (a + b - c - b) = y at *
  generalize amt (a + b - c - c) = z at *
  generalize amt (a + b - c - N) = u at *
  have HN1 : Hid (y < x → N = b) := Lib.hid fun h => by rw [HN.out, if_pos h]
  have HN2 : Hid (x ≤ y → N = a) := Lib.hid fun h => by rw [HN.out, if_neg (by omega)]
  obtain ⟨R, hR⟩ : ∃ R, R = if z < u then c else N := ⟨_, rfl⟩
  rw [← hR]
  have HR1 : Hid (z < u → R = c) := Lib.hid fun h => by rw [hR, if_pos h]
  have HR2 : Hid (u ≤ z → R = N) := Lib.hid fun h => by rw [hR, if_neg (by omega)]
  clear hR
  go_enter Try.func17, Try.ntmps17
  go_wp2_with fail
  go_loopw [23, 8] (fun i v wr => wr = w ∧ ((i = .int .i64 0 ∧ v = .int .u8 a) ∨ (i = .int .i64 1 ∧ v = .int .u8 N) ∨ (i = .int .i64 2 ∧ v = .int .u8 R))) (fun i _ _ => (2 - intOf i).toNat)
  case atStart => exact ⟨rfl, .inl ⟨rfl, rfl⟩⟩
  case round =>
    obtain ⟨rfl, ⟨rfl, rfl⟩ | ⟨rfl, rfl⟩ | ⟨rfl, rfl⟩⟩ := hrel
    · by_cases h1 : y < x
      · have HE := Lib.hid (HN1.out h1)
        go_wp2_with fail
        refine H2.out.mono ?_
        rintro e w1 ⟨rfl, rfl⟩
        go_wp2_with fail
        refine H1.out.mono ?_
        rintro e w1 ⟨rfl, rfl⟩
        go_wp2_with fail
        go_roundw
        case rel => exact ⟨trivial, .inr (.inl ⟨rfl, by rw [HE.out]⟩)⟩
        case measure => simp [intOf]
      · have HE := Lib.hid (HN2.out (by omega))
        go_wp2_with fail
        refine H2.out.mono ?_
        rintro e w1 ⟨rfl, rfl⟩
        go_wp2_with fail
        refine H1.out.mono ?_
        rintro e w1 ⟨rfl, rfl⟩
        go_wp2_with fail
        go_roundw
        case rel => exact ⟨trivial, .inr (.inl ⟨rfl, by rw [HE.out]⟩)⟩
        case measure => simp [intOf]
    · by_cases h1 : z < u
      · have HE := Lib.hid (HR1.out h1)
        go_wp2_with fail
        refine H3.out.mono ?_
        rintro e w1 ⟨rfl, rfl⟩
        go_wp2_with fail
        refine HM.out.mono ?_
        rintro e w1 ⟨rfl, rfl⟩
        go_wp2_with fail
        go_roundw
        case rel => exact ⟨trivial, .inr (.inr ⟨rfl, by rw [HE.out]⟩)⟩
        case measure => simp [intOf]
      · have HE := Lib.hid (HR2.out (by omega))
        go_wp2_with fail
        refine H3.out.mono ?_
        rintro e w1 ⟨rfl, rfl⟩
        go_wp2_with fail
        refine HM.out.mono ?_
        rintro e w1 ⟨rfl, rfl⟩
        go_wp2_with fail
        go_roundw
        case rel => exact ⟨trivial, .inr (.inr ⟨rfl, by rw [HE.out]⟩)⟩
        case measure => simp [intOf]
    · go_wp2_with fail
      go_ret
      exact ⟨rfl, rfl⟩

set_option maxHeartbeats 1600000 in
/-- The guess out of what stands around. -/
theorem cGuessF_any (k x y z : Int) (w : World) (hx : 0 ≤ x ∧ x < 256) (hy : 0 ≤ y ∧ y < 256) (hz : 0 ≤ z ∧ z < 256) :
    Calls Try.prog 37 #[.agg #[.int .u8 x, .int .u8 y, .int .u8 z], .int .i64 k] w fun e w' => e = .returned (.int .u8 (gsx k x y z)) ∧ Fresh w w' := by
  have HP := Lib.hid (cPaethF_any x y z (w.alloc (.cells #[.int .u8 x, .int .u8 y, .int .u8 z] 57)) hx hy hz)
  unfold gsx
  have hk : k = 1 ∨ k = 2 ∨ k = 3 ∨ k = 4 ∨ ((k == 1) = false ∧ (k == 2) = false ∧ (k == 3) = false ∧ (k == 4) = false) := by
    simp only [beq_eq_false_iff_ne]
    omega
  rcases hk with rfl | rfl | rfl | rfl | ⟨b1, b2, b3, b4⟩
  · rw [if_pos rfl]
    clear HP
    go_enter Try.func37, Try.ntmps37
    go_wp2_with fail
    go_ret
    exact ⟨rfl, (Kept.refl _ _).alloc _⟩
  · rw [if_neg (by decide), if_pos rfl]
    clear HP
    go_enter Try.func37, Try.ntmps37
    go_wp2_with fail
    go_ret
    exact ⟨rfl, (Kept.refl _ _).alloc _⟩
  · rw [if_neg (by decide), if_neg (by decide), if_pos rfl]
    go_enter Try.func37, Try.ntmps37
    go_wp2_with fail
    refine HP.out.mono ?_
    rintro e w1 ⟨rfl, rfl⟩
    go_wp2_with fail
    go_ret
    exact ⟨rfl, (Kept.refl _ _).alloc _⟩
  · rw [if_neg (by decide), if_neg (by decide), if_neg (by decide), if_pos rfl]
    have hxy : (0 : Int) ≤ x + y ∧ x + y ≤ 510 := by omega
    clear HP
    go_enter Try.func37, Try.ntmps37
    go_wp2_with fail
    go_ret
    exact ⟨rfl, (Kept.refl _ _).alloc _⟩
  · rw [if_neg (by simpa using b1), if_neg (by simpa using b2), if_neg (by simpa using b3), if_neg (by simpa using b4)]
    clear HP
    go_enter Try.func37, Try.ntmps37
    go_wp2_with fail
    go_ret
    exact ⟨rfl, (Kept.refl _ _).alloc _⟩

end Go.Proofs.Ytnmapfoinhomdaa
