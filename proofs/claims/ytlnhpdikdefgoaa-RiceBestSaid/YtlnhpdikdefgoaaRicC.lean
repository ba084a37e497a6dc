/- The code's folded, unfolded, Cost, Best of rice, and its packer (number, block). -/
import Derived.Test.YtlnhpdikdefgoaaRicAw
import Derived.Test.YtlnhpdikdefgoaaRicCW
namespace Go.Proofs.Ytlnhpdikdefgoaa
open Go.RowKit
set_option maxRecDepth 100000

attribute [local go_sem ↓] Go.wp_at_zero Go.wp_at_succ

theorem fold_32 {v : Int} (hv : -2147483648 ≤ v ∧ v < 2147483648) : fold v < 4294967296 := by unfold fold; split <;> omega

set_option maxHeartbeats 400000 in
theorem cFolded_any (v : Int) (w : World) (hv : -2147483648 ≤ v ∧ v < 2147483648) :
    Calls Try.prog 30 #[.int .i32 v] w fun e w' => e = .returned (.int .u32 (fold v : Nat)) ∧ w = w' := by
  have hf := fold_32 hv
  have HF := Lib.hid (nFold_any v w (by omega) (by omega))
  generalize fold v = u at *
  go_enter Try.func30, Try.ntmps30
  go_wp2_with fail
  refine HF.out.mono ?_
  rintro e w' ⟨rfl, rfl⟩
  go_wp2_with fail
  go_ret
  exact ⟨rfl, rfl⟩

set_option maxHeartbeats 400000 in
theorem cUnfolded_any (u : Nat) (w : World) (hu : u < 4294967296) :
    Calls Try.prog 61 #[.int .u32 (u : Int)] w fun e w' => e = .returned (.int .i32 (unfold_ u)) ∧ w = w' := by
  have hf := unfold_32 hu
  have HF := Lib.hid (nUnfold_any u w (by omega))
  generalize unfold_ u = z at *
  have z0 := hf.1
  have z1 := hf.2
  clear hf
  go_enter Try.func61, Try.ntmps61
  go_wp2_with fail
  refine HF.out.mono ?_
  rintro e w' ⟨rfl, rfl⟩
  go_wp2_with fail
  go_ret
  exact ⟨rfl, rfl⟩

theorem kc_eq' (k : Int) : min (max k 0) 24 = (kc k : Int) := by unfold kc; omega

set_option maxHeartbeats 1600000 in
/-- Cost: P10.1. -/
theorem cCost_any (A : Option Addr) (n c : Nat) (l : List Int) (ki : Int) (w : World) (hr : Row w .i32 A n l) (h32 : R32 l) (hn : n ≤ 1048576) :
    Calls Try.prog 13 #[.slice A n c, .int .i64 ki] w fun e w' => e = .returned (.int .i64 (rcost (kc ki) l : Nat)) ∧ w = w' := by
  have hk24 := kc_le ki
  have Hk := Lib.hid (kc_eq' ki)
  have HR := Lib.hid (And.intro hr h32)
  obtain rfl := hr.len
  generalize kc ki = k at *
  have k0 : (0 : Int) ≤ (k : Int) := by omega
  have k1 : (k : Int) ≤ 24 := by omega
  clear hr h32
  go_enter Try.func13, Try.ntmps13
  go_wp2_with fail
  rw [Hk.out]
  go_loopw [14, 5] (fun i x wr => ∃ j : Nat, j ≤ l.length ∧ i = .int .i64 j ∧ x = .int .i64 (rcost k (l.take j) : Nat) ∧ wr = w) (fun i _ _ => (l.length - intOf i).toNat)
  case atStart => exact ⟨0, by omega, rfl, rfl, rfl⟩
  case round =>
    obtain ⟨j, hj, rfl, rfl, rfl⟩ := hrel
    have hle := rcost_le hk24 (l.take j)
    rw [List.length_take, Nat.min_eq_left hj] at hle
    by_cases hlt : j < l.length
    · obtain ⟨b, o, rfl, hb, hc⟩ := HR.out.1.at_ j hlt
      have hv := HR.out.2.at_ j
      have hf := HR.out.2.fold_lt j
      have Ht := Lib.hid (rcost_take k l hlt)
      generalize l.getD j 0 = v at *
      rw [rsize_step] at Ht
      generalize rcost k (l.take j) = s at *
      have j0 : (j : Int) < (l.length : Int) := by omega
      have hq : ((fold v : Nat) : Int) / 2 ^ k = ((fold v / 2 ^ k : Nat) : Int) := by simp
      have hq32 : fold v / 2 ^ k < 4294967296 := Nat.lt_of_le_of_lt (Nat.div_le_self _ _) hf
      generalize fold v / 2 ^ k = q at *
      go_wp2_with fail
      refine (cFolded_any v _ hv).mono ?_
      rintro e w' ⟨rfl, rfl⟩
      by_cases h24 : q < 24
      · have q0 : (q : Int) < 24 := by omega
        rw [if_pos h24] at Ht
        go_wp2_with fail
        go_roundw
        case rel => exact ⟨j + 1, by omega, by go_num, by rw [Ht.out]; go_num, trivial⟩
        case measure => simp [intOf]; omega
      · have q0 : ¬ (q : Int) < 24 := by omega
        rw [if_neg h24] at Ht
        go_wp2_with fail
        go_roundw
        case rel => exact ⟨j + 1, by omega, by go_num, by rw [Ht.out]; go_num, trivial⟩
        case measure => simp [intOf]; omega
    · obtain rfl : j = l.length := by omega
      rw [List.take_length]
      go_wp2_with fail
      go_ret
      exact ⟨rfl, rfl⟩

set_option maxHeartbeats 1600000 in
/-- Best: P10.1. -/
theorem cBest_any (A : Option Addr) (n c : Nat) (l : List Int) (w : World) (hr : Row w .i32 A n l) (h32 : R32 l) (hn : n ≤ 1048576) :
    Calls Try.prog 15 #[.slice A n c] w fun e w' => e = .returned (.int .i64 (rbest l : Nat)) ∧ w = w' := by
  have HC : Hid (∀ k : Nat, k ≤ 24 → Calls Try.prog 13 #[.slice A n c, .int .i64 (k : Int)] w fun e w' => e = .returned (.int .i64 (rcost k l : Nat)) ∧ w = w') := Lib.hid fun k hk => by
    have := cCost_any A n c l k w hr h32 hn
    rwa [kc_in hk] at this
  have HC0 := Lib.hid (HC.out 0 (by omega))
  have HL : Hid (∀ k : Nat, k ≤ 24 → rcost k l ≤ 56 * 1048576) := Lib.hid fun k hk => by
    have := rcost_le hk l
    have := hr.len
    omega
  clear hr h32
  go_enter Try.func15, Try.ntmps15
  go_wp2_with fail
  refine HC0.out.mono ?_
  rintro e w' ⟨rfl, rfl⟩
  clear HC0
  go_wp2_with fail
  go_loopw [5, 3, 4] (fun i x y wr => ∃ j : Nat, j ≤ 24 ∧ i = .int .i64 ((j : Int) + 1) ∧ x = .int .i64 (rbestTo l j : Nat) ∧ y = .int .i64 (rcost (rbestTo l j) l : Nat) ∧ wr = w) (fun i _ _ _ => (25 - intOf i).toNat)
  case atStart => exact ⟨0, by omega, rfl, rfl, rfl, rfl⟩
  case round =>
    obtain ⟨j, hj, rfl, rfl, rfl, rfl⟩ := hrel
    have hb := rbestTo_le l j
    by_cases hlt : j < 24
    · have H1 := Lib.hid (HC.out (j + 1) (by omega))
      have hs : rbestTo l (j + 1) = if rcost (j + 1) l < rcost (rbestTo l j) l then j + 1 else rbestTo l j := rfl
      have Hs := Lib.hid hs
      have b1 := HL.out (j + 1) (by omega)
      have b2 := HL.out (rbestTo l j) (by omega)
      clear hs HC HL
      obtain ⟨m, hm⟩ : ∃ m, rbestTo l j = m := ⟨_, rfl⟩
      rw [hm] at Hs b2 hb ⊢
      obtain ⟨x, hx⟩ : ∃ x, rcost (j + 1) l = x := ⟨_, rfl⟩
      obtain ⟨y, hy⟩ : ∃ y, rcost m l = y := ⟨_, rfl⟩
      rw [hx] at H1 Hs b1
      rw [hy] at Hs b2 ⊢
      have Hxy := Lib.hid (And.intro hx hy)
      clear hx hy hm
      have j0 : (j : Int) + 1 ≤ 24 := by omega
      go_wp2_with fail
      rw [show ((j : Int) + 1) = ((j + 1 : Nat) : Int) from by omega]
      refine H1.out.mono ?_
      rintro e w' ⟨rfl, rfl⟩
      by_cases hxy : x < y
      · rw [if_pos hxy] at Hs
        have hx : (x : Int) < (y : Int) := by omega
        go_wp2_with fail
        go_roundw
        case rel => exact ⟨j + 1, by omega, by go_num, by rw [Hs.out]; go_num, by rw [Hs.out, Hxy.out.1], trivial⟩
        case measure => simp [intOf]; omega
      · rw [if_neg hxy] at Hs
        have hx : ¬ (x : Int) < (y : Int) := by omega
        go_wp2_with fail
        go_roundw
        case rel => exact ⟨j + 1, by omega, by go_num, by rw [Hs.out], by rw [Hs.out, Hxy.out.2], trivial⟩
        case measure => simp [intOf]; omega
    · obtain rfl : j = 24 := by omega
      go_wp2_with fail
      go_ret
      exact ⟨rfl, rfl⟩

set_option maxHeartbeats 1600000 in
/-- A number is written. -/
theorem cNumber_any (A : Nat → Prop) (g : Nat) (L : List Bool) (R : Array Value) (v : Int) (k : Nat) (w : World) (h : CW A w g L 47 R) (hl : L.length ≤ 90000000) (hv : -2147483648 ≤ v ∧ v < 2147483648) (hk : k ≤ 24) :
    Calls Try.prog 43 #[.pointer (some ⟨g, 0, none⟩), .int .i32 v, .int .i64 k] w fun e w' => e = .returned (.tuple #[]) ∧ CP A w w' g (L ++ rq k (fold v)) 47 R := by
  have hf : fold v < 4294967296 := fold_32 hv
  have k0 : (0 : Int) ≤ (k : Int) := by omega
  have k1 : (k : Int) ≤ 24 := by omega
  have hq : ((fold v : Nat) : Int) / 2 ^ k = ((fold v / 2 ^ k : Nat) : Int) := by simp
  have hq32 : fold v / 2 ^ k < 4294967296 := Nat.lt_of_le_of_lt (Nat.div_le_self _ _) hf
  have Hr : Hid (rq k (fold v) = _) := Lib.hid (rq.eq_1 k (fold v))
  have H := Lib.hid h
  have HF := Lib.hid (cFolded_any v w hv)
  clear h hv
  generalize fold v / 2 ^ k = q at *
  generalize fold v = u at *
  generalize rq k u = M at *
  have hB : wBitsN (k : Int) = k := by unfold wBitsN clamp; omega
  have HB := Lib.hid hB
  clear hB
  go_enter Try.func43, Try.ntmps43
  go_wp2_with fail
  refine HF.out.mono ?_
  rintro e w' ⟨rfl, rfl⟩
  clear HF
  by_cases h24 : q < 24
  · have q0 : (q : Int) < 24 := by omega
    have hN : wUnaryN (q : Int) = q := by unfold wUnaryN clamp; omega
    have HN := Lib.hid hN
    rw [if_pos h24] at Hr
    clear hN
    go_wp2_with fail
    refine (cwUnary_any A g L 47 R (q : Int) _ H.out (by omega)).mono ?_
    rintro e w1 ⟨rfl, h1⟩
    rw [HN.out] at h1
    have H1 := Lib.hid h1
    clear h1
    go_wp2_with fail
    refine (cwBits_any A g _ 47 R u (k : Int) _ H1.out.1 (by simp; omega) hf).mono ?_
    rintro e w2 ⟨rfl, h2⟩
    rw [HB.out, List.append_assoc, ← Hr.out] at h2
    have H2 := Lib.hid (H1.out.trans h2)
    clear h2 H1 Hr
    go_wp2_with fail
    refine bodyPost_ret (results_none rfl _ _ _) rfl ?_
    exact ⟨rfl, H2.out⟩
  · have q0 : ¬ (q : Int) < 24 := by omega
    rw [if_neg h24] at Hr
    go_wp2_with fail
    refine (cwBits_any A g _ 47 R 16777215 24 _ H.out (by omega) (by omega)).mono ?_
    rintro e w1 ⟨rfl, h1⟩
    rw [show bitsOf 16777215 (wBitsN 24) = List.replicate 24 true from by decide] at h1
    have H1 := Lib.hid h1
    clear h1
    go_wp2_with fail
    refine (cwBits_any A g _ 47 R u 32 _ H1.out.1 (by simp; omega) hf).mono ?_
    rintro e w2 ⟨rfl, h2⟩
    rw [show wBitsN 32 = 32 from by decide, List.append_assoc, ← Hr.out] at h2
    have H2 := Lib.hid (H1.out.trans h2)
    clear h2 H1 Hr
    go_wp2_with fail
    go_end0
    exact ⟨rfl, H2.out⟩

set_option maxHeartbeats 1600000 in
/-- A block is written. -/
theorem cBlock_any (A : Nat → Prop) (g : Nat) (L : List Bool) (R : Array Value) (B : Option Addr) (m c : Nat) (P : List Int) (w : World) (h : CW A w g L 47 R) (hl : L.length ≤ 80000000) (hr : Row w .i32 B m P) (h32 : R32 P) (hm : m ≤ 64)
    (hB : ∀ b o, B = some ⟨b, o, none⟩ → 0 < m → A b) :
    Calls Try.prog 25 #[.pointer (some ⟨g, 0, none⟩), .slice B m c] w fun e w' => e = .returned (.tuple #[]) ∧ CP A w w' g (L ++ rblock P) 47 R := by
  have H := Lib.hid h
  have HR := Lib.hid (And.intro hr (And.intro h32 hB))
  obtain rfl := hr.len
  have hbl := rbest_le P
  have HBs := Lib.hid (cBest_any B P.length c P w hr h32 (by omega))
  have Hblk : Hid (rblock P = bitsOf (rbest P) 5 ++ rnums (rbest P) P) := Lib.hid rfl
  generalize rbest P = k at *
  generalize rblock P = M at *
  have k0 : (0 : Int) ≤ (k : Int) := by omega
  have k1 : (k : Int) ≤ 24 := by omega
  clear h hr h32 hB
  go_enter Try.func25, Try.ntmps25
  go_wp2_with fail
  refine HBs.out.mono ?_
  rintro e w' ⟨rfl, rfl⟩
  clear HBs
  go_wp2_with fail
  refine (cwBits_any A g L 47 R k 5 _ H.out (by omega) (by omega)).mono ?_
  rintro e w2 ⟨rfl, h2⟩
  rw [show wBitsN 5 = 5 from by decide] at h2
  have H2 := Lib.hid h2
  clear h2
  go_wp2_with fail
  go_loopw [17] (fun i wr => ∃ r : Nat, r ≤ P.length ∧ i = .int .i64 r ∧ CP A w wr g ((L ++ bitsOf k 5) ++ rnums k (P.take r)) 47 R) (fun i _ => (P.length - intOf i).toNat)
  case atStart => exact ⟨0, by omega, rfl, by simpa [rnums] using H2.out⟩
  case round =>
    obtain ⟨r, hr, rfl, hq⟩ := hrel
    have HQ := Lib.hid hq
    clear hq H2
    by_cases hrm : r < P.length
    · have hrow := HR.out.1.kept HQ.out.2 (fun b o e h0 e2 => e2 (HR.out.2.2 b o e h0))
      obtain ⟨b', o', rfl, hb, hc⟩ := hrow.at_ r hrm
      have hv := HR.out.2.1.at_ r
      have Ht := Lib.hid (rnums_take k P (i := r) hrm)
      have hsm := rcost_small hbl (l := P) hm r
      have r0 : (r : Int) < (P.length : Int) := by omega
      generalize P.getD r 0 = v at *
      clear hrow
      go_wp2_with fail
      refine (cNumber_any A g _ R v k _ HQ.out.1 (by simp only [List.length_append, bitsOf_length]; omega) hv hbl).mono ?_
      rintro e w3 ⟨rfl, h3⟩
      rw [List.append_assoc, ← Ht.out] at h3
      have H3 := Lib.hid (HQ.out.trans h3)
      clear h3 HQ
      go_wp2_with fail
      go_roundw
      case rel => exact ⟨r + 1, by omega, by go_num, H3.out⟩
      case measure => simp [intOf]; omega
    · obtain rfl : r = P.length := by omega
      go_wp2_with fail
      go_end0
      refine ⟨rfl, ?_⟩
      have := HQ.out
      rw [List.take_length, List.append_assoc, ← Hblk.out] at this
      exact this

end Go.Proofs.Ytlnhpdikdefgoaa
