/- The document's Cost, Best and put of rice. -/
import Derived.Test.YtlnhpdikdefgoaaRicQW
import Derived.Test.YtlnhpdikdefgoaaNumFold
namespace Go.Proofs.Ytlnhpdikdefgoaa
open Go.RowKit
set_option maxRecDepth 100000

/-- A parameter that may be. -/
def kc (k : Int) : Nat := (max 0 (min k 24)).toNat
theorem kc_le (k : Int) : kc k ≤ 24 := by unfold kc; omega
theorem kc_eq (k : Int) : max 0 (min k 24) = (kc k : Int) := by unfold kc; omega
theorem R32.at_ {l : List Int} (h : R32 l) (i : Nat) : -2147483648 ≤ l.getD i 0 ∧ l.getD i 0 < 2147483648 := by
  by_cases hi : i < l.length
  · exact h (l.getD i 0) (by simp [List.getD, hi])
  · simp [List.getD, List.getElem?_eq_none (Nat.le_of_not_lt hi)]
theorem rsize_step (k u : Nat) : rsize k u = if u / 2 ^ k < 24 then u / 2 ^ k + 1 + k else 56 := rfl

set_option maxHeartbeats 1600000 in
/-- Cost: P10.1. -/
theorem qCost_any (A : Option Addr) (n c : Nat) (l : List Int) (ki : Int) (w : World) (hr : Row w .i32 A n l) (h32 : R32 l) (hn : n ≤ 1048576) :
    Calls Try.prog 14 #[.slice A n c, .int .i64 ki] w fun e w' => e = .returned (.int .i64 (rcost (kc ki) l : Nat)) ∧ w = w' := by
  have hk24 := kc_le ki
  have Hk := Lib.hid (kc_eq ki)
  have HR := Lib.hid (And.intro hr h32)
  obtain rfl := hr.len
  generalize kc ki = k at *
  have k0 : (0 : Int) ≤ (k : Int) := by omega
  have k1 : (k : Int) ≤ 24 := by omega
  clear hr h32
  go_enter Try.func14, Try.ntmps14
  go_wp2_with fail
  rw [Hk.out]
  go_loopw [6, 5] (fun i x wr => ∃ j : Nat, j ≤ l.length ∧ i = .int .i64 j ∧ x = .int .i64 (rcost k (l.take j) : Nat) ∧ wr = w) (fun i _ _ => (l.length - intOf i).toNat)
  case atStart => exact ⟨0, by omega, rfl, rfl, rfl⟩
  case round =>
    obtain ⟨j, hj, rfl, rfl, rfl⟩ := hrel
    have hle := rcost_le hk24 (l.take j)
    rw [List.length_take, Nat.min_eq_left hj] at hle
    by_cases hlt : j < l.length
    · obtain ⟨b, o, rfl, hb, hc⟩ := HR.out.1.at_ j hlt
      have hv := HR.out.2.at_ j
      have hf := HR.out.2.fold_lt j
      have Ht := Lib.hid (rcost_take k l hlt)
      generalize l.getD j 0 = v at *
      rw [rsize_step] at Ht
      generalize rcost k (l.take j) = s at *
      have j0 : (j : Int) < (l.length : Int) := by omega
      have hq : ((fold v : Nat) : Int) / 2 ^ k = ((fold v / 2 ^ k : Nat) : Int) := by simp
      have hq32 : fold v / 2 ^ k < 4294967296 := Nat.lt_of_le_of_lt (Nat.div_le_self _ _) hf
      generalize fold v / 2 ^ k = q at *
      go_wp2_with fail
      refine (qFold_any v _ (by omega) (by omega)).mono ?_
      rintro e w' ⟨rfl, rfl⟩
      by_cases h24 : q < 24
      · have q0 : (q : Int) < 24 := by omega
        rw [if_pos h24] at Ht
        go_wp2_with fail
        go_roundw
        case rel => exact ⟨j + 1, by omega, by go_num, by rw [Ht.out]; go_num, trivial⟩
        case measure => simp [intOf]; omega
      · have q0 : ¬ (q : Int) < 24 := by omega
        rw [if_neg h24] at Ht
        go_wp2_with fail
        go_roundw
        case rel => exact ⟨j + 1, by omega, by go_num, by rw [Ht.out]; go_num, trivial⟩
        case measure => simp [intOf]; omega
    · obtain rfl : j = l.length := by omega
      rw [List.take_length]
      go_wp2_with fail
      go_ret
      exact ⟨rfl, rfl⟩

theorem kc_in {k : Nat} (hk : k ≤ 24) : kc (k : Int) = k := by unfold kc; omega

set_option maxHeartbeats 1600000 in
/-- Best: P10.1. -/
theorem qBest_any (A : Option Addr) (n c : Nat) (l : List Int) (w : World) (hr : Row w .i32 A n l) (h32 : R32 l) (hn : n ≤ 1048576) :
    Calls Try.prog 16 #[.slice A n c] w fun e w' => e = .returned (.int .i64 (rbest l : Nat)) ∧ w = w' := by
  have HC : Hid (∀ k : Nat, k ≤ 24 → Calls Try.prog 14 #[.slice A n c, .int .i64 (k : Int)] w fun e w' => e = .returned (.int .i64 (rcost k l : Nat)) ∧ w = w') := Lib.hid fun k hk => by
    have := qCost_any A n c l k w hr h32 hn
    rwa [kc_in hk] at this
  have HL : Hid (∀ k : Nat, k ≤ 24 → rcost k l ≤ 56 * 1048576) := Lib.hid fun k hk => by
    have := rcost_le hk l
    have := hr.len
    omega
  clear hr h32
  go_enter Try.func16, Try.ntmps16
  go_wp2_with fail
  go_loopw [4, 3] (fun i x wr => ∃ j : Nat, j ≤ 24 ∧ i = .int .i64 ((j : Int) + 1) ∧ x = .int .i64 (rbestTo l j : Nat) ∧ wr = w) (fun i _ _ => (25 - intOf i).toNat)
  case atStart => exact ⟨0, by omega, rfl, rfl, rfl⟩
  case round =>
    obtain ⟨j, hj, rfl, rfl, rfl⟩ := hrel
    have hb := rbestTo_le l j
    by_cases hlt : j < 24
    · have H1 := Lib.hid (HC.out (j + 1) (by omega))
      have H2 := Lib.hid (HC.out (rbestTo l j) (by omega))
      have hs : rbestTo l (j + 1) = if rcost (j + 1) l < rcost (rbestTo l j) l then j + 1 else rbestTo l j := rfl
      have Hs := Lib.hid hs
      have b1 := HL.out (j + 1) (by omega)
      have b2 := HL.out (rbestTo l j) (by omega)
      clear hs HC HL
      generalize rbestTo l j = m at *
      generalize rcost (j + 1) l = x at *
      generalize rcost m l = y at *
      have j0 : (j : Int) + 1 ≤ 24 := by omega
      go_wp2_with fail
      rw [show ((j : Int) + 1) = ((j + 1 : Nat) : Int) from by omega]
      refine H1.out.mono ?_
      rintro e w' ⟨rfl, rfl⟩
      go_wp2_with fail
      refine H2.out.mono ?_
      rintro e w' ⟨rfl, rfl⟩
      by_cases hxy : x < y
      · rw [if_pos hxy] at Hs
        have hx : (x : Int) < (y : Int) := by omega
        go_wp2_with fail
        go_roundw
        case rel => exact ⟨j + 1, by omega, by go_num, by rw [Hs.out]; go_num, trivial⟩
        case measure => simp [intOf]; omega
      · rw [if_neg hxy] at Hs
        have hx : ¬ (x : Int) < (y : Int) := by omega
        go_wp2_with fail
        go_roundw
        case rel => exact ⟨j + 1, by omega, by go_num, by rw [Hs.out], trivial⟩
        case measure => simp [intOf]; omega
    · obtain rfl : j = 24 := by omega
      go_wp2_with fail
      go_ret
      exact ⟨rfl, rfl⟩

set_option maxHeartbeats 1600000 in
/-- A number in bits. -/
theorem qPut_any (A : Nat → Prop) (g : Nat) (L : List Bool) (v : Int) (k : Nat) (w : World) (h : QW A w g L) (hl : L.length ≤ 90000000000) (hv : -2147483648 ≤ v ∧ v < 2147483648) (hk : k ≤ 24) :
    Calls Try.prog 28 #[.pointer (some ⟨g, 0, none⟩), .int .i32 v, .int .i64 k] w fun e w' => e = .returned (.tuple #[]) ∧ QP A w w' g (L ++ rq k (fold v)) := by
  have hf : fold v < 4294967296 := by unfold fold; split <;> omega
  have k0 : (0 : Int) ≤ (k : Int) := by omega
  have k1 : (k : Int) ≤ 24 := by omega
  have hq : ((fold v : Nat) : Int) / 2 ^ k = ((fold v / 2 ^ k : Nat) : Int) := by simp
  have hq32 : fold v / 2 ^ k < 4294967296 := Nat.lt_of_le_of_lt (Nat.div_le_self _ _) hf
  have Hr : Hid (rq k (fold v) = _) := Lib.hid (rq.eq_1 k (fold v))
  have H := Lib.hid h
  have HF := Lib.hid (qFold_any v w (by omega) (by omega))
  clear h
  generalize fold v / 2 ^ k = q at *
  generalize fold v = u at *
  generalize rq k u = M at *
  go_enter Try.func28, Try.ntmps28
  go_wp2_with fail
  refine HF.out.mono ?_
  rintro e w' ⟨rfl, rfl⟩
  clear HF
  by_cases h24 : q < 24
  · have q0 : (q : Int) < 24 := by omega
    have hN : wUnaryN (q : Int) = q := by unfold wUnaryN clamp; omega
    have hB : wBitsN (k : Int) = k := by unfold wBitsN clamp; omega
    rw [if_pos h24] at Hr
    go_wp2_with fail
    refine (qwUnary_any A g L (q : Int) _ H.out (by omega)).mono ?_
    rintro e w1 ⟨rfl, h1⟩
    rw [hN] at h1
    have H1 := Lib.hid h1
    clear h1
    go_wp2_with fail
    refine (qwBits_any A g _ u (k : Int) _ H1.out.1 (by simp; omega) hf).mono ?_
    rintro e w2 ⟨rfl, h2⟩
    rw [hB, List.append_assoc, ← Hr.out] at h2
    have H2 := Lib.hid (H1.out.trans h2)
    clear h2 H1 Hr
    go_wp2_with fail
    refine bodyPost_ret (results_none rfl _ _ _) rfl ?_
    exact ⟨rfl, H2.out⟩
  · have q0 : ¬ (q : Int) < 24 := by omega
    rw [if_neg h24] at Hr
    go_wp2_with fail
    go_loopw [8] (fun i wr => ∃ j : Nat, j ≤ 24 ∧ i = .int .i64 j ∧ QP A w wr g (L ++ List.replicate j true)) (fun i _ => (24 - intOf i).toNat)
    case atStart => exact ⟨0, by omega, rfl, by simpa using H.out.refl⟩
    case round =>
      obtain ⟨j, hj, rfl, h1⟩ := hrel
      have H1 := Lib.hid h1
      clear h1 H
      by_cases hlt : j < 24
      · go_wp2_with fail
        refine (qwBit_any A g _ _ _ H1.out.1 (by simp; omega)).mono ?_
        rintro e w' ⟨rfl, hp⟩
        rw [show ((1 : Int) != 0) = true from rfl, List.append_assoc, ← replicate_take_one] at hp
        have H2 := Lib.hid (H1.out.trans hp)
        clear hp H1
        go_wp2_with fail
        go_roundw
        case rel => exact ⟨j + 1, by omega, by go_num, H2.out⟩
        case measure => simp [intOf]; omega
      · obtain rfl : j = 24 := by omega
        go_wp2_with fail
        refine (qwBits_any A g _ u 32 _ H1.out.1 (by simp; omega) hf).mono ?_
        rintro e w' ⟨rfl, hp⟩
        rw [show wBitsN 32 = 32 from by decide, List.append_assoc, ← Hr.out] at hp
        have H2 := Lib.hid (H1.out.trans hp)
        clear hp H1 Hr
        go_wp2_with fail
        go_end0
        exact ⟨rfl, H2.out⟩

end Go.Proofs.Ytlnhpdikdefgoaa
