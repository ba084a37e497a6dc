/- The document's Paeth, guess, Row, Unrow, Best of filters. -/
import Derived.Test.YtnmapfoinhomdaaFilMath
import Derived.Test.YtnmapfoinhomdaaColQ
import Derived.Deep.RegionLaw
import Derived.Deep.AppendLies
namespace Go.Proofs.Ytnmapfoinhomdaa
open Go.RowKit
set_option maxRecDepth 100000

attribute [local go_sem ↓] Go.wp_at_zero Go.wp_at_succ

set_option maxHeartbeats 800000 in
theorem qAmount_any (v : Int) (w : World) (hv : -1000000 ≤ v ∧ v ≤ 1000000) : Calls Try.prog 32 #[.int .i64 v] w fun e w' => e = .returned (.int .i64 (amt v)) ∧ w = w' := by
  go_enter Try.func32, Try.ntmps32
  go_wp2_with fail
  go_ret
  exact ⟨rfl, rfl⟩

set_option maxHeartbeats 1600000 in
/-- Paeth: P17.1. -/
theorem qPaeth_any (a b c : Int) (w : World) (ha : 0 ≤ a ∧ a < 256) (hb : 0 ≤ b ∧ b < 256) (hc : 0 ≤ c ∧ c < 256) :
    Calls Try.prog 18 #[.int .u8 a, .int .u8 b, .int .u8 c] w fun e w' => e = .returned (.int .u8 (pae a b c)) ∧ w = w' := by
  have H1 := Lib.hid (qAmount_any (a + b - c - a) w (by omega))
  have H2 := Lib.hid (qAmount_any (a + b - c - b) w (by omega))
  have H3 := Lib.hid (qAmount_any (a + b - c - c) w (by omega))
  have hp : pae a b c = if amt (a + b - c - a) ≤ amt (a + b - c - b) ∧ amt (a + b - c - a) ≤ amt (a + b - c - c) then a else if amt (a + b - c - b) ≤ amt (a + b - c - c) then b else c := rfl
  rw [hp]
  clear hp
  generalize hx : amt (a + b - c - a) = x at *
  generalize hy : amt (a + b - c - b) = y at *
  generalize hz : amt (a + b - c - c) = z at *
  clear hx hy hz
  have HP : Hid (∀ r, (if x ≤ y ∧ x ≤ z then a else if y ≤ z then b else c) = r → r = if x ≤ y ∧ x ≤ z then a else if y ≤ z then b else c) := Lib.hid fun _ h => h.symm
  by_cases h1 : x ≤ y
  · by_cases h2 : x ≤ z
    · rw [if_pos ⟨h1, h2⟩]
      go_enter Try.func18, Try.ntmps18
      go_wp2_with fail
      refine H1.out.mono ?_
      rintro e w1 ⟨rfl, rfl⟩
      go_wp2_with fail
      refine H2.out.mono ?_
      rintro e w1 ⟨rfl, rfl⟩
      go_wp2_with fail
      refine H3.out.mono ?_
      rintro e w1 ⟨rfl, rfl⟩
      go_wp2_with fail
      go_ret
      exact ⟨rfl, rfl⟩
    · have h3 : ¬ y ≤ z := by omega
      rw [if_neg (fun h => h2 h.2), if_neg h3]
      go_enter Try.func18, Try.ntmps18
      go_wp2_with fail
      refine H1.out.mono ?_
      rintro e w1 ⟨rfl, rfl⟩
      go_wp2_with fail
      refine H2.out.mono ?_
      rintro e w1 ⟨rfl, rfl⟩
      go_wp2_with fail
      refine H3.out.mono ?_
      rintro e w1 ⟨rfl, rfl⟩
      go_wp2_with fail
      go_ret
      exact ⟨rfl, rfl⟩
  · rw [if_neg (fun h => h1 h.1)]
    by_cases h3 : y ≤ z
    · rw [if_pos h3]
      go_enter Try.func18, Try.ntmps18
      go_wp2_with fail
      refine H1.out.mono ?_
      rintro e w1 ⟨rfl, rfl⟩
      go_wp2_with fail
      refine H2.out.mono ?_
      rintro e w1 ⟨rfl, rfl⟩
      go_wp2_with fail
      refine H3.out.mono ?_
      rintro e w1 ⟨rfl, rfl⟩
      go_wp2_with fail
      go_ret
      exact ⟨rfl, rfl⟩
    · rw [if_neg h3]
      go_enter Try.func18, Try.ntmps18
      go_wp2_with fail
      refine H1.out.mono ?_
      rintro e w1 ⟨rfl, rfl⟩
      go_wp2_with fail
      refine H2.out.mono ?_
      rintro e w1 ⟨rfl, rfl⟩
      go_wp2_with fail
      refine H3.out.mono ?_
      rintro e w1 ⟨rfl, rfl⟩
      go_wp2_with fail
      go_ret
      exact ⟨rfl, rfl⟩

set_option maxHeartbeats 800000 in
theorem qOf_any (A : Option Addr) (n c : Nat) (l : List Int) (i : Int) (w : World) (hr : Row w .u8 A n l) (_ : n ≤ 1000000000) :
    Calls Try.prog 38 #[.slice A n c, .int .i64 i] w fun e w' => e = .returned (.int .u8 (if i < 0 then 0 else l.getD i.toNat 0)) ∧ w = w' := by
  by_cases h0 : i < 0
  · rw [if_pos h0]
    clear hr
    go_enter Try.func38, Try.ntmps38
    go_wp2_with fail
    go_ret
    exact ⟨rfl, rfl⟩
  · rw [if_neg h0]
    by_cases h1 : i < (n : Int)
    · obtain ⟨k, rfl⟩ : ∃ k : Nat, i = k := ⟨i.toNat, by omega⟩
      rw [Int.toNat_natCast]
      obtain ⟨b, o, rfl, hb, hc⟩ := hr.at_ k (by omega)
      have k0 : (0 : Int) ≤ (k : Int) := by omega
      generalize l.getD k 0 = v at *
      clear hr hb h0
      go_enter Try.func38, Try.ntmps38
      go_wp2_with fail
      go_ret
      exact ⟨rfl, rfl⟩
    · have hv : l.getD i.toNat 0 = 0 := by
        simp only [List.getD]
        rw [List.getElem?_eq_none (by rw [hr.len]; omega)]
        rfl
      rw [hv]
      clear hr hv
      go_enter Try.func38, Try.ntmps38
      go_wp2_with fail
      go_ret
      exact ⟨rfl, rfl⟩
theorem Own.sz8 {w : World} {e : TypeId} {k : IntKind} {v : Value} {xs : List Int} {n : Nat} (h : Own w e k v xs) (hn : xs.length = n) : w.ownsRow 0 e 1 v n (ivs k xs) := by
  subst hn
  exact h
theorem of_ahd (l : List Int) (i n : Nat) : (if ((i : Int) - (n : Int)) < 0 then 0 else l.getD ((i : Int) - (n : Int)).toNat 0) = ahd l i n := by
  unfold ahd
  by_cases h : n ≤ i
  · rw [if_pos h, if_neg (by omega), show ((i : Int) - (n : Int)).toNat = i - n by omega]
  · rw [if_neg h, if_pos (by omega)]

end Go.Proofs.Ytnmapfoinhomdaa
