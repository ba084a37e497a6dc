/- What the laws of rice ask of the code; awake. -/
import Derived.Test.YtlnhpdikdefgoaaRicU
namespace Go.Proofs.Ytlnhpdikdefgoaa
open Go.RowKit
set_option maxRecDepth 100000

attribute [local go_sem ↓] Go.wp_at_zero Go.wp_at_succ

/-- The code's four calls answer as the document's. -/
structure RiceOK : Prop where
  pack : ∀ (A : Option Addr) (n c : Nat) (l : List Int) (w : World), Row w .i32 A n l → R32 l → n ≤ 1048576 → n ≤ c →
    Calls Try.prog 10 #[.slice A n c] w fun e w' => ∃ u, e = .returned (.tuple #[u, .int .i64 0]) ∧ NewRow w w' 5 .u8 u (pk (rall l))
  unpack : ∀ (A : Option Addr) (n c : Nat) (xs : List Int) (m : Nat) (w : World), Row w .u8 A n xs → (∀ x ∈ xs, 0 ≤ x ∧ x < 256) → n ≤ 100000000 → m ≤ 1048576 →
    Calls Try.prog 19 #[.slice A n c, .int .i64 m] w fun e w' => UnPR w w' e xs m
  refuse : ∀ (A : Option Addr) (n c : Nat) (m : Int) (w : World), m < 0 ∨ 1048576 < m →
    Calls Try.prog 19 #[.slice A n c, .int .i64 m] w fun e w' => e = .returned (.tuple #[.slice none 0 0, .int .i64 (if m < 0 then 1 else 5)]) ∧ Fresh w w'
  cost : ∀ (A : Option Addr) (n c : Nat) (l : List Int) (k : Int) (w : World), Row w .i32 A n l → R32 l → n ≤ 1048576 →
    Calls Try.prog 13 #[.slice A n c, .int .i64 k] w fun e w' => e = .returned (.int .i64 (rcost (kc k) l : Nat)) ∧ Fresh w w'
  best : ∀ (A : Option Addr) (n c : Nat) (l : List Int) (w : World), Row w .i32 A n l → R32 l → n ≤ 1048576 →
    Calls Try.prog 15 #[.slice A n c] w fun e w' => e = .returned (.int .i64 (rbest l : Nat)) ∧ Fresh w w'

theorem Row.laid (w : World) (e : TypeId) (k : IntKind) (xs : List Int) : Row (w.alloc (.cells (ivs k xs).toArray e)) k (some ⟨w.heap.size, 0, none⟩) xs.length xs :=
  ⟨rfl, fun j hj => ⟨w.heap.size, 0, rfl, by simp, by
    rw [(Blk.new w e (ivs k xs).toArray).cell, Nat.zero_add, List.getElem?_toArray, ivs_get hj]⟩⟩
theorem R32.of {l : List Int} (h : (l.all fun v => decide (-2147483648 ≤ v ∧ v < 2147483648)) = true) : R32 l := fun v hv => of_decide_eq_true (List.all_eq_true.1 h v hv)
theorem one_len : (pk (rall [0])).length = 1 := by rw [pk_length]; decide +kernel
theorem three_cost : rcost (kc 0) [0, -1, 1] = 6 := by decide +kernel

set_option maxHeartbeats 1600000 in
theorem awakeR_any (hc : RiceOK) (w : World) : Calls Try.prog 8 #[] w fun e w' => e = .returned (.bool true) ∧ Fresh w w' := by
  have HC := Lib.hid hc
  clear hc
  go_enter Try.func8, Try.ntmps8
  go_wp2_with fail
  refine (HC.out.pack _ 1 1 [0] _ (Row.laid w 21 .i32 [0]) (R32.of (by decide)) (by omega) (by omega)).mono ?_
  rintro e w1 ⟨u, rfl, hu, _, hf1⟩
  obtain ⟨Au, cu, rfl, hru, _⟩ := hu.row
  rw [one_len]
  have H1 := Lib.hid (((Kept.refl (fun _ => False) w).alloc (.cells #[.int .i32 0] 21)).trans hf1 (fun _ _ h => h))
  clear hu hru hf1
  go_wp2_with fail
  refine (HC.out.cost _ 3 3 [0, -1, 1] 0 _ (Row.laid w1 21 .i32 [0, -1, 1]) (R32.of (by decide)) (by omega)).mono ?_
  rintro e w2 ⟨rfl, hf2⟩
  rw [three_cost]
  have H2 := Lib.hid ((H1.out.alloc (.cells #[.int .i32 0, .int .i32 (-1), .int .i32 1] 21)).trans hf2 (fun _ _ h => h))
  clear hf2 H1
  go_wp2_with fail
  go_ret
  exact ⟨rfl, H2.out⟩

/-- Unpack, whatever is asked. -/
def unE (xs : List Int) (m : Int) : Int := if m < 0 then 1 else if 1048576 < m then 5 else if (unR xs m.toNat).isSome then 0 else 4
def unL (xs : List Int) (m : Int) : List Int := if m < 0 ∨ 1048576 < m then [] else (unR xs m.toNat).getD []
def RUn (w w' : World) (e : Ending) (xs : List Int) (m : Int) : Prop := ∃ u, e = .returned (.tuple #[u, .int .i64 (unE xs m)]) ∧ NewRow w w' 21 .i32 u (unL xs m)
theorem unR_len (xs : List Int) (m : Nat) : ((unR xs m).getD []).length ≤ m := by
  rcases e : unR xs m with _ | l
  · simp
  · rw [unR_iff] at e
    simp [e.1]
theorem unL_len (xs : List Int) (m : Int) : (unL xs m).length ≤ 1048576 := by
  unfold unL
  split
  · simp
  · have := unR_len xs m.toNat
    omega
theorem unL_32 (xs : List Int) (m : Int) : R32 (unL xs m) := by
  unfold unL
  split
  · exact fun v hv => (by cases hv)
  · rcases e : unR xs m.toNat with _ | l
    · exact fun v hv => (by cases hv)
    · rw [unR_iff] at e
      exact e.2.1
theorem RUn.of {w w' : World} {e : Ending} {xs : List Int} {m : Int} {n : Nat} (hm : (n : Int) = m) (h0 : n ≤ 1048576) (h : UnPR w w' e xs n) : RUn w w' e xs m := by
  subst hm
  unfold RUn unE unL
  have h1 : ¬ ((n : Int) < 0) := by omega
  have h2 : ¬ (1048576 < (n : Int)) := by omega
  have h3 : ¬ ((n : Int) < 0 ∨ 1048576 < (n : Int)) := by omega
  rw [if_neg h1, if_neg h2, if_neg h3, Int.toNat_natCast]
  exact h
theorem RUn.not {w w' : World} {xs : List Int} {m : Int} (h : m < 0 ∨ 1048576 < m) (hf : Fresh w w') : RUn w w' (.returned (.tuple #[.slice none 0 0, .int .i64 (if m < 0 then 1 else 5)])) xs m := by
  unfold RUn unE unL
  rw [if_pos h]
  refine ⟨_, ?_, Own.nil _ _ _, fun k e => (by cases e), hf⟩
  split
  · rfl
  · rw [if_pos (by omega)]
theorem RiceOK.un (ok : RiceOK) (A : Option Addr) (n c : Nat) (xs : List Int) (m : Int) (w : World) (hr : Row w .u8 A n xs) (hb : ∀ x ∈ xs, 0 ≤ x ∧ x < 256) (hn : n ≤ 100000000) :
    Calls Try.prog 19 #[.slice A n c, .int .i64 m] w fun e w' => RUn w w' e xs m := by
  by_cases h : m < 0 ∨ 1048576 < m
  · refine (ok.refuse A n c m w h).mono ?_
    rintro e w' ⟨rfl, hf⟩
    exact RUn.not h hf
  · obtain ⟨k, rfl⟩ := Int.eq_ofNat_of_zero_le (show 0 ≤ m by omega)
    exact (ok.unpack A n c xs k w hr hb hn (by omega)).mono fun e w' h => RUn.of rfl (by omega) h
theorem qUn (A : Option Addr) (n c : Nat) (xs : List Int) (m : Int) (w : World) (hr : Row w .u8 A n xs) (hb : ∀ x ∈ xs, 0 ≤ x ∧ x < 256) (hn : n ≤ 100000000) :
    Calls Try.prog 20 #[.slice A n c, .int .i64 m] w fun e w' => RUn w w' e xs m := by
  by_cases h : m < 0 ∨ 1048576 < m
  · refine (qUnpackR_not A n c m w h).mono ?_
    rintro e w' ⟨rfl, rfl⟩
    exact RUn.not h (Kept.refl _ _)
  · obtain ⟨k, rfl⟩ := Int.eq_ofNat_of_zero_le (show 0 ≤ m by omega)
    exact (qUnpackR_any A n c xs k w hr hb hn (by omega)).mono fun e w' h => RUn.of rfl (by omega) h

end Go.Proofs.Ytlnhpdikdefgoaa
