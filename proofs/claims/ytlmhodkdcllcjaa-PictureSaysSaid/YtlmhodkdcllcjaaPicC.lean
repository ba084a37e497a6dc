/- The code's small calls of a picture's head. -/
import Derived.Test.YtlmhodkdcllcjaaPicBi
import Derived.Lib.MinMax
namespace Go.Proofs.Ytlmhodkdcllcjaa
open Go.RowKit
set_option maxRecDepth 100000

attribute [local go_sem ↓] Go.wp_at_zero Go.wp_at_succ

set_option maxHeartbeats 800000 in
theorem cSide_any (v : Int) (w : World) : Calls Try.prog 35 #[.int .u64 v] w fun e w' => e = .returned (.bool (decide (1 ≤ v ∧ v ≤ 32768))) ∧ w = w' := by
  by_cases h1 : 1 ≤ v
  · by_cases h2 : v ≤ 32768
    · rw [decide_eq_true ⟨h1, h2⟩]
      go_enter Try.func35, Try.ntmps35
      go_wp2_with fail
      go_ret
      exact ⟨rfl, rfl⟩
    · rw [decide_eq_false (fun h => h2 h.2)]
      go_enter Try.func35, Try.ntmps35
      go_wp2_with fail
      go_ret
      exact ⟨rfl, rfl⟩
  · rw [decide_eq_false (fun h => h1 h.1)]
    go_enter Try.func35, Try.ntmps35
    go_wp2_with fail
    go_ret
    exact ⟨rfl, rfl⟩

set_option maxHeartbeats 800000 in
theorem cAmount_any (v : Nat) (w : World) (hv : v < 4294967296) : Calls Try.prog 32 #[.int .u64 v] w fun e w' => e = .returned (.int .u64 (amt4 v : Nat)) ∧ w = w' := by
  obtain ⟨s, hs⟩ : ∃ s, s = sg4 v := ⟨_, rfl⟩
  have u2 : IntKind.i32.wrap (v : Int) = s := by rw [hs]; exact sg4_i hv
  have u4 : -2147483648 ≤ s ∧ s < 2147483648 := by rw [hs]; exact sg4_in hv
  have U : Hid (max s (-s) = (amt4 v : Nat)) := Lib.hid (by rw [hs]; exact sg4_max hv)
  obtain ⟨m, hm⟩ : ∃ m, m = amt4 v := ⟨_, rfl⟩
  have hm1 : (m : Int) < 9000000000 := by have := amt4_le hv; rw [hm]; omega
  rw [← hm] at U ⊢
  clear hm hs hv
  go_enter Try.func32, Try.ntmps32
  go_wp2_with fail
  go_ret
  refine ⟨ret_int ?_, rfl⟩
  have h := U.out
  clear u2
  omega

/-- How many bytes a pixel of so many bits has. -/
def plnC (d : Int) : Int := if d = 24 then 3 else if d = 8 then 1 else 0
set_option maxHeartbeats 800000 in
theorem cPlanesOf_any (d : Int) (w : World) : Calls Try.prog 33 #[.int .u64 d] w fun e w' => e = .returned (.int .u64 (plnC d)) ∧ w = w' := by
  unfold plnC
  by_cases h1 : d = 24
  · subst h1
    rw [if_pos rfl]
    go_enter Try.func33, Try.ntmps33
    go_wp2_with fail
    go_ret
    exact ⟨rfl, rfl⟩
  · have b1 : (d == 24) = false := by simp [h1]
    rw [if_neg h1]
    clear h1
    by_cases h2 : d = 8
    · subst h2
      rw [if_pos rfl]
      go_enter Try.func33, Try.ntmps33
      go_wp2_with fail
      go_ret
      exact ⟨rfl, rfl⟩
    · have b2 : (d == 8) = false := by simp [h2]
      rw [if_neg h2]
      clear h2
      go_enter Try.func33, Try.ntmps33
      go_wp2_with fail
      go_ret
      exact ⟨rfl, rfl⟩

/-- What a head tells. -/
def hval : Option (Nat × Nat × Nat × Nat × Nat) → Value
  | none => .agg #[.int .u64 0, .int .u64 0, .int .u64 0, .int .u64 0, .int .u64 0]
  | some r => .agg #[.int .u64 (r.1 : Nat), .int .u64 (r.2.1 : Nat), .int .u64 (r.2.2.1 : Nat), .int .u64 (r.2.2.2.1 : Nat), .int .u64 (r.2.2.2.2 : Nat)]
/-- What is told of it, in a file of so many bytes. -/
def fitO (n : Nat) : Option (Nat × Nat × Nat × Nat × Nat) → Option (Nat × Nat × Nat × Nat × Nat)
  | none => none
  | some r => if fitP r.1 r.2.1 (r.2.2.2.1 : Nat) (r.2.2.2.2 : Nat) n then some r else none

set_option maxHeartbeats 3200000 in
theorem cWithin_some (a b p s f n : Nat) (w : World) (hp : p ≤ 3) (hs : s ≤ 1000000000000) (hf : f ≤ 10000000000) (hn : n ≤ 1000000000) :
    Calls Try.prog 20 #[.agg #[.int .u64 a, .int .u64 b, .int .u64 p, .int .u64 s, .int .u64 f], .int .i64 n] w
      fun e w' => e = .returned (.tuple #[pval (if fitP a b s f n then some (a, b, p, s, f) else none), .bool (if fitP a b s f n then some (a, b, p, s, f) else none).isSome]) ∧ Fresh w w' := by
  have HA := Lib.hid (cSide_any a)
  have HB := Lib.hid (cSide_any b)
  by_cases h1 : 1 ≤ (a : Int) ∧ (a : Int) ≤ 32768
  · rw [decide_eq_true h1] at HA
    by_cases h2 : 1 ≤ (b : Int) ∧ (b : Int) ≤ 32768
    · rw [decide_eq_true h2] at HB
      obtain ⟨m, hm⟩ : ∃ m, m = s * b := ⟨_, rfl⟩
      have hm1 : m ≤ 1000000000000 * 32768 := by rw [hm]; exact Nat.mul_le_mul hs (by omega)
      obtain ⟨t, ht⟩ : ∃ t, t = f + m := ⟨_, rfl⟩
      have e1 : (s : Int) * (b : Int) = (m : Int) := by rw [hm]; simp
      have w1 : IntKind.u64.wrap ((s : Int) * (b : Int)) = (m : Int) := by rw [e1]; exact IntWalk.u64_in _ (by omega)
      have w2 : IntKind.u64.wrap ((f : Int) + (m : Int)) = (t : Int) := by rw [IntWalk.u64_in _ (by omega)]; omega
      have w3 : IntKind.u64.wrap (n : Int) = (n : Int) := IntWalk.u64_in _ (by omega)
      have hfp : fitP a b s f n ↔ t ≤ n := by
        unfold fitP
        rw [e1]
        omega
      have a1 : (a : Int) ≤ 32768 := h1.2
      have a2 : (b : Int) ≤ 32768 := h2.2
      have a3 : (p : Int) ≤ 3 := by omega
      have a4 : (s : Int) ≤ 1000000000000 := by omega
      have a5 : (f : Int) ≤ 10000000000 := by omega
      clear hm hm1 ht e1 hp hs hf hn h1 h2
      by_cases h3 : t ≤ n
      · have h3' : ¬ (n : Int) < (t : Int) := by omega
        rw [if_pos (hfp.2 h3)]
        clear hfp h3
        go_enter Try.func20, Try.ntmps20
        go_wp2_with fail
        refine (HA.out _).mono ?_
        rintro e w1 ⟨rfl, rfl⟩
        go_wp2_with fail
        refine (HB.out _).mono ?_
        rintro e w1 ⟨rfl, rfl⟩
        go_wp2_with fail
        refine bodyPost_ret (v := .tuple #[pval (some (a, b, p, s, f)), .bool true]) (by simp [results, Try.f20, go_sem, pval]) rfl ?_
        exact ⟨rfl, ((Kept.refl _ _).alloc _).alloc _⟩
      · have h3' : (n : Int) < (t : Int) := by omega
        rw [if_neg (fun h => h3 (hfp.1 h))]
        clear hfp h3
        go_enter Try.func20, Try.ntmps20
        go_wp2_with fail
        refine (HA.out _).mono ?_
        rintro e w1 ⟨rfl, rfl⟩
        go_wp2_with fail
        refine (HB.out _).mono ?_
        rintro e w1 ⟨rfl, rfl⟩
        go_wp2_with fail
        refine bodyPost_ret (v := .tuple #[pval none, .bool false]) (by simp [results, Try.f20, go_sem, pval]) rfl ?_
        exact ⟨rfl, ((Kept.refl _ _).alloc _).alloc _⟩
    · rw [decide_eq_false h2] at HB
      rw [if_neg (fun h : fitP a b s f n => h2 ⟨h.2.2.1, h.2.2.2.1⟩)]
      clear h1 h2
      go_enter Try.func20, Try.ntmps20
      go_wp2_with fail
      refine (HA.out _).mono ?_
      rintro e w1 ⟨rfl, rfl⟩
      go_wp2_with fail
      refine (HB.out _).mono ?_
      rintro e w1 ⟨rfl, rfl⟩
      go_wp2_with fail
      refine bodyPost_ret (v := .tuple #[pval none, .bool false]) (by simp [results, Try.f20, go_sem, pval]) rfl ?_
      exact ⟨rfl, ((Kept.refl _ _).alloc _).alloc _⟩
  · rw [decide_eq_false h1] at HA
    rw [if_neg (fun h : fitP a b s f n => h1 ⟨h.1, h.2.1⟩)]
    clear h1 HB
    go_enter Try.func20, Try.ntmps20
    go_wp2_with fail
    refine (HA.out _).mono ?_
    rintro e w1 ⟨rfl, rfl⟩
    go_wp2_with fail
    refine bodyPost_ret (v := .tuple #[pval none, .bool false]) (by simp [results, Try.f20, go_sem, pval]) rfl ?_
    exact ⟨rfl, ((Kept.refl _ _).alloc _).alloc _⟩

/-- Within, of whatever a head tells. -/
def okH (r : Nat × Nat × Nat × Nat × Nat) : Prop := r.2.2.1 ≤ 3 ∧ r.2.2.2.1 ≤ 1000000000000 ∧ r.2.2.2.2 ≤ 10000000000
theorem cWithin_any (o : Option (Nat × Nat × Nat × Nat × Nat)) (n : Nat) (w : World) (ho : ∀ r, o = some r → okH r) (hn : n ≤ 1000000000) :
    Calls Try.prog 20 #[hval o, .int .i64 n] w fun e w' => e = .returned (.tuple #[pval (fitO n o), .bool (fitO n o).isSome]) ∧ Fresh w w' := by
  cases o with
  | some r =>
    obtain ⟨a, b, p, s, f⟩ := r
    obtain ⟨h1, h2, h3⟩ := ho _ rfl
    exact cWithin_some a b p s f n w h1 h2 h3 hn
  | none =>
    have h := cWithin_some 0 0 0 0 0 n w (by omega) (by omega) (by omega) hn
    have hf : ¬ fitP (0 : Nat) (0 : Nat) (0 : Nat) (0 : Nat) n := fun h => absurd h.1 (by decide)
    rw [if_neg hf] at h
    exact h

end Go.Proofs.Ytlmhodkdcllcjaa
