/- The code's Unpack of rice: what its rounds come to; a round. -/
import Derived.Test.YtlnhpdikdefgoaaRicD
import Derived.Test.YtlnhpdikdefgoaaRicE
namespace Go.Proofs.Ytlnhpdikdefgoaa
open Go.RowKit
set_option maxRecDepth 100000

/-- One block, read: the place and the list behind it. -/
def ustep (bs : List Int) (n : Nat) (s : Nat × List Int) (x : Nat) : Option (Nat × List Int) :=
  if (sBits bs s.1 0 5).1 ≤ 24 ∧ (rrun bs (sBits bs s.1 0 5).1 (sBits bs s.1 0 5).2.1 (sBits bs s.1 0 5).2.2 (min 64 (n - 64 * x))).2.2 = 0 then
    some ((rrun bs (sBits bs s.1 0 5).1 (sBits bs s.1 0 5).2.1 (sBits bs s.1 0 5).2.2 (min 64 (n - 64 * x))).2.1, part s.2 (64 * x) (rrun bs (sBits bs s.1 0 5).1 (sBits bs s.1 0 5).2.1 (sBits bs s.1 0 5).2.2 (min 64 (n - 64 * x))).1)
  else none
/-- Some blocks. -/
def ust (bs : List Int) (n : Nat) (pre : List Nat) : Option (Nat × List Int) := pre.foldl (fun s x => s.bind fun t => ustep bs n t x) (some (0, List.replicate n 0))
theorem ust_snoc (bs : List Int) (n : Nat) (pre : List Nat) (x : Nat) : ust bs n (pre ++ [x]) = (ust bs n pre).bind fun t => ustep bs n t x := by simp [ust]
theorem ustep_len {bs : List Int} {n x : Nat} {s t : Nat × List Int} (h : ustep bs n s x = some t) (hs : s.2.length = n) : t.2.length = n := by
  unfold ustep at h
  split at h
  · injection h with h
    subst h
    simp only []
    have hl := rrun_len bs (sBits bs s.1 0 5).1 (sBits bs s.1 0 5).2.1 (sBits bs s.1 0 5).2.2 (min 64 (n - 64 * x))
    unfold part
    simp
    omega
  · cases h

theorem rto_stands {bs l : List Int} {m : Nat} (h : Stands bs 0 (rto l m)) : ∀ j, j ≤ m → Stands bs 0 (rto l j) := by
  induction m with
  | zero =>
    intro j hj
    rw [show j = 0 by omega]
    exact h
  | succ m ih =>
    intro j hj
    rcases Nat.lt_or_ge m j with h2 | h2
    · obtain rfl : j = m + 1 := by omega
      exact h
    · exact ih h.left j h2
/-- No pack tells a parameter above 24. -/
theorem param_bad {bs : List Int} {n j p k0 k p1 : Nat} {e1 : Int} {out : List Int} (h : rrd bs (64 * j) = some (p, k0, out)) (hj : 64 * j < n) (hS : sBits bs p 0 5 = (k, p1, e1)) (hk : 24 < k) : unR bs n = none := by
  rcases e : unR bs n with _ | l
  · rfl
  · exfalso
    rw [unR_iff] at e
    obtain ⟨rfl, h32, rfl⟩ := e
    have hst : Stands (pk (rall l)) 0 (rto l (rblocks l)) := by simpa [rall] using Stands.pk (rall l) []
    have hst2 := rto_stands hst (j + 1) (by unfold rblocks; omega)
    obtain ⟨k', h'⟩ := rrd_blocks h32 j (by omega) (rto_stands hst j (by unfold rblocks; omega))
    rw [Nat.min_eq_left (by omega), h] at h'
    simp only [Option.some.injEq, Prod.mk.injEq] at h'
    have h3 := hst2.right
    rw [Nat.zero_add, ← h'.1] at h3
    have hb := rbest_le (rpart l j)
    have h4 := bits_stands h3.left (Nat.lt_of_le_of_lt hb (by decide))
    rw [hS] at h4
    simp only [Prod.mk.injEq] at h4
    omega

theorem ust_range (bs : List Int) (n : Nat) : ∀ j, 64 * j < n + 64 →
    (∀ p xs, ust bs n (List.range j) = some (p, xs) → xs.length = n ∧ ∃ k, rrd bs (min (64 * j) n) = some (p, k, xs.take (min (64 * j) n))) ∧ (ust bs n (List.range j) = none → unR bs n = none)
  | 0, _ => by
    constructor
    · intro p xs h
      simp only [ust, List.range_zero, List.foldl_nil, Option.some.injEq, Prod.mk.injEq] at h
      obtain ⟨rfl, rfl⟩ := h
      exact ⟨by simp, 0, by simp [rrd]⟩
    · intro h
      simp [ust] at h
  | j + 1, hj => by
    obtain ⟨i1, i2⟩ := ust_range bs n j (by omega)
    rw [List.range_succ, ust_snoc]
    rcases e : ust bs n (List.range j) with _ | ⟨p0, xs0⟩
    · exact ⟨fun p xs h => (by cases h), fun _ => i2 e⟩
    · obtain ⟨hl, k0, hr⟩ := i1 p0 xs0 e
      have hjn : 64 * j < n := by omega
      rw [Nat.min_eq_left (by omega)] at hr
      simp only [Option.bind_some]
      obtain ⟨k, p1, e1, hS⟩ : ∃ k p1 e1, sBits bs p0 0 5 = (k, p1, e1) := ⟨_, _, _, rfl⟩
      obtain ⟨m, hm⟩ : ∃ m, min 64 (n - 64 * j) = m + 1 := ⟨min 64 (n - 64 * j) - 1, by omega⟩
      have hrun := rrun_rrd hr hS m (by omega)
      have hlen := rrun_len bs k p1 e1 (m + 1)
      have emin : min (64 * (j + 1)) n = 64 * j + m + 1 := by omega
      unfold ustep
      simp only [hS, hm]
      generalize rrun bs k p1 e1 (m + 1) = s at *
      rw [emin]
      by_cases hc : k ≤ 24 ∧ s.2.2 = 0
      · rw [if_pos hc]
        refine ⟨fun p xs h => ?_, fun h => by cases h⟩
        simp only [Option.some.injEq, Prod.mk.injEq] at h
        obtain ⟨rfl, rfl⟩ := h
        refine ⟨by rw [part_len (by omega)]; exact hl, k, ?_⟩
        rw [hrun.1 hc.2]
        have e2 : (part xs0 (64 * j) s.1).take (64 * j + m + 1) = xs0.take (64 * j) ++ s.1 := by
          unfold part
          rw [List.take_append_of_le_length (by simp; omega), List.take_of_length_le (by simp; omega)]
        rw [e2]
      · rw [if_neg hc]
        refine ⟨fun p xs h => (by cases h), fun _ => ?_⟩
        by_cases hk : k ≤ 24
        · exact unR_none (hrun.2 fun e => hc ⟨hk, e⟩) (by omega)
        · exact param_bad hr hjn hS (by omega)

theorem ust_all {bs : List Int} {n p : Nat} {xs : List Int} (h : ust bs n (List.range (chunks n)) = some (p, xs)) : R32 xs ∧ xs.length = n ∧ unR bs n = if pk (rall xs) = bs then some xs else none := by
  obtain ⟨hl, k, hr⟩ := (ust_range bs n (chunks n) (by unfold chunks; omega)).1 p xs h
  rw [Nat.min_eq_right (by unfold chunks; omega), List.take_of_length_le (by omega)] at hr
  exact ⟨rrd_32 _ _ _ _ _ hr, hl, unR_some hr⟩
theorem ust_none {bs : List Int} {n k : Nat} (h : ust bs n (List.range k) = none) (hk : k ≤ chunks n) : unR bs n = none :=
  (ust_range bs n k (by unfold chunks at hk; omega)).2 h

/-- A round. -/
theorem cStep_any (g : Nat) (B : Option Addr) (cB : Nat) (bs : List Int) (p : Nat) (lb n c x : Nat) (xs : List Int) (w : World) (h : Rd w g 81 B cB bs p 0) (hl : Own w 21 .i32 (.slice (some ⟨lb, 0, none⟩) n c) xs) (hxs : xs.length = n)
    (hB : ∀ b o, B = some ⟨b, o, none⟩ → 0 < bs.length → b ≠ lb) :
    Calls Try.prog 33 #[.agg #[.pointer (some ⟨g, 0, none⟩)], chunkAt (some ⟨lb, 0, none⟩) n x] w fun e w' => e = .returned (.bool (ustep bs n (p, xs) x).isSome) ∧ Kept (fun j => j = g ∨ j = lb) w w' ∧
      ∀ s, ustep bs n (p, xs) x = some s → Rd w' g 81 B cB bs s.1 0 ∧ Own w' 21 .i32 (.slice (some ⟨lb, 0, none⟩) n c) s.2 := by
  have HC := cReads_any g B cB bs p lb n c (0 + 64 * x) (min 64 (n - 64 * x)) (min 64 (n - 64 * x)) xs w h hl hxs (by omega) (by omega) hB (sBits bs p 0 5).1 (sBits bs p 0 5).2.1 (sBits bs p 0 5).2.2 rfl
  refine HC.mono ?_
  rintro e w' ⟨hk, ⟨h24, rfl⟩ | ⟨h24, rfl, hr, ho⟩⟩
  · have hs : ustep bs n (p, xs) x = none := by
      unfold ustep
      exact if_neg fun hc => by have := hc.1; simp only [] at this; omega
    rw [hs]
    exact ⟨rfl, hk, fun s e => by cases e⟩
  · by_cases h0 : (rrun bs (sBits bs p 0 5).1 (sBits bs p 0 5).2.1 (sBits bs p 0 5).2.2 (min 64 (n - 64 * x))).2.2 = 0
    · have hs : ustep bs n (p, xs) x = some ((rrun bs (sBits bs p 0 5).1 (sBits bs p 0 5).2.1 (sBits bs p 0 5).2.2 (min 64 (n - 64 * x))).2.1, part xs (64 * x) (rrun bs (sBits bs p 0 5).1 (sBits bs p 0 5).2.1 (sBits bs p 0 5).2.2 (min 64 (n - 64 * x))).1) := by
        unfold ustep
        exact if_pos ⟨h24, h0⟩
      rw [hs]
      rw [h0] at hr ⊢
      rw [Nat.zero_add] at ho
      refine ⟨rfl, hk, fun s e => ?_⟩
      injection e with e
      subst e
      exact ⟨hr, ho⟩
    · have hs : ustep bs n (p, xs) x = none := by
        unfold ustep
        exact if_neg fun hc => h0 hc.2
      rw [hs, decide_eq_false h0]
      exact ⟨rfl, hk, fun s e => by cases e⟩

end Go.Proofs.Ytlnhpdikdefgoaa
