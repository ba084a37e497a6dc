/- What the pack of a table tells, and what any bytes are as such a pack: plain mathematics. -/
import Derived.Test.YtbbkdgbgfncjaaaTabD
import Derived.Test.YtbbkdgbgfncjaaaColMath
import Derived.Test.YtbbkdgbgfncjaaaHusMath
namespace Go.Proofs.Ytbbkdgbgfncjaaa
open Go.RowKit
set_option maxRecDepth 100000

/-- What the pack of a table tells. -/
def tabX (b : List Int) : List Int := sv (wdt b) ++ sv b.length ++ aprt (dlt b (wdt b)) (wdt b)
def tabO (b : List Int) : Option (List Int) := if wdt b = 0 then none else some (tabX b)
/-- What unpacking tells: an error, and bytes. -/
def tab1 (xs : List Int) : Nat × Nat × Int := nx xs 0 0
def tab2 (xs : List Int) : Nat × Nat × Int := nx xs (tab1 xs).2.1 (tab1 xs).2.2
def tabU (xs : List Int) (most : Int) : Int × List Int :=
  if (tab2 xs).2.2 ≠ 0 then ((tab2 xs).2.2, []) else if (tab1 xs).1 < 2 ∨ 16 < (tab1 xs).1 then (4, []) else if mst most < (tab2 xs).1 then (5, []) else
    if (tab2 xs).1 ≠ xs.length - (tab2 xs).2.1 then (4, []) else (0, und (tgth (xs.drop (tab2 xs).2.1) (tab1 xs).1) (tab1 xs).1)
theorem tabX_byte {b : List Int} (h : ∀ x ∈ b, 0 ≤ x ∧ x < 256) : ∀ x ∈ tabX b, 0 ≤ x ∧ x < 256 :=
  all_append (all_append (sv_byte _) (sv_byte _)) (aprt_byte (dlt_byte h _) _)
theorem tabX_len {b : List Int} (h : b.length ≤ 1048576) : (tabX b).length ≤ b.length + 4 := by
  have h1 := wdt_in b
  have e1 : (sv (wdt b)).length = 1 := by rw [sv_lo (by omega)]; rfl
  have e2 : (sv b.length).length ≤ 3 := by
    rw [sv]
    split
    · simp
    · rw [List.length_cons, sv]
      split
      · simp
      · rw [List.length_cons, sv_lo (by omega)]; simp
  unfold tabX
  rw [List.length_append, List.length_append, aprt_length, dlt_len]
  omega
theorem tabX_back {b : List Int} (most : Int) (h8 : ∀ x ∈ b, 0 ≤ x ∧ x < 256) (hl : b.length ≤ 1048576) (h0 : wdt b ≠ 0) :
    tabU (tabX b) most = if (b.length : Int) ≤ most then (0, b) else (5, []) := by
  have hin := wdt_in b
  obtain ⟨k, hk⟩ : ∃ k, k = wdt b := ⟨_, rfl⟩
  obtain ⟨D, hD⟩ : ∃ D, D = aprt (dlt b k) k := ⟨_, rfl⟩
  have hDl : D.length = b.length := by rw [hD, aprt_length, dlt_len]
  have hX : tabX b = sv k ++ (sv b.length ++ D) := by unfold tabX; rw [hD, ← hk, List.append_assoc]
  rw [← hk] at h0 hin
  have e1 : tab1 (tabX b) = (k, (sv k).length, 0) := by
    have := nx_at (xs := tabX b) (P := []) (R := sv b.length ++ D) (v := k) (by rw [hX]; rfl) (by omega)
    unfold tab1
    simpa using this
  have e2 : tab2 (tabX b) = (b.length, (sv k).length + (sv b.length).length, 0) := by
    unfold tab2
    rw [e1]
    exact nx_at (xs := tabX b) (P := sv k) (R := D) (v := b.length) hX (by omega)
  have e3 : (tabX b).drop ((sv k).length + (sv b.length).length) = D := by
    rw [hX, ← List.append_assoc, ← List.length_append]
    exact List.drop_left
  have e4 : (tabX b).length - ((sv k).length + (sv b.length).length) = b.length := by
    rw [hX, List.length_append, List.length_append, hDl]
    omega
  unfold tabU
  rw [e2, e1]
  simp only []
  rw [e3, e4, hD, tgth_aprt, und_dlt h8 (by omega)]
  rw [if_neg (by simp), if_neg (show ¬ (k < 2 ∨ 16 < k) by omega)]
  by_cases hm : (b.length : Int) ≤ most
  · rw [if_neg (show ¬ mst most < b.length by unfold mst; omega), if_neg (by simp), if_pos hm]
  · have h1 : 1 ≤ b.length := by omega
    rw [if_pos (show mst most < b.length by unfold mst; omega), if_neg hm]
theorem tabU_byte {xs : List Int} (most : Int) (h : ∀ x ∈ xs, 0 ≤ x ∧ x < 256) : ∀ x ∈ (tabU xs most).2, 0 ≤ x ∧ x < 256 := by
  unfold tabU
  split
  · simp
  split
  · simp
  split
  · simp
  split
  · simp
  · exact und_byte (tgth_byte (fun x hx => h x (List.mem_of_mem_drop hx)) _) _

end Go.Proofs.Ytbbkdgbgfncjaaa
