/- Numbers by rows of m: as the cells of one block (gcs); one number is another one (gput); a whole row is laid (glaid). -/
import Derived.Test.YtpknbfkknnaajaaDoorArr
namespace Go.Proofs.YtpknbfkknnaajaaDoor
open Go.RowKit

/-- One number is another one. -/
def gput (T : Nat → Nat → Int) (s k : Nat) (v : Int) : Nat → Nat → Int := fun i j => if i = s ∧ j = k then v else T i j
theorem gput_at (T : Nat → Nat → Int) (s k : Nat) (v : Int) : gput T s k v s k = v := by unfold gput; rw [if_pos ⟨rfl, rfl⟩]
theorem gput_bd {T : Nat → Nat → Int} {lo hi : Int} (h : ∀ i k, lo ≤ T i k ∧ T i k ≤ hi) {s k : Nat} {v : Int} (hv : lo ≤ v ∧ v ≤ hi) : ∀ i j, lo ≤ gput T s k v i j ∧ gput T s k v i j ≤ hi := by
  intro i j
  unfold gput
  split
  · exact hv
  · exact h i j

/-- A row as cells. -/
def rcs (kd : IntKind) (m : Nat) (F : Nat → Int) : Array Value := ((List.range m).map fun j => Value.int kd (F j)).toArray
theorem rcs_size (kd : IntKind) (m : Nat) (F : Nat → Int) : (rcs kd m F).size = m := by simp [rcs]
theorem rcs_get {kd : IntKind} {m : Nat} {F : Nat → Int} {j : Nat} (h : j < m) : (rcs kd m F)[j]? = some (.int kd (F j)) := by simp [rcs, h]
theorem rcs_one (kd : IntKind) (m : Nat) (F : Nat → Int) : (rcs kd m F).all (·.oneCell') = true := by
  unfold rcs
  refine toArray_all fun v hv => ?_
  simp only [List.mem_map] at hv
  obtain ⟨j, _, rfl⟩ := hv
  rfl
theorem rcs_congr {kd : IntKind} {m : Nat} {F G : Nat → Int} (h : ∀ j, j < m → F j = G j) : rcs kd m F = rcs kd m G := by
  unfold rcs
  congr 1
  apply List.map_congr_left
  intro j hj
  rw [h j (List.mem_range.1 hj)]
theorem rcs_set {kd : IntKind} {m : Nat} {F : Nat → Int} {k : Nat} (v : Int) : (rcs kd m F).setIfInBounds k (.int kd v) = rcs kd m (fun j => if j = k then v else F j) := by
  apply Array.ext_getElem?
  intro i
  rw [Array.getElem?_setIfInBounds]
  rcases Nat.lt_or_ge i m with hi | hi
  · rw [rcs_get hi, rcs_get hi, rcs_size]
    by_cases e : k = i
    · subst e; rw [if_pos rfl, if_pos hi, if_pos rfl]
    · rw [if_neg e, if_neg (fun e' => e e'.symm)]
  · have e1 : ∀ G : Nat → Int, (rcs kd m G)[i]? = none := fun G => Array.getElem?_eq_none (by rw [rcs_size]; exact hi)
    rw [e1, e1, rcs_size]
    by_cases e : k = i
    · subst e; rw [if_pos rfl, if_neg (by omega)]
    · rw [if_neg e]

/-- All numbers as cells: m a row. -/
def gcs (kd : IntKind) (m n : Nat) (T : Nat → Nat → Int) : Array Value := ((List.range (n * m)).map fun i => Value.int kd (T (i / m) (i % m))).toArray
section
variable {kd : IntKind} {m n : Nat} {T : Nat → Nat → Int}
theorem gcs_size (kd : IntKind) (m n : Nat) (T : Nat → Nat → Int) : (gcs kd m n T).size = n * m := by simp [gcs]
theorem place_lt {s k : Nat} (hs : s < n) (hk : k < m) : s * m + k < n * m := by
  have h1 : (s + 1) * m ≤ n * m := Nat.mul_le_mul_right m hs
  rw [Nat.add_mul] at h1; omega
theorem place_div {s k : Nat} (hk : k < m) : (s * m + k) / m = s ∧ (s * m + k) % m = k := by
  rw [Nat.mul_comm s m]
  exact ⟨by rw [Nat.mul_add_div (by omega), Nat.div_eq_of_lt hk, Nat.add_zero], by rw [Nat.mul_add_mod, Nat.mod_eq_of_lt hk]⟩
theorem gcs_at {i : Nat} (h : i < n * m) : (gcs kd m n T)[i]? = some (.int kd (T (i / m) (i % m))) := by
  simp only [gcs, List.getElem?_toArray, List.getElem?_map, List.getElem?_range h, Option.map_some]
theorem gcs_get {s k : Nat} (hs : s < n) (hk : k < m) : (gcs kd m n T)[s * m + k]? = some (.int kd (T s k)) := by
  rw [gcs_at (place_lt hs hk), (place_div hk).1, (place_div hk).2]
theorem gcs_none {i : Nat} (h : n * m ≤ i) : (gcs kd m n T)[i]? = none := Array.getElem?_eq_none (by rw [gcs_size]; exact h)
theorem gcs_set {s k : Nat} (hk : k < m) (v : Int) : (gcs kd m n T).setIfInBounds (s * m + k) (.int kd v) = gcs kd m n (gput T s k v) := by
  apply Array.ext_getElem?
  intro i
  rw [Array.getElem?_setIfInBounds, gcs_size]
  rcases Nat.lt_or_ge i (n * m) with hi | hi
  · rw [gcs_at hi, gcs_at hi]
    unfold gput
    by_cases e : s * m + k = i
    · subst e
      rw [if_pos rfl, if_pos hi, (place_div hk).1, (place_div hk).2, if_pos ⟨rfl, rfl⟩]
    · rw [if_neg e, if_neg]
      rintro ⟨rfl, rfl⟩
      exact e (by rw [Nat.mul_comm]; exact Nat.div_add_mod i m)
  · rw [gcs_none hi, gcs_none hi]
    by_cases e : s * m + k = i
    · rw [if_pos e, if_neg (by omega)]
    · rw [if_neg e]
theorem gcs_congr {V : Nat → Nat → Int} (h : ∀ i j, i < n → j < m → T i j = V i j) : gcs kd m n T = gcs kd m n V := by
  apply Array.ext_getElem?
  intro i
  rcases Nat.lt_or_ge i (n * m) with hi | hi
  · have hm : 0 < m := by rcases Nat.eq_zero_or_pos m with rfl | h0
                          · omega
                          · exact h0
    rw [gcs_at hi, gcs_at hi, h (i / m) (i % m) (by rw [Nat.div_lt_iff_lt_mul hm]; exact hi) (Nat.mod_lt _ hm)]
  · rw [gcs_none hi, gcs_none hi]

/-- The first r rows are F, the others nothing. -/
def glaid (F : Nat → Int) (r : Nat) : Nat → Nat → Int := fun i j => if i < r then F j else 0
theorem glaid_all (F : Nat → Int) : gcs kd m n (glaid F n) = gcs kd m n (fun _ j => F j) := gcs_congr fun i j hi _ => by unfold glaid; rw [if_pos hi]
theorem gcs_row (F : Nat → Int) {r : Nat} (hr : r < n) : ((gcs kd m n (glaid F r)).toList.take (r * m) ++ (rcs kd m F).toList ++ (gcs kd m n (glaid F r)).toList.drop (r * m + m)).toArray = gcs kd m n (glaid F (r + 1)) := by
  have hl : (gcs kd m n (glaid F r)).toList.length = n * m := by rw [Array.length_toList, gcs_size]
  have hrm : r * m + m ≤ n * m := by
    have h1 : (r + 1) * m ≤ n * m := Nat.mul_le_mul_right m hr
    rw [Nat.add_mul] at h1; omega
  have hr1 : (rcs kd m F).toList.length = m := by rw [Array.length_toList, rcs_size]
  have ht : ((gcs kd m n (glaid F r)).toList.take (r * m)).length = r * m := by rw [List.length_take, hl]; omega
  apply Array.ext_getElem?
  intro i
  rw [List.getElem?_toArray, List.append_assoc]
  rcases Nat.lt_or_ge i (n * m) with hi | hi
  · have hm : 0 < m := by rcases Nat.eq_zero_or_pos m with rfl | h0
                          · omega
                          · exact h0
    rw [gcs_at hi]
    rcases Nat.lt_or_ge i (r * m) with h1 | h1
    · rw [List.getElem?_append_left (by rw [ht]; exact h1), List.getElem?_take, if_pos h1, Array.getElem?_toList, gcs_at hi]
      have : i / m < r := by rw [Nat.div_lt_iff_lt_mul hm]; exact h1
      unfold glaid; rw [if_pos this, if_pos (by omega)]
    · rw [List.getElem?_append_right (by rw [ht]; exact h1), ht]
      rcases Nat.lt_or_ge (i - r * m) m with h2 | h2
      · rw [List.getElem?_append_left (by rw [hr1]; exact h2), Array.getElem?_toList, rcs_get h2]
        have e : i = r * m + (i - r * m) := by omega
        have e1 : i / m = r := by rw [e]; exact (place_div h2).1
        have e2 : i % m = i - r * m := by rw [e]; exact (place_div h2).2.trans (by omega)
        unfold glaid; rw [e1, e2, if_pos (by omega)]
      · rw [List.getElem?_append_right (by rw [hr1]; exact h2), hr1, List.getElem?_drop, Array.getElem?_toList, show r * m + m + (i - r * m - m) = i by omega, gcs_at hi]
        have : r + 1 ≤ i / m := by rw [Nat.le_div_iff_mul_le hm, Nat.add_mul]; omega
        unfold glaid; rw [if_neg (by omega), if_neg (by omega)]
  · rw [gcs_none hi]
    apply List.getElem?_eq_none
    simp only [List.length_append, List.length_drop, hl, ht, hr1]
    omega
theorem gcs_made (F : Nat → Int) : madeCells (rcs kd m fun _ => 0) (n * m) = gcs kd m n (glaid F 0) := by
  apply Array.ext_getElem?
  intro i
  rcases Nat.lt_or_ge i (n * m) with h | h
  · have hm : 0 < m := by rcases Nat.eq_zero_or_pos m with rfl | h0
                          · omega
                          · exact h0
    rw [gcs_at h]
    have hg : (rcs kd m fun _ => 0)[i % m]! = Value.int kd 0 := by
      rw [Array.getElem!_eq_getD, Array.getD_eq_getD_getElem?, rcs_get (Nat.mod_lt _ hm)]; rfl
    unfold glaid
    rw [if_neg (Nat.not_lt_zero _)]
    simp only [madeCells, rcs_size, Array.getElem?_map, Array.getElem?_range, if_pos h, Option.map_some, hg]
  · rw [gcs_none h, Array.getElem?_eq_none (by rw [size_madeCells]; exact h)]
end

end Go.Proofs.YtpknbfkknnaajaaDoor
