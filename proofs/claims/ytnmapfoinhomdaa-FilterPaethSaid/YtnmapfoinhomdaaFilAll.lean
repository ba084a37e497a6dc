/- All rows of a picture turned, and back, as plain mathematics. -/
import Derived.Test.YtnmapfoinhomdaaFilMath
namespace Go.Proofs.Ytnmapfoinhomdaa
open Go.RowKit
set_option maxRecDepth 100000

/-- Row r, and the one ahead. -/
def prtF (b : List Int) (w r : Nat) : List Int := (b.drop (r * w)).take w
def prvF (b : List Int) (w : Nat) : Nat → List Int
  | 0 => []
  | r + 1 => prtF b w r
/-- The first r rows, turned each by its best kind. -/
def apN (b : List Int) (w n : Nat) : Nat → List Int
  | 0 => []
  | r + 1 => apN b w n r ++ ([(bst (prtF b w r) (prvF b w r) n : Int)] ++ rowF (bst (prtF b w r) (prvF b w r) n : Nat) (prtF b w r) (prvF b w r) n)
def apF (b : List Int) (w n : Nat) : List Int := apN b w n (b.length / w)
/-- Row r of what is turned; the first rows turned back; the row that comes of row r - 1. -/
def rwF (x : List Int) (w r : Nat) : List Int := (x.drop (r * (w + 1) + 1)).take w
def upN (x : List Int) (w n : Nat) : Nat → List Int
  | 0 => []
  | r + 1 => unF (x.getD (r * (w + 1)) 0) (rwF x w r) (upN x w n r) n
def udN (x : List Int) (w n : Nat) : Nat → List Int
  | 0 => []
  | r + 1 => udN x w n r ++ upN x w n (r + 1)
def udF (x : List Int) (w n : Nat) : List Int := udN x w n (x.length / (w + 1))
/-- All kinds are there. -/
def kndF (x : List Int) (w : Nat) : Prop := ∀ r, r < x.length / (w + 1) → x.getD (r * (w + 1)) 0 ≤ 4

theorem prtF_length {b : List Int} {w r : Nat} (h : (r + 1) * w ≤ b.length) : (prtF b w r).length = w := by
  rw [Nat.add_mul, Nat.one_mul] at h
  rw [prtF, List.length_take, List.length_drop]
  omega
theorem prtF_byte {b : List Int} (h : B8 b) (w r : Nat) : B8 (prtF b w r) := fun x hx => h x (List.mem_of_mem_drop (List.mem_of_mem_take hx))
theorem prvF_byte {b : List Int} (h : B8 b) (w : Nat) : ∀ r, B8 (prvF b w r)
  | 0 => fun x hx => by cases hx
  | r + 1 => prtF_byte h w r
theorem row_le {a w r : Nat} (h : r < a / w) : (r + 1) * w ≤ a := by
  have := Nat.mul_le_mul_right w (show r + 1 ≤ a / w from h)
  exact Nat.le_trans this (Nat.div_mul_le_self _ _)
theorem apN_length {b : List Int} {w n : Nat} : ∀ r, r * w ≤ b.length → (apN b w n r).length = r * (w + 1)
  | 0, _ => by simp [apN]
  | r + 1, h => by
    have h2 : r * w ≤ b.length := by rw [Nat.add_mul] at h; omega
    rw [apN, List.length_append, apN_length r h2, List.length_append, rowF_length, prtF_length h, Nat.add_mul r 1 (w + 1)]
    simp
    omega
theorem apN_byte (b : List Int) (w n : Nat) : ∀ r, B8 (apN b w n r)
  | 0 => fun x hx => by cases hx
  | r + 1 => fun x hx => by
    rw [apN, List.mem_append, List.mem_append] at hx
    rcases hx with hx | hx | hx
    · exact apN_byte b w n r x hx
    · simp only [List.mem_singleton] at hx
      have := bstN_le (prtF b w r) (prvF b w r) n 4
      unfold bst at hx
      omega
    · exact rowF_byte _ _ _ _ x hx
theorem udN_byte (x : List Int) (w n : Nat) : ∀ r, B8 (udN x w n r)
  | 0 => fun x hx => by cases hx
  | r + 1 => fun y hy => by
    rw [udN, List.mem_append] at hy
    rcases hy with hy | hy
    · exact udN_byte x w n r y hy
    · exact unN_byte _ _ _ _ _ y hy
theorem upN_byte (x : List Int) (w n : Nat) : ∀ r, B8 (upN x w n r)
  | 0 => fun x hx => by cases hx
  | r + 1 => unN_byte _ _ _ _ _
theorem rwF_length {x : List Int} {w r : Nat} (h : (r + 1) * (w + 1) ≤ x.length) : (rwF x w r).length = w := by
  rw [Nat.add_mul, Nat.one_mul] at h
  rw [rwF, List.length_take, List.length_drop]
  omega
theorem rwF_byte {x : List Int} (h : B8 x) (w r : Nat) : B8 (rwF x w r) := fun y hy => h y (List.mem_of_mem_drop (List.mem_of_mem_take hy))
theorem upN_length {x : List Int} {w n : Nat} : ∀ r, 0 < r → r * (w + 1) ≤ x.length → (upN x w n r).length = w
  | r + 1, _, h => by rw [upN, unF_length, rwF_length h]
theorem upN_le {x : List Int} {w n : Nat} : ∀ r, r * (w + 1) ≤ x.length → (upN x w n r).length ≤ w
  | 0, _ => Nat.zero_le _
  | r + 1, h => Nat.le_of_eq (upN_length _ (by omega) h)
theorem udN_length {x : List Int} {w n : Nat} : ∀ r, r * (w + 1) ≤ x.length → (udN x w n r).length = r * w
  | 0, _ => by simp [udN]
  | r + 1, h => by
    have h2 : r * (w + 1) ≤ x.length := by rw [Nat.add_mul r 1 (w + 1)] at h; omega
    rw [udN, List.length_append, udN_length r h2, upN_length _ (by omega) h, Nat.succ_mul]
/-- What stands in row r. -/
theorem apN_row {b : List Int} {w n : Nat} : ∀ R r, r < R → R * w ≤ b.length →
    (apN b w n R).getD (r * (w + 1)) 0 = (bst (prtF b w r) (prvF b w r) n : Nat) ∧ rwF (apN b w n R) w r = rowF (bst (prtF b w r) (prvF b w r) n : Nat) (prtF b w r) (prvF b w r) n
  | R + 1, r, hr, h => by
    have h2 : R * w ≤ b.length := by rw [Nat.add_mul] at h; omega
    have hl := apN_length (n := n) R h2
    rcases Nat.lt_or_ge r R with h3 | h3
    · obtain ⟨e1, e2⟩ := apN_row R r h3 h2
      have h4 := Nat.mul_le_mul_right (w + 1) (show r + 1 ≤ R from h3)
      rw [Nat.add_mul r 1 (w + 1), Nat.one_mul] at h4
      refine ⟨?_, ?_⟩
      · rw [apN, getD_left (by omega), e1]
      · rw [← e2, apN, rwF, rwF, List.drop_append_of_le_length (by omega), List.take_append_of_le_length (by rw [List.length_drop]; omega)]
    · obtain rfl : r = R := by omega
      have hp := prtF_length h
      refine ⟨?_, ?_⟩
      · rw [apN]
        simp only [List.getD]
        rw [List.getElem?_append_right (by omega), hl, Nat.sub_self]
        rfl
      · rw [apN, rwF, ← List.append_assoc, List.drop_append_of_le_length (by rw [List.length_append, hl]; simp), List.drop_of_length_le (by rw [List.length_append, hl]; simp), List.nil_append, List.take_of_length_le (by rw [rowF_length, hp]; omega)]
/-- What is applied is undone. -/
theorem up_ap {b : List Int} {w n : Nat} (hn : 1 ≤ n) (h8 : B8 b) {R : Nat} (h : R * w ≤ b.length) : ∀ r, r ≤ R → upN (apN b w n R) w n r = prvF b w r
  | 0, _ => rfl
  | r + 1, hr => by
    obtain ⟨e1, e2⟩ := apN_row (n := n) R r (by omega) h
    rw [upN, e1, e2, up_ap hn h8 h r (by omega), un_row hn (prtF_byte h8 w r)]
    rfl
theorem ud_ap {b : List Int} {w n : Nat} (hn : 1 ≤ n) (h8 : B8 b) {R : Nat} (h : R * w ≤ b.length) : ∀ r, r ≤ R → udN (apN b w n R) w n r = b.take (r * w)
  | 0, _ => by simp [udN]
  | r + 1, hr => by
    rw [udN, ud_ap hn h8 h r (by omega), up_ap hn h8 h (r + 1) hr, Nat.succ_mul, List.take_add]
    rfl
theorem undo_apply {b : List Int} {w n : Nat} (hn : 1 ≤ n) (hw : 1 ≤ w) (h8 : B8 b) (hm : b.length % w = 0) : udF (apF b w n) w n = b ∧ kndF (apF b w n) w ∧ (apF b w n).length = b.length + b.length / w := by
  have hR := Nat.div_mul_le_self b.length w
  have hl : (apF b w n).length = b.length / w * (w + 1) := apN_length _ hR
  have hq : (apF b w n).length / (w + 1) = b.length / w := by rw [hl]; exact Nat.mul_div_cancel _ (by omega)
  have he : b.length / w * w = b.length := by
    have := Nat.div_add_mod b.length w
    rw [hm, Nat.mul_comm] at this
    omega
  refine ⟨?_, fun r hr => ?_, ?_⟩
  · rw [udF, hq]
    show udN (apN b w n (b.length / w)) w n (b.length / w) = b
    rw [ud_ap hn h8 hR _ (Nat.le_refl _), he, List.take_length]
  · rw [hq] at hr
    have := (apN_row (n := n) (b.length / w) r hr hR).1
    show (apN b w n (b.length / w)).getD (r * (w + 1)) 0 ≤ 4
    rw [this]
    have := bstN_le (prtF b w r) (prvF b w r) n 4
    unfold bst
    omega
  · rw [hl, Nat.mul_add, Nat.mul_one, he]

end Go.Proofs.Ytnmapfoinhomdaa
