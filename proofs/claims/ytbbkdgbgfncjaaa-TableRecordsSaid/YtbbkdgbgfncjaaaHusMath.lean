/- What a file has around the part that is packed otherwise, as plain mathematics. -/
import Derived.Test.YtbbkdgbgfncjaaaNumText
namespace Go.Proofs.Ytbbkdgbgfncjaaa
open Go.RowKit
set_option maxRecDepth 100000

/-- A text: how long it is, and it. -/
def tx (xs : List Int) : List Int := sv xs.length ++ xs
/-- Bytes, all of them. -/
theorem all_append {p : Int → Prop} {a b : List Int} (ha : ∀ x ∈ a, p x) (hb : ∀ x ∈ b, p x) : ∀ x ∈ a ++ b, p x := fun x hx => (List.mem_append.1 hx).elim (ha x) (hb x)
theorem tx_byte {xs : List Int} (h : ∀ x ∈ xs, 0 ≤ x ∧ x < 256) : ∀ x ∈ tx xs, 0 ≤ x ∧ x < 256 := all_append (sv_byte _) h
theorem tx_le {xs : List Int} (h : xs.length < 18446744073709551616) : (tx xs).length ≤ 10 + xs.length := by
  have := sv_le10 xs.length h
  unfold tx
  rw [List.length_append]
  omega
/-- What is ahead of the samples, what is behind; a file without them. -/
def blkH (xs : List Int) (m : Nat) : List Int × Nat × Int := txt xs (nx xs 0 0).2.1 (nx xs 0 0).2.2 m
def blkT (xs : List Int) (m : Nat) : List Int × Nat × Int := txt xs (blkH xs m).2.1 (blkH xs m).2.2 m
def blkB (xs : List Int) (m : Nat) : List Int := (blkH xs m).1 ++ (List.replicate ((nx xs 0 0).1 - (blkH xs m).1.length - (blkT xs m).1.length) 0 ++ (blkT xs m).1)
def blkA (xs : List Int) (m : Nat) : Int × List Int :=
  if m < (nx xs 0 0).1 then (5, []) else if (blkT xs m).2.2 ≠ 0 then ((blkT xs m).2.2, []) else
    if (nx xs 0 0).1 < (blkH xs m).1.length + (blkT xs m).1.length then (4, []) else (0, blkB xs m)
def mst (most : Int) : Nat := (min (max most 0) 1048576).toNat
theorem mst_le (most : Int) : mst most ≤ 1048576 ∧ (mst most : Int) ≤ max most 0 := by unfold mst; omega
/-- Errors that may be. -/
def okE (e : Int) : Prop := e = 0 ∨ e = 3 ∨ e = 4
theorem nx_err (xs : List Int) (p : Nat) {e : Int} (h : okE e) (hb : ∀ x ∈ xs, 0 ≤ x ∧ x < 256) : okE (nx xs p e).2.2 := by
  unfold nx
  split
  · exact h
  · have := (rd_fits (xs.drop p) 0 0 (fun x hx => hb x (List.mem_of_mem_drop hx)) (by omega) (by simp)).2.2.2.1
    unfold okE
    simp only []
    omega
theorem tkA_err (xs : List Int) (p : Nat) {e : Int} (n : Nat) (h : okE e) : okE (tk xs p e n).2.2 := by
  unfold tk
  split
  · exact h
  split
  · exact .inl rfl
  · exact .inr (.inl rfl)
theorem txt_err (xs : List Int) (p : Nat) {e : Int} (most : Int) (h : okE e) (hb : ∀ x ∈ xs, 0 ≤ x ∧ x < 256) : okE (txt xs p e most).2.2 := by
  unfold txt
  split
  · exact .inr (.inr rfl)
  · exact tkA_err _ _ _ (nx_err xs p h hb)
theorem ok0 : okE 0 := .inl rfl
theorem ok4 : okE 4 := .inr (.inr rfl)
theorem blkB_length {xs : List Int} {m : Nat} (h : ¬ (nx xs 0 0).1 < (blkH xs m).1.length + (blkT xs m).1.length) : (blkB xs m).length = (nx xs 0 0).1 := by
  unfold blkB
  simp only [List.length_append, List.length_replicate]
  omega
theorem txt_byte (xs : List Int) (p : Nat) (e most : Int) (hb : ∀ x ∈ xs, 0 ≤ x ∧ x < 256) : ∀ x ∈ (txt xs p e most).1, 0 ≤ x ∧ x < 256 := by
  unfold txt
  split
  · simp
  · exact tk_byte _ _ _ _ hb
theorem blkB_byte {xs : List Int} {m : Nat} (hb : ∀ x ∈ xs, 0 ≤ x ∧ x < 256) : ∀ x ∈ blkB xs m, 0 ≤ x ∧ x < 256 :=
  all_append (txt_byte _ _ _ _ hb) (all_append (fun x hx => by rw [List.eq_of_mem_replicate hx]; omega) (txt_byte _ _ _ _ hb))
theorem txt_le (xs : List Int) (p : Nat) (e : Int) (m : Nat) : (txt xs p e m).1.length ≤ m := by
  unfold txt
  split
  · simp
  · rename_i h
    have := tk_len_le xs (nx xs p e).2.1 (nx xs p e).2.2 (nx xs p e).1
    simp only []
    omega
/-- What was written is read, wherever it stands. -/
theorem nx_at {xs P R : List Int} {v : Nat} (h : xs = P ++ (sv v ++ R)) (hv : v < 18446744073709551616) : nx xs P.length 0 = (v, P.length + (sv v).length, 0) := by
  unfold nx
  rw [if_neg (by simp), h, List.drop_left, rd_sv R v 0 0 (by simpa using hv) (by omega) (by omega)]
  simp
theorem txt_at {xs P R t : List Int} {most : Int} (h : xs = P ++ (tx t ++ R)) (hm : (t.length : Int) ≤ most) (hl : t.length < 18446744073709551616) : txt xs P.length 0 most = (t, P.length + (tx t).length, 0) := by
  have hn := nx_at (R := t ++ R) (v := t.length) (h.trans (by unfold tx; rw [List.append_assoc])) hl
  unfold txt
  rw [hn]
  simp only []
  rw [if_neg (by omega)]
  have hp : P.length + (sv t.length).length = (P ++ sv t.length).length := by rw [List.length_append]
  have hx : xs = (P ++ sv t.length) ++ (t ++ R) := by rw [h]; unfold tx; simp
  have htk : tk xs (P.length + (sv t.length).length) 0 t.length = (t, P.length + (sv t.length).length + t.length, 0) := by
    unfold tk
    rw [if_neg (by simp), hp, hx, if_pos (by simp only [List.length_append]; omega), List.drop_left, List.take_left]
  rw [htk]
  simp only []
  unfold tx
  rw [if_pos trivial, List.length_append, Nat.add_assoc]

theorem blkA_err (xs : List Int) (m : Nat) (hb : ∀ x ∈ xs, 0 ≤ x ∧ x < 256) : (blkA xs m).1 = 0 ∨ (blkA xs m).1 = 3 ∨ (blkA xs m).1 = 4 ∨ (blkA xs m).1 = 5 := by
  unfold blkA
  split
  · exact .inr (.inr (.inr rfl))
  split
  · rename_i h1 h2
    have := txt_err xs (blkH xs m).2.1 (e := (blkH xs m).2.2) m (txt_err _ _ _ (nx_err xs 0 ok0 hb) hb) hb
    unfold okE at this
    unfold blkT at h2 ⊢
    simp only [] at h2 ⊢
    omega
  split
  · exact .inr (.inr (.inl rfl))
  · exact .inl rfl
/-- If there is no fault. -/
theorem blkA_zero {xs : List Int} {m : Nat} (h : (blkA xs m).1 = 0) : (nx xs 0 0).1 ≤ m ∧ (blkT xs m).2.2 = 0 ∧ ¬ (nx xs 0 0).1 < (blkH xs m).1.length + (blkT xs m).1.length ∧ blkA xs m = (0, blkB xs m) := by
  unfold blkA at h ⊢
  split at h
  · cases h
  split at h
  · rename_i h1 h2; exact absurd h h2
  split at h
  · cases h
  · rename_i h1 h2 h3
    rw [if_neg h1, if_neg h2, if_neg h3]
    exact ⟨by omega, by omega, h3, rfl⟩
/-- What was written of a file is read. -/
theorem husk_at {xs hd tl G : List Int} {N m : Nat} (hx : xs = sv N ++ (tx hd ++ (tx tl ++ G))) (hN : hd.length + tl.length ≤ N) (h64 : N ≤ 1048576) :
    blkA xs m = (if N ≤ m then (0, hd ++ (List.replicate (N - hd.length - tl.length) 0 ++ tl)) else (5, [])) ∧ (N ≤ m → blkB xs m = hd ++ (List.replicate (N - hd.length - tl.length) 0 ++ tl) ∧ (blkT xs m).2.1 = (sv N ++ (tx hd ++ tx tl)).length) := by
  have hn : nx xs 0 0 = (N, (sv N).length, 0) := by
    have := nx_at (P := []) (R := tx hd ++ (tx tl ++ G)) (v := N) (xs := xs) (by rw [hx]; rfl) (by omega)
    simpa using this
  by_cases hm : N ≤ m
  · rw [if_pos hm]
    have hH : blkH xs m = (hd, (sv N).length + (tx hd).length, 0) := by
      unfold blkH
      rw [hn]
      exact txt_at (P := sv N) (R := tx tl ++ G) hx (by omega) (by omega)
    have hT : blkT xs m = (tl, (sv N).length + (tx hd).length + (tx tl).length, 0) := by
      unfold blkT
      rw [hH]
      simp only []
      have := txt_at (P := sv N ++ tx hd) (R := G) (t := tl) (xs := xs) (most := m) (by rw [hx]; simp) (by omega) (by omega)
      rwa [List.length_append] at this
    have hB : blkB xs m = hd ++ (List.replicate (N - hd.length - tl.length) 0 ++ tl) := by
      unfold blkB
      rw [hH, hT, hn]
    refine ⟨?_, fun _ => ⟨hB, ?_⟩⟩
    · rw [← hB]
      unfold blkA
      rw [hn, hH, hT]
      simp only []
      rw [if_neg (by omega), if_neg (by simp), if_neg (by omega)]
    · rw [hT]
      simp only [List.length_append]
      omega
  · rw [if_neg hm]
    refine ⟨?_, fun h => absurd h hm⟩
    unfold blkA
    rw [hn]
    simp only []
    rw [if_pos (by omega)]

end Go.Proofs.Ytbbkdgbgfncjaaa
