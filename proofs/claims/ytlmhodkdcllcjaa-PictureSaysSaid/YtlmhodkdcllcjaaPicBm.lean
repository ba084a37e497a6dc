/- A bitmap that is made, as plain mathematics. -/
import Derived.Test.YtlmhodkdcllcjaaPicB
namespace Go.Proofs.Ytlmhodkdcllcjaa
open Go.RowKit
set_option maxRecDepth 100000

def bm0 : List Int := [66, 77, 0, 0, 0, 0, 0, 0, 0, 0]
def bmL (f a h d z : Nat) (px : List Int) : List Int :=
  bm0 ++ (leBytes f 4 ++ (leBytes 40 4 ++ (leBytes a 4 ++ (leBytes h 4 ++ (leBytes 1 2 ++ (leBytes d 2 ++ (List.replicate z 0 ++ px)))))))
theorem bmL_len (f a h d z : Nat) (px : List Int) : (bmL f a h d z px).length = 30 + z + px.length := by
  unfold bmL
  simp only [List.length_append, leBytes_length, List.length_replicate]
  rw [show bm0.length = 10 from rfl]
  omega
theorem bmL_byte (f a h d z : Nat) {px : List Int} (hp : ∀ x ∈ px, 0 ≤ x ∧ x < 256) : ∀ x ∈ bmL f a h d z px, 0 ≤ x ∧ x < 256 := by
  have h0 : ∀ x ∈ bm0, 0 ≤ x ∧ x < 256 := by decide
  intro x hx
  unfold bmL at hx
  simp only [List.mem_append] at hx
  rcases hx with h | h | h | h | h | h | h | h | h
  · exact h0 x h
  · exact leBytes_byte _ _ x h
  · exact leBytes_byte _ _ x h
  · exact leBytes_byte _ _ x h
  · exact leBytes_byte _ _ x h
  · exact leBytes_byte _ _ x h
  · exact leBytes_byte _ _ x h
  · have := (List.mem_replicate.1 h).2
    omega
  · exact hp x h
theorem bm_pic {f a h d z : Nat} {px : List Int} (hf : f < 4294967296) (ha : a < 4294967296) (hh : h < 4294967296) (hd : d = 24 ∨ d = 8) (hf54 : 54 ≤ f) (hz : 24 ≤ z) :
    bmpP (bmL f a h d z px) = bmpR a (amt4 h) (plnB d) f (bmL f a h d z px).length := by
  obtain ⟨l, hl⟩ : ∃ l, l = bmL f a h d z px := ⟨_, rfl⟩
  have hn := bmL_len f a h d z px
  rw [← hl] at hn ⊢
  have e10 : leAt l 10 4 = f := by
    rw [hl]; exact leAt_mid bm0 _ f rfl (by omega)
  have e14 : leAt l 14 4 = 40 := by
    rw [hl]; unfold bmL
    rw [← List.append_assoc]
    exact leAt_mid (bm0 ++ leBytes f 4) _ 40 (by simp [leBytes_length, bm0]) (by decide)
  have e18 : leAt l 18 4 = a := by
    rw [hl]; unfold bmL
    rw [← List.append_assoc, ← List.append_assoc]
    exact leAt_mid (bm0 ++ leBytes f 4 ++ leBytes 40 4) _ a (by simp [leBytes_length, bm0]) (by omega)
  have e22 : leAt l 22 4 = h := by
    rw [hl]; unfold bmL
    rw [← List.append_assoc, ← List.append_assoc, ← List.append_assoc]
    exact leAt_mid (bm0 ++ leBytes f 4 ++ leBytes 40 4 ++ leBytes a 4) _ h (by simp [leBytes_length, bm0]) (by omega)
  have e26 : leAt l 26 2 = 1 := by
    rw [hl]; unfold bmL
    rw [← List.append_assoc, ← List.append_assoc, ← List.append_assoc, ← List.append_assoc]
    exact leAt_mid (bm0 ++ leBytes f 4 ++ leBytes 40 4 ++ leBytes a 4 ++ leBytes h 4) _ 1 (by simp [leBytes_length, bm0]) (by decide)
  have e28 : leAt l 28 2 = d := by
    rw [hl]; unfold bmL
    rw [← List.append_assoc, ← List.append_assoc, ← List.append_assoc, ← List.append_assoc, ← List.append_assoc]
    exact leAt_mid (bm0 ++ leBytes f 4 ++ leBytes 40 4 ++ leBytes a 4 ++ leBytes h 4 ++ leBytes 1 2) _ d (by simp [leBytes_length, bm0]) (by omega)
  have e30 : leAt l 30 4 = 0 := by
    rw [hl]; unfold bmL
    have hr : List.replicate z (0 : Int) ++ px = leBytes 0 4 ++ (List.replicate (z - 4) 0 ++ px) := by
      rw [← List.append_assoc, show leBytes 0 4 = List.replicate 4 (0 : Int) from rfl, List.replicate_append_replicate, show 4 + (z - 4) = z by omega]
    rw [hr, ← List.append_assoc, ← List.append_assoc, ← List.append_assoc, ← List.append_assoc, ← List.append_assoc, ← List.append_assoc]
    exact leAt_mid (bm0 ++ leBytes f 4 ++ leBytes 40 4 ++ leBytes a 4 ++ leBytes h 4 ++ leBytes 1 2 ++ leBytes d 2) _ 0 (by simp [leBytes_length, bm0]) (by decide)
  have hh2 : hdB l := ⟨by omega, by rw [hl]; rfl, by rw [hl]; rfl⟩
  unfold bmpP
  rw [e10, e14, e18, e22, e26, e28, e30, if_pos ⟨hh2, hf54, by decide, rfl, hd, rfl⟩]
/-- Pixels that count up. -/
def pxs (n : Nat) : List Int := (List.range n).map fun i => ((i % 256 : Nat) : Int)
theorem pxs_len (n : Nat) : (pxs n).length = n := by simp [pxs]
theorem pxs_succ (n : Nat) : pxs (n + 1) = pxs n ++ [((n % 256 : Nat) : Int)] := by simp [pxs, List.range_succ]
theorem pxs_byte (n : Nat) : ∀ x ∈ pxs n, 0 ≤ x ∧ x < 256 := by
  intro x hx
  obtain ⟨i, _, rfl⟩ := List.mem_map.1 hx
  have := Nat.mod_lt i (show 256 > 0 by decide)
  omega

end Go.Proofs.Ytlmhodkdcllcjaa
