/- How many bytes an encoder puts out, by the chances of what it is given: a potential of the range. -/
import Derived.Test.YtpknbfkknnaajaaDoorCodMath
namespace Go.Proofs.YtpknbfkknnaajaaDoor

/-- The potential of a range of R numbers: three lines. -/
def phi (R : Nat) : Nat := max (131 * R) (max (3784 + 88 * R) (5089 + 59 * R))
/-- How likely the bit is, in 4,096ths. -/
def prob (one : Bool) (k : Nat) : Nat := if one then k else 4096 - k

theorem phi_mono {a b : Nat} (h : a ≤ b) : phi a ≤ phi b := by unfold phi; omega
theorem phi_top {R : Nat} (h : R ≤ 4294967296) : phi R ≤ phi 4294967296 := phi_mono h

/-- Narrowed by a bit a range keeps its share, but for one of 88. -/
theorem phi_nar {R R' p : Nat} (h2 : 2 ≤ R) (hp : p ≤ 4096) (h : (R - 1) * p ≤ 4096 * R') : phi R * p * 87 ≤ phi R' * (4096 * 88) := by
  have key : ∀ a b, phi R = a + b * R → a + b * R' ≤ phi R' → 88 * b ≤ phi R → phi R * p * 87 ≤ phi R' * (4096 * 88) := by
    intro a b e1 e2 e3
    have h1 : (a + b * R') * (4096 * 88) ≤ phi R' * (4096 * 88) := Nat.mul_le_mul_right _ e2
    refine Nat.le_trans ?_ h1
    obtain ⟨r, rfl⟩ : ∃ r, R = r + 1 := ⟨R - 1, by omega⟩
    rw [Nat.add_sub_cancel] at h
    have h3 : b * (r * p) ≤ b * (4096 * R') := Nat.mul_le_mul_left b h
    have h4 : 88 * b * p ≤ phi (r + 1) * p := Nat.mul_le_mul_right p e3
    have h5 : a * p ≤ a * 4096 := Nat.mul_le_mul_left a hp
    have e4 : phi (r + 1) * p = a * p + b * (r * p) + b * p := by rw [e1, Nat.mul_add, Nat.mul_one, Nat.add_mul, Nat.add_mul, Nat.mul_assoc]; omega
    have e5 : 88 * b * p = 88 * (b * p) := Nat.mul_assoc _ _ _
    have e6 : b * (4096 * R') = 4096 * (b * R') := by rw [← Nat.mul_assoc, Nat.mul_comm b 4096, Nat.mul_assoc]
    rw [e4] at h4 ⊢
    rw [e5] at h4
    rw [e6] at h3
    generalize b * R' = x at *
    generalize b * (r * p) = y at *
    generalize b * p = z at *
    generalize a * p = u at *
    omega
  have hm : phi R = 131 * R ∨ phi R = 3784 + 88 * R ∨ phi R = 5089 + 59 * R := by unfold phi; omega
  rcases hm with e | e | e
  · exact key 0 131 (by omega) (by unfold phi; omega) (by unfold phi at e ⊢; omega)
  · exact key 3784 88 (by omega) (by unfold phi; omega) (by unfold phi at e ⊢; omega)
  · exact key 5089 59 (by omega) (by unfold phi; omega) (by unfold phi at e ⊢; omega)

/-- A byte makes it 103 eighths as great. -/
theorem phi_byte {R : Nat} (h2 : 2 ≤ R) : phi R * 103 ≤ phi (256 * R) * 8 := by unfold phi; omega
theorem phi_bytes {R : Nat} (h2 : 2 ≤ R) : ∀ j, phi R * 103 ^ j ≤ phi (256 ^ j * R) * 8 ^ j
  | 0 => by simp
  | j + 1 => by
    have ih := phi_bytes h2 j
    have hR : 2 ≤ 256 ^ j * R := Nat.le_trans h2 (Nat.le_mul_of_pos_left R (Nat.pow_pos (by decide)))
    have hb := phi_byte hR
    rw [Nat.pow_succ 103, ← Nat.mul_assoc, Nat.pow_succ 8, ← Nat.mul_assoc, Nat.pow_succ 256, Nat.mul_comm (256 ^ j) 256, Nat.mul_assoc 256]
    calc phi R * 103 ^ j * 103 ≤ phi (256 ^ j * R) * 8 ^ j * 103 := Nat.mul_le_mul_right _ ih
      _ = phi (256 ^ j * R) * 103 * 8 ^ j := by rw [Nat.mul_assoc, Nat.mul_comm (8 ^ j), ← Nat.mul_assoc]
      _ ≤ phi (256 * (256 ^ j * R)) * 8 * 8 ^ j := Nat.mul_le_mul_right _ hb
      _ = phi (256 * (256 ^ j * R)) * 8 ^ j * 8 := by rw [Nat.mul_assoc, Nat.mul_comm 8, ← Nat.mul_assoc]
theorem phi_one : phi 1 * 103 ^ 4 ≤ phi 4294967296 * 8 ^ 4 := by decide +kernel

/-- What is put out, and how wide the range is behind it. -/
theorem norm_wide : ∀ (n l h : Nat), Rng l h → (norm n l h).2.2 - (norm n l h).2.1 + 1 = 256 ^ (norm n l h).1.length * (h - l + 1)
  | 0, l, h, _ => by simp [norm]
  | n + 1, l, h, hr => by
    cases hs : settledB l h with
    | false => simp [norm, hs]
    | true =>
      obtain ⟨h1, h2, _⟩ := settled_shift hr hs
      have ih := norm_wide n (shl l) (shh h) h1
      simp only [norm, hs, if_true, List.length_cons]
      rw [ih, h2, Nat.pow_succ, Nat.mul_assoc]
/-- One number alone puts out four bytes. -/
theorem norm_four (l : Nat) : (norm 5 l l).1.length = 4 := by
  have s0 : settledB l l = true := by simp [settledB]
  have s1 : settledB (shl l) (shh l) = true := by rw [settled_true]; unfold shl shh; omega
  have s2 : settledB (shl (shl l)) (shh (shh l)) = true := by rw [settled_true]; unfold shl shh; omega
  have s3 : settledB (shl (shl (shl l))) (shh (shh (shh l))) = true := by rw [settled_true]; unfold shl shh; omega
  have s4 : settledB (shl (shl (shl (shl l)))) (shh (shh (shh (shh l)))) = false := by rw [settled_false]; unfold shl shh; omega
  simp [norm, s0, s1, s2, s3, s4]

/-- A bit: what it puts out, and the potential. -/
theorem phi_enc {one : Bool} {l h k : Nat} (o : Open l h) (hk : k ≤ 4095) :
    phi (h - l + 1) * prob one k * 87 * 103 ^ (enc1 one l h k).1.length ≤ phi ((enc1 one l h k).2.2 - (enc1 one l h k).2.1 + 1) * (4096 * 88) * 8 ^ (enc1 one l h k).1.length := by
  have hr := nar_rng (one := one) o.rng o.lt hk
  have hw := norm_wide 5 _ _ hr
  have hlt := o.lt
  have hhi := o.hi
  have hnar : (h - l + 1 - 1) * prob one k ≤ 4096 * ((nar one l h k).2 - (nar one l h k).1 + 1) := by
    have hm := mid_parts (h - l) k hk (by omega)
    have hmid := mid_le o.rng.1 o.hi hk
    have hd : (h - l) * k = 4096 * ((h - l) / 4096 * k) + (h - l) % 4096 * k := by
      conv => lhs; rw [← Nat.div_add_mod (h - l) 4096]
      rw [Nat.add_mul, Nat.mul_assoc]
    rw [Nat.add_sub_cancel]
    cases one
    · show (h - l) * (4096 - k) ≤ 4096 * (h - (midN l h k + 1) + 1)
      rw [Nat.mul_sub, hd]
      have hlm := hmid.2.2 o.lt
      unfold midN at *
      omega
    · show (h - l) * k ≤ 4096 * (midN l h k - l + 1)
      rw [hd]
      unfold midN
      omega
  have h1 := phi_nar (R := h - l + 1) (p := prob one k) (by omega) (by unfold prob; split <;> omega) hnar
  have h2 : phi ((nar one l h k).2 - (nar one l h k).1 + 1) * 103 ^ (enc1 one l h k).1.length ≤ phi (256 ^ (enc1 one l h k).1.length * ((nar one l h k).2 - (nar one l h k).1 + 1)) * 8 ^ (enc1 one l h k).1.length := by
    rcases Nat.lt_or_ge ((nar one l h k).2 - (nar one l h k).1 + 1) 2 with hs | hs
    · have e : (nar one l h k).1 = (nar one l h k).2 := by have := hr.1; omega
      have h4 : (enc1 one l h k).1.length = 4 := by
        show (norm 5 (nar one l h k).1 (nar one l h k).2).1.length = 4
        rw [e]
        exact norm_four _
      rw [h4, show (nar one l h k).2 - (nar one l h k).1 + 1 = 1 by omega]
      exact phi_one
    · exact phi_bytes hs _
  rw [← show (enc1 one l h k).2.2 - (enc1 one l h k).2.1 + 1 = 256 ^ (enc1 one l h k).1.length * ((nar one l h k).2 - (nar one l h k).1 + 1) from hw] at h2
  generalize (enc1 one l h k).1.length = j at *
  calc phi (h - l + 1) * prob one k * 87 * 103 ^ j ≤ phi ((nar one l h k).2 - (nar one l h k).1 + 1) * (4096 * 88) * 103 ^ j := Nat.mul_le_mul_right _ h1
    _ = phi ((nar one l h k).2 - (nar one l h k).1 + 1) * 103 ^ j * (4096 * 88) := by rw [Nat.mul_assoc, Nat.mul_comm (4096 * 88), ← Nat.mul_assoc]
    _ ≤ phi ((enc1 one l h k).2.2 - (enc1 one l h k).2.1 + 1) * 8 ^ j * (4096 * 88) := Nat.mul_le_mul_right _ h2
    _ = phi ((enc1 one l h k).2.2 - (enc1 one l h k).2.1 + 1) * (4096 * 88) * 8 ^ j := by rw [Nat.mul_assoc, Nat.mul_comm (8 ^ j), ← Nat.mul_assoc]

/-- The chances of many bits, multiplied. -/
def probs : List (Bool × Nat) → Nat
  | [] => 1
  | (one, k) :: r => prob one k * probs r
theorem probs_app : ∀ (L M : List (Bool × Nat)), probs (L ++ M) = probs L * probs M
  | [], M => by simp [probs]
  | (one, k) :: r, M => by simp [probs, probs_app r M, Nat.mul_assoc]

/-- Many bits. -/
theorem phi_encAll : ∀ (L : List (Bool × Nat)) (l h : Nat), Open l h → (∀ x ∈ L, x.2 ≤ 4095) →
    phi (h - l + 1) * probs L * 87 ^ L.length * 103 ^ (encAll L l h).1.length ≤ phi ((encAll L l h).2.2 - (encAll L l h).2.1 + 1) * (4096 * 88) ^ L.length * 8 ^ (encAll L l h).1.length ∧ Open (encAll L l h).2.1 (encAll L l h).2.2
  | [], l, h, o, _ => by simp [probs, encAll, o]
  | (one, k) :: r, l, h, o, hk => by
    have hk0 : k ≤ 4095 := hk (one, k) (by simp)
    have h1 := phi_enc (one := one) o hk0
    obtain ⟨h2, o2⟩ := phi_encAll r _ _ (enc1_open (one := one) o hk0).1 (fun x hx => hk x (by simp [hx]))
    refine ⟨?_, o2⟩
    simp only [encAll, List.length_append, List.length_cons, probs]
    generalize (enc1 one l h k).1.length = j at *
    generalize phi ((enc1 one l h k).2.2 - (enc1 one l h k).2.1 + 1) = B at *
    generalize (encAll r (enc1 one l h k).2.1 (enc1 one l h k).2.2).1.length = i at *
    generalize phi ((encAll r (enc1 one l h k).2.1 (enc1 one l h k).2.2).2.2 - (encAll r (enc1 one l h k).2.1 (enc1 one l h k).2.2).2.1 + 1) = D at *
    generalize phi (h - l + 1) = A at *
    generalize probs r = q at *
    generalize prob one k = p at *
    generalize r.length = n at *
    rw [Nat.pow_succ 87, Nat.pow_succ (4096 * 88), Nat.pow_add 103, Nat.pow_add 8]
    calc A * (p * q) * (87 ^ n * 87) * (103 ^ j * 103 ^ i) = (A * p * 87 * 103 ^ j) * (q * 87 ^ n * 103 ^ i) := by ac_rfl
      _ ≤ (B * (4096 * 88) * 8 ^ j) * (q * 87 ^ n * 103 ^ i) := Nat.mul_le_mul_right _ h1
      _ = (B * q * 87 ^ n * 103 ^ i) * ((4096 * 88) * 8 ^ j) := by ac_rfl
      _ ≤ (D * (4096 * 88) ^ n * 8 ^ i) * ((4096 * 88) * 8 ^ j) := Nat.mul_le_mul_right _ h2
      _ = D * ((4096 * 88) ^ n * (4096 * 88)) * (8 ^ j * 8 ^ i) := by ac_rfl

/-- From the full range on: how many bytes there may be. -/
theorem enc_few (L : List (Bool × Nat)) (hk : ∀ x ∈ L, x.2 ≤ 4095) :
    probs L * 87 ^ L.length * 103 ^ (encAll L 0 4294967295).1.length ≤ (4096 * 88) ^ L.length * 8 ^ (encAll L 0 4294967295).1.length := by
  obtain ⟨h, o⟩ := phi_encAll L 0 4294967295 open_full hk
  have h1 : phi ((encAll L 0 4294967295).2.2 - (encAll L 0 4294967295).2.1 + 1) ≤ phi 4294967296 := phi_top (by have := o.hi; omega)
  have h2 : 0 < phi 4294967296 := by decide +kernel
  refine Nat.le_of_mul_le_mul_left ?_ h2
  calc phi 4294967296 * (probs L * 87 ^ L.length * 103 ^ (encAll L 0 4294967295).1.length) = phi (4294967295 - 0 + 1) * probs L * 87 ^ L.length * 103 ^ (encAll L 0 4294967295).1.length := by rw [show 4294967295 - 0 + 1 = 4294967296 from rfl]; ac_rfl
    _ ≤ _ := h
    _ ≤ phi 4294967296 * (4096 * 88) ^ L.length * 8 ^ (encAll L 0 4294967295).1.length := Nat.mul_le_mul_right _ (Nat.mul_le_mul_right _ h1)
    _ = phi 4294967296 * ((4096 * 88) ^ L.length * 8 ^ (encAll L 0 4294967295).1.length) := by rw [Nat.mul_assoc]

end Go.Proofs.YtpknbfkknnaajaaDoor
