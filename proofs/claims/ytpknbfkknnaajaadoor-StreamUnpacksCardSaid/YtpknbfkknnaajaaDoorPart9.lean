/- Texts of this proof, one behind the other: StrSmall, StrPack. -/
import Derived.Test.YtpknbfkknnaajaaDoorPart1
import Derived.Test.YtpknbfkknnaajaaDoorPart6
import Derived.Test.YtpknbfkknnaajaaDoorPart7
import Derived.Test.YtpknbfkknnaajaaDoorPart8

/- One byte, again and again, from 1,500 on: its pack has a tenth of its length at most. -/
namespace Go.Proofs.YtpknbfkknnaajaaDoor

/-- A power that is not reckoned. -/
def pw (b n : Nat) : Nat := b ^ n
theorem pw_add (b m n : Nat) : pw b (m + n) = pw b m * pw b n := Nat.pow_add b m n
theorem pw_succ (b n : Nat) : pw b (n + 1) = pw b n * b := Nat.pow_succ b n
theorem pw_mul (a b n : Nat) : pw (a * b) n = pw a n * pw b n := Nat.mul_pow a b n
theorem pw_pw (a m n : Nat) : pw (pw a m) n = pw a (m * n) := (Nat.pow_mul a m n).symm
theorem Cheap.cost_ {lv : Nat} {one : Bool} {p : Ps} (h : Cheap lv one p) : pw 4096 1498 ≤ pw 2 36 * (goes lv one 1498 p 1).1 := by
  unfold pw; exact h.cost
theorem pw_pos {b : Nat} (n : Nat) (h : 0 < b) : 0 < pw b n := Nat.pow_pos h

/-- Behind the first two steps each way is one of the families. -/
theorem way_cheap : ∀ lv, lv < 3 → ∀ one z sp, Cheap lv one (traj lv one z sp 2) := by
  have s0 : ∀ one z sp, alikeB 0 (traj 0 one z sp 2) (if one then w0o_0 else w0n_0) = true := by decide +kernel
  have s1 : ∀ one z sp, alikeB 1 (traj 1 one z sp 2) (if one then (if z then w1oz_0 else w1o_0) else (if z then w1nz_0 else w1n_0)) = true := by decide +kernel
  have s2 : ∀ one z sp, alikeB 2 (traj 2 one z sp 2) (if one then (if z then w2oz_0 else if sp then w2os_0 else w2o_0) else (if z then w2nz_0 else if sp then w2ns_0 else w2n_0)) = true := by decide +kernel
  intro lv hlv one z sp
  rcases (by omega : lv = 0 ∨ lv = 1 ∨ lv = 2) with rfl | rfl | rfl
  · have h := alike_like (s0 one z sp)
    cases one
    · exact w0n_cheap h
    · exact w0o_cheap h
  · have h := alike_like (s1 one z sp)
    cases one <;> cases z
    · exact w1n_cheap h
    · exact w1nz_cheap h
    · exact w1o_cheap h
    · exact w1oz_cheap h
  · have h := alike_like (s2 one z sp)
    cases one <;> cases z <;> cases sp
    · exact w2n_cheap h
    · exact w2ns_cheap h
    · exact w2nz_cheap h
    · exact w2nz_cheap h
    · exact w2o_cheap h
    · exact w2os_cheap h
    · exact w2oz_cheap h
    · exact w2oz_cheap h
theorem way_head : ∀ lv, lv < 3 → ∀ one z sp, 4096 ^ 2 ≤ 2 ^ 3 * (pr lv one (traj lv one z sp 0) * pr lv one (traj lv one z sp 1)) := by decide +kernel

theorem traj_goes (lv : Nat) (one z sp : Bool) : ∀ n, traj lv one z sp (2 + n) = (goes lv one n (traj lv one z sp 2) 1).2
  | 0 => rfl
  | n + 1 => by
    have h := traj_goes lv one z sp n
    have e : traj lv one z sp (2 + (n + 1)) = (traj lv one z sp (2 + n)).learn lv one := by
      show ((traj lv one z sp (2 + n)).learn lv one).fix z sp (2 + n) = _
      unfold Ps.fix
      rw [if_neg (show ¬ 2 + n = 0 by omega), if_neg (show ¬ 2 + n = 1 by omega)]
      split <;> rfl
    rw [e, h, goes_add]
    rfl

/-- The product of the chances of one place's bits. -/
def PR (lv : Nat) (one z sp : Bool) : Nat → Nat
  | 0 => 1
  | n + 1 => PR lv one z sp n * pr lv one (traj lv one z sp n)
theorem PR_goes (lv : Nat) (one z sp : Bool) : ∀ n, PR lv one z sp (2 + n) = pr lv one (traj lv one z sp 0) * pr lv one (traj lv one z sp 1) * (goes lv one n (traj lv one z sp 2) 1).1
  | 0 => by simp [PR, goes]
  | n + 1 => by
    have h := PR_goes lv one z sp n
    show PR lv one z sp (2 + n) * pr lv one (traj lv one z sp (2 + n)) = _
    rw [h, traj_goes, goes_add 1 n, Nat.mul_assoc]
    rfl
theorem PR_cheap {lv : Nat} (hlv : lv < 3) (one z sp : Bool) : pw 4096 1500 ≤ pw 2 39 * PR lv one z sp 1500 := by
  have h1 : pw 4096 2 ≤ pw 2 3 * (pr lv one (traj lv one z sp 0) * pr lv one (traj lv one z sp 1)) := way_head lv hlv one z sp
  have h2 : pw 4096 1498 ≤ pw 2 36 * (goes lv one 1498 (traj lv one z sp 2) 1).1 := (way_cheap lv hlv one z sp).cost_
  have h3 : PR lv one z sp 1500 = _ := PR_goes lv one z sp 1498
  rw [h3]
  generalize (goes lv one 1498 (traj lv one z sp 2) 1).1 = A at *
  generalize pr lv one (traj lv one z sp 0) * pr lv one (traj lv one z sp 1) = B at *
  have e1 : pw 4096 1500 = pw 4096 2 * pw 4096 1498 := pw_add 4096 2 1498
  have e2 : pw 2 39 = pw 2 3 * pw 2 36 := pw_add 2 3 36
  rw [e1, e2]
  generalize pw 4096 2 = x1 at *
  generalize pw 4096 1498 = x2 at *
  generalize pw 2 3 = x3 at *
  generalize pw 2 36 = x4 at *
  calc x1 * x2 ≤ (x3 * B) * (x4 * A) := Nat.mul_le_mul h1 h2
    _ = x3 * x4 * (B * A) := by ac_rfl
theorem PR_tail {lv : Nat} (hlv : lv < 3) (one z sp : Bool) : ∀ r, pw 4096 1500 * pw 4093 r ≤ pw 2 39 * PR lv one z sp (1500 + r)
  | 0 => by
    have := PR_cheap hlv one z sp
    rw [show pw 4093 0 = 1 from rfl, Nat.mul_one]
    exact this
  | r + 1 => by
    have ih := PR_tail hlv one z sp r
    have ht := (way_cheap lv hlv one z sp).tail r
    have e := traj_goes lv one z sp (1498 + r)
    rw [← e, show 2 + (1498 + r) = 1500 + r by omega] at ht
    show pw 4096 1500 * pw 4093 (r + 1) ≤ pw 2 39 * (PR lv one z sp (1500 + r) * pr lv one (traj lv one z sp (1500 + r)))
    rw [pw_succ 4093 r]
    generalize pw 4096 1500 = x1 at *
    generalize pw 2 39 = x2 at *
    rw [← Nat.mul_assoc, ← Nat.mul_assoc]
    exact Nat.mul_le_mul ih ht

/-- What is encoded of a byte that comes again and again: the first t bits, each with its chance. -/
def again (lv c : Nat) : Nat → List (Bool × Nat)
  | 0 => []
  | t + 1 => again lv c t ++ [(bit c (t % 8), ((run lv c t).chance lv).toNat)]
theorem again_len (lv c : Nat) : ∀ t, (again lv c t).length = t
  | 0 => rfl
  | t + 1 => by rw [again, List.length_append, again_len lv c t]; rfl

/-- The product of the first n of a kind. -/
def prods (f : Nat → Nat) : Nat → Nat
  | 0 => 1
  | n + 1 => prods f n * f n
theorem prods_le {f g : Nat → Nat} (h : ∀ i, f i ≤ g i) : ∀ n, prods f n ≤ prods g n
  | 0 => Nat.le_refl _
  | n + 1 => Nat.mul_le_mul (prods_le h n) (h n)
theorem prods_const (x : Nat) : ∀ n, prods (fun _ => x) n = x ^ n
  | 0 => rfl
  | n + 1 => by rw [prods, prods_const x n, Nat.pow_succ]
theorem prods_mul (f g : Nat → Nat) : ∀ n, prods (fun i => f i * g i) n = prods f n * prods g n
  | 0 => rfl
  | n + 1 => by simp only [prods]; rw [prods_mul f g n]; ac_rfl

/-- One place's chance, and one bit's. -/
def pb (lv c j i : Nat) : Nat := pr lv (bit c j) (way lv c j i)
theorem pr_prob {lv c t : Nat} (hc : c < 256) (hlv : lv ≤ 2) (hb : 1 ≤ (run lv c t).chance lv ∧ (run lv c t).chance lv ≤ 4095) : prob (bit c (t % 8)) ((run lv c t).chance lv).toNat = pb lv c (t % 8) (t / 8) := by
  unfold prob pb pr
  rw [← run_chance hc hlv t]
  split <;> omega
theorem PR_prods (lv c j : Nat) : ∀ n, PR lv (bit c j) (Nat.beq c 0) (spec c j) n = prods (fun i => pb lv c j i) n
  | 0 => rfl
  | n + 1 => by rw [PR, prods, PR_prods lv c j n]; rfl
theorem again_probs {lv c : Nat} (hc : c < 256) (hlv : lv ≤ 2) (hb : ∀ t, 1 ≤ (run lv c t).chance lv ∧ (run lv c t).chance lv ≤ 4095) : ∀ t, probs (again lv c t) = prods (fun t => pb lv c (t % 8) (t / 8)) t
  | 0 => rfl
  | t + 1 => by
    rw [again, probs_app, again_probs hc hlv hb t, prods]
    simp only [probs, Nat.mul_one]
    rw [pr_prob hc hlv (hb t)]
/-- Eight at a time. -/
theorem prods_eight (f : Nat → Nat → Nat) : ∀ n, prods (fun t => f (t % 8) (t / 8)) (8 * n) = prods (fun i => f 0 i) n * prods (fun i => f 1 i) n * prods (fun i => f 2 i) n * prods (fun i => f 3 i) n * (prods (fun i => f 4 i) n * prods (fun i => f 5 i) n * prods (fun i => f 6 i) n * prods (fun i => f 7 i) n)
  | 0 => rfl
  | n + 1 => by
    have ih := prods_eight f n
    rw [show 8 * (n + 1) = 8 * n + 1 + 1 + 1 + 1 + 1 + 1 + 1 + 1 by omega]
    simp only [prods]
    rw [ih]
    have e : ∀ k, k < 8 → (8 * n + k) % 8 = k ∧ (8 * n + k) / 8 = n := fun k hk => by omega
    rw [show 8 * n + 1 + 1 + 1 + 1 + 1 + 1 + 1 = 8 * n + 7 by omega, show 8 * n + 1 + 1 + 1 + 1 + 1 + 1 = 8 * n + 6 by omega, show 8 * n + 1 + 1 + 1 + 1 + 1 = 8 * n + 5 by omega, show 8 * n + 1 + 1 + 1 + 1 = 8 * n + 4 by omega, show 8 * n + 1 + 1 + 1 = 8 * n + 3 by omega, show 8 * n + 1 + 1 = 8 * n + 2 by omega]
    rw [(e 7 (by omega)).1, (e 7 (by omega)).2, (e 6 (by omega)).1, (e 6 (by omega)).2, (e 5 (by omega)).1, (e 5 (by omega)).2, (e 4 (by omega)).1, (e 4 (by omega)).2, (e 3 (by omega)).1, (e 3 (by omega)).2, (e 2 (by omega)).1, (e 2 (by omega)).2, (e 1 (by omega)).1, (e 1 (by omega)).2, show 8 * n % 8 = 0 by omega, show 8 * n / 8 = n by omega]
    ac_rfl

theorem eight_mul {a b : Nat} {p : Nat → Nat} (h : ∀ j, a ≤ b * p j) : pw a 8 ≤ pw b 8 * (p 0 * p 1 * p 2 * p 3 * (p 4 * p 5 * p 6 * p 7)) := by
  have h01 := Nat.mul_le_mul (h 0) (h 1)
  have h23 := Nat.mul_le_mul (h 2) (h 3)
  have h45 := Nat.mul_le_mul (h 4) (h 5)
  have h67 := Nat.mul_le_mul (h 6) (h 7)
  have := Nat.mul_le_mul (Nat.mul_le_mul h01 h23) (Nat.mul_le_mul h45 h67)
  calc pw a 8 = a * a * (a * a) * (a * a * (a * a)) := by simp only [pw]; simp only [Nat.pow_succ, Nat.pow_zero, Nat.one_mul]; ac_rfl
    _ ≤ _ := this
    _ = pw b 8 * (p 0 * p 1 * p 2 * p 3 * (p 4 * p 5 * p 6 * p 7)) := by simp only [pw]; simp only [Nat.pow_succ, Nat.pow_zero, Nat.one_mul]; ac_rfl

/-- The chances of 1,500 bytes and r, together. -/
theorem again_cheap {lv c : Nat} (hc : c < 256) (hlv : lv ≤ 2) (hb : ∀ t, 1 ≤ (run lv c t).chance lv ∧ (run lv c t).chance lv ≤ 4095) (r : Nat) : pw (pw 4096 1500 * pw 4093 r) 8 ≤ pw (pw 2 39) 8 * probs (again lv c (8 * (1500 + r))) := by
  rw [again_probs hc hlv hb, prods_eight (fun j i => pb lv c j i)]
  refine eight_mul (p := fun j => prods (fun i => pb lv c j i) (1500 + r)) fun j => ?_
  have := PR_tail (lv := lv) (by omega) (bit c j) (Nat.beq c 0) (spec c j) r
  rw [PR_prods] at this
  exact this

theorem num_head : 4 * pw 88 12000 * pw 8 147 * pw 2 312 < pw 87 12000 * pw 103 147 := by decide +kernel
theorem num_ten : pw (4096 * 88) 80 * 8 ≤ pw (87 * 4093) 80 * 103 := by decide +kernel
theorem num_rest : ∀ s, s < 10 → pw (4096 * 88) (8 * s) ≤ pw (87 * 4093) (8 * s) * 4 := by decide +kernel
theorem num_tens (s : Nat) (hs : s < 10) : ∀ q, pw (4096 * 88) (8 * (10 * q + s)) * pw 8 q ≤ pw (87 * 4093) (8 * (10 * q + s)) * pw 103 q * 4
  | 0 => by
    have := num_rest s hs
    rw [show pw 8 0 = 1 from rfl, show pw 103 0 = 1 from rfl, Nat.mul_one, Nat.mul_one, Nat.mul_zero, Nat.zero_add]
    exact this
  | q + 1 => by
    have ih := num_tens s hs q
    have e : 8 * (10 * (q + 1) + s) = 8 * (10 * q + s) + 80 := by omega
    have nt := num_ten
    rw [e, pw_add, pw_add (87 * 4093), pw_succ 8, pw_succ 103]
    generalize pw (4096 * 88) (8 * (10 * q + s)) = y1 at *
    generalize pw (87 * 4093) (8 * (10 * q + s)) = y2 at *
    generalize pw (4096 * 88) 80 = y3 at *
    generalize pw (87 * 4093) 80 = y4 at *
    have := Nat.mul_le_mul ih nt
    calc y1 * y3 * (pw 8 q * 8) = y1 * pw 8 q * (y3 * 8) := by ac_rfl
      _ ≤ _ := this
      _ = y2 * y4 * (pw 103 q * 103) * 4 := by ac_rfl

theorem put_together {P x y u v g gq gm k w z e eq em : Nat} (hf : P * (u * v) * (g * gq * gm) ≤ x * w * z * (e * eq * em)) (ha : x * y ≤ k * P) (hm : em ≤ gm) (h0 : 0 < x * gm) :
    u * g * (v * y * gq) ≤ w * e * k * (z * eq) := by
  refine Nat.le_of_mul_le_mul_left ?_ h0
  calc x * gm * (u * g * (v * y * gq)) = x * y * (u * v * (g * gq * gm)) := by ac_rfl
    _ ≤ k * P * (u * v * (g * gq * gm)) := Nat.mul_le_mul_right _ ha
    _ = k * (P * (u * v) * (g * gq * gm)) := by ac_rfl
    _ ≤ k * (x * w * z * (e * eq * em)) := Nat.mul_le_mul_left _ hf
    _ = k * x * w * z * e * eq * em := by ac_rfl
    _ ≤ k * x * w * z * e * eq * gm := Nat.mul_le_mul_left _ hm
    _ = x * gm * (w * e * k * (z * eq)) := by ac_rfl

/-- So few bytes are put out. -/
theorem again_small {lv c : Nat} (hc : c < 256) (hlv : lv ≤ 2) (hb : ∀ t, 1 ≤ (run lv c t).chance lv ∧ (run lv c t).chance lv ≤ 4095) (r : Nat) : 10 * ((encAll (again lv c (8 * (1500 + r))) 0 4294967295).1.length + 4) ≤ 1500 + r := by
  have hk : ∀ t, ∀ x ∈ again lv c t, x.2 ≤ 4095 := by
    intro t
    induction t with
    | zero => intro x hx; cases hx
    | succ t ih =>
      intro x hx
      rw [again, List.mem_append] at hx
      rcases hx with hx | hx
      · exact ih x hx
      · simp only [List.mem_cons, List.not_mem_nil, or_false] at hx
        subst hx
        have := hb t
        show ((run lv c t).chance lv).toNat ≤ 4095
        omega
  have hf := enc_few _ (hk (8 * (1500 + r)))
  have ha := again_cheap hc hlv hb r
  rw [again_len] at hf
  generalize probs (again lv c (8 * (1500 + r))) = P at *
  generalize (encAll (again lv c (8 * (1500 + r))) 0 4294967295).1.length = N at *
  refine Nat.le_of_not_lt fun hgt => ?_
  obtain ⟨q, s, hs, rfl⟩ : ∃ q s, s < 10 ∧ r = 10 * q + s := ⟨r / 10, r % 10, by omega, by omega⟩
  obtain ⟨m, rfl⟩ : ∃ m, N = 147 + q + m := ⟨N - (147 + q), by omega⟩
  have ht := num_tens s hs q
  have hh := num_head
  have hmm : pw 8 m ≤ pw 103 m := Nat.pow_le_pow_left (by omega) m
  generalize 10 * q + s = R at *
  have hf : P * pw 87 (8 * (1500 + R)) * pw 103 (147 + q + m) ≤ pw (4096 * 88) (8 * (1500 + R)) * pw 8 (147 + q + m) := hf
  have e1 : ∀ b, pw b (8 * (1500 + R)) = pw b 12000 * pw b (8 * R) := fun b => by rw [← pw_add]; congr 1; omega
  have e2 : pw (4096 * 88) 12000 = pw 4096 12000 * pw 88 12000 := pw_mul _ _ _
  have e3 : pw (87 * 4093) (8 * R) = pw 87 (8 * R) * pw 4093 (8 * R) := pw_mul _ _ _
  have e4 : pw (pw 4096 1500 * pw 4093 R) 8 = pw 4096 12000 * pw 4093 (8 * R) := by
    rw [pw_mul, pw_pw, pw_pw, Nat.mul_comm R 8]
  have e5 : pw (pw 2 39) 8 = pw 2 312 := pw_pw 2 39 8
  rw [e1, e1 (4096 * 88), e2, pw_add 103, pw_add 103, pw_add 8, pw_add 8] at hf
  rw [e4, e5] at ha
  rw [e3] at ht
  have h0 : 0 < pw 4096 12000 * pw 103 m := Nat.mul_pos (pw_pos _ (by omega)) (pw_pos _ (by omega))
  have h4 : 0 < pw 87 (8 * R) * pw 4093 (8 * R) * pw 103 q * 4 := Nat.mul_pos (Nat.mul_pos (Nat.mul_pos (pw_pos _ (by omega)) (pw_pos _ (by omega))) (pw_pos _ (by omega))) (by omega)
  generalize pw 4096 12000 = a0 at *
  generalize pw 4093 (8 * R) = a1 at *
  generalize pw (4096 * 88) (8 * R) = a2 at *
  generalize pw 87 12000 = a3 at *
  generalize pw 88 12000 = a4 at *
  generalize pw 103 147 = a5 at *
  generalize pw 8 147 = a6 at *
  generalize pw 2 312 = a7 at *
  generalize pw 87 (8 * R) = a8 at *
  generalize pw 103 q = b1 at *
  generalize pw 8 q = b2 at *
  generalize pw 103 m = b3 at *
  generalize pw 8 m = b4 at *
  have hp := put_together hf ha hmm h0
  have key : a3 * a5 * (a8 * a1 * b1 * 4) ≤ 4 * a4 * a6 * a7 * (a2 * b2) := by
    calc a3 * a5 * (a8 * a1 * b1 * 4) = 4 * (a3 * a5 * (a8 * a1 * b1)) := by ac_rfl
      _ ≤ 4 * (a4 * a6 * a7 * (a2 * b2)) := Nat.mul_le_mul_left _ hp
      _ = 4 * a4 * a6 * a7 * (a2 * b2) := by ac_rfl
  have h1 := Nat.lt_of_lt_of_le (Nat.mul_lt_mul_of_pos_right hh h4) key
  have h2 := Nat.mul_le_mul_left (4 * a4 * a6 * a7) ht
  exact absurd (Nat.lt_of_lt_of_le h1 h2) (Nat.lt_irrefl _)

end Go.Proofs.YtpknbfkknnaajaaDoor

/- What a pack is, and that it is unpacked: plain mathematics. -/
namespace Go.Proofs.YtpknbfkknnaajaaDoor

/-- The model behind bits. -/
def mos (lv : Nat) : List Bool → Mo → Mo
  | [], m => m
  | one :: r, m => mos lv r (m.learn lv one)
theorem mos_snoc (lv : Nat) (one : Bool) : ∀ (L : List Bool) (m : Mo), mos lv (L ++ [one]) m = (mos lv L m).learn lv one
  | [], _ => rfl
  | _ :: r, _ => mos_snoc lv one r _
theorem mos_fine (lv : Nat) : ∀ (L : List Bool) {m : Mo}, m.Fine → (mos lv L m).Fine
  | [], _, h => h
  | one :: r, _, h => mos_fine lv r (h.learn lv one)
theorem mos_app (lv : Nat) (M : List Bool) : ∀ (L : List Bool) (m : Mo), mos lv (L ++ M) m = mos lv M (mos lv L m)
  | [], _ => rfl
  | _ :: r, _ => mos_app lv M r _

/-- Bits, each with its chance. -/
def pairs (lv : Nat) : List Bool → Mo → List (Bool × Nat)
  | [], _ => []
  | one :: r, m => (one, (m.chance lv).toNat) :: pairs lv r (m.learn lv one)
theorem pairs_snoc (lv : Nat) (one : Bool) : ∀ (L : List Bool) (m : Mo), pairs lv (L ++ [one]) m = pairs lv L m ++ [(one, ((mos lv L m).chance lv).toNat)]
  | [], _ => rfl
  | o :: r, m => by
    show (o, _) :: pairs lv (r ++ [one]) _ = (o, _) :: (pairs lv r _ ++ [_])
    rw [pairs_snoc lv one r]
    rfl
theorem mo_chance_bd {m : Mo} (h : m.Fine) (lv : Nat) : 1 ≤ m.chance lv ∧ m.chance lv ≤ 4095 := by
  unfold Mo.chance Ps.chance
  split
  · have := ch_bd (h.a m.part)
    show (1 : Int) ≤ ((ch (m.A m.part) : Nat) : Int) ∧ ((ch (m.A m.part) : Nat) : Int) ≤ 4095
    omega
  · have h1 : 1 ≤ m.now.t lv ∧ m.now.t lv ≤ 4095 := tl_bd _ _
    have h2 : 1 ≤ rd m.now.T (sx (m.now.t lv)) ∧ rd m.now.T (sx (m.now.t lv)) ≤ 4095 := rd_bd (h.t _) _
    omega
theorem mo_chance_nat {m : Mo} (h : m.Fine) (lv : Nat) : (((m.chance lv).toNat : Nat) : Int) = m.chance lv ∧ 1 ≤ (m.chance lv).toNat ∧ (m.chance lv).toNat ≤ 4095 := by
  have := mo_chance_bd h lv
  omega
theorem pairs_bd (lv : Nat) : ∀ (L : List Bool) {m : Mo}, m.Fine → ∀ x ∈ pairs lv L m, x.2 ≤ 4095
  | [], _, _ => fun x hx => by cases hx
  | one :: r, m, h => fun x hx => by
    rcases List.mem_cons.1 hx with rfl | hx
    · exact (mo_chance_nat h lv).2.2
    · exact pairs_bd lv r (h.learn lv one) x hx

/-- The encoder behind bits: what is put out, and the range. -/
def encS (lv : Nat) (L : List Bool) : List Int × Nat × Nat := encAll (pairs lv L mo0) 0 4294967295
/-- The chance of the next bit. -/
def kS (lv : Nat) (L : List Bool) : Nat := ((mos lv L mo0).chance lv).toNat
theorem kS_bd (lv : Nat) (L : List Bool) : 1 ≤ kS lv L ∧ kS lv L ≤ 4095 := (mo_chance_nat (mos_fine lv L mo0_fine) lv).2
theorem encS_nil (lv : Nat) : encS lv [] = ([], 0, 4294967295) := rfl
theorem encS_snoc (lv : Nat) (L : List Bool) (one : Bool) : encS lv (L ++ [one]) = ((encS lv L).1 ++ (enc1 one (encS lv L).2.1 (encS lv L).2.2 (kS lv L)).1, (enc1 one (encS lv L).2.1 (encS lv L).2.2 (kS lv L)).2) := by
  unfold encS
  rw [pairs_snoc, encAll_snoc]
  rfl
theorem encS_open (lv : Nat) (L : List Bool) : Open (encS lv L).2.1 (encS lv L).2.2 := (phi_encAll _ 0 4294967295 open_full (pairs_bd lv L mo0_fine)).2
theorem encAll_bytes : ∀ (L : List (Bool × Nat)) (l h : Nat), Open l h → (∀ x ∈ L, x.2 ≤ 4095) → ∀ x ∈ (encAll L l h).1, 0 ≤ x ∧ x < 256
  | [], _, _, _, _ => fun x hx => by cases hx
  | (one, k) :: r, l, h, o, hk => fun x hx => by
    have hk0 : k ≤ 4095 := hk (one, k) (by simp)
    simp only [encAll, List.mem_append] at hx
    rcases hx with hx | hx
    · exact enc1_bytes o hk0 x hx
    · exact encAll_bytes r _ _ (enc1_open (one := one) o hk0).1 (fun y hy => hk y (by simp [hy])) x hx
/-- How long it is. -/
theorem encAll_len : ∀ (L : List (Bool × Nat)) (l h : Nat), Open l h → (∀ x ∈ L, x.2 ≤ 4095) → (encAll L l h).1.length ≤ 4 * L.length
  | [], _, _, _, _ => by simp [encAll]
  | (one, k) :: r, l, h, o, hk => by
    have hk0 : k ≤ 4095 := hk (one, k) (by simp)
    have h1 := enc1_open (one := one) o hk0
    have h2 := encAll_len r _ _ h1.1 (fun y hy => hk y (by simp [hy]))
    simp only [encAll, List.length_append, List.length_cons]
    have := h1.2
    omega
theorem pairs_len (lv : Nat) : ∀ (L : List Bool) (m : Mo), (pairs lv L m).length = L.length
  | [], _ => rfl
  | _ :: r, m => by simp [pairs, pairs_len lv r]

/-- The pack of bits. -/
def packB (lv : Nat) (L : List Bool) : List Int := (encS lv L).1 ++ fourB (encS lv L).2.1
theorem packB_bytes (lv : Nat) (L : List Bool) : ∀ x ∈ packB lv L, 0 ≤ x ∧ x < 256 := fun x hx => by
  rcases List.mem_append.1 hx with hx | hx
  · exact encAll_bytes _ _ _ open_full (pairs_bd lv L mo0_fine) x hx
  · exact fourB_bytes _ x hx
theorem packB_len (lv : Nat) (L : List Bool) : (packB lv L).length = (encS lv L).1.length + 4 := by simp [packB, fourB]
theorem packB_most (lv : Nat) (L : List Bool) : (packB lv L).length ≤ 4 * L.length + 4 := by
  have := encAll_len _ 0 4294967295 open_full (pairs_bd lv L mo0_fine)
  rw [pairs_len] at this
  rw [packB_len]
  have h : (encS lv L).1.length ≤ 4 * L.length := this
  omega

/-- The bits of a byte, the highest first, and of bytes. -/
def bb (x : Nat) : List Bool := (List.range 8).map (bit x)
theorem bb_len (x : Nat) : (bb x).length = 8 := by simp [bb]
theorem bb_take (x : Nat) {j : Nat} (h : j < 8) : (bb x).take (j + 1) = (bb x).take j ++ [bit x j] := by
  unfold bb
  rw [← List.map_take, ← List.map_take, List.take_range, List.take_range, Nat.min_eq_left (by omega), Nat.min_eq_left (by omega), List.range_succ, List.map_append]
  rfl
theorem bb_all (x : Nat) : (bb x).take 8 = bb x := List.take_of_length_le (by rw [bb_len]; omega)
def bbs : List Int → List Bool
  | [] => []
  | x :: r => bb x.toNat ++ bbs r
theorem bbs_app (x : Int) : ∀ xs : List Int, bbs (xs ++ [x]) = bbs xs ++ bb x.toNat
  | [] => by simp [bbs]
  | y :: r => by simp [bbs, bbs_app x r]
theorem bbs_len : ∀ xs : List Int, (bbs xs).length = 8 * xs.length
  | [] => rfl
  | x :: r => by simp [bbs, bb_len, bbs_len r]; omega

/-- The byte that bits are. -/
def ofB : Nat → List Bool → Nat
  | a, [] => a
  | a, one :: r => ofB (a * 2 + one.toNat) r
theorem ofB_snoc (one : Bool) : ∀ (L : List Bool) (a : Nat), ofB a (L ++ [one]) = ofB a L * 2 + one.toNat
  | [], _ => rfl
  | _ :: r, _ => ofB_snoc one r _
theorem ofB_bb {x : Nat} (h : x < 256) : ofB 0 (bb x) = x := by
  have e : ∀ x, x < 256 → Nat.beq (ofB 0 (bb x)) x = true := by decide +kernel
  exact Nat.eq_of_beq_eq_true (e x h)

/-- A byte again and again. -/
theorem again_pairs {lv c : Nat} : ∀ t, pairs lv ((List.range t).map fun i => bit c (i % 8)) mo0 = again lv c t ∧ mos lv ((List.range t).map fun i => bit c (i % 8)) mo0 = run lv c t
  | 0 => ⟨rfl, rfl⟩
  | t + 1 => by
    obtain ⟨h1, h2⟩ := again_pairs (lv := lv) (c := c) t
    rw [List.range_succ, List.map_append]
    show pairs lv (_ ++ [bit c (t % 8)]) mo0 = _ ∧ mos lv (_ ++ [bit c (t % 8)]) mo0 = _
    rw [pairs_snoc, mos_snoc, h1, h2]
    exact ⟨rfl, rfl⟩
theorem bbs_again (c : Nat) : ∀ n, bbs (List.replicate n (c : Int)) = (List.range (8 * n)).map fun i => bit c (i % 8)
  | 0 => rfl
  | n + 1 => by
    rw [List.replicate_succ', bbs_app, bbs_again c n, show 8 * (n + 1) = 8 * n + 8 by omega, List.range_add, List.map_append]
    congr 1
    unfold bb
    rw [List.map_map]
    apply List.map_congr_left
    intro j hj
    have := List.mem_range.1 hj
    show bit ((c : Int).toNat) j = bit c ((8 * n + j) % 8)
    rw [show (8 * n + j) % 8 = j by omega]
    rfl
/-- One byte, again and again, from 1,500 on, is packed to a tenth at most. -/
theorem packB_small {lv c : Nat} (hc : c < 256) (hlv : lv ≤ 2) {n : Nat} (hn : 1500 ≤ n) : 10 * (packB lv (bbs (List.replicate n (c : Int)))).length ≤ n := by
  obtain ⟨r, rfl⟩ : ∃ r, n = 1500 + r := ⟨n - 1500, by omega⟩
  have h := again_small hc hlv (fun t => by
    have e := (again_pairs (lv := lv) (c := c) t).2
    rw [← e]
    exact mo_chance_bd (mos_fine lv _ mo0_fine) lv) r
  rw [packB_len]
  unfold encS
  rw [bbs_again, (again_pairs (lv := lv) (c := c) _).1]
  exact h

/-- The decoder behind bits. -/
structure DS where
  l : Nat
  h : Nat
  p : Nat
  L : List Bool
def DS.one (s : DS) (lv : Nat) (F : List Int) : Bool := decBit F s.l s.h (kS lv s.L) s.p
def DS.by_ (s : DS) (one : Bool) (e : List Int × Nat × Nat) : DS := ⟨e.2.1, e.2.2, s.p + e.1.length, s.L ++ [one]⟩
theorem DS.by_L (s : DS) (one : Bool) (e : List Int × Nat × Nat) : (s.by_ one e).L = s.L ++ [one] := rfl
theorem DS.by_l (s : DS) (one : Bool) (e : List Int × Nat × Nat) : (s.by_ one e).l = e.2.1 := rfl
theorem DS.by_h (s : DS) (one : Bool) (e : List Int × Nat × Nat) : (s.by_ one e).h = e.2.2 := rfl
theorem DS.by_p (s : DS) (one : Bool) (e : List Int × Nat × Nat) : (s.by_ one e).p = s.p + e.1.length := rfl
def DS.step (s : DS) (lv : Nat) (F : List Int) : DS := s.by_ (s.one lv F) (enc1 (s.one lv F) s.l s.h (kS lv s.L))
def decT (lv : Nat) (F : List Int) : Nat → DS
  | 0 => ⟨0, 4294967295, 0, []⟩
  | t + 1 => (decT lv F t).step lv F
theorem decT_succ (lv : Nat) (F : List Int) (t : Nat) : decT lv F (t + 1) = (decT lv F t).step lv F := by rw [decT]
theorem decT_len (lv : Nat) (F : List Int) : ∀ t, (decT lv F t).L.length = t
  | 0 => by rw [decT]; rfl
  | t + 1 => by
    rw [decT_succ, DS.step, DS.by_L, List.length_append, decT_len lv F t]
    rfl
/-- Its range is the encoder's of the bits that it has told. -/
structure DS.Enc (s : DS) (lv : Nat) : Prop where
  l : s.l = (encS lv s.L).2.1
  h : s.h = (encS lv s.L).2.2
  p : s.p = (encS lv s.L).1.length
theorem DS.Enc.by_ {s : DS} {lv : Nat} (hp : s.p = (encS lv s.L).1.length) (one : Bool) (e : List Int × Nat × Nat) (h : encS lv (s.L ++ [one]) = ((encS lv s.L).1 ++ e.1, e.2)) : (s.by_ one e).Enc lv := by
  generalize encS lv s.L = A at *
  refine ⟨?_, ?_, ?_⟩
  · rw [DS.by_L, DS.by_l, h]
  · rw [DS.by_L, DS.by_h, h]
  · rw [DS.by_L, DS.by_p, h, List.length_append, hp]
theorem DS.Enc.step {s : DS} {lv : Nat} (e : s.Enc lv) (F : List Int) : (s.step lv F).Enc lv := by
  have hs := encS_snoc lv s.L (s.one lv F)
  rw [← e.l, ← e.h] at hs
  rw [DS.step]
  exact DS.Enc.by_ e.p _ _ hs
theorem decT_enc (lv : Nat) (F : List Int) : ∀ t, (decT lv F t).Enc lv
  | 0 => by
    rw [decT]
    exact ⟨by rw [encS_nil], by rw [encS_nil], by rw [encS_nil]; rfl⟩
  | t + 1 => by
    rw [decT_succ]
    exact (decT_enc lv F t).step F
theorem DS.Enc.range {s : DS} {lv : Nat} (e : s.Enc lv) : Open s.l s.h := by
  rw [e.l, e.h]; exact encS_open lv _

/-- What is left of the bytes is what the bits to come are encoded to. -/
def DS.Rest (s : DS) (lv : Nat) (F : List Int) (N : List Bool) : Prop :=
  F.drop s.p = (encAll (pairs lv N (mos lv s.L mo0)) s.l s.h).1 ++ fourB (encAll (pairs lv N (mos lv s.L mo0)) s.l s.h).2.1
theorem pairs_cons (lv : Nat) (one : Bool) (r : List Bool) (m : Mo) : pairs lv (one :: r) m = (one, (m.chance lv).toNat) :: pairs lv r (m.learn lv one) := rfl

/-- What is packed is unpacked: a step. -/
theorem step_pack {lv : Nat} {F : List Int} (hF : ∀ x ∈ F, 0 ≤ x ∧ x < 256) {s : DS} (e : s.Enc lv) {one : Bool} {r : List Bool} (hd : s.Rest lv F (one :: r)) :
    s.one lv F = one ∧ (s.step lv F).Rest lv F r := by
  unfold DS.Rest at hd
  rw [pairs_cons] at hd
  have hb := enc_bit F hF one (kS lv s.L) (pairs lv r ((mos lv s.L mo0).learn lv one)) s.l s.h s.p e.range (by
    intro x hx
    rcases List.mem_cons.1 hx with rfl | hx
    · exact (kS_bd lv _).2
    · exact pairs_bd lv _ ((mos_fine lv _ mo0_fine).learn lv _) x hx) hd
  have h1 : s.one lv F = one := hb.1
  refine ⟨h1, ?_⟩
  have h2 := hb.2
  unfold DS.Rest DS.step
  rw [h1, DS.by_L, DS.by_l, DS.by_h, DS.by_p, mos_snoc]
  exact h2
theorem dec_pack (lv : Nat) (F : List Int) (hF : ∀ x ∈ F, 0 ≤ x ∧ x < 256) (L : List Bool) : ∀ (N M : List Bool), L = M ++ N → (decT lv F M.length).L = M → (decT lv F M.length).Rest lv F N → (decT lv F L.length).L = L
  | [], M, hL, hM, _ => by
    rw [List.append_nil] at hL
    rw [hL]
    exact hM
  | one :: r, M, hL, hM, hd => by
    obtain ⟨h1, h2⟩ := step_pack hF (decT_enc lv F M.length) hd
    have hlen : (M ++ [one]).length = M.length + 1 := by rw [List.length_append]; rfl
    refine dec_pack lv F hF L r (M ++ [one]) (by rw [hL, List.append_assoc]; rfl) ?_ ?_
    · rw [hlen, decT_succ, DS.step, DS.by_L, hM, h1]
    · rw [hlen, decT_succ]
      exact h2
theorem dec_pack_all (lv : Nat) (L : List Bool) : (decT lv (packB lv L) L.length).L = L := by
  refine dec_pack lv _ (packB_bytes lv L) L L [] rfl ?_ ?_
  · rw [List.length_nil, decT]
  · rw [List.length_nil, decT]
    unfold DS.Rest
    rw [List.drop_zero]
    rfl

end Go.Proofs.YtpknbfkknnaajaaDoor
