/- Texts of this proof, one behind the other: CodMath, StrMath. -/
import Derived.WalkKit

/- Plain mathematics of the coder: the range, what is put out, and what follows. -/
namespace Go.Proofs.YtpknbfkknnaajaaDoor

/-- The chance that counts. -/
def cc (c : Int) : Nat := (max (min c 4095) 1).toNat
theorem cc_bd (c : Int) : 1 ≤ cc c ∧ cc c ≤ 4095 := by unfold cc; omega
theorem cc_eq (c : Int) : ((cc c : Nat) : Int) = max (min c 4095) 1 := by unfold cc; omega
theorem cc_eq2 (c : Int) : min (max c 1) 4095 = ((cc c : Nat) : Int) := by unfold cc; omega
theorem cc_eq3 (c : Int) : max 1 (min c 4095) = ((cc c : Nat) : Int) := by unfold cc; omega

/-- The mid of a range. -/
def midN (l h k : Nat) : Nat := l + (h - l) / 4096 * k + (h - l) % 4096 * k / 4096

theorem mid_parts (d k : Nat) (hk : k ≤ 4095) (hd : d < 4294967296) : d / 4096 * k ≤ 4293918720 ∧ d % 4096 * k ≤ 16769025 ∧ d / 4096 * k + d % 4096 * k / 4096 ≤ d ∧ (0 < d → d / 4096 * k + d % 4096 * k / 4096 < d) := by
  have h1 : d / 4096 * k ≤ d / 4096 * 4095 := Nat.mul_le_mul_left _ hk
  have h2 : d % 4096 * k ≤ d % 4096 * 4095 := Nat.mul_le_mul_left _ hk
  omega

theorem mid_le {l h k : Nat} (hl : l ≤ h) (hh : h < 4294967296) (hk : k ≤ 4095) : l ≤ midN l h k ∧ midN l h k ≤ h ∧ (l < h → midN l h k < h) := by
  have := mid_parts (h - l) k hk (by omega)
  unfold midN
  omega

/-- May a byte be put out? -/
def settledB (l h : Nat) : Bool := decide (l / 16777216 = h / 16777216)
theorem settled_true {l h : Nat} : settledB l h = true ↔ l / 16777216 = h / 16777216 := by simp [settledB]
theorem settled_false {l h : Nat} : settledB l h = false ↔ l / 16777216 ≠ h / 16777216 := by simp [settledB]

/-- Behind a byte. -/
def shl (l : Nat) : Nat := l * 256 % 4294967296
def shh (h : Nat) : Nat := (h * 256 + 255) % 4294967296

/-- All bytes that can be put out, and the range behind them. -/
def norm : Nat → Nat → Nat → List Int × Nat × Nat
  | 0, l, h => ([], l, h)
  | n + 1, l, h => if settledB l h then (((l / 16777216 : Nat) : Int) :: (norm n (shl l) (shh h)).1, (norm n (shl l) (shh h)).2) else ([], l, h)

/-- A range that may be. -/
def Rng (l h : Nat) : Prop := l ≤ h ∧ h < 4294967296

theorem settled_shift {l h : Nat} (hr : Rng l h) (hs : settledB l h = true) : Rng (shl l) (shh h) ∧ shh h - shl l + 1 = 256 * (h - l + 1) ∧ h - l + 1 ≤ 16777216 := by
  have := settled_true.1 hs
  obtain ⟨h1, h2⟩ := hr
  unfold Rng shl shh
  omega

/-- A loop's invariant: j bytes bs were put out; the rest is what the range puts out. -/
structure Going (l0 h0 : Nat) (j : Nat) (bs : List Int) (l h : Nat) : Prop where
  le : j ≤ 4
  rng : Rng l h
  wide : 256 ^ j ≤ h - l + 1
  len : bs.length = j
  same : norm 5 l0 h0 = (bs ++ (norm (5 - j) l h).1, (norm (5 - j) l h).2)

theorem Going.start {l h : Nat} (hr : Rng l h) : Going l h 0 [] l h := ⟨by omega, hr, by simp, rfl, by simp⟩
theorem Going.next {l0 h0 j : Nat} {bs : List Int} {l h : Nat} (g : Going l0 h0 j bs l h) (hs : settledB l h = true) : j ≤ 3 ∧ Going l0 h0 (j + 1) (bs ++ [((l / 16777216 : Nat) : Int)]) (shl l) (shh h) := by
  obtain ⟨h1, h2, h3⟩ := settled_shift g.rng hs
  have hw := g.wide
  have hj : j ≤ 3 := by
    rcases Nat.lt_or_ge 3 j with h | h
    · have e : j = 4 := by have := g.le; omega
      subst e
      omega
    · exact h
  refine ⟨hj, ⟨by omega, h1, by rw [h2, Nat.pow_succ]; omega, by simp [g.len], ?_⟩⟩
  have e := g.same
  obtain ⟨m, hm⟩ : ∃ m, 5 - j = m + 1 := ⟨4 - j, by omega⟩
  rw [hm] at e
  rw [show 5 - (j + 1) = m from by omega, e]
  simp only [norm, hs, if_true, List.append_assoc, List.cons_append, List.nil_append]
theorem Going.done {l0 h0 j : Nat} {bs : List Int} {l h : Nat} (g : Going l0 h0 j bs l h) (hs : settledB l h = false) : norm 5 l0 h0 = (bs, l, h) := by
  have e := g.same
  obtain ⟨m, hm⟩ : ∃ m, 5 - j = m + 1 := ⟨4 - j, by have := g.le; omega⟩
  rw [hm] at e
  rw [e]
  simp [norm, hs]

theorem going_end {l0 h0 : Nat} (hr : Rng l0 h0) : ∃ j bs l h, Going l0 h0 j bs l h ∧ settledB l h = false := by
  have : ∀ m j bs l h, m + j = 4 → Going l0 h0 j bs l h → ∃ j bs l h, Going l0 h0 j bs l h ∧ settledB l h = false := by
    intro m
    induction m with
    | zero =>
      intro j bs l h hm g
      cases hs : settledB l h with
      | false => exact ⟨j, bs, l, h, g, hs⟩
      | true => have := (g.next hs).1; omega
    | succ m ih =>
      intro j bs l h hm g
      cases hs : settledB l h with
      | false => exact ⟨j, bs, l, h, g, hs⟩
      | true => exact ih (j + 1) _ _ _ (by omega) (g.next hs).2
  exact this 4 0 [] l0 h0 rfl (Going.start hr)

/-- What is put out: how long it is, that it is bytes, and what range is left. -/
theorem norm_facts {l0 h0 : Nat} (hr : Rng l0 h0) : (norm 5 l0 h0).1.length ≤ 4 ∧ Rng (norm 5 l0 h0).2.1 (norm 5 l0 h0).2.2 ∧ (norm 5 l0 h0).2.1 < (norm 5 l0 h0).2.2 := by
  obtain ⟨j, bs, l, h, g, hs⟩ := going_end hr
  rw [g.done hs]
  refine ⟨by have := g.len; have := g.le; show bs.length ≤ 4; omega, g.rng, ?_⟩
  have := settled_false.1 hs
  have := g.rng.1
  show l < h
  omega

theorem norm_bytes : ∀ (n l h : Nat), Rng l h → ∀ x ∈ (norm n l h).1, 0 ≤ x ∧ x < 256
  | 0, _, _, _ => by simp [norm]
  | n + 1, l, h, hr => by
    cases hs : settledB l h with
    | false => simp [norm, hs]
    | true =>
      have ih := norm_bytes n (shl l) (shh h) (settled_shift hr hs).1
      intro x hx
      simp only [norm, hs, if_true, List.mem_cons] at hx
      rcases hx with rfl | hx
      · have := hr.1; have := hr.2; omega
      · exact ih x hx

/-- Narrowed by a bit. -/
def nar (one : Bool) (l h k : Nat) : Nat × Nat := if one then (l, midN l h k) else (midN l h k + 1, h)
theorem nar_rng {one : Bool} {l h k : Nat} (hr : Rng l h) (hlt : l < h) (hk : k ≤ 4095) : Rng (nar one l h k).1 (nar one l h k).2 := by
  have := mid_le hr.1 hr.2 hk
  have := hr.2
  cases one <;> simp [nar, Rng] <;> omega

/-- A bit, encoded: the bytes, and the range. -/
def enc1 (one : Bool) (l h k : Nat) : List Int × Nat × Nat := norm 5 (nar one l h k).1 (nar one l h k).2

/-- A range between two calls. -/
structure Open (l h : Nat) : Prop where
  lt : l < h
  hi : h < 4294967296
theorem Open.rng {l h : Nat} (o : Open l h) : Rng l h := ⟨by have := o.lt; omega, o.hi⟩
theorem open_full : Open 0 4294967295 := ⟨by omega, by omega⟩
theorem enc1_open {one : Bool} {l h k : Nat} (o : Open l h) (hk : k ≤ 4095) : Open (enc1 one l h k).2.1 (enc1 one l h k).2.2 ∧ (enc1 one l h k).1.length ≤ 4 := by
  have := norm_facts (nar_rng (one := one) o.rng o.lt hk)
  exact ⟨⟨this.2.2, this.2.1.2⟩, this.1⟩
theorem enc1_bytes {one : Bool} {l h k : Nat} (o : Open l h) (hk : k ≤ 4095) : ∀ x ∈ (enc1 one l h k).1, 0 ≤ x ∧ x < 256 := norm_bytes 5 _ _ (nar_rng o.rng o.lt hk)

/-- The four bytes of a number. -/
def fourB (l : Nat) : List Int := [((l / 16777216 % 256 : Nat) : Int), ((l / 65536 % 256 : Nat) : Int), ((l / 256 % 256 : Nat) : Int), ((l % 256 : Nat) : Int)]
theorem fourB_bytes (l : Nat) : ∀ x ∈ fourB l, 0 ≤ x ∧ x < 256 := by
  intro x hx
  simp only [fourB, List.mem_cons, List.not_mem_nil, or_false] at hx
  omega

/-- Many bits, each with its chance. -/
def encAll : List (Bool × Nat) → Nat → Nat → List Int × Nat × Nat
  | [], l, h => ([], l, h)
  | (one, k) :: r, l, h =>
    let s := enc1 one l h k
    let t := encAll r s.2.1 s.2.2
    (s.1 ++ t.1, t.2)

theorem encAll_snoc (one : Bool) (k : Nat) : ∀ (L : List (Bool × Nat)) (l h : Nat),
    encAll (L ++ [(one, k)]) l h = ((encAll L l h).1 ++ (enc1 one (encAll L l h).2.1 (encAll L l h).2.2 k).1, (enc1 one (encAll L l h).2.1 (encAll L l h).2.2 k).2)
  | [], l, h => by simp [encAll]
  | (o, c) :: r, l, h => by
    simp only [List.cons_append, encAll, encAll_snoc one k r, List.append_assoc]

/-- The 32 bits of bytes from p on; those that are not there are 0. -/
def win (bs : List Int) (p : Nat) : Nat := (bs.getD p 0).toNat * 16777216 + (bs.getD (p + 1) 0).toNat * 65536 + (bs.getD (p + 2) 0).toNat * 256 + (bs.getD (p + 3) 0).toNat

theorem byte_getD {bs : List Int} (hb : ∀ x ∈ bs, 0 ≤ x ∧ x < 256) (p : Nat) : 0 ≤ bs.getD p 0 ∧ bs.getD p 0 < 256 := by
  rcases Nat.lt_or_ge p bs.length with h | h
  · have := hb (bs[p]) (List.getElem_mem h)
    simpa [List.getD, h] using this
  · simp [List.getD, h]

theorem win_lt {bs : List Int} (hb : ∀ x ∈ bs, 0 ≤ x ∧ x < 256) (p : Nat) : win bs p < 4294967296 := by
  have h0 := byte_getD hb p
  have h1 := byte_getD hb (p + 1)
  have h2 := byte_getD hb (p + 2)
  have h3 := byte_getD hb (p + 3)
  unfold win
  omega

theorem win_next {bs : List Int} (hb : ∀ x ∈ bs, 0 ≤ x ∧ x < 256) (p : Nat) : win bs (p + 1) = win bs p * 256 % 4294967296 + (bs.getD (p + 4) 0).toNat := by
  have h0 := byte_getD hb p
  have h1 := byte_getD hb (p + 1)
  have h2 := byte_getD hb (p + 2)
  have h3 := byte_getD hb (p + 3)
  have h4 := byte_getD hb (p + 4)
  unfold win
  rw [show p + 1 + 1 = p + 2 from rfl, show p + 1 + 2 = p + 3 from rfl, show p + 1 + 3 = p + 4 from rfl]
  omega

theorem win_head {bs : List Int} (hb : ∀ x ∈ bs, 0 ≤ x ∧ x < 256) (p : Nat) : win bs p = (bs.getD p 0).toNat * 16777216 + win bs (p + 1) / 256 := by
  have h0 := byte_getD hb p
  have h1 := byte_getD hb (p + 1)
  have h2 := byte_getD hb (p + 2)
  have h3 := byte_getD hb (p + 3)
  have h4 := byte_getD hb (p + 4)
  unfold win
  rw [show p + 1 + 1 = p + 2 from rfl, show p + 1 + 2 = p + 3 from rfl, show p + 1 + 3 = p + 4 from rfl]
  omega

/-- If the code behind the bytes that were put out lies in the range that is left, the code ahead of them lay in the range. -/
theorem norm_back {F : List Int} (hF : ∀ x ∈ F, 0 ≤ x ∧ x < 256) : ∀ (n l h p : Nat), Rng l h → (∀ i, i < (norm n l h).1.length → F.getD (p + i) 0 = (norm n l h).1.getD i 0) →
    (norm n l h).2.1 ≤ win F (p + (norm n l h).1.length) ∧ win F (p + (norm n l h).1.length) ≤ (norm n l h).2.2 → l ≤ win F p ∧ win F p ≤ h
  | 0, l, h, p, _, _, hw => by simpa [norm] using hw
  | n + 1, l, h, p, hr, hb, hw => by
    cases hs : settledB l h with
    | false => simpa [norm, hs] using hw
    | true =>
      obtain ⟨h1, h2, h3⟩ := settled_shift hr hs
      simp only [norm, hs, if_true, List.length_cons] at hb hw
      have ih := norm_back hF n (shl l) (shh h) (p + 1) h1 (fun i hi => by
        have := hb (i + 1) (by omega)
        rw [show p + (i + 1) = p + 1 + i from by omega] at this
        simpa using this) (by rw [show p + 1 + (norm n (shl l) (shh h)).1.length = p + ((norm n (shl l) (shh h)).1.length + 1) from by omega]; exact hw)
      have h0 := hb 0 (by omega)
      simp only [Nat.add_zero, List.getD_cons_zero] at h0
      have hh := win_head hF p
      rw [h0] at hh
      have he := settled_true.1 hs
      have h4 := hr.1
      have h5 := hr.2
      unfold shl shh at ih
      omega

/-- A bit, decoded: is it a one? -/
def decBit (bs : List Int) (l h k p : Nat) : Bool := decide (win bs p ≤ midN l h k)

theorem nar_back {one : Bool} {l h k : Nat} {c : Nat} (o : Open l h) (hk : k ≤ 4095) (hc : (nar one l h k).1 ≤ c ∧ c ≤ (nar one l h k).2) : decide (c ≤ midN l h k) = one ∧ l ≤ c ∧ c ≤ h := by
  have := mid_le o.rng.1 o.hi hk
  cases one
  · simp [nar] at hc; simp; omega
  · simp [nar] at hc; simp; omega

/-- What was encoded is decoded: at each bit the code lies in the range, and is read as that bit. -/
theorem enc_back (F : List Int) (hF : ∀ x ∈ F, 0 ≤ x ∧ x < 256) : ∀ (L : List (Bool × Nat)) (l h p : Nat), Open l h → (∀ x ∈ L, x.2 ≤ 4095) →
    F.drop p = (encAll L l h).1 ++ fourB (encAll L l h).2.1 → l ≤ win F p ∧ win F p ≤ h
  | [], l, h, p, o, _, hd => by
    have e : ∀ i, F.getD (p + i) 0 = (fourB l).getD i 0 := by
      intro i
      have : (F.drop p).getD i 0 = (fourB l).getD i 0 := by rw [hd]; simp [encAll]
      simpa [List.getD, List.getElem?_drop] using this
    have e0 := e 0
    have e1 := e 1
    have e2 := e 2
    have e3 := e 3
    simp [fourB] at e0 e1 e2 e3
    have hl := o.lt
    have hh := o.hi
    unfold win
    simp only [List.getD_eq_getElem?_getD]
    rw [e0, e1, e2, e3]
    omega
  | (one, k) :: r, l, h, p, o, hk, hd => by
    have hk0 : k ≤ 4095 := hk (one, k) (by simp)
    obtain ⟨o', _⟩ := enc1_open (one := one) o hk0
    simp only [encAll] at hd
    have hd' : F.drop p = (enc1 one l h k).1 ++ ((encAll r (enc1 one l h k).2.1 (enc1 one l h k).2.2).1 ++ fourB (encAll r (enc1 one l h k).2.1 (enc1 one l h k).2.2).2.1) := by rw [hd, List.append_assoc]
    have ih := enc_back F hF r _ _ (p + (enc1 one l h k).1.length) o' (fun x hx => hk x (by simp [hx])) (by
      rw [← List.drop_drop, hd', List.drop_left'  rfl])
    have hb := norm_back hF 5 (nar one l h k).1 (nar one l h k).2 p (nar_rng o.rng o.lt hk0) (fun i hi => by
      have : (F.drop p).getD i 0 = (norm 5 (nar one l h k).1 (nar one l h k).2).1.getD i 0 := by
        rw [hd']
        show ((norm 5 (nar one l h k).1 (nar one l h k).2).1 ++ _).getD i 0 = _
        simp [List.getD, List.getElem?_append_left hi]
      simpa [List.getD, List.getElem?_drop] using this) ih
    exact (nar_back o hk0 hb).2

/-- .. and is that bit. -/
theorem enc_bit (F : List Int) (hF : ∀ x ∈ F, 0 ≤ x ∧ x < 256) (one : Bool) (k : Nat) (r : List (Bool × Nat)) (l h p : Nat) (o : Open l h) (hk : ∀ x ∈ (one, k) :: r, x.2 ≤ 4095)
    (hd : F.drop p = (encAll ((one, k) :: r) l h).1 ++ fourB (encAll ((one, k) :: r) l h).2.1) :
    decBit F l h k p = one ∧ F.drop (p + (enc1 one l h k).1.length) = (encAll r (enc1 one l h k).2.1 (enc1 one l h k).2.2).1 ++ fourB (encAll r (enc1 one l h k).2.1 (enc1 one l h k).2.2).2.1 := by
  have hk0 : k ≤ 4095 := hk (one, k) (by simp)
  obtain ⟨o', _⟩ := enc1_open (one := one) o hk0
  simp only [encAll] at hd
  have hd' : F.drop p = (enc1 one l h k).1 ++ ((encAll r (enc1 one l h k).2.1 (enc1 one l h k).2.2).1 ++ fourB (encAll r (enc1 one l h k).2.1 (enc1 one l h k).2.2).2.1) := by rw [hd, List.append_assoc]
  have hdr : F.drop (p + (enc1 one l h k).1.length) = (encAll r (enc1 one l h k).2.1 (enc1 one l h k).2.2).1 ++ fourB (encAll r (enc1 one l h k).2.1 (enc1 one l h k).2.2).2.1 := by
    rw [← List.drop_drop, hd', List.drop_left' rfl]
  have ih := enc_back F hF r _ _ (p + (enc1 one l h k).1.length) o' (fun x hx => hk x (by simp [hx])) hdr
  have hb := norm_back hF 5 (nar one l h k).1 (nar one l h k).2 p (nar_rng o.rng o.lt hk0) (fun i hi => by
    have : (F.drop p).getD i 0 = (norm 5 (nar one l h k).1 (nar one l h k).2).1.getD i 0 := by
      rw [hd']
      show ((norm 5 (nar one l h k).1 (nar one l h k).2).1 ++ _).getD i 0 = _
      simp [List.getD, List.getElem?_append_left hi]
    simpa [List.getD, List.getElem?_drop] using this) ih
  exact ⟨(nar_back o hk0 hb).1, hdr⟩

/-- Ones of chance 4,095 from the full range on: no byte is put out for the first 20,000. -/
def fall (h : Nat) : Nat := h - (h + 4095) / 4096
def falls : Nat → Nat → Nat
  | 0, h => h
  | n + 1, h => fall (falls n h)
theorem fall_mono {a b : Nat} (h : a ≤ b) : fall a ≤ fall b := by unfold fall; omega
theorem falls_mono {a b : Nat} (h : a ≤ b) : ∀ n, falls n a ≤ falls n b
  | 0 => h
  | n + 1 => fall_mono (falls_mono h n)
theorem falls_add (m : Nat) (h : Nat) : ∀ n, falls (n + m) h = falls n (falls m h)
  | 0 => by simp [falls]
  | n + 1 => by rw [show n + 1 + m = n + m + 1 from by omega]; simp only [falls]; rw [falls_add m h n]
theorem falls_le (h : Nat) : ∀ n, falls n h ≤ h
  | 0 => Nat.le_refl _
  | n + 1 => by have := falls_le h n; simp only [falls]; unfold fall; omega
theorem falls_less (h : Nat) : ∀ n, h ≤ falls n h + n * ((h + 4095) / 4096)
  | 0 => by simp [falls]
  | n + 1 => by
    have h1 := falls_less h n
    have h2 := falls_le h n
    have h3 : (falls n h + 4095) / 4096 ≤ (h + 4095) / 4096 := Nat.div_le_div_right (by omega)
    simp only [falls]
    unfold fall
    rw [Nat.add_mul]
    omega
def chunk (h : Nat) : Nat := h - 256 * ((h + 4095) / 4096)
def chunks : Nat → Nat → Nat
  | 0, h => h
  | n + 1, h => chunk (chunks n h)
theorem falls_chunk (h : Nat) : ∀ n, chunks n h ≤ falls (256 * n) h
  | 0 => Nat.le_refl _
  | n + 1 => by
    have ih := falls_chunk h n
    have h1 := falls_less (chunks n h) 256
    have h2 := falls_mono ih 256
    rw [show 256 * (n + 1) = 256 + 256 * n from by omega, falls_add]
    simp only [chunks]
    unfold chunk
    omega
theorem chunks_end : 16777216 ≤ chunks 79 4294967295 := by decide +kernel
theorem falls_end {n : Nat} (h : n ≤ 20000) : 16777216 ≤ falls n 4294967295 := by
  have h1 := falls_chunk 4294967295 79
  have h2 := falls_le (falls n 4294967295) (256 * 79 - n)
  rw [← falls_add, show 256 * 79 - n + n = 256 * 79 from by omega] at h2
  have := chunks_end
  omega
theorem falls_hi (n : Nat) : falls n 4294967295 < 4294967296 := by have := falls_le 4294967295 n; omega
theorem mid_fall (h : Nat) : midN 0 h 4095 = fall h := by unfold midN fall; omega
/-- One more of them. -/
theorem enc1_fall {n : Nat} (h : n < 20000) : enc1 true 0 (falls n 4294967295) 4095 = ([], 0, falls (n + 1) 4294967295) := by
  have h1 := falls_end (n := n + 1) (by omega)
  have h2 := falls_hi (n + 1)
  have hs : settledB 0 (falls (n + 1) 4294967295) = false := by rw [settled_false]; omega
  unfold enc1
  simp only [nar, if_true, mid_fall]
  show norm 5 0 (falls (n + 1) 4294967295) = _
  simp only [norm, hs]
  rfl

end Go.Proofs.YtpknbfkknnaajaaDoor

/- How many bytes an encoder puts out, by the chances of what it is given: a potential of the range. -/
namespace Go.Proofs.YtpknbfkknnaajaaDoor

/-- The potential of a range of R numbers: three lines. -/
def phi (R : Nat) : Nat := max (131 * R) (max (3784 + 88 * R) (5089 + 59 * R))
/-- How likely the bit is, in 4,096ths. -/
def prob (one : Bool) (k : Nat) : Nat := if one then k else 4096 - k

theorem phi_mono {a b : Nat} (h : a ≤ b) : phi a ≤ phi b := by unfold phi; omega
theorem phi_top {R : Nat} (h : R ≤ 4294967296) : phi R ≤ phi 4294967296 := phi_mono h

/-- Narrowed by a bit a range keeps its share, but for one of 88. -/
theorem phi_nar {R R' p : Nat} (h2 : 2 ≤ R) (hp : p ≤ 4096) (h : (R - 1) * p ≤ 4096 * R') : phi R * p * 87 ≤ phi R' * (4096 * 88) := by
  have key : ∀ a b, phi R = a + b * R → a + b * R' ≤ phi R' → 88 * b ≤ phi R → phi R * p * 87 ≤ phi R' * (4096 * 88) := by
    intro a b e1 e2 e3
    have h1 : (a + b * R') * (4096 * 88) ≤ phi R' * (4096 * 88) := Nat.mul_le_mul_right _ e2
    refine Nat.le_trans ?_ h1
    obtain ⟨r, rfl⟩ : ∃ r, R = r + 1 := ⟨R - 1, by omega⟩
    rw [Nat.add_sub_cancel] at h
    have h3 : b * (r * p) ≤ b * (4096 * R') := Nat.mul_le_mul_left b h
    have h4 : 88 * b * p ≤ phi (r + 1) * p := Nat.mul_le_mul_right p e3
    have h5 : a * p ≤ a * 4096 := Nat.mul_le_mul_left a hp
    have e4 : phi (r + 1) * p = a * p + b * (r * p) + b * p := by rw [e1, Nat.mul_add, Nat.mul_one, Nat.add_mul, Nat.add_mul, Nat.mul_assoc]; omega
    have e5 : 88 * b * p = 88 * (b * p) := Nat.mul_assoc _ _ _
    have e6 : b * (4096 * R') = 4096 * (b * R') := by rw [← Nat.mul_assoc, Nat.mul_comm b 4096, Nat.mul_assoc]
    rw [e4] at h4 ⊢
    rw [e5] at h4
    rw [e6] at h3
    generalize b * R' = x at *
    generalize b * (r * p) = y at *
    generalize b * p = z at *
    generalize a * p = u at *
    omega
  have hm : phi R = 131 * R ∨ phi R = 3784 + 88 * R ∨ phi R = 5089 + 59 * R := by unfold phi; omega
  rcases hm with e | e | e
  · exact key 0 131 (by omega) (by unfold phi; omega) (by unfold phi at e ⊢; omega)
  · exact key 3784 88 (by omega) (by unfold phi; omega) (by unfold phi at e ⊢; omega)
  · exact key 5089 59 (by omega) (by unfold phi; omega) (by unfold phi at e ⊢; omega)

/-- A byte makes it 103 eighths as great. -/
theorem phi_byte {R : Nat} (h2 : 2 ≤ R) : phi R * 103 ≤ phi (256 * R) * 8 := by unfold phi; omega
theorem phi_bytes {R : Nat} (h2 : 2 ≤ R) : ∀ j, phi R * 103 ^ j ≤ phi (256 ^ j * R) * 8 ^ j
  | 0 => by simp
  | j + 1 => by
    have ih := phi_bytes h2 j
    have hR : 2 ≤ 256 ^ j * R := Nat.le_trans h2 (Nat.le_mul_of_pos_left R (Nat.pow_pos (by decide)))
    have hb := phi_byte hR
    rw [Nat.pow_succ 103, ← Nat.mul_assoc, Nat.pow_succ 8, ← Nat.mul_assoc, Nat.pow_succ 256, Nat.mul_comm (256 ^ j) 256, Nat.mul_assoc 256]
    calc phi R * 103 ^ j * 103 ≤ phi (256 ^ j * R) * 8 ^ j * 103 := Nat.mul_le_mul_right _ ih
      _ = phi (256 ^ j * R) * 103 * 8 ^ j := by rw [Nat.mul_assoc, Nat.mul_comm (8 ^ j), ← Nat.mul_assoc]
      _ ≤ phi (256 * (256 ^ j * R)) * 8 * 8 ^ j := Nat.mul_le_mul_right _ hb
      _ = phi (256 * (256 ^ j * R)) * 8 ^ j * 8 := by rw [Nat.mul_assoc, Nat.mul_comm 8, ← Nat.mul_assoc]
theorem phi_one : phi 1 * 103 ^ 4 ≤ phi 4294967296 * 8 ^ 4 := by decide +kernel

/-- What is put out, and how wide the range is behind it. -/
theorem norm_wide : ∀ (n l h : Nat), Rng l h → (norm n l h).2.2 - (norm n l h).2.1 + 1 = 256 ^ (norm n l h).1.length * (h - l + 1)
  | 0, l, h, _ => by simp [norm]
  | n + 1, l, h, hr => by
    cases hs : settledB l h with
    | false => simp [norm, hs]
    | true =>
      obtain ⟨h1, h2, _⟩ := settled_shift hr hs
      have ih := norm_wide n (shl l) (shh h) h1
      simp only [norm, hs, if_true, List.length_cons]
      rw [ih, h2, Nat.pow_succ, Nat.mul_assoc]
/-- One number alone puts out four bytes. -/
theorem norm_four (l : Nat) : (norm 5 l l).1.length = 4 := by
  have s0 : settledB l l = true := by simp [settledB]
  have s1 : settledB (shl l) (shh l) = true := by rw [settled_true]; unfold shl shh; omega
  have s2 : settledB (shl (shl l)) (shh (shh l)) = true := by rw [settled_true]; unfold shl shh; omega
  have s3 : settledB (shl (shl (shl l))) (shh (shh (shh l))) = true := by rw [settled_true]; unfold shl shh; omega
  have s4 : settledB (shl (shl (shl (shl l)))) (shh (shh (shh (shh l)))) = false := by rw [settled_false]; unfold shl shh; omega
  simp [norm, s0, s1, s2, s3, s4]

/-- A bit: what it puts out, and the potential. -/
theorem phi_enc {one : Bool} {l h k : Nat} (o : Open l h) (hk : k ≤ 4095) :
    phi (h - l + 1) * prob one k * 87 * 103 ^ (enc1 one l h k).1.length ≤ phi ((enc1 one l h k).2.2 - (enc1 one l h k).2.1 + 1) * (4096 * 88) * 8 ^ (enc1 one l h k).1.length := by
  have hr := nar_rng (one := one) o.rng o.lt hk
  have hw := norm_wide 5 _ _ hr
  have hlt := o.lt
  have hhi := o.hi
  have hnar : (h - l + 1 - 1) * prob one k ≤ 4096 * ((nar one l h k).2 - (nar one l h k).1 + 1) := by
    have hm := mid_parts (h - l) k hk (by omega)
    have hmid := mid_le o.rng.1 o.hi hk
    have hd : (h - l) * k = 4096 * ((h - l) / 4096 * k) + (h - l) % 4096 * k := by
      conv => lhs; rw [← Nat.div_add_mod (h - l) 4096]
      rw [Nat.add_mul, Nat.mul_assoc]
    rw [Nat.add_sub_cancel]
    cases one
    · show (h - l) * (4096 - k) ≤ 4096 * (h - (midN l h k + 1) + 1)
      rw [Nat.mul_sub, hd]
      have hlm := hmid.2.2 o.lt
      unfold midN at *
      omega
    · show (h - l) * k ≤ 4096 * (midN l h k - l + 1)
      rw [hd]
      unfold midN
      omega
  have h1 := phi_nar (R := h - l + 1) (p := prob one k) (by omega) (by unfold prob; split <;> omega) hnar
  have h2 : phi ((nar one l h k).2 - (nar one l h k).1 + 1) * 103 ^ (enc1 one l h k).1.length ≤ phi (256 ^ (enc1 one l h k).1.length * ((nar one l h k).2 - (nar one l h k).1 + 1)) * 8 ^ (enc1 one l h k).1.length := by
    rcases Nat.lt_or_ge ((nar one l h k).2 - (nar one l h k).1 + 1) 2 with hs | hs
    · have e : (nar one l h k).1 = (nar one l h k).2 := by have := hr.1; omega
      have h4 : (enc1 one l h k).1.length = 4 := by
        show (norm 5 (nar one l h k).1 (nar one l h k).2).1.length = 4
        rw [e]
        exact norm_four _
      rw [h4, show (nar one l h k).2 - (nar one l h k).1 + 1 = 1 by omega]
      exact phi_one
    · exact phi_bytes hs _
  rw [← show (enc1 one l h k).2.2 - (enc1 one l h k).2.1 + 1 = 256 ^ (enc1 one l h k).1.length * ((nar one l h k).2 - (nar one l h k).1 + 1) from hw] at h2
  generalize (enc1 one l h k).1.length = j at *
  calc phi (h - l + 1) * prob one k * 87 * 103 ^ j ≤ phi ((nar one l h k).2 - (nar one l h k).1 + 1) * (4096 * 88) * 103 ^ j := Nat.mul_le_mul_right _ h1
    _ = phi ((nar one l h k).2 - (nar one l h k).1 + 1) * 103 ^ j * (4096 * 88) := by rw [Nat.mul_assoc, Nat.mul_comm (4096 * 88), ← Nat.mul_assoc]
    _ ≤ phi ((enc1 one l h k).2.2 - (enc1 one l h k).2.1 + 1) * 8 ^ j * (4096 * 88) := Nat.mul_le_mul_right _ h2
    _ = phi ((enc1 one l h k).2.2 - (enc1 one l h k).2.1 + 1) * (4096 * 88) * 8 ^ j := by rw [Nat.mul_assoc, Nat.mul_comm (8 ^ j), ← Nat.mul_assoc]

/-- The chances of many bits, multiplied. -/
def probs : List (Bool × Nat) → Nat
  | [] => 1
  | (one, k) :: r => prob one k * probs r
theorem probs_app : ∀ (L M : List (Bool × Nat)), probs (L ++ M) = probs L * probs M
  | [], M => by simp [probs]
  | (one, k) :: r, M => by simp [probs, probs_app r M, Nat.mul_assoc]

/-- Many bits. -/
theorem phi_encAll : ∀ (L : List (Bool × Nat)) (l h : Nat), Open l h → (∀ x ∈ L, x.2 ≤ 4095) →
    phi (h - l + 1) * probs L * 87 ^ L.length * 103 ^ (encAll L l h).1.length ≤ phi ((encAll L l h).2.2 - (encAll L l h).2.1 + 1) * (4096 * 88) ^ L.length * 8 ^ (encAll L l h).1.length ∧ Open (encAll L l h).2.1 (encAll L l h).2.2
  | [], l, h, o, _ => by simp [probs, encAll, o]
  | (one, k) :: r, l, h, o, hk => by
    have hk0 : k ≤ 4095 := hk (one, k) (by simp)
    have h1 := phi_enc (one := one) o hk0
    obtain ⟨h2, o2⟩ := phi_encAll r _ _ (enc1_open (one := one) o hk0).1 (fun x hx => hk x (by simp [hx]))
    refine ⟨?_, o2⟩
    simp only [encAll, List.length_append, List.length_cons, probs]
    generalize (enc1 one l h k).1.length = j at *
    generalize phi ((enc1 one l h k).2.2 - (enc1 one l h k).2.1 + 1) = B at *
    generalize (encAll r (enc1 one l h k).2.1 (enc1 one l h k).2.2).1.length = i at *
    generalize phi ((encAll r (enc1 one l h k).2.1 (enc1 one l h k).2.2).2.2 - (encAll r (enc1 one l h k).2.1 (enc1 one l h k).2.2).2.1 + 1) = D at *
    generalize phi (h - l + 1) = A at *
    generalize probs r = q at *
    generalize prob one k = p at *
    generalize r.length = n at *
    rw [Nat.pow_succ 87, Nat.pow_succ (4096 * 88), Nat.pow_add 103, Nat.pow_add 8]
    calc A * (p * q) * (87 ^ n * 87) * (103 ^ j * 103 ^ i) = (A * p * 87 * 103 ^ j) * (q * 87 ^ n * 103 ^ i) := by ac_rfl
      _ ≤ (B * (4096 * 88) * 8 ^ j) * (q * 87 ^ n * 103 ^ i) := Nat.mul_le_mul_right _ h1
      _ = (B * q * 87 ^ n * 103 ^ i) * ((4096 * 88) * 8 ^ j) := by ac_rfl
      _ ≤ (D * (4096 * 88) ^ n * 8 ^ i) * ((4096 * 88) * 8 ^ j) := Nat.mul_le_mul_right _ h2
      _ = D * ((4096 * 88) ^ n * (4096 * 88)) * (8 ^ j * 8 ^ i) := by ac_rfl

/-- From the full range on: how many bytes there may be. -/
theorem enc_few (L : List (Bool × Nat)) (hk : ∀ x ∈ L, x.2 ≤ 4095) :
    probs L * 87 ^ L.length * 103 ^ (encAll L 0 4294967295).1.length ≤ (4096 * 88) ^ L.length * 8 ^ (encAll L 0 4294967295).1.length := by
  obtain ⟨h, o⟩ := phi_encAll L 0 4294967295 open_full hk
  have h1 : phi ((encAll L 0 4294967295).2.2 - (encAll L 0 4294967295).2.1 + 1) ≤ phi 4294967296 := phi_top (by have := o.hi; omega)
  have h2 : 0 < phi 4294967296 := by decide +kernel
  refine Nat.le_of_mul_le_mul_left ?_ h2
  calc phi 4294967296 * (probs L * 87 ^ L.length * 103 ^ (encAll L 0 4294967295).1.length) = phi (4294967295 - 0 + 1) * probs L * 87 ^ L.length * 103 ^ (encAll L 0 4294967295).1.length := by rw [show 4294967295 - 0 + 1 = 4294967296 from rfl]; ac_rfl
    _ ≤ _ := h
    _ ≤ phi 4294967296 * (4096 * 88) ^ L.length * 8 ^ (encAll L 0 4294967295).1.length := Nat.mul_le_mul_right _ (Nat.mul_le_mul_right _ h1)
    _ = phi 4294967296 * ((4096 * 88) ^ L.length * 8 ^ (encAll L 0 4294967295).1.length) := by rw [Nat.mul_assoc]

end Go.Proofs.YtpknbfkknnaajaaDoor
