/- A WAV file, as plain mathematics: its chunks gone through; a file that is made; what is made is parsed; other chunks play no part. -/
import Derived.Test.YtodmchjdflpbpaaNumMath
namespace Go.Proofs.Ytodmchjdflpbpaa
open Go.RowKit
set_option maxRecDepth 100000

/-- k bytes from place p on; the number that they are. -/
def slc (bs : List Int) (p k : Nat) : List Int := (bs.drop p).take k
def leAt (bs : List Int) (p k : Nat) : Nat := leNum (slc bs p k)
theorem slc_length {bs : List Int} {p k : Nat} (h : p + k ≤ bs.length) : (slc bs p k).length = k := by simp [slc]; omega
theorem slc_byte {bs : List Int} (p k : Nat) (h : ∀ c ∈ bs, 0 ≤ c ∧ c < 256) : ∀ c ∈ slc bs p k, 0 ≤ c ∧ c < 256 := fun c hc => h c (List.mem_of_mem_drop (List.mem_of_mem_take hc))
theorem leAt_lt {bs : List Int} {p k : Nat} (h : ∀ c ∈ bs, 0 ≤ c ∧ c < 256) (hp : p + k ≤ bs.length) : leAt bs p k < 256 ^ k := by
  have := leNum_lt (slc bs p k) (slc_byte p k h)
  rwa [slc_length hp] at this
theorem slc_mid (P M R : List Int) {p k : Nat} (hp : P.length = p) (hk : M.length = k) : slc (P ++ (M ++ R)) p k = M := by
  subst hp hk
  simp [slc]
theorem leAt_mid (P R : List Int) {p k : Nat} (v : Nat) (hp : P.length = p) (hv : v < 256 ^ k) : leAt (P ++ (leBytes v k ++ R)) p k = v := by
  rw [leAt, slc_mid P _ R hp (leBytes_length v k), leNum_leBytes, Nat.mod_eq_of_lt hv]

/-- The names. -/
def nRIFF : List Int := [82, 73, 70, 70]
def nWAVE : List Int := [87, 65, 86, 69]
def nFmt : List Int := [102, 109, 116, 32]
def nData : List Int := [100, 97, 116, 97]

/-- What is known when some chunks are over: is the format there? the format, channels, bits. -/
abbrev WSt := Bool × Nat × Nat × Nat
/-- Behind the chunk at a place. -/
def wfmt (bs : List Int) (p : Nat) (s : WSt) : WSt :=
  if slc bs p 4 = nFmt ∧ s.1 = false ∧ 16 ≤ leAt bs (p + 4) 4 ∧ p + 8 + 16 ≤ bs.length then (true, leAt bs (p + 8) 2, leAt bs (p + 8 + 2) 2, leAt bs (p + 8 + 14) 2) else s
/-- The whole frames' bytes. -/
def wlen (n : Nat) (s : WSt) (p size : Nat) : Nat := min size (n - p) / (s.2.2.1 * s.2.2.2 / 8) * (s.2.2.1 * s.2.2.2 / 8)
def wbad (s : WSt) : Prop := s.2.1 ≠ 1 ∨ s.2.2.1 < 1 ∨ 8 < s.2.2.1 ∨ (s.2.2.2 ≠ 8 ∧ s.2.2.2 ≠ 16)
instance (s : WSt) : Decidable (wbad s) := by unfold wbad; infer_instance
def wfin (n : Nat) (s : WSt) (p size : Nat) : Option (Nat × Nat × Nat × Nat) :=
  if wbad s then none else if wlen n s p size < 1 then none else some (s.2.2.1, s.2.2.2, p, p + wlen n s p size)
/-- The chunks from a place on. -/
def wgo (bs : List Int) (p : Nat) (s : WSt) : Option (Nat × Nat × Nat × Nat) :=
  if p + 8 ≤ bs.length then
    if slc bs p 4 = nData ∧ (wfmt bs p s).1 = true then wfin bs.length (wfmt bs p s) (p + 8) (leAt bs (p + 4) 4)
    else wgo bs (p + 8 + leAt bs (p + 4) 4 + leAt bs (p + 4) 4 % 2) (wfmt bs p s)
  else none
termination_by bs.length + 8 - p
decreasing_by omega
def wparse (bs : List Int) : Option (Nat × Nat × Nat × Nat) :=
  if bs.length < 12 ∨ slc bs 0 4 ≠ nRIFF ∨ slc bs 8 4 ≠ nWAVE then none else wgo bs 12 (false, 0, 0, 0)

theorem wfin_some {n : Nat} {s : WSt} {p size : Nat} {r : Nat × Nat × Nat × Nat} (h : wfin n s p size = some r) (hp : p ≤ n) :
    1 ≤ r.1 ∧ r.1 ≤ 8 ∧ (r.2.1 = 8 ∨ r.2.1 = 16) ∧ r.2.2.1 = p ∧ p < r.2.2.2 ∧ r.2.2.2 ≤ n ∧ (r.2.2.2 - p) % (r.1 * r.2.1 / 8) = 0 := by
  unfold wfin at h
  split at h
  · cases h
  · rename_i hb
    split at h
    · cases h
    · rename_i hl
      injection h with h
      subst h
      simp only [wbad] at hb
      have h2 : wlen n s p size ≤ n - p := by
        unfold wlen
        exact Nat.le_trans (Nat.div_mul_le_self _ _) (Nat.min_le_right _ _)
      refine ⟨by simp only []; omega, by simp only []; omega, by simp only []; omega, rfl, by simp only []; omega, by simp only []; omega, ?_⟩
      simp only []
      rw [Nat.add_sub_cancel_left]
      unfold wlen
      exact Nat.mul_mod_left _ _
theorem wgo_some (bs : List Int) : ∀ (p : Nat) (s : WSt) {r : Nat × Nat × Nat × Nat}, 12 ≤ p → (s.1 = true → 36 ≤ p) → wgo bs p s = some r →
    1 ≤ r.1 ∧ r.1 ≤ 8 ∧ (r.2.1 = 8 ∨ r.2.1 = 16) ∧ 44 ≤ r.2.2.1 ∧ r.2.2.1 < r.2.2.2 ∧ r.2.2.2 ≤ bs.length ∧ (r.2.2.2 - r.2.2.1) % (r.1 * r.2.1 / 8) = 0 := by
  intro p s
  induction p, s using wgo.induct bs with
  | case1 p s h8 hd =>
    intro r hp h36 h
    rw [wgo, if_pos h8, if_pos hd] at h
    have hs : s.1 = true := by
      have h2 := hd.2
      unfold wfmt at h2
      split at h2
      · rename_i hf
        rw [hd.1] at hf
        exact absurd hf.1 (by decide)
      · exact h2
    obtain ⟨a1, a2, a3, a4, a5, a6, a7⟩ := wfin_some h (by omega)
    have := h36 hs
    exact ⟨a1, a2, a3, by omega, by omega, a6, by rw [a4]; exact a7⟩
  | case2 p s h8 hd ih =>
    intro r hp h36 h
    rw [wgo, if_pos h8, if_neg hd] at h
    refine ih (by omega) (fun hs => ?_) h
    unfold wfmt at hs
    split at hs
    · rename_i hf
      omega
    · have := h36 hs
      omega
  | case3 p s h8 =>
    intro r hp h36 h
    rw [wgo, if_neg h8] at h
    cases h
theorem wparse_some {bs : List Int} {r : Nat × Nat × Nat × Nat} (h : wparse bs = some r) :
    1 ≤ r.1 ∧ r.1 ≤ 8 ∧ (r.2.1 = 8 ∨ r.2.1 = 16) ∧ 44 ≤ r.2.2.1 ∧ r.2.2.1 < r.2.2.2 ∧ r.2.2.2 ≤ bs.length ∧ (r.2.2.2 - r.2.2.1) % (r.1 * r.2.1 / 8) = 0 := by
  unfold wparse at h
  split at h
  · cases h
  · exact wgo_some bs 12 _ (Nat.le_refl _) (fun e => by cases e) h

/-- A file that is made. -/
def whead (ch b n : Nat) : List Int :=
  nRIFF ++ (leBytes (36 + n) 4 ++ (nWAVE ++ (nFmt ++ (leBytes 16 4 ++ (leBytes 1 2 ++ (leBytes ch 2 ++ (leBytes 8000 4 ++ (leBytes (8000 * (ch * b / 8)) 4 ++ (leBytes (ch * b / 8) 2 ++ leBytes b 2)))))))))
def wdata (n : Nat) : List Int := nData ++ leBytes n 4
def wok (ch b : Nat) : Prop := 1 ≤ ch ∧ ch ≤ 8 ∧ (b = 8 ∨ b = 16)
def wmake (ch b : Int) (xs : List Int) : List Int := if ch < 1 ∨ 8 < ch ∨ (b ≠ 8 ∧ b ≠ 16) then [] else whead ch.toNat b.toNat xs.length ++ (wdata xs.length ++ xs)
theorem whead_length (ch b n : Nat) : (whead ch b n).length = 36 := by simp [whead, leBytes_length, nRIFF, nWAVE, nFmt]
theorem wdata_length (n : Nat) : (wdata n).length = 8 := by simp [wdata, leBytes_length, nData]
theorem wmake_ok {ch b : Nat} (h : wok ch b) (xs : List Int) : wmake ch b xs = whead ch b xs.length ++ (wdata xs.length ++ xs) := by
  unfold wmake wok at *
  rw [if_neg (by omega)]
  simp

/-- Behind the head the format is there. -/
theorem whead_go (ch b n : Nat) (h : wok ch b) (T : List Int) : wparse (whead ch b n ++ T) = wgo (whead ch b n ++ T) 36 (true, 1, ch, b) := by
  have hlen : 36 ≤ (whead ch b n ++ T).length := by rw [List.length_append, whead_length]; omega
  obtain ⟨bs, hbs⟩ : ∃ bs, whead ch b n ++ T = bs := ⟨_, rfl⟩
  have e : bs = nRIFF ++ (leBytes (36 + n) 4 ++ (nWAVE ++ (nFmt ++ (leBytes 16 4 ++ (leBytes 1 2 ++ (leBytes ch 2 ++ (leBytes 8000 4 ++ (leBytes (8000 * (ch * b / 8)) 4 ++ (leBytes (ch * b / 8) 2 ++ (leBytes b 2 ++ T)))))))))) := by
    rw [← hbs]; simp [whead]
  rw [hbs] at hlen ⊢
  have s1 : slc bs 0 4 = nRIFF := by rw [e]; exact slc_mid [] nRIFF _ rfl rfl
  have s2 : slc bs 8 4 = nWAVE := by
    rw [e, ← List.append_assoc nRIFF]
    exact slc_mid _ nWAVE _ (by simp [nRIFF, leBytes_length]) rfl
  have s3 : slc bs 12 4 = nFmt := by
    rw [e, ← List.append_assoc nRIFF, ← List.append_assoc (nRIFF ++ _)]
    exact slc_mid _ nFmt _ (by simp [nRIFF, nWAVE, leBytes_length]) rfl
  have s4 : leAt bs 16 4 = 16 := by
    rw [e, ← List.append_assoc nRIFF, ← List.append_assoc (nRIFF ++ _), ← List.append_assoc ((nRIFF ++ _) ++ _)]
    exact leAt_mid _ _ 16 (by simp [nRIFF, nWAVE, nFmt, leBytes_length]) (by decide)
  have s5 : leAt bs 20 2 = 1 := by
    rw [e, ← List.append_assoc nRIFF, ← List.append_assoc (nRIFF ++ _), ← List.append_assoc ((nRIFF ++ _) ++ _), ← List.append_assoc (((nRIFF ++ _) ++ _) ++ _)]
    exact leAt_mid _ _ 1 (by simp [nRIFF, nWAVE, nFmt, leBytes_length]) (by decide)
  have s6 : leAt bs 22 2 = ch := by
    rw [e, ← List.append_assoc nRIFF, ← List.append_assoc (nRIFF ++ _), ← List.append_assoc ((nRIFF ++ _) ++ _), ← List.append_assoc (((nRIFF ++ _) ++ _) ++ _), ← List.append_assoc ((((nRIFF ++ _) ++ _) ++ _) ++ _)]
    exact leAt_mid _ _ ch (by simp [nRIFF, nWAVE, nFmt, leBytes_length]) (by unfold wok at h; omega)
  have s7 : leAt bs 34 2 = b := by
    have e2 : bs = (nRIFF ++ leBytes (36 + n) 4 ++ nWAVE ++ nFmt ++ leBytes 16 4 ++ leBytes 1 2 ++ leBytes ch 2 ++ leBytes 8000 4 ++ leBytes (8000 * (ch * b / 8)) 4 ++ leBytes (ch * b / 8) 2) ++ (leBytes b 2 ++ T) := by
      rw [e]; simp
    rw [e2]
    exact leAt_mid _ _ b (by simp [nRIFF, nWAVE, nFmt, leBytes_length]) (by unfold wok at h; omega)
  unfold wparse
  rw [if_neg (by rw [s1, s2]; simp; omega), wgo, if_pos (by omega)]
  have hf : wfmt bs 12 (false, 0, 0, 0) = (true, 1, ch, b) := by
    unfold wfmt
    rw [if_pos ⟨s3, rfl, by rw [s4]; omega, by omega⟩, s5, s6, s7]
  rw [hf, s4, if_neg (by rw [s3]; exact fun h => absurd h.1 (by decide))]

/-- A chunk of another name plays no part. -/
theorem wgo_skip (P name C R : List Int) (s : WSt) (size : Nat) (hn : name.length = 4) (hs : size < 4294967296) (hC : C.length = size + size % 2) (n1 : name ≠ nFmt) (n2 : name ≠ nData) :
    wgo (P ++ (name ++ (leBytes size 4 ++ (C ++ R)))) P.length s = wgo (P ++ (name ++ (leBytes size 4 ++ (C ++ R)))) (P.length + 8 + size + size % 2) s := by
  obtain ⟨bs, hbs⟩ : ∃ bs, P ++ (name ++ (leBytes size 4 ++ (C ++ R))) = bs := ⟨_, rfl⟩
  have hlen : P.length + 8 ≤ bs.length := by rw [← hbs]; simp [leBytes_length, hn]; omega
  have s1 : slc bs P.length 4 = name := by rw [← hbs]; exact slc_mid P name _ rfl hn
  have s2 : leAt bs (P.length + 4) 4 = size := by
    rw [← hbs, ← List.append_assoc P]
    exact leAt_mid _ _ size (by simp [hn]) (by omega)
  rw [hbs]
  conv => lhs; rw [wgo]
  have hf : wfmt bs P.length s = s := by unfold wfmt; rw [if_neg (by rw [s1]; exact fun h => n1 h.1)]
  rw [if_pos hlen, hf, s1, s2, if_neg (fun h => n2 h.1)]

/-- The samples' chunk. -/
theorem wgo_data (P xs R : List Int) {ch b : Nat} (h : wok ch b) (hx : xs.length < 4294967296) :
    wgo (P ++ (wdata xs.length ++ (xs ++ R))) P.length (true, 1, ch, b) =
      if xs.length / (ch * b / 8) * (ch * b / 8) < 1 then none else some (ch, b, P.length + 8, P.length + 8 + xs.length / (ch * b / 8) * (ch * b / 8)) := by
  obtain ⟨bs, hbs⟩ : ∃ bs, P ++ (wdata xs.length ++ (xs ++ R)) = bs := ⟨_, rfl⟩
  have hl : bs.length = P.length + 8 + xs.length + R.length := by rw [← hbs]; simp [wdata_length]; omega
  have e : bs = P ++ (nData ++ (leBytes xs.length 4 ++ (xs ++ R))) := by rw [← hbs]; simp [wdata]
  have s1 : slc bs P.length 4 = nData := by rw [e]; exact slc_mid P nData _ rfl rfl
  have s2 : leAt bs (P.length + 4) 4 = xs.length := by
    rw [e, ← List.append_assoc P]
    exact leAt_mid _ _ xs.length (by simp [nData]) (by omega)
  rw [hbs, wgo, if_pos (by omega)]
  have hf : wfmt bs P.length (true, 1, ch, b) = (true, 1, ch, b) := by unfold wfmt; rw [if_neg (fun h => by cases h.2.1)]
  rw [hf, s1, s2, if_pos ⟨rfl, rfl⟩]
  unfold wfin
  have hb : ¬ wbad (true, 1, ch, b) := by unfold wbad wok at *; simp only []; omega
  have hw : wlen bs.length (true, 1, ch, b) (P.length + 8) xs.length = xs.length / (ch * b / 8) * (ch * b / 8) := by
    unfold wlen
    rw [Nat.min_eq_left (by omega)]
  rw [if_neg hb, hw]

/-- What is made is parsed. -/
theorem wback {ch b : Nat} (h : wok ch b) (xs R : List Int) (hx : xs.length < 4294967296) :
    wparse (wmake ch b xs ++ R) = if xs.length / (ch * b / 8) * (ch * b / 8) < 1 then none else some (ch, b, 44, 44 + xs.length / (ch * b / 8) * (ch * b / 8)) := by
  rw [wmake_ok h, List.append_assoc, List.append_assoc, whead_go ch b _ h]
  have := wgo_data (whead ch b xs.length) xs R h hx
  rw [whead_length] at this
  exact this

theorem leBytes_all (v k : Nat) : ∀ x ∈ leBytes v k, 0 ≤ x ∧ x < 256 := leBytes_byte v k
theorem wmake_byte (ch b : Int) {xs : List Int} (h : ∀ x ∈ xs, 0 ≤ x ∧ x < 256) : ∀ x ∈ wmake ch b xs, 0 ≤ x ∧ x < 256 := by
  unfold wmake
  split
  · exact fun x hx => (by cases hx)
  · have c1 : ∀ x ∈ nRIFF, 0 ≤ x ∧ x < 256 := by decide
    have c2 : ∀ x ∈ nWAVE, 0 ≤ x ∧ x < 256 := by decide
    have c3 : ∀ x ∈ nFmt, 0 ≤ x ∧ x < 256 := by decide
    have c4 : ∀ x ∈ nData, 0 ≤ x ∧ x < 256 := by decide
    intro x hx
    simp only [whead, wdata, List.mem_append] at hx
    rcases hx with (hx | hx | hx | hx | hx | hx | hx | hx | hx | hx | hx) | (hx | hx) | hx
    all_goals first | exact leBytes_byte _ _ x hx | exact c1 x hx | exact c2 x hx | exact c3 x hx | exact c4 x hx | exact h x hx
theorem wmake_length {ch b : Nat} (h : wok ch b) (xs : List Int) : (wmake ch b xs).length = 44 + xs.length := by
  rw [wmake_ok h, List.length_append, List.length_append, whead_length, wdata_length]; omega

/-- Other chunks, one behind the other. -/
def wchunk (x : List Int × List Int) : List Int := x.1 ++ (leBytes x.2.length 4 ++ (x.2 ++ if x.2.length % 2 = 1 then [0] else []))
def wmore (L : List (List Int × List Int)) : List Int := L.flatMap wchunk
def wgood (x : List Int × List Int) : Prop := x.1.length = 4 ∧ x.1 ≠ nFmt ∧ x.1 ≠ nData ∧ x.2.length < 4294967296
theorem wmore_snoc (L : List (List Int × List Int)) (x : List Int × List Int) : wmore (L ++ [x]) = wmore L ++ wchunk x := by simp [wmore]
theorem wchunk_length (x : List Int × List Int) : (wchunk x).length = x.1.length + 4 + x.2.length + x.2.length % 2 := by
  unfold wchunk
  rcases Nat.mod_two_eq_zero_or_one x.2.length with h | h <;> simp [h, leBytes_length] <;> omega
theorem wgo_more (s : WSt) (R : List Int) : ∀ (L : List (List Int × List Int)) (P : List Int), (∀ x ∈ L, wgood x) → wgo (P ++ (wmore L ++ R)) P.length s = wgo (P ++ (wmore L ++ R)) (P.length + (wmore L).length) s
  | [], P, _ => by simp [wmore]
  | x :: L, P, h => by
    obtain ⟨g1, g2, g3, g4⟩ := h x (by simp)
    have e : P ++ (wmore (x :: L) ++ R) = P ++ (x.1 ++ (leBytes x.2.length 4 ++ ((x.2 ++ if x.2.length % 2 = 1 then [0] else []) ++ (wmore L ++ R)))) := by simp [wmore, wchunk]
    have e2 : P ++ (wmore (x :: L) ++ R) = (P ++ wchunk x) ++ (wmore L ++ R) := by simp [wmore]
    have hs := wgo_skip P x.1 (x.2 ++ if x.2.length % 2 = 1 then [0] else []) (wmore L ++ R) s x.2.length g1 g4 (by rcases Nat.mod_two_eq_zero_or_one x.2.length with h | h <;> simp [h]) g2 g3
    rw [← e] at hs
    have hi := wgo_more s R L (P ++ wchunk x) (fun y hy => h y (by simp [hy]))
    rw [← e2] at hi
    have hl : (P ++ wchunk x).length = P.length + 8 + x.2.length + x.2.length % 2 := by rw [List.length_append, wchunk_length]; omega
    rw [hl] at hi
    rw [hs, hi]
    congr 1
    have : (wmore (x :: L)).length = (wchunk x).length + (wmore L).length := by simp [wmore]
    rw [this, wchunk_length]
    omega
theorem wchunks {ch b : Nat} (h : wok ch b) (xs : List Int) (hx : xs.length < 4294967296) (L : List (List Int × List Int)) (hL : ∀ x ∈ L, wgood x) :
    wparse (whead ch b xs.length ++ (wmore L ++ (wdata xs.length ++ xs))) =
      if xs.length / (ch * b / 8) * (ch * b / 8) < 1 then none else some (ch, b, 44 + (wmore L).length, 44 + (wmore L).length + xs.length / (ch * b / 8) * (ch * b / 8)) := by
  rw [whead_go ch b _ h]
  have h1 := wgo_more (true, 1, ch, b) (wdata xs.length ++ xs) L (whead ch b xs.length) hL
  rw [whead_length] at h1
  rw [h1]
  have h2 := wgo_data (whead ch b xs.length ++ wmore L) xs [] h hx
  rw [List.length_append, whead_length, List.append_nil, List.append_assoc] at h2
  rw [h2]
  have e : 36 + (wmore L).length + 8 = 44 + (wmore L).length := by omega
  rw [e]

end Go.Proofs.Ytodmchjdflpbpaa
