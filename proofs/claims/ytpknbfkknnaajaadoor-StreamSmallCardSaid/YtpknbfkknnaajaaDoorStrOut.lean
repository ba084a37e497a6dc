/- What is unpacked: plain mathematics. -/
import Derived.Test.YtpknbfkknnaajaaDoorStrBits
namespace Go.Proofs.YtpknbfkknnaajaaDoor
set_option maxRecDepth 100000

theorem ofB_lt : ∀ (L : List Bool) (a : Nat), ofB a L + 1 ≤ (a + 1) * 2 ^ L.length
  | [], a => by simp [ofB]
  | one :: r, a => by
    have h := ofB_lt r (a * 2 + one.toNat)
    have h2 : one.toNat ≤ 1 := by cases one <;> decide
    have h3 : (a * 2 + one.toNat + 1) * 2 ^ r.length ≤ ((a + 1) * 2) * 2 ^ r.length := Nat.mul_le_mul_right _ (by omega)
    show ofB (a * 2 + one.toNat) r + 1 ≤ (a + 1) * 2 ^ (r.length + 1)
    rw [Nat.pow_succ, Nat.mul_comm (2 ^ r.length) 2, ← Nat.mul_assoc]
    omega
theorem ofB_byte {L : List Bool} (h : L.length ≤ 8) : ofB 0 L < 256 := by
  have h1 := ofB_lt L 0
  have h2 : 2 ^ L.length ≤ 2 ^ 8 := Nat.pow_le_pow_right (by omega) h
  omega
theorem ofB_half {L : List Bool} (h : L.length ≤ 7) : ofB 0 L < 128 := by
  have h1 := ofB_lt L 0
  have h2 : 2 ^ L.length ≤ 2 ^ 7 := Nat.pow_le_pow_right (by omega) h
  omega
theorem bb_ofB8 : ∀ a b c d e f g h : Bool, bb (ofB 0 [a, b, c, d, e, f, g, h]) = [a, b, c, d, e, f, g, h] := by decide +kernel
theorem bb_ofB {L : List Bool} (h : L.length = 8) : bb (ofB 0 L) = L := by
  match L, h with
  | [a, b, c, d, e, f, g, i], _ => exact bb_ofB8 a b c d e f g i

theorem decT_take (lv : Nat) (F : List Int) (t : Nat) : ∀ j, (decT lv F (t + j)).L.take t = (decT lv F t).L
  | 0 => by
    rw [Nat.add_zero]
    exact List.take_of_length_le (by rw [decT_len]; omega)
  | j + 1 => by
    rw [← Nat.add_assoc, decT_succ, DS.step, DS.by_L, List.take_append_of_le_length (by rw [decT_len]; omega)]
    exact decT_take lv F t j
/-- The bits behind the first t, of j more. -/
def moreB (lv : Nat) (F : List Int) (t j : Nat) : List Bool := (decT lv F (t + j)).L.drop t
theorem moreB_zero (lv : Nat) (F : List Int) (t : Nat) : moreB lv F t 0 = [] := by
  unfold moreB
  exact List.drop_eq_nil_of_le (by rw [decT_len]; omega)
theorem moreB_succ (lv : Nat) (F : List Int) (t j : Nat) : moreB lv F t (j + 1) = moreB lv F t j ++ [(decT lv F (t + j)).one lv F] := by
  unfold moreB
  rw [← Nat.add_assoc, decT_succ, DS.step, DS.by_L, List.drop_append_of_le_length (by rw [decT_len]; omega)]
theorem moreB_len (lv : Nat) (F : List Int) (t j : Nat) : (moreB lv F t j).length = j := by
  unfold moreB
  rw [List.length_drop, decT_len]; omega
theorem decT_more (lv : Nat) (F : List Int) (t j : Nat) : (decT lv F (t + j)).L = (decT lv F t).L ++ moreB lv F t j := by
  conv => lhs; rw [← List.take_append_drop t (decT lv F (t + j)).L]
  rw [decT_take]
  rfl

/-- The bytes that are told. -/
def outB (lv : Nat) (F : List Int) : Nat → List Int
  | 0 => []
  | i + 1 => outB lv F i ++ [((ofB 0 (moreB lv F (8 * i) 8) : Nat) : Int)]
theorem outB_len (lv : Nat) (F : List Int) : ∀ i, (outB lv F i).length = i
  | 0 => rfl
  | i + 1 => by simp [outB, outB_len lv F i]
theorem outB_byte (lv : Nat) (F : List Int) : ∀ i, ∀ x ∈ outB lv F i, 0 ≤ x ∧ x < 256
  | 0 => fun x hx => by cases hx
  | i + 1 => fun x hx => by
    rcases List.mem_append.1 hx with hx | hx
    · exact outB_byte lv F i x hx
    · have h := ofB_byte (L := moreB lv F (8 * i) 8) (by rw [moreB_len]; omega)
      obtain rfl : x = _ := List.mem_singleton.1 hx
      omega
theorem outB_bits (lv : Nat) (F : List Int) : ∀ i, bbs (outB lv F i) = (decT lv F (8 * i)).L
  | 0 => by rw [Nat.mul_zero, decT]; rfl
  | i + 1 => by
    rw [outB, bbs_app, outB_bits lv F i, show 8 * (i + 1) = 8 * i + 8 by omega, decT_more, Int.toNat_natCast, bb_ofB (by rw [moreB_len])]

/-- Of that text it is the pack. -/
def okB (lv : Nat) (F : List Int) (n : Nat) : Prop := F = packB lv (decT lv F (8 * n)).L
instance (lv : Nat) (F : List Int) (n : Nat) : Decidable (okB lv F n) := by unfold okB; infer_instance

theorem encAll_app : ∀ (L M : List (Bool × Nat)) (l h : Nat), ∃ r, (encAll (L ++ M) l h).1 = (encAll L l h).1 ++ r
  | [], M, l, h => ⟨(encAll M l h).1, by simp [encAll]⟩
  | (one, k) :: L, M, l, h => by
    obtain ⟨r, e⟩ := encAll_app L M (enc1 one l h k).2.1 (enc1 one l h k).2.2
    refine ⟨r, ?_⟩
    simp only [List.cons_append, encAll]
    rw [e, List.append_assoc]
theorem pairs_app (lv : Nat) : ∀ (L M : List Bool) (m : Mo), pairs lv (L ++ M) m = pairs lv L m ++ pairs lv M (mos lv L m)
  | [], _, _ => rfl
  | one :: r, M, m => by
    show (one, _) :: pairs lv (r ++ M) _ = (one, _) :: (pairs lv r _ ++ pairs lv M _)
    rw [pairs_app lv r M]
    rfl
/-- While a pack is unpacked no byte past its end is taken. -/
theorem ok_past {lv : Nat} {F : List Int} {t n : Nat} (h : okB lv F n) (ht : t ≤ 8 * n) : (decT lv F t).p + 4 ≤ F.length := by
  have e := (decT_enc lv F t).p
  have hl : F.length = (packB lv (decT lv F (8 * n)).L).length := congrArg List.length h
  rw [packB_len] at hl
  obtain ⟨j, hj⟩ : ∃ j, 8 * n = t + j := ⟨8 * n - t, by omega⟩
  rw [hj, decT_more] at hl
  obtain ⟨r, hr⟩ := encAll_app (pairs lv (decT lv F t).L mo0) (pairs lv (moreB lv F t j) (mos lv (decT lv F t).L mo0)) 0 4294967295
  rw [← pairs_app] at hr
  have h2 : (encS lv ((decT lv F t).L ++ moreB lv F t j)).1 = (encS lv (decT lv F t).L).1 ++ r := hr
  rw [h2, List.length_append] at hl
  omega

theorem bbs_inj : ∀ {xs ys : List Int}, (∀ x ∈ xs, 0 ≤ x ∧ x < 256) → (∀ x ∈ ys, 0 ≤ x ∧ x < 256) → xs.length = ys.length → bbs xs = bbs ys → xs = ys
  | [], [], _, _, _, _ => rfl
  | x :: xs, y :: ys, hx, hy, hl, h => by
    have h0 := hx x (by simp)
    have h1 := hy y (by simp)
    have h2 : bb x.toNat ++ bbs xs = bb y.toNat ++ bbs ys := h
    obtain ⟨h3, h4⟩ := List.append_inj h2 (by rw [bb_len, bb_len])
    have h5 : x.toNat = y.toNat := by rw [← ofB_bb (x := x.toNat) (by omega), h3, ofB_bb (x := y.toNat) (by omega)]
    rw [show x = y by omega, bbs_inj (fun z hz => hx z (by simp [hz])) (fun z hz => hy z (by simp [hz])) (by simpa using hl) h4]

/-- What is packed is unpacked. -/
theorem ok_pack {lv : Nat} {xs : List Int} (hb : ∀ x ∈ xs, 0 ≤ x ∧ x < 256) : okB lv (packB lv (bbs xs)) xs.length ∧ outB lv (packB lv (bbs xs)) xs.length = xs := by
  have h := dec_pack_all lv (bbs xs)
  rw [bbs_len] at h
  have h2 := outB_bits lv (packB lv (bbs xs)) xs.length
  rw [h] at h2
  refine ⟨?_, ?_⟩
  · unfold okB
    rw [h]
  · exact bbs_inj (outB_byte lv _ _) hb (by rw [outB_len]) h2
end Go.Proofs.YtpknbfkknnaajaaDoor
