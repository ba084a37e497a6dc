/- What a pack is, and that it is unpacked: plain mathematics. -/
import Derived.Test.YtpknbfkknnaajaaDoorStrSmall
namespace Go.Proofs.YtpknbfkknnaajaaDoor

/-- The model behind bits. -/
def mos (lv : Nat) : List Bool → Mo → Mo
  | [], m => m
  | one :: r, m => mos lv r (m.learn lv one)
theorem mos_snoc (lv : Nat) (one : Bool) : ∀ (L : List Bool) (m : Mo), mos lv (L ++ [one]) m = (mos lv L m).learn lv one
  | [], _ => rfl
  | _ :: r, _ => mos_snoc lv one r _
theorem mos_fine (lv : Nat) : ∀ (L : List Bool) {m : Mo}, m.Fine → (mos lv L m).Fine
  | [], _, h => h
  | one :: r, _, h => mos_fine lv r (h.learn lv one)
theorem mos_app (lv : Nat) (M : List Bool) : ∀ (L : List Bool) (m : Mo), mos lv (L ++ M) m = mos lv M (mos lv L m)
  | [], _ => rfl
  | _ :: r, _ => mos_app lv M r _

/-- Bits, each with its chance. -/
def pairs (lv : Nat) : List Bool → Mo → List (Bool × Nat)
  | [], _ => []
  | one :: r, m => (one, (m.chance lv).toNat) :: pairs lv r (m.learn lv one)
theorem pairs_snoc (lv : Nat) (one : Bool) : ∀ (L : List Bool) (m : Mo), pairs lv (L ++ [one]) m = pairs lv L m ++ [(one, ((mos lv L m).chance lv).toNat)]
  | [], _ => rfl
  | o :: r, m => by
    show (o, _) :: pairs lv (r ++ [one]) _ = (o, _) :: (pairs lv r _ ++ [_])
    rw [pairs_snoc lv one r]
    rfl
theorem mo_chance_bd {m : Mo} (h : m.Fine) (lv : Nat) : 1 ≤ m.chance lv ∧ m.chance lv ≤ 4095 := by
  unfold Mo.chance Ps.chance
  split
  · have := ch_bd (h.a m.part)
    show (1 : Int) ≤ ((ch (m.A m.part) : Nat) : Int) ∧ ((ch (m.A m.part) : Nat) : Int) ≤ 4095
    omega
  · have h1 : 1 ≤ m.now.t lv ∧ m.now.t lv ≤ 4095 := tl_bd _ _
    have h2 : 1 ≤ rd m.now.T (sx (m.now.t lv)) ∧ rd m.now.T (sx (m.now.t lv)) ≤ 4095 := rd_bd (h.t _) _
    omega
theorem mo_chance_nat {m : Mo} (h : m.Fine) (lv : Nat) : (((m.chance lv).toNat : Nat) : Int) = m.chance lv ∧ 1 ≤ (m.chance lv).toNat ∧ (m.chance lv).toNat ≤ 4095 := by
  have := mo_chance_bd h lv
  omega
theorem pairs_bd (lv : Nat) : ∀ (L : List Bool) {m : Mo}, m.Fine → ∀ x ∈ pairs lv L m, x.2 ≤ 4095
  | [], _, _ => fun x hx => by cases hx
  | one :: r, m, h => fun x hx => by
    rcases List.mem_cons.1 hx with rfl | hx
    · exact (mo_chance_nat h lv).2.2
    · exact pairs_bd lv r (h.learn lv one) x hx

/-- The encoder behind bits: what is put out, and the range. -/
def encS (lv : Nat) (L : List Bool) : List Int × Nat × Nat := encAll (pairs lv L mo0) 0 4294967295
/-- The chance of the next bit. -/
def kS (lv : Nat) (L : List Bool) : Nat := ((mos lv L mo0).chance lv).toNat
theorem kS_bd (lv : Nat) (L : List Bool) : 1 ≤ kS lv L ∧ kS lv L ≤ 4095 := (mo_chance_nat (mos_fine lv L mo0_fine) lv).2
theorem encS_nil (lv : Nat) : encS lv [] = ([], 0, 4294967295) := rfl
theorem encS_snoc (lv : Nat) (L : List Bool) (one : Bool) : encS lv (L ++ [one]) = ((encS lv L).1 ++ (enc1 one (encS lv L).2.1 (encS lv L).2.2 (kS lv L)).1, (enc1 one (encS lv L).2.1 (encS lv L).2.2 (kS lv L)).2) := by
  unfold encS
  rw [pairs_snoc, encAll_snoc]
  rfl
theorem encS_open (lv : Nat) (L : List Bool) : Open (encS lv L).2.1 (encS lv L).2.2 := (phi_encAll _ 0 4294967295 open_full (pairs_bd lv L mo0_fine)).2
theorem encAll_bytes : ∀ (L : List (Bool × Nat)) (l h : Nat), Open l h → (∀ x ∈ L, x.2 ≤ 4095) → ∀ x ∈ (encAll L l h).1, 0 ≤ x ∧ x < 256
  | [], _, _, _, _ => fun x hx => by cases hx
  | (one, k) :: r, l, h, o, hk => fun x hx => by
    have hk0 : k ≤ 4095 := hk (one, k) (by simp)
    simp only [encAll, List.mem_append] at hx
    rcases hx with hx | hx
    · exact enc1_bytes o hk0 x hx
    · exact encAll_bytes r _ _ (enc1_open (one := one) o hk0).1 (fun y hy => hk y (by simp [hy])) x hx
/-- How long it is. -/
theorem encAll_len : ∀ (L : List (Bool × Nat)) (l h : Nat), Open l h → (∀ x ∈ L, x.2 ≤ 4095) → (encAll L l h).1.length ≤ 4 * L.length
  | [], _, _, _, _ => by simp [encAll]
  | (one, k) :: r, l, h, o, hk => by
    have hk0 : k ≤ 4095 := hk (one, k) (by simp)
    have h1 := enc1_open (one := one) o hk0
    have h2 := encAll_len r _ _ h1.1 (fun y hy => hk y (by simp [hy]))
    simp only [encAll, List.length_append, List.length_cons]
    have := h1.2
    omega
theorem pairs_len (lv : Nat) : ∀ (L : List Bool) (m : Mo), (pairs lv L m).length = L.length
  | [], _ => rfl
  | _ :: r, m => by simp [pairs, pairs_len lv r]

/-- The pack of bits. -/
def packB (lv : Nat) (L : List Bool) : List Int := (encS lv L).1 ++ fourB (encS lv L).2.1
theorem packB_bytes (lv : Nat) (L : List Bool) : ∀ x ∈ packB lv L, 0 ≤ x ∧ x < 256 := fun x hx => by
  rcases List.mem_append.1 hx with hx | hx
  · exact encAll_bytes _ _ _ open_full (pairs_bd lv L mo0_fine) x hx
  · exact fourB_bytes _ x hx
theorem packB_len (lv : Nat) (L : List Bool) : (packB lv L).length = (encS lv L).1.length + 4 := by simp [packB, fourB]
theorem packB_most (lv : Nat) (L : List Bool) : (packB lv L).length ≤ 4 * L.length + 4 := by
  have := encAll_len _ 0 4294967295 open_full (pairs_bd lv L mo0_fine)
  rw [pairs_len] at this
  rw [packB_len]
  have h : (encS lv L).1.length ≤ 4 * L.length := this
  omega

/-- The bits of a byte, the highest first, and of bytes. -/
def bb (x : Nat) : List Bool := (List.range 8).map (bit x)
theorem bb_len (x : Nat) : (bb x).length = 8 := by simp [bb]
theorem bb_take (x : Nat) {j : Nat} (h : j < 8) : (bb x).take (j + 1) = (bb x).take j ++ [bit x j] := by
  unfold bb
  rw [← List.map_take, ← List.map_take, List.take_range, List.take_range, Nat.min_eq_left (by omega), Nat.min_eq_left (by omega), List.range_succ, List.map_append]
  rfl
theorem bb_all (x : Nat) : (bb x).take 8 = bb x := List.take_of_length_le (by rw [bb_len]; omega)
def bbs : List Int → List Bool
  | [] => []
  | x :: r => bb x.toNat ++ bbs r
theorem bbs_app (x : Int) : ∀ xs : List Int, bbs (xs ++ [x]) = bbs xs ++ bb x.toNat
  | [] => by simp [bbs]
  | y :: r => by simp [bbs, bbs_app x r]
theorem bbs_len : ∀ xs : List Int, (bbs xs).length = 8 * xs.length
  | [] => rfl
  | x :: r => by simp [bbs, bb_len, bbs_len r]; omega

/-- The byte that bits are. -/
def ofB : Nat → List Bool → Nat
  | a, [] => a
  | a, one :: r => ofB (a * 2 + one.toNat) r
theorem ofB_snoc (one : Bool) : ∀ (L : List Bool) (a : Nat), ofB a (L ++ [one]) = ofB a L * 2 + one.toNat
  | [], _ => rfl
  | _ :: r, _ => ofB_snoc one r _
theorem ofB_bb {x : Nat} (h : x < 256) : ofB 0 (bb x) = x := by
  have e : ∀ x, x < 256 → Nat.beq (ofB 0 (bb x)) x = true := by decide +kernel
  exact Nat.eq_of_beq_eq_true (e x h)

/-- A byte again and again. -/
theorem again_pairs {lv c : Nat} : ∀ t, pairs lv ((List.range t).map fun i => bit c (i % 8)) mo0 = again lv c t ∧ mos lv ((List.range t).map fun i => bit c (i % 8)) mo0 = run lv c t
  | 0 => ⟨rfl, rfl⟩
  | t + 1 => by
    obtain ⟨h1, h2⟩ := again_pairs (lv := lv) (c := c) t
    rw [List.range_succ, List.map_append]
    show pairs lv (_ ++ [bit c (t % 8)]) mo0 = _ ∧ mos lv (_ ++ [bit c (t % 8)]) mo0 = _
    rw [pairs_snoc, mos_snoc, h1, h2]
    exact ⟨rfl, rfl⟩
theorem bbs_again (c : Nat) : ∀ n, bbs (List.replicate n (c : Int)) = (List.range (8 * n)).map fun i => bit c (i % 8)
  | 0 => rfl
  | n + 1 => by
    rw [List.replicate_succ', bbs_app, bbs_again c n, show 8 * (n + 1) = 8 * n + 8 by omega, List.range_add, List.map_append]
    congr 1
    unfold bb
    rw [List.map_map]
    apply List.map_congr_left
    intro j hj
    have := List.mem_range.1 hj
    show bit ((c : Int).toNat) j = bit c ((8 * n + j) % 8)
    rw [show (8 * n + j) % 8 = j by omega]
    rfl
/-- One byte, again and again, from 1,500 on, is packed to a tenth at most. -/
theorem packB_small {lv c : Nat} (hc : c < 256) (hlv : lv ≤ 2) {n : Nat} (hn : 1500 ≤ n) : 10 * (packB lv (bbs (List.replicate n (c : Int)))).length ≤ n := by
  obtain ⟨r, rfl⟩ : ∃ r, n = 1500 + r := ⟨n - 1500, by omega⟩
  have h := again_small hc hlv (fun t => by
    have e := (again_pairs (lv := lv) (c := c) t).2
    rw [← e]
    exact mo_chance_bd (mos_fine lv _ mo0_fine) lv) r
  rw [packB_len]
  unfold encS
  rw [bbs_again, (again_pairs (lv := lv) (c := c) _).1]
  exact h

/-- The decoder behind bits. -/
structure DS where
  l : Nat
  h : Nat
  p : Nat
  L : List Bool
def DS.one (s : DS) (lv : Nat) (F : List Int) : Bool := decBit F s.l s.h (kS lv s.L) s.p
def DS.by_ (s : DS) (one : Bool) (e : List Int × Nat × Nat) : DS := ⟨e.2.1, e.2.2, s.p + e.1.length, s.L ++ [one]⟩
theorem DS.by_L (s : DS) (one : Bool) (e : List Int × Nat × Nat) : (s.by_ one e).L = s.L ++ [one] := rfl
theorem DS.by_l (s : DS) (one : Bool) (e : List Int × Nat × Nat) : (s.by_ one e).l = e.2.1 := rfl
theorem DS.by_h (s : DS) (one : Bool) (e : List Int × Nat × Nat) : (s.by_ one e).h = e.2.2 := rfl
theorem DS.by_p (s : DS) (one : Bool) (e : List Int × Nat × Nat) : (s.by_ one e).p = s.p + e.1.length := rfl
def DS.step (s : DS) (lv : Nat) (F : List Int) : DS := s.by_ (s.one lv F) (enc1 (s.one lv F) s.l s.h (kS lv s.L))
def decT (lv : Nat) (F : List Int) : Nat → DS
  | 0 => ⟨0, 4294967295, 0, []⟩
  | t + 1 => (decT lv F t).step lv F
theorem decT_succ (lv : Nat) (F : List Int) (t : Nat) : decT lv F (t + 1) = (decT lv F t).step lv F := by rw [decT]
theorem decT_len (lv : Nat) (F : List Int) : ∀ t, (decT lv F t).L.length = t
  | 0 => by rw [decT]; rfl
  | t + 1 => by
    rw [decT_succ, DS.step, DS.by_L, List.length_append, decT_len lv F t]
    rfl
/-- Its range is the encoder's of the bits that it has told. -/
structure DS.Enc (s : DS) (lv : Nat) : Prop where
  l : s.l = (encS lv s.L).2.1
  h : s.h = (encS lv s.L).2.2
  p : s.p = (encS lv s.L).1.length
theorem DS.Enc.by_ {s : DS} {lv : Nat} (hp : s.p = (encS lv s.L).1.length) (one : Bool) (e : List Int × Nat × Nat) (h : encS lv (s.L ++ [one]) = ((encS lv s.L).1 ++ e.1, e.2)) : (s.by_ one e).Enc lv := by
  generalize encS lv s.L = A at *
  refine ⟨?_, ?_, ?_⟩
  · rw [DS.by_L, DS.by_l, h]
  · rw [DS.by_L, DS.by_h, h]
  · rw [DS.by_L, DS.by_p, h, List.length_append, hp]
theorem DS.Enc.step {s : DS} {lv : Nat} (e : s.Enc lv) (F : List Int) : (s.step lv F).Enc lv := by
  have hs := encS_snoc lv s.L (s.one lv F)
  rw [← e.l, ← e.h] at hs
  rw [DS.step]
  exact DS.Enc.by_ e.p _ _ hs
theorem decT_enc (lv : Nat) (F : List Int) : ∀ t, (decT lv F t).Enc lv
  | 0 => by
    rw [decT]
    exact ⟨by rw [encS_nil], by rw [encS_nil], by rw [encS_nil]; rfl⟩
  | t + 1 => by
    rw [decT_succ]
    exact (decT_enc lv F t).step F
theorem DS.Enc.range {s : DS} {lv : Nat} (e : s.Enc lv) : Open s.l s.h := by
  rw [e.l, e.h]; exact encS_open lv _

/-- What is left of the bytes is what the bits to come are encoded to. -/
def DS.Rest (s : DS) (lv : Nat) (F : List Int) (N : List Bool) : Prop :=
  F.drop s.p = (encAll (pairs lv N (mos lv s.L mo0)) s.l s.h).1 ++ fourB (encAll (pairs lv N (mos lv s.L mo0)) s.l s.h).2.1
theorem pairs_cons (lv : Nat) (one : Bool) (r : List Bool) (m : Mo) : pairs lv (one :: r) m = (one, (m.chance lv).toNat) :: pairs lv r (m.learn lv one) := rfl

/-- What is packed is unpacked: a step. -/
theorem step_pack {lv : Nat} {F : List Int} (hF : ∀ x ∈ F, 0 ≤ x ∧ x < 256) {s : DS} (e : s.Enc lv) {one : Bool} {r : List Bool} (hd : s.Rest lv F (one :: r)) :
    s.one lv F = one ∧ (s.step lv F).Rest lv F r := by
  unfold DS.Rest at hd
  rw [pairs_cons] at hd
  have hb := enc_bit F hF one (kS lv s.L) (pairs lv r ((mos lv s.L mo0).learn lv one)) s.l s.h s.p e.range (by
    intro x hx
    rcases List.mem_cons.1 hx with rfl | hx
    · exact (kS_bd lv _).2
    · exact pairs_bd lv _ ((mos_fine lv _ mo0_fine).learn lv _) x hx) hd
  have h1 : s.one lv F = one := hb.1
  refine ⟨h1, ?_⟩
  have h2 := hb.2
  unfold DS.Rest DS.step
  rw [h1, DS.by_L, DS.by_l, DS.by_h, DS.by_p, mos_snoc]
  exact h2
theorem dec_pack (lv : Nat) (F : List Int) (hF : ∀ x ∈ F, 0 ≤ x ∧ x < 256) (L : List Bool) : ∀ (N M : List Bool), L = M ++ N → (decT lv F M.length).L = M → (decT lv F M.length).Rest lv F N → (decT lv F L.length).L = L
  | [], M, hL, hM, _ => by
    rw [List.append_nil] at hL
    rw [hL]
    exact hM
  | one :: r, M, hL, hM, hd => by
    obtain ⟨h1, h2⟩ := step_pack hF (decT_enc lv F M.length) hd
    have hlen : (M ++ [one]).length = M.length + 1 := by rw [List.length_append]; rfl
    refine dec_pack lv F hF L r (M ++ [one]) (by rw [hL, List.append_assoc]; rfl) ?_ ?_
    · rw [hlen, decT_succ, DS.step, DS.by_L, hM, h1]
    · rw [hlen, decT_succ]
      exact h2
theorem dec_pack_all (lv : Nat) (L : List Bool) : (decT lv (packB lv L) L.length).L = L := by
  refine dec_pack lv _ (packB_bytes lv L) L L [] rfl ?_ ?_
  · rw [List.length_nil, decT]
  · rw [List.length_nil, decT]
    unfold DS.Rest
    rw [List.drop_zero]
    rfl

end Go.Proofs.YtpknbfkknnaajaaDoor
