/- The document's writer of bits: a list of noughts and ones. A is a set of blocks that are there and that none of its blocks is among. -/
import Derived.Test.YtlnhpdikdefgoaaRicMath
import Derived.Test.YtlnhpdikdefgoaaZeros
import Derived.Test.YtlnhpdikdefgoaaBitsRef
import Derived.Deep.DrawnRows
namespace Go.Proofs.Ytlnhpdikdefgoaa
open Go.RowKit
set_option maxRecDepth 100000

attribute [local go_sem ↓] Go.wp_at_zero Go.wp_at_succ

def zo (L : List Bool) : List Int := L.map fun b => if b then 1 else 0
theorem zo_length (L : List Bool) : (zo L).length = L.length := by simp [zo]
theorem zo_append (L M : List Bool) : zo (L ++ M) = zo L ++ zo M := by simp [zo]
theorem zo_getD (L : List Bool) {i : Nat} (hi : i < L.length) : (zo L).getD i 0 = if L.getD i false then 1 else 0 := by simp [zo, List.getD, hi]

/-- The writer at block g, with the bits L. -/
structure QWr (A : Nat → Prop) (w : World) (g : Nat) (v : Value) (L : List Bool) : Prop where
  blk : Blk w g 55 #[v]
  own : Own w 5 .u8 v (zo L)
  out : ¬ A g
  far : ∀ k, v.ownBlock = some k → ¬ A k
  there : ∀ k, A k → k < w.heap.size
def QW (A : Nat → Prop) (w : World) (g : Nat) (L : List Bool) : Prop := ∃ v, QWr A w g v L
/-- What a call of it leaves. -/
def QP (A : Nat → Prop) (w w' : World) (g : Nat) (L : List Bool) : Prop := QW A w' g L ∧ Kept (fun k => ¬ A k) w w'

section
variable {A S : Nat → Prop} {w w' : World} {g : Nat} {L : List Bool}
theorem QP.trans {w2 : World} {M : List Bool} (h : QP A w w' g L) (h2 : QP A w' w2 g M) : QP A w w2 g M :=
  ⟨h2.1, h.2.trans h2.2 fun _ _ e => e⟩
theorem QW.refl (h : QW A w g L) : QP A w w g L := ⟨h, Kept.refl _ _⟩
theorem QW.there (h : QW A w g L) : ∀ k, A k → k < w.heap.size := by obtain ⟨v, h⟩ := h; exact h.there
/-- .. while others write elsewhere: all their blocks are in A, or new. -/
theorem QW.kept (h : QW A w g L) (hk : Kept S w w') (hS : ∀ k, S k → k < w.heap.size → A k) : QW A w' g L := by
  obtain ⟨v, h⟩ := h
  exact ⟨v, h.blk.kept hk (fun e => h.out (hS _ e h.blk.lt)), h.own.kept hk (fun k e hs => h.far k e (hS k hs (h.own.lt e))), h.out, h.far, fun k e => Nat.lt_of_lt_of_le (h.there k e) hk.size⟩
theorem QW.new (w : World) (A : Nat → Prop) (hA : ∀ k, A k → k < w.heap.size) : QW A (w.alloc (.cells #[.slice none 0 0] 55)) w.heap.size [] :=
  ⟨_, Blk.new _ _ _, Own.nil _ _ _, fun e => by have := hA _ e; omega, fun k e => (by cases e), fun k e => by have := hA k e; simp; omega⟩
end

/-- One bit more: the append, and its place in the field. -/
theorem QWr.grown {A : Nat → Prop} {w w' : World} {g : Nat} {v v' : Value} {L : List Bool} {x : Int} (h : QWr A w g v L) (b : Bool) (hx : x = if b then 1 else 0) (hown : Own w' 5 .u8 v' (zo L ++ [x]))
    (hg : (w.alloc (.cells #[.int .u8 x] 5)).grownBy w' v.ownBlock) (hat : v'.ownBlock = v.ownBlock ∨ v'.ownBlock = some (w.heap.size + 1)) :
    QP A w (w'.setCell ⟨g, 0, none⟩ v') g (L ++ [b]) := by
  have hne := h.own.ne_blk h.blk (by decide)
  have hlt := h.blk.lt
  have hat' : ∀ k, v'.ownBlock = some k → v.ownBlock = some k ∨ w.heap.size ≤ k := fun k e => by
    rcases hat with e2 | e2
    · exact .inl (e2 ▸ e)
    · rw [e2] at e
      injection e with e
      exact .inr (by omega)
  have hk : Kept (fun k => v.ownBlock = some k) w w' := ((Kept.refl (fun k => v.ownBlock = some k) w).alloc _).grown hg (fun k e _ => e)
  have hb : Blk w' g 55 #[v] := h.blk.kept hk hne
  have hb2 : Blk (w'.setCell ⟨g, 0, none⟩ v') g 55 #[v'] := by simpa using hb.set_ 0 v'
  have hne' : v'.ownBlock ≠ some g := fun e => (hat' g e).elim (fun e => hne e) (fun e => by omega)
  have e0 : zo (L ++ [b]) = zo L ++ [x] := by rw [zo_append, hx]; rfl
  refine ⟨⟨v', hb2, ?_, h.out, fun k e => (hat' k e).elim (h.far k) (fun e2 a => by have := h.there k a; omega), fun k e => ?_⟩, ?_⟩
  · rw [e0]; exact hown.setFar hne' _
  · have := h.there k e
    have := hk.size
    simp [World.setCell]; omega
  · exact (hk.mono fun k _ e => h.far k e).setCell (fun _ => h.out) _

set_option maxHeartbeats 800000 in
/-- Bit: P1.1. -/
theorem qwBit_any (A : Nat → Prop) (g : Nat) (L : List Bool) (x : Int) (w : World) (h : QW A w g L) (hl : L.length ≤ 100000000000) :
    Calls Try.prog 45 #[.pointer (some ⟨g, 0, none⟩), .int .i64 x] w fun e w' => e = .returned (.tuple #[]) ∧ QP A w w' g (L ++ [x != 0]) := by
  obtain ⟨v, h⟩ := h
  obtain ⟨i0, hi, hz0, hz1, hz2⟩ := info_parts Try.infoByte
  have c0 := h.blk.cell 0
  have f0 := h.blk.frozen 0
  simp at c0
  have hll := zo_length L
  have H := Lib.hid h
  have hlt := h.blk.lt
  clear h
  by_cases hx : x = 0
  · subst hx
    have hb : ((0 : Int) != 0) = false := rfl
    rw [hb]
    go_enter Try.func45, Try.ntmps45
    go_wp2_with (at_builtin; refine wpList_app _ rfl (.tmp 19) (.tmp 20) 25 rfl 5 i0 .u8 1 Try.underlying25 hi hz0 hz1 hz2 _ (zo L) rfl (H.out.own.alloc _) _ 1 1 [0] rfl (Row.one _ _ _ _) (by unfold maxLen; omega) (by omega) ?_)
    intro v9 w9 ho9 hg9 hat9
    have HP := Lib.hid (H.out.grown false rfl ho9 hg9 hat9)
    have HF : w9.frozen? ⟨g, 0, none⟩ = false := (((H.out.blk.alloc _).grown hg9 (fun e => (H.out.own.ne_blk H.out.blk (by decide)) e.symm)).frozen 0)
    have HC := (((H.out.blk.alloc _).grown hg9 (fun e => (H.out.own.ne_blk H.out.blk (by decide)) e.symm)).cell 0)
    simp at HC
    obtain ⟨q9, c9, rfl, _⟩ := ho9.form (by simp)
    clear ho9 hg9 hat9 H
    go_wp2
    go_end0
    exact ⟨rfl, by have := HP.out; rwa [show (zo L ++ [(0 : Int)]).length = L.length + 1 from by simp [zo_length]] at this⟩
  · have hb : (x != 0) = true := by simp [hx]
    have Hb := Lib.hid hb
    go_enter Try.func45, Try.ntmps45
    go_wp2_with (at_builtin; refine wpList_app _ rfl (.tmp 10) (.tmp 11) 25 rfl 5 i0 .u8 1 Try.underlying25 hi hz0 hz1 hz2 _ (zo L) rfl (H.out.own.alloc _) _ 1 1 [1] rfl (Row.one _ _ _ _) (by unfold maxLen; omega) (by omega) ?_)
    intro v9 w9 ho9 hg9 hat9
    have HP := Lib.hid (H.out.grown true rfl ho9 hg9 hat9)
    have HF : w9.frozen? ⟨g, 0, none⟩ = false := (((H.out.blk.alloc _).grown hg9 (fun e => (H.out.own.ne_blk H.out.blk (by decide)) e.symm)).frozen 0)
    have HC := (((H.out.blk.alloc _).grown hg9 (fun e => (H.out.own.ne_blk H.out.blk (by decide)) e.symm)).cell 0)
    simp at HC
    obtain ⟨q9, c9, rfl, _⟩ := ho9.form (by simp)
    clear ho9 hg9 hat9 H
    go_wp2
    go_end0
    rw [Hb.out]
    exact ⟨rfl, by have := HP.out; rwa [show (zo L ++ [(1 : Int)]).length = L.length + 1 from by simp [zo_length]] at this⟩

theorem bit_of (x i : Nat) (hx : x < 4294967296) : bits .and .u32 ((x : Int) / 2 ^ i) 1 = if x.testBit i then 1 else 0 := by
  have e : ((x : Int) / 2 ^ i) = ((x / 2 ^ i : Nat) : Int) := by simp
  have hd : x / 2 ^ i < 4294967296 := Nat.lt_of_le_of_lt (Nat.div_le_self _ _) hx
  rw [e, show (1 : Int) = ((1 : Nat) : Int) from rfl, u32_and_nat _ _ hd (by omega), nat_mask1]
  rw [Nat.testBit_eq_decide_div_mod_eq]
  rcases Nat.mod_two_eq_zero_or_one (x / 2 ^ i) with h | h <;> simp [h]

set_option maxHeartbeats 1600000 in
/-- Bits: P1.1. -/
theorem qwBits_any (A : Nat → Prop) (g : Nat) (L : List Bool) (x : Nat) (m : Int) (w : World) (h : QW A w g L) (hl : L.length ≤ 99999999999) (hx : x < 4294967296) :
    Calls Try.prog 27 #[.pointer (some ⟨g, 0, none⟩), .int .u32 x, .int .i64 m] w fun e w' => e = .returned (.tuple #[]) ∧ QP A w w' g (L ++ bitsOf x (wBitsN m)) := by
  have hc : 0 ≤ clamp m 32 ∧ clamp m 32 ≤ 32 := by unfold clamp; split <;> (try split) <;> omega
  obtain ⟨k, hk⟩ : ∃ k : Nat, clamp m 32 = k := ⟨(clamp m 32).toNat, by omega⟩
  have hk32 : k ≤ 32 := by omega
  have hkk : wBitsN m = k := by unfold wBitsN; omega
  rw [hkk]
  have hmm : max 0 (min m 32) = (k : Int) := by unfold clamp at hk; split at hk <;> (try split at hk) <;> omega
  have Hk := Lib.hid hmm
  have hk0 : (0 : Int) ≤ k := by omega
  obtain ⟨i0, hi, hz0, hz1, hz2⟩ := info_parts Try.infoByte
  have H0 := Lib.hid h
  clear hk hc hkk h hmm
  go_enter Try.func27, Try.ntmps27
  go_wp2_with fail
  rw [Hk.out]
  go_loopw [6] (fun i wr => ∃ j : Nat, j ≤ k ∧ i = .int .i64 ((k : Int) - 1 - j) ∧ QP A w wr g (L ++ (bitsOf x k).take j)) (fun i _ => (intOf i + 1).toNat)
  case atStart => exact ⟨0, by omega, by simp, by simpa using H0.out.refl⟩
  case round =>
    obtain ⟨j, hj, rfl, h1⟩ := hrel
    obtain ⟨⟨v, h⟩, hkp⟩ := h1
    have H := Lib.hid (And.intro h hkp)
    clear h hkp H0
    by_cases hlt : j < k
    · have c0 := H.out.1.blk.cell 0
      have f0 := H.out.1.blk.frozen 0
      simp at c0
      have hll : (zo (L ++ (bitsOf x k).take j)).length = L.length + j := by rw [zo_length, List.length_append, List.length_take, bitsOf_length]; omega
      have hltg := H.out.1.blk.lt
      have z0 : (0 : Int) ≤ (k : Int) - 1 - j := by omega
      have Hb : Hid (bits .and .u32 ((x : Int) / 2 ^ (k - 1 - j)) 1 % 256 = if x.testBit (k - 1 - j) then 1 else 0) := Lib.hid (by rw [bit_of _ _ hx]; split <;> rfl)
      have Ht := Lib.hid (bitsOf_take x k j hlt)
      go_wp2_with (at_builtin; refine wpList_app _ rfl (.tmp 20) (.tmp 27) 25 rfl 5 i0 .u8 1 Try.underlying25 hi hz0 hz1 hz2 _ (zo (L ++ (bitsOf x k).take j)) rfl (H.out.1.own.alloc _) _ 1 1 [bits .and .u32 ((x : Int) / 2 ^ (k - 1 - j)) 1 % 256] rfl (Row.one _ _ _ _) (by unfold maxLen; omega) (by omega) ?_)
      intro v9 w9 ho9 hg9 hat9
      have HP := H.out.1.grown (x.testBit (k - 1 - j)) Hb.out ho9 hg9 hat9
      rw [List.append_assoc, ← Ht.out] at HP
      have HP' := Lib.hid (QP.trans ⟨⟨v, H.out.1⟩, H.out.2⟩ HP)
      have HF : w9.frozen? ⟨g, 0, none⟩ = false := (((H.out.1.blk.alloc _).grown hg9 (fun e => (H.out.1.own.ne_blk H.out.1.blk (by decide)) e.symm)).frozen 0)
      have HC := (((H.out.1.blk.alloc _).grown hg9 (fun e => (H.out.1.own.ne_blk H.out.1.blk (by decide)) e.symm)).cell 0)
      simp at HC
      obtain ⟨q9, c9, rfl, _⟩ := ho9.form (by simp)
      have hl9 : (zo (L ++ (bitsOf x k).take j) ++ [bits .and .u32 ((x : Int) / 2 ^ (k - 1 - j)) 1 % 256]).length = L.length + j + 1 := by rw [List.length_append, hll]; rfl
      rw [hl9] at HP'
      clear ho9 hg9 hat9 H HP hl9 Ht Hb
      go_wp2_with fail
      go_roundw
      case rel => exact ⟨j + 1, by omega, by go_num, HP'.out⟩
      case measure => simp [intOf]; omega
    · obtain rfl : j = k := by omega
      go_wp2_with fail
      go_end0
      refine ⟨rfl, ?_⟩
      have := H.out
      rw [List.take_of_length_le (by rw [bitsOf_length]; omega)] at this
      exact ⟨⟨v, this.1⟩, this.2⟩

set_option maxHeartbeats 1600000 in
/-- Unary: P1.1. -/
theorem qwUnary_any (A : Nat → Prop) (g : Nat) (L : List Bool) (m : Int) (w : World) (h : QW A w g L) (hl : L.length ≤ 99999990000) :
    Calls Try.prog 44 #[.pointer (some ⟨g, 0, none⟩), .int .i64 m] w fun e w' => e = .returned (.tuple #[]) ∧ QP A w w' g (L ++ (List.replicate (wUnaryN m) true ++ [false])) := by
  have hc : 0 ≤ clamp m 4096 ∧ clamp m 4096 ≤ 4096 := by unfold clamp; split <;> (try split) <;> omega
  obtain ⟨k, hk⟩ : ∃ k : Nat, clamp m 4096 = k := ⟨(clamp m 4096).toNat, by omega⟩
  have hk32 : k ≤ 4096 := by omega
  have hkk : wUnaryN m = k := by unfold wUnaryN; omega
  rw [hkk]
  have hmm : max 0 (min m 4096) = (k : Int) := by unfold clamp at hk; split at hk <;> (try split at hk) <;> omega
  have Hk := Lib.hid hmm
  have H0 := Lib.hid h
  clear hk hc hkk h hmm
  go_enter Try.func44, Try.ntmps44
  go_wp2_with fail
  rw [Hk.out]
  go_loopw [4] (fun i wr => ∃ j : Nat, j ≤ k ∧ i = .int .i64 j ∧ QP A w wr g (L ++ List.replicate j true)) (fun i _ => (k - intOf i).toNat)
  case atStart => exact ⟨0, by omega, rfl, by simpa using H0.out.refl⟩
  case round =>
    obtain ⟨j, hj, rfl, h1⟩ := hrel
    have H1 := Lib.hid h1
    clear h1 H0
    by_cases hlt : j < k
    · go_wp2_with fail
      refine (qwBit_any A g _ _ _ H1.out.1 (by simp; omega)).mono ?_
      rintro e w' ⟨rfl, hp⟩
      rw [show ((1 : Int) != 0) = true from rfl, List.append_assoc, ← replicate_take_one] at hp
      have H2 := Lib.hid (H1.out.trans hp)
      clear hp H1
      go_wp2_with fail
      go_roundw
      case rel => exact ⟨j + 1, by omega, by go_num, H2.out⟩
      case measure => simp [intOf]; omega
    · obtain rfl : j = k := by omega
      go_wp2_with fail
      refine (qwBit_any A g _ _ _ H1.out.1 (by simp; omega)).mono ?_
      rintro e w' ⟨rfl, hp⟩
      rw [show ((0 : Int) != 0) = false from rfl, List.append_assoc] at hp
      have H2 := Lib.hid (H1.out.trans hp)
      clear hp H1
      go_wp2_with fail
      go_end0
      exact ⟨rfl, H2.out⟩

theorem set_getD_self {i : Nat} (xs : List Int) (h : i < xs.length) : xs.set i (xs.getD i 0) = xs := by simp [List.getD, h]

theorem wbit_set {bs bs' : List Int} {n : Nat} (b : Bool) (e : bs' = if n % 8 = 0 then bs ++ [0] else bs) (hb : 0 ≤ bs'.getD (n / 8) 0 ∧ bs'.getD (n / 8) 0 < 256) (hl : n / 8 < bs'.length) :
    wbit bs n b = bs'.set (n / 8) (bits .or .u8 (bs'.getD (n / 8) 0) (if b then 128 / 2 ^ (n % 8) else 0)) := by
  unfold wbit
  rw [← e]
  cases b with
  | true => rfl
  | false =>
    obtain ⟨a, ha⟩ := Int.eq_ofNat_of_zero_le hb.1
    have e : bits .or .u8 (a : Int) 0 = (a : Int) := by
      rw [show (0 : Int) = ((0 : Nat) : Int) from rfl, u8_or_nat _ _ (by omega) (by omega), Nat.or_zero]
    rw [if_neg (by decide), if_neg (by decide), ha, e, ← ha]
    exact (set_getD_self bs' hl).symm
theorem z_shift (b : Bool) {m : Nat} (hm : m ≤ 7) : (if b then 1 else 0 : Int) * 2 ^ (7 - m) % 256 = if b then 128 / 2 ^ m else 0 := by
  have : ∀ m ≤ 7, (1 : Int) * 2 ^ (7 - m) % 256 = 128 / 2 ^ m := by decide
  cases b with
  | true => exact this m hm
  | false => simp
theorem pk_snoc (M : List Bool) (b : Bool) : pk (M ++ [b]) = wbit (pk M) M.length b := by
  unfold pk
  rw [wmany_snoc, Nat.zero_add]
theorem take_snoc (L : List Bool) {j : Nat} (hj : j < L.length) : L.take (j + 1) = L.take j ++ [L.getD j false] := by
  rw [List.take_succ_eq_append_getElem hj]; simp [List.getD, hj]
theorem NewRow_of {w wr : World} {e : TypeId} {k : IntKind} {u : Value} {xs : List Int} (ho : Own wr e k u xs) (hn : ∀ g, u.ownBlock = some g → w.heap.size ≤ g) (hf : Fresh w wr) : NewRow w wr e k u xs := ⟨ho, hn, hf⟩

set_option maxHeartbeats 1600000 in
/-- Bytes: P1.1. -/
theorem qwBytes_any (A : Nat → Prop) (g : Nat) (L : List Bool) (w : World) (h : QW A w g L) (hl : L.length ≤ 99999990000) :
    Calls Try.prog 29 #[.pointer (some ⟨g, 0, none⟩)] w fun e w' => ∃ u, e = .returned u ∧ NewRow w w' 5 .u8 u (pk L) := by
  obtain ⟨i0, hi, hz0, hz1, hz2⟩ := info_parts Try.infoByte
  obtain ⟨v, h⟩ := h
  have hll := zo_length L
  obtain ⟨Av, cv, hv, hr, _⟩ := h.own.row
  rw [hll] at hv hr
  have hblk := h.blk
  rw [hv] at hblk
  have HB : Hid (∀ V, Fresh w V → V.cell? ⟨g, 0, none⟩ = some (.slice Av L.length cv) ∧ Row V .u8 Av L.length (zo L)) := Lib.hid fun V hf => ⟨by simpa using (hblk.kept hf id).cell 0, hr.kept hf (fun _ _ _ _ => id)⟩
  clear h hblk hr hv
  go_enter Try.func29, Try.ntmps29
  go_wp2_with fail
  go_loopw [4, 3] (fun i u wr => ∃ j : Nat, j ≤ L.length ∧ i = .int .i64 j ∧ NewRow w wr 5 .u8 u (pk (L.take j))) (fun i _ _ => (L.length - intOf i).toNat)
  case atStart => exact ⟨0, by omega, rfl, Own.nil _ _ _, fun k e => (by cases e), Kept.refl _ _⟩
  case round =>
    obtain ⟨j, hj, rfl, ho, hn, hf⟩ := hrel
    have hpl : (pk (L.take j)).length = (j + 7) / 8 := by rw [pk_length, List.length_take, Nat.min_eq_left hj]
    have hpb := (pk_bits (L.take j)).byte
    obtain ⟨c0, hrv⟩ := HB.out wr hf
    by_cases hlt : j < L.length
    · obtain ⟨bv, ov, rfl, hbv, hcv⟩ := hrv.at_ j (by omega)
      rw [zo_getD L hlt] at hcv
      obtain ⟨b, hbb⟩ : ∃ b, L.getD j false = b := ⟨_, rfl⟩
      rw [hbb] at hcv
      have hz0' : (j : Int) < (L.length : Int) := by omega
      have hsn : pk (L.take (j + 1)) = wbit (pk (L.take j)) j b := by rw [take_snoc L hlt, pk_snoc, hbb, List.length_take, Nat.min_eq_left hj]
      by_cases h8 : j % 8 = 0
      · have hb8 : ((j : Int) % 8 == 0) = true := by simp; omega
        have hset := wbit_set b (bs := pk (L.take j)) (bs' := pk (L.take j) ++ [0]) (n := j) (by rw [if_pos h8]) (byte_app hpb _) (by simp; omega)
        rw [hset, ← z_shift b (m := j % 8) (by omega), show (2 : Int) ^ (7 - j % 8) = 128 from by rw [h8]; rfl] at hsn
        obtain ⟨z, hz⟩ : ∃ z : Int, z = if b then 1 else 0 := ⟨_, rfl⟩
        rw [← hz] at hsn
        have Hsn := Lib.hid hsn
        have HN := Lib.hid (And.intro ho (And.intro hn hf))
        have Hz := Lib.hid (And.intro hz hbb)
        clear hz hset hsn ho hn hf hpb hrv hcv hbv hbb
        go_wp2_with (at_builtin; refine wpList_app _ rfl (.tmp 17) (.tmp 18) 25 rfl 5 i0 .u8 1 Try.underlying25 hi hz0 hz1 hz2 _ (pk (L.take j)) rfl (HN.out.1.alloc _) _ 1 1 [0] rfl (Row.one _ _ _ _) (by unfold maxLen; omega) (by omega) ?_)
        intro v9 w9 ho9 hg9 hat9
        have hf9 : Fresh w w9 := (HN.out.2.2.alloc (.cells #[.int .u8 0] 5)).grown hg9 (fun k e hk => absurd (HN.out.2.1 k e) (by omega))
        have hn9 : ∀ k, v9.ownBlock = some k → w.heap.size ≤ k := fun k e => by
          rcases hat9 with e2 | e2
          · exact HN.out.2.1 k (e2 ▸ e)
          · rw [e2] at e
            injection e with e
            have := HN.out.2.2.size
            omega
        obtain ⟨c09, hr9⟩ := HB.out w9 hf9
        obtain ⟨b', o', e', hbv9, hcv9⟩ := hr9.at_ j (by omega)
        injection e' with e'
        injection e' with e1 e2
        subst e1 e2
        rw [zo_getD L hlt, Hz.out.2, ← Hz.out.1] at hcv9
        obtain ⟨q, cq, rfl, hqlt⟩ := ho9.form (by simp)
        have hl9 : (pk (L.take j) ++ [(0 : Int)]).length = (pk (L.take j)).length + 1 := by simp
        have cell := ho9.cell (j := j / 8) (by omega)
        have frz := ho9.frozen (j / 8)
        have hi8 : ((j / 8 : Nat) : Int) < ((pk (L.take j) ++ [(0 : Int)]).length : Int) := by omega
        have HN9 := Lib.hid (And.intro ho9 (And.intro hn9 hf9))
        clear ho9 hg9 hat9 hf9 hn9 hr9 HN c0 Hz
        generalize hxx : pk (L.take j) ++ [(0 : Int)] = xx at *
        clear hl9 hpl hxx
        go_wp2
        go_region
        all_goals go_wp2_with fail
        go_roundw
        case rel =>
          refine ⟨j + 1, by omega, by go_num, ?_, HN9.out.2.1, ((HN9.out.2.2.setCell (p := ⟨q, j / 8, none⟩) (fun e => absurd (HN9.out.2.1 q rfl) (by simp at e; omega)) _).drew)⟩
          rw [Hsn.out]
          exact (HN9.out.1.stored (j / 8) (bits .or .u8 (xx.getD (j / 8) 0) (z * 128 % 256))).drew
        case measure => simp [intOf]; omega
      · have hb8 : ((j : Int) % 8 == 0) = false := by simp; omega
        obtain ⟨q, cq, rfl, hqlt⟩ := ho.form (by omega)
        have cell := ho.cell (j := j / 8) (by omega)
        have frz := ho.frozen (j / 8)
        have hi8 : ((j / 8 : Nat) : Int) < ((pk (L.take j)).length : Int) := by omega
        have hset := wbit_set b (bs := pk (L.take j)) (bs' := pk (L.take j)) (n := j) (by rw [if_neg h8]) (hpb _) (by omega)
        rw [hset, ← z_shift b (m := j % 8) (by omega)] at hsn
        obtain ⟨z, hz⟩ : ∃ z : Int, z = if b then 1 else 0 := ⟨_, rfl⟩
        rw [← hz] at hcv hsn
        have Hsn := Lib.hid hsn
        have HN := Lib.hid (And.intro ho (And.intro hn hf))
        clear hz hset hsn ho hn hf hpb hrv
        go_wp2
        go_region
        all_goals go_wp2_with fail
        go_roundw
        case rel =>
          refine ⟨j + 1, by omega, by go_num, ?_, HN.out.2.1, ((HN.out.2.2.setCell (p := ⟨q, j / 8, none⟩) (fun e => absurd (HN.out.2.1 q rfl) (by simp at e; omega)) _).drew)⟩
          rw [Hsn.out]
          exact (HN.out.1.stored (j / 8) (bits .or .u8 ((pk (L.take j)).getD (j / 8) 0) (z * 2 ^ (7 - j % 8) % 256))).drew
        case measure => simp [intOf]; omega
    · obtain rfl : j = L.length := by omega
      rw [List.take_length] at ho
      have HN := Lib.hid (NewRow_of ho hn hf)
      clear ho hn hf hrv hpb
      go_wp2_with fail
      go_ret
      exact ⟨_, rfl, HN.out⟩

end Go.Proofs.Ytlnhpdikdefgoaa
