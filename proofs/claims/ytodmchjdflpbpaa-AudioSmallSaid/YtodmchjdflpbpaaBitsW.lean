/- The contracts of bits.Writer. -/
import Derived.Test.YtodmchjdflpbpaaKit
import Derived.BigRegion
import Derived.Laws.BitsAllLaws
namespace Go.Proofs.Ytodmchjdflpbpaa
open Go.RowKit
set_option maxRecDepth 100000

theorem Try.infoByte : (Try.prog.info? 5).map (fun i => (i.zero, i.size, i.bytes)) = some (some (.int .u8 0), 1, 1) := by kernel_rfl

def clamp (n m : Int) : Int := if n < 0 then (if 0 ≤ m then 0 else m) else if n ≤ m then n else m

set_option maxHeartbeats 400000 in
theorem within_any (n m : Int) (w : World) : Calls Try.prog 57 #[.int .i64 n, .int .i64 m] w fun e w' => e = .returned (.int .i64 (clamp n m)) ∧ w = w' := by
  go_enter Try.func57, Try.ntmps57
  go_wp2
  all_goals
    go_ret
    exact ⟨ret_int (by unfold clamp; split <;> (try split) <;> omega), rfl⟩

/-- A writer at block g: its bytes bs, owned by v, and n bits. -/
structure Wtr (w : World) (g : Nat) (v : Value) (bs : List Int) (n : Nat) (t : TypeId) (R : Array Value) : Prop where
  blk : Blk w g t (#[v, .int .i64 n] ++ R)
  own : Own w 5 .u8 v bs
  len : bs.length = (n + 7) / 8
  byte : ∀ j, 0 ≤ bs.getD j 0 ∧ bs.getD j 0 < 256
  ty : 5 ≠ t

theorem two_0 (a b : Value) (R : Array Value) : (#[a, b] ++ R)[0]? = some a := by simp [Array.getElem?_append]
theorem two_1 (a b : Value) (R : Array Value) : (#[a, b] ++ R)[1]? = some b := by simp [Array.getElem?_append]
theorem set_0 (a b u : Value) (R : Array Value) : (#[a, b] ++ R).setIfInBounds 0 u = #[u, b] ++ R := by
  apply Array.toList_inj.1; simp
theorem set_1 (a b u : Value) (R : Array Value) : (#[a, b] ++ R).setIfInBounds 1 u = #[a, u] ++ R := by
  apply Array.toList_inj.1; simp

/-- What one bit more makes of the bytes. -/
def wbit (bs : List Int) (n : Nat) (b : Bool) : List Int :=
  let bs' := if n % 8 = 0 then bs ++ [0] else bs
  if b then bs'.set (n / 8) (bits .or .u8 (bs'.getD (n / 8) 0) (128 / 2 ^ (n % 8))) else bs'

/-- What a writer's call leaves alone. -/
def WFoot (g : Nat) (v : Value) (k : Nat) : Prop := k = g ∨ v.ownBlock = some k

/-- What a call of a writer leaves. -/
def WPost (w w' : World) (g : Nat) (v : Value) (bs' : List Int) (n' : Nat) (t : TypeId) (R : Array Value) : Prop :=
  ∃ v', Wtr w' g v' bs' n' t R ∧ (∀ k, v'.ownBlock = some k → v.ownBlock = some k ∨ w.heap.size ≤ k) ∧ Kept (WFoot g v) w w'

variable {t : TypeId} {R : Array Value}

theorem WPost.trans {w w1 w2 : World} {g : Nat} {v : Value} {bs2 : List Int} {n2 : Nat} {v1 : Value} (hv : ∀ k, v1.ownBlock = some k → v.ownBlock = some k ∨ w.heap.size ≤ k) (hk : Kept (WFoot g v) w w1)
    (h : WPost w1 w2 g v1 bs2 n2 t R) : WPost w w2 g v bs2 n2 t R := by
  obtain ⟨v2, h2, hv2, hk2⟩ := h
  refine ⟨v2, h2, fun k hk' => ?_, hk.trans hk2 fun i hi hf => ?_⟩
  · rcases hv2 k hk' with e | e
    · exact hv k e
    · exact .inr (Nat.le_trans hk.size e)
  · rcases hf with rfl | hf
    · exact .inl rfl
    · rcases hv i hf with e | e
      · exact .inr e
      · omega

theorem or_byte (a : Int) (m : Nat) : 0 ≤ bits .or .u8 a (128 / 2 ^ m) ∧ bits .or .u8 a (128 / 2 ^ m) < 256 := by
  have : ∀ b : Int, 0 ≤ bits .or .u8 a b ∧ bits .or .u8 a b < 256 := by
    intro b
    show 0 ≤ IntKind.u8.wrap _ ∧ IntKind.u8.wrap _ < 256
    rw [IntKind.wrap_u8]
    omega
  exact this _

theorem byte_app {bs : List Int} (h : ∀ j, 0 ≤ bs.getD j 0 ∧ bs.getD j 0 < 256) : ∀ j, 0 ≤ (bs ++ [0]).getD j 0 ∧ (bs ++ [0]).getD j 0 < 256 := by
  intro j
  rcases Nat.lt_trichotomy j bs.length with hj | hj | hj
  · have := h j; simp [List.getD, List.getElem?_append_left hj] at this ⊢; exact this
  · subst hj; simp
  · have e0 : (bs ++ [0]).getD j 0 = 0 := by simp [List.getD, List.getElem?_eq_none (l := bs ++ [0]) (i := j) (by simp; omega)]
    rw [e0]; omega

theorem byte_set {bs : List Int} {i : Nat} {u : Int} (h : ∀ j, 0 ≤ bs.getD j 0 ∧ bs.getD j 0 < 256) (hu : 0 ≤ u ∧ u < 256) : ∀ j, 0 ≤ (bs.set i u).getD j 0 ∧ (bs.set i u).getD j 0 < 256 := by
  intro j
  have hj := h j
  by_cases e : i = j
  · subst e
    by_cases hl : i < bs.length
    · simpa [List.getD, hl] using hu
    · have e0 : (bs.set i u).getD i 0 = 0 := by simp [List.getD, hl]
      rw [e0]; omega
  · simpa [List.getD, List.getElem?_set_ne e] using hj

theorem Wtr.count {w : World} {g : Nat} {v : Value} {bs : List Int} {n m : Nat} (hb : Blk w g t (#[v, .int .i64 n] ++ R)) (ho : Own w 5 .u8 v bs) (hl : bs.length = (m + 7) / 8)
    (hy : ∀ j, 0 ≤ bs.getD j 0 ∧ bs.getD j 0 < 256) (ty : 5 ≠ t) (u : Int) (hu : u = (m : Int)) : Wtr (w.setCell ⟨g, 1, none⟩ (.int .i64 u)) g v bs m t R := by
  subst hu
  exact ⟨by have := hb.set_ 1 (.int .i64 m); rwa [set_1] at this, ho.setFar (by simpa using ho.ne_blk hb ty) _, hl, hy, ty⟩

theorem Wtr.drew {w : World} {g : Nat} {v : Value} {bs : List Int} {n : Nat} (h : Wtr w g v bs n t R) : Wtr w.drew g v bs n t R := ⟨h.blk, h.own, h.len, h.byte, h.ty⟩

set_option maxHeartbeats 800000 in
theorem wBit_in (g n : Nat) (v : Value) (bs : List Int) (x : Int) (w : World) (h : Wtr w g v bs n t R) (hn : n < 1099511627776) (h8 : n % 8 ≠ 0) :
    Calls Try.prog 58 #[.pointer (some ⟨g, 0, none⟩), .int .i64 x] w fun e w' => e = .returned (.tuple #[]) ∧ WPost w w' g v (wbit bs n (x != 0)) (n + 1) t R := by
  have hlen := h.len
  obtain ⟨q, cap, rfl, hq⟩ := h.own.form (by omega)
  have c0 := h.blk.cell 0
  have c1 := h.blk.cell 1
  have f1 := h.blk.frozen 1
  have hb : ((n : Int) % 8 == 0) = false := by simp; omega
  have cq := h.own.cell (j := n / 8) (by omega)
  have fq := h.own.frozen (n / 8)
  have hne := h.own.ne_blk h.blk h.ty
  have hne' : ¬ q = g := fun e => hne (by rw [e]; rfl)
  have hi : ((n / 8 : Nat) : Int) < bs.length := by omega
  rw [two_0] at c0
  rw [two_1] at c1
  have Hlen := Lib.hid hlen
  clear hlen hne
  by_cases hx : x = 0
  · have hx' : (x != 0) = false := by simp [hx]
    have hW : wbit bs n (x != 0) = bs := by simp [wbit, hx, h8]
    have HW := Lib.hid hW
    clear hx hW
    go_enter Try.func58, Try.ntmps58
    go_wp2
    go_end0
    refine ⟨rfl, ?_⟩
    rw [HW.out]
    refine ⟨_, Wtr.count h.blk h.own (by have := Hlen.out; omega) h.byte h.ty _ (by omega), fun k hk => .inl hk, (Kept.refl _ _).setCell (fun _ => .inl rfl) _⟩
  · have hx' : (x != 0) = true := by simp [hx]
    have hW : wbit bs n (x != 0) = bs.set (n / 8) (bits .or .u8 (bs[n / 8]?.getD 0) (128 / 2 ^ (n % 8))) := by simp [wbit, hx, h8]
    have HW := Lib.hid hW
    clear hx hW
    go_enter Try.func58, Try.ntmps58
    go_wp2
    go_region
    go_wp2
    go_end0
    refine ⟨rfl, ?_⟩
    rw [HW.out]
    have hby := or_byte (bs[n / 8]?.getD 0) (n % 8)
    have ho := h.own.stored (n / 8) (bits .or .u8 (bs[n / 8]?.getD 0) (128 / 2 ^ (n % 8)))
    refine ⟨.slice (some ⟨q, 0, none⟩) bs.length cap, Wtr.drew (Wtr.count (n := n) (h.blk.far (Ne.symm hne') _) (by simpa using ho) (by rw [List.length_set]; have := Hlen.out; omega) (byte_set h.byte hby) h.ty _ (by omega)), fun k hk => .inl hk, ?_⟩
    exact (((Kept.refl _ _).setCell (fun _ => .inr rfl) _).setCell (fun _ => .inl rfl) _).drew

set_option maxHeartbeats 1600000 in
theorem wBit_app (g n : Nat) (v : Value) (bs : List Int) (w : World) (x : Int) (h : Wtr w g v bs n t R) (hn : n < 1099511627776) (h8 : n % 8 = 0) :
    Calls Try.prog 58 #[.pointer (some ⟨g, 0, none⟩), .int .i64 x] w fun e w' => e = .returned (.tuple #[]) ∧ WPost w w' g v (wbit bs n (x != 0)) (n + 1) t R := by
  have hlen := h.len
  have c0 := h.blk.cell 0
  have c1 := h.blk.cell 1
  have f1 := h.blk.frozen 1
  have f0 := h.blk.frozen 0
  have hgl := h.blk.lt
  have hb : ((n : Int) % 8 == 0) = true := by simp; omega
  have hne := h.own.ne_blk h.blk h.ty
  obtain ⟨A, vc, hv, _, _⟩ := h.own.row
  subst hv
  obtain ⟨i0, hi, hz0, hz1, hz2⟩ := info_parts Try.infoByte
  rw [two_0] at c0
  rw [two_1] at c1
  have hl2 : bs.length ≤ 1099511627776 := by omega
  have Hlen := Lib.hid hlen
  clear hlen
  go_enter Try.func58, Try.ntmps58
  go_wp2_with (at_builtin; refine wpList_append_lies _ rfl (.tmp 16) (.tmp 17) 27 rfl 0 5 i0 (.int .u8 0) 1 1 Try.underlying27 hi hz0 hz1 hz2 rfl (by decide) _ bs.length (ivs .u8 bs) rfl (World.ownsRow.alloc h.own _) ⟨w.heap.size, 0, none⟩ 1 1 (ivs .u8 [0]) rfl rfl (cell_one_new _ _ _) (ivs_one _ _) (by decide) (by unfold maxLen; omega) (by omega) (by omega) (w.heap.size + 1) (by simp) ?_)
  intro q cap w1 hown hgrow hat hlt
  have hq : q ≠ g := by
    rcases hat with e | e
    · intro e'; subst e'; exact hne e
    · omega
  have hblk1 : Blk w1 g t (#[.slice A bs.length vc, .int .i64 n] ++ R) := (h.blk.alloc _).grown hgrow (fun e => hne e.symm)
  have hk1 : Kept (WFoot g (.slice A bs.length vc)) w w1 := ((Kept.refl _ _).alloc _).grown hgrow (fun k e _ => .inr e)
  have how1 : Own w1 5 .u8 (.slice (some ⟨q, 0, none⟩) (bs.length + 1) cap) (bs ++ [0]) := Own.of_append hown (by simp)
  have hfoot : ∀ k, (Value.slice (some ⟨q, 0, none⟩) (bs.length + 1) cap).ownBlock = some k → (Value.slice A bs.length vc).ownBlock = some k ∨ w.heap.size ≤ k := by
    intro k hk
    have : q = k := by simpa [Value.ownBlock] using hk
    subst this
    rcases hat with e | e
    · exact .inl e
    · exact .inr (by omega)
  have k0 := hblk1.cell 0
  have k1 := hblk1.cell 1
  have l0 := hblk1.frozen 0
  have l1 := hblk1.frozen 1
  rw [two_0] at k0
  rw [two_1] at k1
  have cq : w1.cell? ⟨q, n / 8, none⟩ = some (.int .u8 0) := by
    rw [hown.cellAt (n / 8) (by have := Hlen.out; omega)]
    have : n / 8 = (ivs .u8 bs).length := by rw [ivs_length]; have := Hlen.out; omega
    rw [this]; simp [ivs]
  have fq := hown.frozenAt (n / 8)
  have hi : ((n / 8 : Nat) : Int) < (bs.length : Int) + 1 := by have := Hlen.out; omega
  have hby := h.byte
  have Hblk := Lib.hid hblk1
  have Hk := Lib.hid hk1
  have How := Lib.hid how1
  have Hf := Lib.hid hfoot
  have Hby := Lib.hid hby
  have Hty := Lib.hid h.ty
  have H8 := Lib.hid h8
  have hbl : (bs.length : Int) + 1 ≤ 1099511627777 := by omega
  clear hown h hgrow hblk1 hk1 how1 hfoot hby h8 hne hat hl2
  have hB : Blk (w1.setCell ⟨g, 0, none⟩ (.slice (some ⟨q, 0, none⟩) (bs.length + 1) cap)) g t (#[.slice (some ⟨q, 0, none⟩) (bs.length + 1) cap, .int .i64 n] ++ R) := by have := Hblk.out.set_ 0 (.slice (some ⟨q, 0, none⟩) (bs.length + 1) cap); rwa [set_0] at this
  have hO : Own (w1.setCell ⟨g, 0, none⟩ (.slice (some ⟨q, 0, none⟩) (bs.length + 1) cap)) 5 .u8 (.slice (some ⟨q, 0, none⟩) (bs.length + 1) cap) (bs ++ [0]) := How.out.setFar (by simpa [Value.ownBlock] using hq) _
  have HB := Lib.hid hB
  have HO := Lib.hid hO
  clear hB hO
  by_cases hx : x = 0
  · have hx' : (x != 0) = false := by simp [hx]
    have hW : wbit bs n (x != 0) = bs ++ [0] := by simp [wbit, hx, H8.out]
    have HW := Lib.hid hW
    clear hx hW
    go_wp2
    go_end0
    refine ⟨rfl, ?_⟩
    rw [HW.out]
    refine ⟨_, Wtr.count HB.out HO.out (by have := Hlen.out; have := H8.out; simp; omega) (byte_app Hby.out) Hty.out _ (by omega), Hf.out, (Hk.out.setCell (fun _ => .inl rfl) _).setCell (fun _ => .inl rfl) _⟩
  · have hx' : (x != 0) = true := by simp [hx]
    have hW : wbit bs n (x != 0) = (bs ++ [0]).set (n / 8) (bits .or .u8 0 (128 / 2 ^ (n % 8))) := by
      have e : n / 8 = bs.length := by have := Hlen.out; have := H8.out; omega
      simp [wbit, hx, H8.out, e]
    have HW := Lib.hid hW
    clear hx hW
    go_wp2
    go_region
    all_goals go_wp2
    go_end0
    refine ⟨rfl, ?_⟩
    rw [HW.out]
    have hby := or_byte 0 (n % 8)
    have hlA : (bs ++ [0]).length = bs.length + 1 := by simp
    have hO2 := HO.out
    rw [← hlA] at hO2
    have ho := hO2.stored (n / 8) (bits .or .u8 0 (128 / 2 ^ (n % 8)))
    rw [hlA] at ho hO2
    refine ⟨_, Wtr.drew (Wtr.count (n := n) (HB.out.far (Ne.symm hq) _) ho (by have := Hlen.out; have := H8.out; simp; omega) (byte_set (byte_app Hby.out) hby) Hty.out _ (by omega)), Hf.out, ?_⟩
    exact (((Hk.out.setCell (fun _ => .inl rfl) _).setCell (p := ⟨q, n / 8, none⟩) (fun hlt' => (Hf.out q rfl).elim .inr (fun e => by simp at hlt'; omega)) _).setCell (fun _ => .inl rfl) _).drew

/-- Bit: P1.1. -/
theorem wBit_any (g n : Nat) (v : Value) (bs : List Int) (w : World) (x : Int) (h : Wtr w g v bs n t R) (hn : n < 1099511627776) :
    Calls Try.prog 58 #[.pointer (some ⟨g, 0, none⟩), .int .i64 x] w fun e w' => e = .returned (.tuple #[]) ∧ WPost w w' g v (wbit bs n (x != 0)) (n + 1) t R := by
  by_cases h8 : n % 8 = 0
  · exact wBit_app g n v bs w x h hn h8
  · exact wBit_in g n v bs x w h hn h8

/-- Many bits. -/
def wmany (bs : List Int) (n : Nat) : List Bool → List Int
  | [] => bs
  | b :: r => wmany (wbit bs n b) (n + 1) r

theorem wmany_snoc (b : Bool) : ∀ (L : List Bool) (bs : List Int) (n : Nat), wmany bs n (L ++ [b]) = wbit (wmany bs n L) (n + L.length) b
  | [], _, _ => rfl
  | a :: r, bs, n => by
    show wmany (wbit bs n a) (n + 1) (r ++ [b]) = wbit (wmany (wbit bs n a) (n + 1) r) (n + (r.length + 1)) b
    rw [wmany_snoc b r, show n + 1 + r.length = n + (r.length + 1) from by omega]

theorem wmany_append (M : List Bool) : ∀ (L : List Bool) (bs : List Int) (n : Nat), wmany bs n (L ++ M) = wmany (wmany bs n L) (n + L.length) M
  | [], _, _ => rfl
  | a :: r, bs, n => by
    show wmany (wbit bs n a) (n + 1) (r ++ M) = wmany (wmany (wbit bs n a) (n + 1) r) (n + (r.length + 1)) M
    rw [wmany_append M r, show n + 1 + r.length = n + (r.length + 1) from by omega]

/-- The k lowest bits, the highest first. -/
def bitsOf (x k : Nat) : List Bool := (List.range k).map fun j => x.testBit (k - 1 - j)

theorem bitsOf_length (x k : Nat) : (bitsOf x k).length = k := by simp [bitsOf]
theorem bitsOf_take (x k j : Nat) (h : j < k) : (bitsOf x k).take (j + 1) = (bitsOf x k).take j ++ [x.testBit (k - 1 - j)] := by
  rw [List.take_succ_eq_append_getElem (by rw [bitsOf_length]; exact h)]
  simp [bitsOf]

theorem and_one_bit (x i : Nat) (hx : x < 4294967296) : (wrap64 (bits .and .u32 ((x : Int) / 2 ^ i) 1) != 0) = x.testBit i := by
  have e : ((x : Int) / 2 ^ i) = ((x / 2 ^ i : Nat) : Int) := by simp
  have hd : x / 2 ^ i < 4294967296 := Nat.lt_of_le_of_lt (Nat.div_le_self _ _) hx
  rw [e, show (1 : Int) = ((1 : Nat) : Int) from rfl, u32_and_nat _ _ hd (by omega), nat_mask1, IntWalk.wrap64_in _ (by omega)]
  rw [Nat.testBit_eq_decide_div_mod_eq]
  rcases Nat.mod_two_eq_zero_or_one (x / 2 ^ i) with h | h <;> simp [h]

theorem WPost.mid {w w1 : World} {g : Nat} {v : Value} {bs1 : List Int} {n1 : Nat} (h : WPost w w1 g v bs1 n1 t R) : ∃ v1, Wtr w1 g v1 bs1 n1 t R ∧ ∀ w2 bs2 n2, WPost w1 w2 g v1 bs2 n2 t R → WPost w w2 g v bs2 n2 t R := by
  obtain ⟨v1, h1, hv, hk⟩ := h
  exact ⟨v1, h1, fun w2 bs2 n2 h2 => WPost.trans hv hk h2⟩

theorem WPost.refl {w : World} {g : Nat} {v : Value} {bs : List Int} {n : Nat} (h : Wtr w g v bs n t R) : WPost w w g v bs n t R := ⟨v, h, fun _ hk => .inl hk, Kept.refl _ _⟩

/-- Bits: P1.1. -/
def wBitsN (m : Int) : Nat := (clamp m 32).toNat

set_option maxHeartbeats 1600000 in
theorem wBits_any (g n : Nat) (v : Value) (bs : List Int) (w : World) (x : Nat) (m : Int) (h : Wtr w g v bs n t R) (hn : n < 1000000000000) (hx : x < 4294967296) :
    Calls Try.prog 54 #[.pointer (some ⟨g, 0, none⟩), .int .u32 x, .int .i64 m] w fun e w' => e = .returned (.tuple #[]) ∧ WPost w w' g v (wmany bs n (bitsOf x (wBitsN m))) (n + wBitsN m) t R := by
  have hc : 0 ≤ clamp m 32 ∧ clamp m 32 ≤ 32 := by unfold clamp; split <;> (try split) <;> omega
  obtain ⟨k, hk⟩ : ∃ k : Nat, clamp m 32 = k := ⟨(clamp m 32).toNat, by omega⟩
  have hk32 : k ≤ 32 := by omega
  have hkk : wBitsN m = k := by unfold wBitsN; omega
  rw [hkk]
  have Hk := Lib.hid hk
  clear hk hc hkk
  go_enter Try.func54, Try.ntmps54
  go_wp2_with fail
  refine (within_any _ _ _).mono ?_
  rintro e w' ⟨rfl, rfl⟩
  rw [Hk.out]
  go_wp2_with fail
  go_loopw [6] (fun i wr => ∃ j : Nat, j ≤ k ∧ i = .int .i64 ((k : Int) - 1 - j) ∧ WPost w wr g v (wmany bs n ((bitsOf x k).take j)) (n + j) t R) (fun i _ => (intOf i + 1).toNat)
  case atStart => exact ⟨0, by omega, by simp, WPost.refl h⟩
  case round =>
    obtain ⟨j, hj, rfl, h1⟩ := hrel
    obtain ⟨v1, hw1, hto⟩ := h1.mid
    have Hto := Lib.hid hto
    have Hh1 := Lib.hid h1
    clear hto h1
    by_cases hlt : j < k
    · go_wp2_with fail
      refine (wBit_any g (n + j) v1 _ _ _ hw1 (by omega)).mono ?_
      rintro e w' ⟨rfl, hp⟩
      rw [and_one_bit _ _ hx] at hp
      have hq := Hto.out _ _ _ hp
      rw [show n + j = n + ((bitsOf x k).take j).length from by rw [List.length_take, bitsOf_length]; omega, ← wmany_snoc, ← bitsOf_take x k j hlt] at hq
      rw [show n + ((bitsOf x k).take j).length + 1 = n + (j + 1) from by rw [List.length_take, bitsOf_length]; omega] at hq
      have Hq := Lib.hid hq
      clear hq hp
      go_wp2_with fail
      go_roundw
      case rel => exact ⟨j + 1, by omega, by go_num, Hq.out⟩
      case measure => simp [intOf]; omega
    · go_wp2_with fail
      go_end0
      have : j = k := by omega
      subst this
      have hfin := Hh1.out
      rw [List.take_of_length_le (by rw [bitsOf_length]; omega)] at hfin
      exact ⟨rfl, hfin⟩

theorem replicate_take_one (b : Bool) (k : Nat) : List.replicate (k + 1) b = List.replicate k b ++ [b] := List.replicate_succ'

/-- Unary: P1.1. -/
def wUnaryN (m : Int) : Nat := (clamp m 4096).toNat

set_option maxHeartbeats 1600000 in
theorem wUnary_any (g n : Nat) (v : Value) (bs : List Int) (w : World) (m : Int) (h : Wtr w g v bs n t R) (hn : n < 1000000000000) :
    Calls Try.prog 60 #[.pointer (some ⟨g, 0, none⟩), .int .i64 m] w fun e w' => e = .returned (.tuple #[]) ∧ WPost w w' g v (wmany bs n (List.replicate (wUnaryN m) true ++ [false])) (n + (wUnaryN m + 1)) t R := by
  have hc : 0 ≤ clamp m 4096 ∧ clamp m 4096 ≤ 4096 := by unfold clamp; split <;> (try split) <;> omega
  obtain ⟨k, hk⟩ : ∃ k : Nat, clamp m 4096 = k := ⟨(clamp m 4096).toNat, by omega⟩
  have hk32 : k ≤ 4096 := by omega
  have hkk : wUnaryN m = k := by unfold wUnaryN; omega
  rw [hkk]
  have Hk := Lib.hid hk
  clear hk hc hkk
  go_enter Try.func60, Try.ntmps60
  go_wp2_with fail
  refine (within_any _ _ _).mono ?_
  rintro e w' ⟨rfl, rfl⟩
  rw [Hk.out]
  go_wp2_with fail
  go_loopw [6] (fun i wr => ∃ j : Nat, j ≤ k ∧ i = .int .i64 j ∧ WPost w wr g v (wmany bs n (List.replicate j true)) (n + j) t R) (fun i _ => (k - intOf i).toNat)
  case atStart => exact ⟨0, by omega, by simp, WPost.refl h⟩
  case round =>
    obtain ⟨j, hj, rfl, h1⟩ := hrel
    obtain ⟨v1, hw1, hto⟩ := h1.mid
    have Hto := Lib.hid hto
    clear hto h1
    by_cases hlt : j < k
    · go_wp2_with fail
      refine (wBit_any g (n + j) v1 _ _ _ hw1 (by omega)).mono ?_
      rintro e w' ⟨rfl, hp⟩
      have hq := Hto.out _ _ _ hp
      rw [show ((1 : Int) != 0) = true from rfl, show n + j = n + (List.replicate j true).length from by simp, ← wmany_snoc, ← replicate_take_one] at hq
      rw [show n + (List.replicate j true).length + 1 = n + (j + 1) from by simp; omega] at hq
      have Hq := Lib.hid hq
      clear hq hp
      go_wp2_with fail
      go_roundw
      case rel => exact ⟨j + 1, by omega, by go_num, Hq.out⟩
      case measure => simp [intOf]; omega
    · have : j = k := by omega
      subst this
      go_wp2_with fail
      refine (wBit_any g (n + j) v1 _ _ _ hw1 (by omega)).mono ?_
      rintro e w' ⟨rfl, hp⟩
      have hq := Hto.out _ _ _ hp
      rw [show ((0 : Int) != 0) = false from rfl, show n + j = n + (List.replicate j true).length from by simp, ← wmany_snoc] at hq
      rw [show n + (List.replicate j true).length + 1 = n + (j + 1) from by simp; omega] at hq
      have Hq := Lib.hid hq
      clear hq hp
      go_wp2_with fail
      go_end0
      exact ⟨rfl, Hq.out⟩



set_option maxHeartbeats 400000 in
theorem wBytes_nil (w : World) : Calls Try.prog 51 #[.pointer none] w fun e w' => e = .returned (.slice none 0 0) ∧ w = w' := by
  go_enter Try.func51, Try.ntmps51
  go_wp2
  go_ret
  exact ⟨rfl, rfl⟩

set_option maxHeartbeats 400000 in
theorem wBit_nil (n : Int) (w : World) : Calls Try.prog 58 #[.pointer none, .int .i64 n] w fun e w' => e = .returned (.tuple #[]) ∧ w = w' := by
  go_enter Try.func58, Try.ntmps58
  go_wp2
  refine bodyPost_ret (results_none rfl _ _ _) rfl ?_
  exact ⟨rfl, rfl⟩

set_option maxHeartbeats 1600000 in
theorem wBits_nil (w : World) (x : Nat) (m : Int) (_hx : x < 4294967296) :
    Calls Try.prog 54 #[.pointer none, .int .u32 x, .int .i64 m] w fun e w' => e = .returned (.tuple #[]) ∧ w = w' := by
  have hc : 0 ≤ clamp m 32 ∧ clamp m 32 ≤ 32 := by unfold clamp; split <;> (try split) <;> omega
  obtain ⟨k, hk⟩ : ∃ k : Nat, clamp m 32 = k := ⟨(clamp m 32).toNat, by omega⟩
  have hk32 : k ≤ 32 := by omega
  have Hk := Lib.hid hk
  clear hk hc
  go_enter Try.func54, Try.ntmps54
  go_wp2_with fail
  refine (within_any _ _ _).mono ?_
  rintro e w' ⟨rfl, rfl⟩
  rw [Hk.out]
  go_wp2_with fail
  go_loop [6] (fun i => ∃ j : Nat, j ≤ k ∧ i = .int .i64 ((k : Int) - 1 - j)) (fun i => (intOf i + 1).toNat)
  case atStart => exact ⟨0, by omega, by simp⟩
  case round =>
    obtain ⟨j, hj, rfl⟩ := hrel
    by_cases hlt : j < k
    · go_wp2_with fail
      refine (wBit_nil _ _).mono ?_
      rintro e w' ⟨rfl, rfl⟩
      go_wp2_with fail
      go_round
      case rel => exact ⟨j + 1, by omega, by go_num⟩
      case measure => simp [intOf]; omega
    · go_wp2_with fail
      go_end0
      exact ⟨rfl, rfl⟩

set_option maxHeartbeats 1600000 in
theorem wUnary_nil (w : World) (m : Int) :
    Calls Try.prog 60 #[.pointer none, .int .i64 m] w fun e w' => e = .returned (.tuple #[]) ∧ w = w' := by
  have hc : 0 ≤ clamp m 4096 ∧ clamp m 4096 ≤ 4096 := by unfold clamp; split <;> (try split) <;> omega
  obtain ⟨k, hk⟩ : ∃ k : Nat, clamp m 4096 = k := ⟨(clamp m 4096).toNat, by omega⟩
  have hk32 : k ≤ 4096 := by omega
  have Hk := Lib.hid hk
  clear hk hc
  go_enter Try.func60, Try.ntmps60
  go_wp2_with fail
  refine (within_any _ _ _).mono ?_
  rintro e w' ⟨rfl, rfl⟩
  rw [Hk.out]
  go_wp2_with fail
  go_loop [6] (fun i => ∃ j : Nat, j ≤ k ∧ i = .int .i64 j) (fun i => (k - intOf i).toNat)
  case atStart => exact ⟨0, by omega, by simp⟩
  case round =>
    obtain ⟨j, hj, rfl⟩ := hrel
    by_cases hlt : j < k
    · go_wp2_with fail
      refine (wBit_nil _ _).mono ?_
      rintro e w' ⟨rfl, rfl⟩
      go_wp2_with fail
      go_round
      case rel => exact ⟨j + 1, by omega, by go_num⟩
      case measure => simp [intOf]; omega
    · go_wp2_with fail
      refine (wBit_nil _ _).mono ?_
      rintro e w' ⟨rfl, rfl⟩
      go_wp2_with fail
      go_end0
      exact ⟨rfl, rfl⟩

set_option maxHeartbeats 800000 in
theorem wBytes_any (g n : Nat) (v : Value) (bs : List Int) (w : World) (h : Wtr w g v bs n t R) (hn : n < 1000000000000) :
    Calls Try.prog 51 #[.pointer (some ⟨g, 0, none⟩)] w fun e w' => ∃ u, e = .returned u ∧ NewRow w w' 5 .u8 u bs := by
  have c0 := h.blk.cell 0
  rw [two_0] at c0
  have hl := h.len
  obtain ⟨A, c, rfl, hr, _⟩ := h.own.row
  obtain ⟨i0, hi, hz0, hz1, hz2⟩ := info_parts Try.infoByte
  have hl2 : bs.length ≤ 1000000000000 := by omega
  clear h hl
  go_enter Try.func51, Try.ntmps51
  go_wp2_with (at_builtin; refine wpList_app _ rfl _ _ 27 rfl 5 i0 .u8 1 Try.underlying27 hi hz0 hz1 hz2 (.slice none 0 0) [] rfl (Own.nil _ _ _) A bs.length c bs rfl hr (by unfold maxLen; simp; omega) (by simp; omega) ?_)
  intro v' w' hown hg hat
  go_wp2
  go_ret
  refine ⟨v', rfl, by simpa using hown, fun k hk => ?_, (Kept.refl _ _).grown hg (fun k e _ => by cases e)⟩
  rcases hat with e | e
  · rw [e] at hk; cases hk
  · rw [e] at hk; injection hk with hk; omega

end Go.Proofs.Ytodmchjdflpbpaa
