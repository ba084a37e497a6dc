/- Texts of this proof, one behind the other: CodS, CodE, CodF. -/
import Derived.Test.YtpknbfkknnaajaaDoorPart2
import Derived.Test.YtpknbfkknnaajaaDoorPart1
import Derived.Deep.QuietTactic
import Derived.BigQuiet
import Derived.Lib.MinMax
import Derived.Laws.BitsAllLaws
import Derived.BigRegion
import Derived.Deep.RegionHeld3
import Derived.Deep.DrawnRows
import Derived.Deep.RegionLaw

/- The contracts of coder.span: high, mid, narrow, settled, shift; at the head of a block of whatever type. -/
namespace Go.Proofs.YtpknbfkknnaajaaDoor
set_option maxRecDepth 100000
open Go.RowKit

/-- A range at the head of block g: low, and how far high is below the greatest number. -/
structure Span (w : World) (g : Nat) (l h : Nat) : Prop where
  c0 : w.cell? ⟨g, 0, none⟩ = some (.int .u32 l)
  c1 : w.cell? ⟨g, 1, none⟩ = some (.int .u32 (4294967295 - h))
  f0 : w.frozen? ⟨g, 0, none⟩ = false
  f1 : w.frozen? ⟨g, 1, none⟩ = false

theorem not_nat (s : Nat) (h : s < 4294967296) : 4294967295 ^^^ s = 4294967295 - s := by
  have h1 : ((BitVec.allOnes 32) ^^^ (BitVec.ofNat 32 s)).toNat = (~~~ (BitVec.ofNat 32 s)).toNat := by rw [BitVec.allOnes_xor]
  rw [BitVec.toNat_xor, BitVec.toNat_not, BitVec.toNat_allOnes, BitVec.toNat_ofNat, Nat.mod_eq_of_lt h] at h1
  exact h1
theorem not_u32 (x : Int) (h0 : 0 ≤ x) (h1 : x < 4294967296) : bits .xor .u32 IntKind.u32.max x = 4294967295 - x := by
  obtain ⟨s, rfl⟩ := Int.eq_ofNat_of_zero_le h0
  have := u32_xor_nat 4294967295 s (by omega) (by omega)
  rw [not_nat s (by omega)] at this
  show bits .xor .u32 ((4294967295 : Nat) : Int) (s : Int) = _
  rw [this]
  omega
theorem cmid_int {l h k : Nat} (o : Open l h) (hk : k ≤ 4095) :
    (((l : Int) + ((h : Int) - l) / 4096 * k) % 4294967296 + ((h : Int) - l) % 4096 * k % 4294967296 / 4096) % 4294967296 = ((midN l h k : Nat) : Int) := by
  obtain ⟨d, rfl⟩ : ∃ d, h = l + d := ⟨h - l, by have := o.lt; omega⟩
  have h1 := mid_parts d k hk (by have := o.hi; omega)
  have h2 := o.hi
  have e1 : (((l + d : Nat) : Int) - l) = (d : Int) := by omega
  have e2 : (d : Int) / 4096 * k = ((d / 4096 * k : Nat) : Int) := by simp
  have e3 : (d : Int) % 4096 * k = ((d % 4096 * k : Nat) : Int) := by simp
  rw [e1, e2, e3]
  unfold midN
  rw [show l + d - l = d from by omega]
  omega
theorem ones8 (h : Nat) (_hh : h < 4294967296) : (4294967295 - (h : Int)) * 256 % 4294967296 = 4294967295 - ((shh h : Nat) : Int) := by unfold shh; omega
theorem settled_int (l h : Nat) : (((l : Int) / 16777216) == ((h : Int) / 16777216)) = settledB l h := by
  unfold settledB
  by_cases e : l / 16777216 = h / 16777216
  · rw [decide_eq_true e, beq_iff_eq]; omega
  · rw [decide_eq_false e, beq_eq_false_iff_ne]; omega

theorem Span.drewN {w : World} {g l h : Nat} (s : Span w g l h) (n : Nat) : Span (w.drewN n) g l h := ⟨s.c0, s.c1, s.f0, s.f1⟩

set_option maxHeartbeats 400000 in
theorem high_any (g l h : Nat) (w : World) (s : Span w g l h) (hh : h < 4294967296) :
    Calls Tryd.prog 80 #[.pointer (some ⟨g, 0, none⟩)] w fun e w' => e = .returned (.int .u32 h) ∧ w' = w := by
  have c1 := s.c1
  clear s
  go_enter Tryd.func80, Tryd.ntmps80
  go_wp2
  go_ret
  exact ⟨ret_int (by rw [not_u32 _ (by omega) (by omega)]; omega), rfl⟩

set_option maxHeartbeats 800000 in
theorem mid_any (g l h : Nat) (c : Int) (w : World) (s : Span w g l h) (o : Open l h) :
    Calls Tryd.prog 70 #[.pointer (some ⟨g, 0, none⟩), .int .i64 c] w fun e w' => e = .returned (.int .u32 (midN l h (cc c))) ∧ ∃ n, w' = w.drewN n := by
  have c0 := s.c0
  have hlt := o.lt
  have hhi := o.hi
  go_enter Tryd.func70, Tryd.ntmps70
  go_wp2
  go_quiet ((go_at_call 80; exact Calls.quiet_of_same (high_any g l h _ (s.drewN _) o.hi)))
  go_wp2
  go_ret
  exact ⟨ret_int (by rw [cc_eq2]; exact cmid_int o (cc_bd c).2), _, rfl⟩
set_option maxHeartbeats 800000 in
theorem settled_any (g l h : Nat) (w : World) (s : Span w g l h) (o : Rng l h) :
    Calls Tryd.prog 72 #[.pointer (some ⟨g, 0, none⟩)] w fun e w' => e = .returned (.bool (settledB l h)) ∧ ∃ n, w' = w.drewN n := by
  have c0 := s.c0
  go_enter Tryd.func72, Tryd.ntmps72
  go_wp2
  go_quiet ((go_at_call 80; exact Calls.quiet_of_same (high_any g l h _ (s.drewN _) o.2)))
  go_wp2
  go_ret
  exact ⟨ret_bool (settled_int l h), _, rfl⟩
set_option maxHeartbeats 800000 in
theorem narrow_one (g l h m : Nat) (w : World) (s : Span w g l h) (hm : m < 4294967296) :
    Calls Tryd.prog 71 #[.pointer (some ⟨g, 0, none⟩), .bool true, .int .u32 m] w fun e w' => e = .returned (.tuple #[]) ∧ w' = w.setCell ⟨g, 1, none⟩ (.int .u32 (4294967295 - m)) := by
  obtain ⟨c0, c1, f0, f1⟩ := s
  go_enter Tryd.func71, Tryd.ntmps71
  go_wp2
  go_end0
  exact ⟨rfl, by rw [not_u32 _ (by omega) (by omega)]⟩
set_option maxHeartbeats 800000 in
theorem narrow_zero (g l h m : Nat) (w : World) (s : Span w g l h) (hm : m < 4294967295) :
    Calls Tryd.prog 71 #[.pointer (some ⟨g, 0, none⟩), .bool false, .int .u32 m] w fun e w' => e = .returned (.tuple #[]) ∧ w' = w.setCell ⟨g, 0, none⟩ (.int .u32 ((m + 1 : Nat) : Int)) := by
  obtain ⟨c0, c1, f0, f1⟩ := s
  go_enter Tryd.func71, Tryd.ntmps71
  go_wp2
  go_end0
  exact ⟨rfl, by rw [show ((m + 1 : Nat) : Int) = (m : Int) + 1 from by omega]⟩
set_option maxHeartbeats 800000 in
theorem shift_any (g l h : Nat) (w : World) (s : Span w g l h) (o1 : l < 4294967296) (o2 : h < 4294967296) :
    Calls Tryd.prog 37 #[.pointer (some ⟨g, 0, none⟩)] w fun e w' => e = .returned (.int .u8 ((l / 16777216 : Nat) : Int)) ∧ w' = (w.setCell ⟨g, 0, none⟩ (.int .u32 (shl l))).setCell ⟨g, 1, none⟩ (.int .u32 (4294967295 - shh h)) := by
  obtain ⟨c0, c1, f0, f1⟩ := s
  go_enter Tryd.func37, Tryd.ntmps37
  go_wp2
  go_ret
  exact ⟨ret_int (by omega), by rw [ones8 h o2, show ((shl l : Nat) : Int) = (l : Int) * 256 % 4294967296 from by unfold shl; omega]⟩

end Go.Proofs.YtpknbfkknnaajaaDoor

/- The contracts of coder.Encoder. -/
namespace Go.Proofs.YtpknbfkknnaajaaDoor
set_option maxRecDepth 100000
open Go.RowKit

attribute [local go_sem ↓] Go.wp_at_zero Go.wp_at_succ

theorem Tryd.infoByteC : (Tryd.prog.info? 5).map (fun i => (i.zero, i.size, i.bytes)) = some (some (.int .u8 0), 1, 1) := by kernel_rfl

/-- An encoder at block g, of type t: low, a second number y, and the bytes bs that were put out, owned by v. -/
structure Enc (w : World) (g : Nat) (t : TypeId) (l : Nat) (y : Int) (v : Value) (bs : List Int) : Prop where
  blk : Blk w g t #[.int .u32 l, .int .u32 y, v]
  own : Own w 5 .u8 v bs
  byte : ∀ x ∈ bs, 0 ≤ x ∧ x < 256

section
variable {w w' : World} {g : Nat} {t : TypeId} {l : Nat} {y : Int} {v : Value} {bs : List Int}
theorem Enc.drew (h : Enc w g t l y v bs) : Enc w.drew g t l y v bs := ⟨h.blk, h.own, h.byte⟩
theorem Enc.drewN (h : Enc w g t l y v bs) (n : Nat) : Enc (w.drewN n) g t l y v bs := ⟨h.blk, h.own, h.byte⟩
theorem Enc.kept {S : Nat → Prop} (h : Enc w g t l y v bs) (hk : Kept S w w') (hg : ¬ S g) (hv : ∀ k, v.ownBlock = some k → ¬ S k) : Enc w' g t l y v bs :=
  ⟨h.blk.kept hk hg, h.own.kept hk hv, h.byte⟩
theorem Enc.ne_ (h : Enc w g t l y v bs) (ht : 5 ≠ t) : v.ownBlock ≠ some g := h.own.ne_blk h.blk ht
theorem Enc.set0 (h : Enc w g t l y v bs) (ht : 5 ≠ t) (l' : Nat) : Enc (w.setCell ⟨g, 0, none⟩ (.int .u32 l')) g t l' y v bs :=
  ⟨by simpa using h.blk.set_ 0 (.int .u32 l'), h.own.setFar (h.ne_ ht) _, h.byte⟩
theorem Enc.set1 (h : Enc w g t l y v bs) (ht : 5 ≠ t) (y' : Int) : Enc (w.setCell ⟨g, 1, none⟩ (.int .u32 y')) g t l y' v bs :=
  ⟨by simpa using h.blk.set_ 1 (.int .u32 y'), h.own.setFar (h.ne_ ht) _, h.byte⟩
end

/-- A number in memory, for measures. -/
def numIn (w : World) (g i : Nat) : Int := match w.cell? ⟨g, i, none⟩ with | some (.int _ x) => x | _ => 0
theorem Enc.num0 {w : World} {g : Nat} {t : TypeId} {l : Nat} {y : Int} {v : Value} {bs : List Int} (h : Enc w g t l y v bs) : numIn w g 0 = l := by
  unfold numIn; rw [show w.cell? ⟨g, 0, none⟩ = some (.int .u32 l) from by simpa using h.blk.cell 0]
theorem Enc.num1 {w : World} {g : Nat} {t : TypeId} {l : Nat} {y : Int} {v : Value} {bs : List Int} (h : Enc w g t l y v bs) : numIn w g 1 = y := by
  unfold numIn; rw [show w.cell? ⟨g, 1, none⟩ = some (.int .u32 y) from by simpa using h.blk.cell 1]

/-- What an encoder's call leaves alone. -/
def EFoot (g : Nat) (v : Value) (k : Nat) : Prop := k = g ∨ v.ownBlock = some k

/-- What a call of an encoder leaves. -/
def EPost (w w' : World) (g : Nat) (t : TypeId) (v : Value) (l' : Nat) (y' : Int) (bs' : List Int) : Prop :=
  ∃ v', Enc w' g t l' y' v' bs' ∧ (∀ k, v'.ownBlock = some k → v.ownBlock = some k ∨ w.heap.size ≤ k) ∧ Kept (EFoot g v) w w'

theorem EPost.refl {w : World} {g : Nat} {t : TypeId} {l : Nat} {y : Int} {v : Value} {bs : List Int} (h : Enc w g t l y v bs) : EPost w w g t v l y bs := ⟨v, h, fun _ hk => .inl hk, Kept.refl _ _⟩
theorem EPost.trans {w w1 w2 : World} {g : Nat} {t : TypeId} {v v1 : Value} {l2 : Nat} {y2 : Int} {bs2 : List Int} (hv : ∀ k, v1.ownBlock = some k → v.ownBlock = some k ∨ w.heap.size ≤ k) (hk : Kept (EFoot g v) w w1)
    (h : EPost w1 w2 g t v1 l2 y2 bs2) : EPost w w2 g t v l2 y2 bs2 := by
  obtain ⟨v2, h2, hv2, hk2⟩ := h
  refine ⟨v2, h2, fun k hk' => ?_, hk.trans hk2 fun i hi hf => ?_⟩
  · rcases hv2 k hk' with e | e
    · exact hv k e
    · exact .inr (Nat.le_trans hk.size e)
  · rcases hf with rfl | hf
    · exact .inl rfl
    · rcases hv i hf with e | e
      · exact .inr e
      · omega

/-- The code's encoder. -/
abbrev EncC (w : World) (g l h : Nat) (v : Value) (bs : List Int) : Prop := Enc w g 66 l (4294967295 - (h : Int)) v bs

theorem Enc.span {w : World} {g l h : Nat} {v : Value} {bs : List Int} (e : EncC w g l h v bs) : Span w g l h :=
  ⟨by simpa using e.blk.cell 0, by simpa using e.blk.cell 1, e.blk.frozen 0, e.blk.frozen 1⟩

set_option maxHeartbeats 400000 in
theorem newEnc_any (w : World) : Calls Tryd.prog 34 #[] w fun e w' => ∃ g, e = .returned (.pointer (some ⟨g, 0, none⟩)) ∧ EncC w' g 0 4294967295 (.slice none 0 0) [] ∧ w.heap.size ≤ g ∧ Fresh w w' := by
  go_enter Tryd.func34, Tryd.ntmps34
  go_wp2
  go_ret
  exact ⟨w.heap.size, rfl, ⟨Blk.new _ _ _, Own.nil _ _ _, by simp⟩, Nat.le_refl _, (Kept.refl _ _).alloc _⟩

theorem Kept.one (w : World) (g i : Nat) (u : Value) : Kept (fun k => k = g) w (w.setCell ⟨g, i, none⟩ u) := Kept.setCell (Kept.refl (fun k => k = g) w) (p := ⟨g, i, none⟩) (fun _ => rfl) u

/-- shift, at an encoder. -/
theorem eShift (g l h : Nat) (v : Value) (bs : List Int) (w : World) (e : EncC w g l h v bs) (o : Rng l h) :
    Calls Tryd.prog 37 #[.pointer (some ⟨g, 0, none⟩)] w fun e w' => e = .returned (.int .u8 ((l / 16777216 : Nat) : Int)) ∧ EncC w' g (shl l) (shh h) v bs ∧ Kept (fun k => k = g) w w' := by
  refine (shift_any g l h w e.span (by have := o.1; have := o.2; omega) o.2).mono ?_
  rintro e' w' ⟨rfl, rfl⟩
  exact ⟨rfl, (e.set0 (by decide) _).set1 (by decide) _, (Kept.one _ _ _ _).trans (Kept.one _ _ _ _) (fun _ _ h => h)⟩

/-- narrow, at an encoder. -/
theorem eNarrow (g l h k : Nat) (one : Bool) (v : Value) (bs : List Int) (w : World) (e : EncC w g l h v bs) (o : Open l h) (hk : k ≤ 4095) :
    Calls Tryd.prog 71 #[.pointer (some ⟨g, 0, none⟩), .bool one, .int .u32 (midN l h k)] w fun e w' => e = .returned (.tuple #[]) ∧ EncC w' g (nar one l h k).1 (nar one l h k).2 v bs ∧ Kept (fun k => k = g) w w' := by
  have hm := mid_le o.rng.1 o.hi hk
  have hlt := o.lt
  have hhi := o.hi
  cases one
  · refine (narrow_zero g l h _ w e.span (by omega)).mono ?_
    rintro e' w' ⟨rfl, rfl⟩
    exact ⟨rfl, e.set0 (by decide) _, Kept.one _ _ _ _⟩
  · refine (narrow_one g l h _ w e.span (by omega)).mono ?_
    rintro e' w' ⟨rfl, rfl⟩
    exact ⟨rfl, e.set1 (by decide) _, Kept.one _ _ _ _⟩

theorem EPost.of_kept {w w' : World} {g : Nat} {t : TypeId} {l l' : Nat} {y y' : Int} {v : Value} {bs bs' : List Int} (_h : Enc w g t l y v bs) (h' : Enc w' g t l' y' v bs') (hk : Kept (fun k => k = g) w w') : EPost w w' g t v l' y' bs' :=
  ⟨v, h', fun _ hk => .inl hk, hk.mono fun _ _ e => .inl e⟩

/-- One byte more, appended and stored. -/
theorem Enc.app {w w3 w4 : World} {g : Nat} {t : TypeId} {l : Nat} {y : Int} {v : Value} {B : List Int} {x : Int} {q cap n : Nat} {o : Obj} (he : Enc w3 g t l y v B) (ht : 5 ≠ t) (hk : Kept (fun k => k = g) w w3)
    (hown : w4.ownsRow 0 5 1 (.slice (some ⟨q, 0, none⟩) (B.length + 1) cap) (B.length + 1) (ivs .u8 B ++ ivs .u8 [x])) (hgrow : (w3.alloc o).grownBy w4 v.ownBlock) (hat : v.ownBlock = some q ∨ q = w3.heap.size + 1) (hx : 0 ≤ x ∧ x < 256) (hn : n = B.length + 1) :
    EPost w (w4.setCell ⟨g, 2, none⟩ (.slice (some ⟨q, 0, none⟩) n cap)) g t v l y (B ++ [x]) := by
  subst hn
  have hne := he.ne_ ht
  have hlt := he.blk.lt
  have hb := (he.blk.alloc o).grown hgrow (fun e => hne e.symm)
  have ho : Own w4 5 .u8 (.slice (some ⟨q, 0, none⟩) (B.length + 1) cap) (B ++ [x]) := Own.of_append hown (by simp)
  have hq : q ≠ g := by
    rcases hat with e | e
    · intro e'; subst e'; exact hne e
    · omega
  refine ⟨_, ⟨by simpa using hb.set_ 2 (.slice (some ⟨q, 0, none⟩) (B.length + 1) cap), ho.setFar (by simpa [Value.ownBlock] using hq) _, fun z hz => ?_⟩, fun k hk' => ?_, ?_⟩
  · rcases List.mem_append.1 hz with h | h
    · exact he.byte z h
    · obtain rfl : z = x := by simpa using h
      exact hx
  · have : q = k := by simpa [Value.ownBlock] using hk'
    subst this
    rcases hat with e | e
    · exact .inl e
    · exact .inr (by have := hk.size; omega)
  · refine Kept.setCell ?_ (p := ⟨g, 2, none⟩) (fun _ => .inl rfl) _
    refine Kept.grown (Kept.alloc (hk.mono fun _ _ e => .inl e) o) hgrow fun k e _ => .inr e

theorem EPost.snd {w w' : World} {g : Nat} {t : TypeId} {v : Value} {l' : Nat} {y' : Int} {bs' : List Int} (h : EPost w w' g t v l' y' bs') : numIn w' g 0 = l' ∧ numIn w' g 1 = y' := by
  obtain ⟨v', h', _⟩ := h
  exact ⟨h'.num0, h'.num1⟩

set_option maxHeartbeats 1600000 in
/-- Encode: P4.1. -/
theorem encode_any (g l h : Nat) (v : Value) (bs : List Int) (bit c : Int) (w : World) (e : EncC w g l h v bs) (o : Open l h) (hlen : bs.length ≤ 1000000000) :
    Calls Tryd.prog 62 #[.pointer (some ⟨g, 0, none⟩), .int .i64 bit, .int .i64 c] w fun e w' => e = .returned (.tuple #[]) ∧
      EPost w w' g 66 v (enc1 (bit != 0) l h (cc c)).2.1 (4294967295 - ((enc1 (bit != 0) l h (cc c)).2.2 : Int)) (bs ++ (enc1 (bit != 0) l h (cc c)).1) := by
  obtain ⟨one, hone⟩ : ∃ one, (bit != 0) = one := ⟨_, rfl⟩
  rw [hone]
  obtain ⟨k, hk⟩ : ∃ k, cc c = k := ⟨_, rfl⟩
  have hk2 := (cc_bd c).2
  rw [hk] at hk2
  have Hk := Lib.hid hk
  rw [hk]
  clear hk
  obtain ⟨E, hE⟩ : ∃ E, enc1 one l h k = E := ⟨_, rfl⟩
  rw [hE]
  have HE := Lib.hid hE
  clear hE
  obtain ⟨i0, hi, hz0, hz1, hz2⟩ := info_parts Tryd.infoByteC
  go_enter Tryd.func62, Tryd.ntmps62
  go_wp2_with fail
  go_region_held3 (fun _ => True) (first | go_keep | exact True.intro)
    (first
      | (go_at_call 70; refine (mid_any g l h c _ e.drew.span o).mono ?_; rw [Hk.out]; rintro e1 w1 ⟨rfl, n1, rfl⟩)
      | (go_at_call 71; refine (eNarrow g l h k one v bs _ (e.drewN _) o hk2).mono ?_; rintro e1 w2 ⟨rfl, he2, hk2'⟩))
  have hp2 : EPost w w2 g 66 v (nar one l h k).1 (4294967295 - ((nar one l h k).2 : Int)) bs := ⟨v, he2, fun _ hk => .inl hk, ((Kept.refl _ _).drewN (1 + n1)).trans hk2' fun _ _ e => .inl e⟩
  have hr2 := nar_rng (one := one) o.rng o.lt hk2
  have hE' : norm 5 (nar one l h k).1 (nar one l h k).2 = E := HE.out
  generalize (nar one l h k).1 = l1 at *
  generalize (nar one l h k).2 = h1 at *
  have Hp := Lib.hid (And.intro hp2 (Going.start hr2))
  have HE' := Lib.hid hE'
  clear hE' HE hp2 he2 hk2' hr2 o e hone Hk hk2
  go_wp2_with fail
  go_loopw [22] (fun _ wr => ∃ j out l2 h2, Going l1 h1 j out l2 h2 ∧ EPost w wr g 66 v l2 (4294967295 - (h2 : Int)) (bs ++ out)) (fun _ wr => (numIn wr g 0 + numIn wr g 1).toNat)
  case atStart => exact ⟨0, [], l1, h1, Hp.out.2, by simpa using Hp.out.1⟩
  case round =>
    obtain ⟨j, out, l2, h2, hgo, v2, he2, hv2, hk2⟩ := hrel
    have Hgo := Lib.hid hgo
    have Hv := Lib.hid (And.intro hv2 hk2)
    clear hgo hv2 hk2
    go_wp2_with fail
    refine (settled_any g l2 h2 _ he2.span Hgo.out.rng).mono ?_
    rintro e1 w1 ⟨rfl, n1, rfl⟩
    cases hs : settledB l2 h2
    · have Hs := Lib.hid hs
      clear hs
      go_wp2_with fail
      go_end0
      have hfin := Hgo.out.done Hs.out
      rw [HE'.out] at hfin
      rw [hfin]
      exact ⟨rfl, v2, he2.drewN n1, Hv.out.1, Hv.out.2.drewN n1⟩
    · have Hs := Lib.hid hs
      clear hs
      have c2 : wr.cell? ⟨g, 2, none⟩ = some v2 := by simpa using he2.blk.cell 2
      have hln : (bs ++ out).length + 1 ≤ 2000000000 := by have := Hgo.out.len; have := Hgo.out.le; simp; omega
      have hne := he2.ne_ (by decide)
      go_wp2_with fail
      go_region_law
        (first
          | (go_simp; go_at_call 37; refine (eShift g l2 h2 v2 (bs ++ out) _ (he2.drewN _) Hgo.out.rng).mono ?_; rintro e1 w3 ⟨rfl, he3, hk3⟩; have c3 : w3.cell? ⟨g, 2, none⟩ = some v2 := (by simpa using he3.blk.cell 2); have c3a : ∀ o, (w3.alloc o).cell? ⟨g, 2, none⟩ = some v2 := fun o => by simpa using (he3.blk.alloc o).cell 2)
          | (refine step_append_lies _ (by rfl) _ _ _ (by rfl) 0 5 i0 (.int .u8 0) 1 1 Tryd.underlying22 hi hz0 hz1 hz2 rfl (by decide) v2 (bs ++ out).length (ivs .u8 (bs ++ out)) (by rfl) (World.ownsRow.alloc he3.own _) ⟨w3.heap.size, 0, none⟩ 1 1 (ivs .u8 [(l2 : Int) / 16777216]) (by rfl) (by rfl) (cell_one_new _ _ _) (ivs_one _ _) (by decide) (by unfold maxLen; omega) (by omega) (by omega) (w3.heap.size + 1) (by simp) ?_
             intro q cap w4 hown4 hgrow hat hlt
             have hblk4 := (he3.blk.alloc (.cells #[.int .u8 ((l2 : Int) / 16777216)] 5)).grown hgrow (fun e => hne e.symm)
             have c4 : w4.cell? ⟨g, 2, none⟩ = some v2 := by simpa using hblk4.cell 2
             have f4 := hblk4.frozen 2))
      all_goals
        obtain ⟨hj, hnx⟩ := Hgo.out.next Hs.out
        have hrg := settled_shift Hgo.out.rng Hs.out
        have hrg0 := Hgo.out.rng
        have hp := Enc.app he3 (by decide) (((Kept.refl _ _).drewN (n1 + 1)).trans hk3 fun _ _ h => h) hown4 hgrow hat (by have := hrg0.1; have := hrg0.2; omega) (n := bs.length + out.length + 1) (by simp)
        rw [List.append_assoc, show ((l2 : Int) / 16777216) = ((l2 / 16777216 : Nat) : Int) from by omega] at hp
        have hm := hp.snd
        have hm0 := he2.num0
        have hm1 := he2.num1
        have hpp := EPost.trans Hv.out.1 Hv.out.2 hp
        have H := Lib.hid (And.intro hnx hpp)
        have HM := Lib.hid (And.intro (And.intro hm.1 hm.2) (And.intro hm0 hm1))
        have HR := Lib.hid (And.intro hrg hrg0)
        clear hnx hpp hp hm hm0 hm1 hrg hrg0 hown4 hgrow hat hblk4 c4 f4 c3 c3a he3 hk3 c2 hne he2
        go_wp2_with fail
        go_roundw
        case rel => exact ⟨j + 1, _, _, _, H.out.1, H.out.2⟩
        case measure =>
          rw [HM.out.1.1, HM.out.1.2, HM.out.2.1, HM.out.2.2]
          have := HR.out
          unfold Rng at this
          omega

end Go.Proofs.YtpknbfkknnaajaaDoor

/- The contracts of coder.Encoder: Flush, nil encoders, awake. -/
namespace Go.Proofs.YtpknbfkknnaajaaDoor
set_option maxRecDepth 100000
open Go.RowKit

def itl : Nat → Nat → Nat
  | 0, l => l
  | n + 1, l => shl (itl n l)
def ith : Nat → Nat → Nat
  | 0, h => h
  | n + 1, h => shh (ith n h)
theorem itl_lt {l : Nat} (h : l < 4294967296) : ∀ n, itl n l < 4294967296
  | 0 => h
  | _ + 1 => by simp only [itl, shl]; omega
theorem ith_lt {l : Nat} (h : l < 4294967296) : ∀ n, ith n l < 4294967296
  | 0 => h
  | _ + 1 => by simp only [ith, shh]; omega
theorem four_take {l : Nat} (h : l < 4294967296) (j : Nat) (hj : j < 4) : (fourB l).take (j + 1) = (fourB l).take j ++ [((itl j l : Nat) : Int) / 16777216] := by
  match j, hj with
  | 0, _ => simp [fourB, itl]; omega
  | 1, _ => simp [fourB, itl, shl]; omega
  | 2, _ => simp [fourB, itl, shl]; omega
  | 3, _ => simp [fourB, itl, shl]; omega

/-- What Flush leaves: the bytes, and a new encoder. -/
def FPost (w w' : World) (g : Nat) (t : TypeId) (v : Value) (y : Int) (e : Ending) (bs' : List Int) : Prop :=
  ∃ u, e = .returned u ∧ Own w' 5 .u8 u bs' ∧ (∀ k, u.ownBlock = some k → v.ownBlock = some k ∨ w.heap.size ≤ k) ∧ Enc w' g t 0 y (.slice none 0 0) [] ∧ Kept (EFoot g v) w w'

set_option maxHeartbeats 1600000 in
/-- Flush: P4.1. -/
theorem flush_any (g l h : Nat) (v : Value) (bs : List Int) (w : World) (e : EncC w g l h v bs) (o : Open l h) (hlen : bs.length ≤ 1000000000) :
    Calls Tryd.prog 20 #[.pointer (some ⟨g, 0, none⟩)] w fun e w' => FPost w w' g 66 v 0 e (bs ++ fourB l) := by
  obtain ⟨i0, hi, hz0, hz1, hz2⟩ := info_parts Tryd.infoByteC
  have c2 : w.cell? ⟨g, 2, none⟩ = some v := by simpa using e.blk.cell 2
  have hl : l < 4294967296 := by have := o.lt; have := o.hi; omega
  have hh := o.hi
  have hne := e.ne_ (by decide)
  go_enter Tryd.func20, Tryd.ntmps20
  go_wp2_with fail
  go_loopw [10, 3] (fun i u wr => ∃ j : Nat, j ≤ 4 ∧ i = .int .i64 j ∧ Blk wr g 66 #[.int .u32 (itl j l), .int .u32 (4294967295 - (ith j h : Int)), v] ∧ Own wr 5 .u8 u (bs ++ (fourB l).take j) ∧ (∀ k, u.ownBlock = some k → v.ownBlock = some k ∨ w.heap.size ≤ k) ∧ Kept (EFoot g v) w wr) (fun i _ _ => (4 - intOf i).toNat)
  case atStart => exact ⟨0, by omega, rfl, e.blk, by simpa using e.own, fun _ hk => .inl hk, Kept.refl _ _⟩
  case round =>
    obtain ⟨j, hj, rfl, hb, ho, hv, hk⟩ := hrel
    clear c2
    by_cases hlt : j < 4
    · have hsp : Span wr g (itl j l) (ith j h) := ⟨by simpa using hb.cell 0, by simpa using hb.cell 1, hb.frozen 0, hb.frozen 1⟩
      obtain ⟨B, hB⟩ : ∃ B, bs ++ (fourB l).take j = B := ⟨_, rfl⟩
      have hln : B.length + 1 ≤ 2000000000 := by rw [← hB]; simp [fourB]; omega
      have hti : bs ++ (fourB l).take (j + 1) = B ++ [((itl j l : Nat) : Int) / 16777216] := by rw [four_take hl j hlt, ← List.append_assoc, hB]
      rw [hB] at ho
      clear hB
      have HT := Lib.hid hti
      have HH := Lib.hid (And.intro hb (And.intro ho (And.intro hv hk)))
      clear hti hb ho hv hk
      go_wp2_with fail
      refine (shift_any g _ _ _ hsp (itl_lt hl j) (ith_lt hh j)).mono ?_
      rintro e1 w3 ⟨rfl, hw3⟩
      have hk3 : Kept (fun k => k = g) wr w3 := by rw [hw3]; exact (Kept.one _ _ _ _).trans (Kept.one _ _ _ _) (fun _ _ h => h)
      have hb3 : Blk w3 g 66 #[.int .u32 (itl (j + 1) l), .int .u32 (4294967295 - (ith (j + 1) h : Int)), v] := by
        rw [hw3]; simpa [itl, ith] using (HH.out.1.set_ 0 (.int .u32 (shl (itl j l)))).set_ 1 (.int .u32 (4294967295 - (shh (ith j h) : Int)))
      have hun := HH.out.2.1.ne_blk HH.out.1 (by decide)
      have ho3 := HH.out.2.1.kept hk3 (fun k hk e => hun (by rw [hk, e]))
      have H3 := Lib.hid (And.intro hk3 (And.intro hb3 ho3))
      clear hk3 hb3 ho3 hw3 hsp
      go_wp2_with (at_builtin; refine wpList_append_lies _ rfl (.tmp 12) (.tmp 17) 22 rfl 0 5 i0 (.int .u8 0) 1 1 Tryd.underlying22 hi hz0 hz1 hz2 rfl (by decide) _ B.length (ivs .u8 B) rfl (World.ownsRow.alloc H3.out.2.2 _) ⟨w3.heap.size, 0, none⟩ 1 1 (ivs .u8 [((itl j l : Nat) : Int) / 16777216]) rfl rfl (cell_one_new _ _ _) (ivs_one _ _) (by decide) (by unfold maxLen; omega) (by omega) (by omega) (w3.heap.size + 1) (by simp) ?_)
      intro q cap w4 hown4 hgrow hat hlt4
      have ho4 : Own w4 5 .u8 (.slice (some ⟨q, 0, none⟩) (B.length + 1) cap) (bs ++ (fourB l).take (j + 1)) := by
        have := Own.of_append hown4 (by simp)
        rw [HT.out]
        exact this
      have hb4 := (H3.out.2.1.alloc (.cells #[.int .u8 (((itl j l : Nat) : Int) / 16777216)] 5)).grown hgrow (fun e => hun e.symm)
      have hv4 : ∀ k, (Value.slice (some ⟨q, 0, none⟩) (B.length + 1) cap).ownBlock = some k → v.ownBlock = some k ∨ w.heap.size ≤ k := by
        intro k hk'
        have : q = k := by simpa [Value.ownBlock] using hk'
        subst this
        rcases hat with e | e
        · exact HH.out.2.2.1 q e
        · exact .inr (by have := H3.out.1.size; have := HH.out.2.2.2.size; omega)
      have hk4 : Kept (EFoot g v) w w4 := by
        refine Kept.grown (Kept.alloc (HH.out.2.2.2.trans H3.out.1 fun _ _ e => .inl e) _) hgrow fun k e hlt' => ?_
        rcases HH.out.2.2.1 k e with e | e
        · exact .inr e
        · omega
      have H4 := Lib.hid (And.intro hb4 (And.intro ho4 (And.intro hv4 hk4)))
      clear hb4 ho4 hv4 hk4 hown4 hgrow hat
      go_wp2_with fail
      go_roundw
      case rel => exact ⟨j + 1, by omega, by go_num, H4.out⟩
      case measure => simp [intOf]; omega
    · obtain rfl : j = 4 := by omega
      have d0 := hb.cell 0
      have d1 := hb.cell 1
      have d2 := hb.cell 2
      have f0 := hb.frozen 0
      have f1 := hb.frozen 1
      have f2 := hb.frozen 2
      simp only [List.getElem?_toArray, List.getElem?_cons_succ, List.getElem?_cons_zero] at d0 d1 d2
      have hun : u3.ownBlock ≠ some g := ho.ne_blk hb (by decide)
      have HH := Lib.hid (And.intro hb (And.intro ho (And.intro hv hk)))
      clear hb ho hv hk
      go_wp2_with fail
      go_ret
      refine ⟨_, rfl, ?_, HH.out.2.2.1, ⟨?_, Own.nil _ _ _, by simp⟩, ?_⟩
      · exact ((HH.out.2.1.setFar hun _).setFar hun _).setFar hun _
      · simpa using ((HH.out.1.set_ 0 (.int .u32 0)).set_ 1 (.int .u32 0)).set_ 2 (.slice none 0 0)
      · exact ((HH.out.2.2.2.setCell (fun _ => .inl rfl) _).setCell (fun _ => .inl rfl) _).setCell (fun _ => .inl rfl) _

set_option maxHeartbeats 400000 in
theorem flush_nil (w : World) : Calls Tryd.prog 20 #[.pointer none] w fun e w' => e = .returned (.slice none 0 0) ∧ w = w' := by
  go_enter Tryd.func20, Tryd.ntmps20
  go_wp2
  go_ret
  exact ⟨rfl, rfl⟩

set_option maxHeartbeats 400000 in
theorem encode_nil (b c : Int) (w : World) : Calls Tryd.prog 62 #[.pointer none, .int .i64 b, .int .i64 c] w fun e w' => e = .returned (.tuple #[]) ∧ w = w' := by
  go_enter Tryd.func62, Tryd.ntmps62
  go_wp2
  refine bodyPost_ret (results_none rfl _ _ _) rfl ?_
  exact ⟨rfl, rfl⟩

theorem awake_enc : enc1 ((0 : Int) != 0) 0 4294967295 (cc 2048) = ([], 2147483648, 4294967295) := by decide +kernel
theorem awake_four : fourB 2147483648 = [128, 0, 0, 0] := by decide +kernel


end Go.Proofs.YtpknbfkknnaajaaDoor
