/- The contracts of coder.Encoder. -/
import Derived.Test.YtpknbfkknnaajaaDoorCodS
import Derived.BigRegion
import Derived.Deep.RegionHeld3
import Derived.Deep.DrawnRows
import Derived.Deep.RegionLaw
namespace Go.Proofs.YtpknbfkknnaajaaDoor
set_option maxRecDepth 100000
open Go.RowKit

attribute [local go_sem ↓] Go.wp_at_zero Go.wp_at_succ

theorem Tryd.infoByteC : (Tryd.prog.info? 5).map (fun i => (i.zero, i.size, i.bytes)) = some (some (.int .u8 0), 1, 1) := by kernel_rfl

/-- An encoder at block g, of type t: low, a second number y, and the bytes bs that were put out, owned by v. -/
structure Enc (w : World) (g : Nat) (t : TypeId) (l : Nat) (y : Int) (v : Value) (bs : List Int) : Prop where
  blk : Blk w g t #[.int .u32 l, .int .u32 y, v]
  own : Own w 5 .u8 v bs
  byte : ∀ x ∈ bs, 0 ≤ x ∧ x < 256

section
variable {w w' : World} {g : Nat} {t : TypeId} {l : Nat} {y : Int} {v : Value} {bs : List Int}
theorem Enc.drew (h : Enc w g t l y v bs) : Enc w.drew g t l y v bs := ⟨h.blk, h.own, h.byte⟩
theorem Enc.drewN (h : Enc w g t l y v bs) (n : Nat) : Enc (w.drewN n) g t l y v bs := ⟨h.blk, h.own, h.byte⟩
theorem Enc.kept {S : Nat → Prop} (h : Enc w g t l y v bs) (hk : Kept S w w') (hg : ¬ S g) (hv : ∀ k, v.ownBlock = some k → ¬ S k) : Enc w' g t l y v bs :=
  ⟨h.blk.kept hk hg, h.own.kept hk hv, h.byte⟩
theorem Enc.ne_ (h : Enc w g t l y v bs) (ht : 5 ≠ t) : v.ownBlock ≠ some g := h.own.ne_blk h.blk ht
theorem Enc.set0 (h : Enc w g t l y v bs) (ht : 5 ≠ t) (l' : Nat) : Enc (w.setCell ⟨g, 0, none⟩ (.int .u32 l')) g t l' y v bs :=
  ⟨by simpa using h.blk.set_ 0 (.int .u32 l'), h.own.setFar (h.ne_ ht) _, h.byte⟩
theorem Enc.set1 (h : Enc w g t l y v bs) (ht : 5 ≠ t) (y' : Int) : Enc (w.setCell ⟨g, 1, none⟩ (.int .u32 y')) g t l y' v bs :=
  ⟨by simpa using h.blk.set_ 1 (.int .u32 y'), h.own.setFar (h.ne_ ht) _, h.byte⟩
end

/-- A number in memory, for measures. -/
def numIn (w : World) (g i : Nat) : Int := match w.cell? ⟨g, i, none⟩ with | some (.int _ x) => x | _ => 0
theorem Enc.num0 {w : World} {g : Nat} {t : TypeId} {l : Nat} {y : Int} {v : Value} {bs : List Int} (h : Enc w g t l y v bs) : numIn w g 0 = l := by
  unfold numIn; rw [show w.cell? ⟨g, 0, none⟩ = some (.int .u32 l) from by simpa using h.blk.cell 0]
theorem Enc.num1 {w : World} {g : Nat} {t : TypeId} {l : Nat} {y : Int} {v : Value} {bs : List Int} (h : Enc w g t l y v bs) : numIn w g 1 = y := by
  unfold numIn; rw [show w.cell? ⟨g, 1, none⟩ = some (.int .u32 y) from by simpa using h.blk.cell 1]

/-- What an encoder's call leaves alone. -/
def EFoot (g : Nat) (v : Value) (k : Nat) : Prop := k = g ∨ v.ownBlock = some k

/-- What a call of an encoder leaves. -/
def EPost (w w' : World) (g : Nat) (t : TypeId) (v : Value) (l' : Nat) (y' : Int) (bs' : List Int) : Prop :=
  ∃ v', Enc w' g t l' y' v' bs' ∧ (∀ k, v'.ownBlock = some k → v.ownBlock = some k ∨ w.heap.size ≤ k) ∧ Kept (EFoot g v) w w'

theorem EPost.refl {w : World} {g : Nat} {t : TypeId} {l : Nat} {y : Int} {v : Value} {bs : List Int} (h : Enc w g t l y v bs) : EPost w w g t v l y bs := ⟨v, h, fun _ hk => .inl hk, Kept.refl _ _⟩
theorem EPost.trans {w w1 w2 : World} {g : Nat} {t : TypeId} {v v1 : Value} {l2 : Nat} {y2 : Int} {bs2 : List Int} (hv : ∀ k, v1.ownBlock = some k → v.ownBlock = some k ∨ w.heap.size ≤ k) (hk : Kept (EFoot g v) w w1)
    (h : EPost w1 w2 g t v1 l2 y2 bs2) : EPost w w2 g t v l2 y2 bs2 := by
  obtain ⟨v2, h2, hv2, hk2⟩ := h
  refine ⟨v2, h2, fun k hk' => ?_, hk.trans hk2 fun i hi hf => ?_⟩
  · rcases hv2 k hk' with e | e
    · exact hv k e
    · exact .inr (Nat.le_trans hk.size e)
  · rcases hf with rfl | hf
    · exact .inl rfl
    · rcases hv i hf with e | e
      · exact .inr e
      · omega

/-- The code's encoder. -/
abbrev EncC (w : World) (g l h : Nat) (v : Value) (bs : List Int) : Prop := Enc w g 66 l (4294967295 - (h : Int)) v bs

theorem Enc.span {w : World} {g l h : Nat} {v : Value} {bs : List Int} (e : EncC w g l h v bs) : Span w g l h :=
  ⟨by simpa using e.blk.cell 0, by simpa using e.blk.cell 1, e.blk.frozen 0, e.blk.frozen 1⟩

set_option maxHeartbeats 400000 in
theorem newEnc_any (w : World) : Calls Tryd.prog 34 #[] w fun e w' => ∃ g, e = .returned (.pointer (some ⟨g, 0, none⟩)) ∧ EncC w' g 0 4294967295 (.slice none 0 0) [] ∧ w.heap.size ≤ g ∧ Fresh w w' := by
  go_enter Tryd.func34, Tryd.ntmps34
  go_wp2
  go_ret
  exact ⟨w.heap.size, rfl, ⟨Blk.new _ _ _, Own.nil _ _ _, by simp⟩, Nat.le_refl _, (Kept.refl _ _).alloc _⟩

theorem Kept.one (w : World) (g i : Nat) (u : Value) : Kept (fun k => k = g) w (w.setCell ⟨g, i, none⟩ u) := Kept.setCell (Kept.refl (fun k => k = g) w) (p := ⟨g, i, none⟩) (fun _ => rfl) u

/-- shift, at an encoder. -/
theorem eShift (g l h : Nat) (v : Value) (bs : List Int) (w : World) (e : EncC w g l h v bs) (o : Rng l h) :
    Calls Tryd.prog 37 #[.pointer (some ⟨g, 0, none⟩)] w fun e w' => e = .returned (.int .u8 ((l / 16777216 : Nat) : Int)) ∧ EncC w' g (shl l) (shh h) v bs ∧ Kept (fun k => k = g) w w' := by
  refine (shift_any g l h w e.span (by have := o.1; have := o.2; omega) o.2).mono ?_
  rintro e' w' ⟨rfl, rfl⟩
  exact ⟨rfl, (e.set0 (by decide) _).set1 (by decide) _, (Kept.one _ _ _ _).trans (Kept.one _ _ _ _) (fun _ _ h => h)⟩

/-- narrow, at an encoder. -/
theorem eNarrow (g l h k : Nat) (one : Bool) (v : Value) (bs : List Int) (w : World) (e : EncC w g l h v bs) (o : Open l h) (hk : k ≤ 4095) :
    Calls Tryd.prog 71 #[.pointer (some ⟨g, 0, none⟩), .bool one, .int .u32 (midN l h k)] w fun e w' => e = .returned (.tuple #[]) ∧ EncC w' g (nar one l h k).1 (nar one l h k).2 v bs ∧ Kept (fun k => k = g) w w' := by
  have hm := mid_le o.rng.1 o.hi hk
  have hlt := o.lt
  have hhi := o.hi
  cases one
  · refine (narrow_zero g l h _ w e.span (by omega)).mono ?_
    rintro e' w' ⟨rfl, rfl⟩
    exact ⟨rfl, e.set0 (by decide) _, Kept.one _ _ _ _⟩
  · refine (narrow_one g l h _ w e.span (by omega)).mono ?_
    rintro e' w' ⟨rfl, rfl⟩
    exact ⟨rfl, e.set1 (by decide) _, Kept.one _ _ _ _⟩

theorem EPost.of_kept {w w' : World} {g : Nat} {t : TypeId} {l l' : Nat} {y y' : Int} {v : Value} {bs bs' : List Int} (_h : Enc w g t l y v bs) (h' : Enc w' g t l' y' v bs') (hk : Kept (fun k => k = g) w w') : EPost w w' g t v l' y' bs' :=
  ⟨v, h', fun _ hk => .inl hk, hk.mono fun _ _ e => .inl e⟩

/-- One byte more, appended and stored. -/
theorem Enc.app {w w3 w4 : World} {g : Nat} {t : TypeId} {l : Nat} {y : Int} {v : Value} {B : List Int} {x : Int} {q cap n : Nat} {o : Obj} (he : Enc w3 g t l y v B) (ht : 5 ≠ t) (hk : Kept (fun k => k = g) w w3)
    (hown : w4.ownsRow 0 5 1 (.slice (some ⟨q, 0, none⟩) (B.length + 1) cap) (B.length + 1) (ivs .u8 B ++ ivs .u8 [x])) (hgrow : (w3.alloc o).grownBy w4 v.ownBlock) (hat : v.ownBlock = some q ∨ q = w3.heap.size + 1) (hx : 0 ≤ x ∧ x < 256) (hn : n = B.length + 1) :
    EPost w (w4.setCell ⟨g, 2, none⟩ (.slice (some ⟨q, 0, none⟩) n cap)) g t v l y (B ++ [x]) := by
  subst hn
  have hne := he.ne_ ht
  have hlt := he.blk.lt
  have hb := (he.blk.alloc o).grown hgrow (fun e => hne e.symm)
  have ho : Own w4 5 .u8 (.slice (some ⟨q, 0, none⟩) (B.length + 1) cap) (B ++ [x]) := Own.of_append hown (by simp)
  have hq : q ≠ g := by
    rcases hat with e | e
    · intro e'; subst e'; exact hne e
    · omega
  refine ⟨_, ⟨by simpa using hb.set_ 2 (.slice (some ⟨q, 0, none⟩) (B.length + 1) cap), ho.setFar (by simpa [Value.ownBlock] using hq) _, fun z hz => ?_⟩, fun k hk' => ?_, ?_⟩
  · rcases List.mem_append.1 hz with h | h
    · exact he.byte z h
    · obtain rfl : z = x := by simpa using h
      exact hx
  · have : q = k := by simpa [Value.ownBlock] using hk'
    subst this
    rcases hat with e | e
    · exact .inl e
    · exact .inr (by have := hk.size; omega)
  · refine Kept.setCell ?_ (p := ⟨g, 2, none⟩) (fun _ => .inl rfl) _
    refine Kept.grown (Kept.alloc (hk.mono fun _ _ e => .inl e) o) hgrow fun k e _ => .inr e

theorem EPost.snd {w w' : World} {g : Nat} {t : TypeId} {v : Value} {l' : Nat} {y' : Int} {bs' : List Int} (h : EPost w w' g t v l' y' bs') : numIn w' g 0 = l' ∧ numIn w' g 1 = y' := by
  obtain ⟨v', h', _⟩ := h
  exact ⟨h'.num0, h'.num1⟩

set_option maxHeartbeats 1600000 in
/-- Encode: P4.1. -/
theorem encode_any (g l h : Nat) (v : Value) (bs : List Int) (bit c : Int) (w : World) (e : EncC w g l h v bs) (o : Open l h) (hlen : bs.length ≤ 1000000000) :
    Calls Tryd.prog 62 #[.pointer (some ⟨g, 0, none⟩), .int .i64 bit, .int .i64 c] w fun e w' => e = .returned (.tuple #[]) ∧
      EPost w w' g 66 v (enc1 (bit != 0) l h (cc c)).2.1 (4294967295 - ((enc1 (bit != 0) l h (cc c)).2.2 : Int)) (bs ++ (enc1 (bit != 0) l h (cc c)).1) := by
  obtain ⟨one, hone⟩ : ∃ one, (bit != 0) = one := ⟨_, rfl⟩
  rw [hone]
  obtain ⟨k, hk⟩ : ∃ k, cc c = k := ⟨_, rfl⟩
  have hk2 := (cc_bd c).2
  rw [hk] at hk2
  have Hk := Lib.hid hk
  rw [hk]
  clear hk
  obtain ⟨E, hE⟩ : ∃ E, enc1 one l h k = E := ⟨_, rfl⟩
  rw [hE]
  have HE := Lib.hid hE
  clear hE
  obtain ⟨i0, hi, hz0, hz1, hz2⟩ := info_parts Tryd.infoByteC
  go_enter Tryd.func62, Tryd.ntmps62
  go_wp2_with fail
  go_region_held3 (fun _ => True) (first | go_keep | exact True.intro)
    (first
      | (go_at_call 70; refine (mid_any g l h c _ e.drew.span o).mono ?_; rw [Hk.out]; rintro e1 w1 ⟨rfl, n1, rfl⟩)
      | (go_at_call 71; refine (eNarrow g l h k one v bs _ (e.drewN _) o hk2).mono ?_; rintro e1 w2 ⟨rfl, he2, hk2'⟩))
  have hp2 : EPost w w2 g 66 v (nar one l h k).1 (4294967295 - ((nar one l h k).2 : Int)) bs := ⟨v, he2, fun _ hk => .inl hk, ((Kept.refl _ _).drewN (1 + n1)).trans hk2' fun _ _ e => .inl e⟩
  have hr2 := nar_rng (one := one) o.rng o.lt hk2
  have hE' : norm 5 (nar one l h k).1 (nar one l h k).2 = E := HE.out
  generalize (nar one l h k).1 = l1 at *
  generalize (nar one l h k).2 = h1 at *
  have Hp := Lib.hid (And.intro hp2 (Going.start hr2))
  have HE' := Lib.hid hE'
  clear hE' HE hp2 he2 hk2' hr2 o e hone Hk hk2
  go_wp2_with fail
  go_loopw [22] (fun _ wr => ∃ j out l2 h2, Going l1 h1 j out l2 h2 ∧ EPost w wr g 66 v l2 (4294967295 - (h2 : Int)) (bs ++ out)) (fun _ wr => (numIn wr g 0 + numIn wr g 1).toNat)
  case atStart => exact ⟨0, [], l1, h1, Hp.out.2, by simpa using Hp.out.1⟩
  case round =>
    obtain ⟨j, out, l2, h2, hgo, v2, he2, hv2, hk2⟩ := hrel
    have Hgo := Lib.hid hgo
    have Hv := Lib.hid (And.intro hv2 hk2)
    clear hgo hv2 hk2
    go_wp2_with fail
    refine (settled_any g l2 h2 _ he2.span Hgo.out.rng).mono ?_
    rintro e1 w1 ⟨rfl, n1, rfl⟩
    cases hs : settledB l2 h2
    · have Hs := Lib.hid hs
      clear hs
      go_wp2_with fail
      go_end0
      have hfin := Hgo.out.done Hs.out
      rw [HE'.out] at hfin
      rw [hfin]
      exact ⟨rfl, v2, he2.drewN n1, Hv.out.1, Hv.out.2.drewN n1⟩
    · have Hs := Lib.hid hs
      clear hs
      have c2 : wr.cell? ⟨g, 2, none⟩ = some v2 := by simpa using he2.blk.cell 2
      have hln : (bs ++ out).length + 1 ≤ 2000000000 := by have := Hgo.out.len; have := Hgo.out.le; simp; omega
      have hne := he2.ne_ (by decide)
      go_wp2_with fail
      go_region_law
        (first
          | (go_simp; go_at_call 37; refine (eShift g l2 h2 v2 (bs ++ out) _ (he2.drewN _) Hgo.out.rng).mono ?_; rintro e1 w3 ⟨rfl, he3, hk3⟩; have c3 : w3.cell? ⟨g, 2, none⟩ = some v2 := (by simpa using he3.blk.cell 2); have c3a : ∀ o, (w3.alloc o).cell? ⟨g, 2, none⟩ = some v2 := fun o => by simpa using (he3.blk.alloc o).cell 2)
          | (refine step_append_lies _ (by rfl) _ _ _ (by rfl) 0 5 i0 (.int .u8 0) 1 1 Tryd.underlying22 hi hz0 hz1 hz2 rfl (by decide) v2 (bs ++ out).length (ivs .u8 (bs ++ out)) (by rfl) (World.ownsRow.alloc he3.own _) ⟨w3.heap.size, 0, none⟩ 1 1 (ivs .u8 [(l2 : Int) / 16777216]) (by rfl) (by rfl) (cell_one_new _ _ _) (ivs_one _ _) (by decide) (by unfold maxLen; omega) (by omega) (by omega) (w3.heap.size + 1) (by simp) ?_
             intro q cap w4 hown4 hgrow hat hlt
             have hblk4 := (he3.blk.alloc (.cells #[.int .u8 ((l2 : Int) / 16777216)] 5)).grown hgrow (fun e => hne e.symm)
             have c4 : w4.cell? ⟨g, 2, none⟩ = some v2 := by simpa using hblk4.cell 2
             have f4 := hblk4.frozen 2))
      all_goals
        obtain ⟨hj, hnx⟩ := Hgo.out.next Hs.out
        have hrg := settled_shift Hgo.out.rng Hs.out
        have hrg0 := Hgo.out.rng
        have hp := Enc.app he3 (by decide) (((Kept.refl _ _).drewN (n1 + 1)).trans hk3 fun _ _ h => h) hown4 hgrow hat (by have := hrg0.1; have := hrg0.2; omega) (n := bs.length + out.length + 1) (by simp)
        rw [List.append_assoc, show ((l2 : Int) / 16777216) = ((l2 / 16777216 : Nat) : Int) from by omega] at hp
        have hm := hp.snd
        have hm0 := he2.num0
        have hm1 := he2.num1
        have hpp := EPost.trans Hv.out.1 Hv.out.2 hp
        have H := Lib.hid (And.intro hnx hpp)
        have HM := Lib.hid (And.intro (And.intro hm.1 hm.2) (And.intro hm0 hm1))
        have HR := Lib.hid (And.intro hrg hrg0)
        clear hnx hpp hp hm hm0 hm1 hrg hrg0 hown4 hgrow hat hblk4 c4 f4 c3 c3a he3 hk3 c2 hne he2
        go_wp2_with fail
        go_roundw
        case rel => exact ⟨j + 1, _, _, _, H.out.1, H.out.2⟩
        case measure =>
          rw [HM.out.1.1, HM.out.1.2, HM.out.2.1, HM.out.2.2]
          have := HR.out
          unfold Rng at this
          omega

end Go.Proofs.YtpknbfkknnaajaaDoor
