/- The contracts of coder.Decoder. -/
import Derived.Test.YtpknbfkknnaajaaDoorCodE
namespace Go.Proofs.YtpknbfkknnaajaaDoor
set_option maxRecDepth 100000
open Go.RowKit

attribute [local go_sem ↓] Go.wp_at_zero Go.wp_at_succ

/-- A decoder at block g, of type t, with cells cs, over bytes bs that lie at A. -/
structure Dec (w : World) (g : Nat) (t : TypeId) (cs : Array Value) (A : Option Addr) (bs : List Int) : Prop where
  blk : Blk w g t cs
  row : Row w .u8 A bs.length bs
  far : ∀ b o, A = some ⟨b, o, none⟩ → 0 < bs.length → b ≠ g
  byte : ∀ x ∈ bs, 0 ≤ x ∧ x < 256
  small : bs.length ≤ 1000000000

section
variable {w w' : World} {g : Nat} {t : TypeId} {cs : Array Value} {A : Option Addr} {bs : List Int}
theorem Row.setOff {k : IntKind} {n : Nat} {xs : List Int} (h : Row w k A n xs) {q : Addr} (hq : ∀ b o, A = some ⟨b, o, none⟩ → 0 < n → b ≠ q.block) (u : Value) : Row (w.setCell q u) k A n xs :=
  ⟨h.len, fun j hj => by
    obtain ⟨b, o, e, hb, hc⟩ := h.at_ j hj
    refine ⟨b, o, e, by simpa [World.setCell] using hb, ?_⟩
    rw [World.cell?_setCell_other _ _ _ _ (fun e' => hq b o e (by omega) (by rw [e']))]
    exact hc⟩
theorem Dec.drewN (h : Dec w g t cs A bs) (n : Nat) : Dec (w.drewN n) g t cs A bs := ⟨h.blk, h.row.drewN n, h.far, h.byte, h.small⟩
theorem Dec.drew (h : Dec w g t cs A bs) : Dec w.drew g t cs A bs := h.drewN 1
theorem Dec.kept {S : Nat → Prop} (h : Dec w g t cs A bs) (hk : Kept S w w') (hg : ¬ S g) (hA : ∀ b o, A = some ⟨b, o, none⟩ → 0 < bs.length → ¬ S b) : Dec w' g t cs A bs :=
  ⟨h.blk.kept hk hg, h.row.kept hk hA, h.far, h.byte, h.small⟩
theorem Dec.fresh (h : Dec w g t cs A bs) (hf : Kept (fun _ => False) w w') : Dec w' g t cs A bs := h.kept hf id (fun _ _ _ _ => id)
theorem Dec.set_ (h : Dec w g t cs A bs) (i : Nat) (u : Value) : Dec (w.setCell ⟨g, i, none⟩ u) g t (cs.setIfInBounds i u) A bs :=
  ⟨h.blk.set_ i u, h.row.setOff (q := ⟨g, i, none⟩) h.far u, h.far, h.byte, h.small⟩
theorem Dec.num (h : Dec w g t cs A bs) (i : Nat) (k : IntKind) (x : Int) (hc : cs[i]? = some (.int k x)) : numIn w g i = x := by
  unfold numIn; rw [show w.cell? ⟨g, i, none⟩ = some (.int k x) from by rw [h.blk.cell i, hc]]
end

/-- The cells of the code's decoder. -/
def cC (l h : Nat) (A : Option Addr) (n c x p : Nat) : Array Value := #[.int .u32 l, .int .u32 (4294967295 - (h : Int)), .slice A n c, .int .u32 x, .int .i64 p]
abbrev DecC (w : World) (g l h : Nat) (A : Option Addr) (c : Nat) (bs : List Int) (x p : Nat) : Prop := Dec w g 88 (cC l h A bs.length c x p) A bs

theorem Dec.span {w : World} {g l h : Nat} {A : Option Addr} {c : Nat} {bs : List Int} {x p : Nat} (d : DecC w g l h A c bs x p) : Span w g l h :=
  ⟨by simpa [cC] using d.blk.cell 0, by simpa [cC] using d.blk.cell 1, d.blk.frozen 0, d.blk.frozen 1⟩

section
variable {w : World} {g l h : Nat} {A : Option Addr} {c : Nat} {bs : List Int} {x p : Nat}
theorem Dec.setL (d : DecC w g l h A c bs x p) (l' : Nat) : DecC (w.setCell ⟨g, 0, none⟩ (.int .u32 l')) g l' h A c bs x p := d.set_ 0 (.int .u32 l')
theorem Dec.setH (d : DecC w g l h A c bs x p) (h' : Nat) : DecC (w.setCell ⟨g, 1, none⟩ (.int .u32 (4294967295 - (h' : Int)))) g l h' A c bs x p := d.set_ 1 (.int .u32 (4294967295 - (h' : Int)))
theorem Dec.setX (d : DecC w g l h A c bs x p) (x' : Nat) (u : Int) (hu : u = (x' : Int)) : DecC (w.setCell ⟨g, 3, none⟩ (.int .u32 u)) g l h A c bs x' p := by subst hu; exact d.set_ 3 (.int .u32 x')
theorem Dec.setP (d : DecC w g l h A c bs x p) (p' : Nat) (u : Int) (hu : u = (p' : Int)) : DecC (w.setCell ⟨g, 4, none⟩ (.int .i64 u)) g l h A c bs x p' := by subst hu; exact d.set_ 4 (.int .i64 p')
end

theorem join8 (x y : Nat) (hy : y < 256) : bits .or .u32 ((x : Int) * 256 % 4294967296) (y : Int) = ((x * 256 % 4294967296 + y : Nat) : Int) := by
  have e1 : ((x : Int) * 256 % 4294967296) = ((x * 256 % 4294967296 : Nat) : Int) := by omega
  rw [e1, u32_or_nat _ _ (by omega) (by omega), nat_join 8 (x * 256 % 4294967296) y (by omega) (by omega)]

/-- What push makes of the code. -/
def pushN (bs : List Int) (x i : Nat) : Nat := x * 256 % 4294967296 + (bs.getD i 0).toNat

set_option maxHeartbeats 1600000 in
theorem push_any (g l h : Nat) (A : Option Addr) (c : Nat) (bs : List Int) (x p n : Nat) (i : Int) (w : World) (d : DecC w g l h A c bs x p) (hi : i = (n : Int)) :
    Calls Tryd.prog 69 #[.pointer (some ⟨g, 0, none⟩), .int .i64 i] w fun e w' => e = .returned (.tuple #[]) ∧ DecC w' g l h A c bs (pushN bs x n) p ∧ Kept (fun k => k = g) w w' := by
  subst hi
  have c2 : w.cell? ⟨g, 2, none⟩ = some (.slice A bs.length c) := by simpa [cC] using d.blk.cell 2
  have c3 : w.cell? ⟨g, 3, none⟩ = some (.int .u32 x) := by simpa [cC] using d.blk.cell 3
  have f3 := d.blk.frozen 3
  have hsm := d.small
  by_cases hlt : n < bs.length
  · obtain ⟨b, o, rfl, hb, hc⟩ := d.row.at_ n hlt
    have hne := d.far b o rfl (by omega)
    have hby := byte_getD d.byte n
    obtain ⟨y, hy⟩ := Int.eq_ofNat_of_zero_le hby.1
    rw [hy] at hc hby
    have hj := join8 x y (by omega)
    have hP : pushN bs x n = x * 256 % 4294967296 + y := by unfold pushN; rw [hy]; rfl
    rw [hP]
    have hi0 : (0 : Int) ≤ (n : Int) := by omega
    have hi1 : (n : Int) < (bs.length : Int) := by omega
    have HD := Lib.hid d
    have HY := Lib.hid hy
    have hy256 : y < 256 := by omega
    clear hP hy d hby hlt
    go_enter Tryd.func69, Tryd.ntmps69
    go_wp2_with fail
    go_region
    all_goals
      go_end0
      refine ⟨rfl, ?_, (((Kept.one _ _ _ _).trans (Kept.one _ _ _ _) (fun _ _ h => h))).drew⟩
      exact ((HD.out.setX (x * 256 % 4294967296) _ (by omega)).setX (x * 256 % 4294967296 + y) _ (by omega)).drew
  · have hP : pushN bs x n = x * 256 % 4294967296 := by
      unfold pushN
      rw [show bs.getD n 0 = 0 from by simp [List.getD, List.getElem?_eq_none (Nat.le_of_not_lt hlt)]]
      rfl
    rw [hP]
    have hi1 : ¬ (n : Int) < (bs.length : Int) := by omega
    have HD := Lib.hid d
    clear hP d
    go_enter Tryd.func69, Tryd.ntmps69
    go_wp2_with fail
    go_end0
    exact ⟨rfl, HD.out.setX _ _ (by omega), Kept.one _ _ _ _⟩

theorem dShift (g l h : Nat) (A : Option Addr) (c : Nat) (bs : List Int) (x p : Nat) (w : World) (d : DecC w g l h A c bs x p) (o : Rng l h) :
    Calls Tryd.prog 37 #[.pointer (some ⟨g, 0, none⟩)] w fun e w' => e = .returned (.int .u8 ((l / 16777216 : Nat) : Int)) ∧ DecC w' g (shl l) (shh h) A c bs x p ∧ Kept (fun k => k = g) w w' := by
  refine (shift_any g l h w d.span (by have := o.1; have := o.2; omega) o.2).mono ?_
  rintro e' w' ⟨rfl, rfl⟩
  exact ⟨rfl, (d.setL _).setH _, (Kept.one _ _ _ _).trans (Kept.one _ _ _ _) (fun _ _ h => h)⟩

theorem dNarrow (g l h k : Nat) (one : Bool) (A : Option Addr) (c : Nat) (bs : List Int) (x p : Nat) (w : World) (d : DecC w g l h A c bs x p) (o : Open l h) (hk : k ≤ 4095) :
    Calls Tryd.prog 71 #[.pointer (some ⟨g, 0, none⟩), .bool one, .int .u32 (midN l h k)] w fun e w' => e = .returned (.tuple #[]) ∧ DecC w' g (nar one l h k).1 (nar one l h k).2 A c bs x p ∧ Kept (fun k => k = g) w w' := by
  have hm := mid_le o.rng.1 o.hi hk
  have hlt := o.lt
  have hhi := o.hi
  cases one
  · refine (narrow_zero g l h _ w d.span (by omega)).mono ?_
    rintro e' w' ⟨rfl, rfl⟩
    exact ⟨rfl, d.setL _, Kept.one _ _ _ _⟩
  · refine (narrow_one g l h _ w d.span (by omega)).mono ?_
    rintro e' w' ⟨rfl, rfl⟩
    exact ⟨rfl, d.setH _, Kept.one _ _ _ _⟩

/-- What a decoder answers. -/
def bitN (one : Bool) : Int := if one then 1 else 0

set_option maxHeartbeats 1600000 in
/-- Decode: P4.2. -/
theorem decode_any (g l h : Nat) (A : Option Addr) (c : Nat) (bs : List Int) (p : Nat) (ch : Int) (one : Bool) (w : World) (d : DecC w g l h A c bs (win bs p) p) (o : Open l h) (hp : p ≤ 1000000000) (hone : decBit bs l h (cc ch) p = one) :
    Calls Tryd.prog 57 #[.pointer (some ⟨g, 0, none⟩), .int .i64 ch] w fun e w' => e = .returned (.int .i64 (bitN one)) ∧
      DecC w' g (enc1 one l h (cc ch)).2.1 (enc1 one l h (cc ch)).2.2 A c bs (win bs (p + (enc1 one l h (cc ch)).1.length)) (p + (enc1 one l h (cc ch)).1.length) ∧ Kept (fun k => k = g) w w' := by
  obtain ⟨k, hk⟩ : ∃ k, cc ch = k := ⟨_, rfl⟩
  have hk2 := (cc_bd ch).2
  rw [hk] at hk2 hone
  have Hk := Lib.hid hk
  rw [hk]
  clear hk
  obtain ⟨E, hE⟩ : ∃ E, enc1 one l h k = E := ⟨_, rfl⟩
  rw [hE]
  have HE := Lib.hid hE
  clear hE
  unfold decBit at hone
  have c3 : w.cell? ⟨g, 3, none⟩ = some (.int .u32 (win bs p)) := by simpa [cC] using d.blk.cell 3
  have HB := Lib.hid d.byte
  go_enter Tryd.func57, Tryd.ntmps57
  go_wp2_with fail
  refine (mid_any g l h ch _ d.span o).mono ?_
  rw [Hk.out]
  rintro e1 w1 ⟨rfl, n1, rfl⟩
  go_wp2_with fail
  refine (dNarrow g l h k one A c bs _ p _ (d.drewN n1) o hk2).mono ?_
  rintro e2 w2 ⟨rfl, hd2, hk2'⟩
  have hkk : Kept (fun k => k = g) w w2 := ((Kept.refl _ _).drewN n1).trans hk2' fun _ _ h => h
  have hr2 := nar_rng (one := one) o.rng o.lt hk2
  have hE' : norm 5 (nar one l h k).1 (nar one l h k).2 = E := HE.out
  generalize (nar one l h k).1 = l1 at *
  generalize (nar one l h k).2 = h1 at *
  have Hp := Lib.hid (And.intro hd2 (And.intro hkk (Going.start hr2)))
  have HE' := Lib.hid hE'
  clear hE' HE hd2 hk2' hkk hr2 o d Hk hk2 hone c3
  go_wp2_with fail
  go_loopw [29] (fun _ wr => ∃ j out l2 h2, Going l1 h1 j out l2 h2 ∧ DecC wr g l2 h2 A c bs (win bs (p + j)) (p + j) ∧ Kept (fun k => k = g) w wr) (fun _ wr => (numIn wr g 0 + numIn wr g 1).toNat)
  case atStart => exact ⟨0, [], l1, h1, Hp.out.2.2, Hp.out.1, Hp.out.2.1⟩
  case round =>
    obtain ⟨j, out, l2, h2, hgo, hd, hk⟩ := hrel
    have hj4 := hgo.le
    have Hgo := Lib.hid hgo
    have HK := Lib.hid hk
    clear hgo hk
    obtain ⟨P, hP⟩ : ∃ P, p + j = P := ⟨_, rfl⟩
    rw [hP] at hd
    have HP := Lib.hid hP
    have hPb : P ≤ 1000000004 := by omega
    clear hP
    go_wp2_with fail
    refine (settled_any g l2 h2 _ hd.span Hgo.out.rng).mono ?_
    rintro e1 w1 ⟨rfl, n2, rfl⟩
    cases hs : settledB l2 h2
    · have Hs := Lib.hid hs
      clear hs
      have hfin : DecC (wr.drewN n2) g E.2.1 E.2.2 A c bs (win bs (p + E.1.length)) (p + E.1.length) ∧ Kept (fun k => k = g) w (wr.drewN n2) := by
        have hfin := Hgo.out.done Hs.out
        rw [HE'.out] at hfin
        rw [hfin]
        refine ⟨?_, HK.out.drewN n2⟩
        rw [Hgo.out.len, HP.out]
        exact hd.drewN n2
      have HF := Lib.hid hfin
      clear hfin
      cases one
      · go_wp2_with fail
        go_ret
        exact ⟨rfl, HF.out⟩
      · go_wp2_with fail
        go_ret
        exact ⟨rfl, HF.out⟩
    · have Hs := Lib.hid hs
      clear hs
      have hm0 := hd.num 0 .u32 l2 rfl
      have hm1 := hd.num 1 .u32 (4294967295 - (h2 : Int)) rfl
      have HM := Lib.hid (And.intro hm0 hm1)
      clear hm0 hm1
      go_wp2_with fail
      refine (dShift g l2 h2 A c bs _ P _ (hd.drewN n2) Hgo.out.rng).mono ?_
      rintro e3 w3 ⟨rfl, hd3, hk3⟩
      have hk3' : Kept (fun k => k = g) w w3 := (HK.out.drewN n2).trans hk3 fun _ _ h => h
      have HK3 := Lib.hid hk3'
      have c4 : w3.cell? ⟨g, 4, none⟩ = some (.int .i64 P) := by simpa [cC] using hd3.blk.cell 4
      clear hd hk3 hk3'
      go_wp2_with fail
      refine (push_any g _ _ A c bs _ P (4 + P) _ _ hd3 (by omega)).mono ?_
      rintro e4 w4 ⟨rfl, hd4, hk4⟩
      have hk4' : Kept (fun k => k = g) w w4 := HK3.out.trans hk4 fun _ _ h => h
      have HK4 := Lib.hid hk4'
      have c4 : w4.cell? ⟨g, 4, none⟩ = some (.int .i64 P) := by simpa [cC] using hd4.blk.cell 4
      have f4 := hd4.blk.frozen 4
      have hwn : pushN bs (win bs P) (4 + P) = win bs (P + 1) := by rw [win_next HB.out P, show 4 + P = P + 4 from by omega]; rfl
      rw [hwn] at hd4
      have hd5 := hd4.setP (P + 1) ((P : Int) + 1) (by omega)
      have hm0 := hd5.num 0 .u32 (shl l2) rfl
      have hm1 := hd5.num 1 .u32 (4294967295 - (shh h2 : Int)) rfl
      have HM5 := Lib.hid (And.intro hm0 hm1)
      have HD5 := Lib.hid hd5
      obtain ⟨hj3, hnx⟩ := Hgo.out.next Hs.out
      have HN := Lib.hid hnx
      clear hd3 hd4 hd5 hm0 hm1 hnx hwn hk4 hk4'
      go_wp2_with fail
      go_roundw
      case rel => exact ⟨j + 1, _, _, _, HN.out, by rw [show p + (j + 1) = P + 1 from by have := HP.out; omega]; exact HD5.out, HK4.out.setCell (p := ⟨g, 4, none⟩) (fun _ => rfl) _⟩
      case measure =>
        rw [HM.out.1, HM.out.2, HM5.out.1, HM5.out.2]
        have h1 := settled_shift Hgo.out.rng Hs.out
        have h2 := Hgo.out.rng
        unfold Rng at h1 h2
        omega

/-- How many bytes past the end were taken. -/
def pastN (bs : List Int) (p : Nat) : Int := max (4 + (p : Int) - bs.length) 0

end Go.Proofs.YtpknbfkknnaajaaDoor
