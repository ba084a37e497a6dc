/- The contracts of bits.Reader's calls. -/
import Derived.Test.YtodmchjdflpbpaaGreatBitsR
namespace Go.Proofs.YtodmchjdflpbpaaGreat
open Go.RowKit
set_option maxRecDepth 100000

theorem numAt_zero (bs : List Int) (p : Nat) : ∀ k, numAt bs p k = 0 ↔ ∀ j, j < k → bitAt bs (p + j) = 0
  | 0 => by simp [numAt]
  | k + 1 => by
    have ih := numAt_zero bs p k
    simp only [numAt]
    constructor
    · intro h j hj
      rcases Nat.lt_or_ge j k with hjk | hjk
      · exact ih.1 (by omega) j hjk
      · obtain rfl : j = k := by omega
        omega
    · intro h
      have h1 := ih.2 fun j hj => h j (by omega)
      have h2 := h k (by omega)
      omega

/-- The plain meaning of Bits, Unary, End: the answer, the new place, the fault. -/
def sBits (bs : List Int) (p : Nat) (err : Int) (k : Nat) : Nat × Nat × Int :=
  if err ≠ 0 then (0, p, err) else if 8 * bs.length < p + k then (0, p, 3) else (numAt bs p k, p + k, 0)

def sUnary (bs : List Int) (p : Nat) (err : Int) (m L : Nat) : Nat × Nat × Int :=
  if err ≠ 0 then (0, p, err) else
    if onesN bs p (min m L) = m then (m, p + m, 0) else if onesN bs p (min m L) = L then (0, p, 3) else (onesN bs p (min m L), p + onesN bs p (min m L) + 1, 0)

def sEnd (bs : List Int) (p : Nat) (err : Int) (L : Nat) : Int :=
  if err ≠ 0 then err else if 8 ≤ L then 4 else if numAt bs p L = 0 then 0 else 4

/-- What a reader's call leaves. -/
def RPost (w w' : World) (g : Nat) (t : TypeId) (A : Option Addr) (c : Nat) (bs : List Int) (p : Nat) (err : Int) : Prop :=
  Rd w' g t A c bs p err ∧ Kept (fun k => k = g) w w'

section
variable {w : World} {g : Nat} {t : TypeId} {A : Option Addr} {c : Nat} {bs : List Int} {p : Nat} {err : Int}
theorem Rd.refl (h : Rd w g t A c bs p err) (n : Nat) : RPost w (w.drewN n) g t A c bs p err := ⟨h.drewN n, (Kept.refl _ _).drewN n⟩
theorem Row.setOff {k : IntKind} {n : Nat} {xs : List Int} (h : Row w k A n xs) {q : Addr} (hq : ∀ b o, A = some ⟨b, o, none⟩ → 0 < n → b ≠ q.block) (u : Value) : Row (w.setCell q u) k A n xs :=
  ⟨h.len, fun j hj => by
    obtain ⟨b, o, e, hb, hc⟩ := h.at_ j hj
    refine ⟨b, o, e, by simpa [World.setCell] using hb, ?_⟩
    rw [World.cell?_setCell_other _ _ _ _ (fun e' => hq b o e (by omega) (by rw [e']))]
    exact hc⟩
theorem Rd.setAt (h : Rd w g t A c bs p err) (n p' : Nat) (hp : p' ≤ 8 * bs.length) (u : Int) (hu : u = (p' : Int)) : RPost w ((w.drewN n).setCell ⟨g, 1, none⟩ (.int .i64 u)) g t A c bs p' err := by
  subst hu
  exact ⟨⟨by simpa using (h.blk.drewN n).set_ 1 (.int .i64 p'), (h.drewN n).row.setOff (fun b o e hl => h.ne_ e hl) _, h.byte, hp, h.small⟩, Kept.setCell ((Kept.refl (fun k => k = g) w).drewN n) (fun _ => rfl) _⟩
theorem Rd.setErr (h : Rd w g t A c bs p err) (n : Nat) (err' : Int) : RPost w ((w.drewN n).setCell ⟨g, 2, none⟩ (.int .i64 err')) g t A c bs p err' := by
  exact ⟨⟨by simpa using (h.blk.drewN n).set_ 2 (.int .i64 err'), (h.drewN n).row.setOff (fun b o e hl => h.ne_ e hl) _, h.byte, h.le, h.small⟩, Kept.setCell ((Kept.refl (fun k => k = g) w).drewN n) (fun _ => rfl) _⟩
end


set_option maxHeartbeats 400000 in
theorem rErr_any (g : Nat) (A : Option Addr) (c : Nat) (bs : List Int) (p : Nat) (err : Int) (w : World) (h : Rd w g 161 A c bs p err) :
    Calls Tryz.prog 95 #[.pointer (some ⟨g, 0, none⟩)] w fun e w' => e = .returned (.int .i64 err) ∧ w = w' := by
  have c2 := h.blk.cell 2
  simp at c2
  clear h
  go_enter Tryz.func95, Tryz.ntmps95
  go_wp2
  go_ret
  exact ⟨rfl, rfl⟩

set_option maxHeartbeats 400000 in
theorem rStuck_any (g : Nat) (A : Option Addr) (c : Nat) (bs : List Int) (p : Nat) (err : Int) (w : World) (h : Rd w g 161 A c bs p err) :
    Calls Tryz.prog 101 #[.pointer (some ⟨g, 0, none⟩)] w fun e w' => e = .returned (.bool (err != 0)) ∧ w = w' := by
  go_enter Tryz.func101, Tryz.ntmps101
  go_wp2_with fail
  refine (rErr_any g A c bs p err _ h).mono ?_
  rintro e w' ⟨rfl, rfl⟩
  go_wp2
  go_ret
  exact ⟨rfl, rfl⟩


/-- Bits: P1.2, as a contract of function f on readers of type t. -/
def RBits (t : TypeId) (f : Nat) : Prop := ∀ (g : Nat) (A : Option Addr) (c : Nat) (bs : List Int) (p : Nat) (err : Int) (m : Int) (w : World), Rd w g t A c bs p err →
    Calls Tryz.prog f #[.pointer (some ⟨g, 0, none⟩), .int .i64 m] w fun e w' => e = .returned (.int .u32 (sBits bs p err (wBitsN m)).1) ∧ RPost w w' g t A c bs (sBits bs p err (wBitsN m)).2.1 (sBits bs p err (wBitsN m)).2.2

set_option maxHeartbeats 1600000 in
theorem rBits_any : RBits 161 93 := by
  intro g A c bs p err m w h
  by_cases he : err = 0
  · subst he
    have hc : 0 ≤ clamp m 32 ∧ clamp m 32 ≤ 32 := by unfold clamp; split <;> (try split) <;> omega
    obtain ⟨k, hk⟩ : ∃ k : Nat, clamp m 32 = k := ⟨(clamp m 32).toNat, by omega⟩
    have hk32 : k ≤ 32 := by omega
    have hkk : wBitsN m = k := by unfold wBitsN; omega
    rw [hkk]
    obtain ⟨L, hL⟩ : ∃ L, p + L = 8 * bs.length := ⟨8 * bs.length - p, by have := h.le; omega⟩
    have hsm := h.small
    have HL := Lib.hid hL
    have Hk := Lib.hid hk
    by_cases hlt : L < k
    · have hS : sBits bs p 0 k = (0, p, 3) := by unfold sBits; rw [if_neg (by simp), if_pos (by omega)]
      rw [hS]
      clear hk hc hkk hS hL
      go_enter Tryz.func93, Tryz.ntmps93
      go_wp2_with fail
      refine (rStuck_any g A c bs p 0 _ h).mono ?_
      rintro e w' ⟨rfl, rfl⟩
      go_wp2_with fail
      refine (within_any _ _ _).mono ?_
      rintro e w' ⟨rfl, rfl⟩
      rw [Hk.out]
      go_wp2_with fail
      refine (left_any g A c bs p L 0 _ h HL.out).mono ?_
      rintro e w' ⟨rfl, n1, rfl⟩
      have c2 := (h.drewN n1).blk.cell 2
      have f2 := (h.drewN n1).blk.frozen 2
      simp at c2
      go_wp2_with fail
      go_ret
      exact ⟨rfl, h.setErr n1 3⟩
    · have hS : sBits bs p 0 k = (numAt bs p k, p + k, 0) := by unfold sBits; rw [if_neg (by simp), if_neg (by omega)]
      rw [hS]
      have hpk : p + k ≤ 8 * bs.length := by omega
      have hpi : (p : Int) + k ≤ 800000000 := by omega
      clear hk hc hkk hS hL
      go_enter Tryz.func93, Tryz.ntmps93
      go_wp2_with fail
      refine (rStuck_any g A c bs p 0 _ h).mono ?_
      rintro e w' ⟨rfl, rfl⟩
      go_wp2_with fail
      refine (within_any _ _ _).mono ?_
      rintro e w' ⟨rfl, rfl⟩
      rw [Hk.out]
      go_wp2_with fail
      refine (left_any g A c bs p L 0 _ h HL.out).mono ?_
      rintro e w' ⟨rfl, n1, rfl⟩
      go_wp2_with fail
      refine (number_any g A c bs p k 0 _ (h.drewN n1) hk32 hpk).mono ?_
      rintro e w' ⟨rfl, rfl⟩
      have c1 := (h.drewN n1).blk.cell 1
      have f1 := (h.drewN n1).blk.frozen 1
      simp at c1
      go_wp2_with fail
      go_ret
      exact ⟨rfl, h.setAt n1 (p + k) hpk _ (by omega)⟩
  · have hS : sBits bs p err (wBitsN m) = (0, p, err) := by unfold sBits; rw [if_pos he]
    rw [hS]
    have hb : (err != 0) = true := by simp [he]
    clear hS he
    go_enter Tryz.func93, Tryz.ntmps93
    go_wp2_with fail
    refine (rStuck_any g A c bs p err _ h).mono ?_
    rintro e w' ⟨rfl, rfl⟩
    go_wp2_with fail
    go_ret
    exact ⟨rfl, h, Kept.refl _ _⟩

/-- Bit. -/
def RBit (t : TypeId) (f : Nat) : Prop := ∀ (g : Nat) (A : Option Addr) (c : Nat) (bs : List Int) (p : Nat) (err : Int) (w : World), Rd w g t A c bs p err →
    Calls Tryz.prog f #[.pointer (some ⟨g, 0, none⟩)] w fun e w' => e = .returned (.int .i64 (sBits bs p err 1).1) ∧ RPost w w' g t A c bs (sBits bs p err 1).2.1 (sBits bs p err 1).2.2

theorem sBits_one (bs : List Int) (p : Nat) (err : Int) : (sBits bs p err 1).1 ≤ 1 := by
  unfold sBits
  split
  · simp
  · split
    · simp
    · have := numAt_lt bs p 1
      simp; omega

theorem wBitsN_one : wBitsN 1 = 1 := by decide +kernel

/-- Unary. -/
def RUnary (t : TypeId) (f : Nat) : Prop := ∀ (g : Nat) (A : Option Addr) (c : Nat) (bs : List Int) (p L m : Nat) (err : Int) (mi : Int) (w : World), Rd w g t A c bs p err → p + L = 8 * bs.length → m = mi.toNat → mi ≤ 9223372036854775807 →
    Calls Tryz.prog f #[.pointer (some ⟨g, 0, none⟩), .int .i64 mi] w fun e w' => e = .returned (.int .i64 (sUnary bs p err m L).1) ∧ RPost w w' g t A c bs (sUnary bs p err m L).2.1 (sUnary bs p err m L).2.2

set_option maxHeartbeats 1600000 in
/-- behind the count: the three ways -/
theorem rUnary_go (g : Nat) (A : Option Addr) (c : Nat) (bs : List Int) (p L m : Nat) (mi : Int) (w : World) (h : Rd w g 161 A c bs p 0) (hL : p + L = 8 * bs.length) (hmi : m = mi.toNat) (hm : mi ≤ 9223372036854775807) :
    Calls Tryz.prog 104 #[.pointer (some ⟨g, 0, none⟩), .int .i64 mi] w fun e w' => e = .returned (.int .i64 (sUnary bs p 0 m L).1) ∧ RPost w w' g 161 A c bs (sUnary bs p 0 m L).2.1 (sUnary bs p 0 m L).2.2 := by
  obtain ⟨n, hn⟩ : ∃ n, onesN bs p (min m L) = n := ⟨_, rfl⟩
  have hle := onesN_le bs (min m L) p
  have hsm := h.small
  have hnm : n ≤ m := by omega
  have hnL : n ≤ L := by omega
  have hLs : L ≤ 800000000 := by omega
  have hps : p ≤ 800000000 := by omega
  have HL := Lib.hid hL
  have Hn := Lib.hid hn
  have hm9 : m ≤ 9223372036854775807 := by omega
  have hS : sUnary bs p 0 m L = if n = m then (m, p + m, 0) else if n = L then (0, p, 3) else (n, p + n + 1, 0) := by unfold sUnary; rw [if_neg (by simp), hn]
  have HS := Lib.hid hS
  have hmax : (mi < 0 ∧ m = 0) ∨ (0 ≤ mi ∧ mi = (m : Int)) := by omega
  clear hS hn hL hle hmi
  rcases hmax with ⟨h0, rfl⟩ | ⟨h0, rfl⟩
  all_goals
    go_enter Tryz.func104, Tryz.ntmps104
    go_wp2_with fail
    refine (rStuck_any g A c bs p 0 _ h).mono ?_
    rintro e w' ⟨rfl, rfl⟩
    go_wp2_with fail
  · refine (ones_any g A c bs p 0 L 0 _ h HL.out (by omega)).mono ?_
    rintro e w' ⟨rfl, n1, rfl⟩
    rw [Hn.out]
    obtain rfl : n = 0 := by omega
    have c1 := (h.drewN n1).blk.cell 1
    have f1 := (h.drewN n1).blk.frozen 1
    simp at c1
    go_wp2_with fail
    go_ret
    have hfin := HS.out
    rw [if_pos trivial] at hfin
    rw [hfin]
    exact ⟨rfl, h.setAt n1 (p + 0) (by have := HL.out; omega) _ (by omega)⟩
  · refine (ones_any g A c bs p m L 0 _ h HL.out hm9).mono ?_
    rintro e w' ⟨rfl, n1, rfl⟩
    rw [Hn.out]
    have c1 := (h.drewN n1).blk.cell 1
    have f1 := (h.drewN n1).blk.frozen 1
    have c2 := (h.drewN n1).blk.cell 2
    have f2 := (h.drewN n1).blk.frozen 2
    simp at c1 c2
    by_cases hnm' : n = m
    · have hb : ((n : Int) == (m : Int)) = true := by simp; omega
      have hfin := HS.out
      rw [if_pos hnm'] at hfin
      have HF := Lib.hid hfin
      have Hq := Lib.hid hnm'
      clear hfin hnm'
      go_wp2_with fail
      go_ret
      rw [HF.out]
      exact ⟨ret_int (by have := Hq.out; omega), h.setAt n1 (p + m) (by have := HL.out; have := Hq.out; omega) _ (by have := Hq.out; omega)⟩
    · have hb : ((n : Int) == (m : Int)) = false := by simp; omega
      have hfin := HS.out
      rw [if_neg hnm'] at hfin
      go_wp2_with fail
      refine (left_any g A c bs p L 0 _ (h.drewN n1) HL.out).mono ?_
      rintro e w' ⟨rfl, n2, rfl⟩
      have f1' := (h.drewN (n1 + n2)).blk.frozen 1
      have f2' := (h.drewN (n1 + n2)).blk.frozen 2
      by_cases hnL' : n = L
      · have hb2 : ((n : Int) == (L : Int)) = true := by simp; omega
        rw [if_pos hnL'] at hfin
        have HF := Lib.hid hfin
        clear hfin hnL' hnm'
        go_wp2_with fail
        go_ret
        rw [HF.out]
        exact ⟨rfl, h.setErr (n1 + n2) 3⟩
      · have hb2 : ((n : Int) == (L : Int)) = false := by simp; omega
        rw [if_neg hnL'] at hfin
        have hlt : n < L := by omega
        have HF := Lib.hid hfin
        clear hfin hnL' hnm'
        go_wp2_with fail
        go_ret
        rw [HF.out]
        exact ⟨rfl, h.setAt (n1 + n2) (p + n + 1) (by have := HL.out; omega) _ (by omega)⟩

set_option maxHeartbeats 800000 in
theorem rUnary_any : RUnary 161 104 := by
  intro g A c bs p L m err mi w h hL hmi hm
  by_cases he : err = 0
  · subst he
    exact rUnary_go g A c bs p L m mi w h hL hmi hm
  · have hS : sUnary bs p err m L = (0, p, err) := by unfold sUnary; rw [if_pos he]
    rw [hS]
    have hb : (err != 0) = true := by simp [he]
    clear hS he hL hmi
    go_enter Tryz.func104, Tryz.ntmps104
    go_wp2_with fail
    refine (rStuck_any g A c bs p err _ h).mono ?_
    rintro e w' ⟨rfl, rfl⟩
    go_wp2_with fail
    go_ret
    exact ⟨rfl, h, Kept.refl _ _⟩

/-- End: a quiet call. -/
def REnd (t : TypeId) (f : Nat) : Prop := ∀ (g : Nat) (A : Option Addr) (c : Nat) (bs : List Int) (p L : Nat) (err : Int) (w : World), Rd w g t A c bs p err → p + L = 8 * bs.length →
    Calls Tryz.prog f #[.pointer (some ⟨g, 0, none⟩)] w fun e w' => e = .returned (.int .i64 (sEnd bs p err L)) ∧ ∃ n, w' = w.drewN n


end Go.Proofs.YtodmchjdflpbpaaGreat
