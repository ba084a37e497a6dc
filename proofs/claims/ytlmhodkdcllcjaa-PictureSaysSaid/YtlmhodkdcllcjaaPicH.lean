/- The code's calls on a plain picture's head. -/
import Derived.Test.YtlmhodkdcllcjaaPicG
import Derived.Test.YtlmhodkdcllcjaaPicD
namespace Go.Proofs.Ytlmhodkdcllcjaa
open Go.RowKit
set_option maxRecDepth 100000

attribute [local go_sem ↓] Go.wp_at_zero Go.wp_at_succ

set_option maxHeartbeats 1600000 in
theorem cBlank_any (c : Int) (w : World) (h : 0 ≤ c ∧ c < 256) : Calls Try.prog 42 #[.int .u8 c] w fun e w' => e = .returned (.bool (decide (blk c))) ∧ w = w' := by
  have hcs : c = 32 ∨ c = 9 ∨ c = 10 ∨ c = 13 ∨ (c ≠ 32 ∧ c ≠ 9 ∧ c ≠ 10 ∧ c ≠ 13) := by omega
  rcases hcs with rfl | rfl | rfl | rfl | ⟨h1, h2, h3, h4⟩
  rotate_right
  · have hd : decide (blk c) = false := by simp [blk, h1, h2, h3, h4]
    rw [hd]
    clear hd
    have b1 : (c == 32) = false := by simp [h1]
    have b2 : (c == 9) = false := by simp [h2]
    have b3 : (c == 10) = false := by simp [h3]
    have b4 : (c == 13) = false := by simp [h4]
    go_enter Try.func42, Try.ntmps42
    go_wp2_with fail
    go_ret
    exact ⟨rfl, rfl⟩
  all_goals
    rw [show decide (blk _) = true from by simp [blk]]
    go_enter Try.func42, Try.ntmps42
    go_wp2_with fail
    go_ret
    exact ⟨rfl, rfl⟩

set_option maxHeartbeats 800000 in
theorem cDigit_any (v : Int) (w : World) : Calls Try.prog 49 #[.int .u8 v] w fun e w' => e = .returned (.bool (decide (dgt v))) ∧ w = w' := by
  by_cases h1 : 48 ≤ v
  · by_cases h2 : v ≤ 57
    · rw [decide_eq_true (show dgt v from ⟨h1, h2⟩)]
      go_enter Try.func49, Try.ntmps49
      go_wp2_with fail
      go_ret
      exact ⟨rfl, rfl⟩
    · rw [decide_eq_false (fun h : dgt v => h2 h.2)]
      go_enter Try.func49, Try.ntmps49
      go_wp2_with fail
      go_ret
      exact ⟨rfl, rfl⟩
  · rw [decide_eq_false (fun h : dgt v => h1 h.1)]
    go_enter Try.func49, Try.ntmps49
    go_wp2_with fail
    go_ret
    exact ⟨rfl, rfl⟩

/-- What a parser turns. -/
def PFt (g R k : Nat) : Prop := k = g ∨ k = R
/-- A parser and its reader, the byte of place i in hand. -/
structure PA (w : World) (g R : Nat) (A : Option Addr) (c : Nat) (l : List Int) (i : Nat) : Prop where
  le : i ≤ l.length
  blk : Blk w g 67 #[.pointer (some ⟨R, 0, none⟩), .int .u8 (l.getD i 0)]
  rd : ∃ p err, NRd w R 73 [] A c l p err ∧ (i < l.length → p = i + 1 ∧ err = 0) ∧ (¬ i < l.length → err ≠ 0)
  far : ∀ b o, A = some ⟨b, o, none⟩ → 0 < l.length → b ≠ g
/-- How far it is to the end. -/
def mea (w : World) (R : Nat) (l : List Int) : Nat := match w.cell? ⟨R, 2, none⟩, w.cell? ⟨R, 1, none⟩ with
  | some (.int _ e), some (.int _ p) => if e = 0 then l.length + 1 - p.toNat else 0
  | _, _ => 0

section
variable {w w' : World} {g R : Nat} {A : Option Addr} {c : Nat} {l : List Int} {i : Nat}
theorem PA.mea_ (h : PA w g R A c l i) : mea w R l = l.length - i := by
  obtain ⟨p, err, hr, h1, h2⟩ := h.rd
  unfold mea
  rw [hr.c2, hr.c1]
  simp only []
  have := h.le
  by_cases hi : i < l.length
  · obtain ⟨rfl, rfl⟩ := h1 hi
    rw [if_pos rfl]
    omega
  · rw [if_neg (h2 hi)]
    omega
theorem PA.c0 (h : PA w g R A c l i) : w.cell? ⟨g, 0, none⟩ = some (.pointer (some ⟨R, 0, none⟩)) := (h.blk.cell 0).trans rfl
theorem PA.c1 (h : PA w g R A c l i) : w.cell? ⟨g, 1, none⟩ = some (.int .u8 (l.getD i 0)) := (h.blk.cell 1).trans rfl
theorem PA.ne_ (h : PA w g R A c l i) : g ≠ R := by
  obtain ⟨p, err, hr, _⟩ := h.rd
  exact h.blk.ne_ hr.blk (by decide)
theorem PA.b8 (h : PA w g R A c l i) : ∀ c ∈ l, 0 ≤ c ∧ c < 256 := by
  obtain ⟨p, err, hr, _⟩ := h.rd
  exact hr.byte
theorem PA.drewN (h : PA w g R A c l i) (n : Nat) : PA (w.drewN n) g R A c l i := by
  obtain ⟨p, err, hr, h1, h2⟩ := h.rd
  exact ⟨h.le, h.blk.drewN n, ⟨p, err, hr.drewN n, h1, h2⟩, h.far⟩
theorem PA.fresh (h : PA w g R A c l i) (hf : Fresh w w') : PA w' g R A c l i := by
  obtain ⟨p, err, hr, h1, h2⟩ := h.rd
  exact ⟨h.le, h.blk.kept hf id, ⟨p, err, hr.kept hf id (fun _ _ _ _ => id), h1, h2⟩, h.far⟩
end

set_option maxHeartbeats 1600000 in
/-- A byte on: the one of place i comes to hand. -/
theorem cStep_from (g R : Nat) (A : Option Addr) (c : Nat) (l : List Int) (i p : Nat) (err x : Int) (w : World) (hi : i ≤ l.length)
    (h0 : Blk w g 67 #[.pointer (some ⟨R, 0, none⟩), .int .u8 x]) (h1 : NRd w R 73 [] A c l p err) (hf : ∀ b o, A = some ⟨b, o, none⟩ → 0 < l.length → b ≠ g)
    (hp : (err = 0 → p = i) ∧ (err ≠ 0 → i = l.length)) :
    Calls Try.prog 40 #[.pointer (some ⟨g, 0, none⟩)] w fun e w' => e = .returned (.tuple #[]) ∧ PA w' g R A c l i ∧ Kept (PFt g R) w w' := by
  have HL := Lib.hid (nrLittle_any R _ [] A c l p err w 1 h1)
  rw [show wid 1 = 1 from rfl] at HL
  have hne := h0.ne_ h1.blk (by decide)
  have h8 := h1.byte
  have c0 : w.cell? ⟨g, 0, none⟩ = some (.pointer (some ⟨R, 0, none⟩)) := (h0.cell 0).trans rfl
  have HE : Hid ((leNum (tk l p err 1).1 : Int) = l.getD i 0 ∧ (i < l.length → (tk l p err 1).2.1 = i + 1 ∧ (tk l p err 1).2.2 = 0) ∧ (¬ i < l.length → (tk l p err 1).2.2 ≠ 0)) := Lib.hid (by
    by_cases he : err = 0
    · subst he
      obtain rfl := hp.1 rfl
      by_cases h2 : p + 1 ≤ l.length
      · rw [tk_in h2]
        have hs : slc l p 1 = [l.getD p 0] := by
          unfold slc
          rw [drop_cons (by omega)]
          rfl
        refine ⟨?_, fun _ => ⟨rfl, rfl⟩, fun h => absurd h2 h⟩
        simp only []
        rw [hs, leNum_cons]
        have := h8 _ (getD_mem (xs := l) (k := p) (by omega))
        generalize l.getD p 0 = y at *
        rw [show leNum [] = 0 from rfl]
        omega
      · have ht : tk l p 0 1 = ([], p, 3) := by unfold tk; rw [if_neg (by simp), if_neg (by omega)]
        rw [ht]
        refine ⟨by rw [getD_past (by omega)]; rfl, fun h => absurd h h2, fun _ => ?_⟩
        simp
    · have ht : tk l p err 1 = ([], p, err) := by unfold tk; rw [if_pos he]
      have := hp.2 he
      rw [ht]
      exact ⟨by rw [getD_past (by omega)]; rfl, fun h => by omega, fun _ => he⟩)
  have H0 := Lib.hid (And.intro h0 (And.intro hf (And.intro hne hi)))
  have hx : 0 ≤ l.getD i 0 ∧ l.getD i 0 < 256 := by
    rcases Nat.lt_or_ge i l.length with h2 | h2
    · exact h8 _ (getD_mem h2)
    · rw [getD_past h2]; omega
  obtain ⟨r, hr⟩ : ∃ r, r = tk l p err 1 := ⟨_, rfl⟩
  rw [← hr] at HL HE
  obtain ⟨v, hv⟩ : ∃ v, v = l.getD i 0 := ⟨_, rfl⟩
  have hw : IntKind.u8.wrap v = v := by rw [hv]; exact IntWalk.u8_in _ (by omega)
  rw [← hv] at HE
  have Hv := Lib.hid hv
  clear h0 h1 hf hne h8 hp hr hi hx hv
  go_enter Try.func40, Try.ntmps40
  go_wp2_with fail
  refine HL.out.mono ?_
  rw [HE.out.1]
  rintro e w1 ⟨rfl, h1, hk⟩
  have hb := H0.out.1.kept hk H0.out.2.2.1
  have f1 := hb.frozen 1
  have k1 : w1.cell? ⟨g, 1, none⟩ = some (.int .u8 x) := (hb.cell 1).trans rfl
  have H1 := Lib.hid (And.intro hb (And.intro h1 hk))
  clear hb h1 hk HL c0
  go_wp2_with fail
  go_end0
  refine ⟨rfl, ⟨H0.out.2.2.2, ?_, ⟨r.2.1, r.2.2, ?_, HE.out.2.1, HE.out.2.2⟩, H0.out.2.1⟩, ?_⟩
  · have := H1.out.1.set_ 1 (.int .u8 v)
    rw [← Hv.out]
    simpa using this
  · exact H1.out.2.1.kept (S := fun k => k = g) (Kept.setCell (Kept.refl (fun k => k = g) w1) (p := ⟨g, _, none⟩) (fun _ => rfl) _) (fun e => H0.out.2.2.1 e.symm) (fun b o e hb => H0.out.2.1 b o e hb)
  · exact (H1.out.2.2.mono fun _ _ e => .inr e).setCell (p := ⟨g, 1, none⟩) (fun _ => .inl rfl) _

/-- A byte on. -/
theorem cStep_any (g R : Nat) (A : Option Addr) (c : Nat) (l : List Int) (i : Nat) (w : World) (h : PA w g R A c l i) (hi : i < l.length) :
    Calls Try.prog 40 #[.pointer (some ⟨g, 0, none⟩)] w fun e w' => e = .returned (.tuple #[]) ∧ PA w' g R A c l (i + 1) ∧ Kept (PFt g R) w w' := by
  obtain ⟨p, err, hr, h1, _⟩ := h.rd
  obtain ⟨rfl, rfl⟩ := h1 hi
  exact cStep_from g R A c l (i + 1) (i + 1) 0 _ w hi h.blk hr h.far ⟨fun _ => rfl, fun e => absurd rfl e⟩

end Go.Proofs.Ytlmhodkdcllcjaa
