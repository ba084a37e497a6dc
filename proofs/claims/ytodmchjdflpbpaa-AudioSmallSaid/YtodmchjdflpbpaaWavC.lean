/- The code's walk through the chunks of a WAV file, as plain mathematics, and its calls. -/
import Derived.Test.YtodmchjdflpbpaaNumR3
import Derived.Test.YtodmchjdflpbpaaWavAw
namespace Go.Proofs.Ytodmchjdflpbpaa
open Go.RowKit
set_option maxRecDepth 100000

attribute [local go_sem ↓] Go.wp_at_zero Go.wp_at_succ

/-- The next chunk of a name, with a size of least at least: where its content begins, and its size. -/
def cfind (bs : List Int) (p size : Nat) (want : List Int) (least : Nat) : Option (Nat × Nat) :=
  if p + size + size % 2 + 8 ≤ bs.length then
    if slc bs (p + size + size % 2) 4 = want ∧ least ≤ leAt bs (p + size + size % 2 + 4) 4 then some (p + size + size % 2 + 8, leAt bs (p + size + size % 2 + 4) 4)
    else cfind bs (p + size + size % 2 + 8) (leAt bs (p + size + size % 2 + 4) 4) want least
  else none
termination_by bs.length - p
decreasing_by omega

theorem cfind_le (bs : List Int) (p size : Nat) (want : List Int) (least : Nat) {r : Nat × Nat} (h : cfind bs p size want least = some r) : r.1 ≤ bs.length ∧ p + 8 ≤ r.1 ∧ least ≤ r.2 ∧ ∃ q, r.2 = leAt bs q 4 ∧ q + 4 ≤ bs.length := by
  induction p, size using cfind.induct bs want least with
  | case1 p size h1 h2 =>
    rw [cfind, if_pos h1, if_pos h2] at h
    injection h with h
    subst h
    exact ⟨h1, by simp only []; omega, h2.2, _, rfl, by omega⟩
  | case2 p size h1 h2 ih =>
    rw [cfind, if_pos h1, if_neg h2] at h
    have := ih h
    exact ⟨this.1, by omega, this.2.2⟩
  | case3 p size h1 =>
    rw [cfind, if_neg h1] at h
    cases h

theorem wgo_over {bs : List Int} {p : Nat} {s : WSt} (h : ¬ p + 8 ≤ bs.length) : wgo bs p s = none := by rw [wgo, if_neg h]

/-- Until the format is there. -/
theorem wgo_fmt (bs : List Int) (p size : Nat) : wgo bs (p + size + size % 2) (false, 0, 0, 0) = match cfind bs p size nFmt 16 with
    | none => none
    | some (q, sz) => if q + 16 ≤ bs.length then wgo bs (q + sz + sz % 2) (true, leAt bs q 2, leAt bs (q + 2) 2, leAt bs (q + 14) 2) else none := by
  induction p, size using cfind.induct bs nFmt 16 with
  | case1 p size h1 h2 =>
    rw [cfind, if_pos h1, if_pos h2]
    obtain ⟨a, ha⟩ : ∃ a, p + size + size % 2 = a := ⟨_, rfl⟩
    rw [ha] at h1 h2 ⊢
    simp only []
    by_cases h3 : a + 8 + 16 ≤ bs.length
    · rw [if_pos h3]
      exact wgo_next h1 (by unfold wfmt; rw [if_pos ⟨h2.1, rfl, h2.2, h3⟩]) (by rw [h2.1]; exact fun e => absurd e.1 (by decide))
    · rw [if_neg h3, wgo_next h1 (u := (false, 0, 0, 0)) (by unfold wfmt; rw [if_neg (fun e => h3 e.2.2.2)]) (fun e => by cases e.2)]
      exact wgo_over (by omega)
  | case2 p size h1 h2 ih =>
    rw [cfind, if_pos h1, if_neg h2, ← ih]
    obtain ⟨a, ha⟩ : ∃ a, p + size + size % 2 = a := ⟨_, rfl⟩
    rw [ha] at h1 h2 ⊢
    exact wgo_next h1 (by unfold wfmt; rw [if_neg (fun e => h2 ⟨e.1, e.2.2.1⟩)]) (fun e => by cases e.2)
  | case3 p size h1 =>
    rw [cfind, if_neg h1]
    exact wgo_over h1
/-- .. and the samples. -/
theorem wgo_smp (bs : List Int) (k ch b : Nat) (p size : Nat) : wgo bs (p + size + size % 2) (true, k, ch, b) = match cfind bs p size nData 0 with
    | none => none
    | some (q, sz) => wfin bs.length (true, k, ch, b) q sz := by
  induction p, size using cfind.induct bs nData 0 with
  | case1 p size h1 h2 =>
    rw [cfind, if_pos h1, if_pos h2]
    obtain ⟨a, ha⟩ : ∃ a, p + size + size % 2 = a := ⟨_, rfl⟩
    rw [ha] at h1 h2 ⊢
    simp only []
    exact wgo_end h1 (by unfold wfmt; rw [if_neg (fun e => by cases e.2.1)]) h2.1 rfl
  | case2 p size h1 h2 ih =>
    rw [cfind, if_pos h1, if_neg h2, ← ih]
    obtain ⟨a, ha⟩ : ∃ a, p + size + size % 2 = a := ⟨_, rfl⟩
    rw [ha] at h1 h2 ⊢
    exact wgo_next h1 (by unfold wfmt; rw [if_neg (fun e => by cases e.2.1)]) (fun e => h2 ⟨e.1, Nat.zero_le _⟩)
  | case3 p size h1 =>
    rw [cfind, if_neg h1]
    exact wgo_over h1

/-- All of it: the head; the format; the samples. -/
theorem wparse_head {bs : List Int} (h : bs.length < 12 ∨ slc bs 0 4 ≠ nRIFF ∨ slc bs 8 4 ≠ nWAVE) : wparse bs = none := by unfold wparse; rw [if_pos h]
theorem wparse_f0 {bs : List Int} (h1 : ¬ (bs.length < 12 ∨ slc bs 0 4 ≠ nRIFF ∨ slc bs 8 4 ≠ nWAVE)) : wparse bs = wgo bs (12 + 0 + 0 % 2) (false, 0, 0, 0) := by unfold wparse; rw [if_neg h1]
theorem wparse_nofmt {bs : List Int} (h1 : ¬ (bs.length < 12 ∨ slc bs 0 4 ≠ nRIFF ∨ slc bs 8 4 ≠ nWAVE)) (h2 : cfind bs 12 0 nFmt 16 = none) : wparse bs = none := by
  rw [wparse_f0 h1, wgo_fmt, h2]
theorem wparse_fmt {bs : List Int} (h1 : ¬ (bs.length < 12 ∨ slc bs 0 4 ≠ nRIFF ∨ slc bs 8 4 ≠ nWAVE)) {q sz : Nat} (h2 : cfind bs 12 0 nFmt 16 = some (q, sz)) :
    wparse bs = if q + 16 ≤ bs.length then wgo bs (q + 16 + (sz - 16) + (sz - 16) % 2) (true, leAt bs q 2, leAt bs (q + 2) 2, leAt bs (q + 14) 2) else none := by
  have := cfind_le _ _ _ _ _ h2
  rw [wparse_f0 h1, wgo_fmt, h2]
  simp only []
  rw [show q + 16 + (sz - 16) + (sz - 16) % 2 = q + sz + sz % 2 from by simp only [] at this; omega]
theorem wgo_wbad {bs : List Int} {p : Nat} {s : WSt} (hs : s.1 = true) (h : wbad s) : ∀ (size : Nat), wgo bs (p + size + size % 2) s = none := by
  intro size
  obtain ⟨b, k, ch, bi⟩ := s
  simp only [] at hs
  subst hs
  rw [wgo_smp]
  split
  · rfl
  · unfold wfin; rw [if_pos h]

/-- A reader's place. -/
def numIn2 (w : World) (R : Nat) : Int := match w.cell? ⟨R, 1, none⟩ with | some (.int _ x) => x | _ => 0

/-- The reader and what goes through the chunks with it. -/
structure CK (w : World) (g R : Nat) (A : Option Addr) (c : Nat) (bs : List Int) (p : Nat) (err : Int) (nm : ByteArray) (size : Nat) : Prop where
  blk : Blk w g 57 #[.pointer (some ⟨R, 0, none⟩), .string nm, .int .u64 size]
  rd : NRd w R 73 [] A c bs p err
  far : ∀ b o, A = some ⟨b, o, none⟩ → 0 < bs.length → b ≠ g
def CFoot (g R k : Nat) : Prop := k = g ∨ k = R

section
variable {w w' : World} {g R : Nat} {A : Option Addr} {c : Nat} {bs : List Int} {p : Nat} {err : Int} {nm : ByteArray} {size : Nat}
theorem CK.ne_ (h : CK w g R A c bs p err nm size) : g ≠ R := h.blk.ne_ h.rd.blk (by decide)
theorem CK.step {p' : Nat} {err' : Int} (h : CK w g R A c bs p err nm size) (hr : NRd w' R 73 [] A c bs p' err') (hk : Mine R w w') : CK w' g R A c bs p' err' nm size :=
  ⟨h.blk.kept hk h.ne_, hr, h.far⟩
theorem CK.drewN (h : CK w g R A c bs p err nm size) (n : Nat) : CK (w.drewN n) g R A c bs p err nm size := ⟨h.blk.drewN n, h.rd.drewN n, h.far⟩
theorem CK.drew (h : CK w g R A c bs p err nm size) : CK w.drew g R A c bs p err nm size := ⟨h.blk.drew, h.rd.drew, h.far⟩
theorem CK.setName (h : CK w g R A c bs p err nm size) (nm' : ByteArray) : CK (w.setCell ⟨g, 1, none⟩ (.string nm')) g R A c bs p err nm' size :=
  ⟨by simpa using h.blk.set_ 1 (.string nm'), h.rd.kept (S := fun k => k = g) (Kept.setCell (Kept.refl (fun k => k = g) w) (p := ⟨g, _, none⟩) (fun _ => rfl) _) (fun e => h.ne_ e.symm) (fun b o e hb => h.far b o e hb), h.far⟩
theorem CK.setSize (h : CK w g R A c bs p err nm size) (size' : Nat) : CK (w.setCell ⟨g, 2, none⟩ (.int .u64 size')) g R A c bs p err nm size' :=
  ⟨by simpa using h.blk.set_ 2 (.int .u64 size'), h.rd.kept (S := fun k => k = g) (Kept.setCell (Kept.refl (fun k => k = g) w) (p := ⟨g, _, none⟩) (fun _ => rfl) _) (fun e => h.ne_ e.symm) (fun b o e hb => h.far b o e hb), h.far⟩
theorem CK.c0 (h : CK w g R A c bs p err nm size) : w.cell? ⟨g, 0, none⟩ = some (.pointer (some ⟨R, 0, none⟩)) := by rw [h.blk.cell 0]; rfl
theorem CK.c1 (h : CK w g R A c bs p err nm size) : w.cell? ⟨g, 1, none⟩ = some (.string nm) := by rw [h.blk.cell 1]; rfl
theorem CK.c2 (h : CK w g R A c bs p err nm size) : w.cell? ⟨g, 2, none⟩ = some (.int .u64 size) := by rw [h.blk.cell 2]; rfl
theorem Mine.foot (h : Mine R w w') : Kept (CFoot g R) w w' := h.mono fun _ _ e => .inr e
end

/-- Two takes of four bytes. -/
theorem tk_ok {bs : List Int} {p n : Nat} (h : p + n ≤ bs.length) : tk bs p 0 n = (slc bs p n, p + n, 0) := by
  unfold tk; rw [if_neg (by simp), if_pos (by omega)]; rfl
theorem tk_short {bs : List Int} {p n : Nat} (h : ¬ p + n ≤ bs.length) (hp : p ≤ bs.length) : tk bs p 0 n = ([], p, 3) := by
  unfold tk; rw [if_neg (by simp), if_neg (by omega)]
theorem tk_err (bs : List Int) (p n : Nat) {err : Int} (h : err ≠ 0) : tk bs p err n = ([], p, err) := by
  unfold tk; rw [if_pos h]

section
variable (g R : Nat) (A : Option Addr) (c : Nat) (bs : List Int)

/-- What next leaves. -/
def NextPost (q : Nat) (w : World) (e : Ending) (w' : World) : Prop :=
  (if q + 8 ≤ bs.length then e = .returned (.bool true) ∧ CK w' g R A c bs (q + 8) 0 (strOfNums (slc bs q 4)) (leAt bs (q + 4) 4) else e = .returned (.bool false)) ∧ Kept (CFoot g R) w w'

set_option maxHeartbeats 1600000 in
theorem cNext_any (p : Nat) (nm : ByteArray) (size : Nat) (w : World) (h : CK w g R A c bs p 0 nm size) (hs : size < 8589934592) (hl : bs.length ≤ 100000000) :
    Calls Try.prog 30 #[.pointer (some ⟨g, 0, none⟩)] w (NextPost g R A c bs (p + size + size % 2) w) := by
  obtain ⟨L, hL⟩ : ∃ L, p + L = bs.length := ⟨bs.length - p, by have := h.rd.le; omega⟩
  obtain ⟨m, hm⟩ : ∃ m, m = size % 2 := ⟨_, rfl⟩
  obtain ⟨be, hbe⟩ : ∃ be, be = size + m := ⟨_, rfl⟩
  obtain ⟨q, hq⟩ : ∃ q, q = p + be := ⟨_, rfl⟩
  rw [show p + size + size % 2 = q from by omega]
  have Hqq := Lib.hid hq
  have m2 : (size : Int).tmod 2 = (m : Int) := by rw [Int.tmod_eq_emod_of_nonneg (by omega)]; omega
  have m3 : (size : Int) + (m : Int) = (be : Int) := by omega
  have s0 : (size : Int) < 8589934592 := by omega
  have b0 : (be : Int) < 8589934600 := by omega
  have l0 : (L : Int) ≤ 100000000 := by omega
  have c0 := h.c0
  have c2 := h.c2
  have HL := Lib.hid hL
  have Hl := Lib.hid hl
  have H := Lib.hid h
  have Hle := Lib.hid h.rd.le
  clear h hL hl hbe hm hq
  by_cases hgt : L < be
  · have j : (L : Int) < (be : Int) := by omega
    have Hno : Hid (¬ q + 8 ≤ bs.length) := Lib.hid (by have := HL.out; have := Hqq.out; omega)
    go_enter Try.func30, Try.ntmps30
    go_wp2_with fail
    go_quiet (fail)
    clear m2 m3 s0 c2
    go_wp2_with fail
    refine (nrLeft_any R _ [] A c bs p 0 _ L (H.out.rd.drewN _) HL.out).mono ?_
    rintro e w2 ⟨rfl, n2, rfl⟩
    go_wp2_with fail
    go_ret
    unfold NextPost
    rw [if_neg Hno.out]
    exact ⟨rfl, (Kept.refl _ _).drewN _⟩
  · have j : (be : Int) ≤ (L : Int) := by omega
    go_enter Try.func30, Try.ntmps30
    go_wp2_with fail
    go_quiet (fail)
    clear m2 m3 s0 c2
    go_wp2_with fail
    refine (nrLeft_any R _ [] A c bs p 0 _ L (H.out.rd.drewN _) HL.out).mono ?_
    rintro e w2 ⟨rfl, n2, rfl⟩
    go_wp2_with fail
    have H2 := Lib.hid (And.intro (H.out.drewN (nq + n2)) (Kept.drewN (Kept.refl (CFoot g R) w) (nq + n2)))
    refine (nrRaw_any R _ [] A c bs p 0 _ (be : Int) (by omega) H2.out.1.rd).mono ?_
    rintro e w3 ⟨u3, rfl, _, _, h3, k3⟩
    rw [Int.toNat_natCast, tk_ok (by have := HL.out; omega), ← Hqq.out] at h3
    simp only [] at h3
    have H3 := Lib.hid (And.intro (H2.out.1.step h3 k3) (H2.out.2.trans k3.foot fun _ _ e => e))
    have c0 := H3.out.1.c0
    have Hq := Lib.hid h3.le
    clear h3 k3 H2 H
    go_wp2_with fail
    refine (nrRaw_any R _ [] A c bs q 0 _ 4 (by omega) H3.out.1.rd).mono ?_
    rintro e w4 ⟨u4, rfl, o4, n4, h4, k4⟩
    have hb4 : ∀ x ∈ (tk bs q 0 4).1, 0 ≤ x ∧ x < 256 := tk_byte bs q 0 4 H3.out.1.rd.byte
    obtain ⟨r4, hr4⟩ : ∃ r4, r4 = tk bs q 0 4 := ⟨_, rfl⟩
    simp only [show (4 : Int).toNat = 4 from rfl] at o4 h4
    rw [← hr4] at o4 h4
    obtain ⟨A4, d4, rfl, row4, _⟩ := o4.row
    have s4 := row_string row4 d4
    have c0 := (H3.out.1.step h4 k4).c0
    have c1 := (H3.out.1.step h4 k4).c1
    have l1 := (H3.out.1.step h4 k4).blk.frozen 1
    have H4 := Lib.hid (And.intro ((H3.out.1.step h4 k4).setName (strOfNums r4.1)) ((H3.out.2.trans k4.foot fun _ _ e => e).setCell (p := ⟨g, 1, none⟩) (fun _ => .inl rfl) (.string (strOfNums r4.1))))
    have Hr4 := Lib.hid hr4
    clear o4 n4 h4 k4 row4 hr4 hb4 H3
    go_wp2_with fail
    have c0 := H4.out.1.c0
    go_wp2_with fail
    refine (nrLittle_any R _ [] A c bs r4.2.1 r4.2.2 _ 4 H4.out.1.rd).mono ?_
    rw [show wid 4 = 4 from rfl]
    rintro e w5 ⟨rfl, h5, k5⟩
    obtain ⟨r5, hr5⟩ : ∃ r5, r5 = tk bs r4.2.1 r4.2.2 4 := ⟨_, rfl⟩
    rw [← hr5] at h5 ⊢
    obtain ⟨s5, hs5⟩ : ∃ s5, s5 = leNum r5.1 := ⟨_, rfl⟩
    rw [← hs5]
    have c2 := (H4.out.1.step h5 k5).c2
    have l2 := (H4.out.1.step h5 k5).blk.frozen 2
    have k0 := (H4.out.1.step h5 k5).c0
    have H5 := Lib.hid (And.intro ((H4.out.1.step h5 k5).setSize s5) ((H4.out.2.trans k5.foot fun _ _ e => e).setCell (p := ⟨g, 2, none⟩) (fun _ => .inl rfl) (.int .u64 s5)))
    have Hr5 := Lib.hid (And.intro hr5 hs5)
    clear h5 k5 hr5 hs5 H4 c0 c1 l1 s4
    go_wp2_with fail
    have c0 := H5.out.1.c0
    go_wp2_with fail
    refine (nrErr_any R _ [] A c bs r5.2.1 r5.2.2 _ H5.out.1.rd).mono ?_
    rintro e w6 ⟨rfl, rfl⟩
    have Hfin : Hid (if q + 8 ≤ bs.length then r5.2.2 = 0 ∧ r5.2.1 = q + 8 ∧ r4.1 = slc bs q 4 ∧ s5 = leAt bs (q + 4) 4 else r5.2.2 ≠ 0) := Lib.hid (by
      have h4 := Hr4.out
      have h5 := Hr5.out.1
      have hs := Hr5.out.2
      by_cases a1 : q + 4 ≤ bs.length
      · rw [tk_ok a1] at h4
        subst h4
        by_cases a2 : q + 8 ≤ bs.length
        · rw [if_pos a2]
          simp only [] at h5
          rw [tk_ok (by omega)] at h5
          subst h5
          exact ⟨rfl, rfl, rfl, hs⟩
        · rw [if_neg a2]
          simp only [] at h5
          rw [tk_short (by omega) a1] at h5
          subst h5
          show (3 : Int) ≠ 0
          decide
      · rw [if_neg (by omega)]
        rw [tk_short a1 Hq.out] at h4
        subst h4
        simp only [] at h5
        rw [tk_err _ _ _ (by decide)] at h5
        subst h5
        show (3 : Int) ≠ 0
        decide)
    obtain ⟨ee, hee⟩ : ∃ ee, ee = r5.2.2 := ⟨_, rfl⟩
    rw [← hee]
    have Hee := Lib.hid hee
    clear hee Hr4 Hr5
    by_cases he0 : ee = 0
    · subst he0
      go_wp2_with fail
      go_ret
      unfold NextPost
      have h1 := Hfin.out
      by_cases a2 : q + 8 ≤ bs.length
      · rw [if_pos a2] at h1 ⊢
        have h2 := H5.out.1
        rw [h1.1, h1.2.1, h1.2.2.1] at h2
        have h3 := H5.out.2
        have h4 := h1.2.2.2
        generalize w5.setCell ⟨g, 2, none⟩ (.int .u64 s5) = W at h2 h3 ⊢
        rw [← h4]
        exact ⟨⟨rfl, h2⟩, h3⟩
      · rw [if_neg a2] at h1
        exact absurd Hee.out.symm h1
    · have hb : (ee == 0) = false := by simp [he0]
      have He0 := Lib.hid he0
      clear he0
      go_wp2_with fail
      go_ret
      unfold NextPost
      have h1 := Hfin.out
      by_cases a2 : q + 8 ≤ bs.length
      · rw [if_pos a2] at h1
        exact absurd (Hee.out.trans h1.1) He0.out
      · rw [if_neg a2]
        exact ⟨rfl, H5.out.2⟩
/-- What find leaves. -/
def FindPost (r : Option (Nat × Nat)) (w : World) (e : Ending) (w' : World) : Prop :=
  (match r with | some (q, sz) => e = .returned (.bool true) ∧ ∃ nm, CK w' g R A c bs q 0 nm sz | none => e = .returned (.bool false)) ∧ Kept (CFoot g R) w w'

theorem CK.at1 {w : World} {p : Nat} {err : Int} {nm : ByteArray} {size : Nat} (h : CK w g R A c bs p err nm size) : numIn2 w R = p := by
  unfold numIn2; rw [h.rd.c1]

set_option maxHeartbeats 1600000 in
theorem cFind_any (p : Nat) (nm : ByteArray) (size : Nat) (w : World) (sW : ByteArray) (want : List Int) (hW : ∀ ys : List Int, (∀ y ∈ ys, 0 ≤ y ∧ y < 256) → ((strOfNums ys).toList == sW.toList) = decide (ys = want)) (least : Nat) (h : CK w g R A c bs p 0 nm size) (hs : size < 4294967296) (hl : bs.length ≤ 100000000) :
    Calls Try.prog 17 #[.pointer (some ⟨g, 0, none⟩), .string sW, .int .u64 least] w (FindPost g R A c bs (cfind bs p size want least) w) := by
  obtain ⟨r, hr⟩ : ∃ r, cfind bs p size want least = r := ⟨_, rfl⟩
  rw [hr]
  have HB := Lib.hid (And.intro hW (And.intro h.rd.byte (And.intro hl h.rd.small)))
  have H0 := Lib.hid (And.intro h (And.intro hs hr))
  clear hW h hs hr hl
  go_enter Try.func17, Try.ntmps17
  go_wp2_with fail
  go_loopw [8] (fun _ wr => ∃ p' nm' size', CK wr g R A c bs p' 0 nm' size' ∧ size' < 4294967296 ∧ cfind bs p' size' want least = r ∧ Kept (CFoot g R) w wr) (fun _ wr => (bs.length - numIn2 wr R).toNat)
  case atStart => exact ⟨p, nm, size, H0.out.1, H0.out.2.1, H0.out.2.2, Kept.refl _ _⟩
  case round =>
    obtain ⟨p', nm', size', hc, hs', hr', hk'⟩ := hrel
    have h1 := CK.at1 g R A c bs hc
    have HM := Lib.hid h1
    have H1 := Lib.hid (And.intro hc (And.intro hs' (And.intro hr' hk')))
    clear hc hs' hr' hk' h1
    go_wp2_with fail
    refine (cNext_any g R A c bs p' nm' size' _ H1.out.1 (by have := H1.out.2.1; omega) HB.out.2.2.1).mono ?_
    rintro e w1 ⟨hn, hk⟩
    have H2 := Lib.hid (H1.out.2.2.2.trans hk fun _ _ e => e)
    clear hk
    have hr' := H1.out.2.2.1
    rw [cfind] at hr'
    by_cases hq : p' + size' + size' % 2 + 8 ≤ bs.length
    · rw [if_pos hq] at hn hr'
      obtain ⟨rfl, hc1⟩ := hn
      have hmes : numIn2 w1 R = (p' + size' + size' % 2 + 8 : Nat) := CK.at1 g R A c bs hc1
      have hlt := leAt_lt HB.out.2.1 (p := p' + size' + size' % 2 + 4) (k := 4) (by omega)
      obtain ⟨q, hqq⟩ : ∃ q, p' + size' + size' % 2 = q := ⟨_, rfl⟩
      have HQ : Hid (p' ≤ q ∧ q + 8 ≤ bs.length) := Lib.hid (by omega)
      rw [hqq] at hc1 hlt hr' hmes
      have hcmp := HB.out.1 (slc bs q 4) (slc_byte q 4 HB.out.2.1)
      obtain ⟨sz, hsz⟩ : ∃ sz, leAt bs (q + 4) 4 = sz := ⟨_, rfl⟩
      rw [hsz] at hc1 hlt hr'
      have c1 := hc1.c1
      have c2 := hc1.c2
      have H3 := Lib.hid (And.intro hc1 (And.intro hlt hmes))
      clear hc1 hlt hmes hqq hq hsz
      by_cases a1 : slc bs q 4 = want
      · rw [decide_eq_true a1] at hcmp
        by_cases a2 : least ≤ sz
        · rw [if_pos ⟨a1, a2⟩] at hr'
          have a2' : (least : Int) ≤ (sz : Int) := by omega
          have HR := Lib.hid hr'
          clear a1 a2 hr'
          go_wp2_with fail
          go_ret
          rw [← HR.out]
          exact ⟨⟨rfl, _, H3.out.1⟩, H2.out⟩
        · rw [if_neg (fun e => a2 e.2)] at hr'
          have a2' : (sz : Int) < (least : Int) := by omega
          have HR := Lib.hid hr'
          clear a1 a2 hr'
          go_wp2_with fail
          go_roundw
          case rel => exact ⟨_, _, _, H3.out.1, H3.out.2.1, HR.out, H2.out⟩
          case measure => rw [H3.out.2.2, HM.out]; have := HQ.out; omega
      · rw [decide_eq_false a1] at hcmp
        rw [if_neg (fun e => a1 e.1)] at hr'
        have HR := Lib.hid hr'
        clear a1 hr'
        go_wp2_with fail
        go_roundw
        case rel => exact ⟨_, _, _, H3.out.1, H3.out.2.1, HR.out, H2.out⟩
        case measure => rw [H3.out.2.2, HM.out]; have := HQ.out; omega
    · rw [if_neg hq] at hn hr'
      obtain rfl := hn
      have HR := Lib.hid hr'
      clear hr' hq
      go_wp2_with fail
      go_ret
      rw [← HR.out]
      exact ⟨rfl, H2.out⟩
/-- May samples be so? -/
def wokI (ch b : Int) : Prop := 1 ≤ ch ∧ ch ≤ 8 ∧ (b = 8 ∨ b = 16)
instance (ch b : Int) : Decidable (wokI ch b) := by unfold wokI; infer_instance

omit g R A c bs in
set_option maxHeartbeats 800000 in
theorem cwFits_any (ch b f t : Int) (w : World) : Calls Try.prog 33 #[.agg #[.int .i64 ch, .int .i64 b, .int .i64 f, .int .i64 t]] w fun e w' => e = .returned (.bool (decide (wokI ch b))) ∧ Fresh w w' := by
  obtain ⟨B, hB⟩ : ∃ B, decide (wokI ch b) = B := ⟨_, rfl⟩
  rw [hB]
  have HB := Lib.hid hB
  clear hB
  by_cases h1 : 1 ≤ ch
  · by_cases h2 : ch ≤ 8
    · by_cases h3 : b = 8
      · subst h3
        obtain rfl : true = B := by rw [← HB.out]; exact (decide_eq_true ⟨h1, h2, .inl rfl⟩).symm
        go_enter Try.func33, Try.ntmps33
        go_wp2_with fail
        go_ret
        exact ⟨rfl, (Kept.refl _ _).alloc _⟩
      · by_cases h4 : b = 16
        · subst h4
          obtain rfl : true = B := by rw [← HB.out]; exact (decide_eq_true ⟨h1, h2, .inr rfl⟩).symm
          go_enter Try.func33, Try.ntmps33
          go_wp2_with fail
          go_ret
          exact ⟨rfl, (Kept.refl _ _).alloc _⟩
        · obtain rfl : false = B := by rw [← HB.out]; exact (decide_eq_false (fun e => e.2.2.elim h3 h4)).symm
          have b1 : (b == 8) = false := by simp [h3]
          have b2 : (b == 16) = false := by simp [h4]
          clear h3 h4
          go_enter Try.func33, Try.ntmps33
          go_wp2_with fail
          go_ret
          exact ⟨rfl, (Kept.refl _ _).alloc _⟩
    · obtain rfl : false = B := by rw [← HB.out]; exact (decide_eq_false (fun e => h2 e.2.1)).symm
      have h2' : 8 < ch := by omega
      clear h2
      go_enter Try.func33, Try.ntmps33
      go_wp2_with fail
      go_ret
      exact ⟨rfl, (Kept.refl _ _).alloc _⟩
  · obtain rfl : false = B := by rw [← HB.out]; exact (decide_eq_false (fun e => h1 e.1)).symm
    have h1' : ch < 1 := by omega
    clear h1
    go_enter Try.func33, Try.ntmps33
    go_wp2_with fail
    go_ret
    exact ⟨rfl, (Kept.refl _ _).alloc _⟩

omit g R A c bs in
set_option maxHeartbeats 800000 in
theorem cFrame_any (ch b : Nat) (f t : Int) (w : World) (h : wok ch b) : Calls Try.prog 20 #[.agg #[.int .i64 ch, .int .i64 b, .int .i64 f, .int .i64 t]] w fun e w' => e = .returned (.int .i64 (ch * b / 8 : Nat)) ∧ Fresh w w' := by
  obtain ⟨m8, hm8⟩ : ∃ m8, m8 = ch * b := ⟨_, rfl⟩
  have hm : (ch : Int) * (b : Int) = (m8 : Int) := by rw [hm8]; simp
  have m8l : m8 ≤ 128 := by
    unfold wok at h
    rw [hm8]
    rcases h.2.2 with e | e <;> subst e <;> omega
  obtain ⟨fr, hfr⟩ : ∃ fr, fr = m8 / 8 := ⟨_, rfl⟩
  rw [← hm8, ← hfr]
  have hf8 : (m8 : Int).tdiv 8 = (fr : Int) := by rw [Int.tdiv_eq_ediv_of_nonneg (by omega)]; omega
  have m80 : (0 : Int) ≤ (m8 : Int) := by omega
  have m81 : (m8 : Int) ≤ 128 := by omega
  have fr0 : (0 : Int) ≤ (fr : Int) := by omega
  have fr1 : (fr : Int) ≤ 16 := by omega
  clear hm8 hfr m8l h
  go_enter Try.func20, Try.ntmps20
  go_wp2_with fail
  go_ret
  exact ⟨rfl, (Kept.refl _ _).alloc _⟩
instance (ch b : Nat) : Decidable (wok ch b) := by unfold wok; infer_instance

theorem tk_stay {bs : List Int} {p n : Nat} {r : List Int × Nat × Int} (h : r = tk bs p 0 n) (hp : p ≤ bs.length) : (p + n ≤ bs.length → r = (slc bs p n, p + n, 0)) ∧ (¬ p + n ≤ bs.length → r.2.2 ≠ 0) := by
  refine ⟨fun e => by rw [h, tk_ok e], fun e => ?_⟩
  rw [h, tk_short e hp]
  show (3 : Int) ≠ 0
  decide
theorem tk_bad {bs : List Int} {p n : Nat} {err : Int} {r : List Int × Nat × Int} (h : r = tk bs p err n) (he : err ≠ 0) : r.2.2 ≠ 0 := by
  rw [h, tk_err _ _ _ he]; exact he

theorem fmt_reads {bs : List Int} {p : Nat} (hp : p ≤ bs.length) {r1 r2 r3 r4 : List Int × Nat × Int} (h1 : r1 = tk bs p 0 2) (h2 : r2 = tk bs r1.2.1 r1.2.2 2) (h3 : r3 = tk bs r2.2.1 r2.2.2 10) (h4 : r4 = tk bs r3.2.1 r3.2.2 2) :
    if p + 16 ≤ bs.length then r4.2.2 = 0 ∧ r4.2.1 = p + 16 ∧ r1.1 = slc bs p 2 ∧ r2.1 = slc bs (p + 2) 2 ∧ r4.1 = slc bs (p + 14) 2 else r4.2.2 ≠ 0 := by
  obtain ⟨a1, b1⟩ := tk_stay h1 hp
  by_cases c1 : p + 2 ≤ bs.length
  · obtain rfl := a1 c1
    simp only [] at h2
    obtain ⟨a2, b2⟩ := tk_stay h2 (by omega)
    by_cases c2 : p + 2 + 2 ≤ bs.length
    · obtain rfl := a2 c2
      simp only [] at h3
      obtain ⟨a3, b3⟩ := tk_stay h3 (by omega)
      by_cases c3 : p + 2 + 2 + 10 ≤ bs.length
      · obtain rfl := a3 c3
        simp only [] at h4
        obtain ⟨a4, b4⟩ := tk_stay h4 (by omega)
        by_cases c4 : p + 16 ≤ bs.length
        · rw [if_pos c4]
          obtain rfl := a4 (by omega)
          exact ⟨rfl, rfl, rfl, rfl, rfl⟩
        · rw [if_neg c4]
          exact b4 (by omega)
      · rw [if_neg (by omega)]
        exact tk_bad h4 (b3 c3)
    · rw [if_neg (by omega)]
      exact tk_bad h4 (tk_bad h3 (b2 c2))
  · rw [if_neg (by omega)]
    exact tk_bad h4 (tk_bad h3 (tk_bad h2 (b1 c1)))

theorem tk_e3 {bs : List Int} {p n : Nat} {err : Int} {r : List Int × Nat × Int} (h : r = tk bs p err n) (he : err = 0 ∨ err = 3) : r.2.2 = 0 ∨ r.2.2 = 3 := by
  rw [h]
  rcases he with rfl | rfl
  · unfold tk
    rw [if_neg (by simp)]
    split
    · exact .inl rfl
    · exact .inr rfl
  · rw [tk_err _ _ _ (by decide)]; exact .inr rfl
theorem fmt_err {bs : List Int} {p : Nat} {r1 r2 r3 r4 : List Int × Nat × Int} (h1 : r1 = tk bs p 0 2) (h2 : r2 = tk bs r1.2.1 r1.2.2 2) (h3 : r3 = tk bs r2.2.1 r2.2.2 10) (h4 : r4 = tk bs r3.2.1 r3.2.2 2) (hn : r4.2.2 ≠ 0) : r4.2.2 = 3 :=
  (tk_e3 h4 (tk_e3 h3 (tk_e3 h2 (tk_e3 h1 (.inl rfl))))).resolve_left hn

/-- What format leaves. -/
def FormatPost (p : Nat) (nm : ByteArray) (size : Nat) (w : World) (e : Ending) (w' : World) : Prop :=
  ∃ (a b : Nat) (ok : Bool), e = .returned (.tuple #[.agg #[.int .i64 a, .int .i64 b, .int .i64 0, .int .i64 0], .bool ok]) ∧ Kept (CFoot g R) w w' ∧
    if p + 16 ≤ bs.length then a = leAt bs (p + 2) 2 ∧ b = leAt bs (p + 14) 2 ∧ ok = decide (leAt bs p 2 = 1 ∧ wok a b) ∧ CK w' g R A c bs (p + 16) 0 nm (size - 16) else ok = false

set_option maxHeartbeats 3200000 in
theorem cFormat_any (p : Nat) (nm : ByteArray) (size : Nat) (w : World) (h : CK w g R A c bs p 0 nm size) (hs : size < 4294967296) (h16 : 16 ≤ size) (hl : bs.length ≤ 100000000) :
    Calls Try.prog 18 #[.pointer (some ⟨g, 0, none⟩)] w (FormatPost g R A c bs p nm size w) := by
  have HB := Lib.hid (And.intro h.rd.byte (And.intro hl h.rd.le))
  obtain ⟨W0, hW0⟩ : ∃ W0, W0 = w.alloc (.cells #[.int .i64 0, .int .i64 0, .int .i64 0, .int .i64 0] 26) := ⟨_, rfl⟩
  have hf0 : Fresh w W0 := by rw [hW0]; exact (Kept.refl _ _).alloc _
  have hb0 : Blk W0 w.heap.size 26 #[.int .i64 0, .int .i64 0, .int .i64 0, .int .i64 0] := by rw [hW0]; exact Blk.new _ _ _
  have h0 : CK W0 g R A c bs p 0 nm size := ⟨h.blk.kept hf0 id, h.rd.kept hf0 id (fun _ _ _ _ => id), h.far⟩
  have c0 := h0.c0
  rw [hW0] at c0
  have gl := h.blk.lt
  have H0 := Lib.hid (And.intro h0 (And.intro hf0 hb0))
  have H0' := Lib.hid h.rd
  clear h h0 hf0 hb0 hl
  go_enter Try.func18, Try.ntmps18
  go_wp2_with fail
  rw [← hW0]
  clear hW0
  refine (nrLittle_any R _ [] A c bs p 0 _ 2 H0.out.1.rd).mono ?_
  rw [show wid 2 = 2 from rfl]
  rintro e w1 ⟨rfl, h1, k1⟩
  obtain ⟨r1, hr1⟩ : ∃ r1, r1 = tk bs p 0 2 := ⟨_, rfl⟩
  rw [← hr1] at h1 ⊢
  obtain ⟨kd, hkd⟩ : ∃ kd, kd = leNum r1.1 := ⟨_, rfl⟩
  rw [← hkd]
  have H1 := Lib.hid (And.intro (H0.out.1.step h1 k1) (k1.foot (g := g)))
  have c0 := H1.out.1.c0
  have Hr1 := Lib.hid (And.intro hr1 hkd)
  clear h1 k1 hr1 hkd
  go_wp2_with fail
  refine (nrLittle_any R _ [] A c bs r1.2.1 r1.2.2 _ 2 H1.out.1.rd).mono ?_
  rw [show wid 2 = 2 from rfl]
  rintro e w2 ⟨rfl, h2, k2⟩
  obtain ⟨r2, hr2⟩ : ∃ r2, r2 = tk bs r1.2.1 r1.2.2 2 := ⟨_, rfl⟩
  rw [← hr2] at h2 ⊢
  obtain ⟨ch, hch⟩ : ∃ ch, ch = leNum r2.1 := ⟨_, rfl⟩
  rw [← hch]
  have H2 := Lib.hid (And.intro (H1.out.1.step h2 k2) (H1.out.2.trans (k2.foot (g := g)) fun _ _ e => e))
  have c0 := H2.out.1.c0
  have Hr2 := Lib.hid (And.intro hr2 hch)
  have ch1 : (ch : Int) < 65536 := by
    have hh := leNum_lt (tk bs r1.2.1 r1.2.2 2).1 (tk_byte bs _ _ 2 HB.out.1)
    have hl2 := tk_len_le bs r1.2.1 r1.2.2 2
    rw [← hr2, ← hch] at hh
    rw [← hr2] at hl2
    have := Nat.pow_le_pow_right (show 0 < 256 by decide) hl2
    omega
  clear h2 k2 hr2 hch H1
  go_wp2_with fail
  refine (nrRaw_any R _ [] A c bs r2.2.1 r2.2.2 _ 10 (by omega) H2.out.1.rd).mono ?_
  rintro e w3 ⟨u3, rfl, _, _, h3, k3⟩
  obtain ⟨r3, hr3⟩ : ∃ r3, r3 = tk bs r2.2.1 r2.2.2 10 := ⟨_, rfl⟩
  simp only [show (10 : Int).toNat = 10 from rfl] at h3
  rw [← hr3] at h3
  have H3 := Lib.hid (And.intro (H2.out.1.step h3 k3) (H2.out.2.trans (k3.foot (g := g)) fun _ _ e => e))
  have c0 := H3.out.1.c0
  have Hr3 := Lib.hid hr3
  clear h3 k3 hr3 H2
  go_wp2_with fail
  refine (nrLittle_any R _ [] A c bs r3.2.1 r3.2.2 _ 2 H3.out.1.rd).mono ?_
  rw [show wid 2 = 2 from rfl]
  rintro e w4 ⟨rfl, h4, k4⟩
  obtain ⟨r4, hr4⟩ : ∃ r4, r4 = tk bs r3.2.1 r3.2.2 2 := ⟨_, rfl⟩
  rw [← hr4] at h4 ⊢
  obtain ⟨bi, hbi⟩ : ∃ bi, bi = leNum r4.1 := ⟨_, rfl⟩
  rw [← hbi]
  have h4' := H3.out.1.step h4 k4
  obtain ⟨W5, hW5⟩ : ∃ W5, W5 = w4.setCell ⟨g, 2, none⟩ (.int .u64 ((size : Int) - 16)) := ⟨_, rfl⟩
  have h5 : CK W5 g R A c bs r4.2.1 r4.2.2 nm (size - 16) := by
    rw [hW5]
    have := h4'.setSize (size - 16)
    rw [show ((size - 16 : Nat) : Int) = (size : Int) - 16 from by omega] at this
    exact this
  have k5 : Kept (CFoot g R) W0 W5 := by rw [hW5]; exact (H3.out.2.trans (k4.foot (g := g)) fun _ _ e => e).setCell (p := ⟨g, 2, none⟩) (fun _ => .inl rfl) _
  have c0 := h4'.c0
  have c2 := h4'.c2
  have l2 := h4'.blk.frozen 2
  have H5 := Lib.hid (And.intro h5 k5)
  have Hr4 := Lib.hid (And.intro hr4 hbi)
  have bi1 : (bi : Int) < 65536 := by
    have hh := leNum_lt (tk bs r3.2.1 r3.2.2 2).1 (tk_byte bs _ _ 2 HB.out.1)
    have hl2 := tk_len_le bs r3.2.1 r3.2.2 2
    rw [← hr4, ← hbi] at hh
    rw [← hr4] at hl2
    have := Nat.pow_le_pow_right (show 0 < 256 by decide) hl2
    omega
  have z0 : (16 : Int) ≤ (size : Int) := by omega
  have z1 : (size : Int) < 4294967296 := by omega
  clear h4 k4 hr4 hbi H3 h4' h5 k5
  go_wp2_with fail
  rw [← hW5]
  obtain ⟨W6, hW6⟩ : ∃ W6, W6 = W5.alloc (.cells #[.int .i64 ch, .int .i64 bi, .int .i64 0, .int .i64 0] 26) := ⟨_, rfl⟩
  rw [← hW6]
  have hsz : w4.heap.size = W5.heap.size := by rw [hW5]; simp [World.setCell]
  rw [hsz]
  obtain ⟨G, hG⟩ : ∃ G, G = W5.heap.size := ⟨_, rfl⟩
  have b7 : Blk W6 G 26 #[.int .i64 ch, .int .i64 bi, .int .i64 0, .int .i64 0] := by rw [hW6, hG]; exact Blk.new _ _ _
  have f6 : Fresh W5 W6 := by rw [hW6]; exact (Kept.refl _ _).alloc _
  rw [← hG]
  have h6 : CK W6 g R A c bs r4.2.1 r4.2.2 nm (size - 16) := ⟨H5.out.1.blk.kept f6 id, H5.out.1.rd.kept f6 id (fun _ _ _ _ => id), H5.out.1.far⟩
  have hwg : w.heap.size ≠ g := by have := gl; omega
  have k6 : Kept (CFoot g R) W0 W6 := H5.out.2.trans f6 fun _ _ e => e.elim
  have hR : w.heap.size ≠ R := by
    have h1 := H0.out.1.rd.blk
    have h2 := H0.out.2.2
    exact h2.ne_ h1 (by decide)
  have b2 : Blk W6 w.heap.size 26 #[.int .i64 0, .int .i64 0, .int .i64 0, .int .i64 0] := H0.out.2.2.kept k6 (fun e => e.elim hwg hR)
  have H6 := Lib.hid (And.intro h6 (And.intro b7 (And.intro b2 k6)))
  obtain ⟨ee, hee⟩ : ∃ ee, ee = r4.2.2 := ⟨_, rfl⟩
  have HE : Hid (∀ V, Fresh W6 V → Calls Try.prog 32 #[.pointer (some ⟨R, 0, none⟩)] V fun e w' => e = .returned (.int .i64 ee) ∧ V = w') := Lib.hid fun V hV => by
    rw [hee]
    exact nrErr_any R _ [] A c bs r4.2.1 r4.2.2 _ (h6.rd.kept hV id (fun _ _ _ _ => id))
  have HF : Hid (∀ V, Calls Try.prog 33 #[.agg #[.int .i64 ch, .int .i64 bi, .int .i64 0, .int .i64 0]] V fun e w' => e = .returned (.bool (decide (wokI ch bi))) ∧ Fresh V w') := Lib.hid fun V => cwFits_any ch bi 0 0 V
  have hGw : G ≠ w.heap.size := by
    have h1 := b2.kept (Kept.refl (fun _ => False) W6) id
    have h2 : w.heap.size < W5.heap.size := by
      have := (H0.out.2.2.lt); have := H5.out.2.size; omega
    omega
  have HST : Hid (∀ V, Fresh W6 V → (((((V.setCell ⟨w.heap.size, 0, none⟩ (.int .i64 ch)).setCell ⟨w.heap.size, 1, none⟩ (.int .i64 bi)).setCell ⟨w.heap.size, 2, none⟩ (.int .i64 0)).setCell ⟨w.heap.size, 3, none⟩ (.int .i64 0)).cell? ⟨G, 0, none⟩ = some (.int .i64 ch) ∧ ((((V.setCell ⟨w.heap.size, 0, none⟩ (.int .i64 ch)).setCell ⟨w.heap.size, 1, none⟩ (.int .i64 bi)).setCell ⟨w.heap.size, 2, none⟩ (.int .i64 0)).setCell ⟨w.heap.size, 3, none⟩ (.int .i64 0)).cell? ⟨G, 1, none⟩ = some (.int .i64 bi) ∧ ((((V.setCell ⟨w.heap.size, 0, none⟩ (.int .i64 ch)).setCell ⟨w.heap.size, 1, none⟩ (.int .i64 bi)).setCell ⟨w.heap.size, 2, none⟩ (.int .i64 0)).setCell ⟨w.heap.size, 3, none⟩ (.int .i64 0)).cell? ⟨G, 2, none⟩ = some (.int .i64 0) ∧ ((((V.setCell ⟨w.heap.size, 0, none⟩ (.int .i64 ch)).setCell ⟨w.heap.size, 1, none⟩ (.int .i64 bi)).setCell ⟨w.heap.size, 2, none⟩ (.int .i64 0)).setCell ⟨w.heap.size, 3, none⟩ (.int .i64 0)).cell? ⟨G, 3, none⟩ = some (.int .i64 0) ∧ ((((V.setCell ⟨w.heap.size, 0, none⟩ (.int .i64 ch)).setCell ⟨w.heap.size, 1, none⟩ (.int .i64 bi)).setCell ⟨w.heap.size, 2, none⟩ (.int .i64 0)).setCell ⟨w.heap.size, 3, none⟩ (.int .i64 0)).cell? ⟨g, 0, none⟩ = some (.pointer (some ⟨R, 0, none⟩))) ∧ Kept (CFoot g R) w ((((V.setCell ⟨w.heap.size, 0, none⟩ (.int .i64 ch)).setCell ⟨w.heap.size, 1, none⟩ (.int .i64 bi)).setCell ⟨w.heap.size, 2, none⟩ (.int .i64 0)).setCell ⟨w.heap.size, 3, none⟩ (.int .i64 0)) ∧ CK ((((V.setCell ⟨w.heap.size, 0, none⟩ (.int .i64 ch)).setCell ⟨w.heap.size, 1, none⟩ (.int .i64 bi)).setCell ⟨w.heap.size, 2, none⟩ (.int .i64 0)).setCell ⟨w.heap.size, 3, none⟩ (.int .i64 0)) g R A c bs r4.2.1 r4.2.2 nm (size - 16) ∧ Blk ((((V.setCell ⟨w.heap.size, 0, none⟩ (.int .i64 ch)).setCell ⟨w.heap.size, 1, none⟩ (.int .i64 bi)).setCell ⟨w.heap.size, 2, none⟩ (.int .i64 0)).setCell ⟨w.heap.size, 3, none⟩ (.int .i64 0)) w.heap.size 26 #[.int .i64 ch, .int .i64 bi, .int .i64 0, .int .i64 0]) := Lib.hid fun V hV => by
    have hk : Kept (fun k => k = w.heap.size) V ((((V.setCell ⟨w.heap.size, 0, none⟩ (.int .i64 ch)).setCell ⟨w.heap.size, 1, none⟩ (.int .i64 bi)).setCell ⟨w.heap.size, 2, none⟩ (.int .i64 0)).setCell ⟨w.heap.size, 3, none⟩ (.int .i64 0)) :=
      ((((Kept.refl (fun k => k = w.heap.size) V).setCell (p := ⟨w.heap.size, 0, none⟩) (fun _ => rfl) _).setCell (p := ⟨w.heap.size, 1, none⟩) (fun _ => rfl) _).setCell (p := ⟨w.heap.size, 2, none⟩) (fun _ => rfl) _).setCell (p := ⟨w.heap.size, 3, none⟩) (fun _ => rfl) _
    have a := (b7.kept hV id).kept hk hGw
    have c := (h6.blk.kept hV id).kept hk (fun e => hwg e.symm)
    have hr := (h6.rd.kept hV id (fun _ _ _ _ => id)).kept hk (fun e => hR e.symm) (fun b o e hb e2 => by
      obtain ⟨b', o', e', hlt, _⟩ := H0'.out.row.at_ 0 hb
      rw [e] at e'
      injection e' with e'
      injection e' with e1 e2'
      omega)
    have kk : Kept (CFoot g R) w ((((V.setCell ⟨w.heap.size, 0, none⟩ (.int .i64 ch)).setCell ⟨w.heap.size, 1, none⟩ (.int .i64 bi)).setCell ⟨w.heap.size, 2, none⟩ (.int .i64 0)).setCell ⟨w.heap.size, 3, none⟩ (.int .i64 0)) := (((H0.out.2.1.mono (T := CFoot g R) (fun _ _ e => e.elim)).trans k6 fun _ _ e => e).trans hV fun _ _ e => e.elim).trans hk fun i hi e => by omega
    refine ⟨⟨a.cell 0, a.cell 1, a.cell 2, a.cell 3, c.cell 0⟩, kk, ⟨c, hr, H0.out.1.far⟩, ?_⟩
    have b := b2.kept hV id
    simpa using (((b.set_ 0 (.int .i64 ch)).set_ 1 (.int .i64 bi)).set_ 2 (.int .i64 0)).set_ 3 (.int .i64 0)
  have HL : Hid (∀ V, Fresh W6 V → (V.cell? ⟨G, 0, none⟩ = some (.int .i64 ch) ∧ V.cell? ⟨G, 1, none⟩ = some (.int .i64 bi) ∧ V.cell? ⟨G, 2, none⟩ = some (.int .i64 0) ∧ V.cell? ⟨G, 3, none⟩ = some (.int .i64 0) ∧ V.cell? ⟨g, 0, none⟩ = some (.pointer (some ⟨R, 0, none⟩))) ∧
    (V.cell? ⟨w.heap.size, 0, none⟩ = some (.int .i64 0) ∧ V.cell? ⟨w.heap.size, 1, none⟩ = some (.int .i64 0) ∧ V.cell? ⟨w.heap.size, 2, none⟩ = some (.int .i64 0) ∧ V.cell? ⟨w.heap.size, 3, none⟩ = some (.int .i64 0)) ∧
    (V.frozen? ⟨w.heap.size, 0, none⟩ = false ∧ V.frozen? ⟨w.heap.size, 1, none⟩ = false ∧ V.frozen? ⟨w.heap.size, 2, none⟩ = false ∧ V.frozen? ⟨w.heap.size, 3, none⟩ = false)) := Lib.hid fun V hV => by
    have a := b7.kept hV id
    have b := b2.kept hV id
    have c := h6.blk.kept hV id
    exact ⟨⟨a.cell 0, a.cell 1, a.cell 2, a.cell 3, c.cell 0⟩, ⟨b.cell 0, b.cell 1, b.cell 2, b.cell 3⟩, b.frozen 0, b.frozen 1, b.frozen 2, b.frozen 3⟩
  have Hee := Lib.hid hee
  clear h6 b7 b2 k6 f6 hW5 hW6 hG hsz c0 c2 l2 z0 z1 hee
  obtain ⟨s6, m6, f6⟩ := HL.out _ (Kept.refl _ W6).drew
  obtain ⟨t6, n6, g6⟩ := HL.out _ (Kept.refl _ W6)
  by_cases he0 : ee = 0
  · subst he0
    by_cases hk1 : kd = 1
    · subst hk1
      go_region_held3 (fun V => V.cell? ⟨G, 0, none⟩ = some (.int .i64 ch) ∧ V.cell? ⟨G, 1, none⟩ = some (.int .i64 bi) ∧ V.cell? ⟨G, 2, none⟩ = some (.int .i64 0) ∧ V.cell? ⟨G, 3, none⟩ = some (.int .i64 0) ∧ V.cell? ⟨g, 0, none⟩ = some (.pointer (some ⟨R, 0, none⟩))) (first | exact s6 | exact s7 | exact S8.1 | go_keep)
        (first
          | (go_at_call 32; with_reducible refine (HE.out _ (Kept.refl _ W6).drew).mono ?_; rintro e v1 ⟨rfl, rfl⟩)
          | (go_at_call 33; with_reducible refine (HF.out _).mono ?_; rintro e v2 ⟨rfl, fv2⟩; obtain ⟨s7, m7, f7⟩ := HL.out _ ((Kept.refl _ W6).drew.trans fv2 fun _ _ e => e); have S8 := HST.out _ ((Kept.refl _ W6).drew.trans fv2 fun _ _ e => e)))
      obtain ⟨W9, hW9⟩ : ∃ W9, W9 = ((((v2.setCell ⟨w.heap.size, 0, none⟩ (.int .i64 ch)).setCell ⟨w.heap.size, 1, none⟩ (.int .i64 bi)).setCell ⟨w.heap.size, 2, none⟩ (.int .i64 0)).setCell ⟨w.heap.size, 3, none⟩ (.int .i64 0)) := ⟨_, rfl⟩
      rw [← hW9] at S8 ⊢
      obtain ⟨_, kk9, ck9, bk9⟩ := S8
      have e0 := bk9.cell 0
      have e1 := bk9.cell 1
      have e2 := bk9.cell 2
      have e3 := bk9.cell 3
      simp only [List.getElem?_toArray, List.getElem?_cons_zero, List.getElem?_cons_succ] at e0 e1 e2 e3
      have H9 := Lib.hid (And.intro kk9 ck9)
      clear kk9 ck9 bk9 hW9 s6 m6 f6 s7 m7 f7 fv2
      go_wp2_with fail
      refine bodyPost_ret (v := .tuple #[.agg #[.int .i64 ch, .int .i64 bi, .int .i64 0, .int .i64 0], .bool (decide (wokI ch bi))]) (by simp [results, Try.f18, go_sem, e0, e1, e2, e3]) rfl ?_
      refine ⟨ch, bi, _, rfl, H9.out.1, ?_⟩
      have hx := fmt_reads HB.out.2.2 Hr1.out.1 Hr2.out.1 Hr3.out Hr4.out.1
      split at hx
      · rename_i hle
        rw [if_pos hle]
        have hch := Hr2.out.2
        have hbi := Hr4.out.2
        have hkd := Hr1.out.2
        rw [hx.2.2.2.1] at hch
        rw [hx.2.2.2.2] at hbi
        rw [hx.2.2.1] at hkd
        refine ⟨hch, hbi, ?_, by have := H9.out.2; rwa [hx.1, hx.2.1] at this⟩
        have e8 : wokI ch bi ↔ wok ch bi := by unfold wokI wok; omega
        have e9 : leAt bs p 2 = 1 := by unfold leAt; exact hkd.symm
        simp only [e8, e9, true_and]
      · rename_i hle
        rw [if_neg hle]
        exact absurd Hee.out.symm hx
    · have hb1 : ((kd : Int) == 1) = false := by rw [beq_eq_false_iff_ne]; omega
      have Hk1 := Lib.hid hk1
      clear hk1
      have S8 := HST.out _ (Kept.refl _ W6)
      have HS8 := Lib.hid S8
      clear S8
      first
      | go_region_with ((go_at_call 32; with_reducible refine (HE.out _ (Kept.refl _ W6).drew).mono ?_; rintro e v1 ⟨rfl, rfl⟩))
      | fail
      all_goals
        have S8 := HS8.out
        obtain ⟨W9, hW9⟩ : ∃ W9, W9 = ((((W6.setCell ⟨w.heap.size, 0, none⟩ (.int .i64 ch)).setCell ⟨w.heap.size, 1, none⟩ (.int .i64 bi)).setCell ⟨w.heap.size, 2, none⟩ (.int .i64 0)).setCell ⟨w.heap.size, 3, none⟩ (.int .i64 0)) := ⟨_, rfl⟩
        rw [← hW9] at S8 ⊢
        obtain ⟨_, kk9, ck9, bk9⟩ := S8
        have e0 := bk9.cell 0
        have e1 := bk9.cell 1
        have e2 := bk9.cell 2
        have e3 := bk9.cell 3
        simp only [List.getElem?_toArray, List.getElem?_cons_zero, List.getElem?_cons_succ] at e0 e1 e2 e3
        have H9 := Lib.hid (And.intro kk9.drew ck9.drew)
        clear kk9 ck9 bk9 hW9
        go_wp2_with fail
        refine bodyPost_ret (v := .tuple #[.agg #[.int .i64 ch, .int .i64 bi, .int .i64 0, .int .i64 0], .bool false]) (by simp [results, Try.f18, go_sem, e0, e1, e2, e3]) rfl ?_
        refine ⟨ch, bi, _, rfl, H9.out.1, ?_⟩
        have hx := fmt_reads HB.out.2.2 Hr1.out.1 Hr2.out.1 Hr3.out Hr4.out.1
        split at hx
        · rename_i hle
          rw [if_pos hle]
          have hch := Hr2.out.2
          have hbi := Hr4.out.2
          have hkd := Hr1.out.2
          rw [hx.2.2.2.1] at hch
          rw [hx.2.2.2.2] at hbi
          rw [hx.2.2.1] at hkd
          refine ⟨hch, hbi, ?_, by have := H9.out.2; rwa [hx.1, hx.2.1] at this⟩
          have e9 : leAt bs p 2 ≠ 1 := by unfold leAt; rw [← hkd]; exact Hk1.out
          exact (decide_eq_false fun e => e9 e.1).symm
        · rename_i hle
          rw [if_neg hle]
  · obtain rfl : ee = 3 := by
      rw [Hee.out] at he0 ⊢
      exact fmt_err Hr1.out.1 Hr2.out.1 Hr3.out Hr4.out.1 he0
    have He0 := Lib.hid he0
    clear he0
    have S8 := HST.out _ (Kept.refl _ W6)
    have HS8 := Lib.hid S8
    clear S8
    first
    | go_region_with ((go_at_call 32; with_reducible refine (HE.out _ (Kept.refl _ W6).drew).mono ?_; rintro e v1 ⟨rfl, rfl⟩))
    | fail
    all_goals
      have S8 := HS8.out
      obtain ⟨W9, hW9⟩ : ∃ W9, W9 = ((((W6.setCell ⟨w.heap.size, 0, none⟩ (.int .i64 ch)).setCell ⟨w.heap.size, 1, none⟩ (.int .i64 bi)).setCell ⟨w.heap.size, 2, none⟩ (.int .i64 0)).setCell ⟨w.heap.size, 3, none⟩ (.int .i64 0)) := ⟨_, rfl⟩
      rw [← hW9] at S8 ⊢
      obtain ⟨_, kk9, ck9, bk9⟩ := S8
      have e0 := bk9.cell 0
      have e1 := bk9.cell 1
      have e2 := bk9.cell 2
      have e3 := bk9.cell 3
      simp only [List.getElem?_toArray, List.getElem?_cons_zero, List.getElem?_cons_succ] at e0 e1 e2 e3
      have H9 := Lib.hid (And.intro kk9.drew ck9.drew)
      clear kk9 ck9 bk9 hW9
      go_wp2_with fail
      refine bodyPost_ret (v := .tuple #[.agg #[.int .i64 ch, .int .i64 bi, .int .i64 0, .int .i64 0], .bool false]) (by simp [results, Try.f18, go_sem, e0, e1, e2, e3]) rfl ?_
      refine ⟨ch, bi, _, rfl, H9.out.1, ?_⟩
      have hx := fmt_reads HB.out.2.2 Hr1.out.1 Hr2.out.1 Hr3.out Hr4.out.1
      split at hx
      · rename_i hle
        rw [if_pos hle]
        exact absurd (Hee.out.trans hx.1) He0.out
      · rename_i hle
        rw [if_neg hle]
end

end Go.Proofs.Ytodmchjdflpbpaa
