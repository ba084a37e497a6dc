/- The contract of num.Reader's Text: it goes ahead by a trial, which is settled behind it. -/
import Derived.Test.YtodmchjdflpbpaaGreatNumR3
namespace Go.Proofs.YtodmchjdflpbpaaGreat
open Go.RowKit
set_option maxRecDepth 100000

set_option maxHeartbeats 400000 in
theorem nrTrial_nil (w : World) : Calls Tryz.prog 66 #[.pointer none] w fun e w' => e = .returned (.pointer (some ⟨w.heap.size, 0, none⟩)) ∧ w' = w.alloc (.cells #[.slice none 0 0, .int .i64 0, .int .i64 2, .pointer none] 115) := by
  go_enter Tryz.func66, Tryz.ntmps66
  go_wp2
  go_ret
  exact ⟨rfl, rfl⟩

set_option maxHeartbeats 400000 in
theorem nrTrial_any (g : Nat) (t : TypeId) (ext : List Value) (A : Option Addr) (c : Nat) (bs : List Int) (p : Nat) (err : Int) (w : World) (h : NRd w g t ext A c bs p err) :
    Calls Tryz.prog 66 #[.pointer (some ⟨g, 0, none⟩)] w fun e w' => e = .returned (.pointer (some ⟨w.heap.size, 0, none⟩)) ∧ w' = w.alloc (.cells #[.slice A bs.length c, .int .i64 p, .int .i64 err, .pointer (some ⟨g, 0, none⟩)] 115) := by
  have c0 := h.c0
  have c1 := h.c1
  have c2 := h.c2
  clear h
  go_enter Tryz.func66, Tryz.ntmps66
  go_wp2
  go_ret
  exact ⟨rfl, rfl⟩

set_option maxHeartbeats 400000 in
theorem nrSettle_nil (gt : Nat) (A : Option Addr) (c : Nat) (bs : List Int) (p : Nat) (err : Int) (u : FrameMode) (w : World) (h : NRd w gt 115 [.pointer none] A c bs p err) :
    CallsD Tryz.prog 67 #[.pointer (some ⟨gt, 0, none⟩)] u w fun e u' w' => u' = u ∧ (e = .returned (.tuple #[]) ∧ w = w') := by
  have c3 : w.cell? ⟨gt, 3, none⟩ = some (.pointer none) := by rw [h.blk.cell 3]; simp
  clear h
  go_enter_d Tryz.func67, Tryz.ntmps67
  go_wp2
  go_end0
  exact ⟨rfl, rfl⟩

set_option maxHeartbeats 800000 in
theorem nrSettle_any (gt g : Nat) (t : TypeId) (ext : List Value) (A : Option Addr) (c : Nat) (bs : List Int) (p0 : Nat) (err0 : Int) (p : Nat) (err : Int) (u : FrameMode) (w : World) (h : NRd w gt 115 [.pointer (some ⟨g, 0, none⟩)] A c bs p err) (hg : NRd w g t ext A c bs p0 err0) :
    CallsD Tryz.prog 67 #[.pointer (some ⟨gt, 0, none⟩)] u w fun e u' w' => u' = u ∧ (e = .returned (.tuple #[]) ∧ (NRd w' g t ext A c bs (if err = 0 then p else p0) (if err = 0 then err0 else err) ∧ Mine g w w')) := by
  have c3 : w.cell? ⟨gt, 3, none⟩ = some (.pointer (some ⟨g, 0, none⟩)) := by rw [h.blk.cell 3]; simp
  have c2 := h.c2
  have c1 := h.c1
  have d1 := hg.c1
  have d2 := hg.c2
  have f1 := hg.blk.frozen 1
  have f2 := hg.blk.frozen 2
  have hle := h.le
  by_cases he : err = 0
  · subst he
    clear h
    go_enter_d Tryz.func67, Tryz.ntmps67
    go_wp2
    go_region
    all_goals go_wp2
    go_end0
    exact ⟨rfl, (hg.setAt p (p : Int) rfl hle).drew, (Kept.setCell (Kept.refl (fun k => k = g) w) (p := ⟨g, 1, none⟩) (fun _ => rfl) _).drew⟩
  · have hb : (err != 0) = true := by simpa using he
    rw [if_neg he, if_neg he]
    clear h he
    go_enter_d Tryz.func67, Tryz.ntmps67
    go_wp2
    go_region
    all_goals go_wp2
    go_end0
    exact ⟨rfl, (hg.setErr err).drew, (Kept.setCell (Kept.refl (fun k => k = g) w) (p := ⟨g, 2, none⟩) (fun _ => rfl) _).drew⟩

theorem mine_of_trial {w w0 w2 w3 : World} {g gt : Nat} (h : w.heap.size ≤ gt) (h0 : Fresh w w0) (h1 : Mine gt w0 w2) (h2 : Mine g w2 w3) : Mine g w w3 :=
  ((h0.mono (T := fun k => k = g) fun _ _ h => h.elim).trans h1 (fun i hi e => by omega)).trans h2 fun _ _ h => h

/-- The next text: it, the place, and the fault behind. -/
def txt (bs : List Int) (p : Nat) (err most : Int) : List Int × Nat × Int :=
  if max most 0 < ((nx bs p err).1 : Int) then ([], p, 4) else
    ((tk bs (nx bs p err).2.1 (nx bs p err).2.2 (nx bs p err).1).1, if (tk bs (nx bs p err).2.1 (nx bs p err).2.2 (nx bs p err).1).2.2 = 0 then (tk bs (nx bs p err).2.1 (nx bs p err).2.2 (nx bs p err).1).2.1 else p, (tk bs (nx bs p err).2.1 (nx bs p err).2.2 (nx bs p err).1).2.2)

set_option maxHeartbeats 1600000 in
theorem nrText_any (g : Nat) (t : TypeId) (ext : List Value) (A : Option Addr) (c : Nat) (bs : List Int) (p : Nat) (err most : Int) (w : World) (hm1 : most ≤ 9223372036854775807) (h : NRd w g t ext A c bs p err) :
    Calls Tryz.prog 56 #[.pointer (some ⟨g, 0, none⟩), .int .i64 most] w (TextPost g t ext A c bs w (txt bs p err most)) := by
  obtain ⟨R, hR⟩ : ∃ R, R = txt bs p err most := ⟨_, rfl⟩
  rw [← hR]
  have HR := Lib.hid hR
  clear hR
  go_enter_defers Tryz.func56, Tryz.ntmps56
  go_wp2_with fail
  refine (nrTrial_any g t ext A c bs p err _ h).mono ?_
  rintro e w0 ⟨rfl, hw0⟩
  have hb0 := Blk.new w 115 #[.slice A bs.length c, .int .i64 p, .int .i64 err, .pointer (some ⟨g, 0, none⟩)]
  have hk0 : Fresh w (w.alloc (.cells #[.slice A bs.length c, .int .i64 p, .int .i64 err, .pointer (some ⟨g, 0, none⟩)] 115)) := (Kept.refl _ _).alloc _
  rw [← hw0] at hb0 hk0
  clear hw0
  have hg0 : NRd w0 g t ext A c bs p err := h.kept hk0 id (fun _ _ _ _ => id)
  have hgl := h.blk.lt
  have hAl : ∀ b o, A = some ⟨b, o, none⟩ → 0 < bs.length → b < w.heap.size := by
    intro b o e hl
    obtain ⟨b', o', e', hb', _⟩ := h.row.at_ 0 hl
    rw [e] at e'
    injection e' with e'
    injection e' with e'
    omega
  obtain ⟨gt, hgt⟩ : ∃ gt, gt = w.heap.size := ⟨_, rfl⟩
  rw [← hgt] at hb0 ⊢
  have hT0 : NRd w0 gt 115 [.pointer (some ⟨g, 0, none⟩)] A c bs p err := ⟨hb0, hg0.row, fun b o e hl => by have := hAl b o e hl; omega, h.byte, h.le, h.cap, h.small⟩
  have hgne : g ≠ gt := by omega
  have hAne : ∀ b o, A = some ⟨b, o, none⟩ → 0 < bs.length → b ≠ gt := fun b o e hl => by have := hAl b o e hl; omega
  have Hgt := Lib.hid hgt
  have HA := Lib.hid (And.intro hAl hAne)
  clear hgt hAl hAne hb0
  go_wp2_with fail
  refine (nrNum_any gt 115 [.pointer (some ⟨g, 0, none⟩)] A c bs p err _ hT0).mono ?_
  rintro e w1 ⟨rfl, hT1, hk1⟩
  have hg1 : NRd w1 g t ext A c bs p err := hg0.kept hk1 hgne HA.out.2
  have hfit := nx_fits gt _ _ A c bs p err w0 hT0
  have herr : (nx bs p err).2.2 = 0 → err = 0 := fun h0 => by
    by_cases e : err = 0
    · exact e
    · unfold nx at h0; rw [if_pos e] at h0; exact h0
  have hR := HR.out
  unfold txt at hR
  clear HR
  have htk : ∀ a b k, (tk bs a b k).2.2 = 0 → b = 0 := fun a b k h0 => by
    by_cases e : b = 0
    · exact e
    · unfold tk at h0; rw [if_pos e] at h0; exact h0
  generalize nx bs p err = r1 at *
  obtain ⟨x, p1, e1⟩ := r1
  simp only at *
  have Herr := Lib.hid (And.intro herr htk)
  have Hk := Lib.hid (And.intro hk0 hk1)
  clear herr htk hT0 hg0 h hk0 hk1
  by_cases hgt : max most 0 < (x : Int)
  · rw [if_pos hgt] at hR
    have HR := Lib.hid hR
    clear hR
    have d2 := hT1.c2
    have df2 := hT1.blk.frozen 2
    have hT2 := hT1.setErr 4
    have hk2 : Mine gt w1 (w1.setCell ⟨gt, 2, none⟩ (.int .i64 4)) := Kept.setCell (Kept.refl (fun k => k = gt) w1) (p := ⟨gt, 2, none⟩) (fun _ => rfl) _
    have hg2 := hg1.kept hk2 hgne HA.out.2
    have HT := Lib.hid (And.intro hT2 hg2)
    have Hk2 := Lib.hid hk2
    clear hT1 hg1 hT2 hg2 hk2
    go_wp2_with fail
    refine leaves_cons (f := 67) (args := #[.pointer (some ⟨gt, 0, none⟩)]) (by simp) (by simp [go_sem]) ?_
    refine (nrSettle_any gt g t ext A c bs p err p1 4 .returning _ HT.out.1 HT.out.2).mono ?_
    rintro e u' w3 ⟨rfl, rfl, hg3, hk3⟩
    refine ⟨_, results_tmp rfl _ _ _, ?_⟩
    rw [HR.out]
    have hz := Hgt.out
    refine ⟨.slice none 0 0, rfl, Own.nil _ _ _, (fun k hk => by cases hk), by simpa using hg3, ?_⟩
    exact mine_of_trial (by omega) Hk.out.1 (Hk.out.2.trans Hk2.out fun _ _ h => h) hk3
  · rw [if_neg hgt] at hR
    have HR := Lib.hid hR
    clear hR
    have hx0 : (x : Int) ≤ 9223372036854775807 := by omega
    go_wp2_with fail
    refine (nrRaw_any gt 115 [.pointer (some ⟨g, 0, none⟩)] A c bs p1 e1 _ (x : Int) hx0 hT1).mono ?_
    rintro e w2 ⟨u, rfl, hown, hnew, hT2, hk2⟩
    rw [Int.toNat_natCast] at hown hT2
    have hg2 := hg1.kept hk2 hgne HA.out.2
    have hR := HR.out
    have he := Herr.out.2 p1 e1 x
    clear HR
    generalize tk bs p1 e1 x = r2 at *
    obtain ⟨xs, p2, e2⟩ := r2
    simp only at *
    have HR := Lib.hid hR
    have He := Lib.hid he
    have HO := Lib.hid (And.intro hown hnew)
    have HT := Lib.hid (And.intro hT2 hg2)
    have Hk2 := Lib.hid hk2
    clear hR he hown hnew hT2 hg2 hk2 hT1 hg1
    go_wp2_with fail
    refine leaves_cons (f := 67) (args := #[.pointer (some ⟨gt, 0, none⟩)]) (by simp) (by simp [go_sem]) ?_
    refine (nrSettle_any gt g t ext A c bs p err p2 e2 .returning _ HT.out.1 HT.out.2).mono ?_
    rintro e u' w3 ⟨rfl, rfl, hg3, hk3⟩
    refine ⟨_, results_tmp rfl _ _ _, ?_⟩
    rw [HR.out]
    have hz := Hgt.out
    have hz0 := Hk.out.1.size
    have hz1 := Hk.out.2.size
    have hgl2 := HT.out.1.blk.lt
    have hgr2 := HT.out.2.blk.lt
    refine ⟨u, rfl, HO.out.1.kept hk3 (fun k hk hkg => ?_), fun k hk => ?_, ?_, ?_⟩
    · have := HO.out.2 k hk; omega
    · have := HO.out.2 k hk; omega
    · have e3 : (if e2 = 0 then err else e2) = e2 := by
        by_cases h0 : e2 = 0
        · rw [if_pos h0, h0]; exact Herr.out.1 (He.out h0)
        · rw [if_neg h0]
      rw [e3] at hg3
      exact hg3
    · exact mine_of_trial (by omega) Hk.out.1 (Hk.out.2.trans Hk2.out fun _ _ h => h) hk3

set_option maxHeartbeats 800000 in
theorem nrText_nil (most : Int) (w : World) (_hm1 : most ≤ 9223372036854775807) : Calls Tryz.prog 56 #[.pointer none, .int .i64 most] w fun e w' => ∃ A c, e = .returned (.slice A 0 c) ∧ Fresh w w' := by
  have hmost : ¬ max most 0 < (0 : Int) := by omega
  go_enter_defers Tryz.func56, Tryz.ntmps56
  go_wp2_with fail
  refine (nrTrial_nil _).mono ?_
  rintro e w0 ⟨rfl, hw0⟩
  have hb0 := Blk.new w 115 #[.slice none 0 0, .int .i64 0, .int .i64 2, .pointer none]
  have hk0 : Fresh w (w.alloc (.cells #[.slice none 0 0, .int .i64 0, .int .i64 2, .pointer none] 115)) := (Kept.refl _ _).alloc _
  rw [← hw0] at hb0 hk0
  clear hw0
  obtain ⟨gt, hgt⟩ : ∃ gt, gt = w.heap.size := ⟨_, rfl⟩
  rw [← hgt] at hb0 ⊢
  have hT0 : NRd w0 gt 115 [.pointer none] none 0 [] 0 2 := ⟨hb0, Row.empty _ _ _, (fun b o e => by cases e), by simp, by simp, by simp, by simp⟩
  have Hgt := Lib.hid hgt
  clear hgt hb0
  go_wp2_with fail
  refine (nrNum_any gt 115 [.pointer none] none 0 [] 0 2 _ hT0).mono ?_
  rintro e w1 ⟨rfl, hT1, hk1⟩
  have e1 : nx [] 0 2 = (0, 0, 2) := rfl
  rw [e1] at hT1 ⊢
  simp only at hT1 ⊢
  clear e1
  go_wp2_with fail
  refine (nrRaw_any gt 115 [.pointer none] none 0 [] 0 2 _ 0 (by omega) hT1).mono ?_
  rintro e w2 ⟨u, rfl, hown, hnew, hT2, hk2⟩
  have e2 : tk [] 0 2 (0 : Int).toNat = ([], 0, 2) := rfl
  rw [e2] at hown hT2
  simp only at hown hT2
  clear e2
  obtain ⟨A, cA, rfl, _, _⟩ := hown.row
  clear hown hnew
  go_wp2_with fail
  refine leaves_cons (f := 67) (args := #[.pointer (some ⟨gt, 0, none⟩)]) (by simp) (by simp [go_sem]) ?_
  refine (nrSettle_nil gt none 0 [] 0 2 .returning _ hT2).mono ?_
  rintro e u' w3 ⟨rfl, rfl, rfl⟩
  refine ⟨_, results_tmp rfl _ _ _, A, cA, rfl, ?_⟩
  have hz := Hgt.out
  exact hk0.trans (hk1.trans hk2 fun _ _ h => h) fun i hi e => by omega

end Go.Proofs.YtodmchjdflpbpaaGreat
