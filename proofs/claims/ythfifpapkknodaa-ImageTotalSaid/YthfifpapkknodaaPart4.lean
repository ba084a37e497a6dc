/- Texts of this proof, one behind the other: NumText, HusMath, PicIn, FilAll, ImaMath, RangeKit, FilK, FilR, RetRow, FilS, FilT, FilU, FilV, FilAw, FilC, FilCa, FilCb, FilCd, FilCe, FilCf, StillIn. -/
import Derived.Test.YthfifpapkknodaaPart3
import Derived.Test.YthfifpapkknodaaPart1
import Derived.RangeFuncNested
import Derived.RangeFuncBound
import Derived.RangeFuncCalls
import Derived.RangeFuncLeaves
import Derived.Shelf.Abstract
import Derived.Shelf.RegionOpen
import Derived.WalkKit
import Derived.OwnWalkIn
import Derived.TacticsInMore
import Derived.LoopNIn
import Derived.LoopIn
import Derived.Lib.MinMax
import Derived.StillTailTactics
import Derived.Deep.RegionHeld3

/- The contract of num.Reader's Text: it goes ahead by a trial, which is settled behind it. -/
namespace Go.Proofs.Ythfifpapkknodaa
open Go.RowKit
set_option maxRecDepth 100000

set_option maxHeartbeats 400000 in
theorem nrTrial_nil (w : World) : Calls Try.prog 85 #[.pointer none] w fun e w' => e = .returned (.pointer (some ⟨w.heap.size, 0, none⟩)) ∧ w' = w.alloc (.cells #[.slice none 0 0, .int .i64 0, .int .i64 2, .pointer none] 124) := by
  go_enter Try.func85, Try.ntmps85
  go_wp2
  go_ret
  exact ⟨rfl, rfl⟩

set_option maxHeartbeats 400000 in
theorem nrTrial_any (g : Nat) (t : TypeId) (ext : List Value) (A : Option Addr) (c : Nat) (bs : List Int) (p : Nat) (err : Int) (w : World) (h : NRd w g t ext A c bs p err) :
    Calls Try.prog 85 #[.pointer (some ⟨g, 0, none⟩)] w fun e w' => e = .returned (.pointer (some ⟨w.heap.size, 0, none⟩)) ∧ w' = w.alloc (.cells #[.slice A bs.length c, .int .i64 p, .int .i64 err, .pointer (some ⟨g, 0, none⟩)] 124) := by
  have c0 := h.c0
  have c1 := h.c1
  have c2 := h.c2
  clear h
  go_enter Try.func85, Try.ntmps85
  go_wp2
  go_ret
  exact ⟨rfl, rfl⟩

set_option maxHeartbeats 400000 in
theorem nrSettle_nil (gt : Nat) (A : Option Addr) (c : Nat) (bs : List Int) (p : Nat) (err : Int) (u : FrameMode) (w : World) (h : NRd w gt 124 [.pointer none] A c bs p err) :
    CallsD Try.prog 86 #[.pointer (some ⟨gt, 0, none⟩)] u w fun e u' w' => u' = u ∧ (e = .returned (.tuple #[]) ∧ w = w') := by
  have c3 : w.cell? ⟨gt, 3, none⟩ = some (.pointer none) := by rw [h.blk.cell 3]; simp
  clear h
  go_enter_d Try.func86, Try.ntmps86
  go_wp2
  go_end0
  exact ⟨rfl, rfl⟩

set_option maxHeartbeats 800000 in
theorem nrSettle_any (gt g : Nat) (t : TypeId) (ext : List Value) (A : Option Addr) (c : Nat) (bs : List Int) (p0 : Nat) (err0 : Int) (p : Nat) (err : Int) (u : FrameMode) (w : World) (h : NRd w gt 124 [.pointer (some ⟨g, 0, none⟩)] A c bs p err) (hg : NRd w g t ext A c bs p0 err0) :
    CallsD Try.prog 86 #[.pointer (some ⟨gt, 0, none⟩)] u w fun e u' w' => u' = u ∧ (e = .returned (.tuple #[]) ∧ (NRd w' g t ext A c bs (if err = 0 then p else p0) (if err = 0 then err0 else err) ∧ Mine g w w')) := by
  have c3 : w.cell? ⟨gt, 3, none⟩ = some (.pointer (some ⟨g, 0, none⟩)) := by rw [h.blk.cell 3]; simp
  have c2 := h.c2
  have c1 := h.c1
  have d1 := hg.c1
  have d2 := hg.c2
  have f1 := hg.blk.frozen 1
  have f2 := hg.blk.frozen 2
  have hle := h.le
  by_cases he : err = 0
  · subst he
    clear h
    go_enter_d Try.func86, Try.ntmps86
    go_wp2
    go_region
    all_goals go_wp2
    go_end0
    exact ⟨rfl, (hg.setAt p (p : Int) rfl hle).drew, (Kept.setCell (Kept.refl (fun k => k = g) w) (p := ⟨g, 1, none⟩) (fun _ => rfl) _).drew⟩
  · have hb : (err != 0) = true := by simpa using he
    rw [if_neg he, if_neg he]
    clear h he
    go_enter_d Try.func86, Try.ntmps86
    go_wp2
    go_region
    all_goals go_wp2
    go_end0
    exact ⟨rfl, (hg.setErr err).drew, (Kept.setCell (Kept.refl (fun k => k = g) w) (p := ⟨g, 2, none⟩) (fun _ => rfl) _).drew⟩

theorem mine_of_trial {w w0 w2 w3 : World} {g gt : Nat} (h : w.heap.size ≤ gt) (h0 : Fresh w w0) (h1 : Mine gt w0 w2) (h2 : Mine g w2 w3) : Mine g w w3 :=
  ((h0.mono (T := fun k => k = g) fun _ _ h => h.elim).trans h1 (fun i hi e => by omega)).trans h2 fun _ _ h => h

/-- The next text: it, the place, and the fault behind. -/
def txt (bs : List Int) (p : Nat) (err most : Int) : List Int × Nat × Int :=
  if max most 0 < ((nx bs p err).1 : Int) then ([], p, 4) else
    ((tk bs (nx bs p err).2.1 (nx bs p err).2.2 (nx bs p err).1).1, if (tk bs (nx bs p err).2.1 (nx bs p err).2.2 (nx bs p err).1).2.2 = 0 then (tk bs (nx bs p err).2.1 (nx bs p err).2.2 (nx bs p err).1).2.1 else p, (tk bs (nx bs p err).2.1 (nx bs p err).2.2 (nx bs p err).1).2.2)

set_option maxHeartbeats 1600000 in
theorem nrText_any (g : Nat) (t : TypeId) (ext : List Value) (A : Option Addr) (c : Nat) (bs : List Int) (p : Nat) (err most : Int) (w : World) (hm1 : most ≤ 9223372036854775807) (h : NRd w g t ext A c bs p err) :
    Calls Try.prog 56 #[.pointer (some ⟨g, 0, none⟩), .int .i64 most] w (TextPost g t ext A c bs w (txt bs p err most)) := by
  obtain ⟨R, hR⟩ : ∃ R, R = txt bs p err most := ⟨_, rfl⟩
  rw [← hR]
  have HR := Lib.hid hR
  clear hR
  go_enter_defers Try.func56, Try.ntmps56
  go_wp2_with fail
  refine (nrTrial_any g t ext A c bs p err _ h).mono ?_
  rintro e w0 ⟨rfl, hw0⟩
  have hb0 := Blk.new w 124 #[.slice A bs.length c, .int .i64 p, .int .i64 err, .pointer (some ⟨g, 0, none⟩)]
  have hk0 : Fresh w (w.alloc (.cells #[.slice A bs.length c, .int .i64 p, .int .i64 err, .pointer (some ⟨g, 0, none⟩)] 124)) := (Kept.refl _ _).alloc _
  rw [← hw0] at hb0 hk0
  clear hw0
  have hg0 : NRd w0 g t ext A c bs p err := h.kept hk0 id (fun _ _ _ _ => id)
  have hgl := h.blk.lt
  have hAl : ∀ b o, A = some ⟨b, o, none⟩ → 0 < bs.length → b < w.heap.size := by
    intro b o e hl
    obtain ⟨b', o', e', hb', _⟩ := h.row.at_ 0 hl
    rw [e] at e'
    injection e' with e'
    injection e' with e'
    omega
  obtain ⟨gt, hgt⟩ : ∃ gt, gt = w.heap.size := ⟨_, rfl⟩
  rw [← hgt] at hb0 ⊢
  have hT0 : NRd w0 gt 124 [.pointer (some ⟨g, 0, none⟩)] A c bs p err := ⟨hb0, hg0.row, fun b o e hl => by have := hAl b o e hl; omega, h.byte, h.le, h.cap, h.small⟩
  have hgne : g ≠ gt := by omega
  have hAne : ∀ b o, A = some ⟨b, o, none⟩ → 0 < bs.length → b ≠ gt := fun b o e hl => by have := hAl b o e hl; omega
  have Hgt := Lib.hid hgt
  have HA := Lib.hid (And.intro hAl hAne)
  clear hgt hAl hAne hb0
  go_wp2_with fail
  refine (nrNum_any gt 124 [.pointer (some ⟨g, 0, none⟩)] A c bs p err _ hT0).mono ?_
  rintro e w1 ⟨rfl, hT1, hk1⟩
  have hg1 : NRd w1 g t ext A c bs p err := hg0.kept hk1 hgne HA.out.2
  have hfit := nx_fits gt _ _ A c bs p err w0 hT0
  have herr : (nx bs p err).2.2 = 0 → err = 0 := fun h0 => by
    by_cases e : err = 0
    · exact e
    · unfold nx at h0; rw [if_pos e] at h0; exact h0
  have hR := HR.out
  unfold txt at hR
  clear HR
  have htk : ∀ a b k, (tk bs a b k).2.2 = 0 → b = 0 := fun a b k h0 => by
    by_cases e : b = 0
    · exact e
    · unfold tk at h0; rw [if_pos e] at h0; exact h0
  generalize nx bs p err = r1 at *
  obtain ⟨x, p1, e1⟩ := r1
  simp only at *
  have Herr := Lib.hid (And.intro herr htk)
  have Hk := Lib.hid (And.intro hk0 hk1)
  clear herr htk hT0 hg0 h hk0 hk1
  by_cases hgt : max most 0 < (x : Int)
  · rw [if_pos hgt] at hR
    have HR := Lib.hid hR
    clear hR
    have d2 := hT1.c2
    have df2 := hT1.blk.frozen 2
    have hT2 := hT1.setErr 4
    have hk2 : Mine gt w1 (w1.setCell ⟨gt, 2, none⟩ (.int .i64 4)) := Kept.setCell (Kept.refl (fun k => k = gt) w1) (p := ⟨gt, 2, none⟩) (fun _ => rfl) _
    have hg2 := hg1.kept hk2 hgne HA.out.2
    have HT := Lib.hid (And.intro hT2 hg2)
    have Hk2 := Lib.hid hk2
    clear hT1 hg1 hT2 hg2 hk2
    go_wp2_with fail
    refine leaves_cons (f := 86) (args := #[.pointer (some ⟨gt, 0, none⟩)]) (by simp) (by simp [go_sem]) ?_
    refine (nrSettle_any gt g t ext A c bs p err p1 4 .returning _ HT.out.1 HT.out.2).mono ?_
    rintro e u' w3 ⟨rfl, rfl, hg3, hk3⟩
    refine ⟨_, results_tmp rfl _ _ _, ?_⟩
    rw [HR.out]
    have hz := Hgt.out
    refine ⟨.slice none 0 0, rfl, Own.nil _ _ _, (fun k hk => by cases hk), by simpa using hg3, ?_⟩
    exact mine_of_trial (by omega) Hk.out.1 (Hk.out.2.trans Hk2.out fun _ _ h => h) hk3
  · rw [if_neg hgt] at hR
    have HR := Lib.hid hR
    clear hR
    have hx0 : (x : Int) ≤ 9223372036854775807 := by omega
    go_wp2_with fail
    refine (nrRaw_any gt 124 [.pointer (some ⟨g, 0, none⟩)] A c bs p1 e1 _ (x : Int) hx0 hT1).mono ?_
    rintro e w2 ⟨u, rfl, hown, hnew, hT2, hk2⟩
    rw [Int.toNat_natCast] at hown hT2
    have hg2 := hg1.kept hk2 hgne HA.out.2
    have hR := HR.out
    have he := Herr.out.2 p1 e1 x
    clear HR
    generalize tk bs p1 e1 x = r2 at *
    obtain ⟨xs, p2, e2⟩ := r2
    simp only at *
    have HR := Lib.hid hR
    have He := Lib.hid he
    have HO := Lib.hid (And.intro hown hnew)
    have HT := Lib.hid (And.intro hT2 hg2)
    have Hk2 := Lib.hid hk2
    clear hR he hown hnew hT2 hg2 hk2 hT1 hg1
    go_wp2_with fail
    refine leaves_cons (f := 86) (args := #[.pointer (some ⟨gt, 0, none⟩)]) (by simp) (by simp [go_sem]) ?_
    refine (nrSettle_any gt g t ext A c bs p err p2 e2 .returning _ HT.out.1 HT.out.2).mono ?_
    rintro e u' w3 ⟨rfl, rfl, hg3, hk3⟩
    refine ⟨_, results_tmp rfl _ _ _, ?_⟩
    rw [HR.out]
    have hz := Hgt.out
    have hz0 := Hk.out.1.size
    have hz1 := Hk.out.2.size
    have hgl2 := HT.out.1.blk.lt
    have hgr2 := HT.out.2.blk.lt
    refine ⟨u, rfl, HO.out.1.kept hk3 (fun k hk hkg => ?_), fun k hk => ?_, ?_, ?_⟩
    · have := HO.out.2 k hk; omega
    · have := HO.out.2 k hk; omega
    · have e3 : (if e2 = 0 then err else e2) = e2 := by
        by_cases h0 : e2 = 0
        · rw [if_pos h0, h0]; exact Herr.out.1 (He.out h0)
        · rw [if_neg h0]
      rw [e3] at hg3
      exact hg3
    · exact mine_of_trial (by omega) Hk.out.1 (Hk.out.2.trans Hk2.out fun _ _ h => h) hk3

set_option maxHeartbeats 800000 in
theorem nrText_nil (most : Int) (w : World) (_hm1 : most ≤ 9223372036854775807) : Calls Try.prog 56 #[.pointer none, .int .i64 most] w fun e w' => ∃ A c, e = .returned (.slice A 0 c) ∧ Fresh w w' := by
  have hmost : ¬ max most 0 < (0 : Int) := by omega
  go_enter_defers Try.func56, Try.ntmps56
  go_wp2_with fail
  refine (nrTrial_nil _).mono ?_
  rintro e w0 ⟨rfl, hw0⟩
  have hb0 := Blk.new w 124 #[.slice none 0 0, .int .i64 0, .int .i64 2, .pointer none]
  have hk0 : Fresh w (w.alloc (.cells #[.slice none 0 0, .int .i64 0, .int .i64 2, .pointer none] 124)) := (Kept.refl _ _).alloc _
  rw [← hw0] at hb0 hk0
  clear hw0
  obtain ⟨gt, hgt⟩ : ∃ gt, gt = w.heap.size := ⟨_, rfl⟩
  rw [← hgt] at hb0 ⊢
  have hT0 : NRd w0 gt 124 [.pointer none] none 0 [] 0 2 := ⟨hb0, Row.empty _ _ _, (fun b o e => by cases e), by simp, by simp, by simp, by simp⟩
  have Hgt := Lib.hid hgt
  clear hgt hb0
  go_wp2_with fail
  refine (nrNum_any gt 124 [.pointer none] none 0 [] 0 2 _ hT0).mono ?_
  rintro e w1 ⟨rfl, hT1, hk1⟩
  have e1 : nx [] 0 2 = (0, 0, 2) := rfl
  rw [e1] at hT1 ⊢
  simp only at hT1 ⊢
  clear e1
  go_wp2_with fail
  refine (nrRaw_any gt 124 [.pointer none] none 0 [] 0 2 _ 0 (by omega) hT1).mono ?_
  rintro e w2 ⟨u, rfl, hown, hnew, hT2, hk2⟩
  have e2 : tk [] 0 2 (0 : Int).toNat = ([], 0, 2) := rfl
  rw [e2] at hown hT2
  simp only at hown hT2
  clear e2
  obtain ⟨A, cA, rfl, _, _⟩ := hown.row
  clear hown hnew
  go_wp2_with fail
  refine leaves_cons (f := 86) (args := #[.pointer (some ⟨gt, 0, none⟩)]) (by simp) (by simp [go_sem]) ?_
  refine (nrSettle_nil gt none 0 [] 0 2 .returning _ hT2).mono ?_
  rintro e u' w3 ⟨rfl, rfl, rfl⟩
  refine ⟨_, results_tmp rfl _ _ _, A, cA, rfl, ?_⟩
  have hz := Hgt.out
  exact hk0.trans (hk1.trans hk2 fun _ _ h => h) fun i hi e => by omega

end Go.Proofs.Ythfifpapkknodaa

/- What a file has around the part that is packed otherwise, as plain mathematics. -/
namespace Go.Proofs.Ythfifpapkknodaa
open Go.RowKit
set_option maxRecDepth 100000

/-- A text: how long it is, and it. -/
def tx (xs : List Int) : List Int := sv xs.length ++ xs
/-- Bytes, all of them. -/
theorem all_append {p : Int → Prop} {a b : List Int} (ha : ∀ x ∈ a, p x) (hb : ∀ x ∈ b, p x) : ∀ x ∈ a ++ b, p x := fun x hx => (List.mem_append.1 hx).elim (ha x) (hb x)
theorem tx_byte {xs : List Int} (h : ∀ x ∈ xs, 0 ≤ x ∧ x < 256) : ∀ x ∈ tx xs, 0 ≤ x ∧ x < 256 := all_append (sv_byte _) h
theorem tx_le {xs : List Int} (h : xs.length < 18446744073709551616) : (tx xs).length ≤ 10 + xs.length := by
  have := sv_le10 xs.length h
  unfold tx
  rw [List.length_append]
  omega
/-- What is ahead of the samples, what is behind; a file without them. -/
def blkH (xs : List Int) (m : Nat) : List Int × Nat × Int := txt xs (nx xs 0 0).2.1 (nx xs 0 0).2.2 m
def blkT (xs : List Int) (m : Nat) : List Int × Nat × Int := txt xs (blkH xs m).2.1 (blkH xs m).2.2 m
def blkB (xs : List Int) (m : Nat) : List Int := (blkH xs m).1 ++ (List.replicate ((nx xs 0 0).1 - (blkH xs m).1.length - (blkT xs m).1.length) 0 ++ (blkT xs m).1)
def blkA (xs : List Int) (m : Nat) : Int × List Int :=
  if m < (nx xs 0 0).1 then (5, []) else if (blkT xs m).2.2 ≠ 0 then ((blkT xs m).2.2, []) else
    if (nx xs 0 0).1 < (blkH xs m).1.length + (blkT xs m).1.length then (4, []) else (0, blkB xs m)
def mst (most : Int) : Nat := (min (max most 0) 1048576).toNat
theorem mst_le (most : Int) : mst most ≤ 1048576 ∧ (mst most : Int) ≤ max most 0 := by unfold mst; omega
/-- Errors that may be. -/
def okE (e : Int) : Prop := e = 0 ∨ e = 3 ∨ e = 4
theorem nx_err (xs : List Int) (p : Nat) {e : Int} (h : okE e) (hb : ∀ x ∈ xs, 0 ≤ x ∧ x < 256) : okE (nx xs p e).2.2 := by
  unfold nx
  split
  · exact h
  · have := (rd_fits (xs.drop p) 0 0 (fun x hx => hb x (List.mem_of_mem_drop hx)) (by omega) (by simp)).2.2.2.1
    unfold okE
    simp only []
    omega
theorem tkA_err (xs : List Int) (p : Nat) {e : Int} (n : Nat) (h : okE e) : okE (tk xs p e n).2.2 := by
  unfold tk
  split
  · exact h
  split
  · exact .inl rfl
  · exact .inr (.inl rfl)
theorem txt_err (xs : List Int) (p : Nat) {e : Int} (most : Int) (h : okE e) (hb : ∀ x ∈ xs, 0 ≤ x ∧ x < 256) : okE (txt xs p e most).2.2 := by
  unfold txt
  split
  · exact .inr (.inr rfl)
  · exact tkA_err _ _ _ (nx_err xs p h hb)
theorem ok0 : okE 0 := .inl rfl
theorem ok4 : okE 4 := .inr (.inr rfl)
theorem blkB_length {xs : List Int} {m : Nat} (h : ¬ (nx xs 0 0).1 < (blkH xs m).1.length + (blkT xs m).1.length) : (blkB xs m).length = (nx xs 0 0).1 := by
  unfold blkB
  simp only [List.length_append, List.length_replicate]
  omega
theorem txt_byte (xs : List Int) (p : Nat) (e most : Int) (hb : ∀ x ∈ xs, 0 ≤ x ∧ x < 256) : ∀ x ∈ (txt xs p e most).1, 0 ≤ x ∧ x < 256 := by
  unfold txt
  split
  · simp
  · exact tk_byte _ _ _ _ hb
theorem blkB_byte {xs : List Int} {m : Nat} (hb : ∀ x ∈ xs, 0 ≤ x ∧ x < 256) : ∀ x ∈ blkB xs m, 0 ≤ x ∧ x < 256 :=
  all_append (txt_byte _ _ _ _ hb) (all_append (fun x hx => by rw [List.eq_of_mem_replicate hx]; omega) (txt_byte _ _ _ _ hb))
theorem txt_le (xs : List Int) (p : Nat) (e : Int) (m : Nat) : (txt xs p e m).1.length ≤ m := by
  unfold txt
  split
  · simp
  · rename_i h
    have := tk_len_le xs (nx xs p e).2.1 (nx xs p e).2.2 (nx xs p e).1
    simp only []
    omega
/-- What was written is read, wherever it stands. -/
theorem nx_at {xs P R : List Int} {v : Nat} (h : xs = P ++ (sv v ++ R)) (hv : v < 18446744073709551616) : nx xs P.length 0 = (v, P.length + (sv v).length, 0) := by
  unfold nx
  rw [if_neg (by simp), h, List.drop_left, rd_sv R v 0 0 (by simpa using hv) (by omega) (by omega)]
  simp
theorem txt_at {xs P R t : List Int} {most : Int} (h : xs = P ++ (tx t ++ R)) (hm : (t.length : Int) ≤ most) (hl : t.length < 18446744073709551616) : txt xs P.length 0 most = (t, P.length + (tx t).length, 0) := by
  have hn := nx_at (R := t ++ R) (v := t.length) (h.trans (by unfold tx; rw [List.append_assoc])) hl
  unfold txt
  rw [hn]
  simp only []
  rw [if_neg (by omega)]
  have hp : P.length + (sv t.length).length = (P ++ sv t.length).length := by rw [List.length_append]
  have hx : xs = (P ++ sv t.length) ++ (t ++ R) := by rw [h]; unfold tx; simp
  have htk : tk xs (P.length + (sv t.length).length) 0 t.length = (t, P.length + (sv t.length).length + t.length, 0) := by
    unfold tk
    rw [if_neg (by simp), hp, hx, if_pos (by simp only [List.length_append]; omega), List.drop_left, List.take_left]
  rw [htk]
  simp only []
  unfold tx
  rw [if_pos trivial, List.length_append, Nat.add_assoc]

theorem blkA_err (xs : List Int) (m : Nat) (hb : ∀ x ∈ xs, 0 ≤ x ∧ x < 256) : (blkA xs m).1 = 0 ∨ (blkA xs m).1 = 3 ∨ (blkA xs m).1 = 4 ∨ (blkA xs m).1 = 5 := by
  unfold blkA
  split
  · exact .inr (.inr (.inr rfl))
  split
  · rename_i h1 h2
    have := txt_err xs (blkH xs m).2.1 (e := (blkH xs m).2.2) m (txt_err _ _ _ (nx_err xs 0 ok0 hb) hb) hb
    unfold okE at this
    unfold blkT at h2 ⊢
    simp only [] at h2 ⊢
    omega
  split
  · exact .inr (.inr (.inl rfl))
  · exact .inl rfl
/-- If there is no fault. -/
theorem blkA_zero {xs : List Int} {m : Nat} (h : (blkA xs m).1 = 0) : (nx xs 0 0).1 ≤ m ∧ (blkT xs m).2.2 = 0 ∧ ¬ (nx xs 0 0).1 < (blkH xs m).1.length + (blkT xs m).1.length ∧ blkA xs m = (0, blkB xs m) := by
  unfold blkA at h ⊢
  split at h
  · cases h
  split at h
  · rename_i h1 h2; exact absurd h h2
  split at h
  · cases h
  · rename_i h1 h2 h3
    rw [if_neg h1, if_neg h2, if_neg h3]
    exact ⟨by omega, by omega, h3, rfl⟩
/-- What was written of a file is read. -/
theorem husk_at {xs hd tl G : List Int} {N m : Nat} (hx : xs = sv N ++ (tx hd ++ (tx tl ++ G))) (hN : hd.length + tl.length ≤ N) (h64 : N ≤ 1048576) :
    blkA xs m = (if N ≤ m then (0, hd ++ (List.replicate (N - hd.length - tl.length) 0 ++ tl)) else (5, [])) ∧ (N ≤ m → blkB xs m = hd ++ (List.replicate (N - hd.length - tl.length) 0 ++ tl) ∧ (blkT xs m).2.1 = (sv N ++ (tx hd ++ tx tl)).length) := by
  have hn : nx xs 0 0 = (N, (sv N).length, 0) := by
    have := nx_at (P := []) (R := tx hd ++ (tx tl ++ G)) (v := N) (xs := xs) (by rw [hx]; rfl) (by omega)
    simpa using this
  by_cases hm : N ≤ m
  · rw [if_pos hm]
    have hH : blkH xs m = (hd, (sv N).length + (tx hd).length, 0) := by
      unfold blkH
      rw [hn]
      exact txt_at (P := sv N) (R := tx tl ++ G) hx (by omega) (by omega)
    have hT : blkT xs m = (tl, (sv N).length + (tx hd).length + (tx tl).length, 0) := by
      unfold blkT
      rw [hH]
      simp only []
      have := txt_at (P := sv N ++ tx hd) (R := G) (t := tl) (xs := xs) (most := m) (by rw [hx]; simp) (by omega) (by omega)
      rwa [List.length_append] at this
    have hB : blkB xs m = hd ++ (List.replicate (N - hd.length - tl.length) 0 ++ tl) := by
      unfold blkB
      rw [hH, hT, hn]
    refine ⟨?_, fun _ => ⟨hB, ?_⟩⟩
    · rw [← hB]
      unfold blkA
      rw [hn, hH, hT]
      simp only []
      rw [if_neg (by omega), if_neg (by simp), if_neg (by omega)]
    · rw [hT]
      simp only [List.length_append]
      omega
  · rw [if_neg hm]
    refine ⟨?_, fun h => absurd h hm⟩
    unfold blkA
    rw [hn]
    simp only []
    rw [if_pos (by omega)]

end Go.Proofs.Ythfifpapkknodaa

/- What is told of a picture lies within its bytes; its pixels play no part in where they are. -/
namespace Go.Proofs.Ythfifpapkknodaa
open Go.RowKit
set_option maxRecDepth 100000

theorem bmpP_in {l : List Int} {r : Nat × Nat × Nat × Nat × Nat} (h : bmpP l = some r) : fitP r.1 r.2.1 r.2.2.2.1 r.2.2.2.2 l.length ∧ (r.2.2.1 = 1 ∨ r.2.2.1 = 3) ∧ r.1 * r.2.2.1 ≤ r.2.2.2.1 ∧ r.2.2.2.1 < r.1 * r.2.2.1 + 4 ∧ 2 ≤ r.2.2.2.2 := by
  unfold bmpP at h
  split at h
  · rename_i hc
    have h54 := hc.2.1
    have hp : plnB (leAt l 28 2) = 1 ∨ plnB (leAt l 28 2) = 3 := by unfold plnB; split <;> simp
    generalize plnB (leAt l 28 2) = p at *
    unfold bmpR at h
    split at h
    · rename_i hf
      injection h with h
      subst h
      refine ⟨hf, hp, ?_, ?_, by simp only []; omega⟩
      · simp only []; unfold strB; omega
      · simp only []; unfold strB; omega
    · cases h
  · cases h
theorem pnmP_in {l : List Int} {r : Nat × Nat × Nat × Nat × Nat} (h : pnmP l = some r) : fitP r.1 r.2.1 r.2.2.2.1 r.2.2.2.2 l.length ∧ (r.2.2.1 = 1 ∨ r.2.2.1 = 3) ∧ r.1 * r.2.2.1 ≤ r.2.2.2.1 ∧ r.2.2.2.1 < r.1 * r.2.2.1 + 4 ∧ 2 ≤ r.2.2.2.2 := by
  unfold pnmP at h
  split at h
  · split at h
    · cases h
    · rename_i q hq
      have h2 := (chn_len hq).2.2.1
      have hp : plnP l = 1 ∨ plnP l = 3 := by unfold plnP; split <;> simp
      generalize plnP l = p at *
      split at h
      · unfold pnmR at h
        split at h
        · rename_i hf
          injection h with h
          subst h
          exact ⟨hf, hp, Nat.le_refl _, by simp only []; omega, by simp only []; omega⟩
        · cases h
      · cases h
  · cases h
theorem picP_in {l : List Int} {r : Nat × Nat × Nat × Nat × Nat} (h : picP l = some r) : fitP r.1 r.2.1 r.2.2.2.1 r.2.2.2.2 l.length ∧ (r.2.2.1 = 1 ∨ r.2.2.1 = 3) ∧ r.1 * r.2.2.1 ≤ r.2.2.2.1 ∧ r.2.2.2.1 < r.1 * r.2.2.1 + 4 ∧ 2 ≤ r.2.2.2.2 := by
  unfold picP at h
  split at h
  · exact bmpP_in h
  · exact pnmP_in h

/-- Bytes that are alike ahead of place m. -/
def Alk (m : Nat) (b c : List Int) : Prop := c.length = b.length ∧ ∀ j, j < m → c.getD j 0 = b.getD j 0
theorem Alk.of {b c : List Int} {m : Nat} (hl : c.length = b.length) (h : c.take m = b.take m) : Alk m b c := ⟨hl, fun j hj => by
  have e : ∀ l : List Int, l.getD j 0 = (l.take m).getD j 0 := fun l => by simp [List.getD, hj]
  rw [e c, e b, h]⟩
theorem Alk.mono {b c : List Int} {m k : Nat} (h : Alk m b c) (hk : k ≤ m) : Alk k b c := ⟨h.1, fun j hj => h.2 j (by omega)⟩
theorem Alk.sl {b c : List Int} {m p k : Nat} (h : Alk m b c) (hp : p + k ≤ m) (hm : m ≤ b.length) : slc c p k = slc b p k := by
  apply List.ext_getElem?
  intro i
  unfold slc
  simp only [List.getElem?_take, List.getElem?_drop]
  split
  · have h1 := h.2 (p + i) (by omega)
    have h2 : p + i < b.length := by omega
    have h3 : p + i < c.length := by rw [h.1]; exact h2
    simp only [List.getD, List.getElem?_eq_getElem h2, List.getElem?_eq_getElem h3, Option.getD_some] at h1
    rw [List.getElem?_eq_getElem h2, List.getElem?_eq_getElem h3, h1]
  · rfl
theorem Alk.leA {b c : List Int} {m p k : Nat} (h : Alk m b c) (hp : p + k ≤ m) (hm : m ≤ b.length) : leAt c p k = leAt b p k := by
  unfold leAt
  rw [h.sl hp hm]

theorem eol_is (b : List Int) (i : Nat) : eol b i = if i < b.length then (if b.getD i 0 = 10 then i else eol b (i + 1)) else i := by rw [eol]
theorem whi_is (b : List Int) (f i : Nat) : whi b f i = if i < b.length then
    if blk (b.getD i 0) then whi b f (i + 1)
    else if b.getD i 0 = 35 then (if eol b i < b.length then whi b f (eol b i + 1) else -1)
    else if i = f then -1 else i
  else -1 := by rw [whi]
theorem eol_alk {b c : List Int} {m : Nat} (h : Alk m b c) (i : Nat) (hi : eol b i < m) : eol c i = eol b i := by
  have hge := eol_ge b i
  have him : i < m := by omega
  rw [eol_is b i] at hi ⊢
  rw [eol_is c i, h.1, h.2 i him]
  split
  · rename_i h1
    rw [if_pos h1] at hi
    split
    · rfl
    · rename_i h2
      rw [if_neg h2] at hi
      exact eol_alk h (i + 1) hi
  · rfl
termination_by b.length - i
theorem whi_ge (b : List Int) (f i : Nat) : whi b f i = -1 ∨ (i : Int) ≤ whi b f i := by
  rw [whi_is]
  split
  · split
    · have := whi_ge b f (i + 1); omega
    · split
      · split
        · have h1 := eol_ge b i
          have := whi_ge b f (eol b i + 1)
          omega
        · exact .inl rfl
      · split
        · exact .inl rfl
        · right; omega
  · exact .inl rfl
termination_by b.length - i
decreasing_by
  · omega
  · have := eol_ge b i
    omega
theorem whi_alk {b c : List Int} {m f : Nat} (h : Alk m b c) (i : Nat) {j : Nat} (hj : whi b f i = (j : Int)) (hm : j < m) : whi c f i = (j : Int) := by
  have hge := whi_ge b f i
  have hij : i ≤ j := by omega
  rw [whi_is] at hj ⊢
  rw [h.1, h.2 i (by omega)]
  split
  · rename_i h1
    rw [if_pos h1] at hj
    split
    · rename_i h2
      rw [if_pos h2] at hj
      exact whi_alk h (i + 1) hj hm
    · rename_i h2
      rw [if_neg h2] at hj
      split
      · rename_i h3
        rw [if_pos h3] at hj
        split at hj
        · rename_i h4
          have hg := whi_ge b f (eol b i + 1)
          have he := eol_alk h i (by omega)
          rw [he, if_pos h4]
          have := eol_ge b i
          exact whi_alk h (eol b i + 1) hj hm
        · omega
      · rename_i h3
        rw [if_neg h3] at hj
        split at hj
        · omega
        · rename_i h4
          rw [if_neg h4]
          exact hj
  · rename_i h1
    rw [if_neg h1] at hj
    omega
termination_by b.length - i
decreasing_by
  · omega
  · have := eol_ge b i
    omega
theorem numR_ge (b : List Int) : ∀ f i v, i ≤ (numR b f i v).2.1
  | 0, i, v => Nat.le_refl _
  | f + 1, i, v => by
    rw [numR]
    split
    · have := numR_ge b f (i + 1) (10 * v + (b.getD i 0 - 48)); omega
    · exact Nat.le_refl _
theorem numR_alk {b c : List Int} {m : Nat} (h : Alk m b c) : ∀ f i v, (numR b f i v).2.1 < m → numR c f i v = numR b f i v
  | 0, i, v, _ => rfl
  | f + 1, i, v, hi => by
    have hge := numR_ge b (f + 1) i v
    have him : i < m := by omega
    rw [numR] at hi
    rw [numR, numR, h.1, h.2 i him]
    split
    · rename_i h1
      rw [if_pos h1] at hi
      exact numR_alk h f (i + 1) _ hi
    · rfl
theorem tok_alk {b c : List Int} {m i : Nat} (h : Alk m b c) {t : Nat × Nat} (ht : tok b i = some t) (hm : t.2 < m) : tok c i = some t := by
  obtain ⟨j, hw, hij, hj, hn, h1, h2, h3⟩ := tok_some ht
  have hw' := whi_alk h i hw (by omega)
  have hn0 : (numP b j).2 = (t.2 : Int) := by rw [hn]
  have hR : (numR b 6 j 0).2.1 = t.2 := by
    unfold numP at hn0
    split at hn0
    · omega
    · simp only [] at hn0
      omega
  have hnc : numP c j = numP b j := by
    unfold numP
    rw [numR_alk h 6 j 0 (by omega)]
  unfold tok at ht ⊢
  rw [hw] at ht
  rw [hw', Int.toNat_natCast, hnc]
  rw [Int.toNat_natCast] at ht
  exact ht
theorem chn_ge {b : List Int} {k : Nat} {r : List Nat × Nat} (h : chn b (k + 1) = some r) : ∃ q t, chn b k = some q ∧ tok b q.2 = some t ∧ r = (q.1 ++ [t.1], t.2) ∧ q.2 ≤ t.2 := by
  unfold chn at h
  split at h
  · cases h
  · rename_i q hq
    split at h
    · cases h
    · rename_i t ht
      injection h with h
      obtain ⟨j, _, h1, _, _, _, h2, _⟩ := tok_some ht
      exact ⟨q, t, hq, ht, h.symm, by omega⟩
theorem chn_alk {b c : List Int} {m : Nat} (h : Alk m b c) : ∀ k {r : List Nat × Nat}, chn b k = some r → r.2 < m → chn c k = some r
  | 0, r, hr, _ => hr
  | k + 1, r, hr, hm => by
    obtain ⟨q, t, hq, ht, rfl, hqt⟩ := chn_ge hr
    have hm : t.2 < m := hm
    have hq' := chn_alk h k hq (by omega)
    have ht' := tok_alk h ht hm
    unfold chn
    rw [hq']
    simp only []
    rw [ht']
/-- Pixels play no part in where they are. -/
theorem picP_alk {b c : List Int} {r : Nat × Nat × Nat × Nat × Nat} (h : picP b = some r) (hl : c.length = b.length) (ht : c.take r.2.2.2.2 = b.take r.2.2.2.2) : picP c = some r := by
  have ha := Alk.of hl ht
  have hin := picP_in h
  have hf : r.2.2.2.2 ≤ b.length := by
    have := hin.1
    unfold fitP at this
    omega
  unfold picP at h
  split at h
  · unfold bmpP at h
    split at h
    · rename_i hc
      have h54 : 54 ≤ r.2.2.2.2 := by
        have h1 := hc.2.1
        unfold bmpR at h
        split at h
        · injection h with h
          rw [← h]
          exact h1
        · cases h
      have e : bmpP c = some r := by
        have e1 := ha.leA (p := 10) (k := 4) (by omega) hf
        have e2 := ha.leA (p := 14) (k := 4) (by omega) hf
        have e3 := ha.leA (p := 26) (k := 2) (by omega) hf
        have e4 := ha.leA (p := 28) (k := 2) (by omega) hf
        have e5 := ha.leA (p := 30) (k := 4) (by omega) hf
        unfold bmpP
        rw [if_pos (by rw [e1, e2, e3, e4, e5]; exact ⟨⟨by rw [hl]; exact hc.1.1, by rw [ha.2 0 (by omega)]; exact hc.1.2.1, by rw [ha.2 1 (by omega)]; exact hc.1.2.2⟩, hc.2⟩), e1, e4, ha.leA (p := 18) (k := 4) (by omega) hf, ha.leA (p := 22) (k := 4) (by omega) hf, hl]
        exact h
      unfold picP
      rw [e]
      rfl
    · cases h
  · have hp := h
    have h3 : 3 ≤ r.2.2.2.2 := by
      unfold pnmP at h
      split at h
      · split at h
        · cases h
        · rename_i q hq
          have h2 := (chn_len hq).2.2.1
          split at h
          · unfold pnmR at h
            split at h
            · injection h with h
              rw [← h]
              simp only []
              omega
            · cases h
          · cases h
      · cases h
    have e : pnmP c = some r := by
      unfold pnmP at h ⊢
      have ep : plnP c = plnP b := by unfold plnP; rw [ha.2 1 (by omega)]
      have eh : hdP c = hdP b := by unfold hdP; rw [hl, ha.2 0 (by omega), ha.2 1 (by omega)]
      rw [ep, hl]
      split at h
      · rename_i hd
        rw [if_pos (eh ▸ hd)]
        split at h
        · cases h
        · rename_i q hq
          have hqf : q.2 + 1 = r.2.2.2.2 := by
            split at h
            · unfold pnmR at h
              split at h
              · injection h with h
                rw [← h]
              · cases h
            · cases h
          rw [chn_alk ha 3 hq (by omega)]
          simp only []
          rw [ha.2 q.2 (by omega)]
          exact h
      · cases h
    have en : bmpP c = none := by
      unfold bmpP
      rw [if_neg]
      intro hc
      have h0 := hc.1.2.1
      rw [ha.2 0 (by omega)] at h0
      unfold pnmP at hp
      split at hp
      · rename_i hd
        have := hd.2.1
        omega
      · cases hp
    unfold picP
    rw [en]
    exact e

end Go.Proofs.Ythfifpapkknodaa

/- All rows of a picture turned, and back, as plain mathematics. -/
namespace Go.Proofs.Ythfifpapkknodaa
open Go.RowKit
set_option maxRecDepth 100000

/-- Row r, and the one ahead. -/
def prtF (b : List Int) (w r : Nat) : List Int := (b.drop (r * w)).take w
def prvF (b : List Int) (w : Nat) : Nat → List Int
  | 0 => []
  | r + 1 => prtF b w r
/-- The first r rows, turned each by its best kind. -/
def apN (b : List Int) (w n : Nat) : Nat → List Int
  | 0 => []
  | r + 1 => apN b w n r ++ ([(bst (prtF b w r) (prvF b w r) n : Int)] ++ rowF (bst (prtF b w r) (prvF b w r) n : Nat) (prtF b w r) (prvF b w r) n)
def apF (b : List Int) (w n : Nat) : List Int := apN b w n (b.length / w)
/-- Row r of what is turned; the first rows turned back; the row that comes of row r - 1. -/
def rwF (x : List Int) (w r : Nat) : List Int := (x.drop (r * (w + 1) + 1)).take w
def upN (x : List Int) (w n : Nat) : Nat → List Int
  | 0 => []
  | r + 1 => unF (x.getD (r * (w + 1)) 0) (rwF x w r) (upN x w n r) n
def udN (x : List Int) (w n : Nat) : Nat → List Int
  | 0 => []
  | r + 1 => udN x w n r ++ upN x w n (r + 1)
def udF (x : List Int) (w n : Nat) : List Int := udN x w n (x.length / (w + 1))
/-- All kinds are there. -/
def kndF (x : List Int) (w : Nat) : Prop := ∀ r, r < x.length / (w + 1) → x.getD (r * (w + 1)) 0 ≤ 4

theorem prtF_length {b : List Int} {w r : Nat} (h : (r + 1) * w ≤ b.length) : (prtF b w r).length = w := by
  rw [Nat.add_mul, Nat.one_mul] at h
  rw [prtF, List.length_take, List.length_drop]
  omega
theorem prtF_byte {b : List Int} (h : B8 b) (w r : Nat) : B8 (prtF b w r) := fun x hx => h x (List.mem_of_mem_drop (List.mem_of_mem_take hx))
theorem prvF_byte {b : List Int} (h : B8 b) (w : Nat) : ∀ r, B8 (prvF b w r)
  | 0 => fun x hx => by cases hx
  | r + 1 => prtF_byte h w r
theorem row_le {a w r : Nat} (h : r < a / w) : (r + 1) * w ≤ a := by
  have := Nat.mul_le_mul_right w (show r + 1 ≤ a / w from h)
  exact Nat.le_trans this (Nat.div_mul_le_self _ _)
theorem apN_length {b : List Int} {w n : Nat} : ∀ r, r * w ≤ b.length → (apN b w n r).length = r * (w + 1)
  | 0, _ => by simp [apN]
  | r + 1, h => by
    have h2 : r * w ≤ b.length := by rw [Nat.add_mul] at h; omega
    rw [apN, List.length_append, apN_length r h2, List.length_append, rowF_length, prtF_length h, Nat.add_mul r 1 (w + 1)]
    simp
    omega
theorem apN_byte (b : List Int) (w n : Nat) : ∀ r, B8 (apN b w n r)
  | 0 => fun x hx => by cases hx
  | r + 1 => fun x hx => by
    rw [apN, List.mem_append, List.mem_append] at hx
    rcases hx with hx | hx | hx
    · exact apN_byte b w n r x hx
    · simp only [List.mem_singleton] at hx
      have := bstN_le (prtF b w r) (prvF b w r) n 4
      unfold bst at hx
      omega
    · exact rowF_byte _ _ _ _ x hx
theorem udN_byte (x : List Int) (w n : Nat) : ∀ r, B8 (udN x w n r)
  | 0 => fun x hx => by cases hx
  | r + 1 => fun y hy => by
    rw [udN, List.mem_append] at hy
    rcases hy with hy | hy
    · exact udN_byte x w n r y hy
    · exact unN_byte _ _ _ _ _ y hy
theorem upN_byte (x : List Int) (w n : Nat) : ∀ r, B8 (upN x w n r)
  | 0 => fun x hx => by cases hx
  | r + 1 => unN_byte _ _ _ _ _
theorem rwF_length {x : List Int} {w r : Nat} (h : (r + 1) * (w + 1) ≤ x.length) : (rwF x w r).length = w := by
  rw [Nat.add_mul, Nat.one_mul] at h
  rw [rwF, List.length_take, List.length_drop]
  omega
theorem rwF_byte {x : List Int} (h : B8 x) (w r : Nat) : B8 (rwF x w r) := fun y hy => h y (List.mem_of_mem_drop (List.mem_of_mem_take hy))
theorem upN_length {x : List Int} {w n : Nat} : ∀ r, 0 < r → r * (w + 1) ≤ x.length → (upN x w n r).length = w
  | r + 1, _, h => by rw [upN, unF_length, rwF_length h]
theorem upN_le {x : List Int} {w n : Nat} : ∀ r, r * (w + 1) ≤ x.length → (upN x w n r).length ≤ w
  | 0, _ => Nat.zero_le _
  | r + 1, h => Nat.le_of_eq (upN_length _ (by omega) h)
theorem udN_length {x : List Int} {w n : Nat} : ∀ r, r * (w + 1) ≤ x.length → (udN x w n r).length = r * w
  | 0, _ => by simp [udN]
  | r + 1, h => by
    have h2 : r * (w + 1) ≤ x.length := by rw [Nat.add_mul r 1 (w + 1)] at h; omega
    rw [udN, List.length_append, udN_length r h2, upN_length _ (by omega) h, Nat.succ_mul]
/-- What stands in row r. -/
theorem apN_row {b : List Int} {w n : Nat} : ∀ R r, r < R → R * w ≤ b.length →
    (apN b w n R).getD (r * (w + 1)) 0 = (bst (prtF b w r) (prvF b w r) n : Nat) ∧ rwF (apN b w n R) w r = rowF (bst (prtF b w r) (prvF b w r) n : Nat) (prtF b w r) (prvF b w r) n
  | R + 1, r, hr, h => by
    have h2 : R * w ≤ b.length := by rw [Nat.add_mul] at h; omega
    have hl := apN_length (n := n) R h2
    rcases Nat.lt_or_ge r R with h3 | h3
    · obtain ⟨e1, e2⟩ := apN_row R r h3 h2
      have h4 := Nat.mul_le_mul_right (w + 1) (show r + 1 ≤ R from h3)
      rw [Nat.add_mul r 1 (w + 1), Nat.one_mul] at h4
      refine ⟨?_, ?_⟩
      · rw [apN, getD_left (by omega), e1]
      · rw [← e2, apN, rwF, rwF, List.drop_append_of_le_length (by omega), List.take_append_of_le_length (by rw [List.length_drop]; omega)]
    · obtain rfl : r = R := by omega
      have hp := prtF_length h
      refine ⟨?_, ?_⟩
      · rw [apN]
        simp only [List.getD]
        rw [List.getElem?_append_right (by omega), hl, Nat.sub_self]
        rfl
      · rw [apN, rwF, ← List.append_assoc, List.drop_append_of_le_length (by rw [List.length_append, hl]; simp), List.drop_of_length_le (by rw [List.length_append, hl]; simp), List.nil_append, List.take_of_length_le (by rw [rowF_length, hp]; omega)]
/-- What is applied is undone. -/
theorem up_ap {b : List Int} {w n : Nat} (hn : 1 ≤ n) (h8 : B8 b) {R : Nat} (h : R * w ≤ b.length) : ∀ r, r ≤ R → upN (apN b w n R) w n r = prvF b w r
  | 0, _ => rfl
  | r + 1, hr => by
    obtain ⟨e1, e2⟩ := apN_row (n := n) R r (by omega) h
    rw [upN, e1, e2, up_ap hn h8 h r (by omega), un_row hn (prtF_byte h8 w r)]
    rfl
theorem ud_ap {b : List Int} {w n : Nat} (hn : 1 ≤ n) (h8 : B8 b) {R : Nat} (h : R * w ≤ b.length) : ∀ r, r ≤ R → udN (apN b w n R) w n r = b.take (r * w)
  | 0, _ => by simp [udN]
  | r + 1, hr => by
    rw [udN, ud_ap hn h8 h r (by omega), up_ap hn h8 h (r + 1) hr, Nat.succ_mul, List.take_add]
    rfl
theorem undo_apply {b : List Int} {w n : Nat} (hn : 1 ≤ n) (hw : 1 ≤ w) (h8 : B8 b) (hm : b.length % w = 0) : udF (apF b w n) w n = b ∧ kndF (apF b w n) w ∧ (apF b w n).length = b.length + b.length / w := by
  have hR := Nat.div_mul_le_self b.length w
  have hl : (apF b w n).length = b.length / w * (w + 1) := apN_length _ hR
  have hq : (apF b w n).length / (w + 1) = b.length / w := by rw [hl]; exact Nat.mul_div_cancel _ (by omega)
  have he : b.length / w * w = b.length := by
    have := Nat.div_add_mod b.length w
    rw [hm, Nat.mul_comm] at this
    omega
  refine ⟨?_, fun r hr => ?_, ?_⟩
  · rw [udF, hq]
    show udN (apN b w n (b.length / w)) w n (b.length / w) = b
    rw [ud_ap hn h8 hR _ (Nat.le_refl _), he, List.take_length]
  · rw [hq] at hr
    have := (apN_row (n := n) (b.length / w) r hr hR).1
    show (apN b w n (b.length / w)).getD (r * (w + 1)) 0 ≤ 4
    rw [this]
    have := bstN_le (prtF b w r) (prvF b w r) n 4
    unfold bst
    omega
  · rw [hl, Nat.mul_add, Nat.mul_one, he]

end Go.Proofs.Ythfifpapkknodaa

/- Image, as plain mathematics: what a file becomes, and back. -/
namespace Go.Proofs.Ythfifpapkknodaa
open Go.RowKit
set_option maxRecDepth 100000

/-- Lists, one behind the other. -/
def rowsN (f : Nat → List Int) : Nat → List Int
  | 0 => []
  | k + 1 => rowsN f k ++ f k
theorem rowsN_length {f : Nat → List Int} {n : Nat} : ∀ K, (∀ i, i < K → (f i).length = n) → (rowsN f K).length = K * n
  | 0, _ => by simp [rowsN]
  | K + 1, h => by rw [rowsN, List.length_append, rowsN_length K (fun i hi => h i (by omega)), h K (by omega), Nat.succ_mul]
theorem rowsN_congr {f g : Nat → List Int} : ∀ K, (∀ i, i < K → f i = g i) → rowsN f K = rowsN g K
  | 0, _ => rfl
  | K + 1, h => by rw [rowsN, rowsN, rowsN_congr K (fun i hi => h i (by omega)), h K (by omega)]
theorem rowsN_byte {f : Nat → List Int} (h : ∀ i, B8 (f i)) : ∀ K, B8 (rowsN f K)
  | 0 => fun x hx => by cases hx
  | K + 1 => all_append (rowsN_byte h K) (h K)
theorem prt_left {a b : List Int} {n i : Nat} (h : (i + 1) * n ≤ a.length) : prtF (a ++ b) n i = prtF a n i := by
  rw [Nat.succ_mul] at h
  unfold prtF
  rw [List.drop_append_of_le_length (by omega), List.take_append_of_le_length (by rw [List.length_drop]; omega)]
theorem rowsN_prt {f : Nat → List Int} {n : Nat} : ∀ K i, (∀ i, i < K → (f i).length = n) → i < K → prtF (rowsN f K) n i = f i
  | K + 1, i, h, hi => by
    have hl := rowsN_length (n := n) K (fun i hi => h i (by omega))
    rw [rowsN]
    by_cases e : i < K
    · rw [prt_left (by rw [hl]; exact Nat.mul_le_mul_right n (by omega)), rowsN_prt K i (fun i hi => h i (by omega)) e]
    · obtain rfl : i = K := by omega
      unfold prtF
      rw [← hl, List.drop_left, List.take_of_length_le (by rw [h i (by omega)]; exact Nat.le_refl _)]
theorem rowsN_take (b : List Int) (S : Nat) : ∀ K, K * S ≤ b.length → rowsN (prtF b S) K = b.take (K * S)
  | 0, _ => by simp [rowsN]
  | K + 1, h => by
    rw [Nat.succ_mul] at h
    rw [rowsN, rowsN_take b S K (by omega), Nat.succ_mul, List.take_add]
    rfl

/-- The first n bytes of each row, and what is behind them. -/
def cutN (b : List Int) (S n : Nat) : Nat → List Int := rowsN fun i => (prtF b S i).take n
def behN (b : List Int) (S n : Nat) : Nat → List Int := rowsN fun i => (prtF b S i).drop n
/-- Rows of both. -/
def splI (x y : List Int) (n m : Nat) : Nat → List Int := rowsN fun i => prtF x n i ++ prtF y m i
theorem prt_len {b : List Int} {S i K : Nat} (hi : i < K) (h : K * S ≤ b.length) : (prtF b S i).length = S := prtF_length (Nat.le_trans (Nat.mul_le_mul_right S hi) h)
theorem cutN_length {b : List Int} {S n K : Nat} (h : K * S ≤ b.length) (hn : n ≤ S) : (cutN b S n K).length = K * n :=
  rowsN_length K fun i hi => by rw [List.length_take, prt_len hi h]; omega
theorem behN_length {b : List Int} {S n K : Nat} (h : K * S ≤ b.length) : (behN b S n K).length = K * (S - n) :=
  rowsN_length K fun i hi => by rw [List.length_drop, prt_len hi h]
theorem splI_length {x y : List Int} {n m K : Nat} (hx : K * n ≤ x.length) (hy : K * m ≤ y.length) : (splI x y n m K).length = K * (n + m) :=
  rowsN_length K fun i hi => by rw [List.length_append, prt_len hi hx, prt_len hi hy]
theorem take_byte {b : List Int} (h : B8 b) (n : Nat) : B8 (b.take n) := fun x hx => h x (List.mem_of_mem_take hx)
theorem drop_byte {b : List Int} (h : B8 b) (n : Nat) : B8 (b.drop n) := fun x hx => h x (List.mem_of_mem_drop hx)
theorem cutN_byte {b : List Int} (h : B8 b) (S n K : Nat) : B8 (cutN b S n K) := rowsN_byte (fun i => take_byte (prtF_byte h S i) n) K
theorem behN_byte {b : List Int} (h : B8 b) (S n K : Nat) : B8 (behN b S n K) := rowsN_byte (fun i => drop_byte (prtF_byte h S i) n) K
theorem splI_byte {x y : List Int} (hx : B8 x) (hy : B8 y) (n m K : Nat) : B8 (splI x y n m K) := rowsN_byte (fun i => all_append (prtF_byte hx n i) (prtF_byte hy m i)) K
/-- What was parted comes together. -/
theorem spl_cut {b : List Int} {S n K : Nat} (h : K * S ≤ b.length) (hn : n ≤ S) : splI (cutN b S n K) (behN b S n K) n (S - n) K = b.take (K * S) := by
  rw [← rowsN_take b S K h]
  refine rowsN_congr K fun i hi => ?_
  rw [cutN, behN, rowsN_prt K i (fun j hj => by rw [List.length_take, prt_len hj h]; omega) hi, rowsN_prt K i (fun j hj => by rw [List.length_drop, prt_len hj h]) hi, List.take_append_drop]

/-- Colours turned, if there are any, and back. -/
def trP (p : Nat) (l : List Int) : List Int := if p = 3 then trn (-1) l else l
def bcP (p : Nat) (l : List Int) : List Int := if p = 3 then trn 1 l else l
theorem trP_length (p : Nat) (l : List Int) : (trP p l).length = l.length := by unfold trP; split; exact trn_length _ _; rfl
theorem bcP_length (p : Nat) (l : List Int) : (bcP p l).length = l.length := by unfold bcP; split; exact trn_length _ _; rfl
theorem trP_byte (p : Nat) {l : List Int} (h : B8 l) : B8 (trP p l) := by unfold trP; split; exact trn_byte h; exact h
theorem bcP_byte (p : Nat) {l : List Int} (h : B8 l) : B8 (bcP p l) := by unfold bcP; split; exact trn_byte h; exact h
theorem bc_tr (p : Nat) {l : List Int} (h : B8 l) : bcP p (trP p l) = l := by
  unfold bcP trP
  split
  · have := trn_trn (s := -1) h (.inr rfl)
    exact this
  · rfl

/-- A picture's places that may be: what is in it. -/
structure PcI (n : Nat) (r : Nat × Nat × Nat × Nat × Nat) : Prop where
  wide : 1 ≤ r.1 ∧ r.1 ≤ 32768
  high : 1 ≤ r.2.1 ∧ r.2.1 ≤ 32768
  plan : r.2.2.1 = 1 ∨ r.2.2.1 = 3
  row : r.1 * r.2.2.1 ≤ r.2.2.2.1
  fill : r.2.2.2.1 < r.1 * r.2.2.1 + 4
  all : r.2.2.2.2 + r.2.1 * r.2.2.2.1 ≤ n
theorem PcI.of {l : List Int} {r : Nat × Nat × Nat × Nat × Nat} (h : picP l = some r) : PcI l.length r := by
  obtain ⟨⟨h1, h2, h3, h4, h5, h6⟩, hp, hr, hf, _⟩ := picP_in h
  refine ⟨by omega, by omega, hp, hr, hf, ?_⟩
  have e : ((r.2.2.2.1 : Nat) : Int) * ((r.2.1 : Nat) : Int) = ((r.2.1 * r.2.2.2.1 : Nat) : Int) := by rw [Nat.mul_comm]; simp
  rw [e] at h6
  omega
/-- How wide a row is, how farI the rows go. -/
def wdI (r : Nat × Nat × Nat × Nat × Nat) : Nat := r.1 * r.2.2.1
def farI (r : Nat × Nat × Nat × Nat × Nat) : Nat := r.2.2.2.2 + r.2.1 * r.2.2.2.1
theorem PcI.wide_in {n : Nat} {r : Nat × Nat × Nat × Nat × Nat} (h : PcI n r) : 1 ≤ wdI r ∧ wdI r ≤ 98304 := by
  have h1 := h.wide
  unfold wdI
  rcases h.plan with e | e <;> rw [e] <;> omega

/-- What rows become: the fill, the kinds, what is left. -/
def pixR (b : List Int) (r : Nat × Nat × Nat × Nat × Nat) : List Int := cutN b r.2.2.2.1 (wdI r) r.2.1
def fllR (b : List Int) (r : Nat × Nat × Nat × Nat × Nat) : List Int := behN b r.2.2.2.1 (wdI r) r.2.1
def appR (b : List Int) (r : Nat × Nat × Nat × Nat × Nat) : List Int := apF (trP r.2.2.1 (pixR b r)) (wdI r) (plN (r.2.2.1 : Nat))
def kinR (b : List Int) (r : Nat × Nat × Nat × Nat × Nat) : List Int := cutN (appR b r) (1 + wdI r) 1 r.2.1
def lefR (b : List Int) (r : Nat × Nat × Nat × Nat × Nat) : List Int := behN (appR b r) (1 + wdI r) 1 r.2.1
def rowR (b : List Int) (r : Nat × Nat × Nat × Nat × Nat) : List Int := fllR b r ++ (kinR b r ++ aprt (lefR b r) (colC (r.2.2.1 : Nat)))
def linR (bs : List Int) (r : Nat × Nat × Nat × Nat × Nat) : List Int := slc bs r.2.2.2.2 (r.2.1 * r.2.2.2.1)
/-- Pack. -/
def ipR (bs : List Int) (r : Nat × Nat × Nat × Nat × Nat) : List Int := sv bs.length ++ (tx (bs.take r.2.2.2.2) ++ (tx (bs.drop (farI r)) ++ rowR (linR bs r) r))
def ipC (bs : List Int) : List Int := match picP bs with
  | none => []
  | some r => ipR bs r

instance (x : List Int) (w : Nat) : Decidable (kndF x w) := by unfold kndF; infer_instance
/-- What is read of rows from place p on: the three parts, the fault. -/
def rd1 (xs : List Int) (p : Nat) (r : Nat × Nat × Nat × Nat × Nat) : List Int × Nat × Int := tk xs p 0 ((r.2.2.2.1 - wdI r) * r.2.1)
def rd2 (xs : List Int) (p : Nat) (r : Nat × Nat × Nat × Nat × Nat) : List Int × Nat × Int := tk xs (rd1 xs p r).2.1 (rd1 xs p r).2.2 r.2.1
def rd3 (xs : List Int) (p : Nat) (r : Nat × Nat × Nat × Nat × Nat) : List Int × Nat × Int := tk xs (rd2 xs p r).2.1 (rd2 xs p r).2.2 (wdI r * r.2.1)
def rdE (xs : List Int) (p : Nat) (r : Nat × Nat × Nat × Nat × Nat) : Int := rdEnd (xs.length - (rd3 xs p r).2.1) (rd3 xs p r).2.2
def togR (xs : List Int) (p : Nat) (r : Nat × Nat × Nat × Nat × Nat) : List Int := splI (rd2 xs p r).1 (tgth (rd3 xs p r).1 (colC (r.2.2.1 : Nat))) 1 (wdI r) r.2.1
def unR0 (xs : List Int) (p : Nat) (r : Nat × Nat × Nat × Nat × Nat) : List Int := splI (bcP r.2.2.1 (udF (togR xs p r) (wdI r) (plN (r.2.2.1 : Nat)))) (rd1 xs p r).1 (wdI r) (r.2.2.2.1 - wdI r) r.2.1
def rowI (xs : List Int) (p : Nat) (r : Nat × Nat × Nat × Nat × Nat) : Int × List Int :=
  if rdE xs p r ≠ 0 then (rdE xs p r, []) else if kndF (togR xs p r) (wdI r) then (0, unR0 xs p r) else (4, [])
/-- A file. -/
def fiR (xs : List Int) (m : Nat) (r : Nat × Nat × Nat × Nat × Nat) : Int × List Int :=
  if (rowI xs (blkT xs m).2.1 r).1 ≠ 0 then ((rowI xs (blkT xs m).2.1 r).1, []) else (0, (blkB xs m).take r.2.2.2.2 ++ ((rowI xs (blkT xs m).2.1 r).2 ++ (blkB xs m).drop (farI r)))
def fiI (xs : List Int) (m : Nat) : Int × List Int :=
  if (blkA xs m).1 ≠ 0 then ((blkA xs m).1, []) else match picP (blkB xs m) with
    | none => (4, [])
    | some r => fiR xs m r
/-- Unpack: the error, the bytes. -/
def iuC (xs : List Int) (most : Int) : Int × List Int :=
  if (fiI xs (mst most)).1 ≠ 0 then ((fiI xs (mst most)).1, []) else if ipC (fiI xs (mst most)).2 = xs then (0, (fiI xs (mst most)).2) else (4, [])

/-- What becomes of rows of a picture. -/
structure RowsR (b : List Int) (r : Nat × Nat × Nat × Nat × Nat) : Prop where
  pix : (pixR b r).length = r.2.1 * wdI r
  fil : (fllR b r).length = r.2.1 * (r.2.2.2.1 - wdI r)
  app : (appR b r).length = r.2.1 * (1 + wdI r)
  kin : (kinR b r).length = r.2.1
  lef : (lefR b r).length = r.2.1 * wdI r
theorem RowsR.of {b : List Int} {n : Nat} {r : Nat × Nat × Nat × Nat × Nat} (h : PcI n r) (hl : b.length = r.2.1 * r.2.2.2.1) : RowsR b r := by
  have hw := h.wide_in
  have h1 : (pixR b r).length = r.2.1 * wdI r := cutN_length (by omega) h.row
  have h3 : (appR b r).length = r.2.1 * (1 + wdI r) := by
    unfold appR apF
    rw [trP_length, h1, Nat.mul_div_cancel _ (by omega), apN_length _ (by rw [trP_length, h1]; exact Nat.le_refl _), Nat.add_comm]
  refine ⟨h1, behN_length (by omega), h3, ?_, ?_⟩
  · rw [kinR, cutN_length (by omega) (by omega), Nat.mul_one]
  · rw [lefR, behN_length (by omega), Nat.add_sub_cancel_left]
theorem rowR_length {b : List Int} {n : Nat} {r : Nat × Nat × Nat × Nat × Nat} (h : PcI n r) (hl : b.length = r.2.1 * r.2.2.2.1) : (rowR b r).length = b.length + r.2.1 := by
  have hr := RowsR.of h hl
  have hrow : wdI r ≤ r.2.2.2.1 := h.row
  unfold rowR
  rw [List.length_append, List.length_append, aprt_length, hr.fil, hr.kin, hr.lef, hl]
  have e : r.2.1 * (r.2.2.2.1 - wdI r) + r.2.1 * wdI r = r.2.1 * r.2.2.2.1 := by rw [← Nat.mul_add, Nat.sub_add_cancel hrow]
  omega
theorem appR_byte (b : List Int) (r : Nat × Nat × Nat × Nat × Nat) : B8 (appR b r) := apN_byte _ _ _ _
theorem rowR_byte {b : List Int} (h : B8 b) (r : Nat × Nat × Nat × Nat × Nat) : B8 (rowR b r) :=
  all_append (behN_byte h _ _ _) (all_append (cutN_byte (appR_byte b r) _ _ _) (aprt_byte (behN_byte (appR_byte b r) _ _ _) _))
theorem linR_length {bs : List Int} {r : Nat × Nat × Nat × Nat × Nat} (h : PcI bs.length r) : (linR bs r).length = r.2.1 * r.2.2.2.1 := slc_length h.all
theorem ipC_byte {bs : List Int} (h : ∀ x ∈ bs, 0 ≤ x ∧ x < 256) : ∀ x ∈ ipC bs, 0 ≤ x ∧ x < 256 := by
  unfold ipC
  split
  · simp
  · exact all_append (sv_byte _) (all_append (tx_byte (take_byte h _)) (all_append (tx_byte (drop_byte h _)) (rowR_byte (slc_byte _ _ h) _)))
theorem ipR_len {bs : List Int} {r : Nat × Nat × Nat × Nat × Nat} (h : picP bs = some r) (hl : bs.length ≤ 1048576) : 0 < (ipR bs r).length ∧ (ipR bs r).length ≤ bs.length + r.2.1 + 64 := by
  have hp := PcI.of h
  have hall := hp.all
  have h1 := sv_le10 bs.length (by omega)
  have h0 := hp.high.1
  have h2 := tx_le (xs := bs.take r.2.2.2.2) (by rw [List.length_take]; omega)
  have h3 := tx_le (xs := bs.drop (farI r)) (by rw [List.length_drop]; omega)
  have h4 := rowR_length hp (linR_length hp)
  rw [linR_length hp] at h4
  rw [List.length_take] at h2
  rw [List.length_drop] at h3
  unfold ipR
  simp only [List.length_append]
  have hfar : farI r = r.2.2.2.2 + r.2.1 * r.2.2.2.1 := rfl
  omega

/-- Rows that were packed are read. -/
theorem row_back {xs P b : List Int} {n : Nat} {r : Nat × Nat × Nat × Nat × Nat} (h : PcI n r) (hl : b.length = r.2.1 * r.2.2.2.1) (h8 : B8 b) (hx : xs = P ++ rowR b r) : rowI xs P.length r = (0, b) := by
  have hr := RowsR.of h hl
  have hw := h.wide_in
  have hrow := h.row
  have tk_at : ∀ (Q M R : List Int) (k : Nat), xs = Q ++ (M ++ R) → M.length = k → tk xs Q.length 0 k = (M, Q.length + k, 0) := fun Q M R k e hk => by
    unfold tk
    rw [if_neg (by simp), e, List.drop_left, if_pos (by simp only [List.length_append]; omega), ← hk, List.take_left]
  have e1 : rd1 xs P.length r = (fllR b r, (P ++ fllR b r).length, 0) := by
    unfold rd1
    rw [tk_at P (fllR b r) (kinR b r ++ aprt (lefR b r) (colC (r.2.2.1 : Nat))) _ hx (by rw [hr.fil, Nat.mul_comm]), List.length_append, hr.fil, Nat.mul_comm]
  have e2 : rd2 xs P.length r = (kinR b r, (P ++ fllR b r ++ kinR b r).length, 0) := by
    unfold rd2
    rw [e1]
    simp only []
    have q2 : (P ++ fllR b r ++ kinR b r).length = (P ++ fllR b r).length + r.2.1 := by rw [List.length_append, hr.kin]
    rw [tk_at (P ++ fllR b r) (kinR b r) (aprt (lefR b r) (colC (r.2.2.1 : Nat))) _ (by rw [hx]; simp [rowR]) hr.kin, q2]
  have e3 : rd3 xs P.length r = (aprt (lefR b r) (colC (r.2.2.1 : Nat)), xs.length, 0) := by
    unfold rd3
    rw [e2]
    simp only []
    have hal : (aprt (lefR b r) (colC (r.2.2.1 : Nat))).length = wdI r * r.2.1 := by rw [aprt_length, hr.lef, Nat.mul_comm]
    rw [tk_at (P ++ fllR b r ++ kinR b r) (aprt (lefR b r) (colC (r.2.2.1 : Nat))) [] _ (by rw [hx]; simp [rowR]) hal]
    rw [hx]
    unfold rowR
    simp only [List.length_append, hal]
    refine congrArg (fun q => (aprt (lefR b r) (colC (r.2.2.1 : Nat)), q, (0 : Int))) ?_
    omega
  have e4 : rdE xs P.length r = 0 := by
    unfold rdE
    rw [e3]
    simp [rdEnd]
  have hal : r.2.1 * (1 + wdI r) ≤ (appR b r).length := by rw [hr.app]; exact Nat.le_refl _
  have e5 : togR xs P.length r = appR b r := by
    unfold togR
    rw [e2, e3]
    simp only []
    rw [tgth_aprt]
    unfold kinR lefR
    have := spl_cut (b := appR b r) (S := 1 + wdI r) (n := 1) (K := r.2.1) hal (by omega)
    rw [Nat.add_sub_cancel_left, ← hr.app, List.take_length] at this
    exact this
  have h8p : B8 (trP r.2.2.1 (pixR b r)) := trP_byte _ (cutN_byte h8 _ _ _)
  have hpl : 1 ≤ plN (r.2.2.1 : Nat) := (plN_in _).1
  have hud := undo_apply (b := trP r.2.2.1 (pixR b r)) (w := wdI r) hpl hw.1 h8p (by rw [trP_length, hr.pix]; exact Nat.mul_mod_left _ _)
  unfold rowI
  rw [e4, e5, if_neg (by simp), if_pos (show kndF (appR b r) (wdI r) from hud.2.1)]
  refine congrArg (fun q => ((0 : Int), q)) ?_
  unfold unR0
  rw [e5, e1]
  simp only []
  have : udF (appR b r) (wdI r) (plN (r.2.2.1 : Nat)) = trP r.2.2.1 (pixR b r) := hud.1
  rw [this, bc_tr _ (show B8 (pixR b r) from cutN_byte h8 _ _ _)]
  unfold pixR fllR
  rw [spl_cut (by omega) (show wdI r ≤ r.2.2.2.1 from hrow), ← hl, List.take_length]

theorem fi_back {bs : List Int} {r : Nat × Nat × Nat × Nat × Nat} (hb : ∀ x ∈ bs, 0 ≤ x ∧ x < 256) (hl : bs.length ≤ 1048576) (hw : picP bs = some r) (m : Nat) :
    fiI (ipR bs r) m = if bs.length ≤ m then (0, bs) else (5, []) := by
  have hp := PcI.of hw
  have hall := hp.all
  have hft : r.2.2.2.2 ≤ farI r ∧ farI r ≤ bs.length := by unfold farI; omega
  have hhl : (bs.take r.2.2.2.2).length = r.2.2.2.2 := by rw [List.length_take]; omega
  have htl : (bs.drop (farI r)).length = bs.length - farI r := by rw [List.length_drop]
  obtain ⟨hA, hB⟩ := husk_at (xs := ipR bs r) (m := m) (N := bs.length) (hd := bs.take r.2.2.2.2) (tl := bs.drop (farI r)) (G := rowR (linR bs r) r) rfl (by omega) hl
  unfold fiI
  by_cases hm : bs.length ≤ m
  · rw [if_pos hm] at hA ⊢
    obtain ⟨hB, hT⟩ := hB hm
    rw [hhl, htl, show bs.length - r.2.2.2.2 - (bs.length - farI r) = farI r - r.2.2.2.2 by omega] at hB
    have hBl : (blkB (ipR bs r) m).length = bs.length := by
      rw [hB]
      simp only [List.length_append, hhl, htl, List.length_replicate]
      omega
    have hpB : picP (blkB (ipR bs r) m) = some r := picP_alk hw hBl (by
      rw [hB, List.take_append, hhl, Nat.sub_self, List.take_zero, List.append_nil, List.take_take, Nat.min_self])
    have hrow : rowI (ipR bs r) (blkT (ipR bs r) m).2.1 r = (0, linR bs r) := by
      rw [hT]
      exact row_back hp (linR_length hp) (slc_byte _ _ hb) (by simp [ipR])
    rw [hA]
    simp only []
    rw [if_neg (by simp), hpB]
    simp only []
    unfold fiR
    rw [hrow]
    simp only []
    rw [if_neg (by simp), hB, List.take_append, hhl, Nat.sub_self, List.take_zero, List.append_nil, List.take_take, Nat.min_self]
    have hd : (bs.take r.2.2.2.2 ++ (List.replicate (farI r - r.2.2.2.2) 0 ++ bs.drop (farI r))).drop (farI r) = bs.drop (farI r) := by
      rw [← List.append_assoc]
      exact List.drop_left' (by rw [List.length_append, hhl, List.length_replicate]; omega)
    rw [hd]
    refine congrArg (fun q => ((0 : Int), q)) ?_
    unfold linR slc
    have e1 : bs.drop (farI r) = (bs.drop r.2.2.2.2).drop (r.2.1 * r.2.2.2.1) := by rw [List.drop_drop]; rfl
    rw [e1, List.take_append_drop, List.take_append_drop]
  · rw [if_neg hm] at hA ⊢
    rw [hA]
    simp only []
    rw [if_pos (by decide)]

/-- P19.1. -/
theorem iuC_back {bs : List Int} (most : Int) (hb : ∀ x ∈ bs, 0 ≤ x ∧ x < 256) (hl : bs.length ≤ 1048576) (hw : (picP bs).isSome = true) :
    iuC (ipC bs) most = if (bs.length : Int) ≤ most then (0, bs) else (5, []) := by
  obtain ⟨r, hr⟩ := Option.isSome_iff_exists.1 hw
  have hap : ipC bs = ipR bs r := by unfold ipC; rw [hr]
  have hF := fi_back hb hl hr (mst most)
  unfold iuC
  rw [hap, hF]
  have hm : bs.length ≤ mst most ↔ (bs.length : Int) ≤ most ∨ bs.length = 0 := by unfold mst; omega
  have h1 := (picP_in hr).2.2.2.2
  have hp := (PcI.of hr).all
  by_cases h : (bs.length : Int) ≤ most
  · rw [if_pos (hm.2 (.inl h)), if_pos h]
    simp only []
    rw [if_neg (by simp), if_pos hap]
  · have hn : ¬ bs.length ≤ mst most := fun e => by rcases hm.1 e with e | e <;> omega
    rw [if_neg hn, if_neg h]
    simp only []
    rw [if_pos (by decide)]

theorem tk_zero {xs : List Int} {p : Nat} {e : Int} {n : Nat} (h : (tk xs p e n).2.2 = 0) : e = 0 ∧ (tk xs p e n).1.length = n := by
  unfold tk at h ⊢
  split at h
  · rename_i h1; exact absurd h h1
  split at h
  · rename_i h1 h2
    rw [if_neg h1, if_pos h2]
    refine ⟨by omega, ?_⟩
    rw [List.length_take, List.length_drop]
    omega
  · cases h
/-- If no fault was found. -/
structure RdI (xs : List Int) (p : Nat) (r : Nat × Nat × Nat × Nat × Nat) : Prop where
  l1 : (rd1 xs p r).1.length = r.2.1 * (r.2.2.2.1 - wdI r)
  l2 : (rd2 xs p r).1.length = r.2.1
  l3 : (rd3 xs p r).1.length = r.2.1 * wdI r
theorem RdI.of {xs : List Int} {p : Nat} {r : Nat × Nat × Nat × Nat × Nat} (h : rdE xs p r = 0) : RdI xs p r := by
  have h3 : (rd3 xs p r).2.2 = 0 := by
    unfold rdE rdEnd at h
    split at h
    · exact h
    · rename_i h1; omega
  obtain ⟨h2, l3⟩ := tk_zero h3
  obtain ⟨h1, l2⟩ := tk_zero h2
  obtain ⟨_, l1⟩ := tk_zero h1
  exact ⟨l1.trans (Nat.mul_comm _ _), l2, l3.trans (Nat.mul_comm _ _)⟩
theorem RdI.tog {xs : List Int} {p : Nat} {r : Nat × Nat × Nat × Nat × Nat} (h : RdI xs p r) : (togR xs p r).length = r.2.1 * (1 + wdI r) :=
  splI_length (by rw [h.l2]; omega) (by rw [tgth_length, h.l3]; exact Nat.le_refl _)
theorem RdI.ud {xs : List Int} {p : Nat} {r : Nat × Nat × Nat × Nat × Nat} (h : RdI xs p r) : (udF (togR xs p r) (wdI r) (plN (r.2.2.1 : Nat))).length = r.2.1 * wdI r := by
  unfold udF
  rw [h.tog, Nat.add_comm 1, Nat.mul_div_cancel _ (by omega)]
  exact udN_length _ (by rw [h.tog, Nat.add_comm 1]; exact Nat.le_refl _)
theorem RdI.un {xs : List Int} {p n : Nat} {r : Nat × Nat × Nat × Nat × Nat} (h : RdI xs p r) (hp : PcI n r) : (unR0 xs p r).length = r.2.1 * r.2.2.2.1 := by
  unfold unR0
  rw [splI_length (by rw [bcP_length, h.ud]; exact Nat.le_refl _) (by rw [h.l1]; exact Nat.le_refl _), show wdI r + (r.2.2.2.1 - wdI r) = r.2.2.2.1 by have := hp.row; unfold wdI; omega]
theorem rowI_len {xs : List Int} {p n : Nat} {r : Nat × Nat × Nat × Nat × Nat} (hp : PcI n r) (h : (rowI xs p r).1 = 0) : (rowI xs p r).2.length = r.2.1 * r.2.2.2.1 := by
  unfold rowI at h ⊢
  split at h
  · rename_i h1; exact absurd h h1
  rename_i h1
  rw [if_neg h1]
  split at h
  · rename_i h2
    rw [if_pos h2]
    exact (RdI.of (by omega)).un hp
  · cases h
theorem tk_b8 {xs : List Int} (hb : B8 xs) (p : Nat) (e : Int) (n : Nat) : B8 (tk xs p e n).1 := by
  unfold tk
  split
  · intro x hx; cases hx
  split
  · exact take_byte (drop_byte hb _) _
  · intro x hx; cases hx
theorem rowI_byte {xs : List Int} (hb : B8 xs) (p : Nat) (r : Nat × Nat × Nat × Nat × Nat) : B8 (rowI xs p r).2 := by
  unfold rowI
  split
  · intro x hx; cases hx
  split
  · exact splI_byte (bcP_byte _ (udN_byte _ _ _ _)) (tk_b8 hb _ _ _) _ _ _
  · intro x hx; cases hx
theorem rowI_err (xs : List Int) (p : Nat) (r : Nat × Nat × Nat × Nat × Nat) : okE (rowI xs p r).1 := by
  unfold rowI
  split
  · show okE (rdE xs p r)
    unfold rdE rdEnd
    split
    · exact tkA_err _ _ _ (tkA_err _ _ _ (tkA_err _ _ _ ok0))
    split
    · exact ok4
    · exact ok0
  split
  · exact ok0
  · exact ok4
theorem fiI_le {xs : List Int} {m : Nat} (h : (fiI xs m).1 = 0) : (fiI xs m).2.length ≤ m := by
  unfold fiI at h ⊢
  split at h
  · rename_i h2; exact absurd h h2
  rename_i h2
  rw [if_neg h2]
  obtain ⟨hm, _, hn, _⟩ := blkA_zero (show (blkA xs m).1 = 0 by omega)
  have hbl := blkB_length hn
  split at h
  · cases h
  · rename_i r hw
    have hp := PcI.of hw
    have hall := hp.all
    unfold fiR at h
    split at h
    · rename_i h3; exact absurd h h3
    · rename_i h3
      unfold fiR
      rw [if_neg h3]
      have hl := rowI_len (xs := xs) (p := (blkT xs m).2.1) hp (by omega)
      simp only [List.length_append, List.length_take, List.length_drop, hl]
      unfold farI
      omega
theorem fiI_byte {xs : List Int} {m : Nat} (hb : ∀ x ∈ xs, 0 ≤ x ∧ x < 256) : ∀ x ∈ (fiI xs m).2, 0 ≤ x ∧ x < 256 := by
  unfold fiI
  split
  · simp
  split
  · simp
  · unfold fiR
    split
    · simp
    · exact all_append (take_byte (blkB_byte hb) _) (all_append (rowI_byte hb _ _) (drop_byte (blkB_byte hb) _))
theorem fiI_err {xs : List Int} {m : Nat} (hb : ∀ x ∈ xs, 0 ≤ x ∧ x < 256) : (fiI xs m).1 = 0 ∨ (fiI xs m).1 = 3 ∨ (fiI xs m).1 = 4 ∨ (fiI xs m).1 = 5 := by
  have h1 := blkA_err xs m hb
  unfold fiI
  split
  · exact h1
  split
  · exact .inr (.inr (.inl rfl))
  · rename_i r _
    have h2 := rowI_err xs (blkT xs m).2.1 r
    unfold okE at h2
    unfold fiR
    split
    · simp only []
      omega
    · exact .inl rfl
/-- Whatever the bytes are. -/
theorem iuC_total (xs : List Int) (most : Int) (hb : ∀ x ∈ xs, 0 ≤ x ∧ x < 256) :
    ((iuC xs most).1 = 0 ∧ (∀ x ∈ (iuC xs most).2, 0 ≤ x ∧ x < 256) ∧ ((iuC xs most).2.length : Int) ≤ max most 0 ∧ (iuC xs most).2.length ≤ 1048576) ∨ ((iuC xs most).2 = [] ∧ ((iuC xs most).1 = 3 ∨ (iuC xs most).1 = 4 ∨ (iuC xs most).1 = 5)) := by
  have hm := mst_le most
  have h1 := fiI_err (m := mst most) hb
  unfold iuC
  split
  · rename_i h0
    right
    refine ⟨rfl, ?_⟩
    simp only []
    omega
  · rename_i h0
    have hl := fiI_le (xs := xs) (m := mst most) (by omega)
    split
    · left
      refine ⟨rfl, fiI_byte hb, ?_, ?_⟩
      · simp only []; omega
      · simp only []; omega
    · exact .inr ⟨rfl, .inr (.inl rfl)⟩

end Go.Proofs.Ythfifpapkknodaa

/- What a range over an iterator keeps: blocks that are no cells, the iterator's boxes, results in cells. -/
namespace Go.Proofs.Ythfifpapkknodaa
open Go.RowKit Go.Shelf
set_option maxRecDepth 100000

attribute [local go_sem] Oper.semAt_some

/-- What a round keeps: the two boxes of the iterator. -/
def BoxesAt (B : Nat) (W W' : World) : Prop := W'.heap[B]? = W.heap[B]? ∧ W'.heap[B + 1]? = W.heap[B + 1]?

/-- A block that is no cells. -/
def NoCells (w : World) (k : Nat) : Prop := ∃ o, w.heap[k]? = some o ∧ o.isCells = false
theorem NoCells.lt {w : World} {k : Nat} (h : NoCells w k) : k < w.heap.size := by
  obtain ⟨o, ho, _⟩ := h
  exact (Array.getElem?_eq_some_iff.1 ho).1
theorem Blk.cells {w : World} {g : Nat} {t : TypeId} {cs : Array Value} (h : Blk w g t cs) : ¬ NoCells w g := by
  rintro ⟨o, ho, hc⟩
  unfold Blk at h
  rw [h] at ho
  cases ho
  cases hc
theorem Own.cells {w : World} {e : TypeId} {k : IntKind} {v : Value} {xs : List Int} {g : Nat} (h : Own w e k v xs) (hg : v.ownBlock = some g) : ¬ NoCells w g := by
  rintro ⟨o, ho, hc⟩
  rcases h.2 with ⟨rfl, _⟩ | ⟨g', cap, cur, rfl, _, hh, _⟩
  · cases hg
  · have e : g' = g := by simpa [Value.ownBlock] using hg
    subst e
    rw [hh] at ho
    cases ho
    cases hc
theorem KeepsFrom.of {S : Nat → Prop} {w w' : World} (B : Nat) (h : Kept S w w') (hS : ∀ k, S k → ¬ NoCells w k) : KeepsFrom B w w' :=
  ⟨h.size, fun k o _ ho hc => (h.block k (Array.getElem?_eq_some_iff.1 ho).1 (fun e => hS k e ⟨o, ho, hc⟩)).trans ho⟩
/-- The iterator's and the loop's own book-keeping. -/
theorem kept_of_grown {w w' : World} {row : Option Nat} (h : w.grownBy w' row) : Kept (fun k => row = some k) w w' := (Kept.refl _ _).grown h fun _ e _ => e
theorem boxes_t {B : Nat} {X Y Z : World} (h : BoxesAt B X Y) (h' : BoxesAt B Y Z) : BoxesAt B X Z := ⟨h'.1.trans h.1, h'.2.trans h.2⟩
theorem boxes_b {B : Nat} {w : World} (hB : B + 1 < w.heap.size) (W : World) (l : Nat) (o o' : Obj) (hl : w.heap.size ≤ l) (_ : W.heap[l]? = some o) (_ : o.isCells = false) (_ : o.isWalk = false) : BoxesAt B W (W.putObj l o') :=
  ⟨World.putObj_heap_other (by omega), World.putObj_heap_other (by omega)⟩

theorem wpListIn_make_zeros {F : Fence} {d : Nat} {P : Program} (w : World) {ops : Array Oper} {rest : List Oper} {o : Oper} {a : Act} {Q : Exit → Act → World → Prop}
    (hg : o.guard = none) (l c : Operand) (t : TypeId) (hop : o.op = Op.makeSlice t l c)
    (e : TypeId) (i : TypeInfo) (k : IntKind) (bytes : Nat) (h1 : P.underlying t = some (.slice e)) (h2 : P.info? e = some i) (h3 : i.zero = some (.int k 0)) (h4 : i.size = 1) (h5 : i.bytes = bytes)
    (kl kc : IntKind) (L C : Int) (n : Nat) (hl : a.eval l = .int kl L) (hc : a.eval c = .int kc C) (hL : L = (n : Int)) (hC : C = (n : Int)) (b2 : bytes * n ≤ 281474976710656) (b3 : n ≤ maxLen)
    (hK : ∀ w', Own w' e k (.slice (some ⟨w.heap.size, 0, none⟩) n n) (List.replicate n 0) → Fresh w w' → wpListIn F d P ops Q rest (a.put o.dst (.slice (some ⟨w.heap.size, 0, none⟩) n n)) w') :
    wpListIn F d P ops Q (o :: rest) a w := by
  refine wpListIn_plain hg fun K hK' => ?_
  obtain ⟨w', hrun, r1, r2⟩ := run_make_full (P := P) w 0 t e i (.int k 0) 1 h1 h2 h3 h4 kl kc n (by rw [h5]; exact b2) b3 (by omega)
  subst hL
  subst hC
  unfold Oper.wpIn
  refine ⟨?_, ?_⟩
  · simp [Oper.about, hop]
  · rw [Oper.semAt_plain F _ _ (by rw [hop]; intro c hc'; cases hc')]
    simp [execOp, hop, hl, hc, hrun, Result.andThen]
    refine hK' _ _ (hK w' ?_ ((Kept.refl _ _).grown r2 (fun k e _ => by cases e)))
    rw [Nat.mul_one, show (Value.int k 0).cells = #[Value.int k 0] from rfl, made_zeros] at r1
    unfold Own
    rw [List.length_replicate]
    exact r1

theorem Row.cells {w : World} {k : IntKind} {b o n : Nat} {xs : List Int} (h : Row w k (some ⟨b, o, none⟩) n xs) (h0 : 0 < n) : ¬ NoCells w b := by
  obtain ⟨b', o', e, _, hc⟩ := h.at_ 0 h0
  injection e with e
  injection e with e1 e2
  subst e1 e2
  obtain ⟨q, hq, hc2⟩ := cells_of_cell hc
  rintro ⟨q', hq', hc3⟩
  simp only [] at hq
  rw [hq] at hq'
  injection hq' with hq'
  subst hq'
  rw [hc2] at hc3
  cases hc3

/-- The two results are written, the rounds' deferred calls are shut. -/
theorem results_from {w W : World} {r D : Nat} {cs ds : Array Value} {t0 t1 : TypeId} (h0 : Blk W r t0 cs) (h1 : Blk W (r + 1) t1 ds) (hc : cs.size = 1) (hd : ds.size = 1) (hK : W.heap[D]? = some (.deferred (some []))) (hr : w.heap.size ≤ r) (hD : w.heap.size ≤ D) (hf : Fresh w W) (v : Value) (er : Int) :
    ((W.setCell ⟨r, 0, none⟩ v).setCell ⟨r + 1, 0, none⟩ (.int .i64 er)).heap[D]? = some (.deferred (some [])) ∧
    (((W.setCell ⟨r, 0, none⟩ v).setCell ⟨r + 1, 0, none⟩ (.int .i64 er)).putObj D (.deferred none)).cell? ⟨r, 0, none⟩ = some v ∧
    (((W.setCell ⟨r, 0, none⟩ v).setCell ⟨r + 1, 0, none⟩ (.int .i64 er)).putObj D (.deferred none)).cell? ⟨r + 1, 0, none⟩ = some (.int .i64 er) ∧
    Kept (fun k => k = r ∨ k = r + 1 ∨ k = D) W (((W.setCell ⟨r, 0, none⟩ v).setCell ⟨r + 1, 0, none⟩ (.int .i64 er)).putObj D (.deferred none)) ∧
    Fresh w (((W.setCell ⟨r, 0, none⟩ v).setCell ⟨r + 1, 0, none⟩ (.int .i64 er)).putObj D (.deferred none)) := by
  have n0 : D ≠ r := by
    rintro rfl
    exact h0.cells ⟨_, hK, rfl⟩
  have n1 : D ≠ r + 1 := by
    rintro rfl
    exact h1.cells ⟨_, hK, rfl⟩
  have k1 : Kept (fun k => k = r ∨ k = r + 1) W ((W.setCell ⟨r, 0, none⟩ v).setCell ⟨r + 1, 0, none⟩ (.int .i64 er)) :=
    ((Kept.refl _ _).setCell (p := ⟨r, 0, none⟩) (fun _ => .inl rfl) v).setCell (p := ⟨r + 1, 0, none⟩) (fun _ => .inr rfl) (.int .i64 er)
  have hK2 : ((W.setCell ⟨r, 0, none⟩ v).setCell ⟨r + 1, 0, none⟩ (.int .i64 er)).heap[D]? = some (.deferred (some [])) := (k1.block D (Array.getElem?_eq_some_iff.1 hK).1 (by omega)).trans hK
  have g0 := ((h0.set_ 0 v).far (p := ⟨r + 1, 0, none⟩) (by simp) (.int .i64 er)).kept (kept_of_grown (grownBy_putObj' _ D (.deferred none))) (fun e => by injection e with e; exact n0 e)
  have g1 := ((h1.far (p := ⟨r, 0, none⟩) (by simp) v).set_ 0 (.int .i64 er)).kept (kept_of_grown (grownBy_putObj' _ D (.deferred none))) (fun e => by injection e with e; exact n1 e)
  refine ⟨hK2, ?_, ?_, ?_, ?_⟩
  · rw [g0.cell 0]; simp [hc]
  · rw [g1.cell 0]; simp [hd]
  · exact (k1.mono (T := fun k => k = r ∨ k = r + 1 ∨ k = D) fun i _ e => by rcases e with e | e <;> simp [e]).trans (kept_of_grown (grownBy_putObj' _ D (.deferred none))) fun i _ e => by injection e with e; simp [e]
  · exact (hf.trans k1 fun i hi e => by omega).trans (kept_of_grown (grownBy_putObj' _ D (.deferred none))) fun i hi e => by injection e with e; omega

/-- .. that lie at the head of what is new. -/
theorem results_at {w W : World} {D : Nat} {cs ds : Array Value} {t0 t1 : TypeId} (h0 : Blk W w.heap.size t0 cs) (h1 : Blk W (w.heap.size + 1) t1 ds) (hc : cs.size = 1) (hd : ds.size = 1) (hK : W.heap[D]? = some (.deferred (some []))) (hD : w.heap.size ≤ D) (hf : Fresh w W) (v : Value) (er : Int) :
    ((W.setCell ⟨w.heap.size, 0, none⟩ v).setCell ⟨w.heap.size + 1, 0, none⟩ (.int .i64 er)).heap[D]? = some (.deferred (some [])) ∧
    (((W.setCell ⟨w.heap.size, 0, none⟩ v).setCell ⟨w.heap.size + 1, 0, none⟩ (.int .i64 er)).putObj D (.deferred none)).cell? ⟨w.heap.size, 0, none⟩ = some v ∧
    (((W.setCell ⟨w.heap.size, 0, none⟩ v).setCell ⟨w.heap.size + 1, 0, none⟩ (.int .i64 er)).putObj D (.deferred none)).cell? ⟨w.heap.size + 1, 0, none⟩ = some (.int .i64 er) ∧
    Kept (fun k => k = w.heap.size ∨ k = w.heap.size + 1 ∨ k = D) W (((W.setCell ⟨w.heap.size, 0, none⟩ v).setCell ⟨w.heap.size + 1, 0, none⟩ (.int .i64 er)).putObj D (.deferred none)) ∧
    Fresh w (((W.setCell ⟨w.heap.size, 0, none⟩ v).setCell ⟨w.heap.size + 1, 0, none⟩ (.int .i64 er)).putObj D (.deferred none)) := results_from h0 h1 hc hd hK (Nat.le_refl _) hD hf v er

end Go.Proofs.Ythfifpapkknodaa

/- slices.Chunk over bytes, rows of one width, and the iterator that it makes. -/
namespace Go.Proofs.Ythfifpapkknodaa
open Go.RowKit Go.Shelf
set_option maxRecDepth 100000

attribute [local go_sem] Oper.semAt_some

/-- Row j of the slice. -/
def rowAt (b o wd j : Nat) : Value := .slice (some ⟨b, o + j * wd, none⟩) wd wd

set_option maxHeartbeats 1000000 in
theorem chunkB_any (A : Option Addr) (n c wd : Nat) (w : World) (h : 1 ≤ wd) :
    Calls Try.prog 49 #[.slice A n c, .int .i64 wd] w fun e w' => e = .returned (.func (.func 74) #[] #[.pointer (some ⟨w.heap.size, 0, none⟩), .pointer (some ⟨w.heap.size + 1, 0, none⟩)]) ∧
      w' = (w.alloc (.cells #[.slice A n c] 22)).alloc (.cells #[.int .i64 wd] 3) := by
  have h0 : ¬ (wd : Int) < 1 := by omega
  go_enter Try.func49, Try.ntmps49
  go_wp2
  go_ret
  exact ⟨rfl, rfl⟩

set_option maxHeartbeats 2000000 in
/-- The iterator. -/
theorem chunkB1_in (m : Nat) (hm : 1 ≤ m) (l B b o n c wd R : Nat) (hwd : 1 ≤ wd) (hR : R * wd = n) (hnc : n ≤ c) (hn : n ≤ 4194304) (J Jx : List Nat → World → Prop) (hJ : ∀ s V, J s V → J s V.drew)
    (hY : ∀ x W, J (List.range x) W → x < R → YieldAt Fence.wide (m - 1) Try.prog l #[rowAt b o wd x] W fun e W' =>
      (e = .returned (.bool true) ∧ J (List.range x ++ [x]) W' ∧ BoxesAt B W W') ∨ (e = .returned (.bool false) ∧ Jx (List.range x ++ [x]) W'))
    (W : World) (h1 : Blk W B 22 #[.slice (some ⟨b, o, none⟩) n c]) (h2 : Blk W (B + 1) 3 #[.int .i64 wd]) (h0 : J [] W) :
    CallsIn Fence.wide m Try.prog 74 #[.func (.yield l) #[] #[], .pointer (some ⟨B, 0, none⟩), .pointer (some ⟨B + 1, 0, none⟩)] W fun e W' => (∃ v, e = .returned v) ∧
      ((∃ ys, ys = List.range R ∧ J ys W') ∨ (∃ pre, (∃ k, k ≤ R ∧ pre = List.range k) ∧ Jx pre W')) := by
  have n0 : (n : Int) ≤ 4194304 := by omega
  have n1 : (n : Int) ≤ (c : Int) := by omega
  have Hm : Hid (∀ k, k < R → k * wd + wd ≤ n) := Lib.hid fun k hk => by
    have := Nat.mul_le_mul_right wd (show k + 1 ≤ R from hk)
    rw [Nat.succ_mul] at this
    omega
  have HR := Lib.hid hR
  clear hR
  refine callsIn_of_wp Try.func74 rfl trivial ?_ rfl
  simp only [Try.ntmps74, List.size_toArray, List.length_cons, List.length_nil, Nat.reduceAdd, Nat.reduceSub, Array.replicate_succ, Array.replicate_zero, List.push_toArray, List.append_toArray, List.nil_append, List.cons_append]
  gi_wp2
  gi_loopw [4] (fun i wr => ∃ k P : Nat, k ≤ R ∧ P = k * wd ∧ i = .int .i64 (P : Int) ∧ J (List.range k) wr ∧ Blk wr B 22 #[.slice (some ⟨b, o, none⟩) n c] ∧ Blk wr (B + 1) 3 #[.int .i64 wd])
    (fun i _ => n + 1 - (intOf i).toNat)
  case atStart => exact ⟨0, 0, by omega, by simp, rfl, h0, h1, h2⟩
  case round =>
    obtain ⟨k, P, hk, hP, rfl, hJs, hb1, hb2⟩ := hrel
    have HP := Lib.hid hP
    clear hP
    have c1 := hb1.cell 0
    have c2 := hb2.cell 0
    simp only [List.getElem?_toArray, List.getElem?_cons_zero] at c1 c2
    by_cases hlt : k < R
    · have hPn : P + wd ≤ n := by rw [HP.out]; exact Hm.out k hlt
      obtain ⟨fn, tmps, assign, body, hy, hR⟩ := hY k wr.drew (hJ _ _ hJs) hlt
      unfold rowAt at hy
      rw [← HP.out] at hy
      have j0 : (P : Int) < (n : Int) := by omega
      have hmin : min (wd : Int) ((n - P : Nat) : Int) = (wd : Int) := by omega
      have hb1' := hb1.drew
      have hb2' := hb2.drew
      have c1' : wr.drew.cell? ⟨B, 0, none⟩ = some (.slice (some ⟨b, o, none⟩) n c) := c1
      have c2' : wr.drew.cell? ⟨B + 1, 0, none⟩ = some (.int .i64 wd) := c2
      have jm' : (P : Int) + (wd : Int) ≤ (n : Int) := by omega
      gi_wp2
      gi_region
      obtain ⟨Q, hQ⟩ : ∃ Q, Q = P + wd := ⟨_, rfl⟩
      have jt : (P : Int) + (wd : Int) = (Q : Int) := by omega
      have jw : IntKind.i64.wrap (Q : Int) = (Q : Int) := IntWalk.i64_in _ (by omega)
      have jd : Q - P = wd := by omega
      have jl : P ≤ Q := by omega
      have ju : Q ≤ n := by omega
      have HQ := Lib.hid hQ
      clear hQ
      gi_wp2
      refine hR.mono ?_
      rintro e W3 (⟨rfl, hJ3, hk3⟩ | ⟨rfl, hJx3⟩)
      · have hb1'' : Blk W3 B 22 #[.slice (some ⟨b, o, none⟩) n c] := hk3.1.trans hb1'
        have hb2'' : Blk W3 (B + 1) 3 #[.int .i64 wd] := hk3.2.trans hb2'
        have c2'' := hb2''.cell 0
        simp only [List.getElem?_toArray, List.getElem?_cons_zero] at c2''
        gi_wp2
        go_roundw
        case rel => exact ⟨k + 1, P + wd, by omega, by rw [Nat.succ_mul, HP.out], by go_num, by rw [List.range_succ]; exact hJ3, hb1'', hb2''⟩
        case measure => simp [intOf]; omega
      · gi_wp2
        refine bodyPost_ret (results_none rfl _ _ _) rfl ?_
        exact ⟨⟨_, rfl⟩, .inr ⟨_, ⟨k + 1, by omega, List.range_succ.symm⟩, hJx3⟩⟩
    · have hkR : k = R := by omega
      have hPn : P = n := by rw [HP.out, hkR, HR.out]
      have j0 : ¬ (P : Int) < (n : Int) := by omega
      gi_wp2
      go_end0
      exact ⟨⟨_, rfl⟩, .inl (hkR ▸ hJs)⟩

set_option maxHeartbeats 1000000 in
/-- Of no bytes: no round. -/
theorem chunkB0_in (m : Nat) (l B : Nat) (A : Option Addr) (c : Nat) (J : List Nat → World → Prop)
    (W : World) (h1 : Blk W B 22 #[.slice A 0 c]) (h0 : J [] W) :
    CallsIn Fence.wide m Try.prog 74 #[.func (.yield l) #[] #[], .pointer (some ⟨B, 0, none⟩), .pointer (some ⟨B + 1, 0, none⟩)] W fun e W' => (∃ v, e = .returned v) ∧ J [] W' := by
  refine callsIn_of_wp Try.func74 rfl trivial ?_ rfl
  simp only [Try.ntmps74, List.size_toArray, List.length_cons, List.length_nil, Nat.reduceAdd, Nat.reduceSub, Array.replicate_succ, Array.replicate_zero, List.push_toArray, List.append_toArray, List.nil_append, List.cons_append]
  have c1 := h1.cell 0
  simp only [List.getElem?_toArray, List.getElem?_cons_zero] at c1
  gi_wp2
  gi_loopw [4] (fun i wr => i = .int .i64 0 ∧ J [] wr ∧ Blk wr B 22 #[.slice A 0 c]) (fun _ _ => 0)
  case atStart => exact ⟨rfl, h0, h1⟩
  case round =>
    obtain ⟨rfl, hJs, hb⟩ := hrel
    have c1 := hb.cell 0
    simp only [List.getElem?_toArray, List.getElem?_cons_zero] at c1
    gi_wp2
    go_end0
    exact ⟨⟨_, rfl⟩, hJs⟩

/-- Where row j of the slice lies. -/
def rowOf (A : Option Addr) (wd j : Nat) : Value := .slice (A.map fun a => ⟨a.block, a.off + j * wd, none⟩) wd wd

/-- What Chunk hands back tells the rows, each by a number that may be. -/
theorem chunkB_stops (m : Nat) (hm : 1 ≤ m) (B : Nat) (A : Option Addr) (n c wd R : Nat) (hA : 0 < n → ∃ b o, A = some ⟨b, o, none⟩) (hwd : 1 ≤ wd) (hR : R * wd = n) (hnc : n ≤ c) (hn : n ≤ 4194304) (w : World)
    (h1 : Blk w B 22 #[.slice A n c]) (h2 : Blk w (B + 1) 3 #[.int .i64 wd]) :
    SeqStopsK Fence.wide m Try.prog 74 #[.pointer (some ⟨B, 0, none⟩), .pointer (some ⟨B + 1, 0, none⟩)] (fun j : Fin R => #[rowOf A wd j.val]) (BoxesAt B) (fun ys => ys.map Fin.val = List.range R)
      (fun pre => ∃ k, k ≤ R ∧ pre.map Fin.val = List.range k) R w := fun l J Jx W hW hJ _ hY h0 => by
  have g1 : Blk W B 22 #[.slice A n c] := (hW.block B h1.lt).trans h1
  have g2 : Blk W (B + 1) 3 #[.int .i64 wd] := (hW.block (B + 1) h2.lt).trans h2
  rcases Nat.eq_zero_or_pos n with h | h
  · subst h
    have hR0 : R = 0 := by
      rcases Nat.eq_zero_or_pos R with h3 | h3
      · exact h3
      · have := Nat.mul_pos h3 hwd; omega
    subst hR0
    exact (chunkB0_in m l B A c (fun s V => s = [] ∧ J [] V) W g1 ⟨rfl, h0⟩).mono fun e W' ⟨he, _, hj⟩ => ⟨he, .inl ⟨[], rfl, hj⟩⟩
  · obtain ⟨b, o, rfl⟩ := hA h
    refine (chunkB1_in m hm l B b o n c wd R hwd hR hnc hn (fun s V => ∃ s' : List (Fin R), s'.map Fin.val = s ∧ J s' V) (fun s V => ∃ s' : List (Fin R), s'.map Fin.val = s ∧ Jx s' V)
      (fun s V ⟨s', e, hs⟩ => ⟨s', e, hJ s' V V.drew none hs ⟨rfl, rfl, rfl, Nat.le_refl _, fun _ _ _ => rfl⟩ (fun r e => by cases e)⟩) (fun x V ⟨s', e, hs⟩ hx => ?_) W g1 g2 ⟨[], rfl, h0⟩).mono fun e W' ⟨he, hj⟩ => ⟨he, ?_⟩
    · have hl : s'.length < R := by
        have := congrArg List.length e
        rw [List.length_map, List.length_range] at this
        omega
      obtain ⟨fn, tmps, assign, body, hy, hR⟩ := hY s' ⟨x, hx⟩ V hs hl
      refine ⟨fn, tmps, assign, body, hy, hR.mono fun e2 W2 h => ?_⟩
      rcases h with ⟨a1, a2, a3⟩ | ⟨a1, a2⟩
      · exact .inl ⟨a1, ⟨_, by rw [List.map_append, e]; rfl, a2⟩, a3⟩
      · exact .inr ⟨a1, _, by rw [List.map_append, e]; rfl, a2⟩
    · rcases hj with ⟨ys, e, s', e2, hs⟩ | ⟨pre, ⟨k, hk, e⟩, s', e2, hs⟩
      · exact .inl ⟨s', e2.trans e, hs⟩
      · exact .inr ⟨s', ⟨k, hk, e2.trans e⟩, hs⟩

end Go.Proofs.Ythfifpapkknodaa

/- The document's guess, Row, Unrow, weight, Best of filters. -/
namespace Go.Proofs.Ythfifpapkknodaa
open Go.RowKit
set_option maxRecDepth 100000

attribute [local go_sem ↓] Go.wp_at_zero Go.wp_at_succ





end Go.Proofs.Ythfifpapkknodaa

/- Lists of numbers of 32 bits that are told, or laid; fresh worlds. -/
namespace Go.Proofs.Ythfifpapkknodaa
open Go.RowKit
set_option maxRecDepth 100000

theorem Row.laidF (w : World) (e : TypeId) (k : IntKind) (xs : List Int) : Row (w.alloc (.cells (ivs k xs).toArray e)) k (some ⟨w.heap.size, 0, none⟩) xs.length xs :=
  ⟨rfl, fun j hj => ⟨w.heap.size, 0, rfl, by simp, by
    rw [(Blk.new w e (ivs k xs).toArray).cell, Nat.zero_add, List.getElem?_toArray, ivs_get hj]⟩⟩
theorem I32.dec {l : List Int} (h : (l.all fun v => decide (-2147483648 ≤ v ∧ v < 2147483648)) = true) : I32 l := fun v hv => of_decide_eq_true (List.all_eq_true.1 h v hv)
/-- A list that reads as xs is told. -/
def RetRow (w w' : World) (e : Ending) (n : Nat) (xs : List Int) : Prop := ∃ B cB, e = .returned (.slice B n cB) ∧ Row w' .i32 B n xs ∧ Fresh w w'
theorem RetRow.of {w w' : World} {e : Ending} {n : Nat} {xs : List Int} (hn : xs.length = n) (h : ∃ u, e = .returned u ∧ NewRow w w' 21 .i32 u xs) : RetRow w w' e n xs := by
  obtain ⟨u, rfl, hu, _, hf⟩ := h
  obtain ⟨B, cB, rfl, hr, _⟩ := hu.row
  rw [hn] at hr
  rw [hn]
  exact ⟨B, cB, rfl, hr, hf⟩
theorem Fresh.two {a b c : World} (h : Fresh a b) (k : Fresh b c) : Fresh a c := h.trans k fun _ _ e => e
theorem Row.fresh {w w' : World} {k : IntKind} {A : Option Addr} {n : Nat} {xs : List Int} (h : Row w k A n xs) (hf : Fresh w w') : Row w' k A n xs := h.kept hf fun _ _ _ _ => id

end Go.Proofs.Ythfifpapkknodaa

/- The document's Best, Apply, Undo of filters. -/
namespace Go.Proofs.Ythfifpapkknodaa
open Go.RowKit
set_option maxRecDepth 100000

attribute [local go_sem ↓] Go.wp_at_zero Go.wp_at_succ


end Go.Proofs.Ythfifpapkknodaa

/- The document's Apply of filters. -/
namespace Go.Proofs.Ythfifpapkknodaa
open Go.RowKit
set_option maxRecDepth 100000

attribute [local go_sem ↓] Go.wp_at_zero Go.wp_at_succ

/-- May rows be turned? -/
def okA (wd p : Int) (n : Nat) : Prop := 1 ≤ wd ∧ wd ≤ 1048576 ∧ 1 ≤ p ∧ p ≤ 4 ∧ n ≤ 1048576 ∧ n % wd.toNat = 0
def okU (wd p : Int) (n : Nat) : Prop := 1 ≤ wd ∧ wd ≤ 1048576 ∧ 1 ≤ p ∧ p ≤ 4 ∧ n % (wd.toNat + 1) = 0 ∧ n - n / (wd.toNat + 1) ≤ 1048576



end Go.Proofs.Ythfifpapkknodaa

/- The document's Undo of filters. -/
namespace Go.Proofs.Ythfifpapkknodaa
open Go.RowKit
set_option maxRecDepth 100000

attribute [local go_sem ↓] Go.wp_at_zero Go.wp_at_succ

/-- What Undo tells where rows may be turned back. -/
def UdO (w w' : World) (e : Ending) (x : List Int) (wd n : Nat) : Prop :=
  (kndF x wd ∧ ∃ u, e = .returned (.tuple #[u, .int .i64 0]) ∧ NewRow w w' 5 .u8 u (udF x wd n)) ∨
  (¬ kndF x wd ∧ e = .returned (.tuple #[.slice none 0 0, .int .i64 4]) ∧ Fresh w w')


end Go.Proofs.Ythfifpapkknodaa

/- The document's Undo where rows may not be turned back. -/
namespace Go.Proofs.Ythfifpapkknodaa
open Go.RowKit
set_option maxRecDepth 100000

attribute [local go_sem ↓] Go.wp_at_zero Go.wp_at_succ


end Go.Proofs.Ythfifpapkknodaa

/- What the laws of filters ask of the code; awake. -/
namespace Go.Proofs.Ythfifpapkknodaa
open Go.RowKit
set_option maxRecDepth 100000

attribute [local go_sem ↓] Go.wp_at_zero Go.wp_at_succ

/-- What an int is. -/
def I64 (v : Int) : Prop := -9223372036854775808 ≤ v ∧ v ≤ 9223372036854775807
open Classical in
/-- What Apply tells. -/
noncomputable def apO (b : List Int) (wd p : Int) : List Int × Int := if okA wd p b.length then (apF b wd.toNat (plN p), 0) else ([], 1)
open Classical in
/-- What Undo tells. -/
noncomputable def udO (x : List Int) (wd p : Int) : List Int × Int := if okU wd p x.length then (if kndF x wd.toNat then (udF x wd.toNat (plN p), 0) else ([], 4)) else ([], 1)


/-- A list of bytes is told, with room; and one with an error. -/
def ToldB (w w' : World) (e : Ending) (n : Nat) (xs : List Int) : Prop := ∃ B cB, e = .returned (.slice B n cB) ∧ Row w' .u8 B n xs ∧ n ≤ cB ∧ Fresh w w'
def ToldE (w w' : World) (e : Ending) (xs : List Int) (er : Int) : Prop := ∃ B m cB, e = .returned (.tuple #[.slice B m cB, .int .i64 er]) ∧ Row w' .u8 B m xs ∧ m ≤ cB ∧ Fresh w w'
theorem ToldB.of {w w' : World} {e : Ending} {n : Nat} {xs : List Int} (hn : xs.length = n) (h : ∃ u, e = .returned u ∧ NewRow w w' 5 .u8 u xs) : ToldB w w' e n xs := by
  obtain ⟨u, rfl, hu, _, hf⟩ := h
  have hcap := hu
  obtain ⟨B, cB, rfl, hr, _⟩ := hu.row
  have hc := hcap.cap
  rw [hn] at hr hc
  rw [hn]
  exact ⟨B, cB, rfl, hr, hc, hf⟩
theorem ToldE.of {w w' : World} {e : Ending} {xs : List Int} {er : Int} (h : ∃ u, e = .returned (.tuple #[u, .int .i64 er]) ∧ NewRow w w' 5 .u8 u xs) : ToldE w w' e xs er := by
  obtain ⟨u, rfl, hu, _, hf⟩ := h
  have hcap := hu
  obtain ⟨B, cB, rfl, hr, _⟩ := hu.row
  exact ⟨B, _, cB, rfl, hr, hcap.cap, hf⟩
theorem ToldE.nil {w w' : World} {er : Int} (hf : Fresh w w') : ToldE w w' (.returned (.tuple #[.slice none 0 0, .int .i64 er])) [] er := ⟨none, 0, 0, rfl, Row.empty _ _ _, Nat.le_refl _, hf⟩



end Go.Proofs.Ythfifpapkknodaa

/- The code's bytes by their places, distances, Paeth, amounts, guesses, neighbours. -/
namespace Go.Proofs.Ythfifpapkknodaa
open Go.RowKit
set_option maxRecDepth 100000

attribute [local go_sem ↓] Go.wp_at_zero Go.wp_at_succ

/-- A guess out of what stands around; what stands around. -/
def gsx (k x y z : Int) : Int := if k = 1 then x else if k = 2 then y else if k = 3 then pae x y z else if k = 4 then (x + y) / 2 else 0
theorem gsx_ges (k : Int) (row up : List Int) (i n : Nat) : gsx k (ahd row i n) (up.getD i 0) (ahd up i n) = ges k row up i n := rfl
def nrv (row up : List Int) (i n : Nat) : Value := .agg #[.int .u8 (ahd row i n), .int .u8 (up.getD i 0), .int .u8 (ahd up i n)]

set_option maxHeartbeats 800000 in
theorem cAtF_any (A : Option Addr) (n c : Nat) (l : List Int) (i : Int) (w : World) (hr : Row w .u8 A n l) (_ : n ≤ 1000000000) :
    Calls Try.prog 101 #[.slice A n c, .int .i64 i] w fun e w' => e = .returned (.int .u8 (if i < 0 then 0 else l.getD i.toNat 0)) ∧ w = w' := by
  by_cases h0 : i < 0
  · rw [if_pos h0]
    clear hr
    go_enter Try.func101, Try.ntmps101
    go_wp2_with fail
    go_ret
    exact ⟨rfl, rfl⟩
  · rw [if_neg h0]
    by_cases h1 : i < (n : Int)
    · obtain ⟨k, rfl⟩ : ∃ k : Nat, i = k := ⟨i.toNat, by omega⟩
      rw [Int.toNat_natCast]
      obtain ⟨b, o, rfl, hb, hc⟩ := hr.at_ k (by omega)
      have k0 : (0 : Int) ≤ (k : Int) := by omega
      have k1 : ¬ (n : Int) ≤ (k : Int) := by omega
      generalize l.getD k 0 = v at *
      clear hr hb h0
      go_enter Try.func101, Try.ntmps101
      go_wp2_with fail
      go_ret
      exact ⟨rfl, rfl⟩
    · have hv : l.getD i.toNat 0 = 0 := by
        simp only [List.getD]
        rw [List.getElem?_eq_none (by rw [hr.len]; omega)]
        rfl
      have k1 : (n : Int) ≤ i := by omega
      rw [hv]
      clear hr hv
      go_enter Try.func101, Try.ntmps101
      go_wp2_with fail
      go_ret
      exact ⟨rfl, rfl⟩

set_option maxHeartbeats 800000 in
theorem cApartF_any (a b : Int) (w : World) (ha : -1000000 ≤ a ∧ a ≤ 1000000) (hb : -1000000 ≤ b ∧ b ≤ 1000000) : Calls Try.prog 103 #[.int .i64 a, .int .i64 b] w fun e w' => e = .returned (.int .i64 (max (a - b) (b - a))) ∧ w = w' := by
  go_enter Try.func103, Try.ntmps103
  go_wp2_with fail
  go_ret
  exact ⟨rfl, rfl⟩

set_option maxHeartbeats 800000 in
theorem cAmountF_any (v : Int) (w : World) (hv : 0 ≤ v ∧ v < 256) : Calls Try.prog 96 #[.int .u8 v] w fun e w' => e = .returned (.int .u64 (wgb v : Nat)) ∧ w = w' := by
  by_cases h : 128 < v
  · have hg : ((wgb v : Nat) : Int) = 256 - v := by unfold wgb; rw [if_pos h]; omega
    rw [hg]
    clear hg
    go_enter Try.func96, Try.ntmps96
    go_wp2_with fail
    go_ret
    exact ⟨rfl, rfl⟩
  · have hg : ((wgb v : Nat) : Int) = v := by unfold wgb; rw [if_neg h]; omega
    rw [hg]
    clear hg
    go_enter Try.func96, Try.ntmps96
    go_wp2_with fail
    go_ret
    exact ⟨rfl, rfl⟩

set_option maxHeartbeats 800000 in
/-- The field of a row. -/
theorem cField_any (A : Option Addr) (n c : Nat) (B : Option Addr) (m d : Nat) (p : Int) (w : World) :
    Calls Try.prog 76 #[.slice A n c, .slice B m d, .int .i64 p] w fun e w' => e = .returned (.agg #[.slice A n c, .slice B m d, .int .i64 (plN p : Nat)]) ∧ Fresh w w' := by
  rw [(plN_in p).2]
  go_enter Try.func76, Try.ntmps76
  go_wp2_with fail
  exact bodyPost_ret (v := .agg #[.slice A n c, .slice B m d, .int .i64 (max p 1)]) (by simp [results, Try.results76, go_sem]) rfl ⟨rfl, (Kept.refl _ _).alloc _⟩

set_option maxHeartbeats 800000 in
/-- The nearest of three: P17.1. -/
theorem cPaethF_any (a b c : Int) (w : World) (ha : 0 ≤ a ∧ a < 256) (hb : 0 ≤ b ∧ b < 256) (hc : 0 ≤ c ∧ c < 256) :
    Calls Try.prog 102 #[.int .u8 a, .int .u8 b, .int .u8 c] w fun e w' => e = .returned (.int .u8 (pae a b c)) ∧ w = w' := by
  have HA : Hid (∀ v : Int, 0 ≤ v ∧ v < 256 → Calls Try.prog 103 #[.int .i64 (a + b - c), .int .i64 v] w fun e w' => e = .returned (.int .i64 (amt (a + b - c - v))) ∧ w = w') := Lib.hid fun v hv => by
    have := cApartF_any (a + b - c) v w (by omega) (by omega)
    rwa [show max (a + b - c - v) (v - (a + b - c)) = amt (a + b - c - v) from by unfold amt; omega] at this
  have H1 := Lib.hid (HA.out a ha)
  have H2 := Lib.hid (HA.out b hb)
  have H3 := Lib.hid (HA.out c hc)
  obtain ⟨N, hN⟩ : ∃ N, N = if amt (a + b - c - b) < amt (a + b - c - a) then b else a := ⟨_, rfl⟩
  have HM := Lib.hid (HA.out N (by rw [hN]; split <;> assumption))
  have hN0 : 0 ≤ N ∧ N < 256 := by rw [hN]; split <;> assumption
  have Hp : Hid (pae a b c = if amt (a + b - c - c) < amt (a + b - c - N) then c else N) := Lib.hid (by
    rw [hN]
    unfold pae
    generalize hx : amt (a + b - c - a) = x at *
    generalize hy : amt (a + b - c - b) = y at *
    generalize amt (a + b - c - c) = z at *
    by_cases h1 : y < x
    · rw [if_pos h1, if_neg (by omega), hy]
      by_cases h2 : z < y
      · rw [if_neg (by omega), if_pos h2]
      · rw [if_pos (by omega), if_neg h2]
    · rw [if_neg h1, hx]
      by_cases h2 : z < x
      · rw [if_neg (by omega), if_neg (by omega), if_pos h2]
      · rw [if_pos (by omega), if_neg h2])
  rw [Hp.out]
  have HN := Lib.hid hN
  clear Hp HA hN
  have x0 : ∀ w, (Instr.index 132 (.agg #[.int .u8 b, .int .u8 c]) (.int .i64 0)).run Try.prog w = .ok (.int .u8 b) w := fun _ => by kernel_rfl
  have x1 : ∀ w, (Instr.index 132 (.agg #[.int .u8 b, .int .u8 c]) (.int .i64 1)).run Try.prog w = .ok (.int .u8 c) w := fun _ => by kernel_rfl
  have hsum : 0 ≤ a + b ∧ a + b ≤ 510 ∧ -255 ≤ a + b - c ∧ a + b - c ≤ 510 := by omega
  generalize amt (a + b - c - a) = x at *
  generalize amt (a + b - c - b) = y at *
  generalize amt (a + b - c - c) = z at *
  generalize amt (a + b - c - N) = u at *
  have HN1 : Hid (y < x → N = b) := Lib.hid fun h => by rw [HN.out, if_pos h]
  have HN2 : Hid (x ≤ y → N = a) := Lib.hid fun h => by rw [HN.out, if_neg (by omega)]
  obtain ⟨R, hR⟩ : ∃ R, R = if z < u then c else N := ⟨_, rfl⟩
  rw [← hR]
  have HR1 : Hid (z < u → R = c) := Lib.hid fun h => by rw [hR, if_pos h]
  have HR2 : Hid (u ≤ z → R = N) := Lib.hid fun h => by rw [hR, if_neg (by omega)]
  clear hR
  go_enter Try.func102, Try.ntmps102
  go_wp2_with fail
  go_loopw [23, 8] (fun i v wr => wr = w ∧ ((i = .int .i64 0 ∧ v = .int .u8 a) ∨ (i = .int .i64 1 ∧ v = .int .u8 N) ∨ (i = .int .i64 2 ∧ v = .int .u8 R))) (fun i _ _ => (2 - intOf i).toNat)
  case atStart => exact ⟨rfl, .inl ⟨rfl, rfl⟩⟩
  case round =>
    obtain ⟨rfl, ⟨rfl, rfl⟩ | ⟨rfl, rfl⟩ | ⟨rfl, rfl⟩⟩ := hrel
    · by_cases h1 : y < x
      · have HE := Lib.hid (HN1.out h1)
        go_wp2_with fail
        refine H2.out.mono ?_
        rintro e w1 ⟨rfl, rfl⟩
        go_wp2_with fail
        refine H1.out.mono ?_
        rintro e w1 ⟨rfl, rfl⟩
        go_wp2_with fail
        go_roundw
        case rel => exact ⟨trivial, .inr (.inl ⟨rfl, by rw [HE.out]⟩)⟩
        case measure => simp [intOf]
      · have HE := Lib.hid (HN2.out (by omega))
        go_wp2_with fail
        refine H2.out.mono ?_
        rintro e w1 ⟨rfl, rfl⟩
        go_wp2_with fail
        refine H1.out.mono ?_
        rintro e w1 ⟨rfl, rfl⟩
        go_wp2_with fail
        go_roundw
        case rel => exact ⟨trivial, .inr (.inl ⟨rfl, by rw [HE.out]⟩)⟩
        case measure => simp [intOf]
    · by_cases h1 : z < u
      · have HE := Lib.hid (HR1.out h1)
        go_wp2_with fail
        refine H3.out.mono ?_
        rintro e w1 ⟨rfl, rfl⟩
        go_wp2_with fail
        refine HM.out.mono ?_
        rintro e w1 ⟨rfl, rfl⟩
        go_wp2_with fail
        go_roundw
        case rel => exact ⟨trivial, .inr (.inr ⟨rfl, by rw [HE.out]⟩)⟩
        case measure => simp [intOf]
      · have HE := Lib.hid (HR2.out (by omega))
        go_wp2_with fail
        refine H3.out.mono ?_
        rintro e w1 ⟨rfl, rfl⟩
        go_wp2_with fail
        refine HM.out.mono ?_
        rintro e w1 ⟨rfl, rfl⟩
        go_wp2_with fail
        go_roundw
        case rel => exact ⟨trivial, .inr (.inr ⟨rfl, by rw [HE.out]⟩)⟩
        case measure => simp [intOf]
    · go_wp2_with fail
      go_ret
      exact ⟨rfl, rfl⟩

set_option maxHeartbeats 1600000 in
/-- The guess out of what stands around. -/
theorem cGuessF_any (k x y z : Int) (w : World) (hx : 0 ≤ x ∧ x < 256) (hy : 0 ≤ y ∧ y < 256) (hz : 0 ≤ z ∧ z < 256) :
    Calls Try.prog 97 #[.agg #[.int .u8 x, .int .u8 y, .int .u8 z], .int .i64 k] w fun e w' => e = .returned (.int .u8 (gsx k x y z)) ∧ Fresh w w' := by
  have HP := Lib.hid (cPaethF_any x y z (w.alloc (.cells #[.int .u8 x, .int .u8 y, .int .u8 z] 127)) hx hy hz)
  unfold gsx
  have hk : k = 1 ∨ k = 2 ∨ k = 3 ∨ k = 4 ∨ ((k == 1) = false ∧ (k == 2) = false ∧ (k == 3) = false ∧ (k == 4) = false) := by
    simp only [beq_eq_false_iff_ne]
    omega
  rcases hk with rfl | rfl | rfl | rfl | ⟨b1, b2, b3, b4⟩
  · rw [if_pos rfl]
    clear HP
    go_enter Try.func97, Try.ntmps97
    go_wp2_with fail
    go_ret
    exact ⟨rfl, (Kept.refl _ _).alloc _⟩
  · rw [if_neg (by decide), if_pos rfl]
    clear HP
    go_enter Try.func97, Try.ntmps97
    go_wp2_with fail
    go_ret
    exact ⟨rfl, (Kept.refl _ _).alloc _⟩
  · rw [if_neg (by decide), if_neg (by decide), if_pos rfl]
    go_enter Try.func97, Try.ntmps97
    go_wp2_with fail
    refine HP.out.mono ?_
    rintro e w1 ⟨rfl, rfl⟩
    go_wp2_with fail
    go_ret
    exact ⟨rfl, (Kept.refl _ _).alloc _⟩
  · rw [if_neg (by decide), if_neg (by decide), if_neg (by decide), if_pos rfl]
    have hxy : (0 : Int) ≤ x + y ∧ x + y ≤ 510 := by omega
    clear HP
    go_enter Try.func97, Try.ntmps97
    go_wp2_with fail
    go_ret
    exact ⟨rfl, (Kept.refl _ _).alloc _⟩
  · rw [if_neg (by simpa using b1), if_neg (by simpa using b2), if_neg (by simpa using b3), if_neg (by simpa using b4)]
    clear HP
    go_enter Try.func97, Try.ntmps97
    go_wp2_with fail
    go_ret
    exact ⟨rfl, (Kept.refl _ _).alloc _⟩

end Go.Proofs.Ythfifpapkknodaa

/- What stands around a byte: the code's. -/
namespace Go.Proofs.Ythfifpapkknodaa
open Go.RowKit
set_option maxRecDepth 100000

attribute [local go_sem ↓] Go.wp_at_zero Go.wp_at_succ

set_option maxHeartbeats 1600000 in
/-- What stands around a byte. -/
theorem cAroundF_any (A : Option Addr) (n c : Nat) (row : List Int) (B : Option Addr) (m d : Nat) (up : List Int) (q i : Nat) (w : World)
    (ha : Row w .u8 A n row) (hb : Row w .u8 B m up) (hn : n ≤ 16777216) (hm : m ≤ 16777216) (hi : i ≤ 16777216) (hq : q ≤ 9223372036854775807) :
    Calls Try.prog 95 #[.agg #[.slice A n c, .slice B m d, .int .i64 q], .int .i64 i] w fun e w' => e = .returned (nrv row up i q) ∧ Fresh w w' := by
  have HA : Hid (∀ V, Fresh w V → Calls Try.prog 101 #[.slice A n c, .int .i64 ((i : Int) - (q : Int))] V fun e w' => e = .returned (.int .u8 (ahd row i q)) ∧ V = w') := Lib.hid fun V hV => by
    have := cAtF_any A n c row ((i : Int) - (q : Int)) V (ha.fresh hV) (by omega)
    rwa [of_ahd] at this
  have HB : Hid (∀ V, Fresh w V → Calls Try.prog 101 #[.slice B m d, .int .i64 (i : Int)] V fun e w' => e = .returned (.int .u8 (up.getD i 0)) ∧ V = w') := Lib.hid fun V hV => by
    have := cAtF_any B m d up (i : Int) V (hb.fresh hV) (by omega)
    rwa [if_neg (by omega), Int.toNat_natCast] at this
  have HD : Hid (∀ V, Fresh w V → Calls Try.prog 101 #[.slice B m d, .int .i64 ((i : Int) - (q : Int))] V fun e w' => e = .returned (.int .u8 (ahd up i q)) ∧ V = w') := Lib.hid fun V hV => by
    have := cAtF_any B m d up ((i : Int) - (q : Int)) V (hb.fresh hV) (by omega)
    rwa [of_ahd] at this
  have hw : IntKind.i64.wrap ((i : Int) - (q : Int)) = (i : Int) - (q : Int) := IntWalk.i64_in _ (by omega)
  clear hi hq hn hm
  unfold nrv
  generalize ahd row i q = x at *
  generalize up.getD i 0 = y at *
  generalize ahd up i q = z at *
  clear ha hb
  go_enter Try.func95, Try.ntmps95
  go_wp2_with fail
  obtain ⟨W1, hW1⟩ : ∃ W1, W1 = (w.alloc (.cells #[.slice A n c, .slice B m d, .int .i64 q] 112)).alloc (.cells #[.int .u8 0, .int .u8 0, .int .u8 0] 127) := ⟨_, rfl⟩
  have b0 : Blk W1 w.heap.size 112 #[.slice A n c, .slice B m d, .int .i64 q] := by rw [hW1]; exact (Blk.new _ _ _).alloc _
  have b1 : Blk W1 (w.heap.size + 1) 127 #[.int .u8 0, .int .u8 0, .int .u8 0] := by
    rw [hW1]
    have := Blk.new (w.alloc (.cells #[.slice A n c, .slice B m d, .int .i64 q] 112)) 127 #[.int .u8 0, .int .u8 0, .int .u8 0]
    rwa [World.size_alloc] at this
  have hf : Fresh w W1 := by rw [hW1]; exact ((Kept.refl _ _).alloc _).alloc _
  rw [← hW1]
  clear hW1
  refine wp_region_still_tail 23 (by kernel_rfl) (by kernel_rfl) ?_
  change wpStill _ _ W1.drew (fun a' => wpList _ _ _ _ a' W1.drew) _ _
  have b0 := b0.drew
  have b1 := b1.drew
  have hf := hf.drew
  generalize W1.drew = V at *
  have c0 := (b0.cell 0).trans (show _ = some (Value.slice A n c) from rfl)
  have c1 := (b0.cell 1).trans (show _ = some (Value.slice B m d) from rfl)
  have c2 := (b0.cell 2).trans (show _ = some (Value.int .i64 q) from rfl)
  have HF := Lib.hid (And.intro b1 hf)
  clear b0 b1 hf
  simp only [List.take_succ_cons, List.take_zero, List.drop_succ_cons, List.drop_zero]
  still_step
  iterate 6 still_step
  still_call ((HA.out V HF.out.2).mono fun _ _ h => ⟨h.1, h.2.symm⟩)
  iterate 4 still_step
  still_call ((HB.out V HF.out.2).mono fun _ _ h => ⟨h.1, h.2.symm⟩)
  iterate 8 still_step
  still_call ((HD.out V HF.out.2).mono fun _ _ h => ⟨h.1, h.2.symm⟩)
  still_step
  refine wpStill_nil ?_
  have f1 := HF.out.1.frozen 0
  have k0 := (HF.out.1.cell 0).trans (show _ = some (Value.int .u8 0) from rfl)
  have k1 := (HF.out.1.cell 1).trans (show _ = some (Value.int .u8 0) from rfl)
  have k2 := (HF.out.1.cell 2).trans (show _ = some (Value.int .u8 0) from rfl)
  have f2 := HF.out.1.frozen 1
  have f3 := HF.out.1.frozen 2
  go_wp2_with fail
  refine bodyPost_ret (v := .agg #[.int .u8 x, .int .u8 y, .int .u8 z]) (by simp [results, Try.results95, go_sem, k0, k1, k2]) rfl ⟨rfl, ?_⟩
  exact (((HF.out.2.setCell (p := ⟨w.heap.size + 1, 0, none⟩) (fun e => absurd e (by simp)) _).setCell (p := ⟨w.heap.size + 1, 1, none⟩) (fun e => absurd e (by simp)) _).setCell (p := ⟨w.heap.size + 1, 2, none⟩) (fun e => absurd e (by simp)) _)

/-- Bytes put into a list from a place on. -/
def spl (xs : List Int) (o : Nat) (ys : List Int) : List Int := xs.take o ++ ys ++ xs.drop (o + ys.length)
theorem spl_length {xs ys : List Int} {o : Nat} (h : o + ys.length ≤ xs.length) : (spl xs o ys).length = xs.length := by
  unfold spl
  simp only [List.length_append, List.length_take, List.length_drop]
  omega
theorem spl_nil (xs : List Int) (o : Nat) : spl xs o [] = xs := by simp [spl]
theorem spl_set {xs ys : List Int} {o : Nat} (h : o + ys.length < xs.length) (v : Int) : (spl xs o ys).set (o + ys.length) v = spl xs o (ys ++ [v]) := by
  have hl : (xs.take o ++ ys).length = o + ys.length := by simp only [List.length_append, List.length_take]; omega
  unfold spl
  rw [List.set_append_right _ _ (by omega), hl, Nat.sub_self, List.drop_eq_getElem_cons h, List.set_cons_zero, List.length_append, List.append_assoc, List.append_assoc, List.append_assoc]
  rfl
theorem spl_mid {xs ys : List Int} {o i : Nat} (ho : o ≤ xs.length) (h : i < ys.length) : (spl xs o ys).getD (o + i) 0 = ys.getD i 0 := by
  have hl : (xs.take o).length = o := by rw [List.length_take]; omega
  unfold spl
  simp only [List.getD]
  rw [List.append_assoc, List.getElem?_append_right (by omega), hl, Nat.add_sub_cancel_left, List.getElem?_append_left h]
theorem spl_low {xs ys : List Int} {o i : Nat} (ho : o ≤ xs.length) (h : i < o) : (spl xs o ys).getD i 0 = xs.getD i 0 := by
  have hl : (xs.take o).length = o := by rw [List.length_take]; omega
  unfold spl
  simp only [List.getD]
  rw [List.append_assoc, List.getElem?_append_left (by omega), List.getElem?_take_of_lt h]
theorem spl_all {xs ys : List Int} (h : ys.length = xs.length) : spl xs 0 ys = ys := by simp [spl, h]

set_option maxHeartbeats 1600000 in
/-- A row, each byte less its guess, into other bytes. -/
theorem cTurnF_any (A : Option Addr) (n c : Nat) (l : List Int) (B : Option Addr) (m d : Nat) (up : List Int) (k : Int) (q g o N C cap : Nat) (xs : List Int) (w : World)
    (hr : Row w .u8 A n l) (hb : Row w .u8 B m up) (h1 : B8 l) (h2 : B8 up) (hn : n ≤ 16777216) (hm : m ≤ 16777216) (hq : q ≤ 9223372036854775807)
    (hx : Own w 5 .u8 (.slice (some ⟨g, 0, none⟩) N C) xs) (hxl : xs.length = N) (hon : o + n ≤ N) (hcap : n ≤ cap)
    (hA : ∀ b o', A = some ⟨b, o', none⟩ → 0 < n → b ≠ g) (hB : ∀ b o', B = some ⟨b, o', none⟩ → 0 < m → b ≠ g) :
    Calls Try.prog 78 #[.agg #[.slice A n c, .slice B m d, .int .i64 q], .int .i64 k, .slice (some ⟨g, o, none⟩) n cap] w fun e w' =>
      e = .returned (.tuple #[]) ∧ Kept (fun i => i = g) w w' ∧ Own w' 5 .u8 (.slice (some ⟨g, 0, none⟩) N C) (spl xs o (rowF k l up q)) := by
  obtain rfl := hr.len
  have hgl := hx.lt (g := g) rfl
  have HR : Hid (∀ V, Kept (fun i => i = g) w V → Row V .u8 A l.length l ∧ Row V .u8 B m up) := Lib.hid fun V hV => ⟨hr.kept hV hA, hb.kept hV hB⟩
  have HQ := Lib.hid (And.intro hq (And.intro hn hm))
  have H8 := Lib.hid (And.intro h1 h2)
  have HX := Lib.hid (And.intro hx (And.intro hxl hon))
  clear hr hb hA hB h1 h2 hq hx hxl hon hm
  go_enter Try.func78, Try.ntmps78
  go_wp2_with fail
  go_loopw [11] (fun i wr => ∃ j : Nat, j ≤ l.length ∧ i = .int .i64 j ∧ Blk wr w.heap.size 112 #[.slice A l.length c, .slice B m d, .int .i64 q] ∧ Kept (fun i => i = g) w wr ∧ Own wr 5 .u8 (.slice (some ⟨g, 0, none⟩) N C) (spl xs o (tn j fun i => (l.getD i 0 - ges k l up i q) % 256))) (fun i _ => (l.length - intOf i).toNat)
  case atStart => exact ⟨0, by omega, rfl, Blk.new _ _ _, (Kept.refl _ _).alloc _, by rw [show tn 0 _ = [] from rfl, spl_nil]; exact HX.out.1.alloc _⟩
  case round =>
    obtain ⟨j, hj, rfl, hb, hk, ho⟩ := hrel
    have c0 := (hb.cell 0).trans (show _ = some (Value.slice A l.length c) from rfl)
    have c1 := (hb.cell 1).trans (show _ = some (Value.slice B m d) from rfl)
    have c2 := (hb.cell 2).trans (show _ = some (Value.int .i64 q) from rfl)
    by_cases hlt : j < l.length
    · obtain ⟨hrow, hup⟩ := HR.out wr hk
      obtain ⟨b, o2, rfl, hbw, hc⟩ := hrow.at_ j hlt
      have HA := Lib.hid (cAroundF_any (some ⟨b, o2, none⟩) l.length c l B m d up q j wr hrow hup HQ.out.2.1 HQ.out.2.2 (by omega) HQ.out.1)
      have gin := ges_in H8.out.1 H8.out.2 k j q
      have gs := gsx_ges k l up j q
      have ax := ahd_in H8.out.1 j q
      have az := ahd_in H8.out.2 j q
      have ay := H8.out.2.at_ j
      have hv := H8.out.1.at_ j
      have hlen := tn_length j fun i => (l.getD i 0 - ges k l up i q) % 256
      have Hs : Hid ((tn (j + 1) fun i => (l.getD i 0 - ges k l up i q) % 256) = (tn j fun i => (l.getD i 0 - ges k l up i q) % 256) ++ [(l.getD j 0 - ges k l up j q) % 256]) := Lib.hid (tn_succ _ _)
      have HL := Lib.hid hlen
      unfold nrv at HA
      generalize (tn j fun i => (l.getD i 0 - ges k l up i q) % 256) = ys at *
      generalize ahd l j q = x at *
      generalize up.getD j 0 = y at *
      generalize ahd up j q = z at *
      generalize ges k l up j q = s at *
      generalize l.getD j 0 = v at *
      subst gs
      have HG : Hid (∀ V, Calls Try.prog 97 #[.agg #[.int .u8 x, .int .u8 y, .int .u8 z], .int .i64 k] V fun e w' => e = .returned (.int .u8 (gsx k x y z)) ∧ Fresh V w') := Lib.hid fun V => cGuessF_any k x y z V ax ay az
      generalize gsx k x y z = s at *
      have HH := Lib.hid (And.intro hb (And.intro hk ho))
      have hjj : (j : Int) < (l.length : Int) := by omega
      clear hrow hup hb hk ho ax ay az hlen
      go_wp2_with fail
      refine HA.out.mono ?_
      rintro e w1 ⟨rfl, hf1⟩
      have HF1 := Lib.hid hf1
      clear hf1
      go_wp2_with fail
      refine (HG.out w1).mono ?_
      rintro e w2 ⟨rfl, hf2⟩
      have hf12 := HF1.out.trans hf2 (fun _ _ e => e)
      have ho2 := HH.out.2.2.kept hf12 (fun _ _ => id)
      have hsl : (spl xs o ys).length = N := by rw [spl_length (by rw [HL.out, HX.out.2.1]; have := HX.out.2.2; omega), HX.out.2.1]
      have hco := ho2.cellN hsl (j := o + j) (by have := HX.out.2.2; omega)
      have hfo := ho2.frozenN hsl (o + j)
      have HO := Lib.hid (And.intro ho2 (And.intro hsl hf12))
      generalize (spl xs o ys).getD (o + j) 0 = old at *
      clear hf12 ho2 hsl hf2
      go_wp2_with fail
      go_roundw
      case rel =>
        refine ⟨j + 1, by omega, by go_num, ?_, ?_, ?_⟩
        · exact (HH.out.1.kept HO.out.2.2 id).far (p := ⟨g, o + j, none⟩) (by simp; omega) _
        · exact (HH.out.2.1.trans HO.out.2.2 (fun _ _ e => e.elim)).setCell (p := ⟨g, o + j, none⟩) (fun _ => rfl) _
        · rw [Hs.out, ← spl_set (by rw [HL.out, HX.out.2.1]; have := HX.out.2.2; omega), HL.out]
          exact HO.out.1.storeN HO.out.2.1 _ _
      case measure => simp [intOf]; omega
    · obtain rfl : j = l.length := by omega
      have HH := Lib.hid (And.intro hk ho)
      clear hb hk ho
      go_wp2_with fail
      go_end0
      exact ⟨rfl, HH.out⟩

end Go.Proofs.Ythfifpapkknodaa

/- A row out of what was turned: the code's. -/
namespace Go.Proofs.Ythfifpapkknodaa
open Go.RowKit
set_option maxRecDepth 100000

attribute [local go_sem ↓] Go.wp_at_zero Go.wp_at_succ

set_option maxHeartbeats 1600000 in
/-- A row out of what was turned, into bytes; the row ahead may lie in them. -/
theorem cFillF_any (A : Option Addr) (n c : Nat) (l : List Int) (B : Option Addr) (m d : Nat) (up : List Int) (k : Int) (q g o N C cap : Nat) (xs : List Int) (w : World)
    (hr : Row w .u8 A n l) (h1 : B8 l) (h2 : B8 up) (hn : n ≤ 16777216) (hm : m ≤ 16777216) (hq1 : 1 ≤ q) (hq : q ≤ 9223372036854775807)
    (hx : Own w 5 .u8 (.slice (some ⟨g, 0, none⟩) N C) xs) (hxl : xs.length = N) (hon : o + n ≤ N) (hcap : n ≤ cap)
    (hA : ∀ b o', A = some ⟨b, o', none⟩ → 0 < n → b ≠ g) (hB : ∀ V ys, Kept (fun i => i = g) w V → ys.length ≤ n → Own V 5 .u8 (.slice (some ⟨g, 0, none⟩) N C) (spl xs o ys) → Row V .u8 B m up) :
    Calls Try.prog 99 #[.agg #[.slice (some ⟨g, o, none⟩) n cap, .slice B m d, .int .i64 q], .int .i64 k, .slice A n c] w fun e w' =>
      e = .returned (.tuple #[]) ∧ Kept (fun i => i = g) w w' ∧ Own w' 5 .u8 (.slice (some ⟨g, 0, none⟩) N C) (spl xs o (unF k l up q)) := by
  obtain rfl := hr.len
  have hgl := hx.lt (g := g) rfl
  have HR : Hid (∀ V, Kept (fun i => i = g) w V → Row V .u8 A l.length l) := Lib.hid fun V hV => hr.kept hV hA
  have HQ := Lib.hid (And.intro hq (And.intro hn hm))
  have HU := Lib.hid hB
  have H8 := Lib.hid (And.intro h1 h2)
  have HX := Lib.hid (And.intro hx (And.intro hxl hon))
  clear hr hB hA h1 h2 hq hx hxl hon hm
  go_enter Try.func99, Try.ntmps99
  go_wp2_with fail
  go_loopw [10] (fun i wr => ∃ j : Nat, j ≤ l.length ∧ i = .int .i64 j ∧ Blk wr w.heap.size 112 #[.slice (some ⟨g, o, none⟩) l.length cap, .slice B m d, .int .i64 q] ∧ Kept (fun i => i = g) w wr ∧ Own wr 5 .u8 (.slice (some ⟨g, 0, none⟩) N C) (spl xs o (unN k l up q j))) (fun i _ => (l.length - intOf i).toNat)
  case atStart => exact ⟨0, by omega, rfl, Blk.new _ _ _, (Kept.refl _ _).alloc _, by rw [show unN k l up q 0 = [] from rfl, spl_nil]; exact HX.out.1.alloc _⟩
  case round =>
    obtain ⟨j, hj, rfl, hb, hk, ho⟩ := hrel
    by_cases hlt : j < l.length
    · have hlen := unN_length k l up q j
      have hup := HU.out wr _ hk (by omega) ho
      have hsl : (spl xs o (unN k l up q j)).length = N := by rw [spl_length (by rw [hlen, HX.out.2.1]; have := HX.out.2.2; omega), HX.out.2.1]
      obtain ⟨b, o2, rfl, hbw, hc⟩ := (HR.out wr hk).at_ j hlt
      have hrow : Row wr .u8 (some ⟨g, o, none⟩) l.length (((spl xs o (unN k l up q j)).drop o).take l.length) := by
        refine ⟨by rw [List.length_take, List.length_drop, hsl]; have := HX.out.2.2; omega, fun i hi => ⟨g, o, rfl, ho.lt rfl, ?_⟩⟩
        rw [ho.cellN hsl (j := o + i) (by have := HX.out.2.2; omega)]
        simp only [List.getD]
        rw [List.getElem?_take_of_lt hi, List.getElem?_drop]
      have hcg : ahd (((spl xs o (unN k l up q j)).drop o).take l.length) j q = ahd (unN k l up q j) j q := ahd_congr hq1 fun i hi => by
        simp only [List.getD]
        rw [List.getElem?_take_of_lt (by omega), List.getElem?_drop]
        exact spl_mid (by rw [HX.out.2.1]; have := HX.out.2.2; omega) (by omega)
      have HA : Hid (∀ V, Fresh wr V → Calls Try.prog 95 #[.agg #[.slice (some ⟨g, o, none⟩) l.length cap, .slice B m d, .int .i64 q], .int .i64 j] V fun e w' => e = .returned (nrv (unN k l up q j) up j q) ∧ Fresh V w') := Lib.hid fun V hV => by
        have := cAroundF_any (some ⟨g, o, none⟩) l.length cap _ B m d up q j V (hrow.fresh hV) (hup.fresh hV) HQ.out.2.1 HQ.out.2.2 (by omega) HQ.out.1
        unfold nrv at this ⊢
        rwa [hcg] at this
      have gin := ges_in (unN_byte k l up q j) H8.out.2 k j q
      have gs := gsx_ges k (unN k l up q j) up j q
      have ax := ahd_in (unN_byte k l up q j) j q
      have az := ahd_in H8.out.2 j q
      have ay := H8.out.2.at_ j
      have hv := H8.out.1.at_ j
      have Hs : Hid (unN k l up q (j + 1) = unN k l up q j ++ [(l.getD j 0 + ges k (unN k l up q j) up j q) % 256]) := Lib.hid rfl
      have hco := ho.cellN hsl (j := o + j) (by have := HX.out.2.2; omega)
      have hfo := ho.frozenN hsl (o + j)
      have HH := Lib.hid (And.intro hb (And.intro hk (And.intro ho (And.intro hsl hlen))))
      unfold nrv at HA
      clear hb hk ho hsl hlen hcg hrow hup
      generalize unN k l up q j = ys at *
      generalize ahd ys j q = x at *
      generalize up.getD j 0 = y at *
      generalize ahd up j q = z at *
      generalize ges k ys up j q = s at *
      generalize l.getD j 0 = v at *
      generalize (spl xs o ys).getD (o + j) 0 = old at *
      subst gs
      have HG : Hid (∀ V, Calls Try.prog 97 #[.agg #[.int .u8 x, .int .u8 y, .int .u8 z], .int .i64 k] V fun e w' => e = .returned (.int .u8 (gsx k x y z)) ∧ Fresh V w') := Lib.hid fun V => cGuessF_any k x y z V ax ay az
      generalize gsx k x y z = s at *
      have hjj : (j : Int) < (l.length : Int) := by omega
      have key : Hid (∀ V, Kept (fun i => i = g) wr V → V.cell? ⟨w.heap.size, 0, none⟩ = some (.slice (some ⟨g, o, none⟩) l.length cap) ∧ V.cell? ⟨w.heap.size, 1, none⟩ = some (.slice B m d) ∧ V.cell? ⟨w.heap.size, 2, none⟩ = some (.int .i64 q)) := Lib.hid fun V hV => by
        have hb := HH.out.1.kept hV (by omega)
        exact ⟨(hb.cell 0).trans rfl, (hb.cell 1).trans rfl, (hb.cell 2).trans rfl⟩
      have kel : Hid (∀ V, Fresh wr V → V.cell? ⟨g, o + j, none⟩ = some (.int .u8 old) ∧ V.frozen? ⟨g, o + j, none⟩ = false) := Lib.hid fun V hV => by
        have hgw : g < wr.heap.size := HH.out.2.2.1.lt rfl
        exact ⟨(hV.cell (p := ⟨g, o + j, none⟩) hgw id).trans hco, (hV.frozen (p := ⟨g, o + j, none⟩) hgw id).trans hfo⟩
      have s0 := key.out wr (Kept.refl _ _)
      clear ax ay az hco hfo
      go_wp2_with fail
      go_region_held3 (fun w' => w'.cell? ⟨w.heap.size, 0, none⟩ = some (.slice (some ⟨g, o, none⟩) l.length cap) ∧ w'.cell? ⟨w.heap.size, 1, none⟩ = some (.slice B m d) ∧ w'.cell? ⟨w.heap.size, 2, none⟩ = some (.int .i64 q))
        (first | go_keep | exact s0 | exact s1 | exact s2 | exact key.out _ ((hf2.mono (T := fun i => i = g) (fun _ _ e => e.elim)).setCell (p := ⟨g, o + j, none⟩) (fun _ => rfl) _))
        (first
          | (go_at_call 95; refine (HA.out _ ((Kept.refl _ wr).drewN _)).mono ?_; rintro e w1 ⟨rfl, hf1⟩; have hf1 := (show Fresh wr w1 from ⟨hf1.os, hf1.tape, hf1.output, hf1.size, hf1.block⟩); have s1 := key.out w1 (hf1.mono (fun _ _ e => e.elim)))
          | (go_at_call 97; refine (HG.out _).mono ?_; rintro e w2 ⟨rfl, hf2⟩; have hf2 := hf1.trans hf2 (fun _ _ e => e); have s2 := key.out w2 (hf2.mono (fun _ _ e => e.elim)); obtain ⟨hco, hfo⟩ := kel.out w2 hf2))
      have HF := Lib.hid hf2
      clear hf1 hf2 s0 s1 s2 hco hfo
      go_wp2_with fail
      go_roundw
      case rel =>
        refine ⟨j + 1, by omega, by go_num, ?_, ?_, ?_⟩
        · exact (HH.out.1.kept HF.out id).far (p := ⟨g, o + j, none⟩) (by simp; omega) _
        · exact (HH.out.2.1.trans HF.out (fun _ _ e => e.elim)).setCell (p := ⟨g, o + j, none⟩) (fun _ => rfl) _
        · rw [Hs.out, ← spl_set (by rw [HH.out.2.2.2.2, HX.out.2.1]; have := HX.out.2.2; omega), HH.out.2.2.2.2, ← IntKind.wrap_u8]
          exact (HH.out.2.2.1.kept HF.out (fun _ _ => id)).storeN HH.out.2.2.2.1 _ _
      case measure => simp [intOf]; omega
    · obtain rfl : j = l.length := by omega
      have HH := Lib.hid (And.intro hk ho)
      clear hb hk ho
      go_wp2_with fail
      go_end0
      exact ⟨rfl, HH.out⟩

end Go.Proofs.Ythfifpapkknodaa

/- The best kind of a row: the code's. -/
namespace Go.Proofs.Ythfifpapkknodaa
open Go.RowKit
set_option maxRecDepth 100000

attribute [local go_sem ↓] Go.wp_at_zero Go.wp_at_succ

/-- Five sums as cells. -/
def f5 (f : Nat → Int) : Array Value := #[.int .u64 (f 0), .int .u64 (f 1), .int .u64 (f 2), .int .u64 (f 3), .int .u64 (f 4)]
theorem f5_get (f : Nat → Int) {k : Nat} (hk : k < 5) : (f5 f)[k]? = some (.int .u64 (f k)) := by
  rcases (show k = 0 ∨ k = 1 ∨ k = 2 ∨ k = 3 ∨ k = 4 by omega) with rfl | rfl | rfl | rfl | rfl <;> rfl
theorem f5_set (f : Nat → Int) {k : Nat} (hk : k < 5) (v : Int) : (f5 f).setIfInBounds k (.int .u64 v) = f5 fun i => if i = k then v else f i := by
  rcases (show k = 0 ∨ k = 1 ∨ k = 2 ∨ k = 3 ∨ k = 4 by omega) with rfl | rfl | rfl | rfl | rfl <;> simp [f5]
theorem f5_congr {f g : Nat → Int} (h : ∀ k, k < 5 → f k = g k) : f5 f = f5 g := by
  unfold f5
  rw [h 0 (by omega), h 1 (by omega), h 2 (by omega), h 3 (by omega), h 4 (by omega)]
theorem run_index_f5 (W : World) (f : Nat → Int) {k : Nat} (h : k < 5) : (Instr.index 125 (.agg (f5 f)) (.int .i64 k)).run Try.prog W = .ok (.int .u64 (f k)) W := by
  rcases (show k = 0 ∨ k = 1 ∨ k = 2 ∨ k = 3 ∨ k = 4 by omega) with rfl | rfl | rfl | rfl | rfl
  all_goals simp [Instr.index, run_underlying Try.underlying125, asIntOf, go_sem, f5]

/-- What the first j bytes of the row of kind k weigh; the weights behind j bytes and the first kk kinds of the next one. -/
def sm (l up : List Int) (q j k : Nat) : Int := (wgN (rowF (k : Nat) l up q) j : Nat)
def smK (l up : List Int) (q j kk k : Nat) : Int := if k < kk then sm l up q (j + 1) k else sm l up q j k

theorem smK_next (l up : List Int) (q j : Nat) {k : Nat} (_ : k < 5) {v : Int} (h : sm l up q (j + 1) k = v) : (f5 (smK l up q j k)).setIfInBounds k (.int .u64 v) = f5 (smK l up q j (k + 1)) := by
  rw [f5_set _ (by omega)]
  refine f5_congr fun i hi => ?_
  unfold smK
  by_cases e : i = k
  · subst e
    rw [if_pos rfl, if_pos (by omega), h]
  · rw [if_neg e]
    by_cases e2 : i < k
    · rw [if_pos e2, if_pos (by omega)]
    · rw [if_neg e2, if_neg (by omega)]
/-- The least of the first ones, as the code finds it. -/
def bf (S : Nat → Int) : Nat → Nat
  | 0 => 0
  | k + 1 => if S k < S (bf S k) then k else bf S k
theorem bf_le (S : Nat → Int) : ∀ k, bf S (k + 1) ≤ k
  | 0 => by simp [bf]
  | k + 1 => by
    have := bf_le S k
    rw [bf]
    split <;> omega
theorem bf_lt (S : Nat → Int) {k : Nat} (h : k ≤ 5) : bf S k < 5 := by
  cases k with
  | zero => simp [bf]
  | succ k => have := bf_le S k; omega
theorem bf_bst (l up : List Int) (q : Nat) : ∀ k, bf (fun k => (wgt (rowF (k : Nat) l up q) : Nat)) (k + 1) = bstN l up q k
  | 0 => by simp [bf, bstN]
  | k + 1 => by
    rw [bf, bf_bst l up q k, bstN]
    by_cases h : wgt (rowF ((k + 1 : Nat) : Int) l up q) < wgt (rowF (bstN l up q k : Nat) l up q)
    · rw [if_pos h, if_pos (by omega)]
    · rw [if_neg h, if_neg (by omega)]

set_option maxHeartbeats 3200000 in
theorem cBestF_any (A : Option Addr) (n c : Nat) (l : List Int) (B : Option Addr) (m d : Nat) (up : List Int) (q : Nat) (w : World)
    (hr : Row w .u8 A n l) (hb : Row w .u8 B m up) (h1 : B8 l) (h2 : B8 up) (hn : n ≤ 16777216) (hm : m ≤ 16777216) (hq : q ≤ 9223372036854775807) :
    Calls Try.prog 77 #[.agg #[.slice A n c, .slice B m d, .int .i64 q]] w fun e w' => e = .returned (.int .i64 (bst l up q : Nat)) ∧ Fresh w w' := by
  obtain rfl := hr.len
  have HR : Hid (∀ V, Fresh w V → Row V .u8 A l.length l ∧ Row V .u8 B m up) := Lib.hid fun V hV => ⟨hr.fresh hV, hb.fresh hV⟩
  have HQ := Lib.hid (And.intro hq (And.intro hn hm))
  have H8 := Lib.hid (And.intro h1 h2)
  have HS : Hid (∀ j k : Nat, j ≤ l.length → 0 ≤ sm l up q j k ∧ sm l up q j k ≤ 128 * 16777216) := Lib.hid fun j k hj => by
    have := wgN_le (rowF_byte (k : Nat) l up q) j
    unfold sm
    omega
  clear hr hb h1 h2 hq hm
  go_enter Try.func77, Try.ntmps77
  go_wp2_with fail
  go_loopw [14] (fun i wr => ∃ j : Nat, j ≤ l.length ∧ i = .int .i64 j ∧ Blk wr w.heap.size 112 #[.slice A l.length c, .slice B m d, .int .i64 q] ∧ Blk wr (w.heap.size + 1) 125 (f5 (sm l up q j)) ∧ Fresh w wr) (fun i _ => (l.length - intOf i).toNat)
  case atStart =>
    refine ⟨0, by omega, rfl, (Blk.new _ _ _).alloc _, ?_, ((Kept.refl _ _).alloc _).alloc _⟩
    rw [show f5 (sm l up q 0) = #[.int .u64 0, .int .u64 0, .int .u64 0, .int .u64 0, .int .u64 0] from rfl]
    have := Blk.new (w.alloc (.cells #[.slice A l.length c, .slice B m d, .int .i64 q] 112)) 125 #[.int .u64 0, .int .u64 0, .int .u64 0, .int .u64 0, .int .u64 0]
    rwa [World.size_alloc] at this
  case round =>
    obtain ⟨j, hj, rfl, hb, hs, hf⟩ := hrel
    have c0 := (hb.cell 0).trans (show _ = some (Value.slice A l.length c) from rfl)
    have c1 := (hb.cell 1).trans (show _ = some (Value.slice B m d) from rfl)
    have c2 := (hb.cell 2).trans (show _ = some (Value.int .i64 q) from rfl)
    by_cases hlt : j < l.length
    · obtain ⟨hrow, hup⟩ := HR.out wr hf
      obtain ⟨b, o2, rfl, hbw, hc⟩ := hrow.at_ j hlt
      have HA := Lib.hid (cAroundF_any (some ⟨b, o2, none⟩) l.length c l B m d up q j wr hrow hup HQ.out.2.1 HQ.out.2.2 (by omega) HQ.out.1)
      have ax := ahd_in H8.out.1 j q
      have az := ahd_in H8.out.2 j q
      have ay := H8.out.2.at_ j
      have hv := H8.out.1.at_ j
      have hgs : ∀ k : Nat, gsx (k : Int) (ahd l j q) (up.getD j 0) (ahd up j q) = ges (k : Int) l up j q := fun _ => rfl
      have hgi : ∀ k : Nat, 0 ≤ ges (k : Int) l up j q ∧ ges (k : Int) l up j q < 256 := fun k => ges_in H8.out.1 H8.out.2 _ _ _
      have hst : ∀ k : Nat, sm l up q (j + 1) k = sm l up q j k + (wgb ((l.getD j 0 - ges (k : Int) l up j q) % 256) : Nat) := fun k => by
        unfold sm
        rw [wgN, rowF, tn_getD hlt]
        omega
      unfold nrv at HA
      have HH := Lib.hid (And.intro hb (And.intro hs hf))
      have HT := Lib.hid (And.intro hgs (And.intro hgi hst))
      have hjj : (j : Int) < (l.length : Int) := by omega
      generalize ahd l j q = x at *
      generalize up.getD j 0 = y at *
      generalize ahd up j q = z at *
      generalize l.getD j 0 = v at *
      clear hrow hup hb hs hf hgs hgi hst
      go_wp2_with fail
      refine HA.out.mono ?_
      rintro e w1 ⟨rfl, hf1⟩
      have HF1 := Lib.hid hf1
      clear hf1
      go_wp2_with fail
      have H1 : Hid (Blk (w1.alloc (.cells #[.int .u8 x, .int .u8 y, .int .u8 z] 127)) w.heap.size 112 #[.slice (some ⟨b, o2, none⟩) l.length c, .slice B m d, .int .i64 q] ∧ Blk (w1.alloc (.cells #[.int .u8 x, .int .u8 y, .int .u8 z] 127)) (w.heap.size + 1) 125 (f5 (sm l up q j)) ∧
          Blk (w1.alloc (.cells #[.int .u8 x, .int .u8 y, .int .u8 z] 127)) w1.heap.size 127 #[.int .u8 x, .int .u8 y, .int .u8 z] ∧ Fresh w (w1.alloc (.cells #[.int .u8 x, .int .u8 y, .int .u8 z] 127))) :=
        Lib.hid ⟨(HH.out.1.kept HF1.out id).alloc _, (HH.out.2.1.kept HF1.out id).alloc _, Blk.new _ _ _, (HH.out.2.2.trans HF1.out (fun _ _ e => e)).alloc _⟩
      clear HA HF1 HH
      go_loopw [22] (fun i wr => ∃ k : Nat, k ≤ 5 ∧ i = .int .i64 k ∧ Blk wr w.heap.size 112 #[.slice (some ⟨b, o2, none⟩) l.length c, .slice B m d, .int .i64 q] ∧ Blk wr (w.heap.size + 1) 125 (f5 (smK l up q j k)) ∧ Blk wr w1.heap.size 127 #[.int .u8 x, .int .u8 y, .int .u8 z] ∧ Fresh w wr) (fun i _ => (5 - intOf i).toNat)
      case atStart => exact ⟨0, by omega, rfl, H1.out.1, by rw [f5_congr (g := sm l up q j) (fun k _ => by unfold smK; rw [if_neg (by omega)])]; exact H1.out.2.1, H1.out.2.2⟩
      case round =>
        obtain ⟨k, hk, rfl, hb, hs, hn2, hf⟩ := hrel
        by_cases hk5 : k < 5
        · have hkk : (k : Int) < 5 := by omega
          have hG := cGuessF_any (k : Int) x y z
          rw [HT.out.1 k] at hG
          have HG : Hid (∀ V, Calls Try.prog 97 #[.agg #[.int .u8 x, .int .u8 y, .int .u8 z], .int .i64 k] V fun e w' => e = .returned (.int .u8 (ges (k : Int) l up j q)) ∧ Fresh V w') := Lib.hid fun V => hG V ax ay az
          have gin := HT.out.2.1 k
          have cS : wr.cell? ⟨w.heap.size + 1, k, none⟩ = some (.int .u64 (sm l up q j k)) := (hs.cell k).trans (by rw [f5_get _ hk5, smK, if_neg (by omega)])
          have fS := hs.frozen k
          have n0 := (hn2.cell 0).trans (show _ = some (Value.int .u8 x) from rfl)
          have n1 := (hn2.cell 1).trans (show _ = some (Value.int .u8 y) from rfl)
          have n2 := (hn2.cell 2).trans (show _ = some (Value.int .u8 z) from rfl)
          have sin := HS.out j k (by omega)
          have Hst := Lib.hid (HT.out.2.2 k)
          have HH := Lib.hid (And.intro hb (And.intro hs (And.intro hn2 hf)))
          generalize ges (k : Int) l up j q = s at *
          generalize hS0 : sm l up q j k = S0 at *
          have win : 0 ≤ ((wgb ((v - s) % 256) : Nat) : Int) ∧ ((wgb ((v - s) % 256) : Nat) : Int) ≤ 256 := by unfold wgb; split <;> omega
          have HW : Hid (∀ V, Calls Try.prog 96 #[.int .u8 ((v - s) % 256)] V fun e w' => e = .returned (.int .u64 (wgb ((v - s) % 256) : Nat)) ∧ V = w') := Lib.hid fun V => cAmountF_any _ V (by omega)
          generalize wgb ((v - s) % 256) = W at *
          have wr0 : IntKind.u64.wrap (S0 + (W : Int)) = S0 + (W : Int) := IntWalk.u64_in _ (by omega)
          clear hG hb hs hn2 hf ax ay az hS0
          go_wp2_with fail
          go_region_law
            (first
              | (go_simp; go_at_call 97; refine (HG.out _).mono ?_; rintro e w2 ⟨rfl, hf2⟩; have cS2 : w2.cell? ⟨w.heap.size + 1, k, none⟩ = some (.int .u64 S0) := (hf2.cell (p := ⟨w.heap.size + 1, k, none⟩) HH.out.2.1.lt id).trans cS; have fS2 : w2.frozen? ⟨w.heap.size + 1, k, none⟩ = false := (hf2.frozen (p := ⟨w.heap.size + 1, k, none⟩) HH.out.2.1.lt id).trans fS)
              | (go_simp; go_at_call 96; refine (HW.out _).mono ?_; rintro e w3 ⟨rfl, rfl⟩))
          all_goals
            have HF := Lib.hid (show Fresh wr w2 from ⟨hf2.os, hf2.tape, hf2.output, hf2.size, hf2.block⟩)
            clear hf2 cS2 fS2 cS fS n0 n1 n2
            go_wp2_with fail
            go_roundw
            case rel =>
              refine ⟨k + 1, by omega, by go_num, ?_, ?_, ?_, ?_⟩
              · exact (HH.out.1.kept HF.out id).far (p := ⟨w.heap.size + 1, k, none⟩) (by simp) _
              · rw [← smK_next l up q j hk5 Hst.out]
                exact (HH.out.2.1.kept HF.out id).set_ k _
              · exact (HH.out.2.2.1.kept HF.out id).far (p := ⟨w.heap.size + 1, k, none⟩) (HH.out.2.2.1.ne_ HH.out.2.1 (by decide)) _
              · exact (HH.out.2.2.2.trans HF.out (fun _ _ e => e)).setCell (p := ⟨w.heap.size + 1, k, none⟩) (fun e => absurd e (by simp)) _
            case measure => simp [intOf]; omega
        · obtain rfl : k = 5 := by omega
          rw [f5_congr (g := sm l up q (j + 1)) (fun k hk => by unfold smK; rw [if_pos hk])] at hs
          have HH := Lib.hid (And.intro hb (And.intro hs hf))
          clear hb hs hn2 hf ax az ay
          go_wp2_with fail
          go_roundw
          case rel => exact ⟨j + 1, by omega, by go_num, HH.out⟩
          case measure => simp [intOf]; omega
    · obtain rfl : j = l.length := by omega
      obtain ⟨S, hS⟩ : ∃ S : Nat → Int, S = fun k => ((wgt (rowF (k : Nat) l up q) : Nat) : Int) := ⟨_, rfl⟩
      have hsm : sm l up q l.length = S := by
        rw [hS]
        funext k
        unfold sm wgt
        rw [rowF_length]
      rw [hsm] at hs
      have HB : Hid (bf S 5 = bst l up q) := Lib.hid (by rw [hS]; exact bf_bst l up q 4)
      have HK : Hid (∀ k, 0 ≤ S k ∧ S k ≤ 128 * 16777216) := Lib.hid fun k => by rw [← hsm]; exact HS.out l.length k (Nat.le_refl _)
      have s0 := (hs.cell 0).trans (f5_get S (by omega))
      have s1 := (hs.cell 1).trans (f5_get S (by omega))
      have s2 := (hs.cell 2).trans (f5_get S (by omega))
      have s3 := (hs.cell 3).trans (f5_get S (by omega))
      have s4 := (hs.cell 4).trans (f5_get S (by omega))
      have HH := Lib.hid (And.intro hs hf)
      have HI : Hid (∀ (k : Nat) (_ : k < 5) V, (Instr.index 125 (.agg #[.int .u64 (S 0), .int .u64 (S 1), .int .u64 (S 2), .int .u64 (S 3), .int .u64 (S 4)]) (.int .i64 k)).run Try.prog V = .ok (.int .u64 (S k)) V) := Lib.hid fun k hk V => run_index_f5 V S hk
      clear hb hs hf hS hsm
      go_wp2_with fail
      go_loopw [39, 8] (fun i x wr' => ∃ k : Nat, k ≤ 5 ∧ i = .int .i64 k ∧ x = .int .i64 (bf S k : Nat) ∧ wr' = wr) (fun i _ _ => (5 - intOf i).toNat)
      case atStart => exact ⟨0, by omega, rfl, rfl, rfl⟩
      case round =>
        obtain ⟨k, hk, rfl, rfl, rfl⟩ := hrel
        by_cases hk5 : k < 5
        · have hkk : (k : Int) < 5 := by omega
          have hx := HI.out k hk5
          have hb5 := bf_lt S hk
          have cb := (HH.out.1.cell (bf S k)).trans (f5_get S hb5)
          have h1 := HK.out k
          have h2 := HK.out (bf S k)
          have Hn : Hid (bf S (k + 1) = if S k < S (bf S k) then k else bf S k) := Lib.hid rfl
          generalize S (bf S k) = z at *
          generalize bf S k = r at *
          obtain ⟨r', hr'⟩ : ∃ r', r' = bf S (k + 1) := ⟨_, rfl⟩
          have Hr := Lib.hid hr'.symm
          rw [← hr'] at Hn
          clear hr'
          clear s0 s1 s2 s3 s4
          by_cases hlt : S k < z
          · have He := Lib.hid (Hn.out.trans (if_pos hlt))
            generalize S k = y at *
            go_wp2_with fail
            go_roundw
            case rel => exact ⟨k + 1, by omega, by go_num, by rw [Hr.out, He.out], trivial⟩
            case measure => simp [intOf]; omega
          · have He := Lib.hid (Hn.out.trans (if_neg hlt))
            generalize S k = y at *
            go_wp2_with fail
            go_roundw
            case rel => exact ⟨k + 1, by omega, by go_num, by rw [Hr.out, He.out], trivial⟩
            case measure => simp [intOf]; omega
        · obtain rfl : k = 5 := by omega
          rw [HB.out]
          go_wp2_with fail
          go_ret
          exact ⟨rfl, HH.out.2⟩

end Go.Proofs.Ythfifpapkknodaa

/- The code's Row, Unrow, Best of filters. -/
namespace Go.Proofs.Ythfifpapkknodaa
open Go.RowKit
set_option maxRecDepth 100000

attribute [local go_sem ↓] Go.wp_at_zero Go.wp_at_succ

theorem plN_hi {p : Int} (hp : I64 p) : 1 ≤ plN p ∧ plN p ≤ 9223372036854775807 := by
  have := plN_in p
  unfold I64 at hp
  omega




end Go.Proofs.Ythfifpapkknodaa

/- The code's fits of filters. -/
namespace Go.Proofs.Ythfifpapkknodaa
open Go.RowKit
set_option maxRecDepth 100000

attribute [local go_sem ↓] Go.wp_at_zero Go.wp_at_succ

set_option maxHeartbeats 1600000 in
theorem cFitF_no (n : Nat) (wd mo p : Int) (w : World) (h : ¬ (1 ≤ wd ∧ wd ≤ 1048576 ∧ 1 ≤ p ∧ p ≤ 4)) :
    Calls Try.prog 75 #[.int .i64 n, .int .i64 wd, .int .i64 mo, .int .i64 p] w fun e w' => e = .returned (.bool false) ∧ w = w' := by
  have hc : wd < 1 ∨ (¬ wd < 1 ∧ 1048576 < wd) ∨ (¬ wd < 1 ∧ ¬ 1048576 < wd ∧ p < 1) ∨ (¬ wd < 1 ∧ ¬ 1048576 < wd ∧ ¬ p < 1 ∧ 4 < p) := by omega
  clear h
  rcases hc with h1 | ⟨h1, h2⟩ | ⟨h1, h2, h3⟩ | ⟨h1, h2, h3, h4⟩
  all_goals
    go_enter Try.func75, Try.ntmps75
    go_wp2_with fail
    go_ret
    exact ⟨rfl, rfl⟩

set_option maxHeartbeats 1600000 in
theorem cFitF_in (n v D : Nat) (mo p : Int) (w : World) (hv : 1 ≤ v ∧ v ≤ 1048576) (hp : 1 ≤ p ∧ p ≤ 4) (hD : (v : Int) + mo = D) (h1 : v ≤ D) (h2 : D ≤ 1048577) (hn : n ≤ 16777216) :
    Calls Try.prog 75 #[.int .i64 n, .int .i64 v, .int .i64 mo, .int .i64 p] w fun e w' => e = .returned (.bool (decide (n % D = 0 ∧ n / D * v ≤ 1048576))) ∧ w = w' := by
  have e1 : (n : Int).tmod (D : Int) = ((n % D : Nat) : Int) := by rw [Int.tmod_eq_emod_of_nonneg (by omega), ← Int.natCast_emod]
  have e2 : (n : Int).tdiv (D : Int) = ((n / D : Nat) : Int) := by rw [Int.tdiv_eq_ediv_of_nonneg (by omega), ← Int.natCast_ediv]
  have e3 : ((n / D : Nat) : Int) * (v : Int) = ((n / D * v : Nat) : Int) := (Int.natCast_mul _ _).symm
  have b1 : n / D ≤ n := Nat.div_le_self _ _
  have b2 : n / D * v ≤ n := Nat.le_trans (Nat.mul_le_mul_left _ h1) (Nat.div_mul_le_self _ _)
  have a1 : ¬ (v : Int) < 1 := by omega
  have a2 : ¬ (1048576 : Int) < (v : Int) := by omega
  have a3 : ¬ p < 1 := by omega
  have a4 : ¬ 4 < p := by omega
  have a5 : (D : Int) ≠ 0 := by omega
  have w1 : IntKind.i64.wrap (D : Int) = (D : Int) := IntWalk.i64_in _ (by omega)
  have b0 : n % D ≤ n := Nat.mod_le n D
  generalize n % D = r at *
  generalize n / D * v = m at *
  generalize n / D = q at *
  have w2 : IntKind.i64.wrap (r : Int) = (r : Int) := IntWalk.i64_in _ (by omega)
  have w3 : IntKind.i64.wrap (q : Int) = (q : Int) := IntWalk.i64_in _ (by omega)
  have w4 : IntKind.i64.wrap (m : Int) = (m : Int) := IntWalk.i64_in _ (by omega)
  clear hv hp h1 h2 hn b0 b1 b2
  by_cases hr : r = 0
  · subst hr
    by_cases hm : m ≤ 1048576
    · have m0 : (m : Int) ≤ 1048576 := by omega
      rw [decide_eq_true ⟨rfl, hm⟩]
      clear hm
      go_enter Try.func75, Try.ntmps75
      go_wp2_with fail
      go_ret
      exact ⟨rfl, rfl⟩
    · have m0 : ¬ (m : Int) ≤ 1048576 := by omega
      rw [decide_eq_false (fun h => hm h.2)]
      clear hm
      go_enter Try.func75, Try.ntmps75
      go_wp2_with fail
      go_ret
      exact ⟨rfl, rfl⟩
  · have r0 : ¬ (r : Int) = 0 := by omega
    rw [decide_eq_false (fun h => hr h.1)]
    clear hr
    go_enter Try.func75, Try.ntmps75
    go_wp2_with fail
    go_ret
    exact ⟨rfl, rfl⟩

/-- How much may be. -/
theorem okA_fit {v n : Nat} {p : Int} (hv : 1 ≤ v ∧ v ≤ 1048576) (hp : 1 ≤ p ∧ p ≤ 4) : (n % v = 0 ∧ n / v * v ≤ 1048576) ↔ okA v p n := by
  unfold okA
  rw [Int.toNat_natCast]
  have h := Nat.div_add_mod n v
  rw [Nat.mul_comm] at h
  constructor
  · rintro ⟨h1, h2⟩
    refine ⟨by omega, by omega, hp.1, hp.2, ?_, h1⟩
    omega
  · rintro ⟨_, _, _, _, h1, h2⟩
    exact ⟨h2, by omega⟩
theorem okU_fit {v n : Nat} {p : Int} (hv : 1 ≤ v ∧ v ≤ 1048576) (hp : 1 ≤ p ∧ p ≤ 4) : (n % (v + 1) = 0 ∧ n / (v + 1) * v ≤ 1048576) ↔ okU v p n := by
  unfold okU
  rw [Int.toNat_natCast]
  have h := Nat.div_add_mod n (v + 1)
  rw [Nat.mul_comm, Nat.mul_add, Nat.mul_one] at h
  constructor
  · rintro ⟨h1, h2⟩
    refine ⟨by omega, by omega, hp.1, hp.2, h1, ?_⟩
    omega
  · rintro ⟨_, _, _, _, h1, h2⟩
    exact ⟨h1, by omega⟩

end Go.Proofs.Ythfifpapkknodaa

/- A region that draws its order, in a round of a range over an iterator: what is shown of all its orders outside any round serves there. -/
namespace Go.Proofs.Ythfifpapkknodaa
open Go.RowKit Go.Shelf
set_option maxRecDepth 100000

/-- Nothing but what is normal. -/
def Calm (Q : Exit → Act → World → Prop) : Exit → Act → World → Prop := fun e a w => match e with | .normal => Q .normal a w | _ => False

theorem Calm.of {Q : Exit → Act → World → Prop} {a : Act} {w : World} (h : Q .normal a w) : Calm Q .normal a w := h

section
variable {P : Program} {ops : Array Oper} {L m : Nat} {Q : Exit → Act → World → Prop}

/-- No operation defers. -/
def NoDefer (ops : Array Oper) : Prop := ∀ (i : Nat) o c, ops[i]? = some o → o.op ≠ .defer c
theorem NoDefer.of {l : List Oper} (h : (l.all fun o => match o.op with | .defer _ => false | _ => true) = true) : NoDefer l.toArray := fun i o c ho e => by
  have := List.all_eq_true.1 h o (List.mem_of_getElem? (by simpa using ho))
  rw [e] at this
  cases this

theorem upon_round {o : Oper} {a : Act} {K : Act → World → Prop} {r : Result Next} (h : o.upon P a K Q r) : o.uponIn (Fence.wide.inRound L) m P a K Q r := by
  rcases r with ⟨x, w'⟩ | ⟨x, w'⟩
  · cases x with
    | enter f args => exact ⟨fun e => (by cases e), callsIn_wide.2 h⟩
    | row s args => exact ⟨fun e => (by cases e), fun c cs _ => let ⟨v, w'', k, st⟩ := h c cs; ⟨v, w'', k, stepsIn_wide.2 st⟩⟩
    | round _ _ _ _ _ => exact h.elim
    | _ => exact h
  · cases x <;> exact h

theorem op_round {i : Nat} {K : Act → World → Prop} {a : Act} {w : World} (hnd : NoDefer ops) (h : wpOp P ops (Calm Q) i K a w) : wpOpIn (Fence.wide.inRound L) m P ops (Calm Q) i K a w := by
  unfold wpOp at h
  unfold wpOpIn
  cases ho : ops[i]? with
  | none => simpa only [ho] using h
  | some o =>
    simp only [ho] at h ⊢
    by_cases hw : Region.wanted o (yielded ops a.tmps) = true
    · rw [if_pos hw] at h ⊢
      rcases h with h | ⟨_, h⟩
      · refine ⟨fun _ _ => trivial, ?_⟩
        rw [Oper.semAt_plain _ _ _ (fun c => hnd i o c ho)]
        exact upon_round h
      · obtain ⟨_, _, h⟩ := h
        exact h.elim
    · rw [if_neg hw] at h ⊢
      exact ⟨fun _ _ => trivial, h⟩

theorem any_round {md : Region.Mode} (hnd : NoDefer ops) : ∀ (fuel : Nat) (listed : Array Bool) (a : Act) (w : World), wpAny P md ops (Calm Q) fuel listed a w → wpAnyIn (Fence.wide.inRound L) m P md ops (Calm Q) fuel listed a w
  | 0, _, _, _, h => h
  | f + 1, _, _, _, h => ⟨h.1, fun i hi => op_round hnd (wpOp_mono (fun a w => any_round hnd f _ a w) (h.2 i hi))⟩

/-- All its orders, each without a panic. -/
theorem wpIn_region_plain {id : Nat} {a : Act} {w : World} (hm : P.follows .mixedOrders = true) (hnd : NoDefer ops)
    (h : wpAny P .any ops (Calm Q) ops.size (Array.replicate ops.size false) a w.drew) : (Code.region id ops true).wpIn (Fence.wide.inRound L) m P Q a w :=
  wpIn_mono (wpIn_region_any hm (any_round hnd _ _ _ _ h)) fun e a w hq => by
    cases e <;> first | exact hq | exact hq.elim

/-- The first k operations only read (or call what only reads), the others come in one order. -/
theorem wpIn_region_tail {id : Nat} {a : Act} {w : World} {l : List Oper} (k : Nat) (hm : P.follows .mixedOrders = true) (hB : Region.lexTailB .any l.toArray k = true) (hnd : NoDefer l.toArray)
    (h : wpStill P l.toArray w.drew (fun a' => wpList P l.toArray (Calm Q) (l.drop k) a' w.drew) (l.take k) a) : (Code.region id l.toArray true).wpIn (Fence.wide.inRound L) m P Q a w := by
  refine wpIn_region_plain hm hnd ?_
  unfold Region.lexTailB at hB
  rw [Bool.and_eq_true, Bool.and_eq_true, Bool.and_eq_true, Bool.and_eq_true, decide_eq_true_eq] at hB
  have hk : k < l.length := by simpa using hB.1.1.1.2
  have e1 : (l.take k).length = k := by rw [List.length_take]; omega
  have e2 : (l.drop k).length = l.toArray.size - k := by rw [List.length_drop, List.size_toArray]
  have e3 : ∀ j, (Array.replicate l.toArray.size false).getD j false = false := getD_replicate_false _
  have hh := wpAnyL_lex (md := .any) (g := l.toArray.size - k) hB.1.1.1.1 hB.1.1.2 hB.1.2 hB.1.1.1.2 (l.take k) 0 (Array.replicate l.toArray.size false) a
    (fun j hj => by rw [List.getElem?_take_of_lt (by omega), List.getElem?_toArray, Nat.zero_add]) (by omega)
    { size := Array.size_replicate, closed := fun j _ _ hl => absurd hl (by rw [e3 j]; decide), tail := fun t _ ht => getD_in (by rw [Array.size_replicate]; exact ht) (e3 t) } (by rw [e1]; exact hB.2) h
  have hq := wpAny_of_head (Q' := Calm Q) (g := (l.drop k).length) (fun li a' hL => wpAny_of_seq (md := .any) (l.drop k) k li a' w.drew (fun j => by rw [List.getElem?_drop, List.getElem?_toArray]) (by rw [e2]; exact hL.1) hL.2) _ _ _ hh
  rwa [e1, e2, show k + (l.toArray.size - k) = l.toArray.size by rw [List.size_toArray]; omega] at hq

end

end Go.Proofs.Ythfifpapkknodaa
