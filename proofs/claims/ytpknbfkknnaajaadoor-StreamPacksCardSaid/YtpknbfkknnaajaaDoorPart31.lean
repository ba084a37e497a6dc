/- Texts of this proof, one behind the other: CodQD, StrS. -/
import Derived.Test.YtpknbfkknnaajaaDoorPart22
import Derived.Test.YtpknbfkknnaajaaDoorPart20
import Derived.Test.YtpknbfkknnaajaaDoorPart30
import Derived.Test.YtpknbfkknnaajaaDoorPart19

/- The contracts of the document's own decoder. -/
namespace Go.Proofs.YtpknbfkknnaajaaDoor
set_option maxRecDepth 100000
open Go.RowKit

attribute [local go_sem ↓] Go.wp_at_zero Go.wp_at_succ

/-- The cells of the document's decoder. -/
def cR (l h x : Nat) (A : Option Addr) (n c a : Nat) : Array Value := #[.int .u32 l, .int .u32 h, .int .u32 x, .slice A n c, .int .i64 a]
abbrev DecR (w : World) (g l h x : Nat) (A : Option Addr) (c : Nat) (bs : List Int) (a : Nat) : Prop := Dec w g 90 (cR l h x A bs.length c a) A bs

section
variable {w : World} {g l h x : Nat} {A : Option Addr} {c : Nat} {bs : List Int} {a : Nat}
theorem Dec.rL (d : DecR w g l h x A c bs a) (l' : Nat) : DecR (w.setCell ⟨g, 0, none⟩ (.int .u32 l')) g l' h x A c bs a := d.set_ 0 (.int .u32 l')
theorem Dec.rH (d : DecR w g l h x A c bs a) (h' : Nat) : DecR (w.setCell ⟨g, 1, none⟩ (.int .u32 h')) g l h' x A c bs a := d.set_ 1 (.int .u32 h')
theorem Dec.rX (d : DecR w g l h x A c bs a) (x' : Nat) (u : Int) (hu : u = (x' : Int)) : DecR (w.setCell ⟨g, 2, none⟩ (.int .u32 u)) g l h x' A c bs a := by subst hu; exact d.set_ 2 (.int .u32 x')
theorem Dec.rA (d : DecR w g l h x A c bs a) (a' : Nat) (u : Int) (hu : u = (a' : Int)) : DecR (w.setCell ⟨g, 4, none⟩ (.int .i64 u)) g l h x A c bs a' := by subst hu; exact d.set_ 4 (.int .i64 a')
end

set_option maxHeartbeats 1600000 in
theorem qtake_any (g l h x : Nat) (A : Option Addr) (c : Nat) (bs : List Int) (a : Nat) (w : World) (d : DecR w g l h x A c bs a) (ha : a ≤ 2000000000) :
    Calls Tryd.prog 59 #[.pointer (some ⟨g, 0, none⟩)] w fun e w' => e = .returned (.tuple #[]) ∧ DecR w' g l h (pushN bs x a) A c bs (a + 1) ∧ Kept (fun k => k = g) w w' := by
  have c2 : w.cell? ⟨g, 2, none⟩ = some (.int .u32 x) := by simpa [cR] using d.blk.cell 2
  have c3 : w.cell? ⟨g, 3, none⟩ = some (.slice A bs.length c) := by simpa [cR] using d.blk.cell 3
  have c4 : w.cell? ⟨g, 4, none⟩ = some (.int .i64 a) := by simpa [cR] using d.blk.cell 4
  have f2 := d.blk.frozen 2
  have f4 := d.blk.frozen 4
  have hsm := d.small
  by_cases hlt : a < bs.length
  · obtain ⟨b, o, rfl, hb, hc⟩ := d.row.at_ a hlt
    have hne := d.far b o rfl (by omega)
    have hby := byte_getD d.byte a
    obtain ⟨y, hy⟩ := Int.eq_ofNat_of_zero_le hby.1
    rw [hy] at hc hby
    have hj := join8 x y (by omega)
    have hP : pushN bs x a = x * 256 % 4294967296 + y := by unfold pushN; rw [hy]; rfl
    rw [hP]
    have hi0 : (0 : Int) ≤ (a : Int) := by omega
    have hi1 : (a : Int) < (bs.length : Int) := by omega
    have hi2 : decide (a < bs.length) = true := by simpa using hlt
    have HD := Lib.hid d
    have hy256 : y < 256 := by omega
    clear hP hy d hby hlt
    go_enter Tryd.func59, Tryd.ntmps59
    go_wp2_with fail
    go_quiet (fail)
    go_wp2_with fail
    go_quiet (fail)
    go_wp2_with fail
    go_end0
    exact ⟨rfl, ((HD.out.drewN _).rA (a + 1) _ (by omega)).rX _ _ (by omega), ((Kept.refl (fun k => k = g) w).drewN _).trans ((Kept.one _ _ _ _).trans (Kept.one _ _ _ _) (fun _ _ h => h)) (fun _ _ h => h)⟩
  · have hP : pushN bs x a = x * 256 % 4294967296 := by
      unfold pushN
      rw [show bs.getD a 0 = 0 from by simp [List.getD, List.getElem?_eq_none (Nat.le_of_not_lt hlt)]]
      rfl
    rw [hP]
    have hi1 : ¬ (a : Int) < (bs.length : Int) := by omega
    have hi2 : decide (a < bs.length) = false := by simpa using hlt
    have HD := Lib.hid d
    clear hP d hlt
    go_enter Tryd.func59, Tryd.ntmps59
    go_wp2_with fail
    go_quiet (fail)
    go_wp2_with fail
    go_end0
    have hj' : bits .or .u32 ((x : Int) * 256 % 4294967296) 0 = ((x * 256 % 4294967296 : Nat) : Int) := join8 x 0 (by omega)
    exact ⟨rfl, ((HD.out.drewN _).rA (a + 1) _ (by omega)).rX _ _ hj', ((Kept.refl (fun k => k = g) w).drewN _).trans ((Kept.one _ _ _ _).trans (Kept.one _ _ _ _) (fun _ _ h => h)) (fun _ _ h => h)⟩


set_option maxHeartbeats 1600000 in
theorem qNewDec_any (B : Option Addr) (n c : Nat) (xs : List Int) (w : World) (h : Row w .u8 B n xs) (hn : n ≤ 1000000000) (hby : ∀ x ∈ xs, 0 ≤ x ∧ x < 256) :
    Calls Tryd.prog 32 #[.slice B n c] w fun e w' => NewDec w w' e 90 (fun A c => cR 0 4294967295 (win xs 0) A xs.length c 4) xs := by
  have hlen := h.len
  have Hlen := Lib.hid hlen
  clear hlen
  obtain ⟨i0, hi, hz0, hz1, hz2⟩ := info_parts Tryd.infoByteC
  go_enter Tryd.func32, Tryd.ntmps32
  go_wp2_with fail
  refine (qfull_any _).mono ?_
  rintro e w0 ⟨rfl, hf0⟩
  have hr0 := h.kept hf0 (fun _ _ _ _ => id)
  go_wp2_with (at_builtin; refine wpList_app _ rfl _ _ 22 rfl 5 i0 .u8 1 Tryd.underlying22 hi hz0 hz1 hz2 (.slice none 0 0) [] rfl (Own.nil _ _ _) B n c xs rfl hr0 (by unfold maxLen; simp; omega) (by simp; omega) ?_)
  intro v w1 hown hgr hat
  have ho : Own w1 5 .u8 v xs := by simpa using hown
  have hvb : ∀ k, v.ownBlock = some k → w.heap.size ≤ k := fun k hk => by
    rcases hat with e | e
    · rw [e] at hk; cases hk
    · rw [e] at hk; injection hk with hk; have := hf0.size; omega
  have hf : Fresh w w1 := hf0.grown hgr (fun k e _ => by cases e)
  obtain ⟨A, cA, rfl, hr, hA⟩ := ho.row
  have hAb : ∀ b o, A = some ⟨b, o, none⟩ → w.heap.size ≤ b ∧ b < w1.heap.size := fun b o e => ⟨hvb b (hA b o e), ho.lt (hA b o e)⟩
  have hd : DecR (w1.alloc (.cells #[.int .u32 0, .int .u32 4294967295, .int .u32 0, .slice A xs.length cA, .int .i64 0] 90)) w1.heap.size 0 4294967295 0 A cA xs 0 :=
    ⟨Blk.new _ _ _, hr.kept ((Kept.refl (fun _ => False) _).alloc _) (fun _ _ _ _ => id), fun b o e _ => by have := hAb b o e; omega, hby, by have := Hlen.out; omega⟩
  have hk : Fresh w (w1.alloc (.cells #[.int .u32 0, .int .u32 4294967295, .int .u32 0, .slice A xs.length cA, .int .i64 0] 90)) := hf.alloc _
  have hg : w.heap.size ≤ w1.heap.size := hf.size
  have H1 := Lib.hid (And.intro hd (And.intro hk (And.intro hAb hg)))
  clear hd hk hAb hg hf ho hr hA hvb hown hgr hat hr0 hf0 h
  go_wp2_with fail
  generalize w1.alloc (.cells #[.int .u32 0, .int .u32 4294967295, .int .u32 0, .slice A xs.length cA, .int .i64 0] 90) = w2 at *
  generalize w1.heap.size = g at *
  go_loopw [4] (fun i wr => ∃ j : Nat, j ≤ 4 ∧ i = .int .i64 j ∧ DecR wr g 0 4294967295 (partN xs j) A cA xs j ∧ Fresh w wr) (fun i _ => (4 - intOf i).toNat)
  case atStart => exact ⟨0, by omega, rfl, H1.out.1, H1.out.2.1⟩
  case round =>
    obtain ⟨j, hj, rfl, hd, hf⟩ := hrel
    have HF := Lib.hid hf
    clear hf
    by_cases hlt : j < 4
    · go_wp2_with fail
      refine (qtake_any g 0 4294967295 _ A cA xs j _ hd (by omega)).mono ?_
      rintro e3 w3 ⟨rfl, hd3, hk3⟩
      have hf3 : Fresh w w3 := HF.out.trans hk3 fun i hi e => by have := H1.out.2.2.2; omega
      have H3 := Lib.hid (And.intro hd3 hf3)
      clear hd3 hf3 hk3 hd
      go_wp2_with fail
      go_roundw
      case rel => exact ⟨j + 1, by omega, by go_num, H3.out.1, H3.out.2⟩
      case measure => simp [intOf]; omega
    · obtain rfl : j = 4 := by omega
      have HD := Lib.hid hd
      clear hd
      go_wp2_with fail
      go_ret
      refine ⟨g, A, cA, rfl, ?_, H1.out.2.2.2, fun b o e => (H1.out.2.2.1 b o e).1, HF.out⟩
      rw [← part_four hby]
      exact HD.out

set_option maxHeartbeats 1600000 in
/-- Decode: P4.2. -/
theorem qDecode_any (g l h : Nat) (A : Option Addr) (c : Nat) (bs : List Int) (p a : Nat) (ch : Int) (one : Bool) (w : World) (d : DecR w g l h (win bs p) A c bs a) (ha : a = p + 4) (o : Open l h) (hp : p ≤ 1000000000) (hone : decBit bs l h (cc ch) p = one) :
    Calls Tryd.prog 33 #[.pointer (some ⟨g, 0, none⟩), .int .i64 ch] w fun e w' => e = .returned (.int .i64 (bitN one)) ∧
      DecR w' g (enc1 one l h (cc ch)).2.1 (enc1 one l h (cc ch)).2.2 (win bs (p + (enc1 one l h (cc ch)).1.length)) A c bs (p + (enc1 one l h (cc ch)).1.length + 4) ∧ Kept (fun k => k = g) w w' := by
  obtain ⟨k, hk⟩ : ∃ k, cc ch = k := ⟨_, rfl⟩
  have hk2 := (cc_bd ch).2
  rw [hk] at hk2 hone
  have Hk := Lib.hid hk
  rw [hk]
  clear hk
  obtain ⟨E, hE⟩ : ∃ E, enc1 one l h k = E := ⟨_, rfl⟩
  rw [hE]
  have HE := Lib.hid hE
  clear hE
  unfold decBit at hone
  have c0 : w.cell? ⟨g, 0, none⟩ = some (.int .u32 l) := by simpa [cR] using d.blk.cell 0
  have c1 : w.cell? ⟨g, 1, none⟩ = some (.int .u32 h) := by simpa [cR] using d.blk.cell 1
  have c2 : w.cell? ⟨g, 2, none⟩ = some (.int .u32 (win bs p)) := by simpa [cR] using d.blk.cell 2
  have HB := Lib.hid d.byte
  have Ha := Lib.hid ha
  clear ha
  cases one
  · go_enter Tryd.func33, Tryd.ntmps33
    go_wp2_with fail
    go_region_held3 (fun w' => w'.cell? ⟨g, 0, none⟩ = some (.int .u32 l) ∧ w'.cell? ⟨g, 1, none⟩ = some (.int .u32 h) ∧ w'.cell? ⟨g, 2, none⟩ = some (.int .u32 (win bs p)))
      (first | go_keep | exact ⟨by simpa [cR] using hd1.blk.cell 0, by simpa [cR] using hd1.blk.cell 1, by simpa [cR] using hd1.blk.cell 2⟩)
      (first
        | (go_at_call 60; refine (qMid_any l h ch _ o).mono ?_; rw [Hk.out]; rintro e1 w1 ⟨rfl, hf1⟩; have hd1 := d.drew.fresh hf1))
    have hk1 : Kept (fun k => k = g) w w1 := ((Kept.refl _ _).drew).trans hf1 fun _ _ h => h.elim
    have HK1 := Lib.hid hk1
    have d0 : w1.cell? ⟨g, 0, none⟩ = some (.int .u32 l) := by simpa [cR] using hd1.blk.cell 0
    have d1 : w1.cell? ⟨g, 1, none⟩ = some (.int .u32 h) := by simpa [cR] using hd1.blk.cell 1
    clear hk1 hf1 c0 c1 c2 d
    go_wp2_with fail
    refine (qcut_any l h 0 ch _ o).mono ?_
    rw [show ((0 : Int) != 0) = false from rfl, Hk.out]
    rintro e2 w2 ⟨rfl, hf2⟩
    have hd2 := hd1.fresh hf2
    have hk2' := HK1.out.fresh hf2
    have x0 : w2.cell? ⟨g, 0, none⟩ = some (.int .u32 l) := by simpa [cR] using hd2.blk.cell 0
    have x1 : w2.cell? ⟨g, 1, none⟩ = some (.int .u32 h) := by simpa [cR] using hd2.blk.cell 1
    have f0 := hd2.blk.frozen 0
    have f1 := hd2.blk.frozen 1
    have hr2 := nar_rng (one := false) o.rng o.lt hk2
    have hE' : norm 5 (nar false l h k).1 (nar false l h k).2 = E := HE.out
    generalize (nar false l h k).1 = l1 at *
    generalize (nar false l h k).2 = h1 at *
    have hd3 : DecR ((w2.setCell ⟨g, 0, none⟩ (.int .u32 l1)).setCell ⟨g, 1, none⟩ (.int .u32 h1)) g l1 h1 (win bs p) A c bs (p + 4) := by
      have := (hd2.rL l1).rH h1
      rw [Ha.out] at this
      exact this
    have hk3 : Kept (fun k => k = g) w ((w2.setCell ⟨g, 0, none⟩ (.int .u32 l1)).setCell ⟨g, 1, none⟩ (.int .u32 h1)) := (hk2'.setCell (p := ⟨g, 0, none⟩) (fun _ => rfl) _).setCell (p := ⟨g, 1, none⟩) (fun _ => rfl) _
    have Hp := Lib.hid (And.intro hd3 (And.intro hk3 (Going.start hr2)))
    have HE' := Lib.hid hE'
    clear hE' HE hd3 hk3 hd2 hk2' hf2 hr2 hd1 d0 d1 o Hk hk2 hone
    go_wp2_with fail
    go_loopw [31] (fun _ wr => ∃ j out l2 h2, Going l1 h1 j out l2 h2 ∧ DecR wr g l2 h2 (win bs (p + j)) A c bs (p + j + 4) ∧ Kept (fun k => k = g) w wr) (fun _ wr => (4294967296 + numIn wr g 0 - numIn wr g 1).toNat)
    case atStart => exact ⟨0, [], l1, h1, Hp.out.2.2, Hp.out.1, Hp.out.2.1⟩
    case round =>
      obtain ⟨j, out, l2, h2, hgo, hd, hk⟩ := hrel
      have hj4 := hgo.le
      have Hgo := Lib.hid hgo
      have HK := Lib.hid hk
      clear hgo hk
      obtain ⟨P, hP⟩ : ∃ P, p + j = P := ⟨_, rfl⟩
      rw [hP] at hd
      have HP := Lib.hid hP
      have hPb : P ≤ 1000000004 := by omega
      clear hP
      have y0 : wr.cell? ⟨g, 0, none⟩ = some (.int .u32 l2) := by simpa [cR] using hd.blk.cell 0
      have y1 : wr.cell? ⟨g, 1, none⟩ = some (.int .u32 h2) := by simpa [cR] using hd.blk.cell 1
      go_wp2_with fail
      refine (qout_any l2 h2 _).mono ?_
      rintro e4 w4 ⟨rfl, hf4⟩
      have hd4 := hd.fresh hf4
      have hk4 := HK.out.fresh hf4
      have hm0 := hd.num 0 .u32 l2 rfl
      have hm1 := hd.num 1 .u32 h2 rfl
      have HM := Lib.hid (And.intro hm0 hm1)
      have HK4 := Lib.hid hk4
      clear hm0 hm1 hf4 hd hk4 y0 y1
      cases hs : settledB l2 h2
      · have Hs := Lib.hid hs
        clear hs
        have hfin : DecR w4 g E.2.1 E.2.2 (win bs (p + E.1.length)) A c bs (p + E.1.length + 4) ∧ Kept (fun k => k = g) w w4 := by
          have hfin := Hgo.out.done Hs.out
          rw [HE'.out] at hfin
          rw [hfin]
          refine ⟨?_, HK4.out⟩
          rw [Hgo.out.len, HP.out]
          exact hd4
        have HF := Lib.hid hfin
        clear hfin
        go_wp2_with fail
        go_ret
        exact ⟨rfl, HF.out⟩
      · have Hs := Lib.hid hs
        clear hs
        have z0 : w4.cell? ⟨g, 0, none⟩ = some (.int .u32 l2) := by simpa [cR] using hd4.blk.cell 0
        have z1 : w4.cell? ⟨g, 1, none⟩ = some (.int .u32 h2) := by simpa [cR] using hd4.blk.cell 1
        go_wp2_with fail
        refine (qnext_any l2 h2 _).mono ?_
        rintro e5 w5 ⟨rfl, hf5⟩
        have hd5 := hd4.fresh hf5
        have v0 : w5.cell? ⟨g, 0, none⟩ = some (.int .u32 l2) := by simpa [cR] using hd5.blk.cell 0
        have v1 : w5.cell? ⟨g, 1, none⟩ = some (.int .u32 h2) := by simpa [cR] using hd5.blk.cell 1
        have g0 := hd5.blk.frozen 0
        have g1 := hd5.blk.frozen 1
        have hd6 := (hd5.rL (shl l2)).rH (shh h2)
        have hk6 : Kept (fun k => k = g) w ((w5.setCell ⟨g, 0, none⟩ (.int .u32 (shl l2))).setCell ⟨g, 1, none⟩ (.int .u32 (shh h2))) := ((HK4.out.fresh hf5).setCell (p := ⟨g, 0, none⟩) (fun _ => rfl) _).setCell (p := ⟨g, 1, none⟩) (fun _ => rfl) _
        have HK6 := Lib.hid hk6
        clear hd4 hd5 hk6 hf5 z0 z1
        go_wp2_with fail
        refine (qtake_any g _ _ _ A c bs (P + 4) _ hd6 (by omega)).mono ?_
        rintro e7 w7 ⟨rfl, hd7, hk7⟩
        have hwn : pushN bs (win bs P) (P + 4) = win bs (P + 1) := by rw [win_next HB.out P]; rfl
        rw [hwn] at hd7
        have hm0 := hd7.num 0 .u32 (shl l2) rfl
        have hm1 := hd7.num 1 .u32 (shh h2) rfl
        have HM7 := Lib.hid (And.intro hm0 hm1)
        have HD7 := Lib.hid (And.intro hd7 (HK6.out.trans hk7 fun _ _ h => h))
        obtain ⟨hj3, hnx⟩ := Hgo.out.next Hs.out
        have HN := Lib.hid hnx
        clear hd6 hd7 hm0 hm1 hnx hwn hk7
        go_wp2_with fail
        go_roundw
        case rel => exact ⟨j + 1, _, _, _, HN.out, by rw [show p + (j + 1) = P + 1 from by have := HP.out; omega]; exact HD7.out.1, HD7.out.2⟩
        case measure =>
          rw [HM.out.1, HM.out.2, HM7.out.1, HM7.out.2]
          have h1 := settled_shift Hgo.out.rng Hs.out
          have h2 := Hgo.out.rng
          unfold Rng at h1 h2
          omega
  · go_enter Tryd.func33, Tryd.ntmps33
    go_wp2_with fail
    go_region_held3 (fun w' => w'.cell? ⟨g, 0, none⟩ = some (.int .u32 l) ∧ w'.cell? ⟨g, 1, none⟩ = some (.int .u32 h) ∧ w'.cell? ⟨g, 2, none⟩ = some (.int .u32 (win bs p)))
      (first | go_keep | exact ⟨by simpa [cR] using hd1.blk.cell 0, by simpa [cR] using hd1.blk.cell 1, by simpa [cR] using hd1.blk.cell 2⟩)
      (first
        | (go_at_call 60; refine (qMid_any l h ch _ o).mono ?_; rw [Hk.out]; rintro e1 w1 ⟨rfl, hf1⟩; have hd1 := d.drew.fresh hf1))
    have hk1 : Kept (fun k => k = g) w w1 := ((Kept.refl _ _).drew).trans hf1 fun _ _ h => h.elim
    have HK1 := Lib.hid hk1
    have d0 : w1.cell? ⟨g, 0, none⟩ = some (.int .u32 l) := by simpa [cR] using hd1.blk.cell 0
    have d1 : w1.cell? ⟨g, 1, none⟩ = some (.int .u32 h) := by simpa [cR] using hd1.blk.cell 1
    clear hk1 hf1 c0 c1 c2 d
    go_wp2_with fail
    refine (qcut_any l h 1 ch _ o).mono ?_
    rw [show ((1 : Int) != 0) = true from rfl, Hk.out]
    rintro e2 w2 ⟨rfl, hf2⟩
    have hd2 := hd1.fresh hf2
    have hk2' := HK1.out.fresh hf2
    have x0 : w2.cell? ⟨g, 0, none⟩ = some (.int .u32 l) := by simpa [cR] using hd2.blk.cell 0
    have x1 : w2.cell? ⟨g, 1, none⟩ = some (.int .u32 h) := by simpa [cR] using hd2.blk.cell 1
    have f0 := hd2.blk.frozen 0
    have f1 := hd2.blk.frozen 1
    have hr2 := nar_rng (one := true) o.rng o.lt hk2
    have hE' : norm 5 (nar true l h k).1 (nar true l h k).2 = E := HE.out
    generalize (nar true l h k).1 = l1 at *
    generalize (nar true l h k).2 = h1 at *
    have hd3 : DecR ((w2.setCell ⟨g, 0, none⟩ (.int .u32 l1)).setCell ⟨g, 1, none⟩ (.int .u32 h1)) g l1 h1 (win bs p) A c bs (p + 4) := by
      have := (hd2.rL l1).rH h1
      rw [Ha.out] at this
      exact this
    have hk3 : Kept (fun k => k = g) w ((w2.setCell ⟨g, 0, none⟩ (.int .u32 l1)).setCell ⟨g, 1, none⟩ (.int .u32 h1)) := (hk2'.setCell (p := ⟨g, 0, none⟩) (fun _ => rfl) _).setCell (p := ⟨g, 1, none⟩) (fun _ => rfl) _
    have Hp := Lib.hid (And.intro hd3 (And.intro hk3 (Going.start hr2)))
    have HE' := Lib.hid hE'
    clear hE' HE hd3 hk3 hd2 hk2' hf2 hr2 hd1 d0 d1 o Hk hk2 hone
    go_wp2_with fail
    go_loopw [31] (fun _ wr => ∃ j out l2 h2, Going l1 h1 j out l2 h2 ∧ DecR wr g l2 h2 (win bs (p + j)) A c bs (p + j + 4) ∧ Kept (fun k => k = g) w wr) (fun _ wr => (4294967296 + numIn wr g 0 - numIn wr g 1).toNat)
    case atStart => exact ⟨0, [], l1, h1, Hp.out.2.2, Hp.out.1, Hp.out.2.1⟩
    case round =>
      obtain ⟨j, out, l2, h2, hgo, hd, hk⟩ := hrel
      have hj4 := hgo.le
      have Hgo := Lib.hid hgo
      have HK := Lib.hid hk
      clear hgo hk
      obtain ⟨P, hP⟩ : ∃ P, p + j = P := ⟨_, rfl⟩
      rw [hP] at hd
      have HP := Lib.hid hP
      have hPb : P ≤ 1000000004 := by omega
      clear hP
      have y0 : wr.cell? ⟨g, 0, none⟩ = some (.int .u32 l2) := by simpa [cR] using hd.blk.cell 0
      have y1 : wr.cell? ⟨g, 1, none⟩ = some (.int .u32 h2) := by simpa [cR] using hd.blk.cell 1
      go_wp2_with fail
      refine (qout_any l2 h2 _).mono ?_
      rintro e4 w4 ⟨rfl, hf4⟩
      have hd4 := hd.fresh hf4
      have hk4 := HK.out.fresh hf4
      have hm0 := hd.num 0 .u32 l2 rfl
      have hm1 := hd.num 1 .u32 h2 rfl
      have HM := Lib.hid (And.intro hm0 hm1)
      have HK4 := Lib.hid hk4
      clear hm0 hm1 hf4 hd hk4 y0 y1
      cases hs : settledB l2 h2
      · have Hs := Lib.hid hs
        clear hs
        have hfin : DecR w4 g E.2.1 E.2.2 (win bs (p + E.1.length)) A c bs (p + E.1.length + 4) ∧ Kept (fun k => k = g) w w4 := by
          have hfin := Hgo.out.done Hs.out
          rw [HE'.out] at hfin
          rw [hfin]
          refine ⟨?_, HK4.out⟩
          rw [Hgo.out.len, HP.out]
          exact hd4
        have HF := Lib.hid hfin
        clear hfin
        go_wp2_with fail
        go_ret
        exact ⟨rfl, HF.out⟩
      · have Hs := Lib.hid hs
        clear hs
        have z0 : w4.cell? ⟨g, 0, none⟩ = some (.int .u32 l2) := by simpa [cR] using hd4.blk.cell 0
        have z1 : w4.cell? ⟨g, 1, none⟩ = some (.int .u32 h2) := by simpa [cR] using hd4.blk.cell 1
        go_wp2_with fail
        refine (qnext_any l2 h2 _).mono ?_
        rintro e5 w5 ⟨rfl, hf5⟩
        have hd5 := hd4.fresh hf5
        have v0 : w5.cell? ⟨g, 0, none⟩ = some (.int .u32 l2) := by simpa [cR] using hd5.blk.cell 0
        have v1 : w5.cell? ⟨g, 1, none⟩ = some (.int .u32 h2) := by simpa [cR] using hd5.blk.cell 1
        have g0 := hd5.blk.frozen 0
        have g1 := hd5.blk.frozen 1
        have hd6 := (hd5.rL (shl l2)).rH (shh h2)
        have hk6 : Kept (fun k => k = g) w ((w5.setCell ⟨g, 0, none⟩ (.int .u32 (shl l2))).setCell ⟨g, 1, none⟩ (.int .u32 (shh h2))) := ((HK4.out.fresh hf5).setCell (p := ⟨g, 0, none⟩) (fun _ => rfl) _).setCell (p := ⟨g, 1, none⟩) (fun _ => rfl) _
        have HK6 := Lib.hid hk6
        clear hd4 hd5 hk6 hf5 z0 z1
        go_wp2_with fail
        refine (qtake_any g _ _ _ A c bs (P + 4) _ hd6 (by omega)).mono ?_
        rintro e7 w7 ⟨rfl, hd7, hk7⟩
        have hwn : pushN bs (win bs P) (P + 4) = win bs (P + 1) := by rw [win_next HB.out P]; rfl
        rw [hwn] at hd7
        have hm0 := hd7.num 0 .u32 (shl l2) rfl
        have hm1 := hd7.num 1 .u32 (shh h2) rfl
        have HM7 := Lib.hid (And.intro hm0 hm1)
        have HD7 := Lib.hid (And.intro hd7 (HK6.out.trans hk7 fun _ _ h => h))
        obtain ⟨hj3, hnx⟩ := Hgo.out.next Hs.out
        have HN := Lib.hid hnx
        clear hd6 hd7 hm0 hm1 hnx hwn hk7
        go_wp2_with fail
        go_roundw
        case rel => exact ⟨j + 1, _, _, _, HN.out, by rw [show p + (j + 1) = P + 1 from by have := HP.out; omega]; exact HD7.out.1, HD7.out.2⟩
        case measure =>
          rw [HM.out.1, HM.out.2, HM7.out.1, HM7.out.2]
          have h1 := settled_shift Hgo.out.rng Hs.out
          have h2 := Hgo.out.rng
          unfold Rng at h1 h2
          omega

end Go.Proofs.YtpknbfkknnaajaaDoor

/- The document's decoder and model side by side: unpacking. -/
namespace Go.Proofs.YtpknbfkknnaajaaDoor
set_option maxRecDepth 100000
open Go.RowKit

/-- The document's decoder and model, each at its bits; what lies in A is none of theirs. -/
structure UpR (A : Nat → Prop) (wr : World) (gd gm lv : Nat) (B : Option Addr) (c : Nat) (bs : List Int) (s : DS) (Lm : List Bool) : Prop where
  dec : DecR wr gd s.l s.h (win bs s.p) B c bs (s.p + 4)
  enc : s.Enc lv
  mdl : MdR (fun k => A k ∨ k = gd ∨ (0 < bs.length ∧ ∃ o, B = some ⟨k, o, none⟩)) wr gm lv (mos lv Lm mo0)
  far : ∀ k, A k → k ≠ gd ∧ k < wr.heap.size ∧ ∀ o, 0 < bs.length → B ≠ some ⟨k, o, none⟩
section
variable {A A' S : Nat → Prop} {wr w' : World} {gd gm lv : Nat} {B : Option Addr} {c : Nat} {bs : List Int} {s : DS} {Lm : List Bool}
theorem UpR.ask (h : UpR A wr gd gm lv B c bs s Lm) : Calls Tryd.prog 24 #[.pointer (some ⟨gm, 0, none⟩)] wr fun e w' => e = .returned (.int .i64 (kS lv Lm : Nat)) ∧ UpR A w' gd gm lv B c bs s Lm ∧ Kept (fun k => ¬ A k) wr w' := by
  refine (mrChance_any _ gm lv _ wr h.mdl).mono ?_
  rintro e w' ⟨rfl, hm, hk⟩
  refine ⟨?_, ⟨h.dec.kept hk (fun e => e (.inr (.inl rfl))) (fun b o e h0 e2 => e2 (.inr (.inr ⟨h0, o, e⟩))), h.enc, hm, fun k e => ⟨(h.far k e).1, Nat.lt_of_lt_of_le (h.far k e).2.1 hk.size, (h.far k e).2.2⟩⟩, hk.mono fun k _ e e2 => e (.inl e2)⟩
  rw [← kS_int]
theorem UpR.teach (h : UpR A wr gd gm lv B c bs s Lm) (b : Int) : Calls Tryd.prog 25 #[.pointer (some ⟨gm, 0, none⟩), .int .i64 b] wr fun e w' => e = .returned (.tuple #[]) ∧ UpR A w' gd gm lv B c bs s (Lm ++ [b != 0]) ∧ Kept (fun k => ¬ A k) wr w' := by
  refine (mrLearn_any _ gm lv _ b wr h.mdl).mono ?_
  rintro e w' ⟨rfl, hm, hk⟩
  rw [← mos_snoc] at hm
  exact ⟨rfl, ⟨h.dec.kept hk (fun e => e (.inr (.inl rfl))) (fun b o e h0 e2 => e2 (.inr (.inr ⟨h0, o, e⟩))), h.enc, hm, fun k e => ⟨(h.far k e).1, Nat.lt_of_lt_of_le (h.far k e).2.1 hk.size, (h.far k e).2.2⟩⟩, hk.mono fun k _ e e2 => e (.inl e2)⟩
theorem UpR.read (h : UpR A wr gd gm lv B c bs s Lm) (hl : s.L.length ≤ 100000000) : Calls Tryd.prog 33 #[.pointer (some ⟨gd, 0, none⟩), .int .i64 (kS lv s.L : Nat)] wr fun e w' => e = .returned (.int .i64 (bitN (s.one lv bs))) ∧ UpR A w' gd gm lv B c bs (s.step lv bs) Lm ∧ Kept (fun k => ¬ A k) wr w' := by
  have hlen := encS_len lv s.L
  have hp := h.enc.p
  have hD := qDecode_any gd _ _ B c bs s.p (s.p + 4) (kS lv s.L : Nat) (s.one lv bs) wr h.dec rfl h.enc.range (by omega) (by rw [cc_kS]; rfl)
  rw [cc_kS] at hD
  refine hD.mono ?_
  rintro e w' ⟨rfl, hd, hk⟩
  refine ⟨rfl, ⟨?_, h.enc.step bs, h.mdl.kept hk (fun k e => .inr (.inl e)), fun k e => ⟨(h.far k e).1, Nat.lt_of_lt_of_le (h.far k e).2.1 hk.size, (h.far k e).2.2⟩⟩, hk.mono fun k _ e e2 => (h.far k e2).1 e⟩
  rw [DS.step, DS.by_l, DS.by_h, DS.by_p]
  exact hd
/-- Other blocks that are none of theirs. -/
theorem UpR.move (h : UpR A wr gd gm lv B c bs s Lm) (hk : Kept S wr w') (hS : ∀ k, S k → A k) (hA : ∀ k, A' k → k < w'.heap.size ∧ (A k ∨ wr.heap.size ≤ k)) : UpR A' w' gd gm lv B c bs s Lm := by
  have hg := h.dec.blk.lt
  have hs := hk.size
  have hB : ∀ k o, 0 < bs.length → B = some ⟨k, o, none⟩ → k < wr.heap.size := fun k o h0 e => by
    obtain ⟨b', o', e', hb', _⟩ := h.dec.row.at_ 0 h0
    rw [e] at e'
    injection e' with e'
    injection e' with e1 e2
    subst e1
    exact hb'
  refine ⟨h.dec.kept hk (fun e => (h.far _ (hS _ e)).1 rfl) (fun b o e h0 e2 => (h.far _ (hS _ e2)).2.2 o h0 e), h.enc, h.mdl.move hk (fun k e => .inl (hS k e)) (fun k e => ?_), fun k e => ⟨?_, (hA k e).1, fun o h0 e2 => ?_⟩⟩
  · rcases e with e | e | ⟨h0, o, e⟩
    · exact ⟨(hA k e).1, (hA k e).2.elim (fun e => .inl (.inl e)) .inr⟩
    · exact ⟨by omega, .inl (.inr (.inl e))⟩
    · exact ⟨Nat.lt_of_lt_of_le (hB k o h0 e) hs, .inl (.inr (.inr ⟨h0, o, e⟩))⟩
  · rcases (hA k e).2 with h4 | h4
    · exact (h.far k h4).1
    · omega
  · rcases (hA k e).2 with h4 | h4
    · exact (h.far k h4).2.2 o h0 e2
    · have := hB k o h0 e2; omega
end

end Go.Proofs.YtpknbfkknnaajaaDoor
