/- BitsRead: whatever calls come on a reader of any bytes: each answer, what is left and the fault are the document's; what was handed in stays. For every list of bytes and every script. -/
import Derived.Test.YtlfelnbdlgmmiaaBitsAwake
import Derived.Test.YtlfelnbdlgmmiaaBitsRef
import Derived.Test.YtlfelnbdlgmmiaaHelpByte
import Derived.Test.YtlfelnbdlgmmiaaLaw
import Derived.Deep.RegionHeld3
import Derived.Deep.DrawnRows
namespace Go.Proofs.Ytlfelnbdlgmmiaa.bitsRead
open Go.ChangeShapes Go.WideShapes Go.ChangeAt Go.RowKit

attribute [local go_sem ↓] Go.wp_at_zero Go.wp_at_succ

set_option maxHeartbeats 800000 in
theorem new_any (A : Option Addr) (n c : Nat) (xs : List Int) (w : World) (h : Row w .u8 A n xs) (hn : n ≤ 100000000) (hby : ∀ j, 0 ≤ xs.getD j 0 ∧ xs.getD j 0 < 256) :
    Calls Try.prog 7 #[.slice A n c] w fun e w' => ∃ g B d, e = .returned (.pointer (some ⟨g, 0, none⟩)) ∧ Rd w' g 52 B d xs 0 0 ∧ w.heap.size ≤ g ∧ (∀ b o, B = some ⟨b, o, none⟩ → w.heap.size ≤ b) ∧ Fresh w w' := by
  obtain ⟨i0, hi, hz0, hz1, hz2⟩ := info_parts Try.infoByte
  have Hlen := Lib.hid h.len
  go_enter Try.func7, Try.ntmps7
  go_wp2_with (at_builtin; refine wpList_app _ rfl _ _ 22 rfl 5 i0 .u8 1 Try.underlying22 hi hz0 hz1 hz2 (.slice none 0 0) [] rfl (Own.nil _ _ _) A n c xs rfl h (by unfold maxLen; simp; omega) (by simp; omega) ?_)
  intro v' w1 hown hg hat
  obtain ⟨B, d, rfl, hr, hB⟩ := hown.row
  have hk : Fresh w w1 := (Kept.refl _ _).grown hg (fun k e _ => by cases e)
  have hBl : ∀ b o, B = some ⟨b, o, none⟩ → w.heap.size ≤ b := by
    intro b o e
    have := hB b o e
    rcases hat with e' | e'
    · rw [e'] at this; cases this
    · rw [e'] at this; injection this with this; omega
  have Hb := Lib.hid hBl
  clear hown hB hg hat hBl
  go_wp2
  go_ret
  have hr' := hr.kept ((Kept.refl (fun _ => False) _).alloc (.cells #[.slice B xs.length d, .int .i64 0, .int .i64 0] 52)) (fun _ _ _ _ => id)
  exact ⟨w1.heap.size, B, d, rfl, ⟨Blk.new _ _ _, hr', hby, by omega, by have := Hlen.out; omega⟩, hk.size, Hb.out, hk.alloc _⟩

/-- A script in memory: for each operation its three cells. -/
def Script (w : World) (S : Option Addr) (m : Nat) : Prop :=
  ∀ i, i < m → ∃ (b o : Nat) (K N V : Int), S = some ⟨b, o, none⟩ ∧ b < w.heap.size ∧ -9223372036854775808 ≤ N ∧ N ≤ 9223372036854775807 ∧
    w.cell? ⟨b, o + i * 3, none⟩ = some (.int .i64 K) ∧ w.cell? ⟨b, o + i * 3 + 1, none⟩ = some (.int .i64 N) ∧ w.cell? ⟨b, o + i * 3 + 2, none⟩ = some (.int .u32 V)

/-- Both readers stand at one place, with one fault. -/
structure Both (w wr : World) (g g2 : Nat) (A B : Option Addr) (c d : Nat) (xs : List Int) (p : Nat) (err : Int) : Prop where
  r : Rd wr g 52 B d xs p err
  q : Rd wr g2 31 A c xs p err
  fr : Fresh w wr
  hg : w.heap.size ≤ g
  hg2 : w.heap.size ≤ g2
  ne : g ≠ g2
  hB : ∀ b o, B = some ⟨b, o, none⟩ → 0 < xs.length → b ≠ g2
  hA : ∀ b o, A = some ⟨b, o, none⟩ → 0 < xs.length → b < w.heap.size

theorem Both.alloc {w wr : World} {g g2 : Nat} {A B : Option Addr} {c d : Nat} {xs : List Int} {p : Nat} {err : Int} (h : Both w wr g g2 A B c d xs p err) (o : Obj) : Both w (wr.alloc o) g g2 A B c d xs p err :=
  have hk := (Kept.refl (fun _ => False) wr).alloc o
  ⟨h.r.kept hk id (fun _ _ _ _ => id), h.q.kept hk id (fun _ _ _ _ => id), h.fr.alloc o, h.hg, h.hg2, h.ne, h.hB, h.hA⟩

theorem Both.drewN {w wr : World} {g g2 : Nat} {A B : Option Addr} {c d : Nat} {xs : List Int} {p : Nat} {err : Int} (h : Both w wr g g2 A B c d xs p err) (n : Nat) : Both w (wr.drewN n) g g2 A B c d xs p err :=
  ⟨h.r.drewN n, h.q.drewN n, h.fr.drewN n, h.hg, h.hg2, h.ne, h.hB, h.hA⟩

theorem Both.kept {S : Nat → Prop} {w wr w' : World} {g g2 : Nat} {A B : Option Addr} {c d : Nat} {xs : List Int} {p : Nat} {err : Int} (h : Both w wr g g2 A B c d xs p err) (hk : Kept S wr w')
    (h1 : ¬ S g) (h2 : ¬ S g2) (h3 : ∀ b o, B = some ⟨b, o, none⟩ → 0 < xs.length → ¬ S b) (h4 : ∀ k, k < w.heap.size → ¬ S k) : Both w w' g g2 A B c d xs p err :=
  ⟨h.r.kept hk h1 h3, h.q.kept hk h2 (fun b o e hl => h4 b (h.hA b o e hl)), h.fr.trans hk (fun i hi hs => h4 i hi hs), h.hg, h.hg2, h.ne, h.hB, h.hA⟩

theorem Both.drew {w wr : World} {g g2 : Nat} {A B : Option Addr} {c d : Nat} {xs : List Int} {p : Nat} {err : Int} (h : Both w wr g g2 A B c d xs p err) : Both w wr.drew g g2 A B c d xs p err :=
  h.kept (Kept.refl (fun _ => False) wr).drew id id (fun _ _ _ _ => id) (fun _ _ => id)

/-- Both have made the same step. -/
theorem Both.step {w wr w1 w2 : World} {g g2 : Nat} {A B : Option Addr} {c d : Nat} {xs : List Int} {p p' : Nat} {err err' : Int} (h : Both w wr g g2 A B c d xs p err)
    (h1 : RPost wr w1 g 52 B d xs p' err') (h2 : RPost w1 w2 g2 31 A c xs p' err') : Both w w2 g g2 A B c d xs p' err' :=
  ⟨h1.1.kept h2.2 h.ne (fun b o e hl => h.hB b o e hl), h2.1,
   (h.fr.trans h1.2 (fun i hi e => by subst e; have := h.hg; omega)).trans h2.2 (fun i hi e => by subst e; have := h.hg2; omega), h.hg, h.hg2, h.ne, h.hB, h.hA⟩

theorem Both.mid {w wr w1 : World} {g g2 : Nat} {A B : Option Addr} {c d : Nat} {xs : List Int} {p p' : Nat} {err err' : Int} (h : Both w wr g g2 A B c d xs p err)
    (h1 : RPost wr w1 g 52 B d xs p' err') : Rd w1 g2 31 A c xs p err :=
  h.q.kept h1.2 (Ne.symm h.ne) (fun b o e hl => by have := h.hA b o e hl; have := h.hg; omega)

set_option maxRecDepth 100000 in
set_option maxHeartbeats 4000000 in
theorem walk (A S : Option Addr) (n c m d : Nat) (xs : List Int) (w : World) (hx : Row w .u8 A n xs) (hby : ∀ j, 0 ≤ xs.getD j 0 ∧ xs.getD j 0 < 256) (hnil : A = none → c = 0) (hs : Script w S m) :
    Calls Try.prog 3 #[.slice A n c, .slice S m d] w fun e w' => e = .returned (.bool true) ∧ Below w.heap.size w w' := by
  have HS := Lib.hid hs
  have HX := Lib.hid hx
  have hxl := hx.len
  have Hxl := Lib.hid hxl
  clear hs hx hxl
  by_cases hn : n ≤ 3000
  · have hgt : ¬ (3000 : Int) < n := by omega
    go_enter Try.func3, Try.ntmps3
    go_wp2_with fail
    refine (hOwnByte_any A n c xs 71 _ HX.out hnil (by omega)).mono ?_
    rintro e w1 ⟨q, rfl, hcp, hq, hk1⟩
    go_wp2_with fail
    refine (new_any (some ⟨q, 0, none⟩) n (n + 3) xs _ (by have := hcp.row; rw [Hxl.out] at this; exact this) (by omega) hby).mono ?_
    rintro e w2 ⟨g, B, bd, rfl, hr, hg, hB, hk2⟩
    have hq2 := hcp.blk.lt
    have hcp2 : Copy w2 q 5 .u8 xs 71 := ⟨hcp.blk.kept hk2 id⟩
    have hfr2 : Fresh w w2 := hk1.trans hk2 (fun _ _ e => e)
    clear hcp
    go_wp2_with fail
    have h3 : Both w (w2.alloc (.cells #[.slice A n c, .int .i64 0, .int .i64 0] 31)) g w2.heap.size A B c bd xs 0 0 := by
      have hk3 := (Kept.refl (fun _ => False) w2).alloc (.cells #[.slice A n c, .int .i64 0, .int .i64 0] 31)
      have hl := Hxl.out
      refine ⟨hr.kept hk3 id (fun _ _ _ _ => id), ⟨?_, ?_, hby, by omega, by omega⟩, hfr2.alloc _, Nat.le_trans hk1.size hg, hfr2.size, ?_, ?_, ?_⟩
      · have := Blk.new w2 31 #[.slice A n c, .int .i64 0, .int .i64 0]
        rw [← hl] at this ⊢
        exact this
      · rw [hl]
        exact HX.out.kept (hfr2.alloc _) (fun _ _ _ _ => id)
      · have := hr.blk.lt; omega
      · intro b o e hpos
        obtain ⟨b', o', e', hb', _⟩ := hr.row.at_ 0 hpos
        rw [e] at e'; injection e' with e'; injection e' with e1; omega
      · intro b o e hpos
        obtain ⟨b', o', e', hb', _⟩ := HX.out.at_ 0 (by omega)
        rw [e] at e'; injection e' with e'; injection e' with e1; omega
    have hcp3 : Copy (w2.alloc (.cells #[.slice A n c, .int .i64 0, .int .i64 0] 31)) q 5 .u8 xs 71 := ⟨hcp2.blk.alloc _⟩
    have hqg2 : q < w2.heap.size := Nat.lt_of_lt_of_le hq2 hk2.size
    generalize w2.alloc (.cells #[.slice A n c, .int .i64 0, .int .i64 0] 31) = w3 at *
    generalize w2.heap.size = g2 at *
    clear hcp2 hr hfr2 hk2
    refine (awake_any _).mono ?_
    rintro e w4 ⟨rfl, hk4⟩
    have h4 := h3.kept hk4 id id (fun _ _ _ _ => id) (fun _ _ => id)
    have hcp4 : Copy w4 q 5 .u8 xs 71 := ⟨hcp3.blk.kept hk4 id⟩
    clear h3 hcp3 hk4
    go_wp2_with fail
    refine (hKeptByte_any q n c A xs 71 _ hcp4 (HX.out.kept h4.fr (fun _ _ _ _ => id)) (by omega)).mono ?_
    rintro e w5 ⟨rfl, k5, rfl⟩
    have h5 := h4.drewN k5
    have hcp5 : Copy (w4.drewN k5) q 5 .u8 xs 71 := ⟨hcp4.blk⟩
    clear h4 hcp4
    generalize w4.drewN k5 = w5 at *
    go_wp2_with fail
    refine (hSpoil_any q 0 n (n + 3) _ xs _ (by have := hcp5.row; rw [Hxl.out] at this; exact this) rfl (fun j => hcp5.blk.frozen _) (by omega)).mono ?_
    rintro e w6 ⟨rfl, hk6⟩
    have h6 := h5.kept hk6 (by omega) (by omega) (fun b o e _ => by have := hB b o e; omega) (fun k hk => by omega)
    clear h5 hcp5 hk6
    have H6 := Lib.hid h6
    clear h6 hB hk1 hq2 hg
    go_wp2_with fail
    go_loopw [8] (fun i wr => ∃ (k p : Nat) (err : Int), k ≤ m ∧ i = .int .i64 k ∧ Both w wr g g2 A B c bd xs p err) (fun i _ => (m - intOf i).toNat)
    case atStart => exact ⟨0, 0, 0, by omega, rfl, H6.out⟩
    case round =>
      obtain ⟨k, p, err, hk, rfl, hboth⟩ := hrel
      have HB := Lib.hid hboth
      clear hboth
      by_cases hlt : k < m ∧ k < 200
      · obtain ⟨hkm, hk2⟩ := hlt
        obtain ⟨sb, so, K, N, V, rfl, hsb, hN1, hN2, hc0', hc1', hc2'⟩ := HS.out k hkm
        have hc0 := (HB.out.fr.cell (p := ⟨sb, so + k * 3, none⟩) hsb id).trans hc0'
        have hc1 := (HB.out.fr.cell (p := ⟨sb, so + k * 3 + 1, none⟩) hsb id).trans hc1'
        have hc2 := (HB.out.fr.cell (p := ⟨sb, so + k * 3 + 2, none⟩) hsb id).trans hc2'
        clear hc0' hc1' hc2'
        have hi0 : (0 : Int) ≤ (k : Int) := by omega
        have hi1 : (k : Int) < (m : Int) := by omega
        have hi2 : (k : Int) < 200 := by omega
        have hi3 : decide ((k : Int) < 200) = true := by simp; omega
        go_wp2_with fail
        all_goals
          have h0 := HB.out.alloc (.cells #[.int .i64 K, .int .i64 N, .int .u32 V] 36)
          have hcN := (Blk.new wr 36 #[.int .i64 K, .int .i64 N, .int .u32 V]).cell 1
          have hol := (Blk.new wr 36 #[.int .i64 K, .int .i64 N, .int .u32 V]).lt
          have hog : wr.heap.size ≠ g := by have := HB.out.r.blk.lt; omega
          have hog2 : wr.heap.size ≠ g2 := by have := HB.out.q.blk.lt; omega
          simp only [List.getElem?_toArray, List.getElem?_cons_succ, List.getElem?_cons_zero] at hcN
          generalize wr.alloc (.cells #[.int .i64 K, .int .i64 N, .int .u32 V] 36) = W0 at *
          generalize wr.heap.size = ob at *
          clear hc0 hc1 hc2
        · go_region_held3 (fun w' => w'.cell? ⟨ob, 1, none⟩ = some (.int .i64 N))
            (first | go_keep | exact (hp2.2.cell (p := ⟨ob, 1, none⟩) (Nat.lt_of_lt_of_le hol hp1.2.size) hog2).trans ((hp1.2.cell (p := ⟨ob, 1, none⟩) hol hog).trans hcN) | exact (hp1.2.cell (p := ⟨ob, 1, none⟩) hol hog).trans hcN)
            (first
              | (go_at_call 10; refine (rBits_any g B bd xs p err N _ h0.drew.r).mono ?_; rintro e w1 ⟨rfl, hp1⟩)
              | (go_at_call 11; refine (qBits_any g2 A c xs p err N _ (h0.drew.mid hp1)).mono ?_; rintro e w2 ⟨rfl, hp2⟩))
          obtain ⟨p', err', hb⟩ : ∃ p' err', Both w w2 g g2 A B c bd xs p' err' := ⟨_, _, h0.drew.step hp1 hp2⟩
          clear hp1 hp2 h0 hcN
          obtain ⟨L, hL⟩ : ∃ L, p' + L = 8 * xs.length := ⟨8 * xs.length - p', by have := hb.r.le; omega⟩
          have hLi : ((L : Int) != (L : Int)) = false := by simp
          have hEi : (err' != err') = false := by simp
          obtain ⟨E, hE⟩ : ∃ E, sEnd xs p' err' L = E := ⟨_, rfl⟩
          have hE1 := fun W hW => rEnd_any g B bd xs p' L err' W hW hL
          have hE2 := fun W hW => qEnd_any g2 A c xs p' L err' W hW hL
          rw [hE] at hE1 hE2
          have hEE : (E != E) = false := by simp
          have HE1 := Lib.hid hE1
          have HE2 := Lib.hid hE2
          have HL := Lib.hid hL
          have c2 := hb.q.blk.cell 2
          simp at c2
          clear hE1 hE2 hE hL
          go_wp2_with fail
          go_quiet (first
            | (go_at_call 18; exact Calls.quiet_of (rLeft_any g B bd xs p' L err' _ (hb.r.drewN _) HL.out))
            | (go_at_call 19; exact Calls.quiet_of (qLeft_any g2 A c xs p' L err' _ (hb.q.drewN _) HL.out))
            | (go_at_call 20; exact Calls.quiet_of_same ((rErr_any g B bd xs p' err' _ (hb.r.drewN _)).mono fun e w' h => ⟨h.1, h.2.symm⟩))
            | (go_at_call 14; exact Calls.quiet_of (HE1.out _ (hb.r.drewN _)))
            | (go_at_call 15; exact Calls.quiet_of (HE2.out _ (hb.q.drewN _))))
          go_wp2_with fail
          go_roundw
          case rel => exact ⟨k + 1, p', err', by omega, by go_num, hb.drewN _⟩
          case measure => simp [intOf]; omega
        · go_region_held3 (fun w' => w'.cell? ⟨ob, 1, none⟩ = some (.int .i64 N))
            (first | go_keep | exact (hp2.2.cell (p := ⟨ob, 1, none⟩) (Nat.lt_of_lt_of_le hol hp1.2.size) hog2).trans ((hp1.2.cell (p := ⟨ob, 1, none⟩) hol hog).trans hcN) | exact (hp1.2.cell (p := ⟨ob, 1, none⟩) hol hog).trans hcN)
            (first
              | (go_at_call 12; refine (rUnary_any g B bd xs p (8 * xs.length - p) N.toNat err N _ h0.drew.r (by have := h0.r.le; omega) rfl hN2).mono ?_; rintro e w1 ⟨rfl, hp1⟩)
              | (go_at_call 13; refine (qUnary_any g2 A c xs p (8 * xs.length - p) N.toNat err N _ (h0.drew.mid hp1) (by have := h0.r.le; omega) rfl hN2).mono ?_; rintro e w2 ⟨rfl, hp2⟩))
          obtain ⟨p', err', hb⟩ : ∃ p' err', Both w w2 g g2 A B c bd xs p' err' := ⟨_, _, h0.drew.step hp1 hp2⟩
          clear hp1 hp2 h0 hcN
          obtain ⟨L, hL⟩ : ∃ L, p' + L = 8 * xs.length := ⟨8 * xs.length - p', by have := hb.r.le; omega⟩
          have hLi : ((L : Int) != (L : Int)) = false := by simp
          have hEi : (err' != err') = false := by simp
          obtain ⟨E, hE⟩ : ∃ E, sEnd xs p' err' L = E := ⟨_, rfl⟩
          have hE1 := fun W hW => rEnd_any g B bd xs p' L err' W hW hL
          have hE2 := fun W hW => qEnd_any g2 A c xs p' L err' W hW hL
          rw [hE] at hE1 hE2
          have hEE : (E != E) = false := by simp
          have HE1 := Lib.hid hE1
          have HE2 := Lib.hid hE2
          have HL := Lib.hid hL
          have c2 := hb.q.blk.cell 2
          simp at c2
          clear hE1 hE2 hE hL
          go_wp2_with fail
          go_quiet (first
            | (go_at_call 18; exact Calls.quiet_of (rLeft_any g B bd xs p' L err' _ (hb.r.drewN _) HL.out))
            | (go_at_call 19; exact Calls.quiet_of (qLeft_any g2 A c xs p' L err' _ (hb.q.drewN _) HL.out))
            | (go_at_call 20; exact Calls.quiet_of_same ((rErr_any g B bd xs p' err' _ (hb.r.drewN _)).mono fun e w' h => ⟨h.1, h.2.symm⟩))
            | (go_at_call 14; exact Calls.quiet_of (HE1.out _ (hb.r.drewN _)))
            | (go_at_call 15; exact Calls.quiet_of (HE2.out _ (hb.q.drewN _))))
          go_wp2_with fail
          go_roundw
          case rel => exact ⟨k + 1, p', err', by omega, by go_num, hb.drewN _⟩
          case measure => simp [intOf]; omega
        · refine (rEnd_any g B bd xs p (8 * xs.length - p) err _ h0.r (by have := h0.r.le; omega)).mono ?_
          rintro e w1 ⟨rfl, n1, rfl⟩
          go_wp2_with fail
          refine (qEnd_any g2 A c xs p (8 * xs.length - p) err _ (h0.q.drewN n1) (by have := h0.r.le; omega)).mono ?_
          rintro e w1 ⟨rfl, n2, rfl⟩
          obtain ⟨E0, hE0⟩ : ∃ E, sEnd xs p err (8 * xs.length - p) = E := ⟨_, rfl⟩
          rw [hE0]
          clear hE0
          have hE0i : (E0 == E0) = true := by simp
          obtain ⟨p', err', hb⟩ : ∃ p' err', Both w ((W0.drewN n1).drewN n2) g g2 A B c bd xs p' err' := ⟨_, _, (h0.drewN n1).drewN n2⟩
          generalize (W0.drewN n1).drewN n2 = w2 at *
          clear h0 hcN hol
          obtain ⟨L, hL⟩ : ∃ L, p' + L = 8 * xs.length := ⟨8 * xs.length - p', by have := hb.r.le; omega⟩
          have hLi : ((L : Int) != (L : Int)) = false := by simp
          have hEi : (err' != err') = false := by simp
          obtain ⟨E, hE⟩ : ∃ E, sEnd xs p' err' L = E := ⟨_, rfl⟩
          have hE1 := fun W hW => rEnd_any g B bd xs p' L err' W hW hL
          have hE2 := fun W hW => qEnd_any g2 A c xs p' L err' W hW hL
          rw [hE] at hE1 hE2
          have hEE : (E != E) = false := by simp
          have HE1 := Lib.hid hE1
          have HE2 := Lib.hid hE2
          have HL := Lib.hid hL
          have c2 := hb.q.blk.cell 2
          simp at c2
          clear hE1 hE2 hE hL
          go_wp2_with fail
          go_quiet (first
            | (go_at_call 18; exact Calls.quiet_of (rLeft_any g B bd xs p' L err' _ (hb.r.drewN _) HL.out))
            | (go_at_call 19; exact Calls.quiet_of (qLeft_any g2 A c xs p' L err' _ (hb.q.drewN _) HL.out))
            | (go_at_call 20; exact Calls.quiet_of_same ((rErr_any g B bd xs p' err' _ (hb.r.drewN _)).mono fun e w' h => ⟨h.1, h.2.symm⟩))
            | (go_at_call 14; exact Calls.quiet_of (HE1.out _ (hb.r.drewN _)))
            | (go_at_call 15; exact Calls.quiet_of (HE2.out _ (hb.q.drewN _))))
          go_wp2_with fail
          go_roundw
          case rel => exact ⟨k + 1, p', err', by omega, by go_num, hb.drewN _⟩
          case measure => simp [intOf]; omega
        · refine (rBit_any g B bd xs p err _ h0.r).mono ?_
          rintro e w1 ⟨rfl, hp1⟩
          go_wp2_with fail
          refine (qBit_any g2 A c xs p err _ (h0.mid hp1)).mono ?_
          rintro e w2 ⟨rfl, hp2⟩
          obtain ⟨p', err', hb⟩ : ∃ p' err', Both w w2 g g2 A B c bd xs p' err' := ⟨_, _, h0.step hp1 hp2⟩
          clear hp1 hp2 h0 hcN
          generalize (sBits xs p err 1).1 = X
          have hXi : ((X : Int) == (X : Int)) = true := by simp
          obtain ⟨L, hL⟩ : ∃ L, p' + L = 8 * xs.length := ⟨8 * xs.length - p', by have := hb.r.le; omega⟩
          have hLi : ((L : Int) != (L : Int)) = false := by simp
          have hEi : (err' != err') = false := by simp
          obtain ⟨E, hE⟩ : ∃ E, sEnd xs p' err' L = E := ⟨_, rfl⟩
          have hE1 := fun W hW => rEnd_any g B bd xs p' L err' W hW hL
          have hE2 := fun W hW => qEnd_any g2 A c xs p' L err' W hW hL
          rw [hE] at hE1 hE2
          have hEE : (E != E) = false := by simp
          have HE1 := Lib.hid hE1
          have HE2 := Lib.hid hE2
          have HL := Lib.hid hL
          have c2 := hb.q.blk.cell 2
          simp at c2
          clear hE1 hE2 hE hL
          go_wp2_with fail
          go_quiet (first
            | (go_at_call 18; exact Calls.quiet_of (rLeft_any g B bd xs p' L err' _ (hb.r.drewN _) HL.out))
            | (go_at_call 19; exact Calls.quiet_of (qLeft_any g2 A c xs p' L err' _ (hb.q.drewN _) HL.out))
            | (go_at_call 20; exact Calls.quiet_of_same ((rErr_any g B bd xs p' err' _ (hb.r.drewN _)).mono fun e w' h => ⟨h.1, h.2.symm⟩))
            | (go_at_call 14; exact Calls.quiet_of (HE1.out _ (hb.r.drewN _)))
            | (go_at_call 15; exact Calls.quiet_of (HE2.out _ (hb.q.drewN _))))
          go_wp2_with fail
          go_roundw
          case rel => exact ⟨k + 1, p', err', by omega, by go_num, hb.drewN _⟩
          case measure => simp [intOf]; omega
      · go_wp2_with fail
        all_goals
          go_ret
          exact ⟨rfl, HB.out.fr.toBelow⟩
  · have hgt : (3000 : Int) < n := by omega
    go_enter Try.func3, Try.ntmps3
    go_wp2_with fail
    refine (awake_any _).mono ?_
    rintro e w' ⟨rfl, hk⟩
    go_wp2
    go_ret
    exact ⟨rfl, hk.toBelow⟩

set_option maxRecDepth 100000 in
theorem lifted (os : Os) (started : os.Started) (H : Type) (enc : TypeId × Value → H) :
    ReturnsInHanded {} Try.checked os 3 .any (Rows.bitsReadSpec.pre6 enc Try.prog Try.f3 Rows.bitsReadRow.domain false) (Rows.bitsReadSpec.post enc Try.prog Try.f3 false true false false) := by
  refine returnsInHanded_of_change (C := Try.checked) Try.own started (by kernel_rfl) Try.func3
    (ChangeSpec.witness6 (enc := enc) (C := Try.checked) false ⟨#[], #[.slice none 0 0, .slice none 0 0], []⟩ 8 (by kernel_rfl) (by kernel_rfl) (by kernel_rfl) (by kernel_rfl)) ?_
  intro W base args ds gs before hval0 hW hcnd _
  have hval : ∀ (j : Nat) t v, Try.f3.params[j]? = some t → args[j]? = some v → Value.okWide Try.prog W .any base t v := hval0
  have hpost : ∀ W', Below W.heap.size W W' → Rows.bitsReadSpec.post enc Try.prog Try.f3 false true false false W args (.bool true) W' := fun W' hb =>
    law_post (by kernel_rfl) Try.underlying4 (by kernel_rfl) rfl (fun ds hl => match ds, hl with | [d1, d2], _ => ⟨rfl, rfl, rfl⟩) hW hb
  obtain ⟨p, q, hA0, hV, rfl, hfz, hnd⟩ := hW
  have hA : DataW.TrodAll enc Try.prog W 0 (fun _ => true) true Try.f3.params.toList args.toList ds p := hA0
  rw [Try.params3] at hA hval
  obtain ⟨v0, vs0, d0, ds0, p0, q0, hargs, rfl, rfl, h0, r0⟩ := trodAll_cons hA
  obtain ⟨v1, vs1, d1, ds1, p1, q1, rfl, rfl, rfl, h1, r1⟩ := trodAll_cons r0
  obtain ⟨rfl, rfl, rfl⟩ := trodAll_nil r1
  obtain rfl : args = #[v0, v1] := by cases args; simp_all
  obtain ⟨A, n, c, xs, rfl, hnil, hx, hwx, hm⟩ := open_row Try.underlying22 Try.underlying5 (by kernel_rfl) (hval 0 22 v0 rfl rfl) h0
  obtain ⟨S, m, d, rfl, _, _, hs⟩ := open_recs Try.underlying23 Try.underlying36 (by kernel_rfl) (by kernel_rfl) (hval 1 23 v1 rfl rfl) h1
  have hscr : Script W S m := by
    intro i hi
    obtain ⟨b, o, u0, y0, m0, rfl, hb, hc0, ht0⟩ := hs i hi 0 _ rfl
    obtain ⟨b1, o1, u1, y1, m1, e1, _, hc1, ht1⟩ := hs i hi 1 _ rfl
    obtain ⟨b2, o2, u2, y2, m2, e2, _, hc2, ht2⟩ := hs i hi 2 _ rfl
    injection e1 with e1; injection e1 with e1 e1'; subst e1; subst e1'
    injection e2 with e2; injection e2 with e2 e2'; subst e2; subst e2'
    obtain ⟨K, hK, _, _⟩ := DataW.trod_int Try.underlying3 ht0
    obtain ⟨N, hN, _, wN⟩ := DataW.trod_int Try.underlying3 ht1
    obtain ⟨V, hV, _, _⟩ := DataW.trod_int Try.underlying34 ht2
    simp only [List.cons.injEq, and_true] at hK hN hV
    subst hK; subst hN; subst hV
    have bN := bounds_i64 wN
    exact ⟨b, o, K, N, V, rfl, hb, bN.1, bN.2, hc0, hc1, hc2⟩
  exact (walk A S n c m d xs W hx (byte_wf hwx) hnil hscr).mono fun e W' ⟨he, hb⟩ => ⟨_, he, hpost W' hb⟩

/-- The statement. -/
theorem proved : Rows.BitsReadSaid :=
  OpenClaim.holds_of_wide 3 Try.f3 rfl rfl rfl rfl rfl rfl rfl ⟨rfl, rfl, rfl, rfl, rfl⟩ rfl rfl rfl rfl rfl (by kernel_rfl) Try.func3 (by kernel_rfl)
    (of_decide_eq_true (by kernel_rfl)) (by unfold Func.isWrapper; first | (rw [if_pos (by decide +kernel)]; kernel_rfl) | (rw [if_neg (by decide +kernel)]; exact ⟨rfl, rfl⟩))
    (fun os started H enc _ => lifted os started H enc)
#print axioms proved

end Go.Proofs.Ytlfelnbdlgmmiaa.bitsRead
