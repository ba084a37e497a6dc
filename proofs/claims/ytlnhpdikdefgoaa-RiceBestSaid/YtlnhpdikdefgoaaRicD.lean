/- The code's unpacker of rice: number, block. -/
import Derived.Test.YtlnhpdikdefgoaaRicC
import Derived.Test.YtlnhpdikdefgoaaBitsNew
import Derived.Deep.RegionHeld3
namespace Go.Proofs.Ytlnhpdikdefgoaa
open Go.RowKit
set_option maxRecDepth 100000

attribute [local go_sem ↓] Go.wp_at_zero Go.wp_at_succ

set_option maxHeartbeats 3200000 in
/-- A number is read. -/
theorem cRead_any (g : Nat) (B : Option Addr) (cB : Nat) (xs : List Int) (p : Nat) (err : Int) (k : Nat) (w : World) (h : Rd w g 81 B cB xs p err) (hk : k ≤ 24) :
    Calls Try.prog 48 #[.agg #[.pointer (some ⟨g, 0, none⟩)], .int .i64 k] w fun e w' => e = .returned (.int .i32 (unfold_ (rnum xs p err k).1)) ∧ RPost w w' g 81 B cB xs (rnum xs p err k).2.1 (rnum xs p err k).2.2 := by
  have k0 : (0 : Int) ≤ (k : Int) := by omega
  have k1 : (k : Int) ≤ 24 := by omega
  obtain ⟨w0, hw0⟩ : ∃ w0, w0 = w.alloc (.cells #[.pointer (some ⟨g, 0, none⟩)] 65) := ⟨_, rfl⟩
  have h0 : Blk w0 w.heap.size 65 #[.pointer (some ⟨g, 0, none⟩)] := by rw [hw0]; exact Blk.new _ _ _
  have hf0 : Fresh w w0 := by rw [hw0]; exact (Kept.refl _ _).alloc _
  have hr0 : Rd w0 g 81 B cB xs p err := ⟨h.blk.kept hf0 (fun e => e), h.row.kept hf0 (fun _ _ _ _ => id), h.byte, h.le, h.small⟩
  have hgw := h.blk.lt
  have c0 : w0.cell? ⟨w.heap.size, 0, none⟩ = some (.pointer (some ⟨g, 0, none⟩)) := h0.cell 0
  have hle := h.le
  have hrn := rnum_lt xs p err k
  obtain ⟨q, p2, e2, hsu⟩ : ∃ q p2 e2, sUnary xs p err 24 (8 * xs.length - p) = (q, p2, e2) := ⟨_, _, _, rfl⟩
  have hq24 : q ≤ 24 := by have := sUnary_le xs p err 24 (8 * xs.length - p); rw [hsu] at this; exact this
  have Hsu := Lib.hid hsu
  have HD : Hid (rnum xs p err k = _) := Lib.hid (rnum.eq_1 xs p err k)
  rw [hsu] at HD
  simp only [Nat.min_eq_left hk] at HD
  generalize rnum xs p err k = res at *
  obtain ⟨uv, p3, e3⟩ := res
  have H0 := Lib.hid (And.intro hr0 (And.intro h0 hf0))
  have hb0s := h0.lt
  clear h hr0 h0 hf0 hsu
  go_enter Try.func48, Try.ntmps48
  go_wp2_with fail
  rw [← hw0]
  refine (rUnary_any g B cB xs p (8 * xs.length - p) 24 err 24 _ H0.out.1 (by omega) rfl (by omega)).mono ?_
  rintro e w1 ⟨rfl, hp1⟩
  rw [Hsu.out] at hp1 ⊢
  simp only [] at hp1 ⊢
  have c1 : w1.cell? ⟨w.heap.size, 0, none⟩ = some (.pointer (some ⟨g, 0, none⟩)) := (hp1.2.cell (p := ⟨w.heap.size, 0, none⟩) hb0s (by simp; omega)).trans c0
  have hb1s := Nat.lt_of_lt_of_le hb0s hp1.2.size
  have H1 := Lib.hid (And.intro hp1.1 ((H0.out.2.2.mono (T := fun k => k = g) fun _ _ e => e.elim).trans hp1.2 fun _ _ e => e))
  clear hp1 c0
  by_cases hq : q < 24
  · have q0 : (q : Int) < 24 := by omega
    have q1 : (0 : Int) ≤ (q : Int) := by omega
    have qb : ((q : Int) == 24) = false := by simp; omega
    have hB : wBitsN (k : Int) = k := by unfold wBitsN clamp; omega
    obtain ⟨tv, p4, e4, hsb⟩ : ∃ tv p3 e3, sBits xs p2 e2 k = (tv, p3, e3) := ⟨_, _, _, rfl⟩
    have htv : tv < 2 ^ k := by have := sBits_lt xs p2 e2 k; rw [hsb] at this; exact this
    have HD2 := HD.out
    rw [if_pos hq, if_pos hq, hsb] at HD2
    simp only [Prod.mk.injEq] at HD2
    obtain ⟨rfl, rfl, rfl⟩ := HD2
    have hor : bits .or .u32 (IntKind.u32.wrap (IntKind.u32.wrap (q : Int) * 2 ^ k)) (tv : Int) = ((q * 2 ^ k + tv : Nat) : Int) := by
      have e1 : IntKind.u32.wrap (q : Int) = (q : Int) := by rw [IntKind.wrap_u32]; omega
      rw [e1, ← or_join hq hk htv, IntKind.wrap_u32]
    have HBt : Hid (∀ V : World, Rd V g 81 B cB xs p2 e2 → Calls Try.prog 47 #[.pointer (some ⟨g, 0, none⟩), .int .i64 k] V fun e w' => e = .returned (.int .u32 tv) ∧ RPost V w' g 81 B cB xs p3 e3) := Lib.hid fun V hV => by
      have := rBits_any g B cB xs p2 e2 (k : Int) V hV
      rwa [hB, hsb] at this
    obtain ⟨z, hz⟩ : ∃ z, z = q * 2 ^ k + tv := ⟨_, rfl⟩
    rw [← hz] at hor hrn
    have Hz := Lib.hid hz
    have HU : Hid (∀ V : World, Calls Try.prog 61 #[.int .u32 (z : Int)] V fun e w' => e = .returned (.int .i32 (unfold_ z)) ∧ V = w') := Lib.hid fun V => cUnfolded_any z V hrn
    obtain ⟨uz, huz⟩ : ∃ uz, unfold_ z = uz := ⟨_, rfl⟩
    rw [huz] at HU
    have Huz := Lib.hid huz
    clear hz HD Hsu hsb hB htv huz
    go_wp2_with fail
    go_region_held3 (fun w' => w'.cell? ⟨w.heap.size, 0, none⟩ = some (.pointer (some ⟨g, 0, none⟩))) (first | go_keep | exact c4)
      (first
        | (go_at_call 47; refine (HBt.out _ (H1.out.1.drewN 1)).mono ?_; rintro e5 w4 ⟨rfl, hp4⟩; have c4 : w4.cell? ⟨w.heap.size, 0, none⟩ = some (.pointer (some ⟨g, 0, none⟩)) := (hp4.2.cell (p := ⟨w.heap.size, 0, none⟩) hb1s (by simp; omega)).trans c1)
        | (go_at_call 61; (try rw [hor]); refine (HU.out _).mono ?_; rintro e6 w6 ⟨rfl, rfl⟩))
    have H4 := Lib.hid (And.intro hp4.1 ((H1.out.2.drewN 1).trans hp4.2 fun _ _ e => e))
    clear hp4
    go_wp2_with fail
    refine bodyPost_ret (results_tmp rfl _ _ _) rfl ?_
    exact ⟨ret_int (by rw [← Huz.out, Hz.out]), H4.out⟩
  · obtain rfl : q = 24 := by omega
    have HBt := rBits_any g B cB xs p2 e2 32 w1 H1.out.1
    obtain ⟨tv, p4, e4, hsb⟩ : ∃ tv p3 e3, sBits xs p2 e2 32 = (tv, p3, e3) := ⟨_, _, _, rfl⟩
    have HD2 := HD.out
    rw [if_neg hq, if_neg hq, hsb] at HD2
    simp only [Prod.mk.injEq] at HD2
    obtain ⟨rfl, rfl, rfl⟩ := HD2
    rw [show wBitsN 32 = 32 from by decide, hsb] at HBt
    simp only [] at HBt
    have HB := Lib.hid HBt
    have HU : Hid (∀ V : World, Calls Try.prog 61 #[.int .u32 (uv : Int)] V fun e w' => e = .returned (.int .i32 (unfold_ uv)) ∧ V = w') := Lib.hid fun V => cUnfolded_any uv V hrn
    clear HBt HD Hsu hsb
    obtain ⟨uz, huz⟩ : ∃ uz, unfold_ uv = uz := ⟨_, rfl⟩
    rw [huz] at HU
    have Huz := Lib.hid huz
    clear huz
    go_wp2_with fail
    refine HB.out.mono ?_
    rintro e5 w4 ⟨rfl, hp4⟩
    have H4 := Lib.hid (And.intro hp4.1 (H1.out.2.trans hp4.2 fun _ _ e => e))
    clear hp4 HB
    go_wp2_with fail
    refine (HU.out _).mono ?_
    rintro e6 w6 ⟨rfl, rfl⟩
    go_wp2_with fail
    refine bodyPost_ret (results_tmp rfl _ _ _) rfl ?_
    exact ⟨ret_int Huz.out.symm, H4.out⟩

/-- r numbers, read one behind the other, a fault or not: the numbers, the place, the fault. -/
def rrun (bs : List Int) (k p : Nat) (err : Int) : Nat → List Int × Nat × Int
  | 0 => ([], p, err)
  | r + 1 => ((rrun bs k p err r).1 ++ [unfold_ (rnum bs (rrun bs k p err r).2.1 (rrun bs k p err r).2.2 k).1], (rnum bs (rrun bs k p err r).2.1 (rrun bs k p err r).2.2 k).2)
theorem rrun_len (bs : List Int) (k p : Nat) (err : Int) : ∀ r, (rrun bs k p err r).1.length = r
  | 0 => rfl
  | r + 1 => by simp [rrun, rrun_len bs k p err r]
theorem rnum_err {bs : List Int} {p k : Nat} {err : Int} (h : err ≠ 0) : (rnum bs p err k).2.2 ≠ 0 := by
  unfold rnum sUnary
  simp only [if_pos h]
  unfold sBits
  rw [if_pos h]
  exact h
/-- A block, read without a stop, is what is read with one. -/
theorem rrun_rrd {bs : List Int} {j p k0 k p1 : Nat} {e1 : Int} {out : List Int} (h : rrd bs (64 * j) = some (p, k0, out)) (hS : sBits bs p 0 5 = (k, p1, e1)) : ∀ r, r < 64 →
    ((rrun bs k p1 e1 (r + 1)).2.2 = 0 → rrd bs (64 * j + r + 1) = some ((rrun bs k p1 e1 (r + 1)).2.1, k, out ++ (rrun bs k p1 e1 (r + 1)).1)) ∧ ((rrun bs k p1 e1 (r + 1)).2.2 ≠ 0 → rrd bs (64 * j + r + 1) = none)
  | 0, _ => by
    have hh : rhead bs (64 * j) p k0 = (k, p1, e1) := by unfold rhead; rw [if_pos (by omega), hS]
    have ho : rone bs (64 * j) p k0 = rnum bs p1 e1 k := by unfold rone; rw [hh]
    constructor
    · intro h0
      have h0' : (rnum bs p1 e1 k).2.2 = 0 := h0
      have := rrd_some h (by rw [ho]; exact h0')
      rw [ho, hh] at this
      exact this
    · intro h0
      have h0' : (rnum bs p1 e1 k).2.2 ≠ 0 := h0
      exact rrd_stop h (by rw [ho]; exact h0')
  | r + 1, hr => by
    obtain ⟨i1, i2⟩ := rrun_rrd h hS r (by omega)
    obtain ⟨s, hs⟩ : ∃ s, rrun bs k p1 e1 (r + 1) = s := ⟨_, rfl⟩
    have hstep : rrun bs k p1 e1 (r + 1 + 1) = (s.1 ++ [unfold_ (rnum bs s.2.1 s.2.2 k).1], (rnum bs s.2.1 s.2.2 k).2) := by rw [← hs]; rfl
    rw [hs] at i1 i2
    rw [hstep, show 64 * j + (r + 1) + 1 = 64 * j + r + 1 + 1 from rfl]
    by_cases h0 : s.2.2 = 0
    · have hp := i1 h0
      have hh : rhead bs (64 * j + r + 1) s.2.1 k = (k, s.2.1, 0) := by unfold rhead; rw [if_neg (by omega)]
      have ho : rone bs (64 * j + r + 1) s.2.1 k = rnum bs s.2.1 0 k := by unfold rone; rw [hh]
      rw [h0]
      constructor
      · intro h2
        have := rrd_some hp (by rw [ho]; exact h2)
        rw [ho, hh, List.append_assoc] at this
        exact this
      · intro h2
        exact rrd_stop hp (by rw [ho]; exact h2)
    · constructor
      · intro h2
        exact absurd h2 (rnum_err h0)
      · intro _
        exact rrd_none (i2 h0) _ (by omega)

theorem set_mid (a s b : List Int) (x y : Int) (n : Nat) (hn : n = a.length + s.length) : (a ++ s ++ x :: b).set n y = a ++ (s ++ [y]) ++ b := by
  subst hn
  rw [List.set_append_right _ _ (by simp)]
  simp
/-- The list, of which a part is read. -/
def part (xs : List Int) (off : Nat) (s : List Int) : List Int := xs.take off ++ s ++ xs.drop (off + s.length)
theorem part_len {xs : List Int} {off : Nat} {s : List Int} (h : off + s.length ≤ xs.length) : (part xs off s).length = xs.length := by simp [part]; omega
theorem part_set {xs : List Int} {off : Nat} {s : List Int} (h : off + s.length < xs.length) (y : Int) : (part xs off s).set (off + s.length) y = part xs off (s ++ [y]) := by
  unfold part
  have e : xs.drop (off + s.length) = xs[off + s.length] :: xs.drop (off + (s ++ [y]).length) := by
    rw [List.drop_eq_getElem_cons h]; simp [Nat.add_assoc]
  rw [e]
  exact set_mid _ _ _ _ _ _ (by simp; omega)

set_option maxHeartbeats 3200000 in
/-- A block is read. -/
theorem cReads_any (g : Nat) (B : Option Addr) (cB : Nat) (bs : List Int) (p : Nat) (lb n c off m cm : Nat) (xs : List Int) (w : World) (h : Rd w g 81 B cB bs p 0) (hl : Own w 21 .i32 (.slice (some ⟨lb, 0, none⟩) n c) xs) (hxs : xs.length = n) (hm : m = 0 ∨ off + m ≤ n) (hm64 : m ≤ 64)
    (hB : ∀ b o, B = some ⟨b, o, none⟩ → 0 < bs.length → b ≠ lb) (k p1 : Nat) (e1 : Int) (hS : sBits bs p 0 5 = (k, p1, e1)) :
    Calls Try.prog 33 #[.agg #[.pointer (some ⟨g, 0, none⟩)], .slice (some ⟨lb, off, none⟩) m cm] w fun e w' => Kept (fun j => j = g ∨ j = lb) w w' ∧
      ((24 < k ∧ e = .returned (.bool false)) ∨ (k ≤ 24 ∧ e = .returned (.bool (decide ((rrun bs k p1 e1 m).2.2 = 0))) ∧ Rd w' g 81 B cB bs (rrun bs k p1 e1 m).2.1 (rrun bs k p1 e1 m).2.2 ∧ Own w' 21 .i32 (.slice (some ⟨lb, 0, none⟩) n c) (part xs off (rrun bs k p1 e1 m).1))) := by
  have hk31 : k ≤ 31 := by have := sBits_lt bs p 0 5; rw [hS] at this; simp only [] at this; omega
  have hglb : g ≠ lb := by
    rintro rfl
    exact Own.ne_blk hl h.blk (by decide) rfl
  obtain ⟨w0, hw0⟩ : ∃ w0, w0 = w.alloc (.cells #[.pointer (some ⟨g, 0, none⟩)] 65) := ⟨_, rfl⟩
  have h0 : Blk w0 w.heap.size 65 #[.pointer (some ⟨g, 0, none⟩)] := by rw [hw0]; exact Blk.new _ _ _
  have hf0 : Fresh w w0 := by rw [hw0]; exact (Kept.refl _ _).alloc _
  have hr0 : Rd w0 g 81 B cB bs p 0 := ⟨h.blk.kept hf0 (fun e => e), h.row.kept hf0 (fun _ _ _ _ => id), h.byte, h.le, h.small⟩
  have hl0 : Own w0 21 .i32 (.slice (some ⟨lb, 0, none⟩) n c) xs := hl.kept hf0 (fun _ _ => id)
  have c0 : w0.cell? ⟨w.heap.size, 0, none⟩ = some (.pointer (some ⟨g, 0, none⟩)) := h0.cell 0
  have hgw := h.blk.lt
  have hlw := hl.lt (g := lb) rfl
  have hb0s := h0.lt
  have H0 := Lib.hid (And.intro hr0 (And.intro hl0 hf0))
  have HS := Lib.hid (And.intro hS (And.intro hB hxs))
  have k0 : (0 : Int) ≤ (k : Int) := by omega
  have k1 : (k : Int) ≤ 31 := by omega
  have m0 : (m : Int) ≤ 64 := by omega
  clear h hl hr0 h0 hf0 hl0 hS hB hxs
  go_enter Try.func33, Try.ntmps33
  go_wp2_with fail
  rw [← hw0]
  refine (rBits_any g B cB bs p 0 5 _ H0.out.1).mono ?_
  rintro e w1 ⟨rfl, hp1⟩
  rw [show wBitsN 5 = 5 from by decide, HS.out.1] at hp1 ⊢
  simp only [] at hp1 ⊢
  have c1 : w1.cell? ⟨w.heap.size, 0, none⟩ = some (.pointer (some ⟨g, 0, none⟩)) := (hp1.2.cell (p := ⟨w.heap.size, 0, none⟩) hb0s (by simp; omega)).trans c0
  have hb1s := Nat.lt_of_lt_of_le hb0s hp1.2.size
  have H1 := Lib.hid (And.intro hp1.1 (And.intro (H0.out.2.1.kept hp1.2 (fun j e e2 => by simp [Value.ownBlock] at e; omega)) ((H0.out.2.2.mono (T := fun k => k = g ∨ k = lb) fun _ _ e => e.elim).trans hp1.2 fun _ _ e => .inl e)))
  clear hp1 c0
  by_cases hk : 24 < k
  · have kb : (24 : Int) < (k : Int) := by omega
    go_wp2_with fail
    refine bodyPost_ret (results_tmp rfl _ _ _) rfl ?_
    exact ⟨H1.out.2.2, .inl ⟨hk, rfl⟩⟩
  · have kb : ¬ (24 : Int) < (k : Int) := by omega
    have hk24 : k ≤ 24 := by omega
    go_wp2_with fail
    go_loopw [15] (fun i wr => ∃ r : Nat, r ≤ m ∧ i = .int .i64 r ∧ Rd wr g 81 B cB bs (rrun bs k p1 e1 r).2.1 (rrun bs k p1 e1 r).2.2 ∧ Own wr 21 .i32 (.slice (some ⟨lb, 0, none⟩) n c) (part xs off (rrun bs k p1 e1 r).1) ∧ Kept (fun j => j = g ∨ j = lb) w1 wr) (fun i _ => (m - intOf i).toNat)
    case atStart => exact ⟨0, by omega, rfl, H1.out.1, by simpa [part, rrun] using H1.out.2.1, Kept.refl _ _⟩
    case round =>
      obtain ⟨r, hr, rfl, hrd, hown, hkr⟩ := hrel
      have cr : wr.cell? ⟨w.heap.size, 0, none⟩ = some (.pointer (some ⟨g, 0, none⟩)) := (hkr.cell (p := ⟨w.heap.size, 0, none⟩) hb1s (by simp; omega)).trans c1
      have hbr := Nat.lt_of_lt_of_le hb1s hkr.size
      have Hr := Lib.hid (And.intro hrd (And.intro hown hkr))
      have hlen := rrun_len bs k p1 e1 r
      by_cases hlt : r < m
      · have hstep : rrun bs k p1 e1 (r + 1) = ((rrun bs k p1 e1 r).1 ++ [unfold_ (rnum bs (rrun bs k p1 e1 r).2.1 (rrun bs k p1 e1 r).2.2 k).1], (rnum bs (rrun bs k p1 e1 r).2.1 (rrun bs k p1 e1 r).2.2 k).2) := rfl
        have Hst := Lib.hid hstep
        have HC := Lib.hid (cRead_any g B cB bs (rrun bs k p1 e1 r).2.1 (rrun bs k p1 e1 r).2.2 k wr hrd hk24)
        generalize rrun bs k p1 e1 r = s at *
        obtain ⟨l, ps, es⟩ := s
        simp only [] at *
        generalize rnum bs ps es k = t at *
        obtain ⟨tv, pt, et⟩ := t
        simp only [] at *
        generalize unfold_ tv = v at *
        have r0 : (r : Int) < (m : Int) := by omega
        have r1 : (0 : Int) ≤ (r : Int) := by omega
        clear hrd hown hkr hstep
        go_wp2_with fail
        refine HC.out.mono ?_
        rintro e w2 ⟨rfl, hp2⟩
        have ho2 : Own w2 21 .i32 (.slice (some ⟨lb, 0, none⟩) n c) (part xs off l) := Hr.out.2.1.kept hp2.2 (fun j e e2 => by simp [Value.ownBlock] at e; omega)
        have hpl : (part xs off l).length = n := by rw [part_len (by have := HS.out.2.2; omega)]; exact HS.out.2.2
        have hcell := ho2.cellN hpl (j := off + r) (by omega)
        have hfroz := ho2.frozenN hpl (off + r)
        have hcc := cr
        have ho3 := ho2.storeN hpl (off + r) v
        rw [show off + r = off + l.length from by omega, part_set (by have := HS.out.2.2; omega)] at ho3
        have hp3 : Rd (w2.setCell ⟨lb, off + r, none⟩ (.int .i32 v)) g 81 B cB bs pt et := ⟨hp2.1.blk.far (p := ⟨lb, off + r, none⟩) hglb _, hp2.1.row.setOff (fun b o e h0 => HS.out.2.1 b o e h0) _, hp2.1.byte, hp2.1.le, hp2.1.small⟩
        have H3 := Lib.hid (And.intro hp3 (And.intro (show Own (w2.setCell ⟨lb, off + r, none⟩ (.int .i32 v)) 21 .i32 (.slice (some ⟨lb, 0, none⟩) n c) (part xs off (l ++ [v])) from by rw [show off + r = off + l.length from by omega]; exact ho3)
          ((Hr.out.2.2.trans hp2.2 fun _ _ e => .inl e).setCell (p := ⟨lb, off + r, none⟩) (fun _ => .inr rfl) (.int .i32 v))))
        clear hp2 ho2 ho3 hp3 HC
        go_wp2_with fail
        go_roundw
        case rel =>
          refine ⟨r + 1, by omega, by go_num, ?_⟩
          rw [Hst.out]
          exact H3.out
        case measure => simp [intOf]; omega
      · obtain rfl : r = m := by omega
        have r0 : ¬ (r : Int) < (r : Int) := by omega
        obtain ⟨s, hs⟩ : ∃ s, rrun bs k p1 e1 r = s := ⟨_, rfl⟩
        rw [hs] at Hr hlen
        have Hs := Lib.hid hs
        clear hrd hown hkr hs
        obtain ⟨l, ps, es⟩ := s
        simp only [] at *
        have HK := Lib.hid (H1.out.2.2.trans Hr.out.2.2 fun _ _ e => e)
        go_wp2_with fail
        refine (rErr_any g B cB bs ps es _ Hr.out.1).mono ?_
        rintro e w2 ⟨rfl, rfl⟩
        by_cases he : es = 0
        · have heb : (es == 0) = true := by simp [he]
          go_wp2_with fail
          refine bodyPost_ret (results_tmp rfl _ _ _) rfl ?_
          rw [Hs.out]
          exact ⟨HK.out, .inr ⟨hk24, by simp [he], Hr.out.1, Hr.out.2.1⟩⟩
        · have heb : (es == 0) = false := by simp [he]
          go_wp2_with fail
          refine bodyPost_ret (results_tmp rfl _ _ _) rfl ?_
          rw [Hs.out]
          exact ⟨HK.out, .inr ⟨hk24, by simp [he], Hr.out.1, Hr.out.2.1⟩⟩

end Go.Proofs.Ytlnhpdikdefgoaa
