/- Texts of this proof, one behind the other: ModRN, StrQ, StrR. -/
import Derived.Test.YtpknbfkknnaajaaDoorPart29
import Derived.Test.YtpknbfkknnaajaaDoorPart17
import Derived.Test.YtpknbfkknnaajaaDoorPart9
import Derived.Test.YtpknbfkknnaajaaDoorPart23
import Derived.Test.YtpknbfkknnaajaaDoorPart19

/- The document's model: New. -/
namespace Go.Proofs.YtpknbfkknnaajaaDoor
set_option maxRecDepth 100000
open Go.RowKit

attribute [local go_sem ↓] Go.wp_at_zero Go.wp_at_succ

/-- Three of a kind. -/
def tri {α : Type} (a b c : α) (i : Nat) : α := if i = 0 then a else if i = 1 then b else c

set_option maxHeartbeats 1600000 in
/-- New: P8.1. -/
theorem mrNew_any (n : Int) (w : World) : Calls Tryd.prog 22 #[.int .i64 n] w fun e w' => ∃ g, e = .returned (.pointer (some ⟨g, 0, none⟩)) ∧ MdR (fun k => k < w.heap.size) w' g (lvl n) mo0 ∧ Fresh w w' := by
  have hl := lvl_int2 n
  have hb := lvl_bd n
  generalize lvl n = lv at *
  go_enter Tryd.func22, Tryd.ntmps22
  go_wp2_with fail
  refine (qgNew_any 256 _).mono ?_
  rintro e w1 ⟨g0, v0, rfl, t0, a0, b0, f0⟩
  rw [show many_of 256 = tn 0 from rfl, ← ft_const] at t0
  have T0 := Lib.hid (And.intro t0 (And.intro a0 (And.intro b0 f0)))
  clear t0 a0 b0 f0
  go_wp2_with fail
  refine (qgNew_any 65536 _).mono ?_
  rintro e w2 ⟨g1, v1, rfl, t1, a1, b1, f1⟩
  rw [show many_of 65536 = tn 1 from rfl, ← ft_const] at t1
  have T1 := Lib.hid (And.intro t1 (And.intro a1 (And.intro b1 f1)))
  clear t1 a1 b1 f1
  go_wp2_with fail
  refine (qgNew_any 65536 _).mono ?_
  rintro e w3 ⟨g2, v2, rfl, t2, a2, b2, f2⟩
  rw [show many_of 65536 = tn 2 from rfl, ← ft_const] at t2
  have T2 := Lib.hid (And.intro t2 (And.intro a2 (And.intro b2 f2)))
  clear t2 a2 b2 f2
  go_wp2_with fail
  refine (qmNew_any 256 _).mono ?_
  rintro e w4 ⟨gm, vW, Q, C, rfl, hm, hrw, hgm, f4⟩
  rw [show ns 256 = 256 from rfl] at hrw
  have T3 := Lib.hid (And.intro hm (And.intro hrw (And.intro hgm f4)))
  clear hm hrw hgm f4
  go_wp2_with fail
  refine (qsNew_any 256 _).mono ?_
  rintro e w5 ⟨gs, vS, Q2, C2, rfl, hst, f5⟩
  rw [show nc 256 = 256 from rfl] at hst
  have T4 := Lib.hid (And.intro hst f5)
  clear hst f5
  have HF : Hid (PrR (fun k => k < w.heap.size) w5 ⟨tri g0 g1 g2, tri v0 v1 v2, w3.heap.size, gm, vW, Q, C, w4.heap.size, gs, vS, Q2, C2⟩ mo0.tab mo0.W mo0.T (.slice none 0 0) 0 (fun _ => 0) 0 false 0 0 false ∧ Fresh w w5) := by
    obtain ⟨t0, a0, b0, f0⟩ := T0.out
    obtain ⟨t1, a1, b1, f1⟩ := T1.out
    obtain ⟨t2, a2, b2, f2⟩ := T2.out
    obtain ⟨hm, hrw, hgm, f4⟩ := T3.out
    obtain ⟨hst, f5⟩ := T4.out
    have s0 := f0.size
    have s1 := f1.size
    have s2 := f2.size
    have s4 := f4.size
    have s5 := f5.size
    have k25 : Fresh w3 w5 := f4.trans f5 (fun _ _ h => h)
    have k15 : Fresh w2 w5 := f2.trans k25 (fun _ _ h => h)
    have k05 : Fresh w1 w5 := f1.trans k15 (fun _ _ h => h)
    have l0 : ∀ k, v0.ownBlock = some k → k < w1.heap.size := fun k e => t0.own.lt e
    have l1 : ∀ k, v1.ownBlock = some k → k < w2.heap.size := fun k e => t1.own.lt e
    have l2 : ∀ k, v2.ownBlock = some k → k < w3.heap.size := fun k e => t2.own.lt e
    refine Lib.hid ⟨⟨fun i hi => ?_, ?_, hst, fun i j k hi hj e1 e2 => ?_, fun i j hi hj e => ?_, fun j hj e => (by cases e), fun k hk e => ?_, fun k hk => ?_⟩, f0.trans k05 (fun _ _ h => h)⟩
    · rw [mo0_tab]
      rcases (by omega : i = 0 ∨ i = 1 ∨ i = 2) with rfl | rfl | rfl
      · exact t0.kept k05 id (fun _ _ => id)
      · exact t1.kept k15 id (fun _ _ => id)
      · exact t2.kept k25 id (fun _ _ => id)
    · refine MxR.kept (S := fun _ => False) ⟨hm, hrw, Own.nil _ _ _, fun i _ e => (by cases e), fun k e => (by cases e), hgm, by omega, by omega, by omega, fun _ _ => (by show (-16777216 : Int) ≤ 16384 ∧ (16384 : Int) ≤ 16777216; omega), fun _ => (by omega), by omega⟩ f5 id (fun _ _ => id) (fun _ _ => id) (fun _ _ => id)
    · rcases (by omega : i = 0 ∨ i = 1 ∨ i = 2) with rfl | rfl | rfl <;> rcases (by omega : j = 0 ∨ j = 1 ∨ j = 2) with rfl | rfl | rfl <;> first
        | rfl
        | (have q1 := l0 k e1; have q2 := b1 k e2; omega)
        | (have q1 := l0 k e1; have q2 := b2 k e2; omega)
        | (have q1 := b1 k e1; have q2 := l0 k e2; omega)
        | (have q1 := l1 k e1; have q2 := b2 k e2; omega)
        | (have q1 := b2 k e1; have q2 := l0 k e2; omega)
        | (have q1 := b2 k e1; have q2 := l1 k e2; omega)
    · have q1 := hrw.lt hi
      have q2 := hst.lst.lo j hj
      have e' : Q i = Q2 j := e
      omega
    · have e' : k < w.heap.size := e
      rcases hk with ⟨i, hi, e1 | e1⟩ | e1 | e1 | ⟨i, hi, e1⟩ | e1 | e1 | e1 | ⟨i, hi, e1⟩
      · rcases (by omega : i = 0 ∨ i = 1 ∨ i = 2) with rfl | rfl | rfl
        · have e2 : k = g0 := e1; omega
        · have e2 : k = g1 := e1; omega
        · have e2 : k = g2 := e1; omega
      · rcases (by omega : i = 0 ∨ i = 1 ∨ i = 2) with rfl | rfl | rfl
        · have := b0 k e1; omega
        · have := b1 k e1; omega
        · have := b2 k e1; omega
      · have e2 : k = gm := e1; omega
      · have := hrw.vlo k e1; omega
      · have e2 : k = Q i := e1; have := hrw.lo i hi; omega
      · cases e1
      · have e2 : k = gs := e1; have := hst.glo; omega
      · have := hst.lst.vlo k e1; omega
      · have e2 : k = Q2 i := e1; have := hst.lst.lo i hi; omega
    · have e' : k < w.heap.size := hk
      omega
  clear T0 T1 T2 T3 T4
  have HG : Hid (MdR (fun k => k < w.heap.size) (w5.alloc (.cells (rmc ⟨tri g0 g1 g2, tri v0 v1 v2, w3.heap.size, gm, vW, Q, C, w4.heap.size, gs, vS, Q2, C2⟩ lv 1 0 0) 79)) w5.heap.size lv mo0 ∧ Fresh w (w5.alloc (.cells (rmc ⟨tri g0 g1 g2, tri v0 v1 v2, w3.heap.size, gm, vW, Q, C, w4.heap.size, gs, vS, Q2, C2⟩ lv 1 0 0) 79))) := by
    have hfa : Fresh w5 (w5.alloc (.cells (rmc ⟨tri g0 g1 g2, tri v0 v1 v2, w3.heap.size, gm, vW, Q, C, w4.heap.size, gs, vS, Q2, C2⟩ lv 1 0 0) 79)) := (Kept.refl _ _).alloc _
    exact Lib.hid ⟨⟨_, _, _, _, _, _, _, _, _, Blk.new _ _ _, HF.out.1.fresh hfa, mo0_fine, hb, fun e => by have := HF.out.2.size; have e' : w5.heap.size < w.heap.size := e; omega⟩, HF.out.2.trans hfa (fun _ _ h => h)⟩
  clear HF
  go_wp2_with fail
  go_ret
  exact ⟨_, rfl, HG.out⟩

end Go.Proofs.YtpknbfkknnaajaaDoor

/- Encoder and model side by side: packing, as the document's parts do it. -/
namespace Go.Proofs.YtpknbfkknnaajaaDoor
set_option maxRecDepth 100000
open Go.RowKit

theorem kS_int (lv : Nat) (L : List Bool) : ((kS lv L : Nat) : Int) = (mos lv L mo0).chance lv := (mo_chance_nat (mos_fine lv L mo0_fine) lv).1
theorem cc_kS (lv : Nat) (L : List Bool) : cc ((kS lv L : Nat) : Int) = kS lv L := by
  have := kS_bd lv L
  unfold cc; omega
theorem encS_len (lv : Nat) (L : List Bool) : (encS lv L).1.length ≤ 4 * L.length := by
  have h := encAll_len (pairs lv L mo0) 0 4294967295 open_full (pairs_bd lv L mo0_fine)
  rw [pairs_len] at h
  exact h

/-- The document's encoder and model, each at its bits. -/
structure PkR (w wr : World) (ge gm lv : Nat) (v : Value) (Le Lm : List Bool) : Prop where
  enc : EncR wr ge (encS lv Le).2.1 (encS lv Le).2.2 v (encS lv Le).1
  mdl : MdR (fun k => k < w.heap.size ∨ k = ge ∨ v.ownBlock = some k) wr gm lv (mos lv Lm mo0)
  fr : Fresh w wr
  lo : w.heap.size ≤ ge ∧ ∀ k, v.ownBlock = some k → w.heap.size ≤ k

section
variable {w wr : World} {ge gm lv : Nat} {v : Value} {L Le Lm : List Bool}
theorem PkR.ask (h : PkR w wr ge gm lv v Le Lm) : Calls Tryd.prog 24 #[.pointer (some ⟨gm, 0, none⟩)] wr fun e w' => e = .returned (.int .i64 (kS lv Lm : Nat)) ∧ PkR w w' ge gm lv v Le Lm := by
  refine (mrChance_any _ gm lv _ wr h.mdl).mono ?_
  rintro e w' ⟨rfl, hm, hk⟩
  refine ⟨?_, h.enc.kept hk (fun e => e (.inr (.inl rfl))) (fun k e e2 => e2 (.inr (.inr e))), hm, h.fr.trans hk (fun i hi e => e (.inl hi)), h.lo⟩
  rw [← kS_int]
theorem PkR.teach (h : PkR w wr ge gm lv v Le Lm) (b : Int) : Calls Tryd.prog 25 #[.pointer (some ⟨gm, 0, none⟩), .int .i64 b] wr fun e w' => e = .returned (.tuple #[]) ∧ PkR w w' ge gm lv v Le (Lm ++ [b != 0]) := by
  refine (mrLearn_any _ gm lv _ b wr h.mdl).mono ?_
  rintro e w' ⟨rfl, hm, hk⟩
  rw [← mos_snoc] at hm
  exact ⟨rfl, h.enc.kept hk (fun e => e (.inr (.inl rfl))) (fun k e e2 => e2 (.inr (.inr e))), hm, h.fr.trans hk (fun i hi e => e (.inl hi)), h.lo⟩
theorem PkR.code (h : PkR w wr ge gm lv v L Lm) (b : Int) (hl : L.length ≤ 100000000) : Calls Tryd.prog 23 #[.pointer (some ⟨ge, 0, none⟩), .int .i64 b, .int .i64 (kS lv L : Nat)] wr fun e w' => e = .returned (.tuple #[]) ∧ ∃ v', PkR w w' ge gm lv v' (L ++ [b != 0]) Lm := by
  have hlen := encS_len lv L
  have hE := qEncode_any ge _ _ v _ b (kS lv L : Nat) wr h.enc (encS_open lv L) (by omega)
  have hs := encS_snoc lv L (b != 0)
  rw [cc_kS] at hE
  refine hE.mono ?_
  rintro e w' ⟨rfl, v', he, hv, hk⟩
  have hsz := h.fr.size
  refine ⟨rfl, v', ⟨by rw [hs]; exact he, h.mdl.move hk (fun k e => e.elim (fun e => .inr (.inl e)) (fun e => .inr (.inr e))) (fun k e => ?_), h.fr.trans hk (fun i hi e => ?_), ⟨h.lo.1, fun k e => ?_⟩⟩⟩
  · have hg := he.blk.lt
    have hks := hk.size
    rcases e with e | e | e
    · exact ⟨by omega, .inl (.inl e)⟩
    · exact ⟨by omega, .inl (.inr (.inl e))⟩
    · exact ⟨he.own.lt e, (hv k e).elim (fun e => .inl (.inr (.inr e))) .inr⟩
  · rcases e with rfl | e
    · have := h.lo.1; omega
    · have := h.lo.2 i e; omega
  · rcases hv k e with e | e
    · exact h.lo.2 k e
    · omega
theorem PkR.flush (h : PkR w wr ge gm lv v L Lm) (hl : L.length ≤ 100000000) : Calls Tryd.prog 26 #[.pointer (some ⟨ge, 0, none⟩)] wr fun e w' => ∃ u, e = .returned u ∧ NewRow w w' 5 .u8 u (packB lv L) := by
  have hlen := encS_len lv L
  refine (qFlush_any ge _ _ v _ wr h.enc (encS_open lv L) (by omega)).mono ?_
  rintro e w' ⟨u, rfl, ho, hv, _, hk⟩
  have hsz := h.fr.size
  refine ⟨u, rfl, ho, fun k e => ?_, h.fr.trans hk (fun i hi e => ?_)⟩
  · rcases hv k e with e | e
    · exact h.lo.2 k e
    · omega
  · rcases e with rfl | e
    · have := h.lo.1; omega
    · have := h.lo.2 i e; omega
end

end Go.Proofs.YtpknbfkknnaajaaDoor

/- The document's Pack. -/
namespace Go.Proofs.YtpknbfkknnaajaaDoor
set_option maxRecDepth 100000
open Go.RowKit

attribute [local go_sem ↓] Go.wp_at_zero Go.wp_at_succ

set_option maxHeartbeats 600000 in
/-- Pack: P9.1. -/
theorem qPack_any (A : Option Addr) (n c : Nat) (xs : List Int) (lv : Nat) (w : World) (hr : Row w .u8 A n xs) (hb : ∀ j, 0 ≤ xs.getD j 0 ∧ xs.getD j 0 < 256) (hn : n ≤ 1048576) (hl : lv ≤ 2) :
    Calls Tryd.prog 11 #[.slice A n c, .int .i64 lv] w fun e w' => ∃ u, e = .returned (.tuple #[u, .int .i64 0]) ∧ NewRow w w' 5 .u8 u (packB lv (bbs xs)) := by
  have hlen := hr.len
  have HR := Lib.hid hr
  have l0 : (0 : Int) ≤ (lv : Int) := by omega
  have l1 : (lv : Int) ≤ 2 := by omega
  have n0 : (n : Int) ≤ 1048576 := by omega
  have hlv : lvl (lv : Int) = lv := by unfold lvl; omega
  clear hr
  go_enter Tryd.func11, Tryd.ntmps11
  go_wp2_with fail
  refine (qNewEnc_any _).mono ?_
  rintro e w1 ⟨ge, rfl, he, hge, hf1⟩
  have H1 := Lib.hid (And.intro he (And.intro hge hf1))
  clear he hge hf1
  go_wp2_with fail
  refine (mrNew_any (lv : Int) w1).mono ?_
  rintro e w2 ⟨gm, rfl, hm, hf2⟩
  rw [hlv] at hm
  have H2 : Hid (PkR w w2 ge gm lv (.slice none 0 0) (sofar xs 0 0) (sofar xs 0 0)) := by
    obtain ⟨he, hge, hf1⟩ := H1.out
    have e0 : sofar xs 0 0 = [] := by simp [sofar_zero, bbs]
    have s1 := hf1.size
    have s2 := hf2.size
    have hlt := he.blk.lt
    rw [e0]
    exact Lib.hid ⟨he.kept hf2 id (fun _ _ => id), hm.move (S := fun _ => False) (Kept.refl _ _) (fun _ h => h.elim) (fun k h => by
      rcases h with h | h | h
      · have h' : k < w1.heap.size := by omega
        exact ⟨by omega, .inl h'⟩
      · have h' : k < w1.heap.size := by omega
        exact ⟨by omega, .inl h'⟩
      · cases h), hf1.trans hf2 (fun _ _ h => h), hge, fun k h => by cases h⟩
  clear hm hf2 H1
  go_wp2_with fail
  go_loopw [8] (fun i wr => ∃ (a : Nat) (v : Value), a ≤ n ∧ i = .int .i64 a ∧ PkR w wr ge gm lv v (sofar xs a 0) (sofar xs a 0)) (fun i _ => (n - intOf i).toNat)
  case atStart => exact ⟨0, _, by omega, rfl, H2.out⟩
  case round =>
    obtain ⟨a, v, ha, rfl, hp⟩ := hrel
    clear H2
    have HP := Lib.hid hp
    clear hp
    by_cases hlt : a < n
    · have a0 : (a : Int) < (n : Int) := by omega
      have hab : a < xs.length := by omega
      go_wp2_with fail
      obtain ⟨w0, rfl⟩ : ∃ w0, w0 = wr := ⟨_, rfl⟩
      go_loopw [9] (fun i wr => ∃ (z : Nat) (v : Value), z ≤ 8 ∧ i = .int .i64 ((z : Int) - 1) ∧ PkR w wr ge gm lv v (sofar xs a (8 - z)) (sofar xs a (8 - z))) (fun i _ => (intOf i + 1).toNat)
      case atStart => exact ⟨8, _, by omega, rfl, HP.out⟩
      case round =>
        obtain ⟨z, v, hz, rfl, hp⟩ := hrel
        clear HP
        have HP := Lib.hid hp
        clear hp
        by_cases hz0 : z = 0
        · subst hz0
          have HQ := Lib.hid HP.out
          rw [Nat.sub_zero, sofar_byte hab] at HQ
          clear HP
          go_wp2_with fail
          go_roundw
          case rel => exact ⟨a + 1, _, by omega, by go_num, HQ.out⟩
          case measure => simp [intOf]; omega
        · obtain ⟨k, rfl⟩ : ∃ k, z = k + 1 := ⟨z - 1, by omega⟩
          have ek : (((k + 1 : Nat) : Int) - 1) = (k : Int) := by omega
          rw [show 8 - (k + 1) = 7 - k by omega] at HP
          rw [ek]
          have k0 : (0 : Int) ≤ (k : Int) := by omega
          have k1 : (k : Int) ≤ 7 := by omega
          obtain ⟨b1, o1, rfl, hb1, hc1⟩ := HR.out.at_ a hlt
          have hc1 : wr.cell? ⟨b1, o1 + a, none⟩ = some (.int .u8 (xs.getD a 0)) := (HP.out.fr.cell (p := ⟨b1, o1 + a, none⟩) hb1 id).trans hc1
          obtain ⟨x, hx⟩ := Int.eq_ofNat_of_zero_le (hb a).1
          have hx8 : x < 256 := by have := (hb a).2; omega
          rw [hx] at hc1
          obtain ⟨y, hy1, hy2, hy3⟩ := bit_val hx8 (show k ≤ 7 by omega)
          have hnx : sofar xs a (7 - k) ++ [(y : Int) != 0] = sofar xs a (8 - k) := by
            rw [hy3]
            have := sofar_next (xs := xs) (a := a) (j := 7 - k) (by omega)
            rw [hx] at this
            rw [show 8 - k = 7 - k + 1 by omega]
            exact this
          have hsl := sofar_len (xs := xs) (a := a) (j := 7 - k) (by omega) (by omega)
          generalize sofar xs a (7 - k) = M at *
          have HN := Lib.hid hnx
          have y0 : (0 : Int) ≤ (y : Int) := by omega
          have y1 : (y : Int) ≤ 1 := by omega
          have HA := Lib.hid HP.out.ask
          clear hy3 hnx
          go_wp2_with fail
          refine HA.out.mono ?_
          rintro e w5 ⟨rfl, h5⟩
          have HC := Lib.hid (h5.code y (by omega))
          clear h5 HA HP hc1
          go_wp2_with fail
          refine HC.out.mono ?_
          rintro e w6 ⟨rfl, v', h6⟩
          have HT := Lib.hid (h6.teach y)
          clear h6 HC
          go_wp2_with fail
          refine HT.out.mono ?_
          rintro e w7 ⟨rfl, h7⟩
          rw [HN.out] at h7
          have H7 := Lib.hid h7
          clear h7 HT
          go_wp2_with fail
          go_roundw
          case rel => exact ⟨k, _, by omega, by go_num, H7.out⟩
          case measure => simp [intOf] <;> omega
    · obtain rfl : a = n := by omega
      have a0 : ¬ (a : Int) < (a : Int) := by omega
      have hp := HP.out
      rw [show sofar xs a 0 = bbs xs by rw [← hlen]; exact sofar_all xs] at hp
      have HF := Lib.hid (hp.flush (by rw [bbs_len]; omega))
      clear HP hp
      go_wp2_with fail
      refine HF.out.mono ?_
      rintro e w7 ⟨u, rfl, h7⟩
      have H7 := Lib.hid h7
      clear h7 HF
      go_wp2_with fail
      refine bodyPost_ret (results_tmp2 rfl _ _ _) rfl ?_
      exact ⟨u, rfl, H7.out⟩

end Go.Proofs.YtpknbfkknnaajaaDoor
