/- The document's Pack of rice. -/
import Derived.Test.YtlnhpdikdefgoaaRicQ
namespace Go.Proofs.Ytlnhpdikdefgoaa
open Go.RowKit
set_option maxRecDepth 100000

attribute [local go_sem ↓] Go.wp_at_zero Go.wp_at_succ

/-- A part of a list of numbers. -/
theorem Row.part {w : World} {k : IntKind} {b o n : Nat} {xs : List Int} (h : Row w k (some ⟨b, o, none⟩) n xs) (s m : Nat) (hs : s + m ≤ n) : Row w k (some ⟨b, o + s, none⟩) m ((xs.drop s).take m) :=
  ⟨by rw [List.length_take, List.length_drop, h.len]; omega, fun j hj => by
    obtain ⟨b', o', e, hb, hc⟩ := h.at_ (s + j) (by omega)
    injection e with e
    injection e with e1 e2
    subst e1 e2
    exact ⟨b, o + s, rfl, hb, by rw [Nat.add_assoc, hc]; simp [List.getD, hj]⟩⟩
theorem QP.fresh {w w' wr : World} {g : Nat} {L : List Bool} (h : QP (fun k => k < w.heap.size) w' wr g L) (hf : Fresh w w') : Fresh w wr := hf.trans h.2 fun _ hi e => e hi
theorem rto_small {l : List Int} (hn : l.length ≤ 1048576) {j : Nat} (hj : 64 * j < l.length + 64) : (rto l j).length ≤ 70000000 := by
  have := rto_length l j
  omega
theorem rcost_small {k : Nat} (hk : k ≤ 24) {l : List Int} (hn : l.length ≤ 64) (r : Nat) : (rnums k (l.take r)).length ≤ 56 * 64 := by
  rw [rnums_length]
  have := rcost_le hk (l.take r)
  rw [List.length_take] at this
  omega

set_option maxHeartbeats 3200000 in
/-- Pack: P10.2. -/
theorem qPackR_any (A : Option Addr) (n c : Nat) (l : List Int) (w : World) (hr : Row w .i32 A n l) (h32 : R32 l) (hn : n ≤ 1048576) (hnc : n ≤ c) :
    Calls Try.prog 11 #[.slice A n c] w fun e w' => ∃ u, e = .returned (.tuple #[u, .int .i64 0]) ∧ NewRow w w' 5 .u8 u (pk (rall l)) := by
  have HR := Lib.hid (And.intro hr h32)
  obtain rfl := hr.len
  have n1 : (l.length : Int) ≤ 1048576 := by omega
  have n2 : (l.length : Int) ≤ (c : Int) := by omega
  clear hr h32
  go_enter Try.func11, Try.ntmps11
  go_wp2_with fail
  have H0 : Hid (QW (fun k => k < w.heap.size) (w.alloc (.cells #[.slice none 0 0] 55)) w.heap.size [] ∧ Fresh w (w.alloc (.cells #[.slice none 0 0] 55))) :=
    Lib.hid ⟨QW.new w _ fun k e => e, (Kept.refl _ _).alloc _⟩
  go_loopw [5] (fun i wr => ∃ j : Nat, 64 * j < l.length + 64 ∧ i = .int .i64 ((64 * j : Nat) : Int) ∧ QW (fun k => k < w.heap.size) wr w.heap.size (rto l j) ∧ Fresh w wr) (fun i _ => (l.length + 64 - intOf i).toNat)
  case atStart => exact ⟨0, by omega, rfl, H0.out.1, H0.out.2⟩
  case round =>
    obtain ⟨j, hj, rfl, hq, hf⟩ := hrel
    have HQ := Lib.hid (And.intro hq hf)
    clear hq hf H0
    by_cases hlt : 64 * j < l.length
    · obtain ⟨b, o, rfl, hb, hc⟩ := HR.out.1.at_ (64 * j) hlt
      obtain ⟨m, hm⟩ : ∃ m, m = min 64 (l.length - 64 * j) := ⟨_, rfl⟩
      have hP : Row w .i32 (some ⟨b, o + 64 * j, none⟩) m (rpart l j) := by
        have := HR.out.1.part (64 * j) m (by omega)
        have e : (l.drop (64 * j)).take m = rpart l j := by
          unfold rpart
          rw [hm, List.take_eq_take_iff, List.length_drop]
          omega
        rw [e] at this
        exact this
      have HP := Lib.hid (And.intro hP (rpart_32 HR.out.2 j))
      clear hP hb hc
      have j0 : ((64 * j : Nat) : Int) < (l.length : Int) := by omega
      have hmin : (min (64 * (j : Int) + 64) (l.length : Int)).toNat - 64 * j = m := by omega
      have hm64 : m ≤ 64 := by omega
      have Hml : Hid (m = (rpart l j).length) := Lib.hid (by rw [rpart_length]; exact hm)
      have Hmin := Lib.hid hmin
      have hfin : 64 * (j + 1) < l.length + 64 := by omega
      have Hto : Hid (rto l (j + 1) = rto l j ++ (bitsOf (rbest (rpart l j)) 5 ++ rnums (rbest (rpart l j)) (rpart l j)) ∧ (rto l j).length ≤ 70000000) := Lib.hid ⟨rfl, rto_small hn hj⟩
      have hbl := rbest_le (rpart l j)
      have HBs := Lib.hid (qBest_any (some ⟨b, o + 64 * j, none⟩) m (c - 64 * j) (rpart l j) wr (HP.out.1.kept HQ.out.2 (fun _ _ _ _ => id)) HP.out.2 (by omega))
      clear hm hmin
      go_wp2_with fail
      rw [Hmin.out]
      refine HBs.out.mono ?_
      rintro e w1 ⟨rfl, rfl⟩
      generalize rpart l j = P at *
      generalize rbest P = k at *
      have k0 : (0 : Int) ≤ (k : Int) := by omega
      have k1 : (k : Int) ≤ 24 := by omega
      go_wp2_with fail
      refine (qwBits_any _ w.heap.size _ k 5 _ HQ.out.1 (by have := Hto.out.2; omega) (by omega)).mono ?_
      rintro e w2 ⟨rfl, h2⟩
      rw [show wBitsN 5 = 5 from by decide] at h2
      have H2 := Lib.hid (And.intro h2.1 (h2.fresh HQ.out.2))
      clear h2 HQ
      go_wp2_with fail
      go_loopw [8] (fun i wr => ∃ r : Nat, r ≤ m ∧ i = .int .i64 r ∧ QW (fun k => k < w.heap.size) wr w.heap.size ((rto l j ++ bitsOf k 5) ++ rnums k (P.take r)) ∧ Fresh w wr) (fun i _ => (m - intOf i).toNat)
      case atStart => exact ⟨0, by omega, rfl, by simpa [rnums] using H2.out.1, H2.out.2⟩
      case round =>
        obtain ⟨r, hr, rfl, hq, hf⟩ := hrel
        have HQ := Lib.hid (And.intro hq hf)
        clear hq hf H2
        by_cases hrm : r < m
        · have hrow := HP.out.1.kept HQ.out.2 (fun _ _ _ _ => id)
          obtain ⟨b', o', e', hb, hc⟩ := hrow.at_ r hrm
          injection e' with e'
          injection e' with e1 e2
          subst e1 e2
          have hv := HP.out.2.at_ r
          have Ht := Lib.hid (rnums_take k P (i := r) (by have := Hml.out; omega))
          have hsm := rcost_small hbl (l := P) (by have := Hml.out; omega) r
          have r0 : (r : Int) < (m : Int) := by omega
          generalize P.getD r 0 = v at *
          clear hrow
          go_wp2_with fail
          refine (qPut_any _ w.heap.size _ v k _ HQ.out.1 (by have := Hto.out.2; simp only [List.length_append, bitsOf_length]; omega) hv hbl).mono ?_
          rintro e w3 ⟨rfl, h3⟩
          rw [List.append_assoc, ← Ht.out] at h3
          have H3 := Lib.hid (And.intro h3.1 (h3.fresh HQ.out.2))
          clear h3 HQ
          go_wp2_with fail
          go_roundw
          case rel => exact ⟨r + 1, by omega, by go_num, H3.out.1, H3.out.2⟩
          case measure => simp [intOf]; omega
        · obtain rfl : r = m := by omega
          go_wp2_with fail
          go_roundw
          case rel =>
            refine ⟨j + 1, hfin, by go_num, ?_, HQ.out.2⟩
            have := HQ.out.1
            rw [Hml.out, List.take_length, List.append_assoc, ← Hto.out.1] at this
            exact this
          case measure => simp [intOf]; omega
    · have j0 : ¬ ((64 * j : Nat) : Int) < (l.length : Int) := by omega
      have hall : rto l j = rall l := by
        unfold rall
        rw [show rblocks l = j from by unfold rblocks; omega]
      rw [hall] at HQ
      have hsm := rto_small hn hj
      rw [hall] at hsm
      go_wp2_with fail
      refine (qwBytes_any _ w.heap.size _ _ HQ.out.1 (by omega)).mono ?_
      rintro e w1 ⟨u, rfl, hu⟩
      have HU := Lib.hid (NewRow_of hu.1 (fun g hg => Nat.le_trans HQ.out.2.size (hu.2.1 g hg)) (HQ.out.2.trans hu.2.2 fun _ _ e => e))
      clear hu HQ
      go_wp2_with fail
      refine bodyPost_ret (results_tmp2 rfl _ _ _) rfl ?_
      exact ⟨u, rfl, HU.out⟩

theorem qPackR_not (A : Option Addr) (n c : Nat) (w : World) (hn : 1048576 < n) :
    Calls Try.prog 11 #[.slice A n c] w fun e w' => e = .returned (.tuple #[.slice none 0 0, .int .i64 5]) ∧ w = w' := by
  have n1 : 1048576 < (n : Int) := by omega
  go_enter Try.func11, Try.ntmps11
  go_wp2_with fail
  refine bodyPost_ret (results_tmp2 rfl _ _ _) rfl ?_
  exact ⟨rfl, rfl⟩

end Go.Proofs.Ytlnhpdikdefgoaa
