/- The contracts of the document's own reader of bits. -/
import Derived.Test.YtlnhpdikdefgoaaBitsR2
import Derived.Lib.MinMax
namespace Go.Proofs.Ytlnhpdikdefgoaa
open Go.RowKit

set_option maxHeartbeats 800000 in
theorem qleft_any : RLeft 68 50 := by
  intro g A c bs p L err w h hL
  have c0 := h.blk.cell 0
  have c1 := h.blk.cell 1
  simp at c0 c1
  obtain ⟨e1, e2⟩ := left_wraps bs.length p h.small h.le
  have HL := Lib.hid hL
  clear h hL
  go_enter Try.func50, Try.ntmps50
  go_wp2
  go_quiet (fail)
  go_wp2
  go_ret
  exact ⟨ret_int (by have := HL.out; clear e1 e2; omega), _, rfl⟩


set_option maxHeartbeats 800000 in
theorem qat_any (g : Nat) (A : Option Addr) (c : Nat) (bs : List Int) (p i : Nat) (err : Int) (w : World) (h : Rd w g 68 A c bs p err) (hi : i < 8 * bs.length) :
    Calls Try.prog 51 #[.pointer (some ⟨g, 0, none⟩), .int .i64 i] w fun e w' => e = .returned (.int .i64 (bitAt bs i)) ∧ w = w' := by
  have c0 := h.blk.cell 0
  obtain ⟨b, o, rfl, hb, hc⟩ := h.row.at_ (i / 8) (by omega)
  have hby := h.byte (i / 8)
  have hsm := h.small
  simp at c0 hc hby
  have hlt : ((i : Int) / 8) < bs.length := by omega
  clear h
  go_enter Try.func51, Try.ntmps51
  go_wp2
  go_ret
  refine ⟨ret_int ?_, rfl⟩
  exact byte_bit _ _ hby.1 hby.2

set_option maxHeartbeats 1600000 in
theorem qBits_any : RBits 68 35 := by
  intro g A c bs p err m w h
  have hc : 0 ≤ clamp m 32 ∧ clamp m 32 ≤ 32 := by unfold clamp; split <;> (try split) <;> omega
  obtain ⟨k, hk⟩ : ∃ k : Nat, clamp m 32 = k := ⟨(clamp m 32).toNat, by omega⟩
  have hk32 : k ≤ 32 := by omega
  have hkk : wBitsN m = k := by unfold wBitsN; omega
  rw [hkk]
  have hmm : max 0 (min m 32) = (k : Int) := by rw [← hk]; unfold clamp; split <;> (try split) <;> omega
  clear hk hc hkk
  by_cases he : err = 0
  · subst he
    obtain ⟨L, hL⟩ : ∃ L, p + L = 8 * bs.length := ⟨8 * bs.length - p, by have := h.le; omega⟩
    have hsm := h.small
    have HL := Lib.hid hL
    have c2 := h.blk.cell 2
    simp at c2
    by_cases hlt : L < k
    · have hS : sBits bs p 0 k = (0, p, 3) := by unfold sBits; rw [if_neg (by simp), if_pos (by omega)]
      rw [hS]
      clear hS hL
      go_enter Try.func35, Try.ntmps35
      go_wp2_with fail
      refine (qleft_any g A c bs p L 0 _ h HL.out).mono ?_
      rintro e w' ⟨rfl, n1, rfl⟩
      have f2 := (h.drewN n1).blk.frozen 2
      go_wp2_with fail
      go_ret
      exact ⟨rfl, h.setErr n1 3⟩
    · have hS : sBits bs p 0 k = (numAt bs p k, p + k, 0) := by unfold sBits; rw [if_neg (by simp), if_neg (by omega)]
      rw [hS]
      have hpk : p + k ≤ 8 * bs.length := by omega
      have hpi : (p : Int) + k ≤ 800000000 := by omega
      clear hS hL
      go_enter Try.func35, Try.ntmps35
      go_wp2_with fail
      refine (qleft_any g A c bs p L 0 _ h HL.out).mono ?_
      rintro e w' ⟨rfl, n1, rfl⟩
      go_wp2_with fail
      go_loopw [5, 6] (fun v i wr => ∃ j : Nat, j ≤ k ∧ i = .int .i64 j ∧ v = .int .u32 (numAt bs p j) ∧ RPost w wr g 68 A c bs (p + j) 0) (fun _ i _ => (k - intOf i).toNat)
      case atStart => exact ⟨0, by omega, by simp, rfl, h.refl n1⟩
      case round =>
        obtain ⟨j, hj, rfl, rfl, hr, hkw⟩ := hrel
        by_cases hlt' : j < k
        · have c1 := hr.blk.cell 1
          have f1 := hr.blk.frozen 1
          simp at c1
          have hb := numAt_lt bs p j
          have hs := shl_or (numAt bs p j) (bitAt bs (p + j)) (Nat.lt_of_lt_of_le hb (Nat.pow_le_pow_right (by omega) (by omega : j ≤ 31))) (bitAt_01 bs (p + j))
          have Hs := Lib.hid hs
          clear hs hb
          have hpj : (p : Int) + j + 1 ≤ 800000000 := by omega
          go_wp2_with fail
          have hcall := qat_any g A c bs (p + j) (p + j) 0 _ hr (by omega)
          rw [show ((p + j : Nat) : Int) = (p : Int) + j from by omega] at hcall
          refine hcall.mono ?_
          rintro e w' ⟨rfl, rfl⟩
          clear hcall
          go_wp2_with fail
          go_roundw
          case rel => exact ⟨j + 1, by omega, by go_num, by rw [Hs.out]; rfl, (hr.setAt 0 (p + (j + 1)) (by omega) _ (by omega)).1, hkw.setCell (fun _ => rfl) _⟩
          case measure => simp [intOf]; omega
        · go_wp2_with fail
          go_ret
          have : j = k := by omega
          subst this
          exact ⟨rfl, hr, hkw⟩
  · have hS : sBits bs p err k = (0, p, err) := by unfold sBits; rw [if_pos he]
    rw [hS]
    have hb : (err != 0) = true := by simp [he]
    have c2 := h.blk.cell 2
    simp at c2
    clear hS he
    go_enter Try.func35, Try.ntmps35
    go_wp2_with fail
    go_ret
    exact ⟨rfl, h, Kept.refl _ _⟩

theorem sUnary_at (bs : List Int) (p m L j : Nat) (_hj : j ≤ m) (hL : j ≤ L) (ha : ∀ i, i < j → bitAt bs (p + i) ≠ 0) :
    (j = m → sUnary bs p 0 m L = (m, p + m, 0)) ∧ (j < m → j = L → sUnary bs p 0 m L = (0, p, 3)) ∧ (j < m → j < L → bitAt bs (p + j) = 0 → sUnary bs p 0 m L = (j, p + j + 1, 0)) := by
  refine ⟨fun e => ?_, fun h1 e => ?_, fun h1 h2 hb => ?_⟩
  · have := onesN_eq bs j p (min m L) (by omega) ha (.inl (by omega))
    unfold sUnary; rw [if_neg (by simp), this, if_pos e]
  · have := onesN_eq bs j p (min m L) (by omega) ha (.inl (by omega))
    unfold sUnary; rw [if_neg (by simp), this, if_neg (by omega), if_pos e]
  · have := onesN_eq bs j p (min m L) (by omega) ha (.inr hb)
    unfold sUnary; rw [if_neg (by simp), this, if_neg (by omega), if_neg (by omega)]

set_option maxHeartbeats 1600000 in
theorem qUnary_any : RUnary 68 36 := by
  intro g A c bs p L m err mi w h hL hmi hm
  have c2 := h.blk.cell 2
  have c1 := h.blk.cell 1
  have c0 := h.blk.cell 0
  simp at c0 c1 c2
  by_cases he : err = 0
  · subst he
    have hsm := h.small
    have hLs : L ≤ 800000000 := by omega
    have hps : p ≤ 800000000 := by omega
    have HL := Lib.hid hL
    have Hmi := Lib.hid hmi
    clear hL hmi
    go_enter Try.func36, Try.ntmps36
    go_wp2_with fail
    go_loopw [5] (fun i wr => ∃ j n1 : Nat, j ≤ m ∧ j ≤ L ∧ i = .int .i64 j ∧ wr = w.drewN n1 ∧ ∀ i, i < j → bitAt bs (p + i) ≠ 0) (fun i _ => (L - intOf i).toNat)
    case atStart => exact ⟨0, 0, by omega, by omega, rfl, rfl, fun i hi => by omega⟩
    case round =>
      obtain ⟨j, n1, hjm, hjL, rfl, rfl, ha⟩ := hrel
      have hS := sUnary_at bs p m L j hjm hjL ha
      have Ha := Lib.hid ha
      have HS := Lib.hid hS
      clear ha hS
      have hpj : (p : Int) + j + 1 ≤ 1600000001 := by omega
      by_cases hlt : (j : Int) < mi
      · have hjm' : j < m := by have := Hmi.out; omega
        have e1 : IntKind.i64.wrap ((p : Int) + j) = (p : Int) + j := IntWalk.i64_in _ (by omega)
        have e2 : IntKind.i64.wrap (8 * (bs.length : Int)) = 8 * (bs.length : Int) := IntWalk.i64_in _ (by omega)
        by_cases hjL' : j = L
        · have hd : decide (8 * (bs.length : Int) ≤ (p : Int) + j) = true := by have := HL.out; simp; omega
          have Hj := Lib.hid hjL'
          clear hjL'
          go_wp2_with fail
          go_quiet (fail)
          have f2 := (h.drewN (n1 + nq)).blk.frozen 2
          clear e1 e2
          go_wp2_with fail
          go_ret
          rw [HS.out.2.1 hjm' Hj.out]
          exact ⟨rfl, h.setErr (n1 + nq) 3⟩
        · have hd : decide (8 * (bs.length : Int) ≤ (p : Int) + j) = false := by have := HL.out; simp; omega
          have hjl : j < L := by omega
          clear hjL'
          go_wp2_with fail
          go_quiet (fail)
          clear e1 e2 hd
          go_wp2_with fail
          have hcall := qat_any g A c bs p (p + j) 0 _ (h.drewN (n1 + nq)) (by have := HL.out; omega)
          rw [show ((p + j : Nat) : Int) = (p : Int) + j from by omega] at hcall
          refine hcall.mono ?_
          rintro e w' ⟨rfl, rfl⟩
          clear hcall
          rcases bitAt_01 bs (p + j) with hb | hb
          · rw [hb]
            have Hb := Lib.hid hb
            clear hb
            have f1 := (h.drewN (n1 + nq)).blk.frozen 1
            go_wp2_with fail
            go_ret
            rw [HS.out.2.2 hjm' hjl Hb.out]
            exact ⟨rfl, h.setAt (n1 + nq) (p + j + 1) (by have := HL.out; omega) _ (by omega)⟩
          · rw [hb]
            have Hb := Lib.hid hb
            clear hb
            go_wp2_with fail
            go_roundw
            case rel => exact ⟨j + 1, n1 + nq, by omega, by omega, by go_num, rfl, fun i hi => by
              rcases Nat.lt_or_ge i j with hij | hij
              · exact Ha.out i hij
              · obtain rfl : i = j := by omega
                rw [Hb.out]; omega⟩
            case measure => simp [intOf]; omega
      · have hjm' : j = m := by have := Hmi.out; omega
        have Hj := Lib.hid hjm'
        clear hjm'
        have f1 := (h.drewN n1).blk.frozen 1
        go_wp2_with fail
        go_ret
        rw [HS.out.1 Hj.out]
        exact ⟨ret_int (by have := Hj.out; omega), h.setAt n1 (p + m) (by have := HL.out; have := Hj.out; omega) _ (by have := Hj.out; omega)⟩
  · have hS : sUnary bs p err m L = (0, p, err) := by unfold sUnary; rw [if_pos he]
    rw [hS]
    have hb : (err != 0) = true := by simp [he]
    clear hS he hL hmi
    go_enter Try.func36, Try.ntmps36
    go_wp2_with fail
    go_ret
    exact ⟨rfl, h, Kept.refl _ _⟩


end Go.Proofs.Ytlnhpdikdefgoaa
