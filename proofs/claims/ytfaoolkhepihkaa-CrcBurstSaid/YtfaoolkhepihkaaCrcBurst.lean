/- CrcBurst: bytes of which some that lie within 32 neighbouring bits are turned have another sum. For every list of bytes, every place and every mask. -/
import Derived.Test.YtfaoolkhepihkaaCrcB
import Derived.Test.YtfaoolkhepihkaaCrcBits
import Derived.Test.YtfaoolkhepihkaaLaw
import Derived.BigRegion
namespace Go.Proofs.Ytfaoolkhepihkaa.crcBurst
open Go.ChangeShapes Go.WideShapes Go.ChangeAt Go.RowKit

set_option maxRecDepth 100000 in
set_option maxHeartbeats 1600000 in
theorem short (A : Option Addr) (n c : Nat) (at_ : Int) (mask : Nat) (w : World) (h : n = 0 ∨ mask = 0 ∨ 1048576 < n) :
    Calls Try.prog 5 #[.slice A n c, .int .i64 at_, .int .u32 mask] w fun e w' => e = .returned (.bool true) ∧ Below w.heap.size w w' := by
  by_cases h1 : n = 0
  · subst h1
    go_enter Try.func5, Try.ntmps5
    go_wp2_with fail
    refine (cAwake_any _).mono ?_
    rintro e w1 ⟨rfl, hk⟩
    go_wp2_with fail
    refine (cAwake_any _).mono ?_
    rintro e w2 ⟨rfl, hk2⟩
    go_wp2_with fail
    go_ret
    exact ⟨rfl, (hk.trans hk2 (fun _ _ h => h)).toBelow⟩
  · have hb1 : ((n : Int) == 0) = false := by simp; omega
    by_cases h2 : mask = 0
    · subst h2
      clear h
      go_enter Try.func5, Try.ntmps5
      go_wp2_with fail
      refine (cAwake_any _).mono ?_
      rintro e w1 ⟨rfl, hk⟩
      go_wp2_with fail
      refine (cAwake_any _).mono ?_
      rintro e w2 ⟨rfl, hk2⟩
      go_wp2_with fail
      go_ret
      exact ⟨rfl, (hk.trans hk2 (fun _ _ h => h)).toBelow⟩
    · have hb2 : ((mask : Int) == 0) = false := by simp; omega
      have h3 : (1048576 : Int) < n := by omega
      clear h h1 h2
      go_enter Try.func5, Try.ntmps5
      go_wp2_with fail
      refine (cAwake_any _).mono ?_
      rintro e w1 ⟨rfl, hk⟩
      go_wp2_with fail
      refine (cAwake_any _).mono ?_
      rintro e w2 ⟨rfl, hk2⟩
      go_wp2_with fail
      go_ret
      exact ⟨rfl, (hk.trans hk2 (fun _ _ h => h)).toBelow⟩

theorem flip8 {x : Int} (h : 0 ≤ x ∧ x < 256) {r : Nat} (hr : r < 8) : bits .xor .u8 x (2 ^ r % 256) = ((x.toNat ^^^ 2 ^ r : Nat) : Int) := by
  have h1 : 2 ^ r ≤ 2 ^ 7 := Nat.pow_le_pow_right (by decide) (by omega)
  have e : (2 : Int) ^ r % 256 = ((2 ^ r : Nat) : Int) := by
    have e1 : (2 : Int) ^ r = ((2 ^ r : Nat) : Int) := by simp
    rw [e1]
    clear e1
    generalize 2 ^ r = y at *
    omega
  rw [e, u8_xor x _ h.1 h.2 (by omega) (by omega), Int.toNat_natCast]
theorem first_of (at_ : Int) (n : Nat) (h1 : 0 < n) (h3 : n ≤ 1048576) : ∃ F : Nat, wrap64 ((IntKind.u64.wrap at_).tmod (8 * (n : Int))) = (F : Int) ∧ F < 8 * n := by
  have e : IntKind.u64.wrap at_ = at_ % 18446744073709551616 := by simp [IntKind.wrap, IntKind.bits, IntKind.signed]
  have h0 : 0 ≤ at_ % 18446744073709551616 := by omega
  have ht : (at_ % 18446744073709551616).tmod (8 * (n : Int)) = (at_ % 18446744073709551616) % (8 * (n : Int)) := Int.tmod_eq_emod_of_nonneg h0
  have hlo : 0 ≤ (at_ % 18446744073709551616) % (8 * (n : Int)) := Int.emod_nonneg _ (by omega)
  have hhi : (at_ % 18446744073709551616) % (8 * (n : Int)) < 8 * (n : Int) := Int.emod_lt_of_pos _ (by omega)
  rw [e, ht]
  generalize (at_ % 18446744073709551616) % (8 * (n : Int)) = r at *
  obtain ⟨F, rfl⟩ := Int.eq_ofNat_of_zero_le hlo
  exact ⟨F, IntWalk.wrap64_in _ (by omega), by omega⟩

set_option maxRecDepth 100000 in
set_option maxHeartbeats 3200000 in
theorem long (A : Option Addr) (n c : Nat) (at_ : Int) (mask : Nat) (xs : List Int) (w : World) (hr : Row w .u8 A n xs) (hx : Byt xs) (h1 : 0 < n) (h2 : 0 < mask) (h3 : n ≤ 1048576) (hm : mask < 4294967296) :
    Calls Try.prog 5 #[.slice A n c, .int .i64 at_, .int .u32 mask] w fun e w' => e = .returned (.bool true) ∧ Below w.heap.size w w' := by
  have hb1 : ((n : Int) == 0) = false := by simp; omega
  have hb2 : ((mask : Int) == 0) = false := by simp; omega
  have hb3 : ¬ (1048576 : Int) < n := by omega
  have HR := Lib.hid hr
  have HX := Lib.hid hx
  have Hlen := Lib.hid hr.len
  clear hr hx
  go_enter Try.func5, Try.ntmps5
  go_wp2_with fail
  refine (cAwake_any _).mono ?_
  rintro e w1 ⟨rfl, hk⟩
  have HK := Lib.hid hk
  clear hk
  go_wp2_with fail
  refine (copyBytes_any A n c xs _ (HR.out.kept HK.out (fun _ _ _ _ => id)) (by omega)).mono ?_
  rintro e w2 ⟨v, rfl, hown, hnew, hk2⟩
  have hk : Fresh w w2 := HK.out.trans hk2 (fun _ _ h => h)
  obtain ⟨g, cap, hv, hg⟩ := hown.form (by rw [Hlen.out]; omega)
  rw [Hlen.out] at hv
  subst hv
  have hgn : w.heap.size ≤ g := by have := hnew g rfl; have := HK.out.size; omega
  have H := Lib.hid (And.intro hown (And.intro hgn hk))
  clear hown hnew hk hk2 hgn hg
  obtain ⟨F, hF, hF8⟩ := first_of at_ n h1 h3
  go_wp2_with fail
  rw [hF]
  clear hF
  generalize (IntKind.u64.wrap at_).tmod (8 * (n : Int)) = tm at *
  go_loopw [9, 10] (fun sm i wr => ∃ (k : Nat) (cs : List Int) (sb : Bool), k ≤ 32 ∧ i = .int .i64 k ∧ sm = .bool sb ∧ sb = decide (mask % 2 ^ k ≠ 0) ∧ cs.length = n ∧ Byt cs ∧ Own wr 5 .u8 (.slice (some ⟨g, 0, none⟩) n cap) cs ∧ le cs = le xs ^^^ (mask % 2 ^ k) * 2 ^ F ∧ Fresh w wr) (fun _ i _ => (32 - intOf i).toNat)
  case atStart => exact ⟨0, xs, false, by omega, rfl, rfl, by simp [Nat.mod_one], Hlen.out, HX.out, H.out.1, by simp [Nat.mod_one], H.out.2.2⟩
  case round =>
    obtain ⟨k, cs, sb, hk, rfl, rfl, hsb, hcl, hcb, hown, hle, hfr⟩ := hrel
    have Hsb := Lib.hid hsb
    have Hcl := Lib.hid hcl
    have Hcb := Lib.hid hcb
    have Hown := Lib.hid hown
    have Hle := Lib.hid hle
    have Hfr := Lib.hid hfr
    clear hsb hcl hcb hown hle hfr
    by_cases hin : k < 32 ∧ F + k < 8 * n
    · obtain ⟨hk32, hp8⟩ := hin
      have hd1 : (F : Int) + (k : Int) < 8 * (n : Int) := by omega
      obtain ⟨q, r, hqr, hr8⟩ : ∃ q r : Nat, F + k = 8 * q + r ∧ r < 8 := ⟨(F + k) / 8, (F + k) % 8, by omega, by omega⟩
      have hq1 : ((F : Int) + (k : Int)) / 8 = (q : Int) := by omega
      have hq2 : ((F : Int) + (k : Int)) % 8 = (r : Int) := by omega
      by_cases hbit : mask / 2 ^ k % 2 = 1
      · have hbt : (bits .and .u32 ((mask : Int) / 2 ^ k) 1 == 1) = true := by
          have e : (mask : Int) / 2 ^ k = ((mask / 2 ^ k : Nat) : Int) := by simp
          have : mask / 2 ^ k ≤ mask := Nat.div_le_self _ _
          rw [e]
          exact u32_is_odd (by omega) hbit
        have hcs := Hown.out
        rw [← Hcl.out] at hcs
        have hql : q < cs.length := by rw [Hcl.out]; omega
        have hcell := hcs.cell (j := q) hql
        have hfz := hcs.frozen q
        have hxb := Hcb.out.at_ hql
        have hst := hcs.stored q ((((cs.getD q 0).toNat ^^^ 2 ^ r : Nat)) : Int)
        have hle := turn_bit Hle.out hql hqr hbit
        have hby := Hcb.out.set q (x := (((cs.getD q 0).toNat ^^^ 2 ^ r : Nat) : Int)) ⟨by omega, by have := turn_byte (x := (cs.getD q 0).toNat) (r := r) (by omega) hr8; omega⟩
        have hfl := flip8 hxb hr8
        have hln : (cs.set q (((cs.getD q 0).toNat ^^^ 2 ^ r : Nat) : Int)).length = n := by rw [List.length_set, Hcl.out]
        rw [Hcl.out] at hst
        generalize cs.set q (((cs.getD q 0).toNat ^^^ 2 ^ r : Nat) : Int) = cs' at *
        generalize ((cs.getD q 0).toNat ^^^ 2 ^ r : Nat) = y at *
        generalize cs.getD q 0 = x at *
        have Hst := Lib.hid (And.intro hst (And.intro hle (And.intro hby hln)))
        have Hfl := Lib.hid hfl
        have hqn : (q : Int) < (n : Int) := by omega
        have hq0 : (0 : Int) ≤ (q : Int) := by omega
        have hr0 : (0 : Int) ≤ (r : Int) := by omega
        have hr1 : (r : Int) < 8 := by omega
        clear hqr hst hle hby hln hfl hcs
        go_wp2_with fail
        go_roundw
        case rel =>
          rw [Hfl.out]
          exact ⟨k + 1, cs', true, by omega, by go_num, rfl, by simp [turn_some hbit], Hst.out.2.2.2, Hst.out.2.2.1, Hst.out.1, Hst.out.2.1, Hfr.out.setCell (p := ⟨g, q, none⟩) (fun h => by have := H.out.2.1; simp at h; omega) _⟩
        case measure => simp [intOf]; omega
      · have hb0 : mask / 2 ^ k % 2 = 0 := by omega
        have hbt : (bits .and .u32 ((mask : Int) / 2 ^ k) 1 == 1) = false := by
          have e : (mask : Int) / 2 ^ k = ((mask / 2 ^ k : Nat) : Int) := by simp
          have : mask / 2 ^ k ≤ mask := Nat.div_le_self _ _
          rw [e]
          exact u32_is_even (by omega) hb0
        have hmz := mask_zero hb0
        have Hmz := Lib.hid hmz
        clear hmz hqr
        go_wp2_with fail
        go_roundw
        case rel => exact ⟨k + 1, cs, sb, by omega, by go_num, rfl, by rw [Hmz.out]; exact Hsb.out, Hcl.out, Hcb.out, Hown.out, by rw [Hmz.out]; exact Hle.out, Hfr.out⟩
        case measure => simp [intOf]; omega
    · have hmk : mask % 2 ^ k < 4294967296 := Nat.lt_of_le_of_lt (Nat.mod_le _ _) hm
      have hiff := burst_same (by rw [Hcl.out, Hlen.out]) (by rw [Hlen.out]; omega) hmk Hle.out
      have hcr : (((crcOf 0 cs : Nat) : Int) != ((crcOf 0 xs : Nat) : Int)) = sb := by
        rw [Hsb.out]
        by_cases e : mask % 2 ^ k = 0
        · rw [hiff.2 e]; simp [e]
        · have : crcOf 0 cs ≠ crcOf 0 xs := fun h => e (hiff.1 h)
          simp [e]
          omega
      have hrow := Hown.out.row
      obtain ⟨A1, c1, hv, hr1, _⟩ := hrow
      rw [Hcl.out] at hv hr1
      injection hv with hv1 hv2 hv3
      subst hv1; subst hv3
      have HR1 := Lib.hid hr1
      have Hcr := Lib.hid hcr
      clear hr1 hcr hiff hmk
      have hout : ¬ (k : Int) < 32 ∨ ((k : Int) < 32 ∧ ¬ (F : Int) + (k : Int) < 8 * (n : Int)) := by omega
      clear hin
      rcases hout with ho | ⟨ho, ho2⟩
      all_goals
        go_wp2_with fail
        refine (sum_any _ n _ cs _ HR1.out Hcb.out (by omega)).mono ?_
        rintro e w3 ⟨rfl, hk3⟩
        have hf3 : Fresh w w3 := Hfr.out.trans hk3 (fun _ _ h => h)
        have H3 := Lib.hid hf3
        clear hf3 hk3
        go_wp2_with fail
        refine (sum_any A n c xs _ (HR.out.kept H3.out (fun _ _ _ _ => id)) HX.out (by omega)).mono ?_
        rintro e w4 ⟨rfl, hk4⟩
        have hf4 : Fresh w w4 := H3.out.trans hk4 (fun _ _ h => h)
        have H4 := Lib.hid hf4
        clear hf4 hk4
        have hcr := Hcr.out
        go_wp2_with fail
        go_ret
        exact ⟨ret_bool (by simp), H4.out.toBelow⟩

theorem walk (A : Option Addr) (n c : Nat) (at_ : Int) (mask : Nat) (xs : List Int) (w : World) (hr : Row w .u8 A n xs) (hx : Byt xs) (hm : mask < 4294967296) :
    Calls Try.prog 5 #[.slice A n c, .int .i64 at_, .int .u32 mask] w fun e w' => e = .returned (.bool true) ∧ Below w.heap.size w w' := by
  by_cases h : n = 0 ∨ mask = 0 ∨ 1048576 < n
  · exact short A n c at_ mask w h
  · exact long A n c at_ mask xs w hr hx (by omega) (by omega) (by omega) hm

set_option maxRecDepth 100000 in
theorem lifted (os : Os) (started : os.Started) (H : Type) (enc : TypeId × Value → H) :
    ReturnsInHanded {} Try.checked os 5 .any (Rows.crcBurstSpec.pre6 enc Try.prog Try.f5 Rows.crcBurstRow.domain false) (Rows.crcBurstSpec.post enc Try.prog Try.f5 false true false false) := by
  refine returnsInHanded_of_change (C := Try.checked) Try.own started (by kernel_rfl) Try.func5
    (ChangeSpec.witness6 (enc := enc) (C := Try.checked) false ⟨#[], #[.slice none 0 0, .int .i64 0, .int .u32 0], []⟩ 8 (by kernel_rfl) (by kernel_rfl) (by kernel_rfl) (by kernel_rfl)) ?_
  intro W base args ds gs before hval0 hW hcnd _
  have hval : ∀ (j : Nat) t v, Try.f5.params[j]? = some t → args[j]? = some v → Value.okWide Try.prog W .any base t v := hval0
  have hpost : ∀ W', Below W.heap.size W W' → Rows.crcBurstSpec.post enc Try.prog Try.f5 false true false false W args (.bool true) W' := fun W' hb =>
    law_post (by kernel_rfl) Try.underlying4 (by kernel_rfl) rfl (fun ds hl => match ds, hl with | [d1, d2, d3], _ => ⟨rfl, rfl, rfl⟩) hW hb
  obtain ⟨p, q, hA0, hV, rfl, hfz, hnd⟩ := hW
  have hA : DataW.TrodAll enc Try.prog W 0 (fun _ => true) true Try.f5.params.toList args.toList ds p := hA0
  rw [Try.params5] at hA hval
  obtain ⟨v0, vs0, d0, ds0, p0, q0, hargs, rfl, rfl, h0, r0⟩ := trodAll_cons hA
  obtain ⟨v1, vs1, d1, ds1, p1, q1, rfl, rfl, rfl, h1, r1⟩ := trodAll_cons r0
  obtain ⟨v2, vs2, d2, ds2, p2, q2, rfl, rfl, rfl, h2, r2⟩ := trodAll_cons r1
  obtain ⟨rfl, rfl, rfl⟩ := trodAll_nil r2
  obtain rfl : args = #[v0, v1, v2] := by cases args; simp_all
  obtain ⟨A, n, c, xs, rfl, _, hx, hwx, _⟩ := open_row Try.underlying22 Try.underlying5 (by kernel_rfl) (hval 0 22 v0 rfl rfl) h0
  obtain ⟨a1, rfl, rfl, rfl, w1⟩ := open_int Try.underlying3 (hval 1 3 v1 rfl rfl) h1
  obtain ⟨a2, rfl, rfl, rfl, w2⟩ := open_int Try.underlying23 (hval 2 23 v2 rfl rfl) h2
  have hb2 := bounds_u32 w2
  obtain ⟨s, rfl⟩ := Int.eq_ofNat_of_zero_le hb2.1
  exact (walk A n c a1 s xs W hx (fun x hx => by have := bounds_u8 (hwx x hx); omega) (by omega)).mono fun e W' ⟨he, hb⟩ => ⟨_, he, hpost W' hb⟩

/-- The statement. -/
theorem proved : Rows.CrcBurstSaid :=
  OpenClaim.holds_of_wide 5 Try.f5 rfl rfl rfl rfl rfl rfl rfl ⟨rfl, rfl, rfl, rfl, rfl⟩ rfl rfl rfl rfl rfl (by kernel_rfl) Try.func5 (by kernel_rfl)
    (of_decide_eq_true (by kernel_rfl)) (by unfold Func.isWrapper; first | (rw [if_pos (by decide +kernel)]; kernel_rfl) | (rw [if_neg (by decide +kernel)]; exact ⟨rfl, rfl⟩))
    (fun os started H enc _ => lifted os started H enc)
#print axioms proved

end Go.Proofs.Ytfaoolkhepihkaa.crcBurst
