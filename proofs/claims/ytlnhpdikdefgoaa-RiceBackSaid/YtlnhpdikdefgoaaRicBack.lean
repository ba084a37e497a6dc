/- RiceBack: whatever numbers are packed are unpacked again, and their pack is no longer than 56 bits a number and five a block. For all numbers. -/
import Derived.Test.YtlnhpdikdefgoaaRicAw
import Derived.Test.YtlnhpdikdefgoaaRicH
import Derived.Test.YtlnhpdikdefgoaaHelpInt32
import Derived.Test.YtlnhpdikdefgoaaArgs
namespace Go.Proofs.Ytlnhpdikdefgoaa.riceBack
open Go.ChangeShapes Go.WideShapes Go.ChangeAt Go.RowKit

attribute [local go_sem ↓] Go.wp_at_zero Go.wp_at_succ

theorem back {l : List Int} (h : R32 l) (hn : l.length ≤ 1048576) : unE (pk (rall l)) (l.length : Int) = 0 ∧ unL (pk (rall l)) (l.length : Int) = l := by
  have e : unR (pk (rall l)) l.length = some l := (unR_iff _ _ _).2 ⟨rfl, h, rfl⟩
  have h1 : ¬ ((l.length : Int) < 0) := by omega
  have h2 : ¬ (1048576 < (l.length : Int)) := by omega
  have h3 : ¬ ((l.length : Int) < 0 ∨ 1048576 < (l.length : Int)) := by omega
  unfold unE unL
  rw [if_neg h1, if_neg h2, if_neg h3, Int.toNat_natCast, e]
  exact ⟨rfl, rfl⟩

set_option maxRecDepth 100000 in
set_option maxHeartbeats 1600000 in
theorem walk (ok : RiceOK) (A : Option Addr) (n c : Nat) (l : List Int) (w : World) (_ : A = none → c = 0) (hr : Row w .i32 A n l) (hb : R32 l) (_ : n ≤ maxLen) (hnc : n ≤ c) :
    Calls Try.prog 5 #[.slice A n c] w fun e w' => e = .returned (.bool true) ∧ Below w.heap.size w w' := by
  by_cases hlong : 2000 < n
  · have h1 : 2000 < (n : Int) := by omega
    have HA := Lib.hid (awakeR_any ok w)
    clear hr ok
    go_enter Try.func5, Try.ntmps5
    go_wp2_with fail
    refine HA.out.mono ?_
    rintro e w1 ⟨rfl, hf⟩
    have HF := Lib.hid hf.toBelow
    clear hf HA
    go_wp2_with fail
    go_ret
    exact ⟨rfl, HF.out⟩
  · have h1 : ¬ 2000 < (n : Int) := by omega
    have hlen := hr.len
    subst hlen
    have HQ : Hid (∀ V, Fresh w V → Row V .i32 A l.length l) := Lib.hid fun V hV => hr.kept hV (fun _ _ _ _ => id)
    have HP := Lib.hid (ok.pack A _ c l w hr hb (by omega) hnc)
    have hpl : (pk (rall l)).length ≤ 20000 ∧ 8 * (pk (rall l)).length < 56 * l.length + 5 * (l.length / 64 + 1) + 8 := by
      have := rall_length l
      rw [pk_length]
      omega
    have HU : Hid (∀ (B : Option Addr) (cB : Nat) (V : World), Row V .u8 B (pk (rall l)).length (pk (rall l)) → Calls Try.prog 19 #[.slice B (pk (rall l)).length cB, .int .i64 (l.length : Int)] V fun e w' => ∃ u, e = .returned (.tuple #[u, .int .i64 0]) ∧ NewRow V w' 21 .i32 u l) := Lib.hid fun B cB V hV => by
      have := ok.un B _ cB (pk (rall l)) (l.length : Int) V hV (pk_bytes _) (by omega)
      obtain ⟨e1, e2⟩ := back hb (by omega)
      unfold RUn at this
      rw [e1, e2] at this
      exact this
    have HO := Lib.hid ok
    clear hr ok
    have hz0 : (0 : Int) ≤ ((pk (rall l)).length : Int) := by omega
    have hz1 : ((pk (rall l)).length : Int) ≤ 20000 := by omega
    have hz2 : 8 * ((pk (rall l)).length : Int) < 56 * (l.length : Int) + 5 * ((l.length : Int) / 64 + 1) + 8 := by omega
    clear hpl
    generalize pk (rall l) = z at *
    go_enter Try.func5, Try.ntmps5
    go_wp2_with fail
    refine HP.out.mono ?_
    rintro e w1 ⟨u, rfl, hu, _, hf1⟩
    obtain ⟨Au, cu, rfl, hru, _⟩ := hu.row
    have HU1 := Lib.hid (HU.out Au cu w1 hru)
    have H1 := Lib.hid hf1
    clear hu hf1 hru HP HU
    go_wp2_with fail
    refine HU1.out.mono ?_
    rintro e w2 ⟨v, rfl, hv, _, hf2⟩
    obtain ⟨Av, cv, rfl, hrv, _⟩ := hv.row
    have H2 := Lib.hid (And.intro hrv (H1.out.trans hf2 (fun _ _ h => h)))
    have HA := Lib.hid (awakeR_any HO.out w2)
    clear hv hrv hf2 HU1 H1
    go_wp2_with fail
    refine HA.out.mono ?_
    rintro e w3 ⟨rfl, hf3⟩
    have H3 := Lib.hid (H2.out.2.trans hf3 (fun _ _ h => h))
    have HB := Lib.hid (hPlainInt32_any A Av _ _ c cv l l w3 (HQ.out w3 H3.out) (H2.out.1.kept hf3 (fun _ _ _ _ => id)) (by omega) (by omega))
    rw [decide_eq_true rfl] at HB
    clear hf3 H2 HA
    go_wp2_with fail
    refine HB.out.mono ?_
    rintro e w4 ⟨rfl, k4, rfl⟩
    have H4 := Lib.hid (H3.out.drewN k4).toBelow
    clear H3 HB HQ
    generalize w3.drewN k4 = w4 at *
    go_wp2_with fail
    go_ret
    exact ⟨rfl, H4.out⟩

set_option maxRecDepth 100000 in
theorem lifted (os : Os) (started : os.Started) (H : Type) (enc : TypeId × Value → H) :
    ReturnsInHanded {} Try.checked os 5 .any (Rows.riceBackSpec.pre6 enc Try.prog Try.f5 Rows.riceBackRow.domain false) (Rows.riceBackSpec.post enc Try.prog Try.f5 false true false false) := by
  refine returnsInHanded_of_change (C := Try.checked) Try.own started (by kernel_rfl) Try.func5
    (ChangeSpec.witness6 (enc := enc) (C := Try.checked) false ⟨#[], #[.slice none 0 0], []⟩ 8 (by kernel_rfl) (by kernel_rfl) (by kernel_rfl) (by kernel_rfl)) ?_
  intro W base args ds gs before hval0 hW hcnd _
  have hval : ∀ (j : Nat) t v, Try.f5.params[j]? = some t → args[j]? = some v → Value.okWide Try.prog W .any base t v := hval0
  have hpost : ∀ W', Below W.heap.size W W' → Rows.riceBackSpec.post enc Try.prog Try.f5 false true false false W args (.bool true) W' := fun W' hb =>
    law_post (by kernel_rfl) Try.underlying4 (by kernel_rfl) rfl (fun ds hl => match ds, hl with | [d1], _ => ⟨rfl, rfl, rfl⟩) hW hb
  obtain ⟨p, q, hA0, hV, rfl, hfz, hnd⟩ := hW
  have hA : DataW.TrodAll enc Try.prog W 0 (fun _ => true) true Try.f5.params.toList args.toList ds p := hA0
  rw [Try.params5] at hA hval
  obtain ⟨v0, vs0, d0, ds0, p0, q0, hargs, rfl, rfl, h0, r0⟩ := trodAll_cons hA
  obtain ⟨rfl, rfl, rfl⟩ := trodAll_nil r0
  obtain rfl : args = #[v0] := by cases args; simp_all
  obtain ⟨A0, n0, c0, xs0, rfl, hz0, hr0, hb0, hn0, hc0⟩ := open_rowc Try.underlying22 Try.underlying21 (by kernel_rfl) (hval 0 22 v0 rfl rfl) h0
  refine (walk riceOK A0 n0 c0 xs0 W hz0 hr0 (range_ints32 hb0) hn0 hc0).mono fun e W' ⟨he, hb⟩ => ⟨_, he, hpost W' hb⟩

/-- The statement. -/
theorem proved : Rows.RiceBackSaid :=
  OpenClaim.holds_of_wide 5 Try.f5 rfl rfl rfl rfl rfl rfl rfl ⟨rfl, rfl, rfl, rfl, rfl⟩ rfl rfl rfl rfl rfl (by kernel_rfl) Try.func5 (by kernel_rfl)
    (of_decide_eq_true (by kernel_rfl)) (by unfold Func.isWrapper; first | (rw [if_pos (by decide +kernel)]; kernel_rfl) | (rw [if_neg (by decide +kernel)]; exact ⟨rfl, rfl⟩))
    (fun os started H enc _ => lifted os started H enc)
#print axioms proved

end Go.Proofs.Ytlnhpdikdefgoaa.riceBack
