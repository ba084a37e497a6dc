/- RiceCut: the pack of any numbers, with a byte more behind it, is refused; asked for any count of numbers it is refused, or the pack of just what is told. For all numbers, bytes and counts. -/
import Derived.Test.YtlnhpdikdefgoaaRicAw
import Derived.Test.YtlnhpdikdefgoaaRicH
import Derived.Test.YtlnhpdikdefgoaaArgs
import Derived.Test.YtlnhpdikdefgoaaHelpCopy
namespace Go.Proofs.Ytlnhpdikdefgoaa.riceCut
open Go.ChangeShapes Go.WideShapes Go.ChangeAt Go.RowKit

attribute [local go_sem ↓] Go.wp_at_zero Go.wp_at_succ

theorem more_no {l : List Int} (h : R32 l) (hn : l.length ≤ 1048576) (x : Int) : unE (pk (rall l) ++ [x]) (l.length : Int) = 4 := by
  have e : unR (pk (rall l) ++ [x]) l.length = none := by
    rcases e : unR (pk (rall l) ++ [x]) l.length with _ | m
    · rfl
    · rw [unR_iff] at e
      exact (okR.more h [x] (by simp) e).elim
  have h1 : ¬ ((l.length : Int) < 0) := by omega
  have h2 : ¬ (1048576 < (l.length : Int)) := by omega
  unfold unE
  rw [if_neg h1, if_neg h2, Int.toNat_natCast, e]
  rfl
theorem any_no {l : List Int} (h : R32 l) {r : Nat} (hr : r ≤ 1048576) : (unE (pk (rall l)) (r : Int) = 4 ∧ r ≠ l.length) ∨ (unE (pk (rall l)) (r : Int) = 0 ∧ (unL (pk (rall l)) (r : Int)).length = r ∧ R32 (unL (pk (rall l)) (r : Int)) ∧ pk (rall (unL (pk (rall l)) (r : Int))) = pk (rall l)) := by
  have h1 : ¬ ((r : Int) < 0) := by omega
  have h2 : ¬ (1048576 < (r : Int)) := by omega
  have h3 : ¬ ((r : Int) < 0 ∨ 1048576 < (r : Int)) := by omega
  unfold unE unL
  rw [if_neg h1, if_neg h2, if_neg h3, Int.toNat_natCast]
  rcases e : unR (pk (rall l)) r with _ | m
  · refine .inl ⟨rfl, fun e2 => ?_⟩
    have : unR (pk (rall l)) r = some l := (unR_iff _ _ _).2 ⟨e2.symm, h, rfl⟩
    rw [e] at this
    cases this
  · rw [unR_iff] at e
    exact .inr ⟨rfl, e⟩

set_option maxRecDepth 100000 in
set_option maxHeartbeats 1600000 in
theorem walk (ok : RiceOK) (A : Option Addr) (n c : Nat) (l : List Int) (x : Int) (hx : 0 ≤ x ∧ x ≤ 255) (m : Int) (w : World) (_ : A = none → c = 0) (hr : Row w .i32 A n l) (hb : R32 l) (_ : n ≤ maxLen) (hnc : n ≤ c) :
    Calls Try.prog 7 #[.slice A n c, .int .u8 x, .int .i64 m] w fun e w' => e = .returned (.bool true) ∧ Below w.heap.size w w' := by
  by_cases hlong : 300 < n
  · have h1 : 300 < (n : Int) := by omega
    have HA := Lib.hid (awakeR_any ok w)
    clear hr ok
    go_enter Try.func7, Try.ntmps7
    go_wp2_with fail
    refine HA.out.mono ?_
    rintro e w1 ⟨rfl, hf⟩
    have HF := Lib.hid hf.toBelow
    clear hf HA
    go_wp2_with fail
    go_ret
    exact ⟨rfl, HF.out⟩
  · have h1 : ¬ 300 < (n : Int) := by omega
    obtain ⟨i0, hi, hz0, hz1, hz2⟩ := info_parts Try.infoByte
    have hlen := hr.len
    subst hlen
    obtain ⟨r, hr0, hrr⟩ := u64_mod m 400 (by omega)
    have hr1 : 0 ≤ IntKind.u64.wrap m := by rw [IntKind.wrap_u64]; omega
    rw [Int.tmod_eq_emod_of_nonneg hr1] at hrr
    have HP := Lib.hid (ok.pack A _ c l w hr hb (by omega) hnc)
    have hpl : (pk (rall l)).length ≤ 20000 := by
      have := rall_length l
      rw [pk_length]
      omega
    have hzb := pk_bytes (rall l)
    have HM : Hid (∀ (B : Option Addr) (cB : Nat) (V : World), Row V .u8 B ((pk (rall l)).length + 1) (pk (rall l) ++ [x]) → Calls Try.prog 19 #[.slice B ((pk (rall l)).length + 1) cB, .int .i64 (l.length : Int)] V fun e w' => ∃ u, e = .returned (.tuple #[u, .int .i64 4]) ∧ Fresh V w') := Lib.hid fun B cB V hV => by
      have := ok.un B _ cB (pk (rall l) ++ [x]) (l.length : Int) V hV (fun y hy => (List.mem_append.1 hy).elim (hzb y) (fun e => by rw [List.mem_singleton.1 e]; omega)) (by omega)
      unfold RUn at this
      rw [more_no hb (by omega)] at this
      exact this.mono fun e w' ⟨u, e1, h⟩ => ⟨u, e1, h.2.2⟩
    have HU : Hid (∀ (B : Option Addr) (cB : Nat) (V : World), Row V .u8 B (pk (rall l)).length (pk (rall l)) → Calls Try.prog 19 #[.slice B (pk (rall l)).length cB, .int .i64 (r : Int)] V fun e w' => RUn V w' e (pk (rall l)) (r : Int)) := Lib.hid fun B cB V hV => ok.un B _ cB (pk (rall l)) (r : Int) V hV hzb (by omega)
    have hany := any_no hb (r := r) (by omega)
    have Hzb := Lib.hid hzb
    have HO := Lib.hid ok
    clear hr ok hzb
    unfold RUn at HU
    have hy0 : (0 : Int) ≤ ((pk (rall l)).length : Int) := by omega
    have hy1 : ((pk (rall l)).length : Int) ≤ 20000 := by omega
    generalize pk (rall l) = z at *
    generalize unL z (r : Int) = L at *
    generalize unE z (r : Int) = er at *
    have Hany := Lib.hid hany
    have Hr := Lib.hid hrr
    clear hany hrr
    go_enter Try.func7, Try.ntmps7
    go_wp2_with fail
    refine HP.out.mono ?_
    rintro e w1 ⟨u, rfl, hu, _, hf1⟩
    obtain ⟨Au, cu, rfl, hru, _⟩ := hu.row
    have HRU : Hid (∀ V, Fresh w1 V → Row V .u8 Au z.length z) := Lib.hid fun V hV => hru.kept hV (fun _ _ _ _ => id)
    have HA := Lib.hid (awakeR_any HO.out w1)
    have H1 := Lib.hid hf1
    clear hu hf1 hru HP
    go_wp2_with fail
    refine HA.out.mono ?_
    rintro e w2 ⟨rfl, hf2⟩
    have H2 := Lib.hid (And.intro hf2 (H1.out.trans hf2 (fun _ _ h => h)))
    have HCp := Lib.hid (hCopyBytes_any Au z.length cu z w2 (HRU.out w2 hf2) (by omega))
    clear hf2 HA H1
    go_wp2_with fail
    refine HCp.out.mono ?_
    rintro e w3 ⟨v, rfl, hv, hvn, hf3⟩
    have H3 := Lib.hid (And.intro hv (And.intro hvn (And.intro (H2.out.1.trans hf3 (fun _ _ h => h)) (And.intro (H2.out.2.trans hf3 (fun _ _ h => h)) (And.intro H2.out.1.size H2.out.2.size)))))
    clear hv hvn hf3 HCp H2
    go_wp2_with (at_builtin; refine wpList_app _ rfl (.tmp 32) (.tmp 34) 25 rfl 5 i0 .u8 1 Try.underlying25 hi hz0 hz1 hz2 _ z rfl (H3.out.1.alloc _) _ 1 1 [x] rfl (Row.one _ _ _ _) (by unfold maxLen; omega) (by omega) ?_)
    intro v9 w9 ho9 hg9 hat9
    have hk9 := ((Kept.refl (fun k => w2.heap.size ≤ k) w3).alloc (.cells #[.int .u8 x] 5)).grown hg9 (fun k e _ => H3.out.2.1 k e)
    have hf9 : Fresh w1 w9 := H3.out.2.2.1.trans hk9 (fun i hi e => by have := H3.out.2.2.2.2.1; omega)
    have hg : Fresh w w9 := H3.out.2.2.2.1.trans hk9 (fun i hi e => by have := H3.out.2.2.2.2.2; omega)
    have hl9 : (z ++ [x]).length = z.length + 1 := by simp
    obtain ⟨A9, c9, rfl, hr9, _⟩ := ho9.row
    rw [hl9] at hr9
    rw [hl9]
    have HM9 := Lib.hid (HM.out A9 c9 w9 hr9)
    have H9 := Lib.hid (And.intro hf9 hg)
    clear ho9 hg9 hat9 hk9 hf9 hg hr9 hl9 H3 HM
    go_wp2_with fail
    refine HM9.out.mono ?_
    rintro e w4 ⟨u4, rfl, hf4⟩
    have H4 := Lib.hid (And.intro (H9.out.1.trans hf4 (fun _ _ h => h)) (H9.out.2.trans hf4 (fun _ _ h => h)))
    have HU4 := Lib.hid (HU.out Au cu w4 (HRU.out w4 H4.out.1))
    clear hf4 H9 HM9 HU
    go_wp2_with fail
    rw [Hr.out]
    refine HU4.out.mono ?_
    rintro e w5 ⟨v5, rfl, hv5, _, hf5⟩
    obtain ⟨A5, c5, rfl, hr5, _⟩ := hv5.row
    have hcap := hv5.cap
    have H5 := Lib.hid (And.intro hr5 (And.intro (H4.out.1.trans hf5 (fun _ _ h => h)) (And.intro (H4.out.2.trans hf5 (fun _ _ h => h)) hcap)))
    clear hv5 hf5 hr5 hcap H4 HU4
    rcases Hany.out with ⟨rfl, hne⟩ | ⟨rfl, hL, h32, hpk⟩
    · have g1 : ((r : Int) != (l.length : Int)) = true := by simp; omega
      have HF := Lib.hid H5.out.2.2.1.toBelow
      clear Hany
      go_wp2_with fail
      go_ret
      exact ⟨rfl, HF.out⟩
    · have HQ := Lib.hid (qPackR_any A5 L.length c5 L w5 H5.out.1 h32 (by omega) H5.out.2.2.2)
      rw [hpk] at HQ
      have HL := Lib.hid hL
      clear Hany hL h32 hpk
      go_wp2_with fail
      refine HQ.out.mono ?_
      rintro e w6 ⟨v6, rfl, hv6, _, hf6⟩
      obtain ⟨A6, c6, rfl, hr6, _⟩ := hv6.row
      have HB := Lib.hid (hBytes_any A6 Au _ _ c6 cu z z w6 hr6 (HRU.out w6 (H5.out.2.1.trans hf6 (fun _ _ h => h))) Hzb.out Hzb.out)
      rw [decide_eq_true rfl] at HB
      have HF := Lib.hid (H5.out.2.2.1.trans hf6 (fun _ _ h => h)).toBelow
      have g1 : ((L.length : Int) == (r : Int)) = true := by rw [HL.out]; simp
      clear hv6 hf6 hr6 HQ H5 HRU
      go_wp2_with fail
      refine HB.out.mono ?_
      rintro e w7 ⟨rfl, rfl⟩
      clear HB
      go_wp2_with fail
      go_ret
      exact ⟨rfl, HF.out⟩

set_option maxRecDepth 100000 in
theorem lifted (os : Os) (started : os.Started) (H : Type) (enc : TypeId × Value → H) :
    ReturnsInHanded {} Try.checked os 7 .any (Rows.riceCutSpec.pre6 enc Try.prog Try.f7 Rows.riceCutRow.domain false) (Rows.riceCutSpec.post enc Try.prog Try.f7 false true false false) := by
  refine returnsInHanded_of_change (C := Try.checked) Try.own started (by kernel_rfl) Try.func7
    (ChangeSpec.witness6 (enc := enc) (C := Try.checked) false ⟨#[], #[.slice none 0 0, .int .u8 0, .int .i64 0], []⟩ 8 (by kernel_rfl) (by kernel_rfl) (by kernel_rfl) (by kernel_rfl)) ?_
  intro W base args ds gs before hval0 hW hcnd _
  have hval : ∀ (j : Nat) t v, Try.f7.params[j]? = some t → args[j]? = some v → Value.okWide Try.prog W .any base t v := hval0
  have hpost : ∀ W', Below W.heap.size W W' → Rows.riceCutSpec.post enc Try.prog Try.f7 false true false false W args (.bool true) W' := fun W' hb =>
    law_post (by kernel_rfl) Try.underlying4 (by kernel_rfl) rfl (fun ds hl => match ds, hl with | [d1, d2, d3], _ => ⟨rfl, rfl, rfl⟩) hW hb
  obtain ⟨p, q, hA0, hV, rfl, hfz, hnd⟩ := hW
  have hA : DataW.TrodAll enc Try.prog W 0 (fun _ => true) true Try.f7.params.toList args.toList ds p := hA0
  rw [Try.params7] at hA hval
  obtain ⟨v0, vs0, d0, ds0, p0, q0, hargs, rfl, rfl, h0, r0⟩ := trodAll_cons hA
  obtain ⟨v1, vs1, d1, ds1, p1, q1, rfl, rfl, rfl, h1, r1⟩ := trodAll_cons r0
  obtain ⟨v2, vs2, d2, ds2, p2, q2, rfl, rfl, rfl, h2, r2⟩ := trodAll_cons r1
  obtain ⟨rfl, rfl, rfl⟩ := trodAll_nil r2
  obtain rfl : args = #[v0, v1, v2] := by cases args; simp_all
  obtain ⟨A0, n0, c0, xs0, rfl, hz0, hr0, hb0, hn0, hc0⟩ := open_rowc Try.underlying22 Try.underlying21 (by kernel_rfl) (hval 0 22 v0 rfl rfl) h0
  obtain ⟨a1, rfl, rfl, rfl, w1⟩ := open_int Try.underlying5 (hval 1 5 v1 rfl rfl) h1
  obtain ⟨a2, rfl, rfl, rfl, w2⟩ := open_int Try.underlying3 (hval 2 3 v2 rfl rfl) h2
  refine (walk riceOK A0 n0 c0 xs0 a1 (bounds_u8 w1) a2 W hz0 hr0 (range_ints32 hb0) hn0 hc0).mono fun e W' ⟨he, hb⟩ => ⟨_, he, hpost W' hb⟩

/-- The statement. -/
theorem proved : Rows.RiceCutSaid :=
  OpenClaim.holds_of_wide 7 Try.f7 rfl rfl rfl rfl rfl rfl rfl ⟨rfl, rfl, rfl, rfl, rfl⟩ rfl rfl rfl rfl rfl (by kernel_rfl) Try.func7 (by kernel_rfl)
    (of_decide_eq_true (by kernel_rfl)) (by unfold Func.isWrapper; first | (rw [if_pos (by decide +kernel)]; kernel_rfl) | (rw [if_neg (by decide +kernel)]; exact ⟨rfl, rfl⟩))
    (fun os started H enc _ => lifted os started H enc)
#print axioms proved

end Go.Proofs.Ytlnhpdikdefgoaa.riceCut
