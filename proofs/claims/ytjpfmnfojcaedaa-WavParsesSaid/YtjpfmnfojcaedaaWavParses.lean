/- WavParses: whatever bytes are parsed, what is told of the samples is what the document says, and what was handed in stays. For all bytes. -/
import Derived.Test.YtjpfmnfojcaedaaWavE
import Derived.Test.YtjpfmnfojcaedaaHelpByte
import Derived.Test.YtjpfmnfojcaedaaArgs
namespace Go.Proofs.Ytjpfmnfojcaedaa.wavParses
open Go.ChangeShapes Go.WideShapes Go.ChangeAt Go.RowKit

attribute [local go_sem ↓] Go.wp_at_zero Go.wp_at_succ

set_option maxRecDepth 100000 in
set_option maxHeartbeats 3200000 in
theorem walk (ok : WavOK) (A : Option Addr) (n c : Nat) (xs : List Int) (w : World) (hz : A = none → c = 0) (hr : Row w .u8 A n xs) (hb : ∀ x ∈ xs, 0 ≤ x ∧ x < 256) (_ : n ≤ maxLen) (hnc : n ≤ c) :
    Calls Try.prog 3 #[.slice A n c] w fun e w' => e = .returned (.bool true) ∧ Below w.heap.size w w' := by
  by_cases hlong : 5000 < n
  · have h1 : 5000 < (n : Int) := by omega
    have HA := Lib.hid (awakeW_any ok w)
    clear hr ok
    go_enter Try.func3, Try.ntmps3
    go_wp2_with fail
    refine HA.out.mono ?_
    rintro e w1 ⟨rfl, hf⟩
    have HF := Lib.hid hf.toBelow
    clear hf HA
    go_wp2_with fail
    go_ret
    exact ⟨rfl, HF.out⟩
  · have h1 : ¬ 5000 < (n : Int) := by omega
    have HO := Lib.hid (hOwnByte_any A n c xs 71 w hr hz (by omega))
    have hlen := hr.len
    have HR := Lib.hid (And.intro hr (And.intro ok (And.intro hb hnc)))
    clear hr ok hb
    go_enter Try.func3, Try.ntmps3
    go_wp2_with fail
    refine HO.out.mono ?_
    rintro e w1 ⟨q, rfl, hq, hqs, hf1⟩
    have HC : Hid (∀ V, Fresh w1 V → Row V .u8 (some ⟨q, 0, none⟩) n xs ∧ Copy V q 5 .u8 xs 71) := Lib.hid fun V hV => by
      have hq' : Copy V q 5 .u8 xs 71 := ⟨hq.blk.kept hV id⟩
      have := hq'.row
      rw [hlen] at this
      exact ⟨this, hq'⟩
    have H1 := Lib.hid hf1
    have HP := Lib.hid (HR.out.2.1.parse (some ⟨q, 0, none⟩) n (n + 3) xs w1 (HC.out w1 (Kept.refl _ _)).1 HR.out.2.2.1 (by omega) (by omega))
    clear hq hf1 HO
    obtain ⟨r, hr⟩ : ∃ r, wparse xs = r := ⟨_, rfl⟩
    rw [hr] at HP
    have Hr := Lib.hid hr
    clear hr
    go_wp2_with fail
    refine HP.out.mono ?_
    rintro e w2 ⟨rfl, hf2⟩
    have H2 := Lib.hid (And.intro hf2 (H1.out.trans hf2 (fun _ _ h => h)))
    clear hf2 HP
    rcases r with _ | ⟨r1, r2, r3, r4⟩
    all_goals
      simp only [wval, Option.isSome_none, Option.isSome_some]
      go_wp2_with fail
      refine (qWParse_any A n c xs _ (HR.out.1.kept (H2.out.2.alloc _) (fun _ _ _ _ => id)) HR.out.2.2.1 (by omega) hnc).mono ?_
      rintro e w3 ⟨rfl, hf3⟩
      rw [Hr.out]
      simp only [wval, Option.isSome_none, Option.isSome_some]
      have H3 := Lib.hid (And.intro ((Blk.new w2 26 _).kept hf3 id) (And.intro (((Kept.refl (fun _ => False) w2).alloc _).trans hf3 fun _ _ e => e) ((H2.out.2.alloc _).trans hf3 fun _ _ e => e)))
      clear hf3
      go_wp2_with fail
      refine (awakeW_any HR.out.2.1 _).mono ?_
      rintro e w5 ⟨rfl, hf5⟩
      have b4 := (H3.out.1.alloc _).kept hf5 id
      have b6 := (Blk.new w3 26 _).kept hf5 id
      have c0 := b4.cell 0
      have c1 := b4.cell 1
      have c2 := b4.cell 2
      have c3 := b4.cell 3
      have d0 := b6.cell 0
      have d1 := b6.cell 1
      have d2 := b6.cell 2
      have d3 := b6.cell 3
      simp only [List.getElem?_toArray, List.getElem?_cons_zero, List.getElem?_cons_succ] at c0 c1 c2 c3 d0 d1 d2 d3
      have f5 : Fresh w1 w5 := ((H2.out.1.trans H3.out.2.1 fun _ _ e => e).alloc _).trans hf5 fun _ _ e => e
      have f6 : Fresh w w5 := (H3.out.2.2.alloc _).trans hf5 fun _ _ e => e
      have HK := Lib.hid (hKeptByte_any q n c A xs 71 w5 (HC.out w5 f5).2 (HR.out.1.kept f6 (fun _ _ _ _ => id)) (by omega))
      have H6 := Lib.hid f6
      clear b4 b6 hf5 f5 f6
      go_wp2_with fail
      refine HK.out.mono ?_
      rintro e w7 ⟨rfl, k7, rfl⟩
      have H7 := Lib.hid (H6.out.drewN k7).toBelow
      clear H6 HK
      go_wp2_with fail
      go_ret
      exact ⟨rfl, H7.out⟩

set_option maxRecDepth 100000 in
theorem lifted (os : Os) (started : os.Started) (H : Type) (enc : TypeId × Value → H) :
    ReturnsInHanded {} Try.checked os 3 .any (Rows.wavParsesSpec.pre6 enc Try.prog Try.f3 Rows.wavParsesRow.domain false) (Rows.wavParsesSpec.post enc Try.prog Try.f3 false true false false) := by
  refine returnsInHanded_of_change (C := Try.checked) Try.own started (by kernel_rfl) Try.func3
    (ChangeSpec.witness6 (enc := enc) (C := Try.checked) false ⟨#[], #[.slice none 0 0], []⟩ 8 (by kernel_rfl) (by kernel_rfl) (by kernel_rfl) (by kernel_rfl)) ?_
  intro W base args ds gs before hval0 hW hcnd _
  have hval : ∀ (j : Nat) t v, Try.f3.params[j]? = some t → args[j]? = some v → Value.okWide Try.prog W .any base t v := hval0
  have hpost : ∀ W', Below W.heap.size W W' → Rows.wavParsesSpec.post enc Try.prog Try.f3 false true false false W args (.bool true) W' := fun W' hb =>
    law_post (by kernel_rfl) Try.underlying4 (by kernel_rfl) rfl (fun ds hl => match ds, hl with | [d1], _ => ⟨rfl, rfl, rfl⟩) hW hb
  obtain ⟨p, q, hA0, hV, rfl, hfz, hnd⟩ := hW
  have hA : DataW.TrodAll enc Try.prog W 0 (fun _ => true) true Try.f3.params.toList args.toList ds p := hA0
  rw [Try.params3] at hA hval
  obtain ⟨v0, vs0, d0, ds0, p0, q0, hargs, rfl, rfl, h0, r0⟩ := trodAll_cons hA
  obtain ⟨rfl, rfl, rfl⟩ := trodAll_nil r0
  obtain rfl : args = #[v0] := by cases args; simp_all
  obtain ⟨A0, n0, c0, xs0, rfl, hz0, hr0, hb0, hn0, hc0⟩ := open_rowc Try.underlying22 Try.underlying5 (by kernel_rfl) (hval 0 22 v0 rfl rfl) h0
  refine (walk wavOK A0 n0 c0 xs0 W hz0 hr0 (range_bytes hb0) hn0 hc0).mono fun e W' ⟨he, hb⟩ => ⟨_, he, hpost W' hb⟩

/-- The statement. -/
theorem proved : Rows.WavParsesSaid :=
  OpenClaim.holds_of_wide 3 Try.f3 rfl rfl rfl rfl rfl rfl rfl ⟨rfl, rfl, rfl, rfl, rfl⟩ rfl rfl rfl rfl rfl (by kernel_rfl) Try.func3 (by kernel_rfl)
    (of_decide_eq_true (by kernel_rfl)) (by unfold Func.isWrapper; first | (rw [if_pos (by decide +kernel)]; kernel_rfl) | (rw [if_neg (by decide +kernel)]; exact ⟨rfl, rfl⟩))
    (fun os started H enc _ => lifted os started H enc)
#print axioms proved

end Go.Proofs.Ytjpfmnfojcaedaa.wavParses
