/- WavWithin: whatever bytes are parsed, what is told lies within them, behind the head, and is whole frames of one to eight channels of 8 or 16 bits; else nothing is told. For all bytes. -/
import Derived.Test.YtjpfmnfojcaedaaWavE
import Derived.Test.YtjpfmnfojcaedaaArgs
namespace Go.Proofs.Ytjpfmnfojcaedaa.wavWithin
open Go.ChangeShapes Go.WideShapes Go.ChangeAt Go.RowKit

attribute [local go_sem ↓] Go.wp_at_zero Go.wp_at_succ

set_option maxRecDepth 100000 in
set_option maxHeartbeats 3200000 in
theorem walk (ok : WavOK) (A : Option Addr) (n c : Nat) (xs : List Int) (w : World) (_ : A = none → c = 0) (hr : Row w .u8 A n xs) (hb : ∀ x ∈ xs, 0 ≤ x ∧ x < 256) (_ : n ≤ maxLen) (hnc : n ≤ c) :
    Calls Try.prog 6 #[.slice A n c] w fun e w' => e = .returned (.bool true) ∧ Below w.heap.size w w' := by
  by_cases hlong : 5000 < n
  · have h1 : 5000 < (n : Int) := by omega
    have HA := Lib.hid (awakeW_any ok w)
    clear hr ok
    go_enter Try.func6, Try.ntmps6
    go_wp2_with fail
    refine HA.out.mono ?_
    rintro e w1 ⟨rfl, hf⟩
    have HF := Lib.hid hf.toBelow
    clear hf HA
    go_wp2_with fail
    go_ret
    exact ⟨rfl, HF.out⟩
  · have h1 : ¬ 5000 < (n : Int) := by omega
    obtain ⟨r, hres⟩ : ∃ r, wparse xs = r := ⟨_, rfl⟩
    have HP := Lib.hid (ok.parse A n c xs w hr hb (by omega) hnc)
    rw [hres] at HP
    have hlen := hr.len
    have HR := Lib.hid ok
    clear hr ok hb
    go_enter Try.func6, Try.ntmps6
    go_wp2_with fail
    refine HP.out.mono ?_
    rintro e w2 ⟨rfl, hf2⟩
    have H2 := Lib.hid hf2
    clear hf2 HP
    rcases r with _ | ⟨r1, r2, r3, r4⟩
    · simp only [wval, Option.isSome_none]
      clear hres hlen
      go_wp2_with fail
      refine (awakeW_any HR.out _).mono ?_
      rintro e w3 ⟨rfl, hf3⟩
      have H3 := Lib.hid (And.intro ((Blk.new w2 26 _).kept hf3 id) ((H2.out.alloc _).trans hf3 fun _ _ e => e))
      clear hf3
      go_wp2_with fail
      refine (awakeW_any HR.out _).mono ?_
      rintro e w4 ⟨rfl, hf4⟩
      have b4 := H3.out.1.kept hf4 id
      have c0 := b4.cell 0
      have c1 := b4.cell 1
      have c2 := b4.cell 2
      have c3 := b4.cell 3
      simp only [List.getElem?_toArray, List.getElem?_cons_zero, List.getElem?_cons_succ] at c0 c1 c2 c3
      have H4 := Lib.hid (H3.out.2.trans hf4 fun _ _ e => e).toBelow
      clear b4 hf4 H3
      go_wp2_with fail
      go_ret
      exact ⟨rfl, H4.out⟩
    · obtain ⟨a1, a2, a3, a4, a5, a6, a7⟩ := wparse_some hres
      simp only [] at a1 a2 a3 a4 a5 a6 a7
      simp only [wval, Option.isSome_some]
      obtain ⟨m8, hm8⟩ : ∃ m8, m8 = r1 * r2 := ⟨_, rfl⟩
      have hm : (r1 : Int) * (r2 : Int) = (m8 : Int) := by rw [hm8]; simp
      have m8l : m8 ≤ 128 ∧ 8 ≤ m8 := by
        rw [hm8]
        rcases a3 with e | e <;> subst e <;> omega
      obtain ⟨fr, hfr⟩ : ∃ fr, fr = m8 / 8 := ⟨_, rfl⟩
      have hf8 : (m8 : Int) / 8 = (fr : Int) := by omega
      rw [← hm8, ← hfr] at a7
      have m80 : (0 : Int) ≤ (m8 : Int) := by omega
      have m81 : (m8 : Int) ≤ 128 := by omega
      have fr0 : (0 : Int) < (fr : Int) := by omega
      obtain ⟨df, hdf⟩ : ∃ df, df = r4 - r3 := ⟨_, rfl⟩
      rw [← hdf] at a7
      have hd : (r4 : Int) - (r3 : Int) = (df : Int) := by omega
      have hmod : (df : Int) % (fr : Int) = 0 := by
        have : ((df % fr : Nat) : Int) = 0 := by rw [a7]; rfl
        simpa using this
      have b1 : (1 : Int) ≤ (r1 : Int) := by omega
      have b2 : (r1 : Int) ≤ 8 := by omega
      have b3 : (44 : Int) ≤ (r3 : Int) := by omega
      have b4 : (r3 : Int) < (r4 : Int) := by omega
      have b5 : (r4 : Int) ≤ (n : Int) := by omega
      have b6 : (n : Int) ≤ 5000 := by omega
      have hcs : (((r2 : Int) == 8) = true) ∨ ((((r2 : Int) == 8) = false) ∧ (((r2 : Int) == 16) = true)) := by
        simp only [beq_iff_eq, beq_eq_false_iff_ne, ne_eq]
        omega
      have r20 : (0 : Int) ≤ (r2 : Int) ∧ (r2 : Int) ≤ 16 := by omega
      obtain ⟨r21, r22⟩ := r20
      clear hres hlen a1 a2 a3 a4 a5 a6 a7 hm8 hfr hdf m8l
      rcases hcs with k1 | ⟨k1, k2⟩
      all_goals
        go_wp2_with fail
        refine (awakeW_any HR.out _).mono ?_
        rintro e w3 ⟨rfl, hf3⟩
        have b4' := (Blk.new w2 26 _).kept hf3 id
        have c0 := b4'.cell 0
        have c1 := b4'.cell 1
        have c2 := b4'.cell 2
        have c3 := b4'.cell 3
        simp only [List.getElem?_toArray, List.getElem?_cons_zero, List.getElem?_cons_succ] at c0 c1 c2 c3
        have H4 := Lib.hid ((H2.out.alloc _).trans hf3 fun _ _ e => e).toBelow
        clear b4' hf3
        go_wp2_with fail
        go_ret
        exact ⟨rfl, H4.out⟩

set_option maxRecDepth 100000 in
theorem lifted (os : Os) (started : os.Started) (H : Type) (enc : TypeId × Value → H) :
    ReturnsInHanded {} Try.checked os 6 .any (Rows.wavWithinSpec.pre6 enc Try.prog Try.f6 Rows.wavWithinRow.domain false) (Rows.wavWithinSpec.post enc Try.prog Try.f6 false true false false) := by
  refine returnsInHanded_of_change (C := Try.checked) Try.own started (by kernel_rfl) Try.func6
    (ChangeSpec.witness6 (enc := enc) (C := Try.checked) false ⟨#[], #[.slice none 0 0], []⟩ 8 (by kernel_rfl) (by kernel_rfl) (by kernel_rfl) (by kernel_rfl)) ?_
  intro W base args ds gs before hval0 hW hcnd _
  have hval : ∀ (j : Nat) t v, Try.f6.params[j]? = some t → args[j]? = some v → Value.okWide Try.prog W .any base t v := hval0
  have hpost : ∀ W', Below W.heap.size W W' → Rows.wavWithinSpec.post enc Try.prog Try.f6 false true false false W args (.bool true) W' := fun W' hb =>
    law_post (by kernel_rfl) Try.underlying4 (by kernel_rfl) rfl (fun ds hl => match ds, hl with | [d1], _ => ⟨rfl, rfl, rfl⟩) hW hb
  obtain ⟨p, q, hA0, hV, rfl, hfz, hnd⟩ := hW
  have hA : DataW.TrodAll enc Try.prog W 0 (fun _ => true) true Try.f6.params.toList args.toList ds p := hA0
  rw [Try.params6] at hA hval
  obtain ⟨v0, vs0, d0, ds0, p0, q0, hargs, rfl, rfl, h0, r0⟩ := trodAll_cons hA
  obtain ⟨rfl, rfl, rfl⟩ := trodAll_nil r0
  obtain rfl : args = #[v0] := by cases args; simp_all
  obtain ⟨A0, n0, c0, xs0, rfl, hz0, hr0, hb0, hn0, hc0⟩ := open_rowc Try.underlying22 Try.underlying5 (by kernel_rfl) (hval 0 22 v0 rfl rfl) h0
  refine (walk wavOK A0 n0 c0 xs0 W hz0 hr0 (range_bytes hb0) hn0 hc0).mono fun e W' ⟨he, hb⟩ => ⟨_, he, hpost W' hb⟩

/-- The statement. -/
theorem proved : Rows.WavWithinSaid :=
  OpenClaim.holds_of_wide 6 Try.f6 rfl rfl rfl rfl rfl rfl rfl ⟨rfl, rfl, rfl, rfl, rfl⟩ rfl rfl rfl rfl rfl (by kernel_rfl) Try.func6 (by kernel_rfl)
    (of_decide_eq_true (by kernel_rfl)) (by unfold Func.isWrapper; first | (rw [if_pos (by decide +kernel)]; kernel_rfl) | (rw [if_neg (by decide +kernel)]; exact ⟨rfl, rfl⟩))
    (fun os started H enc _ => lifted os started H enc)
#print axioms proved

end Go.Proofs.Ytjpfmnfojcaedaa.wavWithin
