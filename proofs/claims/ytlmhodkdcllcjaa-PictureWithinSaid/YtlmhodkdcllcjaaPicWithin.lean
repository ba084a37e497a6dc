/- PictureWithin: whatever bytes are read, what is told of the pixels lies within them: at least one row and column of one or three planes, rows that hold their pixels and at most three bytes more, behind the first two bytes; else nothing is told. For all bytes. -/
import Derived.Test.YtlmhodkdcllcjaaPicAw
namespace Go.Proofs.Ytlmhodkdcllcjaa.pictureWithin
open Go.ChangeShapes Go.WideShapes Go.ChangeAt Go.RowKit

attribute [local go_sem ↓] Go.wp_at_zero Go.wp_at_succ

theorem bmpP_in {l : List Int} {r : Nat × Nat × Nat × Nat × Nat} (h : bmpP l = some r) : fitP r.1 r.2.1 r.2.2.2.1 r.2.2.2.2 l.length ∧ (r.2.2.1 = 1 ∨ r.2.2.1 = 3) ∧ r.1 * r.2.2.1 ≤ r.2.2.2.1 ∧ r.2.2.2.1 < r.1 * r.2.2.1 + 4 ∧ 2 ≤ r.2.2.2.2 := by
  unfold bmpP at h
  split at h
  · rename_i hc
    have h54 := hc.2.1
    have hp : plnB (leAt l 28 2) = 1 ∨ plnB (leAt l 28 2) = 3 := by unfold plnB; split <;> simp
    generalize plnB (leAt l 28 2) = p at *
    unfold bmpR at h
    split at h
    · rename_i hf
      injection h with h
      subst h
      refine ⟨hf, hp, ?_, ?_, by simp only []; omega⟩
      · simp only []; unfold strB; omega
      · simp only []; unfold strB; omega
    · cases h
  · cases h
theorem pnmP_in {l : List Int} {r : Nat × Nat × Nat × Nat × Nat} (h : pnmP l = some r) : fitP r.1 r.2.1 r.2.2.2.1 r.2.2.2.2 l.length ∧ (r.2.2.1 = 1 ∨ r.2.2.1 = 3) ∧ r.1 * r.2.2.1 ≤ r.2.2.2.1 ∧ r.2.2.2.1 < r.1 * r.2.2.1 + 4 ∧ 2 ≤ r.2.2.2.2 := by
  unfold pnmP at h
  split at h
  · split at h
    · cases h
    · rename_i q hq
      have h2 := (chn_len hq).2.2.1
      have hp : plnP l = 1 ∨ plnP l = 3 := by unfold plnP; split <;> simp
      generalize plnP l = p at *
      split at h
      · unfold pnmR at h
        split at h
        · rename_i hf
          injection h with h
          subst h
          exact ⟨hf, hp, Nat.le_refl _, by simp only []; omega, by simp only []; omega⟩
        · cases h
      · cases h
  · cases h
theorem picP_in {l : List Int} {r : Nat × Nat × Nat × Nat × Nat} (h : picP l = some r) : fitP r.1 r.2.1 r.2.2.2.1 r.2.2.2.2 l.length ∧ (r.2.2.1 = 1 ∨ r.2.2.1 = 3) ∧ r.1 * r.2.2.1 ≤ r.2.2.2.1 ∧ r.2.2.2.1 < r.1 * r.2.2.1 + 4 ∧ 2 ≤ r.2.2.2.2 := by
  unfold picP at h
  split at h
  · exact bmpP_in h
  · exact pnmP_in h

set_option maxRecDepth 100000 in
set_option maxHeartbeats 3200000 in
theorem walk (A : Option Addr) (n c : Nat) (xs : List Int) (w : World) (_ : A = none → c = 0) (hr : Row w .u8 A n xs) (hb : ∀ x ∈ xs, 0 ≤ x ∧ x < 256) (_ : n ≤ maxLen) (hnc : n ≤ c) :
    Calls Try.prog 4 #[.slice A n c] w fun e w' => e = .returned (.bool true) ∧ Below w.heap.size w w' := by
  by_cases hlong : 5000 < n
  · have h1 : 5000 < (n : Int) := by omega
    have HA := Lib.hid (awakeP_any w)
    clear hr
    go_enter Try.func4, Try.ntmps4
    go_wp2_with fail
    refine HA.out.mono ?_
    rintro e w1 ⟨rfl, hf⟩
    have HF := Lib.hid hf.toBelow
    clear hf HA
    go_wp2_with fail
    go_ret
    exact ⟨rfl, HF.out⟩
  · have h1 : ¬ 5000 < (n : Int) := by omega
    obtain ⟨r, hres⟩ : ∃ r, picP xs = r := ⟨_, rfl⟩
    have HP := Lib.hid (cPic_any A n c xs w hr hb (by omega) hnc)
    rw [hres] at HP
    have hlen := hr.len
    clear hr hb
    rcases r with _ | ⟨ra, rb, rp, rs, rf⟩
    · simp only [pval, Option.isSome_none] at HP
      clear hres hlen
      go_enter Try.func4, Try.ntmps4
      go_wp2_with fail
      refine HP.out.mono ?_
      rintro e w2 ⟨rfl, hf2⟩
      have H2 := Lib.hid hf2
      clear hf2 HP
      go_wp2_with fail
      refine (awakeP_any _).mono ?_
      rintro e w3 ⟨rfl, hf3⟩
      have H3 := Lib.hid (And.intro ((Blk.new w2 26 _).kept hf3 id) ((H2.out.alloc _).trans hf3 fun _ _ e => e))
      clear hf3
      go_wp2_with fail
      refine (awakeP_any _).mono ?_
      rintro e w4 ⟨rfl, hf4⟩
      have b4 := H3.out.1.kept hf4 id
      have c0 : w4.cell? ⟨w2.heap.size, 0, none⟩ = some (.int .i64 0) := (b4.cell 0).trans rfl
      have c1 : w4.cell? ⟨w2.heap.size, 1, none⟩ = some (.int .i64 0) := (b4.cell 1).trans rfl
      have c2 : w4.cell? ⟨w2.heap.size, 2, none⟩ = some (.int .i64 0) := (b4.cell 2).trans rfl
      have c3 : w4.cell? ⟨w2.heap.size, 3, none⟩ = some (.int .i64 0) := (b4.cell 3).trans rfl
      have c4 : w4.cell? ⟨w2.heap.size, 4, none⟩ = some (.int .i64 0) := (b4.cell 4).trans rfl
      have H4 := Lib.hid (H3.out.2.trans hf4 fun _ _ e => e).toBelow
      clear b4 hf4 H3
      go_wp2_with fail
      go_ret
      exact ⟨rfl, H4.out⟩
    · obtain ⟨hfit, hp, hs1, hs2, hf0⟩ := picP_in hres
      simp only [] at hfit hp hs1 hs2 hf0
      obtain ⟨k1, k2, k3, k4, k5, k6⟩ := hfit
      rw [hlen] at k5 k6
      simp only [pval, Option.isSome_some] at HP
      obtain ⟨m, hm⟩ : ∃ m, m = ra * rp := ⟨_, rfl⟩
      obtain ⟨k, hk⟩ : ∃ k, k = rs * rb := ⟨_, rfl⟩
      rw [← hm] at hs1 hs2
      have m1 : (ra : Int) * (rp : Int) = (m : Int) := by rw [hm]; simp
      have m2 : (rs : Int) * (rb : Int) = (k : Int) := by rw [hk]; simp
      rw [m2] at k6
      have m3 : m ≤ 98304 := by
        rw [hm]
        rcases hp with e | e <;> rw [e] <;> omega
      obtain ⟨z, hz⟩ : ∃ z, z = rf + k := ⟨_, rfl⟩
      have m4 : (rf : Int) + (k : Int) = (z : Int) := by omega
      have a1 : (1 : Int) ≤ (ra : Int) := k1
      have a2 : (1 : Int) ≤ (rb : Int) := k3
      have a3 : (m : Int) ≤ (rs : Int) := by omega
      have a4 : (rs : Int) < (m : Int) + 4 := by omega
      have a5 : (2 : Int) ≤ (rf : Int) := by omega
      have a6 : (z : Int) ≤ (n : Int) := by omega
      have a7 : (m : Int) ≤ 98304 := by omega
      have a8 : (n : Int) ≤ 5000 := by omega
      have hcs : (((rp : Int) == 1) = true) ∨ ((((rp : Int) == 1) = false) ∧ (((rp : Int) == 3) = true)) := by
        simp only [beq_iff_eq, beq_eq_false_iff_ne, ne_eq]
        omega
      clear hres hlen hp hs1 hs2 hf0 k1 k2 k3 k4 k5 k6 hm hk hz m3 hlong
      rcases hcs with e1 | ⟨e1, e2⟩
      all_goals
        go_enter Try.func4, Try.ntmps4
        go_wp2_with fail
        refine HP.out.mono ?_
        rintro e w2 ⟨rfl, hf2⟩
        have H2 := Lib.hid hf2
        clear hf2 HP
        go_wp2_with fail
        refine (awakeP_any _).mono ?_
        rintro e w3 ⟨rfl, hf3⟩
        have b4 := (Blk.new w2 26 _).kept hf3 id
        have c0 : w3.cell? ⟨w2.heap.size, 0, none⟩ = some (.int .i64 (ra : Nat)) := (b4.cell 0).trans rfl
        have c1 : w3.cell? ⟨w2.heap.size, 1, none⟩ = some (.int .i64 (rb : Nat)) := (b4.cell 1).trans rfl
        have c2 : w3.cell? ⟨w2.heap.size, 2, none⟩ = some (.int .i64 (rp : Nat)) := (b4.cell 2).trans rfl
        have c3 : w3.cell? ⟨w2.heap.size, 3, none⟩ = some (.int .i64 (rs : Nat)) := (b4.cell 3).trans rfl
        have c4 : w3.cell? ⟨w2.heap.size, 4, none⟩ = some (.int .i64 (rf : Nat)) := (b4.cell 4).trans rfl
        have H4 := Lib.hid ((H2.out.alloc _).trans hf3 fun _ _ e => e).toBelow
        clear b4 hf3
        go_wp2_with fail
        go_ret
        exact ⟨rfl, H4.out⟩

set_option maxRecDepth 100000 in
theorem lifted (os : Os) (started : os.Started) (H : Type) (enc : TypeId × Value → H) :
    ReturnsInHanded {} Try.checked os 4 .any (Rows.pictureWithinSpec.pre6 enc Try.prog Try.f4 Rows.pictureWithinRow.domain false) (Rows.pictureWithinSpec.post enc Try.prog Try.f4 false true false false) := by
  refine returnsInHanded_of_change (C := Try.checked) Try.own started (by kernel_rfl) Try.func4
    (ChangeSpec.witness6 (enc := enc) (C := Try.checked) false ⟨#[], #[.slice none 0 0], []⟩ 8 (by kernel_rfl) (by kernel_rfl) (by kernel_rfl) (by kernel_rfl)) ?_
  intro W base args ds gs before hval0 hW hcnd _
  have hval : ∀ (j : Nat) t v, Try.f4.params[j]? = some t → args[j]? = some v → Value.okWide Try.prog W .any base t v := hval0
  have hpost : ∀ W', Below W.heap.size W W' → Rows.pictureWithinSpec.post enc Try.prog Try.f4 false true false false W args (.bool true) W' := fun W' hb =>
    law_post (by kernel_rfl) Try.underlying4 (by kernel_rfl) rfl (fun ds hl => match ds, hl with | [d1], _ => ⟨rfl, rfl, rfl⟩) hW hb
  obtain ⟨p, q, hA0, hV, rfl, hfz, hnd⟩ := hW
  have hA : DataW.TrodAll enc Try.prog W 0 (fun _ => true) true Try.f4.params.toList args.toList ds p := hA0
  rw [Try.params4] at hA hval
  obtain ⟨v0, vs0, d0, ds0, p0, q0, hargs, rfl, rfl, h0, r0⟩ := trodAll_cons hA
  obtain ⟨rfl, rfl, rfl⟩ := trodAll_nil r0
  obtain rfl : args = #[v0] := by cases args; simp_all
  obtain ⟨A0, n0, c0, xs0, rfl, hz0, hr0, hb0, hn0, hc0⟩ := open_rowc Try.underlying22 Try.underlying5 (by kernel_rfl) (hval 0 22 v0 rfl rfl) h0
  refine (walk A0 n0 c0 xs0 W hz0 hr0 (range_bytes hb0) hn0 hc0).mono fun e W' ⟨he, hb⟩ => ⟨_, he, hpost W' hb⟩

/-- The statement. -/
theorem proved : Rows.PictureWithinSaid :=
  OpenClaim.holds_of_wide 4 Try.f4 rfl rfl rfl rfl rfl rfl rfl ⟨rfl, rfl, rfl, rfl, rfl⟩ rfl rfl rfl rfl rfl (by kernel_rfl) Try.func4 (by kernel_rfl)
    (of_decide_eq_true (by kernel_rfl)) (by unfold Func.isWrapper; first | (rw [if_pos (by decide +kernel)]; kernel_rfl) | (rw [if_neg (by decide +kernel)]; exact ⟨rfl, rfl⟩))
    (fun os started H enc _ => lifted os started H enc)
#print axioms proved

end Go.Proofs.Ytlmhodkdcllcjaa.pictureWithin
