/- WavBack: whatever samples are made a file, of one to eight channels of 8 or 16 bits, and whatever stands behind it: parsed, the samples are there, as far as they are whole frames. For all bytes and all counts. -/
import Derived.Test.YtjpfmnfojcaedaaWavE
import Derived.Test.YtjpfmnfojcaedaaArgs
namespace Go.Proofs.Ytjpfmnfojcaedaa.wavBack
open Go.ChangeShapes Go.WideShapes Go.ChangeAt Go.RowKit

attribute [local go_sem ↓] Go.wp_at_zero Go.wp_at_succ

set_option maxRecDepth 100000 in
set_option maxHeartbeats 3200000 in
theorem walk (ok : WavOK) (ci bi : Int) (A : Option Addr) (n c : Nat) (xs : List Int) (B : Option Addr) (m d : Nat) (ys : List Int) (w : World) (_ : A = none → c = 0) (hr : Row w .u8 A n xs) (hb : ∀ x ∈ xs, 0 ≤ x ∧ x < 256) (_ : n ≤ maxLen) (hnc : n ≤ c)
    (_ : B = none → d = 0) (hrB : Row w .u8 B m ys) (hbB : ∀ x ∈ ys, 0 ≤ x ∧ x < 256) (_ : m ≤ maxLen) (_ : m ≤ d) :
    Calls Try.prog 5 #[.int .i64 ci, .int .i64 bi, .slice A n c, .slice B m d] w fun e w' => e = .returned (.bool true) ∧ Below w.heap.size w w' := by
  obtain ⟨i0, hi, hz0, hz1, hz2⟩ := info_parts Try.infoByteQ
  by_cases hlong : 3000 < n ∨ 300 < m
  · have HA := Lib.hid (awakeW_any ok w)
    have hcs : (3000 < (n : Int)) ∨ (¬ 3000 < (n : Int) ∧ 300 < (m : Int)) := by omega
    clear hr hrB ok hlong
    rcases hcs with k1 | ⟨k1, k2⟩
    all_goals
      go_enter Try.func5, Try.ntmps5
      go_wp2_with fail
      refine HA.out.mono ?_
      rintro e w1 ⟨rfl, hf⟩
      have HF := Lib.hid hf.toBelow
      clear hf HA
      go_wp2_with fail
      go_ret
      exact ⟨rfl, HF.out⟩
  · have k1 : ¬ 3000 < (n : Int) := by omega
    have k2 : ¬ 300 < (m : Int) := by omega
    obtain ⟨r8, hr8, e8⟩ := u64_mod ci 8 (by omega)
    obtain ⟨r2, hr2, e2⟩ := u64_mod bi 2 (by omega)
    obtain ⟨ch, hch⟩ : ∃ ch, ch = 1 + r8 := ⟨_, rfl⟩
    obtain ⟨b, hbi⟩ : ∃ b, b = 8 + 8 * r2 := ⟨_, rfl⟩
    have hok : wok ch b := by unfold wok; omega
    have t1 : 1 + (r8 : Int) = (ch : Int) := by omega
    have t2 : 8 + 8 * (r2 : Int) = (b : Int) := by omega
    have hlen := hr.len
    have hlenB := hrB.len
    -- the file, and what is told of it
    have hzb := wmake_byte (ch : Int) (b : Int) hb
    have hzl := wmake_length hok xs
    have hback := wback hok xs ys (by omega)
    obtain ⟨m8, hm8⟩ : ∃ m8, m8 = ch * b := ⟨_, rfl⟩
    have hm : (ch : Int) * (b : Int) = (m8 : Int) := by rw [hm8]; simp
    have m8l : m8 ≤ 128 ∧ 8 ≤ m8 := by
      have h8 := hok
      unfold wok at h8
      rw [hm8]
      rcases h8.2.2 with e | e <;> rw [e] <;> omega
    obtain ⟨fr, hfr⟩ : ∃ fr, fr = m8 / 8 := ⟨_, rfl⟩
    have hf8 : (m8 : Int) / 8 = (fr : Int) := by omega
    obtain ⟨qn, hqn⟩ : ∃ qn, qn = xs.length / fr := ⟨_, rfl⟩
    have hq' : (n : Int) / (fr : Int) = (qn : Int) := by rw [hqn, hlen]; simp
    obtain ⟨ln, hln⟩ : ∃ ln, ln = qn * fr := ⟨_, rfl⟩
    have hl' : (qn : Int) * (fr : Int) = (ln : Int) := by rw [hln]; simp
    have lnle : ln ≤ xs.length := by rw [hln, hqn]; exact Nat.div_mul_le_self _ _
    have qnle : qn ≤ xs.length := by rw [hqn]; exact Nat.div_le_self _ _
    rw [← hm8, ← hfr, ← hqn, ← hln] at hback
    have fr0 : (0 : Int) < (fr : Int) := by omega
    have m80 : (0 : Int) ≤ (m8 : Int) := by omega
    have m81 : (m8 : Int) ≤ 128 := by omega
    have qn0 : (0 : Int) ≤ (qn : Int) := by omega
    have qn1 : (qn : Int) ≤ 3000 := by omega
    have ln0 : (0 : Int) ≤ (ln : Int) := by omega
    have ln1 : (ln : Int) ≤ 3000 := by omega
    have ch0 : (0 : Int) ≤ (ch : Int) := by omega
    have r80 : (0 : Int) ≤ (r8 : Int) := by omega
    have r20 : (0 : Int) ≤ (r2 : Int) := by omega
    have b0 : (0 : Int) ≤ (b : Int) ∧ (b : Int) ≤ 16 := by omega
    obtain ⟨b01, b02⟩ := b0
    obtain ⟨z, hzz⟩ : ∃ z, wmake (ch : Int) (b : Int) xs = z := ⟨_, rfl⟩
    rw [hzz] at hzb hzl hback
    obtain ⟨W1, hW1⟩ : ∃ W1, W1 = w.alloc (.cells #[.int .i64 ch, .int .i64 b, .int .i64 0, .int .i64 0] 26) := ⟨_, rfl⟩
    have hb1 : Blk W1 w.heap.size 26 #[.int .i64 ch, .int .i64 b, .int .i64 0, .int .i64 0] := by rw [hW1]; exact Blk.new _ _ _
    have hf1 : Fresh w W1 := by rw [hW1]; exact (Kept.refl _ _).alloc _
    have HMk := ok.make ch b 0 0 A n c xs W1 (by omega) (by omega) (hr.kept hf1 (fun _ _ _ _ => id)) hb (by omega) hnc
    have HRf : Hid (∀ V, Fresh w V → Calls Try.prog 15 #[.agg #[.int .i64 ch, .int .i64 b, .int .i64 0, .int .i64 0], .slice A n c] V fun e w' => ∃ A4 c4, e = .returned (.slice A4 z.length c4) ∧ Row w' .u8 A4 z.length z ∧ Fresh V w') := Lib.hid fun V hV => by
      refine (qWMake_any ch b 0 0 A n c xs V (hr.kept hV (fun _ _ _ _ => id)) (by omega)).mono ?_
      rintro e w' ⟨u, rfl, hu⟩
      rw [hzz] at hu
      obtain ⟨Au, cu, rfl, hru, _⟩ := hu.1.row
      exact ⟨Au, cu, rfl, hru, hu.2.2⟩
    rw [hzz] at HMk
    have HM := Lib.hid HMk
    have H1 := Lib.hid (And.intro hb1 (And.intro hf1 (And.intro hzb (And.intro hzl (And.intro hback (And.intro hrB (And.intro hbB ok)))))))
    have hzl2 : z.length ≤ 3044 := by omega
    clear hr hrB ok hlong hch hbi hok hlen hlenB hzb hzl hback hm8 m8l hfr hqn hln lnle qnle hzz hb1 hf1 HMk hbB hb
    go_enter Try.func5, Try.ntmps5
    go_wp2_with fail
    rw [← hW1]
    clear hW1
    refine HM.out.mono ?_
    rintro e w2 ⟨u2, rfl, hu2⟩
    obtain ⟨A2, c2, rfl, r2', _⟩ := hu2.1.row
    have H2 := Lib.hid (And.intro r2' (And.intro (H1.out.2.1.trans hu2.2.2 fun _ _ e => e) (H1.out.1.kept hu2.2.2 id)))
    clear hu2 r2' HM
    obtain ⟨lz, hlz⟩ : ∃ lz, z.length = lz := ⟨_, rfl⟩
    rw [hlz] at H2 HRf hzl2 ⊢
    have HLz := Lib.hid hlz
    clear hlz
    go_wp2_with fail
    refine (hCopyBytes_any A2 lz c2 z w2 H2.out.1 (by omega)).mono ?_
    rintro e w3 ⟨u3, rfl, hu3⟩
    have H3 := Lib.hid (And.intro hu3 (H2.out.2.1.trans hu3.2.2 fun _ _ e => e))
    clear hu3
    go_wp2_with (at_builtin; refine wpList_new _ w2 rfl _ _ 22 rfl 5 i0 .u8 1 Try.underlying22 hi hz0 hz1 hz2 _ z rfl H3.out.1 B m d ys rfl (H1.out.2.2.2.2.2.1.kept H3.out.2 (fun _ _ _ _ => id)) (by unfold maxLen; have := HLz.out; omega) (by have := HLz.out; omega) ?_; intro v4 w4 N4; have cap4 := N4.1; obtain ⟨A4, c4, rfl, r4, _⟩ := N4.1.row; have l4 := cap4.cap; have H4 := Lib.hid (And.intro r4 (And.intro l4 N4.2.2)); clear r4 l4 cap4 N4)
    have hl4 : (z ++ ys).length ≤ 3400 := by
      have h1 := H1.out.2.2.2.2.2.1.len
      have h2 := HLz.out
      rw [List.length_append]
      omega
    have HP := H1.out.2.2.2.2.2.2.2.parse A4 (z ++ ys).length c4 (z ++ ys) w4 H4.out.1 (fun x hx => (List.mem_append.1 hx).elim (H1.out.2.2.1 x) (H1.out.2.2.2.2.2.2.1 x)) (by omega) H4.out.2.1
    rw [H1.out.2.2.2.2.1, List.length_append] at HP
    have HP' := Lib.hid HP
    clear HP hl4
    generalize z.length + ys.length = l4 at *
    refine HP'.out.mono ?_
    rintro e w5 ⟨rfl, hf5⟩
    have H5 := Lib.hid (And.intro (H2.out.2.1.trans (H4.out.2.2.trans hf5 fun _ _ e => e) fun _ _ e => e) (And.intro (H2.out.2.2.kept (H4.out.2.2.trans hf5 fun _ _ e => e) id) (H2.out.1.kept (H4.out.2.2.trans hf5 fun _ _ e => e) (fun _ _ _ _ => id))))
    clear hf5 HP' H3 H4
    have c0 : ∀ o, (w5.alloc o).cell? ⟨w.heap.size, 0, none⟩ = some (.int .i64 ch) := fun o => (H5.out.2.1.alloc o).cell 0
    have c1 : ∀ o, (w5.alloc o).cell? ⟨w.heap.size, 1, none⟩ = some (.int .i64 b) := fun o => (H5.out.2.1.alloc o).cell 1
    by_cases l0 : ln < 1
    · have lb : ((ln : Int) == 0) = true := by simp; omega
      rw [if_pos l0]
      simp only [wval, Option.isSome_none]
      clear l0
      go_wp2_with fail
      refine (awakeW_any H1.out.2.2.2.2.2.2.2 _).mono ?_
      rintro e w7 ⟨rfl, hf7⟩
      have b6 := (Blk.new w5 26 _).kept hf7 id
      have d0 := b6.cell 0
      have d1 := b6.cell 1
      have d2 := b6.cell 2
      have d3 := b6.cell 3
      simp only [List.getElem?_toArray, List.getElem?_cons_zero, List.getElem?_cons_succ] at d0 d1 d2 d3
      have H7 := Lib.hid ((H5.out.1.alloc _).trans hf7 fun _ _ e => e).toBelow
      clear b6 hf7
      go_wp2_with fail
      go_ret
      exact ⟨rfl, H7.out⟩
    · have lb : ((ln : Int) == 0) = false := by simp; omega
      rw [if_neg l0]
      simp only [wval, Option.isSome_some]
      clear l0
      go_wp2_with fail
      refine (awakeW_any H1.out.2.2.2.2.2.2.2 _).mono ?_
      rintro e w7 ⟨rfl, hf7⟩
      have b6 := (Blk.new w5 26 _).kept hf7 id
      have d0 := b6.cell 0
      have d1 := b6.cell 1
      have d2 := b6.cell 2
      have d3 := b6.cell 3
      have b7 := (H5.out.2.1.alloc _).kept hf7 id
      have c0 := b7.cell 0
      have c1 := b7.cell 1
      have c2' := b7.cell 2
      have c3 := b7.cell 3
      simp only [List.getElem?_toArray, List.getElem?_cons_zero, List.getElem?_cons_succ] at c0 c1 c2' c3 d0 d1 d2 d3
      have H7 := Lib.hid (And.intro ((H5.out.1.alloc _).trans hf7 fun _ _ e => e) (H5.out.2.2.kept (((Kept.refl (fun _ => False) w5).alloc _).trans hf7 fun _ _ e => e) (fun _ _ _ _ => id)))
      clear b6 b7 hf7
      go_wp2_with fail
      refine (HRf.out _ H7.out.1).mono ?_
      rintro e w8 ⟨A8, c8, rfl, r8', hf8'⟩
      have HB := hBytes_any A2 A8 lz lz c2 c8 z z w8 (H7.out.2.kept hf8' (fun _ _ _ _ => id)) r8' H1.out.2.2.1 H1.out.2.2.1
      rw [show decide (z = z) = true from decide_eq_true rfl] at HB
      have HB' := Lib.hid HB
      have H8 := Lib.hid (H7.out.1.trans hf8' fun _ _ e => e).toBelow
      clear HB r8' hf8'
      go_wp2_with fail
      refine HB'.out.mono ?_
      rintro e w9 ⟨rfl, rfl⟩
      go_wp2_with fail
      go_ret
      exact ⟨rfl, H8.out⟩

set_option maxRecDepth 100000 in
theorem lifted (os : Os) (started : os.Started) (H : Type) (enc : TypeId × Value → H) :
    ReturnsInHanded {} Try.checked os 5 .any (Rows.wavBackSpec.pre6 enc Try.prog Try.f5 Rows.wavBackRow.domain false) (Rows.wavBackSpec.post enc Try.prog Try.f5 false true false false) := by
  refine returnsInHanded_of_change (C := Try.checked) Try.own started (by kernel_rfl) Try.func5
    (ChangeSpec.witness6 (enc := enc) (C := Try.checked) false ⟨#[], #[.int .i64 0, .int .i64 0, .slice none 0 0, .slice none 0 0], []⟩ 8 (by kernel_rfl) (by kernel_rfl) (by kernel_rfl) (by kernel_rfl)) ?_
  intro W base args ds gs before hval0 hW hcnd _
  have hval : ∀ (j : Nat) t v, Try.f5.params[j]? = some t → args[j]? = some v → Value.okWide Try.prog W .any base t v := hval0
  have hpost : ∀ W', Below W.heap.size W W' → Rows.wavBackSpec.post enc Try.prog Try.f5 false true false false W args (.bool true) W' := fun W' hb =>
    law_post (by kernel_rfl) Try.underlying4 (by kernel_rfl) rfl (fun ds hl => match ds, hl with | [d1, d2, d3, d4], _ => ⟨rfl, rfl, rfl⟩) hW hb
  obtain ⟨p, q, hA0, hV, rfl, hfz, hnd⟩ := hW
  have hA : DataW.TrodAll enc Try.prog W 0 (fun _ => true) true Try.f5.params.toList args.toList ds p := hA0
  rw [Try.params5] at hA hval
  obtain ⟨v0, vs0, d0, ds0, p0, q0, hargs, rfl, rfl, h0, r0⟩ := trodAll_cons hA
  obtain ⟨v1, vs1, d1, ds1, p1, q1, rfl, rfl, rfl, h1, r1⟩ := trodAll_cons r0
  obtain ⟨v2, vs2, d2, ds2, p2, q2, rfl, rfl, rfl, h2, r2⟩ := trodAll_cons r1
  obtain ⟨v3, vs3, d3, ds3, p3, q3, rfl, rfl, rfl, h3, r3⟩ := trodAll_cons r2
  obtain ⟨rfl, rfl, rfl⟩ := trodAll_nil r3
  obtain rfl : args = #[v0, v1, v2, v3] := by cases args; simp_all
  obtain ⟨a0, rfl, rfl, rfl, w0⟩ := open_int Try.underlying3 (hval 0 3 v0 rfl rfl) h0
  obtain ⟨a1, rfl, rfl, rfl, w1⟩ := open_int Try.underlying3 (hval 1 3 v1 rfl rfl) h1
  obtain ⟨A2, n2, c2, xs2, rfl, hz2, hr2, hb2, hn2, hc2⟩ := open_rowc Try.underlying22 Try.underlying5 (by kernel_rfl) (hval 2 22 v2 rfl rfl) h2
  obtain ⟨A3, n3, c3, xs3, rfl, hz3, hr3, hb3, hn3, hc3⟩ := open_rowc Try.underlying22 Try.underlying5 (by kernel_rfl) (hval 3 22 v3 rfl rfl) h3
  refine (walk wavOK a0 a1 A2 n2 c2 xs2 A3 n3 c3 xs3 W hz2 hr2 (range_bytes hb2) hn2 hc2 hz3 hr3 (range_bytes hb3) hn3 hc3).mono fun e W' ⟨he, hb⟩ => ⟨_, he, hpost W' hb⟩

/-- The statement. -/
theorem proved : Rows.WavBackSaid :=
  OpenClaim.holds_of_wide 5 Try.f5 rfl rfl rfl rfl rfl rfl rfl ⟨rfl, rfl, rfl, rfl, rfl⟩ rfl rfl rfl rfl rfl (by kernel_rfl) Try.func5 (by kernel_rfl)
    (of_decide_eq_true (by kernel_rfl)) (by unfold Func.isWrapper; first | (rw [if_pos (by decide +kernel)]; kernel_rfl) | (rw [if_neg (by decide +kernel)]; exact ⟨rfl, rfl⟩))
    (fun os started H enc _ => lifted os started H enc)
#print axioms proved

end Go.Proofs.Ytjpfmnfojcaedaa.wavBack
