/- ColourColumns: of records of one width each column stands by itself, in order; what is left stands behind. -/
import Derived.Test.YtcogdehpodfkpaaColCa
import Derived.Test.YtcogdehpodfkpaaHelpStr
import Derived.Test.YtcogdehpodfkpaaArgs
namespace Go.Proofs.Ytcogdehpodfkpaa.colourColumns
open Go.ChangeShapes Go.WideShapes Go.ChangeAt Go.RowKit

attribute [local go_sem ↓] Go.wp_at_zero Go.wp_at_succ

set_option maxRecDepth 100000 in
set_option maxHeartbeats 6400000 in
theorem walk (ok : ColourOK) (A : Option Addr) (n c : Nat) (xs : List Int) (k : Int) (w : World) (_ : A = none → c = 0) (hr : Row w .u8 A n xs) (hb : ∀ x ∈ xs, 0 ≤ x ∧ x < 256) (_ : n ≤ maxLen) (hnc : n ≤ c) :
    Calls Try.prog 6 #[.slice A n c, .int .i64 k] w fun e w' => e = .returned (.bool true) ∧ Below w.heap.size w w' := by
  obtain ⟨r16, hr16, e16⟩ := u64_mod k 16 (by omega)
  obtain ⟨d, hd⟩ : ∃ d, d = 1 + r16 := ⟨_, rfl⟩
  have t1 : 1 + (r16 : Int) = (d : Int) := by omega
  have r0 : (0 : Int) ≤ (r16 : Int) := by omega
  have hd16 : 1 ≤ d ∧ d ≤ 16 := by omega
  by_cases hlong : 1000 < n
  · have h1 : 1000 < (n : Int) := by omega
    have HA := Lib.hid (awakeC_any ok w)
    clear hr ok hd
    go_enter Try.func6, Try.ntmps6
    go_wp2_with fail
    refine HA.out.mono ?_
    rintro e w1 ⟨rfl, hf⟩
    have HF := Lib.hid hf.toBelow
    clear hf HA
    go_wp2_with fail
    go_ret
    exact ⟨rfl, HF.out⟩
  · have h1 : ¬ 1000 < (n : Int) := by omega
    have hlen := hr.len
    have HQ : Hid (∀ V, Fresh w V → Row V .u8 A n xs) := Lib.hid fun V hV => hr.fresh hV
    have HO := Lib.hid ok
    have HB : Hid (B8 xs ∧ B8 (aprt xs d)) := Lib.hid ⟨hb, aprt_byte hb d⟩
    have hcol : colC (d : Int) = d := by unfold colC; omega
    have HT := ok.apartT c (d : Int) hr hb (by omega) hnc
    rw [hcol] at HT
    have HT := Lib.hid HT
    obtain ⟨m, hm⟩ : ∃ m, n / d = m := ⟨_, rfl⟩
    have hmd : m * d ≤ n := by rw [← hm]; exact Nat.div_mul_le_self _ _
    have hmn : m ≤ n := by rw [← hm]; exact Nat.div_le_self _ _
    have hdz : ((n : Nat) : Int) / (d : Int) = (m : Int) := by exact_mod_cast hm
    have g1 : (d = 0) = False := by simp only [eq_iff_iff, iff_false]; omega
    have hself : ((n : Int) != (n : Int)) = false := by simp
    have HAt : Hid (∀ i, i < m * d → (aprt xs d).getD (i % d * m + i / d) 0 = xs.getD i 0 ∧ i % d * m + i / d < n ∧ i % d < d) := Lib.hid fun i hi => by
      have hk := Nat.mod_lt i (show d > 0 by omega)
      have hq : i / d < m := (Nat.div_lt_iff_lt_mul (by omega)).2 hi
      have h2 := aprt_at (bs := xs) (c := d) (k := i % d) (i := i / d) hk (by rw [hlen, hm]; exact hq)
      rw [hlen, hm] at h2
      have h3 := Nat.div_add_mod i d
      rw [Nat.mul_comm] at h3
      rw [h3] at h2
      have h4 := Nat.mul_le_mul_right m (show i % d + 1 ≤ d from hk)
      rw [Nat.add_mul, Nat.one_mul, Nat.mul_comm d m] at h4
      exact ⟨h2, by omega, hk⟩
    have hdrop : (aprt xs d).drop (m * d) = xs.drop (m * d) := by
      have hl : (fls (xs.length / d) (fun k i => xs.getD (i * d + k) 0) d).length = m * d := by rw [fls_length, hlen, hm, Nat.mul_comm]
      have ha : aprt xs d = fls (xs.length / d) (fun k i => xs.getD (i * d + k) 0) d ++ xs.drop (m * d) := by unfold aprt; rw [show xs.length / d = m by rw [hlen]; exact hm]
      rw [ha, List.drop_append_of_le_length (by omega), List.drop_of_length_le (by omega)]
      rfl
    have HD := Lib.hid hdrop
    have hAw : Hid (∀ V, Calls Try.prog 7 #[] V fun e w' => e = .returned (.bool true) ∧ Fresh V w') := Lib.hid fun V => awakeC_any ok V
    clear hr hb ok hd hcol hdrop hm
    go_enter Try.func6, Try.ntmps6
    go_wp2_with fail
    refine HT.out.mono ?_
    rintro e w2 ⟨Ax, cx, rfl, hrx, hcx, hf2⟩
    have HF2 := Lib.hid hf2
    have HX : Hid (∀ V, Fresh w2 V → Row V .u8 Ax n (aprt xs d)) := Lib.hid fun V hV => hrx.fresh hV
    clear hrx hf2 HT
    go_wp2_with fail
    refine (hAw.out _).mono ?_
    rintro e w3 ⟨rfl, hf3⟩
    have HF3 := Lib.hid (Fresh.two HF2.out hf3)
    have HR : Hid (∀ V, Fresh w3 V → Row V .u8 Ax n (aprt xs d) ∧ Row V .u8 A n xs) := Lib.hid fun V hV => ⟨HX.out V (Fresh.two hf3 hV), HQ.out V (Fresh.two HF3.out hV)⟩
    have em : (m : Int) * (d : Int) = ((m * d : Nat) : Int) := by simp
    have e1 : IntKind.i64.wrap ((m : Int) * (d : Int)) = (m : Int) * (d : Int) := IntWalk.i64_in _ (by rw [em]; omega)
    obtain ⟨p, hp⟩ : ∃ p, m * d = p := ⟨_, rfl⟩
    rw [hp] at hmd em HAt HD
    clear hf3 HF2 HX hAw e1
    go_wp2_with fail
    go_loopw [7] (fun i V => ∃ j : Nat, j ≤ p ∧ i = .int .i64 j ∧ Fresh w3 V) (fun i _ => (p - intOf i).toNat)
    case atStart => exact ⟨0, by omega, rfl, Kept.refl _ _⟩
    case round =>
      obtain ⟨j, hj, rfl, hfr⟩ := hrel
      have HFr := Lib.hid hfr
      obtain ⟨hr1, hr2⟩ := HR.out wr hfr
      by_cases hjl : j < p
      · obtain ⟨ha, hin, hmod⟩ := HAt.out j hjl
        obtain ⟨b1, o1, rfl, hb1, c0⟩ := hr1.at_ (j % d * m + j / d) hin
        obtain ⟨b2, o2, rfl, hb2, c3⟩ := hr2.at_ j (by omega)
        rw [ha] at c0
        have hx := HB.out.1.at_ j
        have f1 : ((j : Nat) : Int).tmod (d : Int) = ((j % d : Nat) : Int) := by rw [Int.tmod_eq_emod_of_nonneg (by omega)]; simp
        have f1b : ((j : Nat) : Int) % (d : Int) = ((j % d : Nat) : Int) := by simp
        have f2 : ((j : Nat) : Int) / (d : Int) = ((j / d : Nat) : Int) := by simp
        have hdj : j / d ≤ j := Nat.div_le_self _ _
        generalize xs.getD j 0 = x at *
        generalize j % d = r at *
        generalize j / d = q' at *
        have em2 : (r : Int) * (m : Int) = ((r * m : Nat) : Int) := by simp
        have g3 : IntKind.i64.wrap ((r : Int) * (m : Int)) = (r : Int) * (m : Int) := IntWalk.i64_in _ (by rw [em2]; omega)
        have g4 : IntKind.i64.wrap ((r : Int) * (m : Int) + (q' : Int)) = (r : Int) * (m : Int) + (q' : Int) := IntWalk.i64_in _ (by rw [em2]; omega)
        have g5 : ((r : Int) * (m : Int) + (q' : Int)).toNat = r * m + q' := by rw [em2]; omega
        have g6 : (0 : Int) ≤ (r : Int) * (m : Int) + (q' : Int) := by rw [em2]; omega
        have g7 : (r : Int) * (m : Int) + (q' : Int) < (n : Int) := by rw [em2]; omega
        have hsx : (x != x) = false := by simp
        have ij : (j : Int) < (p : Int) := by omega
        have in_ : (j : Int) < (n : Int) := by omega
        clear hr1 hr2 ha hfr em2
        go_wp2_with fail
        go_region
        clear c0 c3
        go_wp2_with fail
        go_roundw
        case rel => exact ⟨j + 1, by omega, by go_num, HFr.out.drew⟩
        case measure => simp [intOf]; omega
      · have hjp : p = j := by omega
        subst hjp
        have cutR : ∀ (B : Option Addr) (cB : Nat) (ys : List Int) (V : World), n ≤ cB → Row V .u8 B n ys → Row V .u8 (cutAt B p cB) (n - p) (ys.drop p) := fun B cB ys V hc hR => by
          have := hR.cut (l := p) (m := n - p) (c := cB) (by omega) hc
          rw [List.take_of_length_le (by rw [List.length_drop, hR.len]; omega)] at this
          exact this
        have HBy : Hid (∀ V, Fresh wr V → Calls Try.prog 9 #[.slice (cutAt Ax p cx) (n - p) (cx - p), .slice (cutAt A p c) (n - p) (c - p)] V fun e w' => e = .returned (.bool true) ∧ V = w') := Lib.hid fun V hV => by
          obtain ⟨q1, q2⟩ := HR.out V (Fresh.two HFr.out hV)
          have h1 := cutR Ax cx _ V hcx q1
          rw [HD.out] at h1
          have h2 := cutR A c _ V hnc q2
          have := hBytes_any (cutAt Ax p cx) (cutAt A p c) (n - p) (n - p) (cx - p) (c - p) (xs.drop p) (xs.drop p) V h1 h2 (fun x hx => HB.out.1 x (List.mem_of_mem_drop hx)) (fun x hx => HB.out.1 x (List.mem_of_mem_drop hx))
          rwa [show decide (xs.drop p = xs.drop p) = true from by simp] at this
        have hsl : ∀ (B : Option Addr) (cB : Nat) W, (Instr.slice 22 (.slice B n cB) (some (.int .i64 (p : Int))) none none).run Try.prog W = .ok (.slice (cutAt B p cB) (n - p) (cB - p)) W := fun B cB W => by
          obtain ⟨i0, hi, hz0, hz1, hz2⟩ := info_parts Try.infoCol
          exact run_slice_from (P := Try.prog) 22 5 Try.underlying22 (fun w => by simp [sizeOf, typeInfo, hi, hz1]) B n cB p (by omega) W
        have hs1 := hsl Ax cx
        have hs2 := hsl A c
        have HL := Lib.hid (Fresh.two HF3.out HFr.out).drew.toBelow
        have pp0 : (0 : Int) ≤ (p : Int) := by omega
        have ppn : (p : Int) ≤ (n : Int) := by omega
        have wp : IntKind.i64.wrap (p : Int) = (p : Int) := IntWalk.i64_in _ (by omega)
        generalize cutAt Ax p cx = CX at *
        generalize cutAt A p c = CA at *
        clear hr1 hr2 hfr cutR hsl
        go_wp2_with fail
        go_region_held3 (fun _ => True) (first | go_keep | exact True.intro)
          (first
            | (go_at_call 9; with_reducible refine (HBy.out _ (by first | exact Kept.refl _ _ | exact (Kept.refl _ _).drew)).mono ?_; rintro e5 w5 ⟨rfl, rfl⟩))
        go_wp2_with fail
        go_ret
        exact ⟨rfl, HL.out⟩

set_option maxRecDepth 100000 in
theorem lifted (os : Os) (started : os.Started) (H : Type) (enc : TypeId × Value → H) :
    ReturnsInHanded {} Try.checked os 6 .any (Rows.colourColumnsSpec.pre6 enc Try.prog Try.f6 Rows.colourColumnsRow.domain false) (Rows.colourColumnsSpec.post enc Try.prog Try.f6 false true false false) := by
  refine returnsInHanded_of_change (C := Try.checked) Try.own started (by kernel_rfl) Try.func6
    (ChangeSpec.witness6 (enc := enc) (C := Try.checked) false ⟨#[], #[.slice none 0 0, .int .i64 0], []⟩ 8 (by kernel_rfl) (by kernel_rfl) (by kernel_rfl) (by kernel_rfl)) ?_
  intro W base args ds gs before hval0 hW hcnd _
  have hval : ∀ (j : Nat) t v, Try.f6.params[j]? = some t → args[j]? = some v → Value.okWide Try.prog W .any base t v := hval0
  have hpost : ∀ W', Below W.heap.size W W' → Rows.colourColumnsSpec.post enc Try.prog Try.f6 false true false false W args (.bool true) W' := fun W' hb =>
    law_post (by kernel_rfl) Try.underlying4 (by kernel_rfl) rfl (fun ds hl => match ds, hl with | [d1, d2], _ => ⟨rfl, rfl, rfl⟩) hW hb
  obtain ⟨p, q, hA0, hV, rfl, hfz, hnd⟩ := hW
  have hA : DataW.TrodAll enc Try.prog W 0 (fun _ => true) true Try.f6.params.toList args.toList ds p := hA0
  rw [Try.params6] at hA hval
  obtain ⟨v0, vs0, d0, ds0, p0, q0, hargs, rfl, rfl, h0, r0⟩ := trodAll_cons hA
  obtain ⟨v1, vs1, d1, ds1, p1, q1, rfl, rfl, rfl, h1, r1⟩ := trodAll_cons r0
  obtain ⟨rfl, rfl, rfl⟩ := trodAll_nil r1
  obtain rfl : args = #[v0, v1] := by cases args; simp_all
  obtain ⟨A0, n0, c0, xs0, rfl, hz0, hr0, hb0, hn0, hc0⟩ := open_rowc Try.underlying22 Try.underlying5 (by kernel_rfl) (hval 0 22 v0 rfl rfl) h0
  obtain ⟨a1, rfl, rfl, rfl, w1⟩ := open_int Try.underlying3 (hval 1 3 v1 rfl rfl) h1
  refine (walk colourOK A0 n0 c0 xs0 a1 W hz0 hr0 (range_bytes hb0) hn0 hc0).mono fun e W' ⟨he, hb⟩ => ⟨_, he, hpost W' hb⟩

/-- The statement. -/
theorem proved : Rows.ColourColumnsSaid :=
  OpenClaim.holds_of_wide 6 Try.f6 rfl rfl rfl rfl rfl rfl rfl ⟨rfl, rfl, rfl, rfl, rfl⟩ rfl rfl rfl rfl rfl (by kernel_rfl) Try.func6 (by kernel_rfl)
    (of_decide_eq_true (by kernel_rfl)) (by unfold Func.isWrapper; first | (rw [if_pos (by decide +kernel)]; kernel_rfl) | (rw [if_neg (by decide +kernel)]; exact ⟨rfl, rfl⟩))
    (fun os started H enc _ => lifted os started H enc)
#print axioms proved

end Go.Proofs.Ytcogdehpodfkpaa.colourColumns
