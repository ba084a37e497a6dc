/- The document's Apply of filters. -/
import Derived.Test.YtnmapfoinhomdaaFilS
namespace Go.Proofs.Ytnmapfoinhomdaa
open Go.RowKit
set_option maxRecDepth 100000

attribute [local go_sem ↓] Go.wp_at_zero Go.wp_at_succ

/-- May rows be turned? -/
def okA (wd p : Int) (n : Nat) : Prop := 1 ≤ wd ∧ wd ≤ 1048576 ∧ 1 ≤ p ∧ p ≤ 4 ∧ n ≤ 1048576 ∧ n % wd.toNat = 0
def okU (wd p : Int) (n : Nat) : Prop := 1 ≤ wd ∧ wd ≤ 1048576 ∧ 1 ≤ p ∧ p ≤ 4 ∧ n % (wd.toNat + 1) = 0 ∧ n - n / (wd.toNat + 1) ≤ 1048576

set_option maxHeartbeats 3200000 in
theorem qApplyF_any (A : Option Addr) (n c : Nat) (b : List Int) (wd : Nat) (p : Int) (w : World) (hr : Row w .u8 A n b) (h8 : B8 b) (hnc : n ≤ c) (h1 : 1 ≤ wd ∧ wd ≤ 1048576) (h2 : 1 ≤ p ∧ p ≤ 4) (hn : n ≤ 1048576) (hm : n % wd = 0) :
    Calls Try.prog 21 #[.slice A n c, .int .i64 (wd : Int), .int .i64 p] w fun e w' => ∃ u, e = .returned (.tuple #[u, .int .i64 0]) ∧ NewRow w w' 5 .u8 u (apF b wd (plN p)) := by
  obtain ⟨i0, hi0, hz0, hz1, hz2⟩ := info_parts Try.infoCol
  obtain rfl := hr.len
  have HR : Hid (∀ V, Fresh w V → Row V .u8 A b.length b) := Lib.hid fun V hV => hr.fresh hV
  have H8 := Lib.hid h8
  have c1 : ¬ (wd : Int) < 1 := by omega
  have c2 : ¬ 1048576 < (wd : Int) := by omega
  have c3 : ¬ p < 1 := by omega
  have c4 : ¬ 4 < p := by omega
  have c5 : ¬ 1048576 < (b.length : Int) := by omega
  have hmz : ((b.length : Nat) : Int) % (wd : Int) = 0 := by exact_mod_cast hm
  have hmt : ((b.length : Nat) : Int).tmod (wd : Int) = 0 := by rw [Int.tmod_eq_emod_of_nonneg (by omega)]; exact hmz
  have g1 : (wd = 0) = False := by simp only [eq_iff_iff, iff_false]; omega
  have hR : b.length / wd * wd = b.length := by
    have := Nat.div_add_mod b.length wd
    rw [hm, Nat.mul_comm] at this
    omega
  obtain ⟨R, hRe⟩ : ∃ R, b.length / wd = R := ⟨_, rfl⟩
  rw [hRe] at hR
  have HM := Lib.hid (And.intro hRe hR)
  clear hr h8 hm hRe hR
  go_enter Try.func21, Try.ntmps21
  go_wp2_with fail
  clear hmt hmz
  go_loopw [10, 8, 9] (fun i u v wr => ∃ r q : Nat, q = r * wd ∧ r ≤ R ∧ i = .int .i64 q ∧ NewRow w wr 5 .u8 u (apN b wd (plN p) r) ∧ ∃ U m cu, v = .slice U m cu ∧ (∀ V, Fresh w V → Row V .u8 U m (prvF b wd r)) ∧ m ≤ 1048576) (fun i _ _ _ => (b.length - intOf i).toNat)
  case atStart => exact ⟨0, 0, by simp, by omega, rfl, NewRow.none _ _ _, none, 0, 0, rfl, fun _ _ => Row.empty _ _ _, by omega⟩
  case round =>
    obtain ⟨r, q, hq, hr', rfl, hu, U, m, cu, rfl, hU, hmU⟩ := hrel
    have HQ := Lib.hid (And.intro hq hr')
    have HN := Lib.hid hu
    by_cases hlt : q < b.length
    · have hrR : r < R := by
        rcases Nat.lt_or_ge r R with h | h
        · exact h
        · exfalso
          have : r = R := by omega
          subst this
          rw [HM.out.2] at hq
          omega
      have hqw : q + wd ≤ b.length := by
        have := Nat.mul_le_mul_right wd (show r + 1 ≤ R from hrR)
        rw [HM.out.2, Nat.add_mul, Nat.one_mul, ← hq] at this
        exact this
      have hpr : (b.drop q).take wd = prtF b wd r := by rw [hq]; rfl
      have hrowV : ∀ V, Fresh w V → Row V .u8 (cutAt A q c) wd (prtF b wd r) := fun V hV => by
        have := (HR.out V hV).cut (l := q) (m := wd) (c := c) hqw hnc
        rwa [hpr] at this
      have hrow := hrowV wr hu.2.2
      have hbs : ∀ W, (Instr.slice 22 (.slice A b.length c) (some (.int .i64 (q : Int))) (some (.int .i64 ((q : Int) + (wd : Int)))) none).run Try.prog W = .ok (.slice (cutAt A q c) wd (c - q)) W := fun W => by
        have := run_slice_part (P := Try.prog) 22 5 Try.underlying22 (fun w => by simp [sizeOf, typeInfo, hi0, hz1]) A b.length c q (q + wd) ((q : Int) + (wd : Int)) (by omega) (by omega) (by omega) W
        rw [Nat.add_sub_cancel_left] at this
        exact this
      have HBe := Lib.hid (qBestF_any (cutAt A q c) wd (c - q) (prtF b wd r) U m cu (prvF b wd r) p wr hrow (hU wr hu.2.2) (prtF_byte H8.out _ _) (prvF_byte H8.out _ _) (by omega) (by omega) (by omega))
      have hk4 : bst (prtF b wd r) (prvF b wd r) (plN p) ≤ 4 := bstN_le _ _ _ _
      have HRo : Hid (∀ V, Fresh w V → Calls Try.prog 12 #[.int .i64 (bst (prtF b wd r) (prvF b wd r) (plN p) : Nat), .slice (cutAt A q c) wd (c - q), .slice U m cu, .int .i64 p] V fun e w' => ∃ D cD, e = .returned (.slice D wd cD) ∧ Row w' .u8 D wd (rowF (bst (prtF b wd r) (prvF b wd r) (plN p) : Nat) (prtF b wd r) (prvF b wd r) (plN p)) ∧ Fresh V w') := Lib.hid fun V hV => by
        refine (qRowF_any (cutAt A q c) wd (c - q) (prtF b wd r) U m cu (prvF b wd r) (bst (prtF b wd r) (prvF b wd r) (plN p) : Nat) p V (hrowV V hV) (hU V hV) (prtF_byte H8.out _ _) (prvF_byte H8.out _ _) (by omega) (by omega) (by omega)).mono ?_
        rintro e w' ⟨u, rfl, hu, _, hf⟩
        obtain ⟨D, cD, rfl, hrow', _⟩ := hu.row
        rw [rowF_length, hrow.len] at hrow' ⊢
        exact ⟨D, cD, rfl, hrow', hf⟩
      have Hap : Hid (apN b wd (plN p) (r + 1) = apN b wd (plN p) r ++ ([(bst (prtF b wd r) (prvF b wd r) (plN p) : Int)] ++ rowF (bst (prtF b wd r) (prvF b wd r) (plN p) : Nat) (prtF b wd r) (prvF b wd r) (plN p))) := Lib.hid rfl
      have Hup : Hid (∀ V, Fresh w V → Row V .u8 (cutAt A q c) wd (prvF b wd (r + 1))) := Lib.hid hrowV
      have hlen := apN_length (b := b) (w := wd) (n := plN p) r (by rw [← hq]; omega)
      have hl2 : (apN b wd (plN p) r).length ≤ 3000000 := by
        rw [hlen, Nat.mul_add, Nat.mul_one, ← hq]
        have : r ≤ r * wd := Nat.le_mul_of_pos_right _ (by omega)
        omega
      have HF : Hid (Fresh w wr) := Lib.hid hu.2.2
      generalize bst (prtF b wd r) (prvF b wd r) (plN p) = kb at *
      generalize rowF (kb : Nat) (prtF b wd r) (prvF b wd r) (plN p) = X at *
      generalize hxs : apN b wd (plN p) r = xs at *
      generalize cutAt A q c = CA at *
      have qw : IntKind.i64.wrap ((q : Int) + (wd : Int)) = (q : Int) + (wd : Int) := IntWalk.i64_in _ (by omega)
      have q0 : (q : Int) < (b.length : Int) := by omega
      clear hu hrow hrowV hU hpr hq hlen hr' hxs
      go_wp2_with fail
      refine HBe.out.mono ?_
      rintro e w2 ⟨rfl, hf2⟩
      have HF2 := Lib.hid hf2
      have HN2 := Lib.hid (HN.out.fresh hf2)
      clear hf2 HBe HN
      go_wp2_with (at_builtin; refine wpList_new _ w rfl _ _ 22 rfl 5 i0 .u8 1 Try.underlying22 hi0 hz0 hz1 hz2 u8 xs rfl (HN2.out.fresh ((Kept.refl _ _).alloc (.cells #[.int .u8 (kb : Int)] 5))) (some ⟨w2.heap.size, 0, none⟩) 1 1 [(kb : Int)] rfl (Row.one w2 _ _ _) (by unfold maxLen; omega) (by omega) ?_)
      intro v3 w3 hn3
      have HN3 := Lib.hid hn3
      have HRw := Lib.hid (HRo.out w3 hn3.2.2)
      clear hn3 HN2 HF2 HRo
      go_wp2_with fail
      refine HRw.out.mono ?_
      rintro e w4 ⟨D, cD, rfl, hrD, hf4⟩
      have HN4 := Lib.hid (HN3.out.fresh hf4)
      clear hf4 HRw HN3
      go_wp2_with (at_builtin; refine wpList_new _ w rfl _ _ 22 rfl 5 i0 .u8 1 Try.underlying22 hi0 hz0 hz1 hz2 v3 _ rfl HN4.out D wd cD X rfl hrD (by rw [List.length_append]; unfold maxLen; simp; omega) (by rw [List.length_append]; simp; omega) ?_)
      intro v5 w5 hn5
      have HN5 : Hid (NewRow w w5 5 .u8 v5 (apN b wd (plN p) (r + 1))) := Lib.hid (by rw [Hap.out]; exact hn5)
      have HQ2 : Hid (q + wd = (r + 1) * wd) := Lib.hid (by rw [HQ.out.1, Nat.add_mul, Nat.one_mul])
      clear hn5 hrD HN4
      go_wp2_with fail
      go_roundw
      case rel => exact ⟨r + 1, q + wd, HQ2.out, hrR, by go_num, HN5.out, CA, wd, c - q, rfl, Hup.out, by omega⟩
      case measure => simp [intOf]; omega
    · have hrR : r = R := by
        rcases Nat.lt_or_ge r R with h | h
        · exfalso
          have := Nat.mul_le_mul_right wd (show r + 1 ≤ R from h)
          rw [HM.out.2, Nat.add_mul, Nat.one_mul, ← hq] at this
          omega
        · omega
      have HE : Hid (NewRow w wr 5 .u8 u8 (apF b wd (plN p))) := Lib.hid (by unfold apF; rw [HM.out.1, ← hrR]; exact hu)
      have q0 : ¬ (q : Int) < (b.length : Int) := by omega
      clear hu hU hq HN
      go_wp2_with fail
      go_ret2
      exact ⟨_, rfl, HE.out⟩


set_option maxHeartbeats 3200000 in
theorem qApplyNo_any (A : Option Addr) (n c : Nat) (wd p : Int) (w : World) (hn : n ≤ 1000000000) (h : ¬ okA wd p n) :
    Calls Try.prog 21 #[.slice A n c, .int .i64 wd, .int .i64 p] w fun e w' => e = .returned (.tuple #[.slice none 0 0, .int .i64 1]) ∧ Fresh w w' := by
  have hcs : (wd < 1) ∨ (¬ wd < 1 ∧ 1048576 < wd) ∨ (¬ wd < 1 ∧ ¬ 1048576 < wd ∧ p < 1) ∨ (¬ wd < 1 ∧ ¬ 1048576 < wd ∧ ¬ p < 1 ∧ 4 < p) ∨ (¬ wd < 1 ∧ ¬ 1048576 < wd ∧ ¬ p < 1 ∧ ¬ 4 < p ∧ 1048576 < (n : Int)) ∨ (¬ wd < 1 ∧ ¬ 1048576 < wd ∧ ¬ p < 1 ∧ ¬ 4 < p ∧ ¬ 1048576 < (n : Int) ∧ n % wd.toNat ≠ 0) := by
    unfold okA at h
    omega
  clear h
  rcases hcs with k1 | ⟨k1, k2⟩ | ⟨k1, k2, k3⟩ | ⟨k1, k2, k3, k4⟩ | ⟨k1, k2, k3, k4, k5⟩ | ⟨k1, k2, k3, k4, k5, k6⟩
  rotate_right
  · obtain ⟨q, rfl⟩ : ∃ q : Nat, wd = q := ⟨wd.toNat, by omega⟩
    rw [Int.toNat_natCast] at k6
    obtain ⟨r, hr⟩ : ∃ r, n % q = r := ⟨_, rfl⟩
    rw [hr] at k6
    have hmz : ((n : Nat) : Int) % (q : Int) = (r : Int) := by exact_mod_cast hr
    have hmt : ((n : Nat) : Int).tmod (q : Int) = (r : Int) := by rw [Int.tmod_eq_emod_of_nonneg (by omega)]; exact hmz
    have hm2 : ((r : Int) != 0) = true := by simp; omega
    have g1 : (q = 0) = False := by simp only [eq_iff_iff, iff_false]; omega
    clear hr k6
    go_enter Try.func21, Try.ntmps21
    go_wp2_with fail
    go_ret2
    exact ⟨rfl, Kept.refl _ _⟩
  all_goals
    go_enter Try.func21, Try.ntmps21
    go_wp2_with fail
    go_ret2
    exact ⟨rfl, Kept.refl _ _⟩

end Go.Proofs.Ytnmapfoinhomdaa
