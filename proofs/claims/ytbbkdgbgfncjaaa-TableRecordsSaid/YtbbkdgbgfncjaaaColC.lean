/- The code's bytes.Clone, planes, and columns apart and together. -/
import Derived.Test.YtbbkdgbgfncjaaaColAw
import Derived.Lib.SliceRun
import Derived.StillTailTactics
namespace Go.Proofs.Ytbbkdgbgfncjaaa
open Go.RowKit
set_option maxRecDepth 100000

attribute [local go_sem ↓] Go.wp_at_zero Go.wp_at_succ

theorem Row.none_nil {w : World} {k : IntKind} {n : Nat} {xs : List Int} (h : Row w k none n xs) : n = 0 ∧ xs = [] := by
  obtain rfl := h.nil0
  exact ⟨rfl, List.length_eq_zero_iff.1 h.len⟩

theorem run_slice_upto {P : Program} (t e : TypeId) (ht : P.underlying t = some (.slice e)) (hc : ∀ w, (sizeOf e).run P w = .ok 1 w) (A : Option Addr) (n c h : Nat) (k : Int) (hk : k = h) (hh : h ≤ c) (W : World) :
    (Instr.slice t (.slice A n c) none (some (.int .i64 k)) none).run P W = .ok (.slice A h c) W := by
  subst hk
  have he : P.elem t = e := by simp [Program.elem, ht]
  rw [run_slice_h W t A n c (by rw [he]; exact ht) .i64 (h : Int) (by omega) (by omega), he, hc]
  rcases A with _ | a
  · simp [Result.andThen, sliced]
  · simp [Result.andThen, sliced, Addr.add]

set_option maxHeartbeats 800000 in
/-- A list of bytes, anew. -/
theorem bClone_any (A : Option Addr) (n c : Nat) (xs : List Int) (w : World) (h : Row w .u8 A n xs) (hn : n ≤ 1000000000) :
    Calls Try.prog 20 #[.slice A n c] w fun e w' => ∃ v, e = .returned v ∧ NewRow w w' 5 .u8 v xs := by
  obtain ⟨i0, hi, hz0, hz1, hz2⟩ := info_parts Try.infoCol
  cases A with
  | none =>
    obtain ⟨rfl, rfl⟩ := h.none_nil
    have heq : ∀ W, (binOp .eql 22 (.slice none 0 c) (.slice none 0 0)).run Try.prog W = .ok (.bool true) W := fun W => Lib.run_eql_slice_nil W 22 5 none 0 c 0 0 Try.underlying22
    go_enter Try.func20, Try.ntmps20
    go_wp2_with fail
    go_ret
    exact ⟨_, rfl, NewRow.none _ _ _⟩
  | some a =>
    have heq : ∀ W, (binOp .eql 22 (.slice (some a) n c) (.slice none 0 0)).run Try.prog W = .ok (.bool false) W := fun W => Lib.run_eql_slice_nil W 22 5 (some a) n c 0 0 Try.underlying22
    go_enter Try.func20, Try.ntmps20
    have hown : NewRow w (w.alloc (.cells #[] 5)) 5 .u8 (.slice (some ⟨w.heap.size, 0, none⟩) 0 0) [] :=
      ⟨⟨rfl, .inr ⟨w.heap.size, 0, #[], rfl, Nat.zero_le _, heap_alloc_new w _, Nat.le_refl _, Nat.zero_le _, rfl, rfl⟩⟩, fun k hk => by
        have : w.heap.size = k := by simpa [Value.ownBlock] using hk
        omega, (Kept.refl _ _).alloc _⟩
    have hr := h.kept ((Kept.refl (fun _ => False) w).alloc (.cells #[] 5)) (fun _ _ _ _ => id)
    have HO := Lib.hid hown
    have HR := Lib.hid hr
    clear hown hr h
    go_wp2_with (at_builtin; refine wpList_new _ w rfl _ _ 22 rfl 5 i0 .u8 1 Try.underlying22 hi hz0 hz1 hz2 _ [] rfl HO.out (some a) n c xs rfl HR.out (by unfold maxLen; simp; omega) (by simp; omega) ?_)
    intro v' w1 hown1
    go_wp2_with fail
    go_ret
    exact ⟨v', rfl, hown1⟩

set_option maxHeartbeats 800000 in
/-- How many planes. -/
theorem cColPl_any (k : Int) (w : World) : Calls Try.prog 30 #[.int .i64 k] w fun e w' => e = .returned (.int .i64 (colC k : Nat)) ∧ w = w' := by
  have h : ((colC k : Nat) : Int) = min (max k 1) 16 := by rw [(colC_in k).2.2]; omega
  rw [h]
  clear h
  go_enter Try.func30, Try.ntmps30
  go_wp2_with fail
  go_ret
  exact ⟨rfl, rfl⟩

/-- Rows told column by column: R rows, W bytes wide. -/
def cols (bs : List Int) (R W : Nat) : List Int := fls R (fun k i => bs.getD (i * W + k) 0) W ++ bs.drop (R * W)
theorem aprt_cols (bs : List Int) (c : Nat) : aprt bs c = cols bs (bs.length / c) c := rfl
theorem tgth_cols (bs : List Int) (c : Nat) : tgth bs c = cols bs c (bs.length / c) := by rw [cols, tgth, Nat.mul_comm c]
/-- Where the byte comes from that is told at place p. -/
def cfr (R W p : Nat) : Nat := p % R * W + p / R
/-- .. the first j bytes of the rows alone. -/
def colsTo (bs : List Int) (R W j : Nat) : List Int := tn bs.length fun p => if p < R * W ∧ cfr R W p < j then bs.getD (cfr R W p) 0 else bs.getD p 0
theorem colsTo_length (bs : List Int) (R W j : Nat) : (colsTo bs R W j).length = bs.length := tn_length _ _
theorem colsTo_zero (bs : List Int) (R W : Nat) : colsTo bs R W 0 = bs := (tn_ext rfl fun i _ => by rw [if_neg (by omega)]).symm
theorem cfr_to {R W j : Nat} (hj : j < R * W) : j % W * R + j / W < R * W ∧ cfr R W (j % W * R + j / W) = j := by
  have hW : 0 < W := Nat.pos_of_ne_zero fun e => by rw [e, Nat.mul_zero] at hj; omega
  have h1 : j / W < R := Nat.div_lt_of_lt_mul (by rwa [Nat.mul_comm])
  have h2 := Nat.mod_lt j hW
  have h3 : (j % W + 1) * R ≤ W * R := Nat.mul_le_mul_right R h2
  rw [Nat.succ_mul, Nat.mul_comm W] at h3
  refine ⟨by omega, ?_⟩
  unfold cfr
  rw [Nat.add_comm (j % W * R), Nat.add_mul_mod_self_right, Nat.mod_eq_of_lt h1, Nat.add_mul_div_right _ _ (Nat.lt_of_le_of_lt (Nat.zero_le _) h1), Nat.div_eq_of_lt h1, Nat.zero_add, Nat.mul_comm (j / W)]
  exact Nat.div_add_mod j W
theorem cfr_from {R W p j : Nat} (hp : p < R * W) (h : cfr R W p = j) : p = j % W * R + j / W := by
  have hR : 0 < R := Nat.pos_of_ne_zero fun e => by rw [e, Nat.zero_mul] at hp; omega
  have h1 : p / R < W := Nat.div_lt_of_lt_mul hp
  subst h
  unfold cfr
  rw [Nat.add_comm (p % R * W), Nat.add_mul_mod_self_right, Nat.mod_eq_of_lt h1, Nat.add_mul_div_right _ _ (Nat.lt_of_le_of_lt (Nat.zero_le _) h1), Nat.div_eq_of_lt h1, Nat.zero_add, Nat.mul_comm (p / R)]
  exact (Nat.div_add_mod p R).symm
theorem cfr_lt {R W p : Nat} (hp : p < R * W) : cfr R W p < R * W := by
  have hR : 0 < R := Nat.pos_of_ne_zero fun e => by rw [e, Nat.zero_mul] at hp; omega
  have h1 : p / R < W := Nat.div_lt_of_lt_mul hp
  have h2 := Nat.mod_lt p hR
  have h3 : (p % R + 1) * W ≤ R * W := Nat.mul_le_mul_right W h2
  rw [Nat.succ_mul] at h3
  unfold cfr
  omega
theorem colsTo_next {bs : List Int} {R W j : Nat} (hj : j < R * W) : (colsTo bs R W j).set (j % W * R + j / W) (bs.getD j 0) = colsTo bs R W (j + 1) := by
  refine tn_ext (by rw [List.length_set, colsTo_length]) fun p hp => ?_
  obtain ⟨h1, h2⟩ := cfr_to hj
  by_cases e : p = j % W * R + j / W
  · subst e
    rw [if_pos ⟨h1, by omega⟩, h2]
    simp [List.getD, colsTo_length, hp]
  · have e1 : ((colsTo bs R W j).set (j % W * R + j / W) (bs.getD j 0)).getD p 0 = (colsTo bs R W j).getD p 0 := by
      simp only [List.getD]
      rw [List.getElem?_set_ne (by omega)]
    rw [e1, colsTo, tn_getD hp]
    by_cases h3 : p < R * W
    · have h4 : cfr R W p ≠ j := fun h => e (cfr_from h3 h)
      by_cases h5 : cfr R W p < j
      · rw [if_pos ⟨h3, h5⟩, if_pos ⟨h3, by omega⟩]
      · rw [if_neg (by omega), if_neg (by omega)]
    · rw [if_neg (by omega), if_neg (by omega)]
theorem colsTo_all {bs : List Int} {R W : Nat} (hl : R * W ≤ bs.length) : colsTo bs R W (R * W) = cols bs R W := by
  have hcl : (cols bs R W).length = bs.length := by
    rw [cols, List.length_append, fls_length, List.length_drop, Nat.mul_comm W]
    omega
  refine bs_ext (by rw [colsTo_length, hcl]) fun p hp => ?_
  rw [colsTo_length] at hp
  rw [colsTo, tn_getD hp]
  by_cases h : p < R * W
  · have hR : 0 < R := Nat.pos_of_ne_zero fun e => by rw [e, Nat.zero_mul] at h; omega
    rw [if_pos ⟨h, cfr_lt h⟩, cols, getD_left (by rw [fls_length, Nat.mul_comm]; exact h)]
    have := fls_getD R (fun k i => bs.getD (i * W + k) 0) W (p / R) (p % R) (Nat.div_lt_of_lt_mul h) (Nat.mod_lt p hR)
    rw [Nat.mul_comm, Nat.div_add_mod] at this
    rw [this]
    rfl
  · rw [if_neg (by omega), cols]
    simp only [List.getD]
    rw [List.getElem?_append_right (by rw [fls_length, Nat.mul_comm]; omega), fls_length, List.getElem?_drop, Nat.mul_comm W, Nat.add_sub_cancel' (by omega)]

set_option maxHeartbeats 3200000 in
/-- The rows that bytes begin with, told column by column. -/
theorem cByCols_any (A : Option Addr) (n c : Nat) (bs : List Int) (R W : Nat) (w : World) (hr : Row w .u8 A n bs) (hn : n ≤ 1048576) (hc : n ≤ c) (hRW : R * W ≤ n) (hR : R ≤ 1048576) (hW : W ≤ 1048576) :
    Calls Try.prog 31 #[.slice A n c, .int .i64 R, .int .i64 W] w fun e w' => ∃ u, e = .returned u ∧ NewRow w w' 5 .u8 u (cols bs R W) := by
  obtain rfl := hr.len
  have HR : Hid (∀ V, Fresh w V → Row V .u8 A bs.length bs) := Lib.hid fun V hV => hr.kept hV (fun _ _ _ _ => id)
  have HC : Hid (∀ V, Fresh w V → Calls Try.prog 20 #[.slice A bs.length c] V fun e w' => ∃ v, e = .returned v ∧ NewRow V w' 5 .u8 v bs) := Lib.hid fun V hV => bClone_any A bs.length c bs V (hr.kept hV (fun _ _ _ _ => id)) (by omega)
  obtain ⟨M, hM⟩ : ∃ M, M = R * W := ⟨_, rfl⟩
  have em : (R : Int) * (W : Int) = (M : Int) := by rw [hM]; simp
  have hMn : M ≤ bs.length := by omega
  have ew : IntKind.i64.wrap (M : Int) = (M : Int) := IntWalk.i64_in _ (by omega)
  have hsz1 : ∀ w, (sizeOf 5).run Try.prog w = .ok 1 w := fun w => by kernel_rfl
  have hs1 : ∀ V, (Instr.slice 22 (.slice A bs.length c) none (some (.int .i64 (M : Int))) none).run Try.prog V = .ok (.slice A M c) V := fun V => run_slice_upto 22 5 Try.underlying22 hsz1 A bs.length c M (M : Int) rfl (by omega) V
  have HM := Lib.hid (And.intro hM (And.intro hn (And.intro hR (And.intro hW hRW))))
  clear hr hM hRW
  go_enter Try.func31, Try.ntmps31
  go_wp2_with fail
  refine (HC.out w (Kept.refl _ _)).mono ?_
  rintro e w1 ⟨v, rfl, hv⟩
  have H1 := Lib.hid hv
  clear hv HC
  go_wp2_with fail
  go_loopw [18] (fun i wr => ∃ j : Nat, j ≤ M ∧ i = .int .i64 j ∧ NewRow w wr 5 .u8 v (colsTo bs R W j)) (fun i _ => (M - intOf i).toNat)
  case atStart => exact ⟨0, by omega, rfl, by rw [colsTo_zero]; exact H1.out⟩
  case round =>
    obtain ⟨j, hj, rfl, hv⟩ := hrel
    clear H1
    by_cases hlt : j < M
    · have hjn : j < bs.length := by omega
      obtain ⟨b, o, rfl, hb, hcell⟩ := (HR.out wr hv.2.2).at_ j hjn
      have hj' : j < R * W := by rw [← HM.out.1]; exact hlt
      have Hn : Hid ((colsTo bs R W j).set (j % W * R + j / W) (bs.getD j 0) = colsTo bs R W (j + 1)) := Lib.hid (colsTo_next hj')
      obtain ⟨hp1, _⟩ := cfr_to hj'
      rw [← HM.out.1] at hp1
      obtain ⟨g, cap, rfl, hgl⟩ := hv.1.form (by rw [colsTo_length]; omega)
      rw [colsTo_length] at hv ⊢
      have lq := colsTo_length bs R W j
      have kc := hv.1.cellN lq (j := j % W * R + j / W) (by omega)
      have kf := hv.1.frozenN lq (j % W * R + j / W)
      have hW0 : W ≠ 0 := fun e => by rw [e, Nat.mul_zero] at hj'; omega
      generalize bs.getD j 0 = x at *
      have hwz : (W : Int) ≠ 0 := by omega
      have q1 : (j : Int).tmod (W : Int) = ((j % W : Nat) : Int) := by rw [Int.tmod_eq_emod_of_nonneg (by omega), ← Int.natCast_emod]
      have q2 : (j : Int) / (W : Int) = ((j / W : Nat) : Int) := by rw [← Int.natCast_ediv]
      have q3 : ((j % W : Nat) : Int) * (R : Int) = ((j % W * R : Nat) : Int) := by simp
      have q4 : ((j % W * R : Nat) : Int) + ((j / W : Nat) : Int) = ((j % W * R + j / W : Nat) : Int) := by omega
      have hb1 : j % W * R ≤ M := Nat.le_trans (Nat.le_add_right _ _) (Nat.le_of_lt hp1)
      have hb2 : j / W ≤ M := Nat.le_trans (Nat.div_le_self j W) hj
      generalize hpe : j % W * R + j / W = p at *
      generalize j % W * R = T at *
      generalize j / W = z at *
      generalize j % W = y at *
      have v1 : IntKind.i64.wrap (T : Int) = (T : Int) := IntWalk.i64_in _ (by omega)
      have v2 : IntKind.i64.wrap (z : Int) = (z : Int) := IntWalk.i64_in _ (by omega)
      have v3 : IntKind.i64.wrap (p : Int) = (p : Int) := IntWalk.i64_in _ (by omega)
      have pn : (p : Int) < (bs.length : Int) := by omega
      clear hpe hb1 hb2
      go_wp2_with fail
      refine wp_region_still_tail 12 (by kernel_rfl) (by kernel_rfl) ?_
      simp only [List.take_succ_cons, List.take_zero, List.drop_succ_cons, List.drop_zero]
      iterate 12 still_step
      refine wpStill_nil ?_
      have hgw := hv.2.1 g rfl
      have hnew : NewRow w (wr.drew.setCell ⟨g, p, none⟩ (.int .u8 x)) 5 .u8 (.slice (some ⟨g, 0, none⟩) bs.length cap) (colsTo bs R W (j + 1)) := by
        rw [← Hn.out]
        exact ⟨hv.1.drew.storeN lq p x, hv.2.1, hv.2.2.drew.setCell (p := ⟨g, p, none⟩) (fun e => absurd e (by simp; omega)) _⟩
      have H2 := Lib.hid hnew
      clear hnew hv Hn
      go_wp2_with fail
      go_roundw
      case rel => exact ⟨j + 1, by omega, by go_num, H2.out⟩
      case measure => simp [intOf]; omega
    · obtain rfl : j = M := by omega
      have H2 : Hid (NewRow w wr 5 .u8 v (cols bs R W)) := Lib.hid (by
        rw [← colsTo_all HM.out.2.2.2.2, ← HM.out.1]
        exact hv)
      clear hv
      go_wp2_with fail
      go_ret
      exact ⟨_, rfl, H2.out⟩

set_option maxHeartbeats 1600000 in
theorem cApart_any (A : Option Addr) (n c : Nat) (bs : List Int) (k : Int) (w : World) (hr : Row w .u8 A n bs) (hn : n ≤ 1048576) (hc : n ≤ c) :
    Calls Try.prog 24 #[.slice A n c, .int .i64 k] w fun e w' => ∃ u, e = .returned u ∧ NewRow w w' 5 .u8 u (aprt bs (colC k)) := by
  obtain rfl := hr.len
  have HP : Hid (∀ V, Calls Try.prog 30 #[.int .i64 k] V fun e w' => e = .returned (.int .i64 (colC k : Nat)) ∧ V = w') := Lib.hid fun V => cColPl_any k V
  obtain ⟨h1, h16, hx⟩ := colC_in k
  clear hx
  rw [aprt_cols]
  generalize colC k = m at *
  have q2 : (bs.length : Int).tdiv (m : Int) = ((bs.length / m : Nat) : Int) := by rw [Int.tdiv_eq_ediv_of_nonneg (by omega), ← Int.natCast_ediv]
  have hd := Nat.div_mul_le_self bs.length m
  have hd2 := Nat.div_le_self bs.length m
  have HC := Lib.hid (cByCols_any A bs.length c bs (bs.length / m) m w hr hn hc hd (by omega) (by omega))
  generalize bs.length / m = d at *
  have v2 : IntKind.i64.wrap (d : Int) = (d : Int) := IntWalk.i64_in _ (by omega)
  clear hr hd
  go_enter Try.func24, Try.ntmps24
  go_wp2_with fail
  refine (HP.out _).mono ?_
  rintro e w1 ⟨rfl, rfl⟩
  go_wp2_with fail
  refine HC.out.mono ?_
  rintro e w1 ⟨u, rfl, hu⟩
  have H1 := Lib.hid hu
  clear hu HC
  go_wp2_with fail
  go_ret
  exact ⟨_, rfl, H1.out⟩

set_option maxHeartbeats 1600000 in
theorem cTogether_any (A : Option Addr) (n c : Nat) (bs : List Int) (k : Int) (w : World) (hr : Row w .u8 A n bs) (hn : n ≤ 1048576) (hc : n ≤ c) :
    Calls Try.prog 36 #[.slice A n c, .int .i64 k] w fun e w' => ∃ u, e = .returned u ∧ NewRow w w' 5 .u8 u (tgth bs (colC k)) := by
  obtain rfl := hr.len
  have HP : Hid (∀ V, Calls Try.prog 30 #[.int .i64 k] V fun e w' => e = .returned (.int .i64 (colC k : Nat)) ∧ V = w') := Lib.hid fun V => cColPl_any k V
  obtain ⟨h1, h16, hx⟩ := colC_in k
  clear hx
  rw [tgth_cols]
  generalize colC k = m at *
  have q2 : (bs.length : Int).tdiv (m : Int) = ((bs.length / m : Nat) : Int) := by rw [Int.tdiv_eq_ediv_of_nonneg (by omega), ← Int.natCast_ediv]
  have hd := Nat.mul_div_le bs.length m
  have hd2 := Nat.div_le_self bs.length m
  have HC := Lib.hid (cByCols_any A bs.length c bs m (bs.length / m) w hr hn hc hd (by omega) (by omega))
  generalize bs.length / m = d at *
  have v2 : IntKind.i64.wrap (d : Int) = (d : Int) := IntWalk.i64_in _ (by omega)
  clear hr hd
  go_enter Try.func36, Try.ntmps36
  go_wp2_with fail
  refine (HP.out _).mono ?_
  rintro e w1 ⟨rfl, rfl⟩
  go_wp2_with fail
  refine HC.out.mono ?_
  rintro e w1 ⟨u, rfl, hu⟩
  have H1 := Lib.hid hu
  clear hu HC
  go_wp2_with fail
  go_ret
  exact ⟨_, rfl, H1.out⟩

end Go.Proofs.Ytbbkdgbgfncjaaa
