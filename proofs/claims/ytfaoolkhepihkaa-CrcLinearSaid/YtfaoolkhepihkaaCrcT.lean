/- The contracts of crc's calls. -/
import Derived.Test.YtfaoolkhepihkaaKit
import Derived.Test.YtfaoolkhepihkaaCrcMath
import Derived.Laws.BitsAllLaws
import Derived.Deep.WholeRow
namespace Go.Proofs.Ytfaoolkhepihkaa
open Go.RowKit

theorem u32_one (s : Nat) (h : s < 4294967296) : bits .and .u32 (s : Int) 1 = ((s % 2 : Nat) : Int) := by
  have := u32_and_nat s 1 h (by omega)
  rw [Nat.and_one_is_mod] at this
  exact this
theorem u32_is_odd {s : Nat} (h : s < 4294967296) (ho : s % 2 = 1) : (bits .and .u32 (s : Int) 1 == 1) = true := by
  rw [u32_one s h, ho]; rfl
theorem u32_is_even {s : Nat} (h : s < 4294967296) (ho : s % 2 = 0) : (bits .and .u32 (s : Int) 1 == 1) = false := by
  rw [u32_one s h, ho]; rfl
theorem st_odd_int {s : Nat} (h : s < 4294967296) (ho : s % 2 = 1) : bits .xor .u32 ((s : Int) / 2) 3988292384 = ((st s : Nat) : Int) := by
  have := u32_xor_nat (s / 2) 3988292384 (by omega) (by omega)
  rw [st_odd ho]
  simpa using this
theorem st_even_int {s : Nat} (ho : s % 2 = 0) : (s : Int) / 2 = ((st s : Nat) : Int) := by
  rw [st_even ho]; omega

set_option maxHeartbeats 800000 in
theorem halved_any (v : Nat) (w : World) (hv : v < 4294967296) : Calls Try.prog 21 #[.int .u32 v] w fun e w' => e = .returned (.int .u32 (itn 8 v : Nat)) ∧ w' = w := by
  go_enter Try.func21, Try.ntmps21
  go_wp2_with fail
  go_loop [0, 4] (fun s i => ∃ j : Nat, j ≤ 8 ∧ i = .int .i64 j ∧ s = .int .u32 (itn j v : Nat)) (fun _ i => (8 - intOf i).toNat)
  case atStart => exact ⟨0, by omega, rfl, rfl⟩
  case round =>
    obtain ⟨j, hj, rfl, rfl⟩ := hrel
    by_cases hlt : j < 8
    · have hs := itn_lt hv j
      have hst : itn (j + 1) v = st (itn j v) := rfl
      generalize itn j v = s at *
      have Hst := Lib.hid hst
      clear hst
      by_cases ho : s % 2 = 1
      · have hb := u32_is_odd hs ho
        go_wp2_with fail
        go_round
        case rel => exact ⟨j + 1, by omega, by go_num, by rw [Hst.out, st_odd_int hs ho]⟩
        case measure => simp [intOf]; omega
      · have hb := u32_is_even hs (by omega)
        go_wp2_with fail
        go_round
        case rel => exact ⟨j + 1, by omega, by go_num, by rw [Hst.out, st_even_int (by omega)]⟩
        case measure => simp [intOf]; omega
    · obtain rfl : j = 8 := by omega
      go_wp2_with fail
      go_ret
      exact ⟨rfl, rfl⟩

/-- The table, as numbers. -/
def tabTo (k : Nat) : List Int := (List.range 256).map fun i => if i < k then ((itn 8 i : Nat) : Int) else 0
def tabL : List Int := tabTo 256
theorem tabTo_len (k : Nat) : (tabTo k).length = 256 := by simp [tabTo]
theorem tabTo_zero : tabTo 0 = List.replicate 256 0 := by decide +kernel
theorem tabTo_set (k : Nat) : (tabTo k).set k ((itn 8 k : Nat) : Int) = tabTo (k + 1) := by
  apply List.ext_getElem
  · simp [tabTo]
  · intro i h1 h2
    have hi : i < 256 := by simpa [tabTo] using h2
    simp only [tabTo, List.getElem_set, List.getElem_map, List.getElem_range]
    by_cases e : k = i
    · subst e; simp
    · rw [if_neg e]
      by_cases hlt : i < k
      · rw [if_pos hlt, if_pos (by omega)]
      · rw [if_neg hlt, if_neg (by omega)]
theorem tabL_at {k : Nat} (h : k < 256) : tabL.getD k 0 = ((itn 8 k : Nat) : Int) := by
  simp [tabL, tabTo, List.getD, h]

/-- .. as cells. -/
def tabC (k : Nat) : Array Value := (ivs .u32 (tabTo k)).toArray
theorem tabC_size (k : Nat) : (tabC k).size = 256 := by simp [tabC, ivs, tabTo_len]
theorem tabC_set (k : Nat) : (tabC k).setIfInBounds k (.int .u32 ((itn 8 k : Nat) : Int)) = tabC (k + 1) := by
  unfold tabC
  rw [← tabTo_set k, ← ivs_set]
  simp
theorem tabC_at {k i : Nat} (h : i < 256) : (tabC k)[i]? = some (.int .u32 ((tabTo k).getD i 0)) := by
  unfold tabC
  rw [List.getElem?_toArray, ivs_get (by rw [tabTo_len]; exact h)]
theorem tabC_one (k : Nat) : (tabC k).all (·.oneCell') = true := by
  rw [Array.all_eq_true_iff_forall_mem]
  intro u hu
  exact ivs_one .u32 (tabTo k) u (by simpa [tabC] using hu)

theorem Try.infoTab : (Try.prog.info? 37).map (fun i => (i.zero, i.size)) = some (some (.agg (tabC 0)), 256) := by kernel_rfl

/-- A whole table out of a block, and into one. -/
theorem run_load_tab {W : World} {g : Nat} {k : Nat} (h : Blk W g 37 (tabC k)) :
    (Instr.loadAt 37 (.pointer (some ⟨g, 0, none⟩))).run Try.prog W = .ok (.agg (tabC k)) W := by
  simp only [Instr.loadAt, Instr.sureAddr, Sem.run_bind, Sem.run_pure, Result.andThen]
  exact run_loadVar_row _ _ _ _ (tabC k) (0, 0) _ h Try.underlying37 rfl ((zero_of_info Try.infoTab).2.trans (by rw [tabC_size]))
theorem run_loadVar_tab {W : World} {g : Nat} {k : Nat} (h : Blk W g 37 (tabC k)) :
    (loadVar 37 ⟨g, 0, none⟩).run Try.prog W = .ok (.agg (tabC k)) W :=
  run_loadVar_row _ _ _ _ (tabC k) (0, 0) _ h Try.underlying37 rfl ((zero_of_info Try.infoTab).2.trans (by rw [tabC_size]))
theorem run_store_tab {W : World} {g : Nat} {k j : Nat} (h : Blk W g 37 (tabC k)) :
    (Instr.storeAt 37 (.pointer (some ⟨g, 0, none⟩)) (.agg (tabC j))).run Try.prog W = .ok () (W.setRow g (tabC j)) := by
  simp only [Instr.storeAt, Instr.sureAddr, Sem.run_bind, Sem.run_pure, Result.andThen]
  exact run_storeVar_row _ _ _ _ (tabC k) (tabC j) h ((zero_of_info Try.infoTab).2.trans (by rw [tabC_size])) (by rw [tabC_size, tabC_size]) (tabC_one j)
theorem wpList_load_by {P : Program} {ops : Array Oper} {rest : List Oper} {o : Oper} {a : Act} {w : World} {Q : Exit → Act → World → Prop} (hgd : o.guard = none) (x : Operand) (t : TypeId) (ho : o.op = .load t x) (p v : Value) (hx : a.eval x = p)
    (hl : (Instr.loadAt t p).run P w = .ok v w) (h : wpList P ops Q rest (a.put o.dst v) w) : wpList P ops Q (o :: rest) a w := by
  refine wpList_plain hgd fun K hK => ?_
  unfold Oper.wp execOp
  simp only [ho, Sem.run_bind, Sem.run_pure, hx, hl, Result.andThen_ok]
  exact hK _ _ h
theorem wpList_store_by {P : Program} {ops : Array Oper} {rest : List Oper} {o : Oper} {a : Act} {w w' : World} {Q : Exit → Act → World → Prop} (hgd : o.guard = none) (x y : Operand) (t : TypeId) (ho : o.op = .store t x y) (p v : Value) (hx : a.eval x = p) (hy : a.eval y = v)
    (hl : (Instr.storeAt t p v).run P w = .ok () w') (h : wpList P ops Q rest (a.put o.dst undef) w') : wpList P ops Q (o :: rest) a w := by
  refine wpList_plain hgd fun K hK => ?_
  unfold Oper.wp execOp
  simp only [ho, Sem.run_bind, Sem.run_pure, hx, hy, hl, Result.andThen_ok]
  exact hK _ _ h
theorem Blk.setRow {W : World} {g : Nat} {t : TypeId} {cs cs' : Array Value} (h : Blk W g t cs) : Blk (W.setRow g cs') g t cs' := by
  unfold Blk at h ⊢
  simp [World.setRow, Array.getElem?_modify, h]
theorem Kept.setRow {S : Nat → Prop} {a W : World} (h : Kept S a W) {g : Nat} (cs : Array Value) (hg : g < a.heap.size → S g) : Kept S a (W.setRow g cs) :=
  ⟨h.os, h.tape, h.output, by simpa [World.setRow] using h.size, fun i hi hn => by
    have hne : g ≠ i := by rintro rfl; exact hn (hg hi)
    rw [← h.block i hi hn]
    simp [World.setRow, Array.getElem?_modify, hne]⟩

set_option maxHeartbeats 1600000 in
theorem table_any (w : World) : Calls Try.prog 17 #[] w fun e w' => e = .returned (.agg (tabC 256)) ∧ Fresh w w' := by
  obtain ⟨hzero, hsize⟩ := zero_of_info Try.infoTab
  go_enter Try.func17, Try.ntmps17
  go_wp2_with fail
  have h0 := (Blk.new w 37 (tabC 0)).alloc (.cells (tabC 0) 37)
  have h1 := Blk.new (w.alloc (.cells (tabC 0) 37)) 37 (tabC 0)
  have hk : Fresh w ((w.alloc (.cells (tabC 0) 37)).alloc (.cells (tabC 0) 37)) := ((Kept.refl _ _).alloc _).alloc _
  have es : (w.alloc (.cells (tabC 0) 37)).heap.size = w.heap.size + 1 := by simp
  rw [es] at h1
  generalize (w.alloc (.cells (tabC 0) 37)).alloc (.cells (tabC 0) 37) = W0 at *
  have H0 := Lib.hid (And.intro h0 (And.intro h1 hk))
  clear h0 h1 hk es hzero hsize
  go_loopw [3] (fun i wr => ∃ j : Nat, j ≤ 256 ∧ i = .int .i64 j ∧ Blk wr w.heap.size 37 (tabC 0) ∧ Blk wr (w.heap.size + 1) 37 (tabC j) ∧ Fresh w wr) (fun i _ => (256 - intOf i).toNat)
  case atStart => exact ⟨0, by omega, rfl, H0.out⟩
  case round =>
    obtain ⟨j, hj, rfl, hb0, hb1, hk⟩ := hrel
    clear H0
    by_cases hlt : j < 256
    · have hc := hb1.cell j
      rw [tabC_at hlt] at hc
      have hf := hb1.frozen j
      have H := Lib.hid (And.intro hb0 (And.intro hb1 hk))
      clear hb0 hb1 hk
      have hi0 : (0 : Int) ≤ (j : Int) := by omega
      have hi1 : (j : Int) < 256 := by omega
      go_wp2_with (go_at_call 21; refine (halved_any j _ (by omega)).mono ?_; rintro e w' ⟨rfl, rfl⟩)
      go_roundw
      case rel => exact ⟨j + 1, by omega, by go_num, H.out.1.far (by simp) _, by rw [← tabC_set]; exact H.out.2.1.set_ _ _, H.out.2.2.setCell (fun h => by simp at h; omega) _⟩
      case measure => simp [intOf]; omega
    · have hl := run_load_tab hb1
      have hs := run_store_tab (j := j) hb0
      have hb2 := hb0.setRow (cs' := tabC j)
      have hk2 : Fresh w (wr.setRow w.heap.size (tabC j)) := hk.setRow _ (by omega)
      have H := Lib.hid (And.intro hb2 hk2)
      have HL := Lib.hid (And.intro hl hs)
      have hi1 : ¬ (j : Int) < 256 := by omega
      clear hb2 hk2 hb0 hb1 hk hl hs
      generalize wr.setRow w.heap.size (tabC j) = W2 at *
      go_wp2_with (first
        | (refine wpList_load_by rfl (.tmp 1) 37 rfl _ _ rfl HL.out.1 ?_)
        | (refine wpList_store_by rfl (.tmp 0) (.tmp 12) 37 rfl _ _ rfl rfl HL.out.2 ?_))
      have hlv := run_loadVar_tab H.out.1
      obtain rfl : j = 256 := by omega
      refine bodyPost_ret (v := .agg (tabC 256)) ?_ rfl ⟨rfl, H.out.2⟩
      simp only [results, Try.results17, Sem.run_bind, asAddr, Result.andThen]
      simp [hlv]

end Go.Proofs.Ytfaoolkhepihkaa
