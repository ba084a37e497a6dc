/- PictureSays: a file that says its width and height, in digits, with white and remarks between, is read as a picture, as soon as its pixels are there. For all numbers, white and remarks. -/
import Derived.Test.YtlmhodkdcllcjaaPicAw
import Derived.Test.YtlmhodkdcllcjaaPicBm
import Derived.Test.YtlmhodkdcllcjaaPicDi
import Derived.Test.YtlmhodkdcllcjaaAppNew
import Derived.Lib.SlBytesConst
import Derived.ChangeMaps5
namespace Go.Proofs.Ytlmhodkdcllcjaa.pictureSays
open Go.ChangeShapes Go.WideShapes Go.ChangeAt Go.RowKit

attribute [local go_sem ↓] Go.wp_at_zero Go.wp_at_succ

theorem newRow_one (w : World) (e : TypeId) (k : IntKind) (x : Int) : NewRow w (w.alloc (.cells #[.int k x] e)) e k (.slice (some ⟨w.heap.size, 0, none⟩) 1 1) [x] :=
  NewRow.of_base (n := 1) ⟨by simp [ivs], .inr ⟨w.heap.size, 1, _, rfl, Nat.le_refl _, heap_alloc_new w _, Nat.le_refl _, by decide, by simp, by simp [ivs]⟩⟩ rfl ((Kept.refl _ _).alloc _)

theorem row_two (w : World) (T : Obj) (e : TypeId) (k : IntKind) (x : Int) : Row ((w.alloc T).alloc (.cells #[.int k x] e)) k (some ⟨w.heap.size + 1, 0, none⟩) 1 [x] := by
  have h := Row.one (w.alloc T) e k x
  rw [World.size_alloc] at h
  exact h

def Mrk (w : World) (g : Nat) (t : TypeId) (fz : Nat × Nat) (cs : Array Value) : Prop := w.heap[g]? = some (.cells cs t fz)
section
variable {w : World} {g : Nat} {t : TypeId} {fz : Nat × Nat} {cs : Array Value}
theorem Mrk.cell (h : Mrk w g t fz cs) (i : Nat) : w.cell? ⟨g, i, none⟩ = cs[i]? := cell_of_row w g i cs t fz h
theorem Mrk.frozen (h : Mrk w g t fz cs) (i : Nat) : w.frozen? ⟨g, i, none⟩ = (decide (fz.1 ≤ i) && decide (i < fz.2)) := by
  unfold Mrk at h
  simp [World.frozen?, h]
theorem Mrk.lt (h : Mrk w g t fz cs) : g < w.heap.size := by
  rcases Nat.lt_or_ge g w.heap.size with hlt | hge
  · exact hlt
  · unfold Mrk at h; rw [Array.getElem?_eq_none hge] at h; cases h
theorem Mrk.set_ (h : Mrk w g t fz cs) (i : Nat) (u : Value) : Mrk (w.setCell ⟨g, i, none⟩ u) g t fz (cs.setIfInBounds i u) := by
  unfold Mrk at h ⊢
  simp [World.setCell, Array.getElem?_modify, h]
theorem Mrk.far (h : Mrk w g t fz cs) {p : Addr} (hp : g ≠ p.block) (u : Value) : Mrk (w.setCell p u) g t fz cs := (Below.heap_setCell w p u g hp).trans h
theorem Mrk.row {x y : Int} (h : Mrk w g t fz #[.int .u8 x, .int .u8 y]) : Row w .u8 (some ⟨g, 0, none⟩) 2 [x, y] :=
  ⟨rfl, fun j hj => ⟨g, 0, rfl, h.lt, by
    rw [Nat.zero_add, h.cell j]
    rcases (show j = 0 ∨ j = 1 by omega) with rfl | rfl <;> rfl⟩⟩
end
/-- The record, and the first two bytes. -/
def P5W (V : World) (a b : Nat) : World := (V.alloc (.cells #[.int .i64 (a : Nat), .int .i64 (b : Nat), .int .i64 1, .int .i64 0, .int .i64 0] 26)).alloc (.cells #[.int .u8 80, .int .u8 53] 5 (2, 3))
def P6W (V : World) (a b : Nat) : World := ((P5W V a b).setCell ⟨V.heap.size + 1, 1, none⟩ (.int .u8 54)).setCell ⟨V.heap.size, 2, none⟩ (.int .i64 3)
structure PcW (V : World) (s : Int) (pl a b : Nat) (W : World) : Prop where
  blk : Blk W V.heap.size 26 #[.int .i64 (a : Nat), .int .i64 (b : Nat), .int .i64 (pl : Nat), .int .i64 0, .int .i64 0]
  mrk : Mrk W (V.heap.size + 1) 5 (2, 3) #[.int .u8 80, .int .u8 s]
  fr : Fresh V W
theorem p5w (V : World) (a b : Nat) : PcW V 53 1 a b (P5W V a b) := by
  refine ⟨(Blk.new _ _ _).alloc _, ?_, ((Kept.refl _ _).alloc _).alloc _⟩
  have h := heap_alloc_new (V.alloc (.cells #[.int .i64 (a : Nat), .int .i64 (b : Nat), .int .i64 1, .int .i64 0, .int .i64 0] 26)) (.cells #[.int .u8 80, .int .u8 53] 5 (2, 3))
  rw [World.size_alloc] at h
  exact h
theorem p6w (V : World) (a b : Nat) : PcW V 54 3 a b (P6W V a b) := by
  have h := p5w V a b
  refine ⟨?_, ?_, (h.fr.setCell (p := ⟨V.heap.size + 1, 1, none⟩) (fun e => by simp at e; omega) _).setCell (p := ⟨V.heap.size, 2, none⟩) (fun e => absurd e (Nat.lt_irrefl _)) _⟩
  · have := (h.blk.far (p := ⟨V.heap.size + 1, 1, none⟩) (show V.heap.size ≠ V.heap.size + 1 by omega) (.int .u8 54)).set_ 2 (.int .i64 (3 : Nat))
    simpa [P6W] using this
  · have := (h.mrk.set_ 1 (.int .u8 54)).far (p := ⟨V.heap.size, 2, none⟩) (show V.heap.size + 1 ≠ V.heap.size by omega) (.int .i64 3)
    simpa [P6W] using this

set_option maxRecDepth 100000 in
set_option maxHeartbeats 6400000 in
theorem walk (x0 x1 : Int) (colour : Bool) (A3 : Option Addr) (n3 c3 : Nat) (xs3 : List Int) (rm : ByteArray) (x5 : Int) (w : World) (_ : A3 = none → c3 = 0) (hr3 : Row w .u8 A3 n3 xs3) (hb3 : ∀ x ∈ xs3, 0 ≤ x ∧ x < 256) (hn3 : n3 ≤ maxLen) (_ : n3 ≤ c3) (hrm : rm.size ≤ maxLen) :
    Calls Try.prog 5 #[.int .i64 x0, .int .i64 x1, .bool colour, .slice A3 n3 c3, .string rm, .int .i64 x5] w fun e w' => e = .returned (.bool true) ∧ Below w.heap.size w w' := by
  obtain ⟨i0, hi, hz0, hz1, hz2⟩ := info_parts Try.infoByteQ
  obtain ⟨r0, hr0, er0⟩ := u64_mod x0 20 (by omega)
  obtain ⟨r1, hr1, er1⟩ := u64_mod x1 20 (by omega)
  obtain ⟨m, hm, em⟩ := u64_mod x5 3 (by omega)
  obtain ⟨a, ha⟩ : ∃ a, a = 1 + r0 := ⟨_, rfl⟩
  obtain ⟨b, hb⟩ : ∃ b, b = 1 + r1 := ⟨_, rfl⟩
  have ea : (1 : Int) + (r0 : Int) = (a : Int) := by omega
  have eb : (1 : Int) + (r1 : Int) = (b : Int) := by omega
  have a20 : (a : Int) ≤ 20 := by omega
  have b20 : (b : Int) ≤ 20 := by omega
  have HG : Hid (1 ≤ a ∧ 1 ≤ b ∧ a ≤ 20 ∧ b ≤ 20 ∧ m < 3) := Lib.hid (by omega)
  have n3m : (n3 : Int) ≤ 9223372036854775807 := by unfold maxLen at hn3; omega
  have HR3 := Lib.hid (And.intro hr3 hb3)
  have HRM := Lib.hid hrm
  have hone : NewRow w (w.alloc (.cells #[.int .u8 32] 5)) 5 .u8 (.slice (some ⟨w.heap.size, 0, none⟩) 1 1) ([32] ++ []) := newRow_one w 5 .u8 32
  have HO := Lib.hid hone
  have hcv : ∀ V : World, (convert 22 22 (.slice (some ⟨V.heap.size + 1, 0, none⟩) 2 2)).run Try.prog ((V.alloc (.cells #[.int .i64 (a : Nat), .int .i64 (b : Nat), .int .i64 1, .int .i64 0, .int .i64 0] 26)).alloc (.cells #[.int .u8 80, .int .u8 53] 5)) = .ok (.slice (some ⟨V.heap.size + 1, 0, none⟩) 2 2) (P5W V a b) := fun V => by
    have h := Lib.run_convert_bytes_const (P := Try.prog) (V.alloc (.cells #[.int .i64 (a : Nat), .int .i64 (b : Nat), .int .i64 1, .int .i64 0, .int .i64 0] 26)) 22 5 #[.int .u8 80, .int .u8 53] 2 2 Try.underlying22 Try.underlying5
    rw [World.size_alloc] at h
    exact h
  have hq1 : ∀ V : World, (P5W V a b).cell? ⟨V.heap.size + 1, 1, none⟩ = some (.int .u8 53) := fun V => ((p5w V a b).mrk.cell 1).trans rfl
  have hq2 : ∀ V : World, (P5W V a b).frozen? ⟨V.heap.size + 1, 1, none⟩ = false := fun V => ((p5w V a b).mrk.frozen 1).trans rfl
  have hq3 : ∀ V : World, ((P5W V a b).setCell ⟨V.heap.size + 1, 1, none⟩ (.int .u8 54)).cell? ⟨V.heap.size, 2, none⟩ = some (.int .i64 1) := fun V => ((((p5w V a b).blk.far (p := ⟨V.heap.size + 1, 1, none⟩) (show V.heap.size ≠ V.heap.size + 1 by omega) (.int .u8 54))).cell 2).trans rfl
  have hq4 : ∀ V : World, ((P5W V a b).setCell ⟨V.heap.size + 1, 1, none⟩ (.int .u8 54)).frozen? ⟨V.heap.size, 2, none⟩ = false := fun V => (((p5w V a b).blk.far (p := ⟨V.heap.size + 1, 1, none⟩) (show V.heap.size ≠ V.heap.size + 1 by omega) (.int .u8 54))).frozen 2
  clear ha hb hr0 hr1 hr3 hb3 hrm hone hn3
  go_enter Try.func5, Try.ntmps5
  go_wp2_with fail
  go_loopw [13, 14] (fun v iv wr => ∃ (k : Nat) (ws : List Int), k ≤ n3 ∧ k ≤ 6 ∧ iv = .int .i64 (k : Int) ∧ ws.length = k ∧ (∀ c ∈ ws, blk c) ∧ NewRow w wr 5 .u8 v ([32] ++ ws)) (fun _ iv _ => (6 - intOf iv).toNat)
  case atStart => exact ⟨0, [], by omega, by omega, rfl, rfl, fun c hc => (by cases hc), HO.out⟩
  case round =>
    obtain ⟨k, ws, hk3, hk6, rfl, hws, hbl, hN⟩ := hrel
    have HN := Lib.hid (And.intro hN (And.intro hws hbl))
    clear hN hws hbl
    by_cases h6 : k < n3 ∧ k < 6
    · obtain ⟨b3, o3, rfl, hb3', hc3⟩ := HR3.out.1.at_ k h6.1
      have hx := HR3.out.2 _ (getD_mem (xs := xs3) (k := k) (by rw [HR3.out.1.len]; exact h6.1))
      have c3' := (HN.out.1.2.2.cell (p := ⟨b3, o3 + k, none⟩) hb3' (fun e => e)).trans hc3
      have hlt3 := Nat.lt_of_lt_of_le hb3' HN.out.1.2.2.size
      generalize xs3.getD k 0 = x at *
      have k1 : (k : Int) < (n3 : Int) := by omega
      have k2 : (k : Int) < 6 := by omega
      have Hk := Lib.hid h6
      clear hc3 hb3' h6 hk3 hk6 n3m
      have hcs : x % 4 = 0 ∨ x % 4 = 1 ∨ x % 4 = 2 ∨ x % 4 = 3 := by omega
      rcases hcs with e | e | e | e
      all_goals
        have et : x.tmod 4 = x % 4 := Int.tmod_eq_emod_of_nonneg hx.1
        rw [e] at et
        go_wp2_with (at_builtin; refine wpList_new _ w rfl _ _ 22 rfl 5 i0 .u8 1 Try.underlying22 hi hz0 hz1 hz2 _ ([32] ++ ws) rfl (HN.out.1.fresh (((Kept.refl _ _).alloc _).alloc _)) _ 1 1 [_] rfl (row_two _ _ _ _ _) (by unfold maxLen; have h1 := HN.out.2.1; have h2 := Hk.out; simp; omega) (by have h1 := HN.out.2.1; have h2 := Hk.out; simp; omega) ?_; intro v9 X9 N9)
        have H9 := Lib.hid N9
        clear N9
        go_roundw
        case rel =>
          refine ⟨k + 1, ws ++ [_], by have := Hk.out; omega, by have := Hk.out; omega, by go_num, by rw [List.length_append, HN.out.2.1]; rfl, fun c hc => ?_, by rw [← List.append_assoc]; exact H9.out⟩
          rcases List.mem_append.1 hc with h | h
          · exact HN.out.2.2 c h
          · rw [List.mem_singleton] at h
            rw [h]
            decide
        case measure => have := Hk.out; simp [intOf]; omega
    · have hend : ¬ (k : Int) < (n3 : Int) ∨ ((k : Int) < (n3 : Int) ∧ ¬ (k : Int) < 6) := by omega
      have Hk := Lib.hid (And.intro hk3 hk6)
      have HG1 := Lib.hid (And.intro HN.out.1 (And.intro HN.out.2.2 (show ws.length ≤ 6 by rw [HN.out.2.1]; exact hk6)))
      clear h6 hk3 hk6 HO HR3
      by_cases hl5 : 50 < rm.size
      · have l5 : (50 : Int) < (rm.size : Int) := by omega
        rcases hend with e1 | ⟨e1, e2⟩
        all_goals
          go_wp2_with fail
          refine (awakeP_any _).mono ?_
          rintro e wz ⟨rfl, hf⟩
          have HE := Lib.hid ((HG1.out.1.2.2.trans hf fun _ _ e => e).toBelow)
          clear hf
          go_wp2_with fail
          go_ret
          exact ⟨rfl, HE.out⟩
      · have l5 : ¬ (50 : Int) < (rm.size : Int) := by omega
        have hl5' : rm.size ≤ 50 := by omega
        rcases hend with e1 | ⟨e1, e2⟩
        · go_wp2_with (at_builtin; refine wpList_new _ w rfl _ _ 22 rfl 5 i0 .u8 1 Try.underlying22 hi hz0 hz1 hz2 _ ([32] ++ ws) rfl (HG1.out.1.fresh ((Kept.refl _ _).alloc _)) _ 1 1 [_] rfl (Row.one _ _ _ _) (by unfold maxLen; have h1 := HG1.out.2.2; simp; omega) (by have h1 := HG1.out.2.2; simp; omega) ?_; intro v1 X1 N1)
          have HN1 := Lib.hid N1
          clear N1
          go_loopw [13, 15] (fun v iv wr => ∃ (k : Nat) (rs : List Int), k ≤ rm.size ∧ iv = .int .i64 (k : Int) ∧ rs.length ≤ k ∧ (∀ c ∈ rs, c ≠ 10) ∧ (∀ c ∈ rs, 0 ≤ c ∧ c < 256) ∧ NewRow w wr 5 .u8 v (([32] ++ ws) ++ [35] ++ rs)) (fun _ iv _ => (rm.size - intOf iv).toNat)
          case atStart => exact ⟨0, [], by omega, rfl, by simp, (fun c hc => by cases hc), (fun c hc => by cases hc), by rw [List.append_nil]; exact HN1.out⟩
          case round =>
            obtain ⟨j, rs, hj, rfl, hrs, hr10, hr8, hN⟩ := hrel
            have HN := Lib.hid (And.intro hN (And.intro hrs (And.intro hr10 hr8)))
            clear hN hrs hr10 hr8
            by_cases hjl : j < rm.size
            · have j1 : (j : Int) < (rm.size : Int) := by omega
              obtain ⟨y, hy⟩ : ∃ y : Int, ((rm[j]'hjl).toNat : Int) = y := ⟨_, rfl⟩
              have hy8 : 0 ≤ y ∧ y < 256 := by rw [← hy]; have := (rm[j]'hjl).toNat_lt; omega
              have Hj := Lib.hid (And.intro hjl hl5')
              clear hj hl5'
              by_cases hy10 : y = 10
              · have b10 : (y != 10) = false := by simp [hy10]
                clear hy10
                go_wp2_with fail
                go_roundw
                case rel => exact ⟨j + 1, rs, by have := Hj.out; omega, by go_num, by have := HN.out.2.1; omega, HN.out.2.2.1, HN.out.2.2.2, HN.out.1⟩
                case measure => have := Hj.out; simp [intOf]; omega
              · have b10 : (y != 10) = true := by simp [hy10]
                have Hy := Lib.hid (And.intro hy10 hy8)
                clear hy10
                go_wp2_with (at_builtin; refine wpList_new _ w rfl _ _ 22 rfl 5 i0 .u8 1 Try.underlying22 hi hz0 hz1 hz2 _ (([32] ++ ws) ++ [35] ++ rs) rfl (HN.out.1.fresh ((Kept.refl _ _).alloc _)) _ 1 1 [_] rfl (Row.one _ _ _ _) (by unfold maxLen; have h1 := HG1.out.2.2; have h2 := HN.out.2.1; have h3 := Hj.out; simp; omega) (by have h1 := HG1.out.2.2; have h2 := HN.out.2.1; have h3 := Hj.out; simp; omega) ?_; intro v2 X2 N2)
                have H2 := Lib.hid N2
                clear N2
                go_roundw
                case rel =>
                  refine ⟨j + 1, rs ++ [y], by have := Hj.out; omega, by go_num, by rw [List.length_append]; have := HN.out.2.1; simp; omega, fun c hc => ?_, fun c hc => ?_, by rw [← List.append_assoc]; exact H2.out⟩
                  · rcases List.mem_append.1 hc with h | h
                    · exact HN.out.2.2.1 c h
                    · rw [List.mem_singleton] at h
                      rw [h]
                      exact Hy.out.1
                  · rcases List.mem_append.1 hc with h | h
                    · exact HN.out.2.2.2 c h
                    · rw [List.mem_singleton] at h
                      rw [h]
                      exact Hy.out.2
                case measure => have := Hj.out; simp [intOf]; omega
            · obtain rfl : j = rm.size := by omega
              have j1 : ¬ (rm.size : Int) < (rm.size : Int) := by omega
              have HM : Hid (rs.length ≤ 50 ∧ ws.length ≤ 6) := Lib.hid ⟨by have := HN.out.2.1; omega, HG1.out.2.2⟩
              clear hjl hj hl5' HN1
              cases colour with
              | true =>
                go_wp2_with (first
                  | (at_builtin; refine wpList_new _ w rfl _ _ 22 rfl 5 i0 .u8 1 Try.underlying22 hi hz0 hz1 hz2 _ (([32] ++ ws) ++ [35] ++ rs) rfl (HN.out.1.fresh ((Kept.refl _ _).alloc _)) _ 1 1 [_] rfl (Row.one _ _ _ _) (by unfold maxLen; have h1 := HM.out; simp; omega) (by have h1 := HM.out; simp; omega) ?_
                     intro v3 X3 N3
                     obtain ⟨gl, hgl⟩ : ∃ gl, gl = ([32] ++ ws) ++ [35] ++ rs ++ [10] := ⟨_, rfl⟩
                     rw [← hgl] at N3
                     have hgp : gapL gl := ⟨[32] ++ ws, rs, fun c hc => by
                       rcases List.mem_append.1 hc with h | h
                       · rw [List.mem_singleton] at h; rw [h]; decide
                       · exact HG1.out.2.1 c h, by simp, HN.out.2.2.1, .inr (by rw [hgl]; simp)⟩
                     have hg8 : ∀ c ∈ gl, 0 ≤ c ∧ c < 256 := fun c hc => by
                       rw [hgl] at hc
                       simp only [List.mem_append, List.mem_singleton] at hc
                       rcases hc with (((h | h) | h) | h) | h
                       · omega
                       · have := HG1.out.2.1 c h; unfold blk at this; omega
                       · omega
                       · exact HN.out.2.2.2 c h
                       · omega
                     have hgz : gl.length ≤ 59 := by rw [hgl]; have h1 := HM.out; simp; omega
                     obtain ⟨Ag, cg, e3, hg3, _⟩ := N3.1.row
                     obtain ⟨ng, hng⟩ : ∃ ng, ng = gl.length := ⟨_, rfl⟩
                     rw [← hng] at e3 hg3
                     subst e3
                     have HGL := Lib.hid (And.intro hgp (And.intro hg8 (And.intro hgz (And.intro hng hg3))))
                     have HX3 := Lib.hid N3.2.2
                     clear hgl hgp hg8 hgz hng hg3 N3)
                  | (at_builtin; refine wpList_new_full _ (P6W X3 a b) (Kept.refl _ _) rfl _ _ 22 rfl 5 i0 .u8 1 Try.underlying22 hi hz0 hz1 hz2 ⟨X3.heap.size + 1, 0, none⟩ 2 [80, 54] rfl (p6w X3 a b).mrk.row Ag ng cg gl rfl (HGL.out.2.2.2.2.kept (p6w X3 a b).fr (fun _ _ _ _ => id)) (by rw [HGL.out.2.2.2.1]; obtain ⟨c, r, e, _⟩ := gap_head HGL.out.1; rw [e]; simp) (by unfold maxLen; rw [HGL.out.2.2.2.1]; have := HGL.out.2.2.1; omega) (by rw [HGL.out.2.2.2.1]; have := HGL.out.2.2.1; omega) ?_; intro v4 X4 N4))
                have H4 := Lib.hid N4
                clear N4 hcv hq1 hq2 hq3 hq4
                refine (hDigits_any a X4 (by have := HG.out; omega)).mono ?_
                rintro e V5 ⟨rfl, hf5⟩
                have H5 := Lib.hid (H4.out.fresh hf5)
                have ZA := dgL_ok (v := a) (by have := HG.out; omega)
                have ZB := dgL_ok (v := b) (by have := HG.out; omega)
                have HZ := Lib.hid (And.intro ZA ZB)
                have z5 : Hid ((dgL a).length ≤ 5 ∧ (dgL b).length ≤ 5) := Lib.hid ⟨ZA.2.2.1, ZB.2.2.1⟩
                have HDA := Lib.hid (strCells_of (xs := dgL a) fun c hc => by have h1 := ZA.1 c hc; unfold dgt at h1; omega)
                have HDB := Lib.hid (strCells_of (xs := dgL b) fun c hc => by have h1 := ZB.1 c hc; unfold dgt at h1; omega)
                clear hf5 ZA ZB
                generalize strOfNums (dgL a) = sa at *
                generalize strOfNums (dgL b) = sb2 at *
                generalize hla : dgL a = la at *
                generalize hlb : dgL b = lb at *
                have HLL := Lib.hid (And.intro hla hlb)
                clear hla hlb
                obtain ⟨st, hst⟩ : ∃ st, st = a * 3 := ⟨_, rfl⟩
                have est : (a : Int) * 3 = (st : Int) := by omega
                have st6 : (st : Int) ≤ 60 := by omega
                have HST : Hid (st = a * 3) := Lib.hid hst
                clear hst
                obtain ⟨sb, hsb⟩ : ∃ sb, sb = st * b := ⟨_, rfl⟩
                have esb : (st : Int) * (b : Int) = (sb : Int) := by rw [hsb]; simp
                have hsb2 : sb ≤ 1200 := by rw [hsb]; exact Nat.mul_le_mul (show st ≤ 60 by have := HG.out; omega) HG.out.2.2.2.1
                obtain ⟨nn, hnn⟩ : ∃ nn : Int, nn = (sb : Int) - (m : Int) := ⟨_, rfl⟩
                have enn : (sb : Int) - (m : Int) = nn := hnn.symm
                have nn1 : -3 ≤ nn := by have := HG.out; omega
                have nn2 : nn ≤ 1200 := by omega
                have sb3 : (sb : Int) ≤ 1200 := by omega
                have HSB2 := Lib.hid (And.intro hsb (And.intro hnn hsb2))
                clear hsb hnn hsb2
                have KG : Hid (∀ V, Fresh (P6W X3 a b) V → Row V .u8 Ag ng gl) := Lib.hid fun V hV => (HGL.out.2.2.2.2.kept (p6w X3 a b).fr (fun _ _ _ _ => id)).kept hV (fun _ _ _ _ => id)
                go_wp2_with (first
                  | (at_builtin; refine wpList_new_str _ (P6W X3 a b) rfl _ _ 22 9 rfl 5 i0 Try.underlying22 Try.underlying9 hi hz0 hz1 hz2 _ ([80, 54] ++ gl) rfl H5.out sa la rfl HDA.out (by unfold maxLen; have h1 := HGL.out.2.2.1; have h2 := z5.out; simp; omega) (by have h1 := HGL.out.2.2.1; have h2 := z5.out; simp; omega) ?_; intro v5 X5 N5)
                  | (at_builtin; refine wpList_new _ (P6W X3 a b) rfl _ _ 22 rfl 5 i0 .u8 1 Try.underlying22 hi hz0 hz1 hz2 _ ([80, 54] ++ gl ++ la) rfl N5 Ag ng cg gl rfl (KG.out _ N5.2.2) (by unfold maxLen; rw [HGL.out.2.2.2.1]; have h1 := HGL.out.2.2.1; have h2 := z5.out; simp; omega) (by rw [HGL.out.2.2.2.1]; have h1 := HGL.out.2.2.1; have h2 := z5.out; simp; omega) ?_; intro v6 X6 N6; clear N5))
                have H6 := Lib.hid N6
                clear N6
                refine (hDigits_any b X6 (by have := HG.out; omega)).mono ?_
                rintro e V7 ⟨rfl, hf7⟩
                rw [HLL.out.2]
                have HSB : Hid (Lib.strCells (strOfNums lb) = ivs .u8 lb) := Lib.hid (strCells_of fun c hc => by have h1 := HZ.out.2.1 c hc; unfold dgt at h1; omega)
                generalize strOfNums lb = sb3 at *
                have H7 := Lib.hid (H6.out.fresh hf7)
                clear hf7
                go_wp2_with (first
                  | (at_builtin; refine wpList_new_str _ (P6W X3 a b) rfl _ _ 22 9 rfl 5 i0 Try.underlying22 Try.underlying9 hi hz0 hz1 hz2 _ ([80, 54] ++ gl ++ la ++ gl) rfl H7.out sb3 lb rfl HSB.out (by unfold maxLen; have h1 := HGL.out.2.2.1; have h2 := z5.out; simp; omega) (by have h1 := HGL.out.2.2.1; have h2 := z5.out; simp; omega) ?_; intro v8 X8 N8)
                  | (at_builtin; refine wpList_new _ (P6W X3 a b) rfl _ _ 22 rfl 5 i0 .u8 1 Try.underlying22 hi hz0 hz1 hz2 _ ([80, 54] ++ gl ++ la ++ gl ++ lb) rfl N8 Ag ng cg gl rfl (KG.out _ N8.2.2) (by unfold maxLen; rw [HGL.out.2.2.2.1]; have h1 := HGL.out.2.2.1; have h2 := z5.out; simp; omega) (by rw [HGL.out.2.2.2.1]; have h1 := HGL.out.2.2.1; have h2 := z5.out; simp; omega) ?_; intro v9 X9 N9; clear N8)
                  | (at_builtin; refine wpList_new_str _ (P6W X3 a b) rfl _ _ 22 9 rfl 5 i0 Try.underlying22 Try.underlying9 hi hz0 hz1 hz2 _ ([80, 54] ++ gl ++ la ++ gl ++ lb ++ gl) rfl N9 _ [50, 53, 53, 32] rfl rfl (by unfold maxLen; have h1 := HGL.out.2.2.1; have h2 := z5.out; simp; omega) (by have h1 := HGL.out.2.2.1; have h2 := z5.out; simp; omega) ?_
                     intro v10 X10 N10
                     obtain ⟨Lx, hLx⟩ : ∃ Lx, Lx = [80, 54] ++ gl ++ la ++ gl ++ lb ++ gl ++ [50, 53, 53, 32] := ⟨_, rfl⟩
                     rw [← hLx] at N10
                     have hsay : Lx = sayH 54 gl la lb := by rw [hLx]; unfold sayH; simp only [List.append_assoc]
                     obtain ⟨f, hff⟩ : ∃ f, f = Lx.length := ⟨_, rfl⟩
                     have hf200 : f ≤ 200 := by rw [hff, hsay, sayH_len]; have h1 := HGL.out.2.2.1; have h2 := z5.out; omega
                     obtain ⟨A10, c10, e10, _, _⟩ := N10.1.row
                     rw [← hff] at e10
                     subst e10
                     have b10 := (p6w X3 a b).blk.kept N10.2.2 id
                     have p2 : X10.cell? ⟨X3.heap.size, 2, none⟩ = some (.int .i64 3) := (b10.cell 2).trans rfl
                     have p3 : X10.cell? ⟨X3.heap.size, 3, none⟩ = some (.int .i64 0) := (b10.cell 3).trans rfl
                     have p4 : X10.cell? ⟨X3.heap.size, 4, none⟩ = some (.int .i64 0) := (b10.cell 4).trans rfl
                     have p3f : X10.frozen? ⟨X3.heap.size, 3, none⟩ = false := b10.frozen 3
                     have p4f : X10.frozen? ⟨X3.heap.size, 4, none⟩ = false := b10.frozen 4
                     have HLx := Lib.hid (And.intro hsay (And.intro hff hf200))
                     have H10 := Lib.hid (And.intro N10 b10)
                     clear hsay hff hf200 hLx N10 b10 N9))
                have HW : Hid (NewRow w ((X10.setCell ⟨X3.heap.size, 3, none⟩ (.int .i64 (st : Nat))).setCell ⟨X3.heap.size, 4, none⟩ (.int .i64 (f : Nat))) 5 .u8 (.slice A10 f c10) Lx ∧ Blk ((X10.setCell ⟨X3.heap.size, 3, none⟩ (.int .i64 (st : Nat))).setCell ⟨X3.heap.size, 4, none⟩ (.int .i64 (f : Nat))) X3.heap.size 26 #[.int .i64 (a : Nat), .int .i64 (b : Nat), .int .i64 3, .int .i64 (st : Nat), .int .i64 (f : Nat)]) := Lib.hid (by
                  have hb := H10.out.2
                  have hne : (Value.slice A10 f c10).ownBlock ≠ some X3.heap.size := H10.out.1.1.ne_blk hb (by decide)
                  have hfw : Fresh w (P6W X3 a b) := HX3.out.trans (p6w X3 a b).fr fun _ _ e => e
                  have hfx : Fresh w X10 := hfw.trans H10.out.1.2.2 fun _ _ e => e
                  have hsz : w.heap.size ≤ X3.heap.size := HX3.out.size
                  refine ⟨⟨(H10.out.1.1.setFar (p := ⟨X3.heap.size, 3, none⟩) hne _).setFar (p := ⟨X3.heap.size, 4, none⟩) hne _, fun g e => Nat.le_trans hfw.size (H10.out.1.2.1 g e), (hfx.setCell (p := ⟨X3.heap.size, 3, none⟩) (fun e => by simp at e; omega) _).setCell (p := ⟨X3.heap.size, 4, none⟩) (fun e => by simp at e; omega) _⟩, ?_⟩
                  have := (hb.set_ 3 (.int .i64 (st : Nat))).set_ 4 (.int .i64 (f : Nat))
                  simpa using this)
                clear p2 p3 p4 p3f p4f
                generalize ((X10.setCell ⟨X3.heap.size, 3, none⟩ (.int .i64 (st : Nat))).setCell ⟨X3.heap.size, 4, none⟩ (.int .i64 (f : Nat))) = W10 at *
                go_loopw [17, 19] (fun v iv wq => ∃ k : Nat, k ≤ nn.toNat ∧ iv = .int .i64 (k : Int) ∧ NewRow w wq 5 .u8 v (Lx ++ pxs k) ∧ Blk wq X3.heap.size 26 #[.int .i64 (a : Nat), .int .i64 (b : Nat), .int .i64 3, .int .i64 (st : Nat), .int .i64 (f : Nat)]) (fun _ iv _ => (nn - intOf iv).toNat)
                case atStart => exact ⟨0, by omega, rfl, by rw [show pxs 0 = [] from rfl, List.append_nil]; exact HW.out.1, HW.out.2⟩
                case round =>
                  obtain ⟨kk, hkk, rfl, hN, hB⟩ := hrel
                  have HQ := Lib.hid (And.intro hN hB)
                  clear hN hB
                  by_cases hlt : (kk : Int) < nn
                  · obtain ⟨y, hy⟩ : ∃ y : Int, y = ((kk % 256 : Nat) : Int) := ⟨_, rfl⟩
                    have k3 : (kk : Int) % 256 = y := by omega
                    have Hy := Lib.hid hy
                    clear hy
                    have l7 : Hid ((Lx ++ pxs kk).length ≤ 2000) := Lib.hid (by rw [List.length_append, pxs_len]; have h1 := HLx.out.2; omega)
                    go_wp2_with (at_builtin; refine wpList_app _ rfl _ _ 22 rfl 5 i0 .u8 1 Try.underlying22 hi hz0 hz1 hz2 _ (Lx ++ pxs kk) rfl (HQ.out.1.1.alloc _) _ 1 1 [_] rfl (Row.one _ _ _ _) (by unfold maxLen; have := l7.out; omega) (by have := l7.out; omega) ?_; intro v9 X9 ho9 hg9 hat9)
                    have H9 := Lib.hid (And.intro ((HQ.out.1.fresh ((Kept.refl _ _).alloc _)).app ho9 hg9 hat9) ((HQ.out.2.alloc _).grown hg9 (fun e => HQ.out.1.1.ne_blk HQ.out.2 (by decide) e.symm)))
                    clear ho9 hg9 hat9
                    go_roundw
                    case rel => exact ⟨kk + 1, by omega, by go_num, by rw [pxs_succ, ← List.append_assoc, ← Hy.out]; exact H9.out.1, H9.out.2⟩
                    case measure => simp [intOf]; omega
                  · have hkn : kk = nn.toNat := by omega
                    obtain ⟨lb2, hlb2⟩ : ∃ lb2, lb2 = (Lx ++ pxs kk).length := ⟨_, rfl⟩
                    have hlb3 : lb2 = f + kk := by rw [hlb2, List.length_append, pxs_len, ← HLx.out.2.1]
                    obtain ⟨Av, cv, rfl, hrow, _⟩ := HQ.out.1.1.row
                    have hpic := say_pnm (s := 54) (g := gl) (da := la) (db := lb) (px := pxs kk) (a := a) (b := b) (by decide) HGL.out.1 HZ.out.1.1 HZ.out.1.2.1 z5.out.1 HZ.out.1.2.2.2 HZ.out.2.1 HZ.out.2.2.1 z5.out.2 HZ.out.2.2.2.2
                    rw [← HLx.out.1, ← hlb2, ← HLx.out.2.1, if_pos rfl] at hpic
                    have hby : ∀ c ∈ Lx ++ pxs kk, 0 ≤ c ∧ c < 256 := by
                      rw [HLx.out.1]
                      intro c hc
                      unfold sayH at hc
                      simp only [List.mem_append, List.mem_cons, List.not_mem_nil, or_false] at hc
                      have hd : ∀ (v : Nat), v < 100 → ∀ d ∈ dgL v, 0 ≤ d ∧ d < 256 := fun v hv d hdd => by have h1 := (dgL_ok hv).1 d hdd; unfold dgt at h1; omega
                      have hA := hd a (by have := HG.out; omega)
                      have hB := hd b (by have := HG.out; omega)
                      rw [HLL.out.1] at hA
                      rw [HLL.out.2] at hB
                      rcases hc with (h | h | h | h | h | h | h) | h
                      · omega
                      · exact HGL.out.2.1 c h
                      · exact hA c h
                      · exact HGL.out.2.1 c h
                      · exact hB c h
                      · exact HGL.out.2.1 c h
                      · omega
                      · exact pxs_byte _ c h
                    have HB := cPnm_any Av lb2 cv (Lx ++ pxs kk) wr (by rw [hlb2]; exact hrow) hby (by have := HLx.out.2; omega)
                    rw [hpic] at HB
                    rw [← hlb2]
                    have HB := Lib.hid HB
                    have b0 := HQ.out.2
                    have HF1 : Hid (Fresh w wr) := Lib.hid HQ.out.1.2.2
                    have HBP := Lib.hid b0
                    clear b0
                    by_cases hm0 : m = 0
                    · have hfit : fitP a b ((a * 3 : Nat) : Int) f lb2 := by
                        have h1 := HG.out
                        have h2 := HSB2.out
                        refine ⟨by omega, by omega, by omega, by omega, by omega, ?_⟩
                        have h3 : ((a * 3 : Nat) : Int) * (b : Int) = (sb : Int) := by rw [← esb]; rw [HST.out]
                        rw [h3]
                        omega
                      rw [show pnmR a b 3 f lb2 = some (a, b, 3, st, f) from by unfold pnmR; rw [if_pos hfit]; rw [HST.out]] at HB
                      simp only [pval, Option.isSome_some] at HB
                      have q1 : ¬ nn < (sb : Int) := by have := HSB2.out; omega
                      clear hlb2 hlb3 hrow hby hpic hfit hm0 hkk hkn
                      go_wp2_with fail
                      refine HB.out.mono ?_
                      rintro e V1 ⟨rfl, hg1⟩
                      have b3 := (HBP.out.kept hg1 id).alloc (.cells #[.int .i64 (a : Nat), .int .i64 (b : Nat), .int .i64 3, .int .i64 (st : Nat), .int .i64 (f : Nat)] 26)
                      have c3 : (V1.alloc (.cells #[.int .i64 (a : Nat), .int .i64 (b : Nat), .int .i64 3, .int .i64 (st : Nat), .int .i64 (f : Nat)] 26)).cell? ⟨X3.heap.size, 3, none⟩ = some (.int .i64 (st : Nat)) := (b3.cell 3).trans rfl
                      have HV1 := Lib.hid (And.intro b3 (And.intro (Blk.new V1 26 #[.int .i64 (a : Nat), .int .i64 (b : Nat), .int .i64 3, .int .i64 (st : Nat), .int .i64 (f : Nat)]) ((HF1.out.trans hg1 fun _ _ e => e).alloc (.cells #[.int .i64 (a : Nat), .int .i64 (b : Nat), .int .i64 3, .int .i64 (st : Nat), .int .i64 (f : Nat)] 26))))
                      clear b3 hg1 HB
                      go_wp2_with fail
                      refine (awakeP_any _).mono ?_
                      rintro e V2 ⟨rfl, hg2⟩
                      have b4 := HV1.out.1.kept hg2 id
                      have b5 := HV1.out.2.1.kept hg2 id
                      have d0 : V2.cell? ⟨X3.heap.size, 0, none⟩ = some (.int .i64 (a : Nat)) := (b4.cell 0).trans rfl
                      have d1 : V2.cell? ⟨X3.heap.size, 1, none⟩ = some (.int .i64 (b : Nat)) := (b4.cell 1).trans rfl
                      have d2 : V2.cell? ⟨X3.heap.size, 2, none⟩ = some (.int .i64 3) := (b4.cell 2).trans rfl
                      have d3 : V2.cell? ⟨X3.heap.size, 3, none⟩ = some (.int .i64 (st : Nat)) := (b4.cell 3).trans rfl
                      have d4 : V2.cell? ⟨X3.heap.size, 4, none⟩ = some (.int .i64 (f : Nat)) := (b4.cell 4).trans rfl
                      have e0 : V2.cell? ⟨V1.heap.size, 0, none⟩ = some (.int .i64 (a : Nat)) := (b5.cell 0).trans rfl
                      have e1 : V2.cell? ⟨V1.heap.size, 1, none⟩ = some (.int .i64 (b : Nat)) := (b5.cell 1).trans rfl
                      have e2 : V2.cell? ⟨V1.heap.size, 2, none⟩ = some (.int .i64 3) := (b5.cell 2).trans rfl
                      have e3 : V2.cell? ⟨V1.heap.size, 3, none⟩ = some (.int .i64 (st : Nat)) := (b5.cell 3).trans rfl
                      have e4 : V2.cell? ⟨V1.heap.size, 4, none⟩ = some (.int .i64 (f : Nat)) := (b5.cell 4).trans rfl
                      have HE := Lib.hid ((HV1.out.2.2.trans hg2 fun _ _ e => e).toBelow)
                      clear b4 b5 hg2 HV1 c3
                      go_wp2_with fail
                      go_ret
                      exact ⟨rfl, HE.out⟩
                    · have hfit : ¬ fitP a b ((a * 3 : Nat) : Int) f lb2 := by
                        have h1 := HG.out
                        have h2 := HSB2.out
                        rintro ⟨_, _, _, _, _, h3⟩
                        have h4 : ((a * 3 : Nat) : Int) * (b : Int) = (sb : Int) := by rw [← esb]; rw [HST.out]
                        rw [h4] at h3
                        have h5 : 1 ≤ sb := by rw [h2.1]; exact Nat.le_trans (show 1 ≤ st by omega) (Nat.le_mul_of_pos_right _ h1.2.1)
                        omega
                      rw [show pnmR a b 3 f lb2 = none from if_neg hfit] at HB
                      simp only [pval, Option.isSome_none] at HB
                      have q1 : nn < (sb : Int) := by have := HSB2.out; omega
                      clear hlb2 hlb3 hrow hby hpic hfit hm0 hkk hkn
                      go_wp2_with fail
                      refine HB.out.mono ?_
                      rintro e V1 ⟨rfl, hg1⟩
                      have b3 := (HBP.out.kept hg1 id).alloc (.cells #[.int .i64 0, .int .i64 0, .int .i64 0, .int .i64 0, .int .i64 0] 26)
                      have c3 : (V1.alloc (.cells #[.int .i64 0, .int .i64 0, .int .i64 0, .int .i64 0, .int .i64 0] 26)).cell? ⟨X3.heap.size, 3, none⟩ = some (.int .i64 (st : Nat)) := (b3.cell 3).trans rfl
                      have HV1 := Lib.hid (And.intro (Blk.new V1 26 #[.int .i64 0, .int .i64 0, .int .i64 0, .int .i64 0, .int .i64 0]) ((HF1.out.trans hg1 fun _ _ e => e).alloc (.cells #[.int .i64 0, .int .i64 0, .int .i64 0, .int .i64 0, .int .i64 0] 26)))
                      clear b3 hg1 HB
                      go_wp2_with fail
                      refine (awakeP_any _).mono ?_
                      rintro e V2 ⟨rfl, hg2⟩
                      have b5 := HV1.out.1.kept hg2 id
                      have e0 : V2.cell? ⟨V1.heap.size, 0, none⟩ = some (.int .i64 0) := (b5.cell 0).trans rfl
                      have e1 : V2.cell? ⟨V1.heap.size, 1, none⟩ = some (.int .i64 0) := (b5.cell 1).trans rfl
                      have e2 : V2.cell? ⟨V1.heap.size, 2, none⟩ = some (.int .i64 0) := (b5.cell 2).trans rfl
                      have e3 : V2.cell? ⟨V1.heap.size, 3, none⟩ = some (.int .i64 0) := (b5.cell 3).trans rfl
                      have e4 : V2.cell? ⟨V1.heap.size, 4, none⟩ = some (.int .i64 0) := (b5.cell 4).trans rfl
                      have HE := Lib.hid ((HV1.out.2.trans hg2 fun _ _ e => e).toBelow)
                      clear b5 hg2 HV1 c3
                      go_wp2_with fail
                      go_ret
                      exact ⟨rfl, HE.out⟩
              | false =>
                go_wp2_with (first
                  | (at_builtin; refine wpList_new _ w rfl _ _ 22 rfl 5 i0 .u8 1 Try.underlying22 hi hz0 hz1 hz2 _ (([32] ++ ws) ++ [35] ++ rs) rfl (HN.out.1.fresh ((Kept.refl _ _).alloc _)) _ 1 1 [_] rfl (Row.one _ _ _ _) (by unfold maxLen; have h1 := HM.out; simp; omega) (by have h1 := HM.out; simp; omega) ?_
                     intro v3 X3 N3
                     obtain ⟨gl, hgl⟩ : ∃ gl, gl = ([32] ++ ws) ++ [35] ++ rs ++ [10] := ⟨_, rfl⟩
                     rw [← hgl] at N3
                     have hgp : gapL gl := ⟨[32] ++ ws, rs, fun c hc => by
                       rcases List.mem_append.1 hc with h | h
                       · rw [List.mem_singleton] at h; rw [h]; decide
                       · exact HG1.out.2.1 c h, by simp, HN.out.2.2.1, .inr (by rw [hgl]; simp)⟩
                     have hg8 : ∀ c ∈ gl, 0 ≤ c ∧ c < 256 := fun c hc => by
                       rw [hgl] at hc
                       simp only [List.mem_append, List.mem_singleton] at hc
                       rcases hc with (((h | h) | h) | h) | h
                       · omega
                       · have := HG1.out.2.1 c h; unfold blk at this; omega
                       · omega
                       · exact HN.out.2.2.2 c h
                       · omega
                     have hgz : gl.length ≤ 59 := by rw [hgl]; have h1 := HM.out; simp; omega
                     obtain ⟨Ag, cg, e3, hg3, _⟩ := N3.1.row
                     obtain ⟨ng, hng⟩ : ∃ ng, ng = gl.length := ⟨_, rfl⟩
                     rw [← hng] at e3 hg3
                     subst e3
                     have HGL := Lib.hid (And.intro hgp (And.intro hg8 (And.intro hgz (And.intro hng hg3))))
                     have HX3 := Lib.hid N3.2.2
                     clear hgl hgp hg8 hgz hng hg3 N3)
                  | (at_builtin; refine wpList_new_full _ (P5W X3 a b) (Kept.refl _ _) rfl _ _ 22 rfl 5 i0 .u8 1 Try.underlying22 hi hz0 hz1 hz2 ⟨X3.heap.size + 1, 0, none⟩ 2 [80, 53] rfl (p5w X3 a b).mrk.row Ag ng cg gl rfl (HGL.out.2.2.2.2.kept (p5w X3 a b).fr (fun _ _ _ _ => id)) (by rw [HGL.out.2.2.2.1]; obtain ⟨c, r, e, _⟩ := gap_head HGL.out.1; rw [e]; simp) (by unfold maxLen; rw [HGL.out.2.2.2.1]; have := HGL.out.2.2.1; omega) (by rw [HGL.out.2.2.2.1]; have := HGL.out.2.2.1; omega) ?_; intro v4 X4 N4))
                have H4 := Lib.hid N4
                clear N4 hcv hq1 hq2 hq3 hq4
                refine (hDigits_any a X4 (by have := HG.out; omega)).mono ?_
                rintro e V5 ⟨rfl, hf5⟩
                have H5 := Lib.hid (H4.out.fresh hf5)
                have ZA := dgL_ok (v := a) (by have := HG.out; omega)
                have ZB := dgL_ok (v := b) (by have := HG.out; omega)
                have HZ := Lib.hid (And.intro ZA ZB)
                have z5 : Hid ((dgL a).length ≤ 5 ∧ (dgL b).length ≤ 5) := Lib.hid ⟨ZA.2.2.1, ZB.2.2.1⟩
                have HDA := Lib.hid (strCells_of (xs := dgL a) fun c hc => by have h1 := ZA.1 c hc; unfold dgt at h1; omega)
                have HDB := Lib.hid (strCells_of (xs := dgL b) fun c hc => by have h1 := ZB.1 c hc; unfold dgt at h1; omega)
                clear hf5 ZA ZB
                generalize strOfNums (dgL a) = sa at *
                generalize strOfNums (dgL b) = sb2 at *
                generalize hla : dgL a = la at *
                generalize hlb : dgL b = lb at *
                have HLL := Lib.hid (And.intro hla hlb)
                clear hla hlb
                have HST : Hid (a = a * 1) := Lib.hid (Nat.mul_one a).symm
                obtain ⟨sb, hsb⟩ : ∃ sb, sb = a * b := ⟨_, rfl⟩
                have esb : (a : Int) * (b : Int) = (sb : Int) := by rw [hsb]; simp
                have hsb2 : sb ≤ 1200 := by rw [hsb]; exact Nat.mul_le_mul (show a ≤ 60 by have := HG.out; omega) HG.out.2.2.2.1
                obtain ⟨nn, hnn⟩ : ∃ nn : Int, nn = (sb : Int) - (m : Int) := ⟨_, rfl⟩
                have enn : (sb : Int) - (m : Int) = nn := hnn.symm
                have nn1 : -3 ≤ nn := by have := HG.out; omega
                have nn2 : nn ≤ 1200 := by omega
                have sb3 : (sb : Int) ≤ 1200 := by omega
                have HSB2 := Lib.hid (And.intro hsb (And.intro hnn hsb2))
                clear hsb hnn hsb2
                have KG : Hid (∀ V, Fresh (P5W X3 a b) V → Row V .u8 Ag ng gl) := Lib.hid fun V hV => (HGL.out.2.2.2.2.kept (p5w X3 a b).fr (fun _ _ _ _ => id)).kept hV (fun _ _ _ _ => id)
                go_wp2_with (first
                  | (at_builtin; refine wpList_new_str _ (P5W X3 a b) rfl _ _ 22 9 rfl 5 i0 Try.underlying22 Try.underlying9 hi hz0 hz1 hz2 _ ([80, 53] ++ gl) rfl H5.out sa la rfl HDA.out (by unfold maxLen; have h1 := HGL.out.2.2.1; have h2 := z5.out; simp; omega) (by have h1 := HGL.out.2.2.1; have h2 := z5.out; simp; omega) ?_; intro v5 X5 N5)
                  | (at_builtin; refine wpList_new _ (P5W X3 a b) rfl _ _ 22 rfl 5 i0 .u8 1 Try.underlying22 hi hz0 hz1 hz2 _ ([80, 53] ++ gl ++ la) rfl N5 Ag ng cg gl rfl (KG.out _ N5.2.2) (by unfold maxLen; rw [HGL.out.2.2.2.1]; have h1 := HGL.out.2.2.1; have h2 := z5.out; simp; omega) (by rw [HGL.out.2.2.2.1]; have h1 := HGL.out.2.2.1; have h2 := z5.out; simp; omega) ?_; intro v6 X6 N6; clear N5))
                have H6 := Lib.hid N6
                clear N6
                refine (hDigits_any b X6 (by have := HG.out; omega)).mono ?_
                rintro e V7 ⟨rfl, hf7⟩
                rw [HLL.out.2]
                have HSB : Hid (Lib.strCells (strOfNums lb) = ivs .u8 lb) := Lib.hid (strCells_of fun c hc => by have h1 := HZ.out.2.1 c hc; unfold dgt at h1; omega)
                generalize strOfNums lb = sb3 at *
                have H7 := Lib.hid (H6.out.fresh hf7)
                clear hf7
                go_wp2_with (first
                  | (at_builtin; refine wpList_new_str _ (P5W X3 a b) rfl _ _ 22 9 rfl 5 i0 Try.underlying22 Try.underlying9 hi hz0 hz1 hz2 _ ([80, 53] ++ gl ++ la ++ gl) rfl H7.out sb3 lb rfl HSB.out (by unfold maxLen; have h1 := HGL.out.2.2.1; have h2 := z5.out; simp; omega) (by have h1 := HGL.out.2.2.1; have h2 := z5.out; simp; omega) ?_; intro v8 X8 N8)
                  | (at_builtin; refine wpList_new _ (P5W X3 a b) rfl _ _ 22 rfl 5 i0 .u8 1 Try.underlying22 hi hz0 hz1 hz2 _ ([80, 53] ++ gl ++ la ++ gl ++ lb) rfl N8 Ag ng cg gl rfl (KG.out _ N8.2.2) (by unfold maxLen; rw [HGL.out.2.2.2.1]; have h1 := HGL.out.2.2.1; have h2 := z5.out; simp; omega) (by rw [HGL.out.2.2.2.1]; have h1 := HGL.out.2.2.1; have h2 := z5.out; simp; omega) ?_; intro v9 X9 N9; clear N8)
                  | (at_builtin; refine wpList_new_str _ (P5W X3 a b) rfl _ _ 22 9 rfl 5 i0 Try.underlying22 Try.underlying9 hi hz0 hz1 hz2 _ ([80, 53] ++ gl ++ la ++ gl ++ lb ++ gl) rfl N9 _ [50, 53, 53, 32] rfl rfl (by unfold maxLen; have h1 := HGL.out.2.2.1; have h2 := z5.out; simp; omega) (by have h1 := HGL.out.2.2.1; have h2 := z5.out; simp; omega) ?_
                     intro v10 X10 N10
                     obtain ⟨Lx, hLx⟩ : ∃ Lx, Lx = [80, 53] ++ gl ++ la ++ gl ++ lb ++ gl ++ [50, 53, 53, 32] := ⟨_, rfl⟩
                     rw [← hLx] at N10
                     have hsay : Lx = sayH 53 gl la lb := by rw [hLx]; unfold sayH; simp only [List.append_assoc]
                     obtain ⟨f, hff⟩ : ∃ f, f = Lx.length := ⟨_, rfl⟩
                     have hf200 : f ≤ 200 := by rw [hff, hsay, sayH_len]; have h1 := HGL.out.2.2.1; have h2 := z5.out; omega
                     obtain ⟨A10, c10, e10, _, _⟩ := N10.1.row
                     rw [← hff] at e10
                     subst e10
                     have b10 := (p5w X3 a b).blk.kept N10.2.2 id
                     have p2 : X10.cell? ⟨X3.heap.size, 2, none⟩ = some (.int .i64 1) := (b10.cell 2).trans rfl
                     have p3 : X10.cell? ⟨X3.heap.size, 3, none⟩ = some (.int .i64 0) := (b10.cell 3).trans rfl
                     have p4 : X10.cell? ⟨X3.heap.size, 4, none⟩ = some (.int .i64 0) := (b10.cell 4).trans rfl
                     have p3f : X10.frozen? ⟨X3.heap.size, 3, none⟩ = false := b10.frozen 3
                     have p4f : X10.frozen? ⟨X3.heap.size, 4, none⟩ = false := b10.frozen 4
                     have HLx := Lib.hid (And.intro hsay (And.intro hff hf200))
                     have H10 := Lib.hid (And.intro N10 b10)
                     clear hsay hff hf200 hLx N10 b10 N9))
                have HW : Hid (NewRow w ((X10.setCell ⟨X3.heap.size, 3, none⟩ (.int .i64 (a : Nat))).setCell ⟨X3.heap.size, 4, none⟩ (.int .i64 (f : Nat))) 5 .u8 (.slice A10 f c10) Lx ∧ Blk ((X10.setCell ⟨X3.heap.size, 3, none⟩ (.int .i64 (a : Nat))).setCell ⟨X3.heap.size, 4, none⟩ (.int .i64 (f : Nat))) X3.heap.size 26 #[.int .i64 (a : Nat), .int .i64 (b : Nat), .int .i64 1, .int .i64 (a : Nat), .int .i64 (f : Nat)]) := Lib.hid (by
                  have hb := H10.out.2
                  have hne : (Value.slice A10 f c10).ownBlock ≠ some X3.heap.size := H10.out.1.1.ne_blk hb (by decide)
                  have hfw : Fresh w (P5W X3 a b) := HX3.out.trans (p5w X3 a b).fr fun _ _ e => e
                  have hfx : Fresh w X10 := hfw.trans H10.out.1.2.2 fun _ _ e => e
                  have hsz : w.heap.size ≤ X3.heap.size := HX3.out.size
                  refine ⟨⟨(H10.out.1.1.setFar (p := ⟨X3.heap.size, 3, none⟩) hne _).setFar (p := ⟨X3.heap.size, 4, none⟩) hne _, fun g e => Nat.le_trans hfw.size (H10.out.1.2.1 g e), (hfx.setCell (p := ⟨X3.heap.size, 3, none⟩) (fun e => by simp at e; omega) _).setCell (p := ⟨X3.heap.size, 4, none⟩) (fun e => by simp at e; omega) _⟩, ?_⟩
                  have := (hb.set_ 3 (.int .i64 (a : Nat))).set_ 4 (.int .i64 (f : Nat))
                  simpa using this)
                clear p2 p3 p4 p3f p4f
                generalize ((X10.setCell ⟨X3.heap.size, 3, none⟩ (.int .i64 (a : Nat))).setCell ⟨X3.heap.size, 4, none⟩ (.int .i64 (f : Nat))) = W10 at *
                go_loopw [17, 19] (fun v iv wq => ∃ k : Nat, k ≤ nn.toNat ∧ iv = .int .i64 (k : Int) ∧ NewRow w wq 5 .u8 v (Lx ++ pxs k) ∧ Blk wq X3.heap.size 26 #[.int .i64 (a : Nat), .int .i64 (b : Nat), .int .i64 1, .int .i64 (a : Nat), .int .i64 (f : Nat)]) (fun _ iv _ => (nn - intOf iv).toNat)
                case atStart => exact ⟨0, by omega, rfl, by rw [show pxs 0 = [] from rfl, List.append_nil]; exact HW.out.1, HW.out.2⟩
                case round =>
                  obtain ⟨kk, hkk, rfl, hN, hB⟩ := hrel
                  have HQ := Lib.hid (And.intro hN hB)
                  clear hN hB
                  by_cases hlt : (kk : Int) < nn
                  · obtain ⟨y, hy⟩ : ∃ y : Int, y = ((kk % 256 : Nat) : Int) := ⟨_, rfl⟩
                    have k3 : (kk : Int) % 256 = y := by omega
                    have Hy := Lib.hid hy
                    clear hy
                    have l7 : Hid ((Lx ++ pxs kk).length ≤ 2000) := Lib.hid (by rw [List.length_append, pxs_len]; have h1 := HLx.out.2; omega)
                    go_wp2_with (at_builtin; refine wpList_app _ rfl _ _ 22 rfl 5 i0 .u8 1 Try.underlying22 hi hz0 hz1 hz2 _ (Lx ++ pxs kk) rfl (HQ.out.1.1.alloc _) _ 1 1 [_] rfl (Row.one _ _ _ _) (by unfold maxLen; have := l7.out; omega) (by have := l7.out; omega) ?_; intro v9 X9 ho9 hg9 hat9)
                    have H9 := Lib.hid (And.intro ((HQ.out.1.fresh ((Kept.refl _ _).alloc _)).app ho9 hg9 hat9) ((HQ.out.2.alloc _).grown hg9 (fun e => HQ.out.1.1.ne_blk HQ.out.2 (by decide) e.symm)))
                    clear ho9 hg9 hat9
                    go_roundw
                    case rel => exact ⟨kk + 1, by omega, by go_num, by rw [pxs_succ, ← List.append_assoc, ← Hy.out]; exact H9.out.1, H9.out.2⟩
                    case measure => simp [intOf]; omega
                  · have hkn : kk = nn.toNat := by omega
                    obtain ⟨lb2, hlb2⟩ : ∃ lb2, lb2 = (Lx ++ pxs kk).length := ⟨_, rfl⟩
                    have hlb3 : lb2 = f + kk := by rw [hlb2, List.length_append, pxs_len, ← HLx.out.2.1]
                    obtain ⟨Av, cv, rfl, hrow, _⟩ := HQ.out.1.1.row
                    have hpic := say_pnm (s := 53) (g := gl) (da := la) (db := lb) (px := pxs kk) (a := a) (b := b) (by decide) HGL.out.1 HZ.out.1.1 HZ.out.1.2.1 z5.out.1 HZ.out.1.2.2.2 HZ.out.2.1 HZ.out.2.2.1 z5.out.2 HZ.out.2.2.2.2
                    rw [← HLx.out.1, ← hlb2, ← HLx.out.2.1, if_neg (by decide)] at hpic
                    have hby : ∀ c ∈ Lx ++ pxs kk, 0 ≤ c ∧ c < 256 := by
                      rw [HLx.out.1]
                      intro c hc
                      unfold sayH at hc
                      simp only [List.mem_append, List.mem_cons, List.not_mem_nil, or_false] at hc
                      have hd : ∀ (v : Nat), v < 100 → ∀ d ∈ dgL v, 0 ≤ d ∧ d < 256 := fun v hv d hdd => by have h1 := (dgL_ok hv).1 d hdd; unfold dgt at h1; omega
                      have hA := hd a (by have := HG.out; omega)
                      have hB := hd b (by have := HG.out; omega)
                      rw [HLL.out.1] at hA
                      rw [HLL.out.2] at hB
                      rcases hc with (h | h | h | h | h | h | h) | h
                      · omega
                      · exact HGL.out.2.1 c h
                      · exact hA c h
                      · exact HGL.out.2.1 c h
                      · exact hB c h
                      · exact HGL.out.2.1 c h
                      · omega
                      · exact pxs_byte _ c h
                    have HB := cPnm_any Av lb2 cv (Lx ++ pxs kk) wr (by rw [hlb2]; exact hrow) hby (by have := HLx.out.2; omega)
                    rw [hpic] at HB
                    rw [← hlb2]
                    have HB := Lib.hid HB
                    have b0 := HQ.out.2
                    have HF1 : Hid (Fresh w wr) := Lib.hid HQ.out.1.2.2
                    have HBP := Lib.hid b0
                    clear b0
                    by_cases hm0 : m = 0
                    · have hfit : fitP a b ((a * 1 : Nat) : Int) f lb2 := by
                        have h1 := HG.out
                        have h2 := HSB2.out
                        refine ⟨by omega, by omega, by omega, by omega, by omega, ?_⟩
                        have h3 : ((a * 1 : Nat) : Int) * (b : Int) = (sb : Int) := by rw [← esb]; rw [Nat.mul_one]
                        rw [h3]
                        omega
                      rw [show pnmR a b 1 f lb2 = some (a, b, 1, a, f) from by unfold pnmR; rw [if_pos hfit]; rw [Nat.mul_one]] at HB
                      simp only [pval, Option.isSome_some] at HB
                      have q1 : ¬ nn < (sb : Int) := by have := HSB2.out; omega
                      clear hlb2 hlb3 hrow hby hpic hfit hm0 hkk hkn
                      go_wp2_with fail
                      refine HB.out.mono ?_
                      rintro e V1 ⟨rfl, hg1⟩
                      have b3 := (HBP.out.kept hg1 id).alloc (.cells #[.int .i64 (a : Nat), .int .i64 (b : Nat), .int .i64 1, .int .i64 (a : Nat), .int .i64 (f : Nat)] 26)
                      have c3 : (V1.alloc (.cells #[.int .i64 (a : Nat), .int .i64 (b : Nat), .int .i64 1, .int .i64 (a : Nat), .int .i64 (f : Nat)] 26)).cell? ⟨X3.heap.size, 3, none⟩ = some (.int .i64 (a : Nat)) := (b3.cell 3).trans rfl
                      have HV1 := Lib.hid (And.intro b3 (And.intro (Blk.new V1 26 #[.int .i64 (a : Nat), .int .i64 (b : Nat), .int .i64 1, .int .i64 (a : Nat), .int .i64 (f : Nat)]) ((HF1.out.trans hg1 fun _ _ e => e).alloc (.cells #[.int .i64 (a : Nat), .int .i64 (b : Nat), .int .i64 1, .int .i64 (a : Nat), .int .i64 (f : Nat)] 26))))
                      clear b3 hg1 HB
                      go_wp2_with fail
                      refine (awakeP_any _).mono ?_
                      rintro e V2 ⟨rfl, hg2⟩
                      have b4 := HV1.out.1.kept hg2 id
                      have b5 := HV1.out.2.1.kept hg2 id
                      have d0 : V2.cell? ⟨X3.heap.size, 0, none⟩ = some (.int .i64 (a : Nat)) := (b4.cell 0).trans rfl
                      have d1 : V2.cell? ⟨X3.heap.size, 1, none⟩ = some (.int .i64 (b : Nat)) := (b4.cell 1).trans rfl
                      have d2 : V2.cell? ⟨X3.heap.size, 2, none⟩ = some (.int .i64 1) := (b4.cell 2).trans rfl
                      have d3 : V2.cell? ⟨X3.heap.size, 3, none⟩ = some (.int .i64 (a : Nat)) := (b4.cell 3).trans rfl
                      have d4 : V2.cell? ⟨X3.heap.size, 4, none⟩ = some (.int .i64 (f : Nat)) := (b4.cell 4).trans rfl
                      have e0 : V2.cell? ⟨V1.heap.size, 0, none⟩ = some (.int .i64 (a : Nat)) := (b5.cell 0).trans rfl
                      have e1 : V2.cell? ⟨V1.heap.size, 1, none⟩ = some (.int .i64 (b : Nat)) := (b5.cell 1).trans rfl
                      have e2 : V2.cell? ⟨V1.heap.size, 2, none⟩ = some (.int .i64 1) := (b5.cell 2).trans rfl
                      have e3 : V2.cell? ⟨V1.heap.size, 3, none⟩ = some (.int .i64 (a : Nat)) := (b5.cell 3).trans rfl
                      have e4 : V2.cell? ⟨V1.heap.size, 4, none⟩ = some (.int .i64 (f : Nat)) := (b5.cell 4).trans rfl
                      have HE := Lib.hid ((HV1.out.2.2.trans hg2 fun _ _ e => e).toBelow)
                      clear b4 b5 hg2 HV1 c3
                      go_wp2_with fail
                      go_ret
                      exact ⟨rfl, HE.out⟩
                    · have hfit : ¬ fitP a b ((a * 1 : Nat) : Int) f lb2 := by
                        have h1 := HG.out
                        have h2 := HSB2.out
                        rintro ⟨_, _, _, _, _, h3⟩
                        have h4 : ((a * 1 : Nat) : Int) * (b : Int) = (sb : Int) := by rw [← esb]; rw [Nat.mul_one]
                        rw [h4] at h3
                        have h5 : 1 ≤ sb := by rw [h2.1]; exact Nat.le_trans (show 1 ≤ a by omega) (Nat.le_mul_of_pos_right _ h1.2.1)
                        omega
                      rw [show pnmR a b 1 f lb2 = none from if_neg hfit] at HB
                      simp only [pval, Option.isSome_none] at HB
                      have q1 : nn < (sb : Int) := by have := HSB2.out; omega
                      clear hlb2 hlb3 hrow hby hpic hfit hm0 hkk hkn
                      go_wp2_with fail
                      refine HB.out.mono ?_
                      rintro e V1 ⟨rfl, hg1⟩
                      have b3 := (HBP.out.kept hg1 id).alloc (.cells #[.int .i64 0, .int .i64 0, .int .i64 0, .int .i64 0, .int .i64 0] 26)
                      have c3 : (V1.alloc (.cells #[.int .i64 0, .int .i64 0, .int .i64 0, .int .i64 0, .int .i64 0] 26)).cell? ⟨X3.heap.size, 3, none⟩ = some (.int .i64 (a : Nat)) := (b3.cell 3).trans rfl
                      have HV1 := Lib.hid (And.intro (Blk.new V1 26 #[.int .i64 0, .int .i64 0, .int .i64 0, .int .i64 0, .int .i64 0]) ((HF1.out.trans hg1 fun _ _ e => e).alloc (.cells #[.int .i64 0, .int .i64 0, .int .i64 0, .int .i64 0, .int .i64 0] 26)))
                      clear b3 hg1 HB
                      go_wp2_with fail
                      refine (awakeP_any _).mono ?_
                      rintro e V2 ⟨rfl, hg2⟩
                      have b5 := HV1.out.1.kept hg2 id
                      have e0 : V2.cell? ⟨V1.heap.size, 0, none⟩ = some (.int .i64 0) := (b5.cell 0).trans rfl
                      have e1 : V2.cell? ⟨V1.heap.size, 1, none⟩ = some (.int .i64 0) := (b5.cell 1).trans rfl
                      have e2 : V2.cell? ⟨V1.heap.size, 2, none⟩ = some (.int .i64 0) := (b5.cell 2).trans rfl
                      have e3 : V2.cell? ⟨V1.heap.size, 3, none⟩ = some (.int .i64 0) := (b5.cell 3).trans rfl
                      have e4 : V2.cell? ⟨V1.heap.size, 4, none⟩ = some (.int .i64 0) := (b5.cell 4).trans rfl
                      have HE := Lib.hid ((HV1.out.2.trans hg2 fun _ _ e => e).toBelow)
                      clear b5 hg2 HV1 c3
                      go_wp2_with fail
                      go_ret
                      exact ⟨rfl, HE.out⟩
        · go_wp2_with (at_builtin; refine wpList_new _ w rfl _ _ 22 rfl 5 i0 .u8 1 Try.underlying22 hi hz0 hz1 hz2 _ ([32] ++ ws) rfl (HG1.out.1.fresh ((Kept.refl _ _).alloc _)) _ 1 1 [_] rfl (Row.one _ _ _ _) (by unfold maxLen; have h1 := HG1.out.2.2; simp; omega) (by have h1 := HG1.out.2.2; simp; omega) ?_; intro v1 X1 N1)
          have HN1 := Lib.hid N1
          clear N1
          go_loopw [13, 15] (fun v iv wr => ∃ (k : Nat) (rs : List Int), k ≤ rm.size ∧ iv = .int .i64 (k : Int) ∧ rs.length ≤ k ∧ (∀ c ∈ rs, c ≠ 10) ∧ (∀ c ∈ rs, 0 ≤ c ∧ c < 256) ∧ NewRow w wr 5 .u8 v (([32] ++ ws) ++ [35] ++ rs)) (fun _ iv _ => (rm.size - intOf iv).toNat)
          case atStart => exact ⟨0, [], by omega, rfl, by simp, (fun c hc => by cases hc), (fun c hc => by cases hc), by rw [List.append_nil]; exact HN1.out⟩
          case round =>
            obtain ⟨j, rs, hj, rfl, hrs, hr10, hr8, hN⟩ := hrel
            have HN := Lib.hid (And.intro hN (And.intro hrs (And.intro hr10 hr8)))
            clear hN hrs hr10 hr8
            by_cases hjl : j < rm.size
            · have j1 : (j : Int) < (rm.size : Int) := by omega
              obtain ⟨y, hy⟩ : ∃ y : Int, ((rm[j]'hjl).toNat : Int) = y := ⟨_, rfl⟩
              have hy8 : 0 ≤ y ∧ y < 256 := by rw [← hy]; have := (rm[j]'hjl).toNat_lt; omega
              have Hj := Lib.hid (And.intro hjl hl5')
              clear hj hl5'
              by_cases hy10 : y = 10
              · have b10 : (y != 10) = false := by simp [hy10]
                clear hy10
                go_wp2_with fail
                go_roundw
                case rel => exact ⟨j + 1, rs, by have := Hj.out; omega, by go_num, by have := HN.out.2.1; omega, HN.out.2.2.1, HN.out.2.2.2, HN.out.1⟩
                case measure => have := Hj.out; simp [intOf]; omega
              · have b10 : (y != 10) = true := by simp [hy10]
                have Hy := Lib.hid (And.intro hy10 hy8)
                clear hy10
                go_wp2_with (at_builtin; refine wpList_new _ w rfl _ _ 22 rfl 5 i0 .u8 1 Try.underlying22 hi hz0 hz1 hz2 _ (([32] ++ ws) ++ [35] ++ rs) rfl (HN.out.1.fresh ((Kept.refl _ _).alloc _)) _ 1 1 [_] rfl (Row.one _ _ _ _) (by unfold maxLen; have h1 := HG1.out.2.2; have h2 := HN.out.2.1; have h3 := Hj.out; simp; omega) (by have h1 := HG1.out.2.2; have h2 := HN.out.2.1; have h3 := Hj.out; simp; omega) ?_; intro v2 X2 N2)
                have H2 := Lib.hid N2
                clear N2
                go_roundw
                case rel =>
                  refine ⟨j + 1, rs ++ [y], by have := Hj.out; omega, by go_num, by rw [List.length_append]; have := HN.out.2.1; simp; omega, fun c hc => ?_, fun c hc => ?_, by rw [← List.append_assoc]; exact H2.out⟩
                  · rcases List.mem_append.1 hc with h | h
                    · exact HN.out.2.2.1 c h
                    · rw [List.mem_singleton] at h
                      rw [h]
                      exact Hy.out.1
                  · rcases List.mem_append.1 hc with h | h
                    · exact HN.out.2.2.2 c h
                    · rw [List.mem_singleton] at h
                      rw [h]
                      exact Hy.out.2
                case measure => have := Hj.out; simp [intOf]; omega
            · obtain rfl : j = rm.size := by omega
              have j1 : ¬ (rm.size : Int) < (rm.size : Int) := by omega
              have HM : Hid (rs.length ≤ 50 ∧ ws.length ≤ 6) := Lib.hid ⟨by have := HN.out.2.1; omega, HG1.out.2.2⟩
              clear hjl hj hl5' HN1
              cases colour with
              | true =>
                go_wp2_with (first
                  | (at_builtin; refine wpList_new _ w rfl _ _ 22 rfl 5 i0 .u8 1 Try.underlying22 hi hz0 hz1 hz2 _ (([32] ++ ws) ++ [35] ++ rs) rfl (HN.out.1.fresh ((Kept.refl _ _).alloc _)) _ 1 1 [_] rfl (Row.one _ _ _ _) (by unfold maxLen; have h1 := HM.out; simp; omega) (by have h1 := HM.out; simp; omega) ?_
                     intro v3 X3 N3
                     obtain ⟨gl, hgl⟩ : ∃ gl, gl = ([32] ++ ws) ++ [35] ++ rs ++ [10] := ⟨_, rfl⟩
                     rw [← hgl] at N3
                     have hgp : gapL gl := ⟨[32] ++ ws, rs, fun c hc => by
                       rcases List.mem_append.1 hc with h | h
                       · rw [List.mem_singleton] at h; rw [h]; decide
                       · exact HG1.out.2.1 c h, by simp, HN.out.2.2.1, .inr (by rw [hgl]; simp)⟩
                     have hg8 : ∀ c ∈ gl, 0 ≤ c ∧ c < 256 := fun c hc => by
                       rw [hgl] at hc
                       simp only [List.mem_append, List.mem_singleton] at hc
                       rcases hc with (((h | h) | h) | h) | h
                       · omega
                       · have := HG1.out.2.1 c h; unfold blk at this; omega
                       · omega
                       · exact HN.out.2.2.2 c h
                       · omega
                     have hgz : gl.length ≤ 59 := by rw [hgl]; have h1 := HM.out; simp; omega
                     obtain ⟨Ag, cg, e3, hg3, _⟩ := N3.1.row
                     obtain ⟨ng, hng⟩ : ∃ ng, ng = gl.length := ⟨_, rfl⟩
                     rw [← hng] at e3 hg3
                     subst e3
                     have HGL := Lib.hid (And.intro hgp (And.intro hg8 (And.intro hgz (And.intro hng hg3))))
                     have HX3 := Lib.hid N3.2.2
                     clear hgl hgp hg8 hgz hng hg3 N3)
                  | (at_builtin; refine wpList_new_full _ (P6W X3 a b) (Kept.refl _ _) rfl _ _ 22 rfl 5 i0 .u8 1 Try.underlying22 hi hz0 hz1 hz2 ⟨X3.heap.size + 1, 0, none⟩ 2 [80, 54] rfl (p6w X3 a b).mrk.row Ag ng cg gl rfl (HGL.out.2.2.2.2.kept (p6w X3 a b).fr (fun _ _ _ _ => id)) (by rw [HGL.out.2.2.2.1]; obtain ⟨c, r, e, _⟩ := gap_head HGL.out.1; rw [e]; simp) (by unfold maxLen; rw [HGL.out.2.2.2.1]; have := HGL.out.2.2.1; omega) (by rw [HGL.out.2.2.2.1]; have := HGL.out.2.2.1; omega) ?_; intro v4 X4 N4))
                have H4 := Lib.hid N4
                clear N4 hcv hq1 hq2 hq3 hq4
                refine (hDigits_any a X4 (by have := HG.out; omega)).mono ?_
                rintro e V5 ⟨rfl, hf5⟩
                have H5 := Lib.hid (H4.out.fresh hf5)
                have ZA := dgL_ok (v := a) (by have := HG.out; omega)
                have ZB := dgL_ok (v := b) (by have := HG.out; omega)
                have HZ := Lib.hid (And.intro ZA ZB)
                have z5 : Hid ((dgL a).length ≤ 5 ∧ (dgL b).length ≤ 5) := Lib.hid ⟨ZA.2.2.1, ZB.2.2.1⟩
                have HDA := Lib.hid (strCells_of (xs := dgL a) fun c hc => by have h1 := ZA.1 c hc; unfold dgt at h1; omega)
                have HDB := Lib.hid (strCells_of (xs := dgL b) fun c hc => by have h1 := ZB.1 c hc; unfold dgt at h1; omega)
                clear hf5 ZA ZB
                generalize strOfNums (dgL a) = sa at *
                generalize strOfNums (dgL b) = sb2 at *
                generalize hla : dgL a = la at *
                generalize hlb : dgL b = lb at *
                have HLL := Lib.hid (And.intro hla hlb)
                clear hla hlb
                obtain ⟨st, hst⟩ : ∃ st, st = a * 3 := ⟨_, rfl⟩
                have est : (a : Int) * 3 = (st : Int) := by omega
                have st6 : (st : Int) ≤ 60 := by omega
                have HST : Hid (st = a * 3) := Lib.hid hst
                clear hst
                obtain ⟨sb, hsb⟩ : ∃ sb, sb = st * b := ⟨_, rfl⟩
                have esb : (st : Int) * (b : Int) = (sb : Int) := by rw [hsb]; simp
                have hsb2 : sb ≤ 1200 := by rw [hsb]; exact Nat.mul_le_mul (show st ≤ 60 by have := HG.out; omega) HG.out.2.2.2.1
                obtain ⟨nn, hnn⟩ : ∃ nn : Int, nn = (sb : Int) - (m : Int) := ⟨_, rfl⟩
                have enn : (sb : Int) - (m : Int) = nn := hnn.symm
                have nn1 : -3 ≤ nn := by have := HG.out; omega
                have nn2 : nn ≤ 1200 := by omega
                have sb3 : (sb : Int) ≤ 1200 := by omega
                have HSB2 := Lib.hid (And.intro hsb (And.intro hnn hsb2))
                clear hsb hnn hsb2
                have KG : Hid (∀ V, Fresh (P6W X3 a b) V → Row V .u8 Ag ng gl) := Lib.hid fun V hV => (HGL.out.2.2.2.2.kept (p6w X3 a b).fr (fun _ _ _ _ => id)).kept hV (fun _ _ _ _ => id)
                go_wp2_with (first
                  | (at_builtin; refine wpList_new_str _ (P6W X3 a b) rfl _ _ 22 9 rfl 5 i0 Try.underlying22 Try.underlying9 hi hz0 hz1 hz2 _ ([80, 54] ++ gl) rfl H5.out sa la rfl HDA.out (by unfold maxLen; have h1 := HGL.out.2.2.1; have h2 := z5.out; simp; omega) (by have h1 := HGL.out.2.2.1; have h2 := z5.out; simp; omega) ?_; intro v5 X5 N5)
                  | (at_builtin; refine wpList_new _ (P6W X3 a b) rfl _ _ 22 rfl 5 i0 .u8 1 Try.underlying22 hi hz0 hz1 hz2 _ ([80, 54] ++ gl ++ la) rfl N5 Ag ng cg gl rfl (KG.out _ N5.2.2) (by unfold maxLen; rw [HGL.out.2.2.2.1]; have h1 := HGL.out.2.2.1; have h2 := z5.out; simp; omega) (by rw [HGL.out.2.2.2.1]; have h1 := HGL.out.2.2.1; have h2 := z5.out; simp; omega) ?_; intro v6 X6 N6; clear N5))
                have H6 := Lib.hid N6
                clear N6
                refine (hDigits_any b X6 (by have := HG.out; omega)).mono ?_
                rintro e V7 ⟨rfl, hf7⟩
                rw [HLL.out.2]
                have HSB : Hid (Lib.strCells (strOfNums lb) = ivs .u8 lb) := Lib.hid (strCells_of fun c hc => by have h1 := HZ.out.2.1 c hc; unfold dgt at h1; omega)
                generalize strOfNums lb = sb3 at *
                have H7 := Lib.hid (H6.out.fresh hf7)
                clear hf7
                go_wp2_with (first
                  | (at_builtin; refine wpList_new_str _ (P6W X3 a b) rfl _ _ 22 9 rfl 5 i0 Try.underlying22 Try.underlying9 hi hz0 hz1 hz2 _ ([80, 54] ++ gl ++ la ++ gl) rfl H7.out sb3 lb rfl HSB.out (by unfold maxLen; have h1 := HGL.out.2.2.1; have h2 := z5.out; simp; omega) (by have h1 := HGL.out.2.2.1; have h2 := z5.out; simp; omega) ?_; intro v8 X8 N8)
                  | (at_builtin; refine wpList_new _ (P6W X3 a b) rfl _ _ 22 rfl 5 i0 .u8 1 Try.underlying22 hi hz0 hz1 hz2 _ ([80, 54] ++ gl ++ la ++ gl ++ lb) rfl N8 Ag ng cg gl rfl (KG.out _ N8.2.2) (by unfold maxLen; rw [HGL.out.2.2.2.1]; have h1 := HGL.out.2.2.1; have h2 := z5.out; simp; omega) (by rw [HGL.out.2.2.2.1]; have h1 := HGL.out.2.2.1; have h2 := z5.out; simp; omega) ?_; intro v9 X9 N9; clear N8)
                  | (at_builtin; refine wpList_new_str _ (P6W X3 a b) rfl _ _ 22 9 rfl 5 i0 Try.underlying22 Try.underlying9 hi hz0 hz1 hz2 _ ([80, 54] ++ gl ++ la ++ gl ++ lb ++ gl) rfl N9 _ [50, 53, 53, 32] rfl rfl (by unfold maxLen; have h1 := HGL.out.2.2.1; have h2 := z5.out; simp; omega) (by have h1 := HGL.out.2.2.1; have h2 := z5.out; simp; omega) ?_
                     intro v10 X10 N10
                     obtain ⟨Lx, hLx⟩ : ∃ Lx, Lx = [80, 54] ++ gl ++ la ++ gl ++ lb ++ gl ++ [50, 53, 53, 32] := ⟨_, rfl⟩
                     rw [← hLx] at N10
                     have hsay : Lx = sayH 54 gl la lb := by rw [hLx]; unfold sayH; simp only [List.append_assoc]
                     obtain ⟨f, hff⟩ : ∃ f, f = Lx.length := ⟨_, rfl⟩
                     have hf200 : f ≤ 200 := by rw [hff, hsay, sayH_len]; have h1 := HGL.out.2.2.1; have h2 := z5.out; omega
                     obtain ⟨A10, c10, e10, _, _⟩ := N10.1.row
                     rw [← hff] at e10
                     subst e10
                     have b10 := (p6w X3 a b).blk.kept N10.2.2 id
                     have p2 : X10.cell? ⟨X3.heap.size, 2, none⟩ = some (.int .i64 3) := (b10.cell 2).trans rfl
                     have p3 : X10.cell? ⟨X3.heap.size, 3, none⟩ = some (.int .i64 0) := (b10.cell 3).trans rfl
                     have p4 : X10.cell? ⟨X3.heap.size, 4, none⟩ = some (.int .i64 0) := (b10.cell 4).trans rfl
                     have p3f : X10.frozen? ⟨X3.heap.size, 3, none⟩ = false := b10.frozen 3
                     have p4f : X10.frozen? ⟨X3.heap.size, 4, none⟩ = false := b10.frozen 4
                     have HLx := Lib.hid (And.intro hsay (And.intro hff hf200))
                     have H10 := Lib.hid (And.intro N10 b10)
                     clear hsay hff hf200 hLx N10 b10 N9))
                have HW : Hid (NewRow w ((X10.setCell ⟨X3.heap.size, 3, none⟩ (.int .i64 (st : Nat))).setCell ⟨X3.heap.size, 4, none⟩ (.int .i64 (f : Nat))) 5 .u8 (.slice A10 f c10) Lx ∧ Blk ((X10.setCell ⟨X3.heap.size, 3, none⟩ (.int .i64 (st : Nat))).setCell ⟨X3.heap.size, 4, none⟩ (.int .i64 (f : Nat))) X3.heap.size 26 #[.int .i64 (a : Nat), .int .i64 (b : Nat), .int .i64 3, .int .i64 (st : Nat), .int .i64 (f : Nat)]) := Lib.hid (by
                  have hb := H10.out.2
                  have hne : (Value.slice A10 f c10).ownBlock ≠ some X3.heap.size := H10.out.1.1.ne_blk hb (by decide)
                  have hfw : Fresh w (P6W X3 a b) := HX3.out.trans (p6w X3 a b).fr fun _ _ e => e
                  have hfx : Fresh w X10 := hfw.trans H10.out.1.2.2 fun _ _ e => e
                  have hsz : w.heap.size ≤ X3.heap.size := HX3.out.size
                  refine ⟨⟨(H10.out.1.1.setFar (p := ⟨X3.heap.size, 3, none⟩) hne _).setFar (p := ⟨X3.heap.size, 4, none⟩) hne _, fun g e => Nat.le_trans hfw.size (H10.out.1.2.1 g e), (hfx.setCell (p := ⟨X3.heap.size, 3, none⟩) (fun e => by simp at e; omega) _).setCell (p := ⟨X3.heap.size, 4, none⟩) (fun e => by simp at e; omega) _⟩, ?_⟩
                  have := (hb.set_ 3 (.int .i64 (st : Nat))).set_ 4 (.int .i64 (f : Nat))
                  simpa using this)
                clear p2 p3 p4 p3f p4f
                generalize ((X10.setCell ⟨X3.heap.size, 3, none⟩ (.int .i64 (st : Nat))).setCell ⟨X3.heap.size, 4, none⟩ (.int .i64 (f : Nat))) = W10 at *
                go_loopw [17, 19] (fun v iv wq => ∃ k : Nat, k ≤ nn.toNat ∧ iv = .int .i64 (k : Int) ∧ NewRow w wq 5 .u8 v (Lx ++ pxs k) ∧ Blk wq X3.heap.size 26 #[.int .i64 (a : Nat), .int .i64 (b : Nat), .int .i64 3, .int .i64 (st : Nat), .int .i64 (f : Nat)]) (fun _ iv _ => (nn - intOf iv).toNat)
                case atStart => exact ⟨0, by omega, rfl, by rw [show pxs 0 = [] from rfl, List.append_nil]; exact HW.out.1, HW.out.2⟩
                case round =>
                  obtain ⟨kk, hkk, rfl, hN, hB⟩ := hrel
                  have HQ := Lib.hid (And.intro hN hB)
                  clear hN hB
                  by_cases hlt : (kk : Int) < nn
                  · obtain ⟨y, hy⟩ : ∃ y : Int, y = ((kk % 256 : Nat) : Int) := ⟨_, rfl⟩
                    have k3 : (kk : Int) % 256 = y := by omega
                    have Hy := Lib.hid hy
                    clear hy
                    have l7 : Hid ((Lx ++ pxs kk).length ≤ 2000) := Lib.hid (by rw [List.length_append, pxs_len]; have h1 := HLx.out.2; omega)
                    go_wp2_with (at_builtin; refine wpList_app _ rfl _ _ 22 rfl 5 i0 .u8 1 Try.underlying22 hi hz0 hz1 hz2 _ (Lx ++ pxs kk) rfl (HQ.out.1.1.alloc _) _ 1 1 [_] rfl (Row.one _ _ _ _) (by unfold maxLen; have := l7.out; omega) (by have := l7.out; omega) ?_; intro v9 X9 ho9 hg9 hat9)
                    have H9 := Lib.hid (And.intro ((HQ.out.1.fresh ((Kept.refl _ _).alloc _)).app ho9 hg9 hat9) ((HQ.out.2.alloc _).grown hg9 (fun e => HQ.out.1.1.ne_blk HQ.out.2 (by decide) e.symm)))
                    clear ho9 hg9 hat9
                    go_roundw
                    case rel => exact ⟨kk + 1, by omega, by go_num, by rw [pxs_succ, ← List.append_assoc, ← Hy.out]; exact H9.out.1, H9.out.2⟩
                    case measure => simp [intOf]; omega
                  · have hkn : kk = nn.toNat := by omega
                    obtain ⟨lb2, hlb2⟩ : ∃ lb2, lb2 = (Lx ++ pxs kk).length := ⟨_, rfl⟩
                    have hlb3 : lb2 = f + kk := by rw [hlb2, List.length_append, pxs_len, ← HLx.out.2.1]
                    obtain ⟨Av, cv, rfl, hrow, _⟩ := HQ.out.1.1.row
                    have hpic := say_pnm (s := 54) (g := gl) (da := la) (db := lb) (px := pxs kk) (a := a) (b := b) (by decide) HGL.out.1 HZ.out.1.1 HZ.out.1.2.1 z5.out.1 HZ.out.1.2.2.2 HZ.out.2.1 HZ.out.2.2.1 z5.out.2 HZ.out.2.2.2.2
                    rw [← HLx.out.1, ← hlb2, ← HLx.out.2.1, if_pos rfl] at hpic
                    have hby : ∀ c ∈ Lx ++ pxs kk, 0 ≤ c ∧ c < 256 := by
                      rw [HLx.out.1]
                      intro c hc
                      unfold sayH at hc
                      simp only [List.mem_append, List.mem_cons, List.not_mem_nil, or_false] at hc
                      have hd : ∀ (v : Nat), v < 100 → ∀ d ∈ dgL v, 0 ≤ d ∧ d < 256 := fun v hv d hdd => by have h1 := (dgL_ok hv).1 d hdd; unfold dgt at h1; omega
                      have hA := hd a (by have := HG.out; omega)
                      have hB := hd b (by have := HG.out; omega)
                      rw [HLL.out.1] at hA
                      rw [HLL.out.2] at hB
                      rcases hc with (h | h | h | h | h | h | h) | h
                      · omega
                      · exact HGL.out.2.1 c h
                      · exact hA c h
                      · exact HGL.out.2.1 c h
                      · exact hB c h
                      · exact HGL.out.2.1 c h
                      · omega
                      · exact pxs_byte _ c h
                    have HB := cPnm_any Av lb2 cv (Lx ++ pxs kk) wr (by rw [hlb2]; exact hrow) hby (by have := HLx.out.2; omega)
                    rw [hpic] at HB
                    rw [← hlb2]
                    have HB := Lib.hid HB
                    have b0 := HQ.out.2
                    have HF1 : Hid (Fresh w wr) := Lib.hid HQ.out.1.2.2
                    have HBP := Lib.hid b0
                    clear b0
                    by_cases hm0 : m = 0
                    · have hfit : fitP a b ((a * 3 : Nat) : Int) f lb2 := by
                        have h1 := HG.out
                        have h2 := HSB2.out
                        refine ⟨by omega, by omega, by omega, by omega, by omega, ?_⟩
                        have h3 : ((a * 3 : Nat) : Int) * (b : Int) = (sb : Int) := by rw [← esb]; rw [HST.out]
                        rw [h3]
                        omega
                      rw [show pnmR a b 3 f lb2 = some (a, b, 3, st, f) from by unfold pnmR; rw [if_pos hfit]; rw [HST.out]] at HB
                      simp only [pval, Option.isSome_some] at HB
                      have q1 : ¬ nn < (sb : Int) := by have := HSB2.out; omega
                      clear hlb2 hlb3 hrow hby hpic hfit hm0 hkk hkn
                      go_wp2_with fail
                      refine HB.out.mono ?_
                      rintro e V1 ⟨rfl, hg1⟩
                      have b3 := (HBP.out.kept hg1 id).alloc (.cells #[.int .i64 (a : Nat), .int .i64 (b : Nat), .int .i64 3, .int .i64 (st : Nat), .int .i64 (f : Nat)] 26)
                      have c3 : (V1.alloc (.cells #[.int .i64 (a : Nat), .int .i64 (b : Nat), .int .i64 3, .int .i64 (st : Nat), .int .i64 (f : Nat)] 26)).cell? ⟨X3.heap.size, 3, none⟩ = some (.int .i64 (st : Nat)) := (b3.cell 3).trans rfl
                      have HV1 := Lib.hid (And.intro b3 (And.intro (Blk.new V1 26 #[.int .i64 (a : Nat), .int .i64 (b : Nat), .int .i64 3, .int .i64 (st : Nat), .int .i64 (f : Nat)]) ((HF1.out.trans hg1 fun _ _ e => e).alloc (.cells #[.int .i64 (a : Nat), .int .i64 (b : Nat), .int .i64 3, .int .i64 (st : Nat), .int .i64 (f : Nat)] 26))))
                      clear b3 hg1 HB
                      go_wp2_with fail
                      refine (awakeP_any _).mono ?_
                      rintro e V2 ⟨rfl, hg2⟩
                      have b4 := HV1.out.1.kept hg2 id
                      have b5 := HV1.out.2.1.kept hg2 id
                      have d0 : V2.cell? ⟨X3.heap.size, 0, none⟩ = some (.int .i64 (a : Nat)) := (b4.cell 0).trans rfl
                      have d1 : V2.cell? ⟨X3.heap.size, 1, none⟩ = some (.int .i64 (b : Nat)) := (b4.cell 1).trans rfl
                      have d2 : V2.cell? ⟨X3.heap.size, 2, none⟩ = some (.int .i64 3) := (b4.cell 2).trans rfl
                      have d3 : V2.cell? ⟨X3.heap.size, 3, none⟩ = some (.int .i64 (st : Nat)) := (b4.cell 3).trans rfl
                      have d4 : V2.cell? ⟨X3.heap.size, 4, none⟩ = some (.int .i64 (f : Nat)) := (b4.cell 4).trans rfl
                      have e0 : V2.cell? ⟨V1.heap.size, 0, none⟩ = some (.int .i64 (a : Nat)) := (b5.cell 0).trans rfl
                      have e1 : V2.cell? ⟨V1.heap.size, 1, none⟩ = some (.int .i64 (b : Nat)) := (b5.cell 1).trans rfl
                      have e2 : V2.cell? ⟨V1.heap.size, 2, none⟩ = some (.int .i64 3) := (b5.cell 2).trans rfl
                      have e3 : V2.cell? ⟨V1.heap.size, 3, none⟩ = some (.int .i64 (st : Nat)) := (b5.cell 3).trans rfl
                      have e4 : V2.cell? ⟨V1.heap.size, 4, none⟩ = some (.int .i64 (f : Nat)) := (b5.cell 4).trans rfl
                      have HE := Lib.hid ((HV1.out.2.2.trans hg2 fun _ _ e => e).toBelow)
                      clear b4 b5 hg2 HV1 c3
                      go_wp2_with fail
                      go_ret
                      exact ⟨rfl, HE.out⟩
                    · have hfit : ¬ fitP a b ((a * 3 : Nat) : Int) f lb2 := by
                        have h1 := HG.out
                        have h2 := HSB2.out
                        rintro ⟨_, _, _, _, _, h3⟩
                        have h4 : ((a * 3 : Nat) : Int) * (b : Int) = (sb : Int) := by rw [← esb]; rw [HST.out]
                        rw [h4] at h3
                        have h5 : 1 ≤ sb := by rw [h2.1]; exact Nat.le_trans (show 1 ≤ st by omega) (Nat.le_mul_of_pos_right _ h1.2.1)
                        omega
                      rw [show pnmR a b 3 f lb2 = none from if_neg hfit] at HB
                      simp only [pval, Option.isSome_none] at HB
                      have q1 : nn < (sb : Int) := by have := HSB2.out; omega
                      clear hlb2 hlb3 hrow hby hpic hfit hm0 hkk hkn
                      go_wp2_with fail
                      refine HB.out.mono ?_
                      rintro e V1 ⟨rfl, hg1⟩
                      have b3 := (HBP.out.kept hg1 id).alloc (.cells #[.int .i64 0, .int .i64 0, .int .i64 0, .int .i64 0, .int .i64 0] 26)
                      have c3 : (V1.alloc (.cells #[.int .i64 0, .int .i64 0, .int .i64 0, .int .i64 0, .int .i64 0] 26)).cell? ⟨X3.heap.size, 3, none⟩ = some (.int .i64 (st : Nat)) := (b3.cell 3).trans rfl
                      have HV1 := Lib.hid (And.intro (Blk.new V1 26 #[.int .i64 0, .int .i64 0, .int .i64 0, .int .i64 0, .int .i64 0]) ((HF1.out.trans hg1 fun _ _ e => e).alloc (.cells #[.int .i64 0, .int .i64 0, .int .i64 0, .int .i64 0, .int .i64 0] 26)))
                      clear b3 hg1 HB
                      go_wp2_with fail
                      refine (awakeP_any _).mono ?_
                      rintro e V2 ⟨rfl, hg2⟩
                      have b5 := HV1.out.1.kept hg2 id
                      have e0 : V2.cell? ⟨V1.heap.size, 0, none⟩ = some (.int .i64 0) := (b5.cell 0).trans rfl
                      have e1 : V2.cell? ⟨V1.heap.size, 1, none⟩ = some (.int .i64 0) := (b5.cell 1).trans rfl
                      have e2 : V2.cell? ⟨V1.heap.size, 2, none⟩ = some (.int .i64 0) := (b5.cell 2).trans rfl
                      have e3 : V2.cell? ⟨V1.heap.size, 3, none⟩ = some (.int .i64 0) := (b5.cell 3).trans rfl
                      have e4 : V2.cell? ⟨V1.heap.size, 4, none⟩ = some (.int .i64 0) := (b5.cell 4).trans rfl
                      have HE := Lib.hid ((HV1.out.2.trans hg2 fun _ _ e => e).toBelow)
                      clear b5 hg2 HV1 c3
                      go_wp2_with fail
                      go_ret
                      exact ⟨rfl, HE.out⟩
              | false =>
                go_wp2_with (first
                  | (at_builtin; refine wpList_new _ w rfl _ _ 22 rfl 5 i0 .u8 1 Try.underlying22 hi hz0 hz1 hz2 _ (([32] ++ ws) ++ [35] ++ rs) rfl (HN.out.1.fresh ((Kept.refl _ _).alloc _)) _ 1 1 [_] rfl (Row.one _ _ _ _) (by unfold maxLen; have h1 := HM.out; simp; omega) (by have h1 := HM.out; simp; omega) ?_
                     intro v3 X3 N3
                     obtain ⟨gl, hgl⟩ : ∃ gl, gl = ([32] ++ ws) ++ [35] ++ rs ++ [10] := ⟨_, rfl⟩
                     rw [← hgl] at N3
                     have hgp : gapL gl := ⟨[32] ++ ws, rs, fun c hc => by
                       rcases List.mem_append.1 hc with h | h
                       · rw [List.mem_singleton] at h; rw [h]; decide
                       · exact HG1.out.2.1 c h, by simp, HN.out.2.2.1, .inr (by rw [hgl]; simp)⟩
                     have hg8 : ∀ c ∈ gl, 0 ≤ c ∧ c < 256 := fun c hc => by
                       rw [hgl] at hc
                       simp only [List.mem_append, List.mem_singleton] at hc
                       rcases hc with (((h | h) | h) | h) | h
                       · omega
                       · have := HG1.out.2.1 c h; unfold blk at this; omega
                       · omega
                       · exact HN.out.2.2.2 c h
                       · omega
                     have hgz : gl.length ≤ 59 := by rw [hgl]; have h1 := HM.out; simp; omega
                     obtain ⟨Ag, cg, e3, hg3, _⟩ := N3.1.row
                     obtain ⟨ng, hng⟩ : ∃ ng, ng = gl.length := ⟨_, rfl⟩
                     rw [← hng] at e3 hg3
                     subst e3
                     have HGL := Lib.hid (And.intro hgp (And.intro hg8 (And.intro hgz (And.intro hng hg3))))
                     have HX3 := Lib.hid N3.2.2
                     clear hgl hgp hg8 hgz hng hg3 N3)
                  | (at_builtin; refine wpList_new_full _ (P5W X3 a b) (Kept.refl _ _) rfl _ _ 22 rfl 5 i0 .u8 1 Try.underlying22 hi hz0 hz1 hz2 ⟨X3.heap.size + 1, 0, none⟩ 2 [80, 53] rfl (p5w X3 a b).mrk.row Ag ng cg gl rfl (HGL.out.2.2.2.2.kept (p5w X3 a b).fr (fun _ _ _ _ => id)) (by rw [HGL.out.2.2.2.1]; obtain ⟨c, r, e, _⟩ := gap_head HGL.out.1; rw [e]; simp) (by unfold maxLen; rw [HGL.out.2.2.2.1]; have := HGL.out.2.2.1; omega) (by rw [HGL.out.2.2.2.1]; have := HGL.out.2.2.1; omega) ?_; intro v4 X4 N4))
                have H4 := Lib.hid N4
                clear N4 hcv hq1 hq2 hq3 hq4
                refine (hDigits_any a X4 (by have := HG.out; omega)).mono ?_
                rintro e V5 ⟨rfl, hf5⟩
                have H5 := Lib.hid (H4.out.fresh hf5)
                have ZA := dgL_ok (v := a) (by have := HG.out; omega)
                have ZB := dgL_ok (v := b) (by have := HG.out; omega)
                have HZ := Lib.hid (And.intro ZA ZB)
                have z5 : Hid ((dgL a).length ≤ 5 ∧ (dgL b).length ≤ 5) := Lib.hid ⟨ZA.2.2.1, ZB.2.2.1⟩
                have HDA := Lib.hid (strCells_of (xs := dgL a) fun c hc => by have h1 := ZA.1 c hc; unfold dgt at h1; omega)
                have HDB := Lib.hid (strCells_of (xs := dgL b) fun c hc => by have h1 := ZB.1 c hc; unfold dgt at h1; omega)
                clear hf5 ZA ZB
                generalize strOfNums (dgL a) = sa at *
                generalize strOfNums (dgL b) = sb2 at *
                generalize hla : dgL a = la at *
                generalize hlb : dgL b = lb at *
                have HLL := Lib.hid (And.intro hla hlb)
                clear hla hlb
                have HST : Hid (a = a * 1) := Lib.hid (Nat.mul_one a).symm
                obtain ⟨sb, hsb⟩ : ∃ sb, sb = a * b := ⟨_, rfl⟩
                have esb : (a : Int) * (b : Int) = (sb : Int) := by rw [hsb]; simp
                have hsb2 : sb ≤ 1200 := by rw [hsb]; exact Nat.mul_le_mul (show a ≤ 60 by have := HG.out; omega) HG.out.2.2.2.1
                obtain ⟨nn, hnn⟩ : ∃ nn : Int, nn = (sb : Int) - (m : Int) := ⟨_, rfl⟩
                have enn : (sb : Int) - (m : Int) = nn := hnn.symm
                have nn1 : -3 ≤ nn := by have := HG.out; omega
                have nn2 : nn ≤ 1200 := by omega
                have sb3 : (sb : Int) ≤ 1200 := by omega
                have HSB2 := Lib.hid (And.intro hsb (And.intro hnn hsb2))
                clear hsb hnn hsb2
                have KG : Hid (∀ V, Fresh (P5W X3 a b) V → Row V .u8 Ag ng gl) := Lib.hid fun V hV => (HGL.out.2.2.2.2.kept (p5w X3 a b).fr (fun _ _ _ _ => id)).kept hV (fun _ _ _ _ => id)
                go_wp2_with (first
                  | (at_builtin; refine wpList_new_str _ (P5W X3 a b) rfl _ _ 22 9 rfl 5 i0 Try.underlying22 Try.underlying9 hi hz0 hz1 hz2 _ ([80, 53] ++ gl) rfl H5.out sa la rfl HDA.out (by unfold maxLen; have h1 := HGL.out.2.2.1; have h2 := z5.out; simp; omega) (by have h1 := HGL.out.2.2.1; have h2 := z5.out; simp; omega) ?_; intro v5 X5 N5)
                  | (at_builtin; refine wpList_new _ (P5W X3 a b) rfl _ _ 22 rfl 5 i0 .u8 1 Try.underlying22 hi hz0 hz1 hz2 _ ([80, 53] ++ gl ++ la) rfl N5 Ag ng cg gl rfl (KG.out _ N5.2.2) (by unfold maxLen; rw [HGL.out.2.2.2.1]; have h1 := HGL.out.2.2.1; have h2 := z5.out; simp; omega) (by rw [HGL.out.2.2.2.1]; have h1 := HGL.out.2.2.1; have h2 := z5.out; simp; omega) ?_; intro v6 X6 N6; clear N5))
                have H6 := Lib.hid N6
                clear N6
                refine (hDigits_any b X6 (by have := HG.out; omega)).mono ?_
                rintro e V7 ⟨rfl, hf7⟩
                rw [HLL.out.2]
                have HSB : Hid (Lib.strCells (strOfNums lb) = ivs .u8 lb) := Lib.hid (strCells_of fun c hc => by have h1 := HZ.out.2.1 c hc; unfold dgt at h1; omega)
                generalize strOfNums lb = sb3 at *
                have H7 := Lib.hid (H6.out.fresh hf7)
                clear hf7
                go_wp2_with (first
                  | (at_builtin; refine wpList_new_str _ (P5W X3 a b) rfl _ _ 22 9 rfl 5 i0 Try.underlying22 Try.underlying9 hi hz0 hz1 hz2 _ ([80, 53] ++ gl ++ la ++ gl) rfl H7.out sb3 lb rfl HSB.out (by unfold maxLen; have h1 := HGL.out.2.2.1; have h2 := z5.out; simp; omega) (by have h1 := HGL.out.2.2.1; have h2 := z5.out; simp; omega) ?_; intro v8 X8 N8)
                  | (at_builtin; refine wpList_new _ (P5W X3 a b) rfl _ _ 22 rfl 5 i0 .u8 1 Try.underlying22 hi hz0 hz1 hz2 _ ([80, 53] ++ gl ++ la ++ gl ++ lb) rfl N8 Ag ng cg gl rfl (KG.out _ N8.2.2) (by unfold maxLen; rw [HGL.out.2.2.2.1]; have h1 := HGL.out.2.2.1; have h2 := z5.out; simp; omega) (by rw [HGL.out.2.2.2.1]; have h1 := HGL.out.2.2.1; have h2 := z5.out; simp; omega) ?_; intro v9 X9 N9; clear N8)
                  | (at_builtin; refine wpList_new_str _ (P5W X3 a b) rfl _ _ 22 9 rfl 5 i0 Try.underlying22 Try.underlying9 hi hz0 hz1 hz2 _ ([80, 53] ++ gl ++ la ++ gl ++ lb ++ gl) rfl N9 _ [50, 53, 53, 32] rfl rfl (by unfold maxLen; have h1 := HGL.out.2.2.1; have h2 := z5.out; simp; omega) (by have h1 := HGL.out.2.2.1; have h2 := z5.out; simp; omega) ?_
                     intro v10 X10 N10
                     obtain ⟨Lx, hLx⟩ : ∃ Lx, Lx = [80, 53] ++ gl ++ la ++ gl ++ lb ++ gl ++ [50, 53, 53, 32] := ⟨_, rfl⟩
                     rw [← hLx] at N10
                     have hsay : Lx = sayH 53 gl la lb := by rw [hLx]; unfold sayH; simp only [List.append_assoc]
                     obtain ⟨f, hff⟩ : ∃ f, f = Lx.length := ⟨_, rfl⟩
                     have hf200 : f ≤ 200 := by rw [hff, hsay, sayH_len]; have h1 := HGL.out.2.2.1; have h2 := z5.out; omega
                     obtain ⟨A10, c10, e10, _, _⟩ := N10.1.row
                     rw [← hff] at e10
                     subst e10
                     have b10 := (p5w X3 a b).blk.kept N10.2.2 id
                     have p2 : X10.cell? ⟨X3.heap.size, 2, none⟩ = some (.int .i64 1) := (b10.cell 2).trans rfl
                     have p3 : X10.cell? ⟨X3.heap.size, 3, none⟩ = some (.int .i64 0) := (b10.cell 3).trans rfl
                     have p4 : X10.cell? ⟨X3.heap.size, 4, none⟩ = some (.int .i64 0) := (b10.cell 4).trans rfl
                     have p3f : X10.frozen? ⟨X3.heap.size, 3, none⟩ = false := b10.frozen 3
                     have p4f : X10.frozen? ⟨X3.heap.size, 4, none⟩ = false := b10.frozen 4
                     have HLx := Lib.hid (And.intro hsay (And.intro hff hf200))
                     have H10 := Lib.hid (And.intro N10 b10)
                     clear hsay hff hf200 hLx N10 b10 N9))
                have HW : Hid (NewRow w ((X10.setCell ⟨X3.heap.size, 3, none⟩ (.int .i64 (a : Nat))).setCell ⟨X3.heap.size, 4, none⟩ (.int .i64 (f : Nat))) 5 .u8 (.slice A10 f c10) Lx ∧ Blk ((X10.setCell ⟨X3.heap.size, 3, none⟩ (.int .i64 (a : Nat))).setCell ⟨X3.heap.size, 4, none⟩ (.int .i64 (f : Nat))) X3.heap.size 26 #[.int .i64 (a : Nat), .int .i64 (b : Nat), .int .i64 1, .int .i64 (a : Nat), .int .i64 (f : Nat)]) := Lib.hid (by
                  have hb := H10.out.2
                  have hne : (Value.slice A10 f c10).ownBlock ≠ some X3.heap.size := H10.out.1.1.ne_blk hb (by decide)
                  have hfw : Fresh w (P5W X3 a b) := HX3.out.trans (p5w X3 a b).fr fun _ _ e => e
                  have hfx : Fresh w X10 := hfw.trans H10.out.1.2.2 fun _ _ e => e
                  have hsz : w.heap.size ≤ X3.heap.size := HX3.out.size
                  refine ⟨⟨(H10.out.1.1.setFar (p := ⟨X3.heap.size, 3, none⟩) hne _).setFar (p := ⟨X3.heap.size, 4, none⟩) hne _, fun g e => Nat.le_trans hfw.size (H10.out.1.2.1 g e), (hfx.setCell (p := ⟨X3.heap.size, 3, none⟩) (fun e => by simp at e; omega) _).setCell (p := ⟨X3.heap.size, 4, none⟩) (fun e => by simp at e; omega) _⟩, ?_⟩
                  have := (hb.set_ 3 (.int .i64 (a : Nat))).set_ 4 (.int .i64 (f : Nat))
                  simpa using this)
                clear p2 p3 p4 p3f p4f
                generalize ((X10.setCell ⟨X3.heap.size, 3, none⟩ (.int .i64 (a : Nat))).setCell ⟨X3.heap.size, 4, none⟩ (.int .i64 (f : Nat))) = W10 at *
                go_loopw [17, 19] (fun v iv wq => ∃ k : Nat, k ≤ nn.toNat ∧ iv = .int .i64 (k : Int) ∧ NewRow w wq 5 .u8 v (Lx ++ pxs k) ∧ Blk wq X3.heap.size 26 #[.int .i64 (a : Nat), .int .i64 (b : Nat), .int .i64 1, .int .i64 (a : Nat), .int .i64 (f : Nat)]) (fun _ iv _ => (nn - intOf iv).toNat)
                case atStart => exact ⟨0, by omega, rfl, by rw [show pxs 0 = [] from rfl, List.append_nil]; exact HW.out.1, HW.out.2⟩
                case round =>
                  obtain ⟨kk, hkk, rfl, hN, hB⟩ := hrel
                  have HQ := Lib.hid (And.intro hN hB)
                  clear hN hB
                  by_cases hlt : (kk : Int) < nn
                  · obtain ⟨y, hy⟩ : ∃ y : Int, y = ((kk % 256 : Nat) : Int) := ⟨_, rfl⟩
                    have k3 : (kk : Int) % 256 = y := by omega
                    have Hy := Lib.hid hy
                    clear hy
                    have l7 : Hid ((Lx ++ pxs kk).length ≤ 2000) := Lib.hid (by rw [List.length_append, pxs_len]; have h1 := HLx.out.2; omega)
                    go_wp2_with (at_builtin; refine wpList_app _ rfl _ _ 22 rfl 5 i0 .u8 1 Try.underlying22 hi hz0 hz1 hz2 _ (Lx ++ pxs kk) rfl (HQ.out.1.1.alloc _) _ 1 1 [_] rfl (Row.one _ _ _ _) (by unfold maxLen; have := l7.out; omega) (by have := l7.out; omega) ?_; intro v9 X9 ho9 hg9 hat9)
                    have H9 := Lib.hid (And.intro ((HQ.out.1.fresh ((Kept.refl _ _).alloc _)).app ho9 hg9 hat9) ((HQ.out.2.alloc _).grown hg9 (fun e => HQ.out.1.1.ne_blk HQ.out.2 (by decide) e.symm)))
                    clear ho9 hg9 hat9
                    go_roundw
                    case rel => exact ⟨kk + 1, by omega, by go_num, by rw [pxs_succ, ← List.append_assoc, ← Hy.out]; exact H9.out.1, H9.out.2⟩
                    case measure => simp [intOf]; omega
                  · have hkn : kk = nn.toNat := by omega
                    obtain ⟨lb2, hlb2⟩ : ∃ lb2, lb2 = (Lx ++ pxs kk).length := ⟨_, rfl⟩
                    have hlb3 : lb2 = f + kk := by rw [hlb2, List.length_append, pxs_len, ← HLx.out.2.1]
                    obtain ⟨Av, cv, rfl, hrow, _⟩ := HQ.out.1.1.row
                    have hpic := say_pnm (s := 53) (g := gl) (da := la) (db := lb) (px := pxs kk) (a := a) (b := b) (by decide) HGL.out.1 HZ.out.1.1 HZ.out.1.2.1 z5.out.1 HZ.out.1.2.2.2 HZ.out.2.1 HZ.out.2.2.1 z5.out.2 HZ.out.2.2.2.2
                    rw [← HLx.out.1, ← hlb2, ← HLx.out.2.1, if_neg (by decide)] at hpic
                    have hby : ∀ c ∈ Lx ++ pxs kk, 0 ≤ c ∧ c < 256 := by
                      rw [HLx.out.1]
                      intro c hc
                      unfold sayH at hc
                      simp only [List.mem_append, List.mem_cons, List.not_mem_nil, or_false] at hc
                      have hd : ∀ (v : Nat), v < 100 → ∀ d ∈ dgL v, 0 ≤ d ∧ d < 256 := fun v hv d hdd => by have h1 := (dgL_ok hv).1 d hdd; unfold dgt at h1; omega
                      have hA := hd a (by have := HG.out; omega)
                      have hB := hd b (by have := HG.out; omega)
                      rw [HLL.out.1] at hA
                      rw [HLL.out.2] at hB
                      rcases hc with (h | h | h | h | h | h | h) | h
                      · omega
                      · exact HGL.out.2.1 c h
                      · exact hA c h
                      · exact HGL.out.2.1 c h
                      · exact hB c h
                      · exact HGL.out.2.1 c h
                      · omega
                      · exact pxs_byte _ c h
                    have HB := cPnm_any Av lb2 cv (Lx ++ pxs kk) wr (by rw [hlb2]; exact hrow) hby (by have := HLx.out.2; omega)
                    rw [hpic] at HB
                    rw [← hlb2]
                    have HB := Lib.hid HB
                    have b0 := HQ.out.2
                    have HF1 : Hid (Fresh w wr) := Lib.hid HQ.out.1.2.2
                    have HBP := Lib.hid b0
                    clear b0
                    by_cases hm0 : m = 0
                    · have hfit : fitP a b ((a * 1 : Nat) : Int) f lb2 := by
                        have h1 := HG.out
                        have h2 := HSB2.out
                        refine ⟨by omega, by omega, by omega, by omega, by omega, ?_⟩
                        have h3 : ((a * 1 : Nat) : Int) * (b : Int) = (sb : Int) := by rw [← esb]; rw [Nat.mul_one]
                        rw [h3]
                        omega
                      rw [show pnmR a b 1 f lb2 = some (a, b, 1, a, f) from by unfold pnmR; rw [if_pos hfit]; rw [Nat.mul_one]] at HB
                      simp only [pval, Option.isSome_some] at HB
                      have q1 : ¬ nn < (sb : Int) := by have := HSB2.out; omega
                      clear hlb2 hlb3 hrow hby hpic hfit hm0 hkk hkn
                      go_wp2_with fail
                      refine HB.out.mono ?_
                      rintro e V1 ⟨rfl, hg1⟩
                      have b3 := (HBP.out.kept hg1 id).alloc (.cells #[.int .i64 (a : Nat), .int .i64 (b : Nat), .int .i64 1, .int .i64 (a : Nat), .int .i64 (f : Nat)] 26)
                      have c3 : (V1.alloc (.cells #[.int .i64 (a : Nat), .int .i64 (b : Nat), .int .i64 1, .int .i64 (a : Nat), .int .i64 (f : Nat)] 26)).cell? ⟨X3.heap.size, 3, none⟩ = some (.int .i64 (a : Nat)) := (b3.cell 3).trans rfl
                      have HV1 := Lib.hid (And.intro b3 (And.intro (Blk.new V1 26 #[.int .i64 (a : Nat), .int .i64 (b : Nat), .int .i64 1, .int .i64 (a : Nat), .int .i64 (f : Nat)]) ((HF1.out.trans hg1 fun _ _ e => e).alloc (.cells #[.int .i64 (a : Nat), .int .i64 (b : Nat), .int .i64 1, .int .i64 (a : Nat), .int .i64 (f : Nat)] 26))))
                      clear b3 hg1 HB
                      go_wp2_with fail
                      refine (awakeP_any _).mono ?_
                      rintro e V2 ⟨rfl, hg2⟩
                      have b4 := HV1.out.1.kept hg2 id
                      have b5 := HV1.out.2.1.kept hg2 id
                      have d0 : V2.cell? ⟨X3.heap.size, 0, none⟩ = some (.int .i64 (a : Nat)) := (b4.cell 0).trans rfl
                      have d1 : V2.cell? ⟨X3.heap.size, 1, none⟩ = some (.int .i64 (b : Nat)) := (b4.cell 1).trans rfl
                      have d2 : V2.cell? ⟨X3.heap.size, 2, none⟩ = some (.int .i64 1) := (b4.cell 2).trans rfl
                      have d3 : V2.cell? ⟨X3.heap.size, 3, none⟩ = some (.int .i64 (a : Nat)) := (b4.cell 3).trans rfl
                      have d4 : V2.cell? ⟨X3.heap.size, 4, none⟩ = some (.int .i64 (f : Nat)) := (b4.cell 4).trans rfl
                      have e0 : V2.cell? ⟨V1.heap.size, 0, none⟩ = some (.int .i64 (a : Nat)) := (b5.cell 0).trans rfl
                      have e1 : V2.cell? ⟨V1.heap.size, 1, none⟩ = some (.int .i64 (b : Nat)) := (b5.cell 1).trans rfl
                      have e2 : V2.cell? ⟨V1.heap.size, 2, none⟩ = some (.int .i64 1) := (b5.cell 2).trans rfl
                      have e3 : V2.cell? ⟨V1.heap.size, 3, none⟩ = some (.int .i64 (a : Nat)) := (b5.cell 3).trans rfl
                      have e4 : V2.cell? ⟨V1.heap.size, 4, none⟩ = some (.int .i64 (f : Nat)) := (b5.cell 4).trans rfl
                      have HE := Lib.hid ((HV1.out.2.2.trans hg2 fun _ _ e => e).toBelow)
                      clear b4 b5 hg2 HV1 c3
                      go_wp2_with fail
                      go_ret
                      exact ⟨rfl, HE.out⟩
                    · have hfit : ¬ fitP a b ((a * 1 : Nat) : Int) f lb2 := by
                        have h1 := HG.out
                        have h2 := HSB2.out
                        rintro ⟨_, _, _, _, _, h3⟩
                        have h4 : ((a * 1 : Nat) : Int) * (b : Int) = (sb : Int) := by rw [← esb]; rw [Nat.mul_one]
                        rw [h4] at h3
                        have h5 : 1 ≤ sb := by rw [h2.1]; exact Nat.le_trans (show 1 ≤ a by omega) (Nat.le_mul_of_pos_right _ h1.2.1)
                        omega
                      rw [show pnmR a b 1 f lb2 = none from if_neg hfit] at HB
                      simp only [pval, Option.isSome_none] at HB
                      have q1 : nn < (sb : Int) := by have := HSB2.out; omega
                      clear hlb2 hlb3 hrow hby hpic hfit hm0 hkk hkn
                      go_wp2_with fail
                      refine HB.out.mono ?_
                      rintro e V1 ⟨rfl, hg1⟩
                      have b3 := (HBP.out.kept hg1 id).alloc (.cells #[.int .i64 0, .int .i64 0, .int .i64 0, .int .i64 0, .int .i64 0] 26)
                      have c3 : (V1.alloc (.cells #[.int .i64 0, .int .i64 0, .int .i64 0, .int .i64 0, .int .i64 0] 26)).cell? ⟨X3.heap.size, 3, none⟩ = some (.int .i64 (a : Nat)) := (b3.cell 3).trans rfl
                      have HV1 := Lib.hid (And.intro (Blk.new V1 26 #[.int .i64 0, .int .i64 0, .int .i64 0, .int .i64 0, .int .i64 0]) ((HF1.out.trans hg1 fun _ _ e => e).alloc (.cells #[.int .i64 0, .int .i64 0, .int .i64 0, .int .i64 0, .int .i64 0] 26)))
                      clear b3 hg1 HB
                      go_wp2_with fail
                      refine (awakeP_any _).mono ?_
                      rintro e V2 ⟨rfl, hg2⟩
                      have b5 := HV1.out.1.kept hg2 id
                      have e0 : V2.cell? ⟨V1.heap.size, 0, none⟩ = some (.int .i64 0) := (b5.cell 0).trans rfl
                      have e1 : V2.cell? ⟨V1.heap.size, 1, none⟩ = some (.int .i64 0) := (b5.cell 1).trans rfl
                      have e2 : V2.cell? ⟨V1.heap.size, 2, none⟩ = some (.int .i64 0) := (b5.cell 2).trans rfl
                      have e3 : V2.cell? ⟨V1.heap.size, 3, none⟩ = some (.int .i64 0) := (b5.cell 3).trans rfl
                      have e4 : V2.cell? ⟨V1.heap.size, 4, none⟩ = some (.int .i64 0) := (b5.cell 4).trans rfl
                      have HE := Lib.hid ((HV1.out.2.trans hg2 fun _ _ e => e).toBelow)
                      clear b5 hg2 HV1 c3
                      go_wp2_with fail
                      go_ret
                      exact ⟨rfl, HE.out⟩

set_option maxRecDepth 100000 in
theorem lifted (os : Os) (started : os.Started) (H : Type) (enc : TypeId × Value → H) :
    ReturnsInHanded {} Try.checked os 5 .any (Rows.pictureSaysSpec.pre6 enc Try.prog Try.f5 Rows.pictureSaysRow.domain false) (Rows.pictureSaysSpec.post enc Try.prog Try.f5 false true false false) := by
  refine returnsInHanded_of_change (C := Try.checked) Try.own started (by kernel_rfl) Try.func5
    (ChangeSpec.witness6 (enc := enc) (C := Try.checked) false ⟨#[], #[.int .i64 0, .int .i64 0, .bool false, .slice none 0 0, .string ⟨#[]⟩, .int .i64 0], []⟩ 8 (by kernel_rfl) (by kernel_rfl) (by kernel_rfl) (by kernel_rfl)) ?_
  intro W base args ds gs before hval0 hW hcnd _
  have hval : ∀ (j : Nat) t v, Try.f5.params[j]? = some t → args[j]? = some v → Value.okWide Try.prog W .any base t v := hval0
  have hpost : ∀ W', Below W.heap.size W W' → Rows.pictureSaysSpec.post enc Try.prog Try.f5 false true false false W args (.bool true) W' := fun W' hb =>
    law_post (by kernel_rfl) Try.underlying4 (by kernel_rfl) rfl (fun ds hl => match ds, hl with | [d1, d2, d3, d4, d5, d6], _ => ⟨rfl, rfl, rfl⟩) hW hb
  obtain ⟨p, q, hA0, hV, rfl, hfz, hnd⟩ := hW
  have hA : DataW.TrodAll enc Try.prog W 0 (fun _ => true) true Try.f5.params.toList args.toList ds p := hA0
  rw [Try.params5] at hA hval
  obtain ⟨v0, vs0, d0, ds0, p0, q0, hargs, rfl, rfl, h0, r0⟩ := trodAll_cons hA
  obtain ⟨v1, vs1, d1, ds1, p1, q1, rfl, rfl, rfl, h1, r1⟩ := trodAll_cons r0
  obtain ⟨v2, vs2, d2, ds2, p2, q2, rfl, rfl, rfl, h2, r2⟩ := trodAll_cons r1
  obtain ⟨v3, vs3, d3, ds3, p3, q3, rfl, rfl, rfl, h3, r3⟩ := trodAll_cons r2
  obtain ⟨v4, vs4, d4, ds4, p4, q4, rfl, rfl, rfl, h4, r4⟩ := trodAll_cons r3
  obtain ⟨v5, vs5, d5, ds5, p5, q5, rfl, rfl, rfl, h5, r5⟩ := trodAll_cons r4
  obtain ⟨rfl, rfl, rfl⟩ := trodAll_nil r5
  obtain rfl : args = #[v0, v1, v2, v3, v4, v5] := by cases args; simp_all
  obtain ⟨a0, rfl, rfl, rfl, w0⟩ := open_int Try.underlying3 (hval 0 3 v0 rfl rfl) h0
  obtain ⟨a1, rfl, rfl, rfl, w1⟩ := open_int Try.underlying3 (hval 1 3 v1 rfl rfl) h1
  obtain ⟨a2, rfl, rfl, rfl⟩ := open_bool Try.underlying4 (hval 2 4 v2 rfl rfl) h2
  obtain ⟨A3, n3, c3, xs3, rfl, hz3, hr3, hb3, hn3, hc3⟩ := open_rowc Try.underlying22 Try.underlying5 (by kernel_rfl) (hval 3 22 v3 rfl rfl) h3
  obtain ⟨a4, rfl, e4, rfl, hs4⟩ := Go.ChangeMaps.open_string Try.underlying9 (hval 4 9 v4 rfl rfl) h4
  subst e4
  obtain ⟨a5, rfl, rfl, rfl, w5⟩ := open_int Try.underlying3 (hval 5 3 v5 rfl rfl) h5
  refine (walk a0 a1 a2 A3 n3 c3 xs3 a4 a5 W hz3 hr3 (range_bytes hb3) hn3 hc3 hs4).mono fun e W' ⟨he, hb⟩ => ⟨_, he, hpost W' hb⟩

/-- The statement. -/
theorem proved : Rows.PictureSaysSaid :=
  OpenClaim.holds_of_wide 5 Try.f5 rfl rfl rfl rfl rfl rfl rfl ⟨rfl, rfl, rfl, rfl, rfl⟩ rfl rfl rfl rfl rfl (by kernel_rfl) Try.func5 (by kernel_rfl)
    (of_decide_eq_true (by kernel_rfl)) (by unfold Func.isWrapper; first | (rw [if_pos (by decide +kernel)]; kernel_rfl) | (rw [if_neg (by decide +kernel)]; exact ⟨rfl, rfl⟩))
    (fun os started H enc _ => lifted os started H enc)
#print axioms proved

end Go.Proofs.Ytlmhodkdcllcjaa.pictureSays
