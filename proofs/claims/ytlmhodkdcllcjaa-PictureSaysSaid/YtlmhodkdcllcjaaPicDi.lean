/- A small number's digits. -/
import Derived.Test.YtlmhodkdcllcjaaPicSy
import Derived.Test.YtlmhodkdcllcjaaHelpStr
import Derived.Test.YtlmhodkdcllcjaaZeros
import Derived.Lib.AppendStr
namespace Go.Proofs.Ytlmhodkdcllcjaa
open Go.RowKit
set_option maxRecDepth 100000

attribute [local go_sem ↓] Go.wp_at_zero Go.wp_at_succ

/-- The digits of a number below 100. -/
def dgL (v : Nat) : List Int := if v < 10 then [48 + (v : Int)] else [48 + ((v / 10 : Nat) : Int), 48 + ((v % 10 : Nat) : Int)]
theorem dgL_ok {v : Nat} (h : v < 100) : (∀ d ∈ dgL v, dgt d) ∧ dgL v ≠ [] ∧ (dgL v).length ≤ 5 ∧ dnum 0 (dgL v) = v := by
  unfold dgL
  split
  · rename_i h1
    refine ⟨fun d hd => ?_, by simp, by simp, by simp only [dnum, List.foldl_cons, List.foldl_nil]; omega⟩
    rw [List.mem_singleton] at hd
    unfold dgt
    omega
  · rename_i h1
    refine ⟨fun d hd => ?_, by simp, by simp, ?_⟩
    · simp only [List.mem_cons, List.not_mem_nil, or_false] at hd
      unfold dgt
      omega
    · simp only [dnum, List.foldl_cons, List.foldl_nil]
      omega
theorem strCells_of {xs : List Int} (h : ∀ c ∈ xs, 0 ≤ c ∧ c < 256) : Lib.strCells (strOfNums xs) = ivs .u8 xs := by
  unfold Lib.strCells strOfNums ivs
  simp only [List.map_map]
  refine List.map_congr_left fun x hx => ?_
  have h1 := h x hx
  simp only [Function.comp_apply, UInt8.toNat_ofNat']
  congr 1
  omega
theorem strOf_app (xs ys : List Int) : strOfNums xs ++ strOfNums ys = strOfNums (xs ++ ys) := by
  unfold strOfNums
  rw [ByteArray.mk_append_mk, List.map_append]

set_option maxHeartbeats 1600000 in
theorem hDigit1_any (v : Nat) (w : World) (h : v < 10) :
    Calls Try.prog 16 #[.int .i64 v] w fun e w' => e = .returned (.string (strOfNums [48 + (v : Int)])) ∧ Fresh w w' := by
  obtain ⟨y, hy⟩ : ∃ y : Int, y = 48 + (v : Int) := ⟨_, rfl⟩
  have e1 : (48 : Int) + (v : Int) = y := hy.symm
  have e2 : y % 256 = y := by omega
  have hcv : ∀ V : World, (convert 22 9 (.slice (some ⟨V.heap.size, 0, none⟩) 1 1)).run Try.prog (V.alloc (.cells #[.int .u8 y] 5)) = .ok (.string (strOfNums [y])) (V.alloc (.cells #[.int .u8 y] 5)) := fun V => row_string (Row.one V 5 .u8 y) 1
  have v1 : ¬ (v : Int) < 0 := by omega
  have v2 : (v : Int) < 10 := by omega
  have r1 : (0 : Int) ≤ y := by omega
  have r2 : y ≤ 60 := by omega
  rw [← hy]
  clear hy
  go_enter Try.func16, Try.ntmps16
  go_wp2_with fail
  go_ret
  exact ⟨rfl, (Kept.refl _ _).alloc _⟩

set_option maxHeartbeats 3200000 in
theorem hDigits_any (v : Nat) (w : World) (h : v < 100) :
    Calls Try.prog 16 #[.int .i64 v] w fun e w' => e = .returned (.string (strOfNums (dgL v))) ∧ Fresh w w' := by
  by_cases h10 : v < 10
  · rw [show dgL v = [48 + (v : Int)] from if_pos h10]
    exact hDigit1_any v w h10
  · rw [show dgL v = [48 + ((v / 10 : Nat) : Int)] ++ [48 + ((v % 10 : Nat) : Int)] from if_neg h10]
    obtain ⟨q, hq⟩ : ∃ q, q = v / 10 := ⟨_, rfl⟩
    obtain ⟨d, hd⟩ : ∃ d, d = v % 10 := ⟨_, rfl⟩
    have HD := Lib.hid (hDigit1_any q · (show q < 10 by omega))
    obtain ⟨y, hy⟩ : ∃ y : Int, y = 48 + (d : Int) := ⟨_, rfl⟩
    have e0 : (v : Int) / 10 = (q : Int) := by omega
    have e0t : (v : Int).tdiv 10 = (q : Int) := by rw [Int.tdiv_eq_ediv_of_nonneg (by omega)]; exact e0
    have e1 : (v : Int) % 10 = (d : Int) := by omega
    have e1t : (v : Int).tmod 10 = (d : Int) := by rw [Int.tmod_eq_emod_of_nonneg (by omega)]; exact e1
    have e2 : (48 : Int) + (d : Int) = y := hy.symm
    have e3 : y % 256 = y := by omega
    have v1 : ¬ (v : Int) < 0 := by omega
    have v2 : ¬ (v : Int) < 10 := by omega
    have r1 : (0 : Int) ≤ y := by omega
    have r2 : y ≤ 60 := by omega
    have g1 : IntKind.i64.wrap (q : Int) = (q : Int) := IntWalk.i64_in _ (by omega)
    have g2 : IntKind.i64.wrap y = y := IntWalk.i64_in _ (by omega)
    have g3 : IntKind.u8.wrap y = y := IntWalk.u8_in _ (by omega)
    rw [← hq, ← hd, ← hy, ← strOf_app]
    obtain ⟨s1, hs1⟩ : ∃ s1, s1 = strOfNums [48 + (q : Int)] := ⟨_, rfl⟩
    rw [← hs1] at HD ⊢
    have z1 : (s1.size : Int) ≤ 8388608 := by rw [hs1, strOfNums_size]; simp
    obtain ⟨s2, hs2⟩ : ∃ s2, s2 = strOfNums [y] := ⟨_, rfl⟩
    have z2 : (s2.size : Int) ≤ 8388608 := by rw [hs2, strOfNums_size]; simp
    have hcv : ∀ V : World, (convert 22 9 (.slice (some ⟨V.heap.size, 0, none⟩) 1 1)).run Try.prog (V.alloc (.cells #[.int .u8 y] 5)) = .ok (.string s2) (V.alloc (.cells #[.int .u8 y] 5)) := fun V => by rw [hs2]; exact row_string (Row.one V 5 .u8 y) 1
    have HK : Hid (∀ (V W : World), Fresh (V.alloc (.cells #[.int .u8 y] 5)) W → (convert 22 9 (.slice (some ⟨V.heap.size, 0, none⟩) 1 1)).run Try.prog W = .ok (.string s2) W) := Lib.hid fun V W hf => by rw [hs2]; exact row_string ((Row.one V 5 .u8 y).kept hf (fun _ _ _ _ => id)) 1
    have hcd : (convert 22 9 (.slice (some ⟨w.heap.size, 0, none⟩) 1 1)).run Try.prog (w.alloc (.cells #[.int .u8 y] 5)).drew = .ok (.string s2) (w.alloc (.cells #[.int .u8 y] 5)).drew := HK.out w _ (Kept.refl _ _).drew
    rw [← hs2]
    clear hy hq hd hs1 hs2 h h10
    go_enter Try.func16, Try.ntmps16
    go_wp2_with fail
    go_region_with (go_at_call 16; with_reducible refine (HD.out _).mono ?_; rintro e w2 ⟨rfl, hf2⟩; first | (have hcB : (convert 22 9 (.slice (some ⟨w.heap.size, 0, none⟩) 1 1)).run Try.prog w2 = .ok (.string s2) w2 := HK.out w w2 (((Kept.refl (fun _ => False) (w.alloc (.cells #[.int .u8 y] 5))).drew).trans hf2 fun _ _ e => e)) | skip)
    all_goals
      go_wp2_with fail
      go_ret
      first
        | exact ⟨rfl, (((Kept.refl (fun _ => False) w).drew).trans hf2 fun _ _ e => e).alloc _⟩
        | exact ⟨rfl, ((((Kept.refl (fun _ => False) w).alloc _).drew).trans hf2 fun _ _ e => e)⟩

end Go.Proofs.Ytlmhodkdcllcjaa
