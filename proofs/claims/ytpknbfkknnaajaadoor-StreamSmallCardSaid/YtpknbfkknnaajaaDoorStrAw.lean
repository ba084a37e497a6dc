/- awake, and Pack and Unpack whatever is asked of them. -/
import Derived.Test.YtpknbfkknnaajaaDoorStrF
import Derived.Test.YtpknbfkknnaajaaDoorModAw
import Derived.Laws.BitsLemmas
import Derived.Lib.SlBytesConst
namespace Go.Proofs.YtpknbfkknnaajaaDoor
set_option maxRecDepth 100000
open Go.RowKit

attribute [local go_sem ↓] Go.wp_at_zero Go.wp_at_succ

/-- The levels and lengths that may not be. -/
def bad (lv n : Int) : Prop := lv < 0 ∨ 3 ≤ lv ∨ 1048576 < n
instance (lv n : Int) : Decidable (bad lv n) := by unfold bad; infer_instance
def badE (lv : Int) : Int := if lv < 0 ∨ 3 ≤ lv then 1 else 5
theorem lv_nat {lv n : Int} (h : ¬ bad lv n) : ((lv.toNat : Nat) : Int) = lv ∧ lv.toNat ≤ 2 ∧ n ≤ 1048576 := by
  unfold bad at h; omega

/-- What Pack answers. -/
def PkP (w w' : World) (e : Ending) (lv : Int) (xs : List Int) : Prop :=
  ∃ u, e = .returned (.tuple #[u, .int .i64 (if bad lv xs.length then badE lv else 0)]) ∧ NewRow w w' 5 .u8 u (if bad lv xs.length then [] else packB lv.toNat (bbs xs))
theorem NewRow.none (w : World) : NewRow w w 5 .u8 (.slice none 0 0) [] := ⟨Own.nil _ _ _, fun k e => (by cases e), Kept.refl _ _⟩
theorem cPackP (A : Option Addr) (n c : Nat) (xs : List Int) (lv : Int) (w : World) (hk : Kin w) (hr : Row w .u8 A n xs) (hb : ∀ x ∈ xs, 0 ≤ x ∧ x < 256) :
    Calls Tryd.prog 10 #[.slice A n c, .int .i64 lv] w fun e w' => PkP w w' e lv xs := by
  have hlen := hr.len
  by_cases h : bad lv xs.length
  · have h' := h
    unfold bad at h'
    refine (cPack_not A n c lv w (by omega)).mono ?_
    rintro e w' ⟨rfl, rfl⟩
    unfold PkP
    rw [if_pos h, if_pos h]
    exact ⟨_, rfl, NewRow.none _⟩
  · obtain ⟨h1, h2, h3⟩ := lv_nat h
    have := cPack_any A n c xs lv.toNat w hk hr (byteC hb) (by omega) h2
    rw [h1] at this
    unfold PkP
    rw [if_neg h, if_neg h]
    exact this

/-- What Unpack answers. -/
def UnA (w w' : World) (e : Ending) (lv m : Int) (xs : List Int) : Prop :=
  ∃ u, e = .returned (.tuple #[u, .int .i64 (if lv < 0 ∨ 3 ≤ lv ∨ m < 0 then 1 else if 1048576 < m then 5 else if okB lv.toNat xs m.toNat then 0 else 4)]) ∧
    NewRow w w' 5 .u8 u (if (lv < 0 ∨ 3 ≤ lv ∨ m < 0) ∨ 1048576 < m ∨ ¬ okB lv.toNat xs m.toNat then [] else outB lv.toNat xs m.toNat)
theorem UnA.of_not {w : World} {lv m : Int} {xs : List Int} (h : lv < 0 ∨ 3 ≤ lv ∨ m < 0 ∨ 1048576 < m) : UnA w w (.returned (.tuple #[.slice none 0 0, .int .i64 (if lv < 0 ∨ 3 ≤ lv ∨ m < 0 then 1 else 5)])) lv m xs := by
  unfold UnA
  by_cases h1 : lv < 0 ∨ 3 ≤ lv ∨ m < 0
  · rw [if_pos h1, if_pos h1, if_pos (.inl h1)]
    exact ⟨_, rfl, NewRow.none _⟩
  · rw [if_neg h1, if_neg h1, if_pos (by omega), if_pos (.inr (.inl (by omega)))]
    exact ⟨_, rfl, NewRow.none _⟩
theorem UnA.of {w w' : World} {e : Ending} {lv m : Int} {xs : List Int} {L M : Nat} (h1 : (L : Int) = lv) (h2 : (M : Int) = m) (hl : L ≤ 2) (hm : M ≤ 1048576) (h : ∃ u, e = .returned (.tuple #[u, .int .i64 (if okB L xs M then 0 else 4)]) ∧ NewRow w w' 5 .u8 u (if okB L xs M then outB L xs M else [])) : UnA w w' e lv m xs := by
  subst h1
  subst h2
  unfold UnA
  rw [if_neg (by omega), if_neg (by omega), Int.toNat_natCast, Int.toNat_natCast]
  obtain ⟨u, e1, h2⟩ := h
  refine ⟨u, e1, ?_⟩
  by_cases hok : okB L xs M
  · rw [if_pos hok] at h2
    rw [if_neg (fun h3 => by rcases h3 with h3 | h3 | h3 <;> first | omega | exact h3 hok)]
    exact h2
  · rw [if_neg hok] at h2
    rw [if_pos (.inr (.inr hok))]
    exact h2
theorem cUnpackA (b o n c : Nat) (xs : List Int) (m lv : Int) (w : World) (hk : Kin w) (hr : Row w .u8 (some ⟨b, o, none⟩) n xs) (hby : ∀ x ∈ xs, 0 ≤ x ∧ x < 256) (hn : n ≤ 1000000000) :
    Calls Tryd.prog 14 #[.slice (some ⟨b, o, none⟩) n c, .int .i64 m, .int .i64 lv] w fun e w' => UnA w w' e lv m xs := by
  by_cases h : lv < 0 ∨ 3 ≤ lv ∨ m < 0 ∨ 1048576 < m
  · refine (cUnpack_not _ n c m lv w h).mono ?_
    rintro e w' ⟨rfl, rfl⟩
    exact UnA.of_not h
  · have := cUnpack_any b o n c xs m.toNat lv.toNat w hk hr hby hn (by omega) (by omega)
    rw [show ((m.toNat : Nat) : Int) = m by omega, show ((lv.toNat : Nat) : Int) = lv by omega] at this
    exact this.mono fun e w' h2 => UnA.of (by omega) (by omega) (by omega) (by omega) h2

theorem packA : (packB 0 (bbs [97])).length = 5 := by decide +kernel

set_option maxHeartbeats 800000 in
theorem awake_any (w : World) (hk : Kin w) : Calls Tryd.prog 8 #[] w fun e w' => e = .returned (.bool true) ∧ Fresh w w' := by
  have hfa : Fresh w (w.alloc (.cells #[.int .u8 97] 5 (1, 2))) := (Kept.refl _ _).alloc _
  have hr : Row (w.alloc (.cells #[.int .u8 97] 5 (1, 2))) .u8 (some ⟨w.heap.size, 0, none⟩) 1 [97] :=
    ⟨rfl, fun j hj => ⟨w.heap.size, 0, rfl, by simp, by
      obtain rfl : j = 0 := by omega
      exact cell_of_row _ _ 0 #[.int .u8 97] 5 (1, 2) (heap_alloc_new w _)⟩⟩
  have hcv := Lib.run_convert_bytes_const (P := Tryd.prog) w 22 5 #[.int .u8 97] 1 1 Tryd.underlying22 Tryd.underlying5
  have HP := Lib.hid (fun c => cPack_any (some ⟨w.heap.size, 0, none⟩) 1 c [97] 0 _ (hk.kept hfa id) hr (byteC (by simp)) (by omega) (by omega))
  have HF := Lib.hid hfa
  clear hfa hr hk
  go_enter Tryd.func8, Tryd.ntmps8
  go_wp2_with fail
  refine (HP.out 1).mono ?_
  rintro e w1 ⟨u, rfl, hu, _, hf⟩
  obtain ⟨Au, cu, rfl, _, _⟩ := hu.row
  rw [packA]
  have HF1 := Lib.hid (HF.out.trans hf (fun _ _ h => h))
  clear hu hf HF HP hcv
  go_wp2_with fail
  go_ret
  exact ⟨rfl, HF1.out⟩

theorem range_bytes {xs : List Int} (h : ∀ x ∈ xs, (Lit.int .u8 x).wf = true) : ∀ x ∈ xs, 0 ≤ x ∧ x < 256 := fun x hx => by
  have := bounds_u8 (h x hx)
  omega
theorem PkP.bytes {lv : Int} {xs : List Int} : ∀ x ∈ (if bad lv xs.length then [] else packB lv.toNat (bbs xs)), 0 ≤ x ∧ x < 256 := by
  split
  · intro x hx; cases hx
  · exact packB_bytes _ _
theorem UnA.bytes {P : Prop} [Decidable P] {lv m : Int} {xs : List Int} : ∀ x ∈ (if P then [] else outB lv.toNat xs m.toNat), 0 ≤ x ∧ x < 256 := by
  split
  · intro x hx; cases hx
  · exact outB_byte _ _ _

/-- 'uint(n) % k'. -/
theorem u64_mod (n : Int) (k : Int) (hk : 0 < k) : ∃ r : Nat, (r : Int) < k ∧ (IntKind.u64.wrap n).tmod k = (r : Int) := by
  have h0 : 0 ≤ IntKind.u64.wrap n := by rw [IntKind.wrap_u64]; omega
  generalize IntKind.u64.wrap n = y at *
  rw [Int.tmod_eq_emod_of_nonneg h0]
  have h1 := Int.emod_nonneg y (show k ≠ 0 by omega)
  have h2 := Int.emod_lt_of_pos y hk
  exact ⟨(y % k).toNat, by omega, by omega⟩

end Go.Proofs.YtpknbfkknnaajaaDoor
