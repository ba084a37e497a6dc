/- The contracts of slices.Clone and coder.NewDecoder. -/
import Derived.Test.YtpknbfkknnaajaaDoorCodD
import Derived.Lib.SliceRun
namespace Go.Proofs.YtpknbfkknnaajaaDoor
set_option maxRecDepth 100000
open Go.RowKit

set_option maxHeartbeats 800000 in
theorem clone_any (b o n c : Nat) (xs : List Int) (w : World) (h : Row w .u8 (some ⟨b, o, none⟩) n xs) (hn : n ≤ 1000000000) :
    Calls Tryd.prog 68 #[.slice (some ⟨b, o, none⟩) n c] w fun e w' => ∃ v, e = .returned v ∧ NewRow w w' 5 .u8 v xs := by
  obtain ⟨i0, hi, hz0, hz1, hz2⟩ := info_parts Tryd.infoByteC
  have heq : ∀ W, (binOp .eql 22 (.slice (some ⟨b, o, none⟩) n c) (.slice none 0 0)).run Tryd.prog W = .ok (.bool false) W := fun W => Lib.run_eql_slice_nil W 22 5 (some ⟨b, o, none⟩) n c 0 0 Tryd.underlying22
  go_enter Tryd.func68, Tryd.ntmps68
  have hown : Own (w.alloc (.cells #[] 5)) 5 .u8 (.slice (some ⟨w.heap.size, 0, none⟩) 0 0) [] := ⟨rfl, .inr ⟨w.heap.size, 0, #[], rfl, Nat.zero_le _, heap_alloc_new w _, Nat.le_refl _, Nat.zero_le _, rfl, rfl⟩⟩
  have hr := h.kept ((Kept.refl (fun _ => False) w).alloc (.cells #[] 5)) (fun _ _ _ _ => id)
  have HO := Lib.hid hown
  have HR := Lib.hid hr
  clear hown hr h
  go_wp2_with (at_builtin; refine wpList_app _ rfl _ _ 22 rfl 5 i0 .u8 1 Tryd.underlying22 hi hz0 hz1 hz2 _ [] rfl HO.out (some ⟨b, o, none⟩) n c xs rfl HR.out (by unfold maxLen; simp; omega) (by simp; omega) ?_)
  intro v' w1 hown1 hg hat
  go_wp2_with fail
  go_ret
  refine ⟨v', rfl, by simpa using hown1, fun k hk => ?_, ?_⟩
  · rcases hat with e | e
    · rw [e] at hk
      have : w.heap.size = k := by simpa [Value.ownBlock] using hk
      omega
    · rw [e] at hk
      injection hk with hk
      have : (w.alloc (.cells #[] 5)).heap.size = w.heap.size + 1 := by simp
      omega
  · refine ((Kept.refl _ _).alloc _).grown hg fun k e hlt => ?_
    have : w.heap.size = k := by simpa [Value.ownBlock] using e
    omega

/-- The code behind the first j bytes. -/
def partN (bs : List Int) : Nat → Nat
  | 0 => 0
  | j + 1 => pushN bs (partN bs j) j
theorem part_four {bs : List Int} (hb : ∀ x ∈ bs, 0 ≤ x ∧ x < 256) : partN bs 4 = win bs 0 := by
  have h0 := byte_getD hb 0
  have h1 := byte_getD hb 1
  have h2 := byte_getD hb 2
  have h3 := byte_getD hb 3
  simp only [partN, pushN, win, Nat.zero_add]
  omega

/-- What NewDecoder leaves. -/
def NewDec (w w' : World) (e : Ending) (t : TypeId) (cs : Option Addr → Nat → Array Value) (bs : List Int) : Prop :=
  ∃ g A c, e = .returned (.pointer (some ⟨g, 0, none⟩)) ∧ Dec w' g t (cs A c) A bs ∧ w.heap.size ≤ g ∧ (∀ b o, A = some ⟨b, o, none⟩ → w.heap.size ≤ b) ∧ Fresh w w'

set_option maxHeartbeats 1600000 in
theorem newDec_any (b o n c : Nat) (xs : List Int) (w : World) (h : Row w .u8 (some ⟨b, o, none⟩) n xs) (hn : n ≤ 1000000000) (hby : ∀ x ∈ xs, 0 ≤ x ∧ x < 256) :
    Calls Tryd.prog 56 #[.slice (some ⟨b, o, none⟩) n c] w fun e w' => NewDec w w' e 88 (fun A c => cC 0 4294967295 A xs.length c (win xs 0) 0) xs := by
  have hlen := h.len
  have Hlen := Lib.hid hlen
  clear hlen
  go_enter Tryd.func56, Tryd.ntmps56
  go_wp2_with fail
  refine (clone_any b o n c xs _ h hn).mono ?_
  rintro e w1 ⟨v, rfl, ho, hvb, hf⟩
  obtain ⟨A, cA, rfl, hr, hA⟩ := ho.row
  have hAb : ∀ b o, A = some ⟨b, o, none⟩ → w.heap.size ≤ b ∧ b < w1.heap.size := fun b o e => ⟨hvb b (hA b o e), ho.lt (hA b o e)⟩
  have hd : DecC (w1.alloc (.cells #[.int .u32 0, .int .u32 0, .slice A xs.length cA, .int .u32 0, .int .i64 0] 88)) w1.heap.size 0 4294967295 A cA xs 0 0 :=
    ⟨Blk.new _ _ _, hr.kept ((Kept.refl (fun _ => False) _).alloc _) (fun _ _ _ _ => id), fun b o e _ => by have := hAb b o e; omega, hby, by have := Hlen.out; omega⟩
  have hk : Fresh w (w1.alloc (.cells #[.int .u32 0, .int .u32 0, .slice A xs.length cA, .int .u32 0, .int .i64 0] 88)) := hf.alloc _
  have hg : w.heap.size ≤ w1.heap.size := hf.size
  have H1 := Lib.hid (And.intro hd (And.intro hk (And.intro hAb hg)))
  clear hd hk hAb hg hf ho hr hA hvb
  go_wp2_with fail
  generalize w1.alloc (.cells #[.int .u32 0, .int .u32 0, .slice A xs.length cA, .int .u32 0, .int .i64 0] 88) = w2 at *
  generalize w1.heap.size = g at *
  go_loopw [9] (fun i wr => ∃ j : Nat, j ≤ 4 ∧ i = .int .i64 j ∧ DecC wr g 0 4294967295 A cA xs (partN xs j) 0 ∧ Fresh w wr) (fun i _ => (4 - intOf i).toNat)
  case atStart => exact ⟨0, by omega, rfl, H1.out.1, H1.out.2.1⟩
  case round =>
    obtain ⟨j, hj, rfl, hd, hf⟩ := hrel
    have HF := Lib.hid hf
    clear hf
    by_cases hlt : j < 4
    · go_wp2_with fail
      refine (push_any g 0 4294967295 A cA xs _ 0 j _ _ hd rfl).mono ?_
      rintro e3 w3 ⟨rfl, hd3, hk3⟩
      have hf3 : Fresh w w3 := HF.out.trans hk3 fun i hi e => by have := H1.out.2.2.2; omega
      have H3 := Lib.hid (And.intro hd3 hf3)
      clear hd3 hf3 hk3 hd
      go_wp2_with fail
      go_roundw
      case rel => exact ⟨j + 1, by omega, by go_num, H3.out.1, H3.out.2⟩
      case measure => simp [intOf]; omega
    · obtain rfl : j = 4 := by omega
      have HD := Lib.hid hd
      clear hd
      go_wp2_with fail
      go_ret
      refine ⟨g, A, cA, rfl, ?_, H1.out.2.2.2, fun b o e => (H1.out.2.2.1 b o e).1, HF.out⟩
      rw [← part_four hby]
      exact HD.out

end Go.Proofs.YtpknbfkknnaajaaDoor
