/- The contracts of coder.Encoder: Flush, nil encoders, awake. -/
import Derived.Test.YtpknbfkknnaajaaDoorCodE
namespace Go.Proofs.YtpknbfkknnaajaaDoor
set_option maxRecDepth 100000
open Go.RowKit

def itl : Nat → Nat → Nat
  | 0, l => l
  | n + 1, l => shl (itl n l)
def ith : Nat → Nat → Nat
  | 0, h => h
  | n + 1, h => shh (ith n h)
theorem itl_lt {l : Nat} (h : l < 4294967296) : ∀ n, itl n l < 4294967296
  | 0 => h
  | _ + 1 => by simp only [itl, shl]; omega
theorem ith_lt {l : Nat} (h : l < 4294967296) : ∀ n, ith n l < 4294967296
  | 0 => h
  | _ + 1 => by simp only [ith, shh]; omega
theorem four_take {l : Nat} (h : l < 4294967296) (j : Nat) (hj : j < 4) : (fourB l).take (j + 1) = (fourB l).take j ++ [((itl j l : Nat) : Int) / 16777216] := by
  match j, hj with
  | 0, _ => simp [fourB, itl]; omega
  | 1, _ => simp [fourB, itl, shl]; omega
  | 2, _ => simp [fourB, itl, shl]; omega
  | 3, _ => simp [fourB, itl, shl]; omega

/-- What Flush leaves: the bytes, and a new encoder. -/
def FPost (w w' : World) (g : Nat) (t : TypeId) (v : Value) (y : Int) (e : Ending) (bs' : List Int) : Prop :=
  ∃ u, e = .returned u ∧ Own w' 5 .u8 u bs' ∧ (∀ k, u.ownBlock = some k → v.ownBlock = some k ∨ w.heap.size ≤ k) ∧ Enc w' g t 0 y (.slice none 0 0) [] ∧ Kept (EFoot g v) w w'

set_option maxHeartbeats 1600000 in
/-- Flush: P4.1. -/
theorem flush_any (g l h : Nat) (v : Value) (bs : List Int) (w : World) (e : EncC w g l h v bs) (o : Open l h) (hlen : bs.length ≤ 1000000000) :
    Calls Tryd.prog 20 #[.pointer (some ⟨g, 0, none⟩)] w fun e w' => FPost w w' g 66 v 0 e (bs ++ fourB l) := by
  obtain ⟨i0, hi, hz0, hz1, hz2⟩ := info_parts Tryd.infoByteC
  have c2 : w.cell? ⟨g, 2, none⟩ = some v := by simpa using e.blk.cell 2
  have hl : l < 4294967296 := by have := o.lt; have := o.hi; omega
  have hh := o.hi
  have hne := e.ne_ (by decide)
  go_enter Tryd.func20, Tryd.ntmps20
  go_wp2_with fail
  go_loopw [10, 3] (fun i u wr => ∃ j : Nat, j ≤ 4 ∧ i = .int .i64 j ∧ Blk wr g 66 #[.int .u32 (itl j l), .int .u32 (4294967295 - (ith j h : Int)), v] ∧ Own wr 5 .u8 u (bs ++ (fourB l).take j) ∧ (∀ k, u.ownBlock = some k → v.ownBlock = some k ∨ w.heap.size ≤ k) ∧ Kept (EFoot g v) w wr) (fun i _ _ => (4 - intOf i).toNat)
  case atStart => exact ⟨0, by omega, rfl, e.blk, by simpa using e.own, fun _ hk => .inl hk, Kept.refl _ _⟩
  case round =>
    obtain ⟨j, hj, rfl, hb, ho, hv, hk⟩ := hrel
    clear c2
    by_cases hlt : j < 4
    · have hsp : Span wr g (itl j l) (ith j h) := ⟨by simpa using hb.cell 0, by simpa using hb.cell 1, hb.frozen 0, hb.frozen 1⟩
      obtain ⟨B, hB⟩ : ∃ B, bs ++ (fourB l).take j = B := ⟨_, rfl⟩
      have hln : B.length + 1 ≤ 2000000000 := by rw [← hB]; simp [fourB]; omega
      have hti : bs ++ (fourB l).take (j + 1) = B ++ [((itl j l : Nat) : Int) / 16777216] := by rw [four_take hl j hlt, ← List.append_assoc, hB]
      rw [hB] at ho
      clear hB
      have HT := Lib.hid hti
      have HH := Lib.hid (And.intro hb (And.intro ho (And.intro hv hk)))
      clear hti hb ho hv hk
      go_wp2_with fail
      refine (shift_any g _ _ _ hsp (itl_lt hl j) (ith_lt hh j)).mono ?_
      rintro e1 w3 ⟨rfl, hw3⟩
      have hk3 : Kept (fun k => k = g) wr w3 := by rw [hw3]; exact (Kept.one _ _ _ _).trans (Kept.one _ _ _ _) (fun _ _ h => h)
      have hb3 : Blk w3 g 66 #[.int .u32 (itl (j + 1) l), .int .u32 (4294967295 - (ith (j + 1) h : Int)), v] := by
        rw [hw3]; simpa [itl, ith] using (HH.out.1.set_ 0 (.int .u32 (shl (itl j l)))).set_ 1 (.int .u32 (4294967295 - (shh (ith j h) : Int)))
      have hun := HH.out.2.1.ne_blk HH.out.1 (by decide)
      have ho3 := HH.out.2.1.kept hk3 (fun k hk e => hun (by rw [hk, e]))
      have H3 := Lib.hid (And.intro hk3 (And.intro hb3 ho3))
      clear hk3 hb3 ho3 hw3 hsp
      go_wp2_with (at_builtin; refine wpList_append_lies _ rfl (.tmp 12) (.tmp 17) 22 rfl 0 5 i0 (.int .u8 0) 1 1 Tryd.underlying22 hi hz0 hz1 hz2 rfl (by decide) _ B.length (ivs .u8 B) rfl (World.ownsRow.alloc H3.out.2.2 _) ⟨w3.heap.size, 0, none⟩ 1 1 (ivs .u8 [((itl j l : Nat) : Int) / 16777216]) rfl rfl (cell_one_new _ _ _) (ivs_one _ _) (by decide) (by unfold maxLen; omega) (by omega) (by omega) (w3.heap.size + 1) (by simp) ?_)
      intro q cap w4 hown4 hgrow hat hlt4
      have ho4 : Own w4 5 .u8 (.slice (some ⟨q, 0, none⟩) (B.length + 1) cap) (bs ++ (fourB l).take (j + 1)) := by
        have := Own.of_append hown4 (by simp)
        rw [HT.out]
        exact this
      have hb4 := (H3.out.2.1.alloc (.cells #[.int .u8 (((itl j l : Nat) : Int) / 16777216)] 5)).grown hgrow (fun e => hun e.symm)
      have hv4 : ∀ k, (Value.slice (some ⟨q, 0, none⟩) (B.length + 1) cap).ownBlock = some k → v.ownBlock = some k ∨ w.heap.size ≤ k := by
        intro k hk'
        have : q = k := by simpa [Value.ownBlock] using hk'
        subst this
        rcases hat with e | e
        · exact HH.out.2.2.1 q e
        · exact .inr (by have := H3.out.1.size; have := HH.out.2.2.2.size; omega)
      have hk4 : Kept (EFoot g v) w w4 := by
        refine Kept.grown (Kept.alloc (HH.out.2.2.2.trans H3.out.1 fun _ _ e => .inl e) _) hgrow fun k e hlt' => ?_
        rcases HH.out.2.2.1 k e with e | e
        · exact .inr e
        · omega
      have H4 := Lib.hid (And.intro hb4 (And.intro ho4 (And.intro hv4 hk4)))
      clear hb4 ho4 hv4 hk4 hown4 hgrow hat
      go_wp2_with fail
      go_roundw
      case rel => exact ⟨j + 1, by omega, by go_num, H4.out⟩
      case measure => simp [intOf]; omega
    · obtain rfl : j = 4 := by omega
      have d0 := hb.cell 0
      have d1 := hb.cell 1
      have d2 := hb.cell 2
      have f0 := hb.frozen 0
      have f1 := hb.frozen 1
      have f2 := hb.frozen 2
      simp only [List.getElem?_toArray, List.getElem?_cons_succ, List.getElem?_cons_zero] at d0 d1 d2
      have hun : u3.ownBlock ≠ some g := ho.ne_blk hb (by decide)
      have HH := Lib.hid (And.intro hb (And.intro ho (And.intro hv hk)))
      clear hb ho hv hk
      go_wp2_with fail
      go_ret
      refine ⟨_, rfl, ?_, HH.out.2.2.1, ⟨?_, Own.nil _ _ _, by simp⟩, ?_⟩
      · exact ((HH.out.2.1.setFar hun _).setFar hun _).setFar hun _
      · simpa using ((HH.out.1.set_ 0 (.int .u32 0)).set_ 1 (.int .u32 0)).set_ 2 (.slice none 0 0)
      · exact ((HH.out.2.2.2.setCell (fun _ => .inl rfl) _).setCell (fun _ => .inl rfl) _).setCell (fun _ => .inl rfl) _

set_option maxHeartbeats 400000 in
theorem flush_nil (w : World) : Calls Tryd.prog 20 #[.pointer none] w fun e w' => e = .returned (.slice none 0 0) ∧ w = w' := by
  go_enter Tryd.func20, Tryd.ntmps20
  go_wp2
  go_ret
  exact ⟨rfl, rfl⟩

set_option maxHeartbeats 400000 in
theorem encode_nil (b c : Int) (w : World) : Calls Tryd.prog 62 #[.pointer none, .int .i64 b, .int .i64 c] w fun e w' => e = .returned (.tuple #[]) ∧ w = w' := by
  go_enter Tryd.func62, Tryd.ntmps62
  go_wp2
  refine bodyPost_ret (results_none rfl _ _ _) rfl ?_
  exact ⟨rfl, rfl⟩

theorem awake_enc : enc1 ((0 : Int) != 0) 0 4294967295 (cc 2048) = ([], 2147483648, 4294967295) := by decide +kernel
theorem awake_four : fourB 2147483648 = [128, 0, 0, 0] := by decide +kernel


end Go.Proofs.YtpknbfkknnaajaaDoor
