/- Texts of this proof, one behind the other: CodQF, Round, GueQ, Lists. -/
import Derived.Test.YtpknbfkknnaajaaDoorPart22
import Derived.Test.YtpknbfkknnaajaaDoorPart2
import Derived.Lib.MinMax
import Derived.Test.YtpknbfkknnaajaaDoorPart11
import Derived.BigQuiet
import Derived.Deep.QuietTactic
import Derived.BigRegion
import Derived.Deep.RegionHeld3
import Derived.Deep.DrawnRows
import Derived.Deep.RegionLaw
import Derived.StillTailTactics
import Derived.Test.YtpknbfkknnaajaaDoorPart4

/- The document's Flush. -/
namespace Go.Proofs.YtpknbfkknnaajaaDoor
set_option maxRecDepth 100000
open Go.RowKit

def fourI (l : Nat) : List Int := [(l : Int) / 16777216 % 256, (l : Int) / 65536 % 256, (l : Int) / 256 % 256, (l : Int) % 256]
theorem fourI_eq (l : Nat) : fourI l = fourB l := by simp [fourI, fourB]

set_option maxHeartbeats 1600000 in
/-- Flush: P4.1. -/
theorem qFlush_any (g l h : Nat) (v : Value) (bs : List Int) (w : World) (e : EncR w g l h v bs) (o : Open l h) (hlen : bs.length ≤ 1000000000) :
    Calls Tryd.prog 26 #[.pointer (some ⟨g, 0, none⟩)] w fun e w' => FPost w w' g 71 v 4294967295 e (bs ++ fourB l) := by
  obtain ⟨i0, hi, hz0, hz1, hz2⟩ := info_parts Tryd.infoByteC
  have c0 : w.cell? ⟨g, 0, none⟩ = some (.int .u32 l) := by simpa using e.blk.cell 0
  have c2 : w.cell? ⟨g, 2, none⟩ = some v := by simpa using e.blk.cell 2
  have hl : l < 4294967296 := by have := o.lt; have := o.hi; omega
  have hne := e.ne_ (by decide)
  have w1 : IntKind.u8.wrap ((l : Int) / 16777216) = (l : Int) / 16777216 % 256 := by rw [IntKind.wrap_u8]
  have w2 : IntKind.u8.wrap ((l : Int) / 65536) = (l : Int) / 65536 % 256 := by rw [IntKind.wrap_u8]
  have w3 : IntKind.u8.wrap ((l : Int) / 256) = (l : Int) / 256 % 256 := by rw [IntKind.wrap_u8]
  have w4 : IntKind.u8.wrap (l : Int) = (l : Int) % 256 := by rw [IntKind.wrap_u8]
  go_enter Tryd.func26, Tryd.ntmps26
  go_wp2_with (at_builtin; refine wpList_append_lies _ rfl (.tmp 13) (.tmp 25) 22 rfl 0 5 i0 (.int .u8 0) 1 1 Tryd.underlying22 hi hz0 hz1 hz2 rfl (by decide) _ bs.length (ivs .u8 bs) rfl (World.ownsRow.alloc e.own _) ⟨w.heap.size, 0, none⟩ 4 4 (ivs .u8 (fourI l)) rfl rfl (World.news_of_block (heap_alloc_new w _)) (ivs_one _ _) (by decide) (by unfold maxLen; omega) (by omega) (by omega) (w.heap.size + 1) (by simp) ?_)
  intro q cap w5 hown hgrow hat hlt
  clear w1 w2 w3 w4
  have hb5 := (e.blk.alloc (.cells (ivs .u8 (fourI l)).toArray 5)).grown hgrow (fun e => hne e.symm)
  have ho5 : Own w5 5 .u8 (.slice (some ⟨q, 0, none⟩) (bs.length + 4) cap) (bs ++ fourB l) := by
    rw [← fourI_eq l]
    exact Own.of_append hown rfl
  have hv5 : ∀ k, (Value.slice (some ⟨q, 0, none⟩) (bs.length + 4) cap).ownBlock = some k → v.ownBlock = some k ∨ w.heap.size ≤ k := by
    intro k hk'
    have : q = k := by simpa [Value.ownBlock] using hk'
    subst this
    rcases hat with e | e
    · exact .inl e
    · exact .inr (by omega)
  have hk5 : Kept (EFoot g v) w w5 := Kept.grown (Kept.alloc (Kept.refl _ _) _) hgrow fun k e _ => .inr e
  have H5 := Lib.hid (And.intro hb5 (And.intro ho5 (And.intro hv5 hk5)))
  clear hb5 ho5 hv5 hk5 hown hgrow hat hi hz0 hz1 hz2 c0 c2
  go_wp2_with fail
  refine (qfull_any _).mono ?_
  rintro ee w6 ⟨rfl, hf⟩
  have hb6 := H5.out.1.kept hf id
  have d0 := hb6.cell 0
  have d1 := hb6.cell 1
  have d2 := hb6.cell 2
  have f0 := hb6.frozen 0
  have f1 := hb6.frozen 1
  have f2 := hb6.frozen 2
  simp only [List.getElem?_toArray, List.getElem?_cons_succ, List.getElem?_cons_zero] at d0 d1 d2
  have ho6 := H5.out.2.1.kept hf (fun _ _ => id)
  have hk6 := H5.out.2.2.2.fresh hf
  have hun := ho6.ne_blk hb6 (by decide)
  have H6 := Lib.hid (And.intro hb6 (And.intro ho6 hk6))
  clear hb6 ho6 hk6 hf
  go_wp2_with fail
  go_ret
  refine ⟨_, rfl, ?_, H5.out.2.2.1, ⟨?_, Own.nil _ _ _, by simp⟩, ?_⟩
  · exact ((H6.out.2.1.setFar hun _).setFar hun _).setFar hun _
  · simpa using ((H6.out.1.set_ 0 (.int .u32 0)).set_ 1 (.int .u32 4294967295)).set_ 2 (.slice none 0 0)
  · exact ((H6.out.2.2.setCell (fun _ => .inl rfl) _).setCell (fun _ => .inl rfl) _).setCell (fun _ => .inl rfl) _

end Go.Proofs.YtpknbfkknnaajaaDoor

/- The contract of the document's Round. -/
namespace Go.Proofs.YtpknbfkknnaajaaDoor
open Go.RowKit

set_option maxHeartbeats 400000 in
theorem qRound_any (n : Nat) (i : Int) (w : World) (h0 : 0 < n) (hn : n ≤ 65536) :
    Calls Tryd.prog 66 #[.int .i64 i, .int .i64 n] w fun e w' => e = .returned (.int .i64 (pl i n : Nat)) ∧ w' = w := by
  have h1 := tmod_bd (i := i) h0
  have h2 := round_int (i := i) h0
  have hp := pl_lt i h0
  generalize pl i n = k at *
  go_enter Tryd.func66, Tryd.ntmps66
  go_wp2
  go_ret
  exact ⟨rfl, rfl⟩

end Go.Proofs.YtpknbfkknnaajaaDoor

/- The contracts of the document's own table: Round, New, At, Learn. -/
namespace Go.Proofs.YtpknbfkknnaajaaDoor
set_option maxRecDepth 100000
open Go.RowKit

attribute [local go_sem ↓] Go.wp_at_zero Go.wp_at_succ

/-- The document's table. -/
abbrev TabR (w : World) (g : Nat) (v : Value) (ps : List Nat) : Prop := Tab w g 107 v ps

set_option maxHeartbeats 800000 in
/-- At: P5.2. -/
theorem qgAt_any (g : Nat) (v : Value) (ps : List Nat) (i : Int) (w : World) (h : TabR w g v ps) :
    Calls Tryd.prog 45 #[.pointer (some ⟨g, 0, none⟩), .int .i64 i] w fun e w' => e = .returned (.int .i64 (ch (ps.getD (pl i ps.length) 0) : Nat)) ∧ ∃ n, w' = w.drewN n := by
  obtain ⟨q, cap, rfl, _⟩ := h.form
  have c0 : w.cell? ⟨g, 0, none⟩ = some (.slice (some ⟨q, 0, none⟩) ps.length cap) := by simpa using h.blk.cell 0
  have c1 := h.cell (pl_lt i h.pos)
  have hlt := h.getD_lt (pl i ps.length)
  have hp := pl_lt i h.pos
  have H := Lib.hid h
  have HR := Lib.hid (qRound_any ps.length i · h.pos h.le)
  clear h
  generalize ps.getD (pl i ps.length) 0 = x at *
  generalize pl i ps.length = k at *
  generalize hm : ps.length = m at *
  have h1 : (k : Int) < (m : Int) := by omega
  have h2 : (0 : Int) ≤ (k : Int) := by omega
  go_enter Tryd.func45, Tryd.ntmps45
  go_wp2_with fail
  go_quiet (first
    | (go_at_call 66; exact Calls.quiet_of_same (HR.out _))
    | (go_at_call 65; exact Calls.quiet_of_same (qChance_any _ _ hlt)))
  go_wp2_with fail
  go_ret
  exact ⟨rfl, _, rfl⟩

set_option maxHeartbeats 800000 in
/-- Learn: P5.2. -/
theorem qgLearn_any (g : Nat) (v : Value) (ps : List Nat) (i b r : Int) (w : World) (h : TabR w g v ps) :
    Calls Tryd.prog 51 #[.pointer (some ⟨g, 0, none⟩), .int .i64 i, .int .i64 b, .int .i64 r] w fun e w' => e = .returned (.tuple #[]) ∧
      TabR w' g v (ps.set (pl i ps.length) (nx (ps.getD (pl i ps.length) 0) (b != 0) (rt r))) ∧ Kept (fun k => v.ownBlock = some k) w w' := by
  obtain ⟨q, cap, rfl, _⟩ := h.form
  have c0 : w.cell? ⟨g, 0, none⟩ = some (.slice (some ⟨q, 0, none⟩) ps.length cap) := by simpa using h.blk.cell 0
  have c1 := h.cell (pl_lt i h.pos)
  have f1 := h.frozen (pl i ps.length)
  have hlt := h.getD_lt (pl i ps.length)
  have hp := pl_lt i h.pos
  have H := Lib.hid h
  have HR := Lib.hid (qRound_any ps.length i · h.pos h.le)
  clear h
  generalize ps.getD (pl i ps.length) 0 = x at *
  generalize pl i ps.length = k at *
  generalize hm : ps.length = m at *
  have h1 : (k : Int) < (m : Int) := by omega
  have h2 : (0 : Int) ≤ (k : Int) := by omega
  go_enter Tryd.func51, Tryd.ntmps51
  go_wp2_with fail
  refine (HR.out _).mono ?_
  rintro e w' ⟨rfl, rfl⟩
  go_wp2_with fail
  go_still_tail 16, (by kernel_rfl)
  still_call (qNext_any x b r _ hlt)
  still_step
  refine wpStill_nil ?_
  change wpList _ _ _ _ _ w'.drew
  go_wp2_with fail
  go_end0
  subst hm
  exact ⟨rfl, Tab.drew (Tab.stored H.out (by decide) k (nx x (b != 0) (rt r)) (nx_lt hlt _ _)), (Kept.setCell (Kept.refl (fun k => (Value.slice (some ⟨q, 0, none⟩) ps.length cap).ownBlock = some k) _) (p := ⟨q, k, none⟩) (fun _ => rfl) _).drew⟩

theorem rep_app (j : Nat) : nums (List.replicate (j + 1) 32768) = nums (List.replicate j 32768) ++ [32768] := by
  rw [List.replicate_succ']; simp [nums]

set_option maxHeartbeats 1600000 in
/-- New: P5.2. -/
theorem qgNew_any (n : Int) (w : World) : Calls Tryd.prog 39 #[.int .i64 n] w fun e w' => ∃ g v, e = .returned (.pointer (some ⟨g, 0, none⟩)) ∧ TabR w' g v (List.replicate (many_of n) 32768) ∧ w.heap.size ≤ g ∧ (∀ k, v.ownBlock = some k → w.heap.size ≤ k) ∧ Fresh w w' := by
  obtain ⟨i0, hi, hz0, hz1, hz2⟩ := info_parts Tryd.infoU16
  have hk := of_int2 n
  have hb := of_bd n
  generalize many_of n = m at *
  go_enter Tryd.func39, Tryd.ntmps39
  go_wp2_with fail
  go_loopw [4] (fun i wr => ∃ (j : Nat) (u : Value), j ≤ m ∧ i = .int .i64 j ∧ Blk wr w.heap.size 107 #[u] ∧ Own wr 108 .u16 u (nums (List.replicate j 32768)) ∧ (∀ k, u.ownBlock = some k → w.heap.size ≤ k) ∧ Fresh w wr) (fun i _ => (m - intOf i).toNat)
  case atStart => exact ⟨0, .slice none 0 0, by omega, rfl, Blk.new _ _ _, Own.nil _ _ _, (fun k h => by cases h), (Kept.refl _ _).alloc _⟩
  case round =>
    obtain ⟨j, u, hj, rfl, hbk, ho, hu, hf⟩ := hrel
    by_cases hlt : j < m
    · have hl : (nums (List.replicate j 32768)).length = j := by simp [nums]
      have hne := ho.ne_blk hbk (by decide)
      have c0 : wr.cell? ⟨w.heap.size, 0, none⟩ = some u := by simpa using hbk.cell 0
      have hti := rep_app j
      generalize nums (List.replicate j 32768) = xs at *
      have HH := Lib.hid (And.intro hbk (And.intro ho (And.intro hu (And.intro hf (And.intro hne (And.intro hti hl))))))
      clear hbk ho hu hf hne hti
      go_wp2_with (at_builtin; refine wpList_append_lies _ rfl (.tmp 18) (.tmp 19) 105 rfl 0 108 i0 (.int .u16 0) 1 2 Tryd.underlying105 hi hz0 hz1 hz2 rfl (by decide) _ xs.length (ivs .u16 xs) rfl (World.ownsRow.alloc HH.out.2.1 _) ⟨wr.heap.size, 0, none⟩ 1 1 (ivs .u16 [32768]) rfl rfl (cell_one_new _ _ _) (ivs_one _ _) (by decide) (by unfold maxLen; omega) (by omega) (by omega) (wr.heap.size + 1) (by simp) ?_)
      intro q cap w4 hown4 hgrow hat hlt4
      have ho4 : Own w4 108 .u16 (.slice (some ⟨q, 0, none⟩) (j + 1) cap) (nums (List.replicate (j + 1) 32768)) := by
        have := Own.of_append hown4 (by rw [HH.out.2.2.2.2.2.2]; rfl)
        rw [HH.out.2.2.2.2.2.1]
        exact this
      have hb4 := (HH.out.1.alloc (.cells #[.int .u16 32768] 108)).grown hgrow (fun e => HH.out.2.2.2.2.1 e.symm)
      have c4 : w4.cell? ⟨w.heap.size, 0, none⟩ = some u := by simpa using hb4.cell 0
      have f4 := hb4.frozen 0
      have hq : w.heap.size ≤ q ∧ q ≠ w.heap.size := by
        rcases hat with e | e
        · exact ⟨HH.out.2.2.1 q e, fun e' => HH.out.2.2.2.2.1 (by rw [e, e'])⟩
        · have := HH.out.2.2.2.1.size; have := HH.out.1.lt; omega
      have hf4 : Fresh w w4 := Kept.grown (HH.out.2.2.2.1.alloc _) hgrow fun k e hlt' => by have := HH.out.2.2.1 k e; omega
      have H4 := Lib.hid (And.intro hb4 (And.intro ho4 (And.intro hq hf4)))
      clear hb4 ho4 hq hf4 hown4 hgrow hat
      go_wp2_with fail
      go_roundw
      case rel =>
        refine ⟨j + 1, _, by omega, by go_num, ?_, H4.out.2.1.setFar (p := ⟨w.heap.size, 0, none⟩) ?_ _, fun k hk' => ?_, H4.out.2.2.2.setCell (p := ⟨w.heap.size, 0, none⟩) (fun h => by have h' : w.heap.size < w.heap.size := h; omega) _⟩
        · simpa using H4.out.1.set_ 0 (.slice (some ⟨q, 0, none⟩) (j + 1) cap)
        · simpa [Value.ownBlock] using H4.out.2.2.1.2
        · have : q = k := by simpa [Value.ownBlock] using hk'
          have := H4.out.2.2.1.1; omega
      case measure => simp [intOf]; omega
    · obtain rfl : j = m := by omega
      have HO := Lib.hid (And.intro hbk (And.intro ho (And.intro hu hf)))
      clear hbk ho hu hf
      go_wp2_with fail
      go_ret
      refine ⟨w.heap.size, u, rfl, ⟨HO.out.1, HO.out.2.1, fun p hp => ?_, by simp; omega, by simp; omega⟩, Nat.le_refl _, HO.out.2.2.1, HO.out.2.2.2⟩
      rw [List.eq_of_mem_replicate hp]; decide

end Go.Proofs.YtpknbfkknnaajaaDoor

/- A list of n lists of m numbers each, all of the call's own ([][]int): Lst; one list more (snoc), one number stored. -/
namespace Go.Proofs.YtpknbfkknnaajaaDoor
open Go.RowKit

/-- m numbers. -/
def lm (m : Nat) (f : Nat → Int) : List Int := (List.range m).map f
theorem lm_len (m : Nat) (f : Nat → Int) : (lm m f).length = m := by simp [lm]
theorem lm_get {m : Nat} {f : Nat → Int} {k : Nat} (h : k < m) : (lm m f).getD k 0 = f k := by simp [lm, h]
theorem lm_succ (m : Nat) (f : Nat → Int) : lm (m + 1) f = lm m f ++ [f m] := by
  unfold lm; rw [List.range_succ, List.map_append]; rfl
theorem lm_set {m : Nat} {f : Nat → Int} {k : Nat} (v : Int) : (lm m f).set k v = lm m (fun j => if j = k then v else f j) := by
  apply List.ext_getElem?
  intro i
  rw [List.getElem?_set]
  simp only [lm, List.length_map, List.length_range, List.getElem?_map]
  rcases Nat.lt_or_ge i m with hi | hi
  · rw [List.getElem?_range hi]
    by_cases e : k = i
    · subst e; simp [hi]
    · have e' : ¬ i = k := fun h => e h.symm
      simp [e, e']
  · rw [List.getElem?_eq_none (by simpa using hi)]
    by_cases e : k = i
    · subst e; simp; omega
    · simp [e]

/-- The slices of n lists of m: the i-th at block Q i, with room for C i. -/
def lvs (m : Nat) (Q C : Nat → Nat) (n : Nat) : List Value := (List.range n).map fun i => Value.slice (some ⟨Q i, 0, none⟩) m (C i)
theorem lvs_get {m : Nat} {Q C : Nat → Nat} {n i : Nat} (h : i < n) : (lvs m Q C n)[i]? = some (.slice (some ⟨Q i, 0, none⟩) m (C i)) := by simp [lvs, h]
theorem lvs_succ (m : Nat) (Q C : Nat → Nat) (n q c : Nat) : lvs m (fun i => if i = n then q else Q i) (fun i => if i = n then c else C i) (n + 1) = lvs m Q C n ++ [.slice (some ⟨q, 0, none⟩) m c] := by
  unfold lvs
  rw [List.range_succ, List.map_append]
  congr 1
  · apply List.map_congr_left
    intro i hi
    have hn := List.mem_range.1 hi
    have e : ¬ i = n := by omega
    simp [e]
  · simp

theorem Own.kept2 {S : Nat → Prop} {w w' : World} {v : Value} {e : TypeId} {m : Nat} {xs : List Value} (h : w.ownsRow 0 e 1 v m xs) (hk : Kept S w w') (hn : ∀ g, v.ownBlock = some g → ¬ S g) : w'.ownsRow 0 e 1 v m xs := by
  refine ⟨h.1, ?_⟩
  rcases h.2 with hn' | ⟨g, cap, cur, rfl, hb, hgg, rest⟩
  · exact .inl hn'
  · exact .inr ⟨g, cap, cur, rfl, hb, (hk.block g (Array.getElem?_eq_some_iff.1 hgg).1 (hn g rfl)).trans hgg, rest⟩
theorem Own.ne_blk2 {w : World} {v : Value} {e t : TypeId} {m : Nat} {xs : List Value} {g : Nat} {cs : Array Value} (h : w.ownsRow 0 e 1 v m xs) (hg : Blk w g t cs) (hne : e ≠ t) : v.ownBlock ≠ some g := by
  rcases h.2 with ⟨rfl, _⟩ | ⟨g', cap, cur, rfl, _, hh, _⟩
  · simp [Value.ownBlock]
  · intro he
    have : g' = g := by simpa [Value.ownBlock] using he
    subst this
    exact Blk.ne_ (t := e) hh hg hne rfl

/-- v owns n slices, each of which owns its m numbers W i; all lie behind block B, no two in one. -/
structure Lst (m : Nat) (w : World) (B : Nat) (v : Value) (n : Nat) (Q C : Nat → Nat) (W : Nat → Nat → Int) : Prop where
  own : w.ownsRow 0 110 1 v n (lvs m Q C n)
  row : ∀ i, i < n → Own w 3 .i64 (.slice (some ⟨Q i, 0, none⟩) m (C i)) (lm m (W i))
  inj : ∀ i j, i < n → j < n → Q i = Q j → i = j
  lo : ∀ i, i < n → B ≤ Q i
  vlo : ∀ k, v.ownBlock = some k → B ≤ k

section
variable {m : Nat} {w w' : World} {B : Nat} {v : Value} {n : Nat} {Q C : Nat → Nat} {W : Nat → Nat → Int}
theorem Lst.nil (m : Nat) (w : World) (B : Nat) (Q C : Nat → Nat) (W : Nat → Nat → Int) : Lst m w B (.slice none 0 0) 0 Q C W :=
  ⟨World.ownsRow_nil _ _ _ _, fun i hi => by omega, fun i j hi => by omega, fun i hi => by omega, fun k h => by cases h⟩
theorem Lst.blk (h : Lst m w B v n Q C W) {i : Nat} (hi : i < n) : ∃ cs, Blk w (Q i) 3 cs := by
  rcases (h.row i hi).2 with ⟨h', _⟩ | ⟨g, cap, cur, h', _, hg, _⟩
  · cases h'
  · simp only [Value.slice.injEq, Option.some.injEq, Addr.mk.injEq, and_true] at h'
    exact ⟨cur, by rw [h'.1]; exact hg⟩
theorem Lst.lt (h : Lst m w B v n Q C W) {i : Nat} (hi : i < n) : Q i < w.heap.size := by
  obtain ⟨cs, hb⟩ := h.blk hi
  exact hb.lt
/-- The slices lie in no list's block. -/
theorem Lst.apart (h : Lst m w B v n Q C W) {i : Nat} (hi : i < n) : v.ownBlock ≠ some (Q i) := by
  obtain ⟨cs, hb⟩ := h.blk hi
  exact Own.ne_blk2 h.own hb (by decide)
theorem Lst.kept {S : Nat → Prop} (h : Lst m w B v n Q C W) (hk : Kept S w w') (hv : ∀ g, v.ownBlock = some g → ¬ S g) (hq : ∀ i, i < n → ¬ S (Q i)) : Lst m w' B v n Q C W :=
  ⟨Own.kept2 h.own hk hv, fun i hi => (h.row i hi).kept hk (fun g hg => by
    have : Q i = g := by simpa [Value.ownBlock] using hg
    subst this; exact hq i hi), h.inj, h.lo, h.vlo⟩
theorem Lst.fresh (h : Lst m w B v n Q C W) (hk : Fresh w w') : Lst m w' B v n Q C W := h.kept hk (fun _ _ => id) (fun _ _ => id)
/-- A block of another type turns. -/
theorem Lst.far {S : Nat → Prop} (h : Lst m w B v n Q C W) {b : Nat} {t : TypeId} {cs : Array Value} (hk : Kept S w w') (hS : ∀ i, S i → i = b) (hb : Blk w b t cs) (h1 : 110 ≠ t) (h2 : 3 ≠ t) : Lst m w' B v n Q C W :=
  h.kept hk (fun g hg e => Own.ne_blk2 h.own hb h1 (by rw [hg, hS g e])) (fun i hi e => by
    obtain ⟨cs', hq⟩ := h.blk hi
    exact Blk.ne_ hq hb h2 (hS _ e))
theorem Lst.form (h : Lst m w B v n Q C W) (hn : 0 < n) : ∃ b cap, v = .slice (some ⟨b, 0, none⟩) n cap ∧ ∀ i, i < n → w.cell? ⟨b, i, none⟩ = some (.slice (some ⟨Q i, 0, none⟩) m (C i)) := by
  obtain ⟨b, cap, rfl, _, _⟩ := World.ownsRow.form h.own hn
  exact ⟨b, cap, rfl, fun i hi => by rw [World.ownsRow.cellAt h.own i (by omega), lvs_get hi]⟩
theorem Lst.slot {b cap : Nat} (h : Lst m w B (.slice (some ⟨b, 0, none⟩) n cap) n Q C W) {i : Nat} (hi : i < n) : w.cell? ⟨b, i, none⟩ = some (.slice (some ⟨Q i, 0, none⟩) m (C i)) := by
  rw [World.ownsRow.cellAt h.own i (by omega), lvs_get hi]
theorem Lst.cell (h : Lst m w B v n Q C W) {i k : Nat} (hi : i < n) (hk : k < m) : w.cell? ⟨Q i, k, none⟩ = some (.int .i64 (W i k)) := by
  have ho := h.row i hi
  rw [show m = (lm m (W i)).length from (lm_len _ _).symm] at ho
  have := Own.cell (cap := C i) (xs := lm m (W i)) (by simpa [lm_len] using h.row i hi) (j := k) (by rw [lm_len]; exact hk)
  rw [lm_get hk] at this
  exact this
theorem Lst.frozen (h : Lst m w B v n Q C W) {i : Nat} (hi : i < n) (k : Nat) : w.frozen? ⟨Q i, k, none⟩ = false :=
  Own.frozen (cap := C i) (xs := lm m (W i)) (by simpa [lm_len] using h.row i hi) k
theorem Lst.stored (h : Lst m w B v n Q C W) {s k : Nat} (hs : s < n) (x : Int) :
    Lst m (w.setCell ⟨Q s, k, none⟩ (.int .i64 x)) B v n Q C (gput W s k x) := by
  have hkp : Kept (fun i => i = Q s) w (w.setCell ⟨Q s, k, none⟩ (.int .i64 x)) := (Kept.refl (fun i => i = Q s) w).setCell (p := ⟨Q s, k, none⟩) (fun _ => rfl) _
  refine ⟨Own.kept2 h.own hkp (fun g hg e => h.apart hs (by rw [hg, e])), fun i hi => ?_, h.inj, h.lo, h.vlo⟩
  by_cases e : i = s
  · subst e
    have := Own.stored (cap := C i) (xs := lm m (W i)) (by simpa [lm_len] using h.row i hi) k x
    rw [lm_set, lm_len] at this
    rw [show gput W i k x i = fun j => if j = k then x else W i j from by funext j; simp [gput]]
    exact this
  · rw [show gput W s k x i = W i from by funext j; simp [gput, e]]
    exact (h.row i hi).kept hkp (fun g hg e' => by
      have : Q i = g := by simpa [Value.ownBlock] using hg
      exact e (h.inj i s hi hs (by omega)))
/-- One list more. -/
theorem Lst.snoc {q c g cap : Nat} {F : Nat → Int} (h : Lst m w B v n Q C (fun _ => F)) (hg : w.grownBy w' v.ownBlock)
    (ho : w'.ownsRow 0 110 1 (.slice (some ⟨g, 0, none⟩) (n + 1) cap) (n + 1) (lvs m Q C n ++ [.slice (some ⟨q, 0, none⟩) m c]))
    (hr : Own w 3 .i64 (.slice (some ⟨q, 0, none⟩) m c) (lm m F)) (hq : B ≤ q) (hqn : ∀ i, i < n → Q i ≠ q) (hgb : B ≤ g) (hqv : v.ownBlock ≠ some q) :
    Lst m w' B (.slice (some ⟨g, 0, none⟩) (n + 1) cap) (n + 1) (fun i => if i = n then q else Q i) (fun i => if i = n then c else C i) (fun _ => F) := by
  have hk : Kept (fun k => v.ownBlock = some k) w w' := (Kept.refl _ w).grown hg (fun k e _ => e)
  refine ⟨by rw [lvs_succ]; exact ho, fun i hi => ?_, fun i j hi hj e => ?_, fun i hi => ?_, fun k hk' => ?_⟩
  · by_cases e : i = n
    · subst e
      simp only [if_pos]
      exact hr.kept hk (fun k hk' e => by have : q = k := by simpa [Value.ownBlock] using hk'
                                          subst this; exact hqv e)
    · simp only [if_neg e]
      exact (h.row i (by omega)).kept hk (fun k hk' e' => by have : Q i = k := by simpa [Value.ownBlock] using hk'
                                                             subst this; exact h.apart (by omega : i < n) e')
  · by_cases e1 : i = n
    · by_cases e2 : j = n
      · omega
      · simp only [if_pos e1, if_neg e2] at e
        exact absurd e.symm (hqn j (by omega))
    · by_cases e2 : j = n
      · simp only [if_neg e1, if_pos e2] at e
        exact absurd e (hqn i (by omega))
      · simp only [if_neg e1, if_neg e2] at e
        exact h.inj i j (by omega) (by omega) e
  · by_cases e : i = n
    · simp only [if_pos e]; exact hq
    · simp only [if_neg e]; exact h.lo i (by omega)
  · have : g = k := by simpa [Value.ownBlock] using hk'
    omega
end

theorem Tryd.infoInts : (Tryd.prog.info? 110).map (fun i => (i.zero, i.size, i.bytes)) = some (some (.slice none 0 0), 1, 24) := by kernel_rfl
theorem Tryd.infoInt3 : (Tryd.prog.info? 3).map (fun i => (i.zero, i.size, i.bytes)) = some (some (.int .i64 0), 1, 8) := by kernel_rfl

end Go.Proofs.YtpknbfkknnaajaaDoor
