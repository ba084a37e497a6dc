/- Texts of this proof, one behind the other: MixQ. -/
import Derived.Test.YtpknbfkknnaajaaDoorPart23
import Derived.Test.YtpknbfkknnaajaaDoorPart13
import Derived.BigQuiet
import Derived.BigRegion
import Derived.Deep.DrawnRows
import Derived.Deep.QuietTactic
import Derived.Deep.RegionHeld3

/- The document's mixer: New. -/
namespace Go.Proofs.YtpknbfkknnaajaaDoor
set_option maxRecDepth 100000
open Go.RowKit

attribute [local go_sem ↓] Go.wp_at_zero Go.wp_at_succ

/-- Four numbers. -/
def l4 (f : Nat → Int) : List Int := [f 0, f 1, f 2, f 3]
theorem l4_get {f : Nat → Int} {k : Nat} (h : k < 4) : (l4 f).getD k 0 = f k := by
  rcases four h with rfl | rfl | rfl | rfl <;> rfl
theorem l4_set {f : Nat → Int} {k : Nat} (h : k < 4) (v : Int) : (l4 f).set k v = l4 (fun j => if j = k then v else f j) := by
  rcases four h with rfl | rfl | rfl | rfl <;> rfl

/-- The slices of n sets of weights: the i-th at block Q i, with room for C i. -/
def rvs (Q C : Nat → Nat) (n : Nat) : List Value := (List.range n).map fun i => Value.slice (some ⟨Q i, 0, none⟩) 4 (C i)
theorem rvs_get {Q C : Nat → Nat} {n i : Nat} (h : i < n) : (rvs Q C n)[i]? = some (.slice (some ⟨Q i, 0, none⟩) 4 (C i)) := by
  simp [rvs, h]
theorem rvs_len (Q C : Nat → Nat) (n : Nat) : (rvs Q C n).length = n := by simp [rvs]
theorem rvs_succ (Q C : Nat → Nat) (n q c : Nat) : rvs (fun i => if i = n then q else Q i) (fun i => if i = n then c else C i) (n + 1) = rvs Q C n ++ [.slice (some ⟨q, 0, none⟩) 4 c] := by
  unfold rvs
  rw [List.range_succ, List.map_append]
  congr 1
  · apply List.map_congr_left
    intro i hi
    have hn := List.mem_range.1 hi
    have e : ¬ i = n := by omega
    simp [e]
  · simp

/-- v owns n slices of weights W, each of which owns its four; all lie behind block B, no two in one. -/
structure Rws (w : World) (B : Nat) (v : Value) (n : Nat) (Q C : Nat → Nat) (W : Nat → Nat → Int) : Prop where
  own : w.ownsRow 0 110 1 v n (rvs Q C n)
  row : ∀ i, i < n → Own w 3 .i64 (.slice (some ⟨Q i, 0, none⟩) 4 (C i)) (l4 (W i))
  inj : ∀ i j, i < n → j < n → Q i = Q j → i = j
  lo : ∀ i, i < n → B ≤ Q i
  vlo : ∀ k, v.ownBlock = some k → B ≤ k

section
variable {w w' : World} {B : Nat} {v : Value} {n : Nat} {Q C : Nat → Nat} {W : Nat → Nat → Int}
theorem owns_kept {S : Nat → Prop} {e : TypeId} {m : Nat} {xs : List Value} (h : w.ownsRow 0 e 1 v m xs) (hk : Kept S w w') (hn : ∀ g, v.ownBlock = some g → ¬ S g) : w'.ownsRow 0 e 1 v m xs := by
  refine ⟨h.1, ?_⟩
  rcases h.2 with hn' | ⟨g, cap, cur, rfl, hb, hgg, rest⟩
  · exact .inl hn'
  · exact .inr ⟨g, cap, cur, rfl, hb, (hk.block g (Array.getElem?_eq_some_iff.1 hgg).1 (hn g rfl)).trans hgg, rest⟩
theorem owns_ne {e t : TypeId} {m : Nat} {xs : List Value} {g : Nat} {cs : Array Value} (h : w.ownsRow 0 e 1 v m xs) (hg : Blk w g t cs) (hne : e ≠ t) : v.ownBlock ≠ some g := by
  rcases h.2 with ⟨rfl, _⟩ | ⟨g', cap, cur, rfl, _, hh, _⟩
  · simp [Value.ownBlock]
  · intro he
    have : g' = g := by simpa [Value.ownBlock] using he
    subst this
    exact Blk.ne_ (t := e) hh hg hne rfl
theorem Rws.blk (h : Rws w B v n Q C W) {i : Nat} (hi : i < n) : ∃ cs, Blk w (Q i) 3 cs := by
  rcases (h.row i hi).2 with ⟨h', _⟩ | ⟨g, cap, cur, h', _, hg, _⟩
  · cases h'
  · simp only [Value.slice.injEq, Option.some.injEq, Addr.mk.injEq, and_true] at h'
    exact ⟨cur, by rw [h'.1]; exact hg⟩
theorem Rws.lt (h : Rws w B v n Q C W) {i : Nat} (hi : i < n) : Q i < w.heap.size := by
  obtain ⟨cs, hb⟩ := h.blk hi
  exact hb.lt
/-- The slices lie in no set's block. -/
theorem Rws.apart (h : Rws w B v n Q C W) {i : Nat} (hi : i < n) : v.ownBlock ≠ some (Q i) := by
  obtain ⟨cs, hb⟩ := h.blk hi
  exact owns_ne h.own hb (by decide)
theorem Rws.kept {S : Nat → Prop} (h : Rws w B v n Q C W) (hk : Kept S w w') (hv : ∀ g, v.ownBlock = some g → ¬ S g) (hq : ∀ i, i < n → ¬ S (Q i)) : Rws w' B v n Q C W :=
  ⟨owns_kept h.own hk hv, fun i hi => (h.row i hi).kept hk (fun g hg => by have : Q i = g := by simpa [Value.ownBlock] using hg
                                                                           subst this; exact hq i hi), h.inj, h.lo, h.vlo⟩
theorem Rws.fresh (h : Rws w B v n Q C W) (hk : Fresh w w') : Rws w' B v n Q C W := h.kept hk (fun _ _ => id) (fun _ _ => id)
end

theorem Rws.far {w : World} {B : Nat} {v : Value} {n : Nat} {Q C : Nat → Nat} {W : Nat → Nat → Int} (h : Rws w B v n Q C W) {b : Nat} {t : TypeId} {cs : Array Value} (hb : Blk w b t cs) (h1 : 110 ≠ t) (h2 : 3 ≠ t) (o : Nat) (u : Value) :
    Rws (w.setCell ⟨b, o, none⟩ u) B v n Q C W :=
  h.kept ((Kept.refl (fun i => i = b) w).setCell (p := ⟨b, o, none⟩) (fun _ => rfl) u) (fun g hg e => owns_ne h.own hb h1 (by rw [hg, e])) (fun i hi e => by
    obtain ⟨cs', hq⟩ := h.blk hi
    exact Blk.ne_ hq hb h2 e)

/-- One set more. -/
theorem Rws.snoc {w w' : World} {B : Nat} {v : Value} {n : Nat} {Q C : Nat → Nat} {x : Int} {q c g cap : Nat} (h : Rws w B v n Q C (fun _ _ => x)) (hg : w.grownBy w' v.ownBlock)
    (ho : w'.ownsRow 0 110 1 (.slice (some ⟨g, 0, none⟩) (n + 1) cap) (n + 1) (rvs Q C n ++ [.slice (some ⟨q, 0, none⟩) 4 c]))
    (hr : Own w 3 .i64 (.slice (some ⟨q, 0, none⟩) 4 c) (l4 fun _ => x)) (hq : B ≤ q) (hqn : ∀ i, i < n → Q i ≠ q) (hgb : B ≤ g) (hqv : v.ownBlock ≠ some q) :
    Rws w' B (.slice (some ⟨g, 0, none⟩) (n + 1) cap) (n + 1) (fun i => if i = n then q else Q i) (fun i => if i = n then c else C i) (fun _ _ => x) := by
  have hk : Kept (fun k => v.ownBlock = some k) w w' := (Kept.refl _ w).grown hg (fun k e _ => e)
  refine ⟨by rw [rvs_succ]; exact ho, fun i hi => ?_, fun i j hi hj e => ?_, fun i hi => ?_, fun k hk' => ?_⟩
  · by_cases e : i = n
    · subst e
      simp only [if_pos]
      exact hr.kept hk (fun k hk' e => by have : q = k := by simpa [Value.ownBlock] using hk'
                                          subst this; exact hqv e)
    · simp only [if_neg e]
      exact (h.row i (by omega)).kept hk (fun k hk' e' => by have : Q i = k := by simpa [Value.ownBlock] using hk'
                                                             subst this; exact h.apart (by omega : i < n) e')
  · by_cases e1 : i = n
    · by_cases e2 : j = n
      · omega
      · simp only [if_pos e1, if_neg e2] at e
        exact absurd e.symm (hqn j (by omega))
    · by_cases e2 : j = n
      · simp only [if_neg e1, if_pos e2] at e
        exact absurd e (hqn i (by omega))
      · simp only [if_neg e1, if_neg e2] at e
        exact h.inj i j (by omega) (by omega) e
  · by_cases e : i = n
    · simp only [if_pos e]; exact hq
    · simp only [if_neg e]; exact h.lo i (by omega)
  · have : g = k := by simpa [Value.ownBlock] using hk'
    omega

/-- The document's mixer as it is made, of which r sets are there. -/
abbrev newR (w : World) (g : Nat) (v : Value) : Prop := Blk w g 112 #[v, .slice none 0 0, .int .i64 0, .int .i64 0, .bool false]

theorem rep16 (k : Nat) : List.replicate (k + 1) (16384 : Int) = List.replicate k 16384 ++ [16384] := List.replicate_succ'

set_option maxHeartbeats 1600000 in
/-- New: P6.2. -/
theorem qmNew_any (n : Int) (w : World) : Calls Tryd.prog 40 #[.int .i64 n] w fun e w' => ∃ g v Q C, e = .returned (.pointer (some ⟨g, 0, none⟩)) ∧ newR w' g v ∧ Rws w' w.heap.size v (ns n) Q C (fun _ _ => 16384) ∧ w.heap.size ≤ g ∧ Fresh w w' := by
  obtain ⟨i0, hi, hz0, hz1, hz2⟩ := info_parts Tryd.infoInts
  obtain ⟨j0, ki, kz0, kz1, kz2⟩ := info_parts Tryd.infoInt3
  have hk := ns_int2 n
  have hb := ns_bd n
  generalize ns n = m at *
  go_enter Tryd.func40, Tryd.ntmps40
  go_wp2_with fail
  go_loopw [4] (fun i wr => ∃ (r : Nat) (v : Value) (Q C : Nat → Nat), r ≤ m ∧ i = .int .i64 r ∧ newR wr w.heap.size v ∧ Rws wr w.heap.size v r Q C (fun _ _ => 16384) ∧ Fresh w wr) (fun i _ => (m - intOf i).toNat)
  case atStart => exact ⟨0, .slice none 0 0, fun _ => 0, fun _ => 0, by omega, rfl, Blk.new _ _ _, ⟨World.ownsRow_nil _ _ _ _, fun i hi => by omega, fun i j hi => by omega, fun i hi => by omega, fun k h => by cases h⟩, (Kept.refl _ _).alloc _⟩
  case round =>
    obtain ⟨r, v, Q, C, hr, rfl, hbk, hrw, hf⟩ := hrel
    have HW := Lib.hid (And.intro hbk (And.intro hrw hf))
    by_cases hlt : r < m
    · clear hbk hrw hf
      obtain ⟨w0, rfl⟩ : ∃ w0, w0 = wr := ⟨_, rfl⟩
      go_wp2_with fail
      go_loopw [5, 6] (fun x i wq => ∃ (k : Nat) (u : Value), k ≤ 4 ∧ i = .int .i64 k ∧ u = x ∧ Own wq 3 .i64 u (List.replicate k 16384) ∧ (∀ b, u.ownBlock = some b → w0.heap.size ≤ b) ∧ Fresh w0 wq) (fun _ i _ => (4 - intOf i).toNat)
      case atStart => exact ⟨0, _, by omega, rfl, rfl, Own.nil _ _ _, (fun k h => by cases h), Kept.refl _ _⟩
      case round =>
        obtain ⟨k, u, hk4, rfl, rfl, ho, hu, hfq⟩ := hrel
        by_cases hlt2 : k < 4
        · have hl : (List.replicate k (16384 : Int)).length = k := by simp
          have hti := rep16 k
          have hd : decide ((k : Int) < 4) = true := by simp; omega
          generalize List.replicate k (16384 : Int) = xs at *
          have HH := Lib.hid (And.intro ho (And.intro hu (And.intro hfq (And.intro hti hl))))
          clear ho hu hfq hti hl
          go_wp2_with (at_builtin; refine wpList_append_lies _ rfl (.tmp 20) (.tmp 21) 110 rfl 0 3 j0 (.int .i64 0) 1 8 Tryd.underlying110 ki kz0 kz1 kz2 rfl (by decide) _ xs.length (ivs .i64 xs) rfl (World.ownsRow.alloc HH.out.1 _) ⟨wr.heap.size, 0, none⟩ 1 1 (ivs .i64 [16384]) rfl rfl (cell_one_new _ _ _) (ivs_one _ _) (by decide) (by have := HH.out.2.2.2.2; unfold maxLen; omega) (by have := HH.out.2.2.2.2; omega) (by omega) (wr.heap.size + 1) (by simp) ?_)
          intro q cap w4 hown4 hgrow hat hlt4
          have ho4 : Own w4 3 .i64 (.slice (some ⟨q, 0, none⟩) (xs.length + 1) cap) (List.replicate (k + 1) 16384) := by
            have := Own.of_append hown4 rfl
            rw [HH.out.2.2.2.1]
            exact this
          have hq : w0.heap.size ≤ q := by
            rcases hat with e | e
            · exact HH.out.2.1 q e
            · have := HH.out.2.2.1.size; omega
          have hf4 : Fresh w0 w4 := Kept.grown (HH.out.2.2.1.alloc _) hgrow fun k e hlt' => by have := HH.out.2.1 k e; omega
          have H4 := Lib.hid (And.intro ho4 (And.intro hq hf4))
          clear ho4 hq hf4 hown4 hgrow hat
          go_wp2_with fail
          go_roundw
          case rel => exact ⟨k + 1, _, by omega, by go_num, rfl, H4.out.1, fun b hb' => by
            have : q = b := by simpa [Value.ownBlock] using hb'
            have := H4.out.2.1; omega, H4.out.2.2⟩
          case measure => simp [intOf]; omega
        · obtain rfl : k = 4 := by omega
          obtain ⟨q, cu, rfl, hqlt⟩ := ho.form (by decide)
          have hqlo := hu q rfl
          have HA := Lib.hid (And.intro (HW.out.1.kept hfq id) (And.intro (HW.out.2.1.fresh hfq) (HW.out.2.2.trans hfq (fun _ _ h => h))))
          have HO := Lib.hid (And.intro ho (And.intro hqlo (fun i (hi : i < r) (e : Q i = q) => (by have := HW.out.2.1.lt hi; omega : False))))
          have hqw : w.heap.size ≤ q := Nat.le_trans HW.out.2.2.size hqlo
          clear ho hu hfq
          have c0 : wr.cell? ⟨w.heap.size, 0, none⟩ = some v := HA.out.1.cell 0
          have hvn := owns_ne HA.out.2.1.own HA.out.1 (by decide)
          have one1 : ∀ u ∈ [Value.slice (some ⟨q, 0, none⟩) 4 cu], u.oneCell' = true := fun u hu => by
            simp at hu; subst hu; rfl
          have HV := Lib.hid (And.intro hvn one1)
          clear hvn one1 HW hqlt hqlo
          go_wp2_with (at_builtin; refine wpList_append_lies _ rfl (.tmp 27) (.tmp 29) 109 rfl 0 110 i0 (.slice none 0 0) 1 24 Tryd.underlying109 hi hz0 hz1 hz2 rfl (by decide) v r (rvs Q C r) rfl (World.ownsRow.alloc HA.out.2.1.own _) ⟨wr.heap.size, 0, none⟩ 1 1 [.slice (some ⟨q, 0, none⟩) 4 cu] rfl rfl (cell_one_new _ _ _) HV.out.2 (by decide) (by unfold maxLen; omega) (by omega) (by omega) (wr.heap.size + 1) (by simp) ?_)
          intro g cap w4 hown4 hgrow hat hlt4
          have hgb : w.heap.size ≤ g := by
            rcases hat with e | e
            · exact HA.out.2.1.vlo g e
            · have := HA.out.2.2.size; omega
          have hb4 := (HA.out.1.alloc (.cells #[.slice (some ⟨q, 0, none⟩) 4 cu] 110)).grown hgrow (fun e => HV.out.1 e.symm)
          have hrw1 := HA.out.2.1.fresh ((Kept.refl (fun _ => False) wr).alloc (.cells #[.slice (some ⟨q, 0, none⟩) 4 cu] 110))
          have hr4 := hrw1.snoc hgrow hown4 (HO.out.1.alloc _) hqw HO.out.2.2 hgb (by
            intro e
            rcases HO.out.1.2 with ⟨h', _⟩ | ⟨q', cap', cur, h', _, hg', _⟩
            · cases h'
            · simp only [Value.slice.injEq, Option.some.injEq, Addr.mk.injEq, and_true] at h'
              rw [h'.1] at e
              exact owns_ne HA.out.2.1.own hg' (by decide) e)
          have hf4 : Fresh w w4 := Kept.grown (HA.out.2.2.alloc _) hgrow fun k e hlt' => by have := HA.out.2.1.vlo k e; omega
          have c4 : w4.cell? ⟨w.heap.size, 0, none⟩ = some v := hb4.cell 0
          have f4 := hb4.frozen 0
          have H4 := Lib.hid (And.intro hb4 (And.intro hr4 hf4))
          clear hb4 hr4 hf4 hown4 hgrow hat hrw1 c0
          go_wp2_with fail
          go_roundw
          case rel => exact ⟨r + 1, _, _, _, by omega, by go_num, by simpa using H4.out.1.set_ 0 (.slice (some ⟨g, 0, none⟩) (r + 1) cap), H4.out.2.1.far H4.out.1 (by decide) (by decide) _ _, H4.out.2.2.setCell (p := ⟨w.heap.size, 0, none⟩) (fun h => by have h' : w.heap.size < w.heap.size := h; omega) _⟩
          case measure => simp [intOf]; omega
    · obtain rfl : r = m := by omega
      clear hbk hrw hf
      go_wp2_with fail
      go_ret
      exact ⟨_, v, Q, C, rfl, HW.out.1, HW.out.2.1, Nat.le_refl _, HW.out.2.2⟩

end Go.Proofs.YtpknbfkknnaajaaDoor
