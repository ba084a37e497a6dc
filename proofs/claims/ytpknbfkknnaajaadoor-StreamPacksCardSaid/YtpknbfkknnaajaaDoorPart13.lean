/- Texts of this proof, one behind the other: MixM, MixNew. -/
import Derived.Test.YtpknbfkknnaajaaDoorPart12
import Derived.BigQuiet
import Derived.BigRegion
import Derived.Deep.DrawnRows
import Derived.Deep.QuietTactic
import Derived.Deep.RegionHeld3

/- The contracts of mix.Mixer: New, Mix, Learn, Weights. -/
namespace Go.Proofs.YtpknbfkknnaajaaDoor
set_option maxRecDepth 100000
open Go.RowKit

attribute [local go_sem ↓] Go.wp_at_zero Go.wp_at_succ

/-- The code's mixer at block g: n sets with the weights W, at block h; of the last Mix the set s, the inputs I, and what was told. -/
structure Mxr (w : World) (g h n : Nat) (W : Nat → Nat → Int) (s : Nat) (I : Nat → Int) (t : Int) : Prop where
  blk : Blk w g 137 #[.slice (some ⟨h, 0, none⟩) n n, .int .i64 s, .int .i64 (I 0), .int .i64 (I 1), .int .i64 (I 2), .int .i64 (I 3), .int .i64 t]
  sets : Blk w h 138 (wcs n W)
  pos : 0 < n
  le : n ≤ 4096
  lt : s < n
  bd : ∀ i k, -16777216 ≤ W i k ∧ W i k ≤ 16777216
  ib : ∀ k, -2047 ≤ I k ∧ I k ≤ 2047
  tb : 0 ≤ t ∧ t ≤ 4095

section
variable {w w' : World} {g h n s : Nat} {W : Nat → Nat → Int} {I : Nat → Int} {t : Int}
theorem Mxr.ne_ (m : Mxr w g h n W s I t) : g ≠ h := Blk.ne_ m.blk m.sets (by decide)
theorem Mxr.kept {S : Nat → Prop} (m : Mxr w g h n W s I t) (hk : Kept S w w') (hg : ¬ S g) (hh : ¬ S h) : Mxr w' g h n W s I t := ⟨m.blk.kept hk hg, m.sets.kept hk hh, m.pos, m.le, m.lt, m.bd, m.ib, m.tb⟩
theorem Mxr.drew (m : Mxr w g h n W s I t) : Mxr w.drew g h n W s I t := ⟨m.blk, m.sets, m.pos, m.le, m.lt, m.bd, m.ib, m.tb⟩
theorem Mxr.drewN (m : Mxr w g h n W s I t) (k : Nat) : Mxr (w.drewN k) g h n W s I t := ⟨m.blk, m.sets, m.pos, m.le, m.lt, m.bd, m.ib, m.tb⟩
theorem Mxr.c0 (m : Mxr w g h n W s I t) : w.cell? ⟨g, 0, none⟩ = some (.slice (some ⟨h, 0, none⟩) n n) := m.blk.cell 0
theorem Mxr.c1 (m : Mxr w g h n W s I t) : w.cell? ⟨g, 1, none⟩ = some (.int .i64 s) := m.blk.cell 1
theorem Mxr.c2 (m : Mxr w g h n W s I t) : w.cell? ⟨g, 2, none⟩ = some (.int .i64 (I 0)) := m.blk.cell 2
theorem Mxr.c3 (m : Mxr w g h n W s I t) : w.cell? ⟨g, 3, none⟩ = some (.int .i64 (I 1)) := m.blk.cell 3
theorem Mxr.c4 (m : Mxr w g h n W s I t) : w.cell? ⟨g, 4, none⟩ = some (.int .i64 (I 2)) := m.blk.cell 4
theorem Mxr.c5 (m : Mxr w g h n W s I t) : w.cell? ⟨g, 5, none⟩ = some (.int .i64 (I 3)) := m.blk.cell 5
theorem Mxr.c6 (m : Mxr w g h n W s I t) : w.cell? ⟨g, 6, none⟩ = some (.int .i64 t) := m.blk.cell 6
end

section
variable {w w' : World} {g h n s : Nat} {W : Nat → Nat → Int} {I : Nat → Int} {t : Int}
theorem Mxr.setS (m : Mxr w g h n W s I t) {p : Nat} (hp : p < n) : Mxr (w.setCell ⟨g, 1, none⟩ (.int .i64 p)) g h n W p I t :=
  ⟨by simpa using m.blk.set_ 1 (.int .i64 p), m.sets.far (by exact m.ne_.symm) _, m.pos, m.le, hp, m.bd, m.ib, m.tb⟩
theorem Mxr.setT (m : Mxr w g h n W s I t) {u : Int} (hu : 0 ≤ u ∧ u ≤ 4095) : Mxr (w.setCell ⟨g, 6, none⟩ (.int .i64 u)) g h n W s I u :=
  ⟨by simpa using m.blk.set_ 6 (.int .i64 u), m.sets.far (by exact m.ne_.symm) _, m.pos, m.le, m.lt, m.bd, m.ib, hu⟩
theorem Mxr.setI (m : Mxr w g h n W s I t) {J : Nat → Int} (hJ : ∀ k, -2047 ≤ J k ∧ J k ≤ 2047) :
    ∃ w', (Instr.storeAt 131 (.pointer (some ⟨g, 2, none⟩)) (.agg (a4 J))).run Tryd.prog w = .ok () w' ∧ Mxr w' g h n W s J t ∧ Kept (fun j => j = g) w w' := by
  refine ⟨_, run_storeAt_in m.blk (zero_of_info Tryd.infoA4).2 (by show 2 + 4 ≤ 7; omega) (a4_one J), ⟨?_, m.sets.kept ((Kept.refl (fun j => j = g) w).rowed _ (fun _ => rfl)) (fun e => m.ne_ e.symm), m.pos, m.le, m.lt, m.bd, hJ, m.tb⟩, (Kept.refl _ _).rowed _ (fun _ => rfl)⟩
  exact m.blk.rowed (cs' := _)
end

set_option maxHeartbeats 400000 in
theorem mEmpty_any (g h n : Nat) (W : Nat → Nat → Int) (s : Nat) (I : Nat → Int) (t : Int) (w : World) (m : Mxr w g h n W s I t) :
    Calls Tryd.prog 93 #[.pointer (some ⟨g, 0, none⟩)] w fun e w' => e = .returned (.bool false) ∧ w' = w := by
  have c0 := m.c0
  have hpos : ((n : Int) == 0) = false := by rw [beq_eq_false_iff_ne]; have := m.pos; omega
  clear m
  go_enter Tryd.func93, Tryd.ntmps93
  go_wp2
  go_ret
  exact ⟨rfl, rfl⟩
set_option maxHeartbeats 400000 in
theorem mEmpty_nil (w : World) :
    Calls Tryd.prog 93 #[.pointer none] w fun e w' => e = .returned (.bool true) ∧ w' = w := by
  go_enter Tryd.func93, Tryd.ntmps93
  go_wp2
  go_ret
  exact ⟨rfl, rfl⟩

set_option maxHeartbeats 800000 in
theorem mPlace_any (g h n : Nat) (W : Nat → Nat → Int) (s : Nat) (I : Nat → Int) (t : Int) (i : Int) (w : World) (m : Mxr w g h n W s I t) :
    Calls Tryd.prog 94 #[.pointer (some ⟨g, 0, none⟩), .int .i64 i] w fun e w' => e = .returned (.int .i64 (pl i n : Nat)) ∧ w' = w := by
  have c0 := m.c0
  have h0 := m.pos
  have hn := m.le
  have hp := pl_lt i h0
  clear m
  have hz : ((n : Int) == 0) = false := by rw [beq_eq_false_iff_ne]; omega
  rcases (by omega : i.tmod n < 0 ∨ 0 ≤ i.tmod n) with hs | hs
  · have he : i.tmod n = ((pl i n : Nat) : Int) - n := by have := tmod_neg h0 hs; omega
    generalize pl i n = k at *
    have hneg : decide ((k : Int) - n < 0) = true := by simp; omega
    clear hs
    go_enter Tryd.func94, Tryd.ntmps94
    go_wp2
    go_ret
    exact ⟨rfl, rfl⟩
  · have he := tmod_pos h0 hs
    generalize pl i n = k at *
    have hneg : decide ((k : Int) < 0) = false := by simp
    clear hs
    go_enter Tryd.func94, Tryd.ntmps94
    go_wp2
    go_ret
    exact ⟨rfl, rfl⟩

/-- A set's weights as they are, if they are another set's. -/
theorem upTo_bd {W : Nat → Nat → Int} {s : Nat} {I : Nat → Int} {e : Int} (h : ∀ i k, -16777216 ≤ W i k ∧ W i k ≤ 16777216) : ∀ i k, -16777216 ≤ learnt W s I e i k ∧ learnt W s I e i k ≤ 16777216 := by
  intro i k
  unfold learnt upTo
  split
  · exact lw_bd _ _ _
  · exact h i k

theorem tl_bd0 (I V : Nat → Int) : 0 ≤ sq (dotTo I V 4 / 65536) ∧ sq (dotTo I V 4 / 65536) ≤ 4095 := by
  have := sq_bd (dotTo I V 4 / 65536); omega

set_option maxHeartbeats 1600000 in
/-- Mix: P6.2. -/
theorem mMix_any (g h n : Nat) (W : Nat → Nat → Int) (s : Nat) (I : Nat → Int) (t : Int) (i : Int) (A : Option Addr) (k c : Nat) (xs : List Int) (w : World) (m : Mxr w g h n W s I t) (hr : Row w .i64 A k xs) (hA : ∀ b o, A = some ⟨b, o, none⟩ → 0 < k → b ≠ g) :
    Calls Tryd.prog 84 #[.pointer (some ⟨g, 0, none⟩), .int .i64 i, .slice A k c] w fun e w' => e = .returned (.int .i64 (tl (inp xs) (W (pl i n)))) ∧
      Mxr w' g h n W (pl i n) (inp xs) (tl (inp xs) (W (pl i n))) ∧ Kept (fun j => j = g) w w' := by
  have c0 := m.c0
  have c1 := m.c1
  have HE := Lib.hid (mEmpty_any g h n W s I t w m)
  have HP := Lib.hid (mPlace_any g h n W s I t i w m)
  have HM := Lib.hid m
  have f1 := m.blk.frozen 1
  have HR := Lib.hid (And.intro hr hA)
  have hp := pl_lt i m.pos
  clear m hr hA
  generalize pl i n = p at *
  go_enter Tryd.func84, Tryd.ntmps84
  go_wp2_with fail
  refine HE.out.mono ?_
  rintro e w' ⟨rfl, rfl⟩
  go_wp2_with fail
  refine HP.out.mono ?_
  rintro e w' ⟨rfl, rfl⟩
  go_wp2_with fail
  have hm1 := HM.out.setS hp
  have hk1 : Kept (fun j => j = g) w' (w'.setCell ⟨g, 1, none⟩ (.int .i64 p)) := (Kept.refl (fun j => j = g) w').setCell (p := ⟨g, 1, none⟩) (fun _ => rfl) _
  have H1 := Lib.hid (And.intro hm1 hk1)
  clear hm1 hk1 c0 c1 f1
  refine (taken_any A k c xs _ (HR.out.1.kept H1.out.2 HR.out.2)).mono ?_
  rintro e w2 ⟨rfl, hf2⟩
  have hm2 := H1.out.1.kept hf2 id id
  obtain ⟨w3, hst, hm3, hk3⟩ := hm2.setI (inp_bd xs)
  have hk13 : Kept (fun j => j = g) w' w3 := (H1.out.2.trans hf2 (fun _ _ h => h.elim)).trans hk3 (fun _ _ h => h)
  have HST := Lib.hid hst
  have H3 := Lib.hid (And.intro hm3 hk13)
  have c0 := hm3.c0
  have c1 := hm3.c1
  have c2 := hm3.c2
  have c3 := hm3.c3
  have c4 := hm3.c4
  have c5 := hm3.c5
  have c6 := hm3.c6
  have f6 := hm3.blk.frozen 6
  clear hf2 hm2 hst hm3 hk3 hk13
  go_wp2_with (refine wpList_store_eq rfl (.tmp 19) (.tmp 17) 131 rfl _ _ rfl rfl HST.out ?_)
  go_region_held3 (fun v => v.cell? ⟨g, 0, none⟩ = some (.slice (some ⟨h, 0, none⟩) n n) ∧ v.cell? ⟨g, 1, none⟩ = some (.int .i64 p) ∧ v.cell? ⟨g, 2, none⟩ = some (.int .i64 (inp xs 0)) ∧ v.cell? ⟨g, 3, none⟩ = some (.int .i64 (inp xs 1)) ∧ v.cell? ⟨g, 4, none⟩ = some (.int .i64 (inp xs 2)) ∧ v.cell? ⟨g, 5, none⟩ = some (.int .i64 (inp xs 3)))
    (first | exact ⟨hm6.c0, hm6.c1, hm6.c2, hm6.c3, hm6.c4, hm6.c5⟩ | exact ⟨hm5.c0, hm5.c1, hm5.c2, hm5.c3, hm5.c4, hm5.c5⟩ | go_keep)
    (first
      | (go_at_call 96; refine (dot_any h p n W (inp xs) _ H3.out.1.drew.sets hp H3.out.1.ib (fun k => H3.out.1.bd p k)).mono ?_; rintro e5 w5 ⟨rfl, hf5⟩; have hm5 := H3.out.1.drew.kept hf5 id id; have c56 := hm5.c6; have f56 := hm5.blk.frozen 6)
      | (go_at_call 86; refine (squash_any _ _).mono ?_; rintro e6 w6 ⟨rfl, rfl⟩; have hm6 := hm5.setT (tl_bd0 (inp xs) (W p))))
  have hk6 : Kept (fun j => j = g) w' (w6.setCell ⟨g, 6, none⟩ (.int .i64 (sq (dotTo (inp xs) (W p) 4 / 65536)))) := ((H3.out.2.drew).trans hf5 (fun _ _ h => h.elim)).setCell (p := ⟨g, 6, none⟩) (fun _ => rfl) _
  have H6 := Lib.hid (And.intro hm6 hk6)
  have d6 := hm6.c6
  clear hm6 hk6 hm5 hf5 c56 f56 c0 c1 c2 c3 c4 c5 c6 f6
  generalize w6.setCell ⟨g, 6, none⟩ _ = w7 at *
  go_wp2_with fail
  go_ret
  exact ⟨rfl, H6.out.1, H6.out.2⟩

/-- What Mix answers of nil. -/
theorem mMix_nil (i : Int) (v : Value) (w : World) : Calls Tryd.prog 84 #[.pointer none, .int .i64 i, v] w fun e w' => e = .returned (.int .i64 0) ∧ w' = w := by
  go_enter Tryd.func84, Tryd.ntmps84
  go_wp2_with fail
  refine (mEmpty_nil _).mono ?_
  rintro e w' ⟨rfl, rfl⟩
  go_wp2_with fail
  go_ret
  exact ⟨rfl, rfl⟩

set_option maxHeartbeats 800000 in
/-- Learn, without a Mix ahead: nothing. -/
theorem mLearn_none (g h n : Nat) (W : Nat → Nat → Int) (s : Nat) (I : Nat → Int) (b : Int) (w : World) (m : Mxr w g h n W s I 0) :
    Calls Tryd.prog 88 #[.pointer (some ⟨g, 0, none⟩), .int .i64 b] w fun e w' => e = .returned (.tuple #[]) ∧ w' = w := by
  have c6 := m.c6
  have HE := Lib.hid (mEmpty_any g h n W s I 0 w m)
  clear m
  go_enter Tryd.func88, Tryd.ntmps88
  go_wp2_with fail
  refine HE.out.mono ?_
  rintro e w' ⟨rfl, rfl⟩
  go_wp2_with fail
  refine bodyPost_ret (results_none rfl _ _ _) rfl ?_
  exact ⟨rfl, rfl⟩

set_option maxHeartbeats 400000 in
theorem mLearn_nil (b : Int) (w : World) : Calls Tryd.prog 88 #[.pointer none, .int .i64 b] w fun e w' => e = .returned (.tuple #[]) ∧ w' = w := by
  go_enter Tryd.func88, Tryd.ntmps88
  go_wp2_with fail
  refine (mEmpty_nil _).mono ?_
  rintro e w' ⟨rfl, rfl⟩
  go_wp2_with fail
  refine bodyPost_ret (results_none rfl _ _ _) rfl ?_
  exact ⟨rfl, rfl⟩

set_option maxHeartbeats 1600000 in
/-- Learn: P6.2. -/
theorem mLearn_any (g h n : Nat) (W : Nat → Nat → Int) (s : Nat) (I : Nat → Int) (t b : Int) (w : World) (m : Mxr w g h n W s I t) (ht : 1 ≤ t) :
    Calls Tryd.prog 88 #[.pointer (some ⟨g, 0, none⟩), .int .i64 b] w fun e w' => e = .returned (.tuple #[]) ∧
      Mxr w' g h n (learnt W s I (er (b != 0) t)) s I t ∧ Kept (fun j => j = h) w w' := by
  have c0 := m.c0
  have c1 := m.c1
  have c2 := m.c2
  have c3 := m.c3
  have c4 := m.c4
  have c5 := m.c5
  have c6 := m.c6
  have HE := Lib.hid (mEmpty_any g h n W s I t w m)
  have HM := Lib.hid m
  have hs := m.lt
  have ht2 := m.tb.2
  have hz : (t == 0) = false := by rw [beq_eq_false_iff_ne]; omega
  have s0 : (0 : Int) ≤ (s : Int) := by omega
  have s1 : (s : Int) < (n : Int) := by omega
  have he0 : er false t = 7 * -t := by unfold er; simp
  have he1 : er true t = 7 * (4095 - t) := by unfold er; simp
  have HL : Hid (∀ e V, -28665 ≤ e → e ≤ 28665 → Blk V h 138 (wcs n W) → Calls Tryd.prog 101 #[.pointer (some ⟨h, s * 4, none⟩), .agg #[.int .i64 (I 0), .int .i64 (I 1), .int .i64 (I 2), .int .i64 (I 3)], .int .i64 e] V fun r w' => r = .returned (.tuple #[]) ∧ Blk w' h 138 (wcs n (learnt W s I e)) ∧ Kept (fun i => i = h) V w') :=
    Lib.hid fun e V h0 h1 hb => wLearn_any h s n W I e V hb hs m.ib (fun k => m.bd s k) h0 h1
  have HN : Hid (∀ e w1, Blk w1 h 138 (wcs n (learnt W s I e)) → Kept (fun i => i = h) w.drew w1 → Mxr w1 g h n (learnt W s I e) s I t ∧ Kept (fun j => j = h) w w1) :=
    Lib.hid fun e w1 hb hk => ⟨⟨m.blk.drew.kept hk m.ne_, hb, m.pos, m.le, m.lt, upTo_bd m.bd, m.ib, m.tb⟩, (Kept.refl _ w).drew.trans hk (fun _ _ h => h)⟩
  obtain ⟨one, hone⟩ : ∃ one, (b != 0) = one := ⟨_, rfl⟩
  rw [hone]
  clear m
  cases one
  · rw [he0]
    clear he0 he1
    go_enter Tryd.func88, Tryd.ntmps88
    go_wp2_with fail
    refine HE.out.mono ?_
    rintro e w' ⟨rfl, rfl⟩
    go_wp2_with fail
    go_still_tail 20, (by kernel_rfl)
    change wpList _ _ _ _ _ w'.drew
    go_wp2_with fail
    refine (HL.out (7 * -t) _ (by omega) (by omega) HM.out.sets.drew).mono ?_
    rintro e w1 ⟨rfl, hb, hk⟩
    go_wp2_with fail
    go_end0
    exact ⟨rfl, HN.out _ _ hb hk⟩
  · rw [he1]
    clear he0 he1
    go_enter Tryd.func88, Tryd.ntmps88
    go_wp2_with fail
    refine HE.out.mono ?_
    rintro e w' ⟨rfl, rfl⟩
    go_wp2_with fail
    go_still_tail 20, (by kernel_rfl)
    change wpList _ _ _ _ _ w'.drew
    go_wp2_with fail
    refine (HL.out (7 * (4095 - t)) _ (by omega) (by omega) HM.out.sets.drew).mono ?_
    rintro e w1 ⟨rfl, hb, hk⟩
    go_wp2_with fail
    go_end0
    exact ⟨rfl, HN.out _ _ hb hk⟩



end Go.Proofs.YtpknbfkknnaajaaDoor

/- The contract of mix.New. -/
namespace Go.Proofs.YtpknbfkknnaajaaDoor
set_option maxRecDepth 100000
open Go.RowKit

attribute [local go_sem ↓] Go.wp_at_zero Go.wp_at_succ

/-- How many sets. -/
def ns (n : Int) : Nat := (min (max n 1) 4096).toNat
theorem ns_int (n : Int) : min (max n 1) 4096 = ((ns n : Nat) : Int) := by unfold ns; omega
theorem ns_int2 (n : Int) : max 1 (min n 4096) = ((ns n : Nat) : Int) := by unfold ns; omega
theorem ns_bd (n : Int) : 1 ≤ ns n ∧ ns n ≤ 4096 := by unfold ns; omega

/-- New weights, of which those of the first r sets, and k of the next one, are laid. -/
def laid (r k : Nat) : Nat → Nat → Int := fun i j => if i < r ∨ i = r ∧ j < k then 16384 else 0
theorem laid_put (r k : Nat) : put1 (laid r k) r k 16384 = laid r (k + 1) := by
  funext i j; unfold put1 laid
  by_cases h : i = r ∧ j = k
  · rw [if_pos h, if_pos (by omega)]
  · rw [if_neg h]
    by_cases h' : i < r ∨ i = r ∧ j < k
    · rw [if_pos h', if_pos (by omega)]
    · rw [if_neg h', if_neg (by omega)]
theorem wcs_congr {n : Nat} {W V : Nat → Nat → Int} (h : ∀ i j, i < n → j < 4 → W i j = V i j) : wcs n W = wcs n V := by
  unfold wcs
  congr 1
  apply List.map_congr_left
  intro i hi
  have := List.mem_range.1 hi
  rw [h (i / 4) (i % 4) (by omega) (by omega)]
theorem laid_next (n r : Nat) : wcs n (laid r 4) = wcs n (laid (r + 1) 0) :=
  wcs_congr fun i j _ hj => by
    unfold laid
    by_cases h : i < r ∨ i = r ∧ j < 4
    · rw [if_pos h, if_pos (by omega)]
    · rw [if_neg h, if_neg (by omega)]
theorem laid_all (n : Nat) : wcs n (laid n 0) = wcs n (fun _ _ => 16384) :=
  wcs_congr fun i j hi _ => by unfold laid; rw [if_pos (by omega)]
theorem laid_none (n : Nat) : madeCells (a4 fun _ => 0) (n * 4) = wcs n (laid 0 0) := by
  apply Array.ext_getElem?
  intro i
  simp only [wcs, List.getElem?_toArray, List.getElem?_map]
  rcases Nat.lt_or_ge i (n * 4) with h | h
  · rw [List.getElem?_range h]
    have : laid 0 0 (i / 4) (i % 4) = 0 := by unfold laid; rw [if_neg (by omega)]
    simp only [Option.map_some, this]
    have hz : ∀ k, k < 4 → (a4 fun _ => 0)[k]! = Value.int .i64 0 := fun k hk => by rcases four hk with rfl | rfl | rfl | rfl <;> rfl
    have hs : (a4 fun _ => 0).size = 4 := rfl
    simp only [madeCells, hs, Array.getElem?_map, Array.getElem?_range, if_pos h, Option.map_some, hz (i % 4) (by omega)]
  · rw [Array.getElem?_eq_none (by rw [size_madeCells]; exact h)]
    simp [h]

theorem Tryd.infoWeights : (Tryd.prog.info? 138).map (fun i => (i.zero, i.size, i.bytes)) = some (some (.agg (a4 fun _ => 0)), 4, 32) := by kernel_rfl

set_option maxHeartbeats 1600000 in
/-- New: P6.2. -/
theorem mNew_any (n : Int) (w : World) : Calls Tryd.prog 75 #[.int .i64 n] w fun e w' => ∃ g h, e = .returned (.pointer (some ⟨g, 0, none⟩)) ∧ Mxr w' g h (ns n) (fun _ _ => 16384) 0 (fun _ => 0) 0 ∧ w.heap.size ≤ g ∧ w.heap.size ≤ h ∧ Fresh w w' := by
  have hk := ns_int n
  have hb := ns_bd n
  generalize ns n = m at *
  obtain ⟨i0, hi, hz0, hz1, hz2⟩ := info_parts Tryd.infoWeights
  go_enter Tryd.func75, Tryd.ntmps75
  go_wp2_with (refine wpList_make_blk _ rfl (.tmp 8) (.tmp 8) 135 rfl 138 i0 (.agg (a4 fun _ => 0)) 4 Tryd.underlying135 hi hz0 hz1 _ _ _ _ m rfl rfl (by omega) (by omega) (by rw [hz2]; omega) (by unfold maxLen; omega) ?_)
  intro w1 hb1 hf1
  rw [laid_none] at hb1
  have hlt0 := hb1.lt
  have hb2 := hb1.alloc (.cells #[.slice (some ⟨w.heap.size, 0, none⟩) m m, .int .i64 0, .int .i64 0, .int .i64 0, .int .i64 0, .int .i64 0, .int .i64 0] 137)
  have hg2 := Blk.new w1 137 #[.slice (some ⟨w.heap.size, 0, none⟩) m m, .int .i64 0, .int .i64 0, .int .i64 0, .int .i64 0, .int .i64 0, .int .i64 0]
  have hf2 := hf1.alloc (.cells #[.slice (some ⟨w.heap.size, 0, none⟩) m m, .int .i64 0, .int .i64 0, .int .i64 0, .int .i64 0, .int .i64 0, .int .i64 0] 137)
  have c0 : (w1.alloc (.cells #[.slice (some ⟨w.heap.size, 0, none⟩) m m, .int .i64 0, .int .i64 0, .int .i64 0, .int .i64 0, .int .i64 0, .int .i64 0] 137)).cell? ⟨w1.heap.size, 0, none⟩ = some (.slice (some ⟨w.heap.size, 0, none⟩) m m) := hg2.cell 0
  have hGw : w.heap.size ≤ w1.heap.size := hf1.size
  have H2 := Lib.hid (And.intro hb2 (And.intro hg2 hf2))
  clear hb1 hf1 hb2 hg2 hf2
  generalize hG : w1.heap.size = G at *
  go_wp2_with fail
  clear hG c0
  go_loopw [17] (fun i wr => ∃ r : Nat, r ≤ m ∧ i = .int .i64 r ∧ Blk wr w.heap.size 138 (wcs m (laid r 0)) ∧ Blk wr G 137 #[.slice (some ⟨w.heap.size, 0, none⟩) m m, .int .i64 0, .int .i64 0, .int .i64 0, .int .i64 0, .int .i64 0, .int .i64 0] ∧ Fresh w wr) (fun i _ => (m - intOf i).toNat)
  case atStart => exact ⟨0, by omega, rfl, H2.out⟩
  case round =>
    obtain ⟨r, hr, rfl, hb, hg, hf⟩ := hrel
    clear H2
    by_cases hlt : r < m
    · have H3 := Lib.hid (And.intro hb (And.intro hg hf))
      clear hb hg hf
      have r0 : (0 : Int) ≤ (r : Int) := by omega
      have r1 : (r : Int) < (m : Int) := by omega
      go_wp2_with fail
      go_loopw [20] (fun i wr => ∃ k : Nat, k ≤ 4 ∧ i = .int .i64 k ∧ Blk wr w.heap.size 138 (wcs m (laid r k)) ∧ Blk wr G 137 #[.slice (some ⟨w.heap.size, 0, none⟩) m m, .int .i64 0, .int .i64 0, .int .i64 0, .int .i64 0, .int .i64 0, .int .i64 0] ∧ Fresh w wr) (fun i _ => (4 - intOf i).toNat)
      case atStart => exact ⟨0, by omega, rfl, H3.out⟩
      case round =>
        obtain ⟨k, hk, rfl, hb, hg, hf⟩ := hrel
        clear H3
        by_cases hlt2 : k < 4
        · have hc := hb.cell (r * 4 + k)
          rw [wcs_get hlt hlt2] at hc
          have hfz := hb.frozen (r * 4 + k)
          have c0 : wr.cell? ⟨G, 0, none⟩ = some (.slice (some ⟨w.heap.size, 0, none⟩) m m) := hg.cell 0
          have hset := hb.set_ (r * 4 + k) (.int .i64 16384)
          rw [wcs_set hlt2, laid_put] at hset
          have HS := Lib.hid (And.intro hset (And.intro (hg.far (p := ⟨w.heap.size, r * 4 + k, none⟩) (by exact (Blk.ne_ hg hb (by decide))) (.int .i64 16384)) (hf.setCell (p := ⟨w.heap.size, r * 4 + k, none⟩) (fun h => by have h' : w.heap.size < w.heap.size := h; omega) (.int .i64 16384))))
          clear hset hb hg hf
          generalize laid r k r k = x at *
          have k0 : (0 : Int) ≤ (k : Int) := by omega
          have k1 : (k : Int) < 4 := by omega
          go_wp2_with fail
          go_roundw
          case rel => exact ⟨k + 1, by omega, by go_num, HS.out⟩
          case measure => simp [intOf]; omega
        · obtain rfl : k = 4 := by omega
          have HS := Lib.hid (And.intro hb (And.intro hg hf))
          clear hb hg hf
          have k1 : ¬ ((4 : Nat) : Int) < 4 := by omega
          go_wp2_with fail
          go_roundw
          case rel => exact ⟨r + 1, by omega, by go_num, by rw [← laid_next]; exact HS.out.1, HS.out.2.1, HS.out.2.2⟩
          case measure => simp [intOf]; omega
    · obtain rfl : r = m := by omega
      have HS := Lib.hid (And.intro hb (And.intro hg hf))
      clear hb hg hf
      go_wp2_with fail
      go_ret
      refine ⟨G, w.heap.size, rfl, ⟨HS.out.2.1, by rw [← laid_all]; exact HS.out.1, by omega, by omega, by omega, fun _ _ => by omega, fun _ => by omega, by omega⟩, by omega, by omega, HS.out.2.2⟩

end Go.Proofs.YtpknbfkknnaajaaDoor
