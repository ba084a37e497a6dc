/- Texts of this proof, one behind the other: GueN, GueT, MixN. -/
import Derived.Test.YtpknbfkknnaajaaDoorPart2
import Derived.Lib.MinMax
import Derived.OwnWalk
import Derived.Test.YtpknbfkknnaajaaDoorPart3

/- The contracts of Next and Chance, the code's and the document's. -/
namespace Go.Proofs.YtpknbfkknnaajaaDoor
open Go.RowKit

theorem wrap16 {n : Nat} (h : n < 65536) : IntKind.u16.wrap (n : Int) = n := by rw [IntKind.wrap_u16]; omega
theorem nx_zero_wrap {p : Nat} (h : p < 65536) (k : Nat) : IntKind.u16.wrap ((p : Int) - (p : Int) / 2 ^ k) = ((nx p false k : Nat) : Int) := by rw [nx_zero_int, wrap16 (nx_lt h _ _)]
theorem nx_one_wrap {p : Nat} (h : p < 65536) (k : Nat) : IntKind.u16.wrap ((p : Int) + (65535 - (p : Int)) / 2 ^ k) = ((nx p true k : Nat) : Int) := by rw [nx_one_int h, wrap16 (nx_lt h _ _)]

set_option maxHeartbeats 400000 in
theorem next_any (p : Nat) (b r : Int) (w : World) (hp : p < 65536) :
    Calls Tryd.prog 100 #[.int .u16 p, .int .i64 b, .int .i64 r] w fun e w' => e = .returned (.int .u16 (nx p (b != 0) (rt r) : Nat)) ∧ w' = w := by
  have hk := rt_int r
  obtain ⟨k, hkk⟩ : ∃ k, rt r = k := ⟨_, rfl⟩
  have hb := rt_bd r
  rw [hkk] at hk hb ⊢
  clear hkk
  obtain ⟨one, hone⟩ : ∃ one, (b != 0) = one := ⟨_, rfl⟩
  rw [hone]
  go_enter Tryd.func100, Tryd.ntmps100
  cases one
  · go_wp2
    go_ret
    exact ⟨ret_int (nx_zero_wrap hp k), rfl⟩
  · go_wp2
    go_ret
    exact ⟨ret_int (nx_one_wrap hp k), rfl⟩

set_option maxHeartbeats 400000 in
theorem qNext_any (p : Nat) (b r : Int) (w : World) (hp : p < 65536) :
    Calls Tryd.prog 67 #[.int .u16 p, .int .i64 b, .int .i64 r] w fun e w' => e = .returned (.int .u16 (nx p (b != 0) (rt r) : Nat)) ∧ w' = w := by
  have hk := rt_int2 r
  obtain ⟨k, hkk⟩ : ∃ k, rt r = k := ⟨_, rfl⟩
  have hb := rt_bd r
  rw [hkk] at hk hb ⊢
  clear hkk
  obtain ⟨one, hone⟩ : ∃ one, (b != 0) = one := ⟨_, rfl⟩
  rw [hone]
  go_enter Tryd.func67, Tryd.ntmps67
  cases one
  · go_wp2
    go_ret
    exact ⟨ret_int (nx_zero_wrap hp k), rfl⟩
  · go_wp2
    go_ret
    exact ⟨ret_int (nx_one_wrap hp k), rfl⟩

set_option maxHeartbeats 400000 in
theorem chance_any (p : Nat) (w : World) (hp : p < 65536) :
    Calls Tryd.prog 91 #[.int .u16 p] w fun e w' => e = .returned (.int .i64 (ch p : Nat)) ∧ w' = w := by
  go_enter Tryd.func91, Tryd.ntmps91
  go_wp2
  go_ret
  exact ⟨ret_int (ch_int p), rfl⟩

set_option maxHeartbeats 400000 in
theorem qChance_any (p : Nat) (w : World) (hp : p < 65536) :
    Calls Tryd.prog 65 #[.int .u16 p] w fun e w' => e = .returned (.int .i64 (ch p : Nat)) ∧ w' = w := by
  go_enter Tryd.func65, Tryd.ntmps65
  go_wp2
  go_ret
  exact ⟨ret_int (ch_int2 p), rfl⟩

end Go.Proofs.YtpknbfkknnaajaaDoor

/- The contracts of guess.Table: place, Len, At, Learn, New. -/
namespace Go.Proofs.YtpknbfkknnaajaaDoor
set_option maxRecDepth 100000
open Go.RowKit

theorem Tryd.infoU16 : (Tryd.prog.info? 108).map (fun i => (i.zero, i.size, i.bytes)) = some (some (.int .u16 0), 1, 2) := by kernel_rfl

/-- Natural numbers, as numbers. -/
def nums (ps : List Nat) : List Int := ps.map fun (p : Nat) => (p : Int)
theorem nums_length (ps : List Nat) : (nums ps).length = ps.length := by simp [nums]
theorem nums_get (ps : List Nat) (j : Nat) : (nums ps).getD j 0 = ((ps.getD j 0 : Nat) : Int) := by
  simp only [nums, List.getD, List.getElem?_map]
  cases ps[j]? <;> simp
theorem nums_set (ps : List Nat) (j x : Nat) : (nums ps).set j (x : Int) = nums (ps.set j x) := by simp [nums, List.map_set]

/-- A table at block g, of type t: the guesses ps, owned by v. -/
structure Tab (w : World) (g : Nat) (t : TypeId) (v : Value) (ps : List Nat) : Prop where
  blk : Blk w g t #[v]
  own : Own w 108 .u16 v (nums ps)
  lt : ∀ p ∈ ps, p < 65536
  pos : 0 < ps.length
  le : ps.length ≤ 65536

section
variable {w w' : World} {g : Nat} {t : TypeId} {v : Value} {ps : List Nat}
theorem Tab.kept {S : Nat → Prop} (h : Tab w g t v ps) (hk : Kept S w w') (hg : ¬ S g) (hv : ∀ k, v.ownBlock = some k → ¬ S k) : Tab w' g t v ps :=
  ⟨h.blk.kept hk hg, h.own.kept hk hv, h.lt, h.pos, h.le⟩
theorem Tab.drew (h : Tab w g t v ps) : Tab w.drew g t v ps := ⟨h.blk, h.own, h.lt, h.pos, h.le⟩
theorem Tab.drewN (h : Tab w g t v ps) (n : Nat) : Tab (w.drewN n) g t v ps := ⟨h.blk, h.own, h.lt, h.pos, h.le⟩
theorem Tab.form (h : Tab w g t v ps) : ∃ q cap, v = .slice (some ⟨q, 0, none⟩) ps.length cap ∧ q < w.heap.size := by
  have := h.own.form (by rw [nums_length]; exact h.pos)
  rwa [nums_length] at this
theorem Tab.getD_lt (h : Tab w g t v ps) (j : Nat) : ps.getD j 0 < 65536 := by
  simp only [List.getD]
  rcases hj : ps[j]? with _ | p
  · simp
  · exact h.lt p (List.mem_of_getElem? hj)
theorem Tab.cell {q cap : Nat} (h : Tab w g t (.slice (some ⟨q, 0, none⟩) ps.length cap) ps) {j : Nat} (hj : j < ps.length) : w.cell? ⟨q, j, none⟩ = some (.int .u16 (ps.getD j 0 : Nat)) := by
  have ho := h.own
  rw [← nums_length ps] at ho
  rw [Own.cell ho (by rw [nums_length]; exact hj), nums_get]
theorem Tab.frozen {q cap : Nat} (h : Tab w g t (.slice (some ⟨q, 0, none⟩) ps.length cap) ps) (j : Nat) : w.frozen? ⟨q, j, none⟩ = false := by
  have ho := h.own
  rw [← nums_length ps] at ho
  exact Own.frozen ho j
theorem Tab.ne_ (h : Tab w g t v ps) (ht : 108 ≠ t) : v.ownBlock ≠ some g := h.own.ne_blk h.blk ht
theorem Tab.stored {q cap : Nat} (h : Tab w g t (.slice (some ⟨q, 0, none⟩) ps.length cap) ps) (ht : 108 ≠ t) (j x : Nat) (hx : x < 65536) :
    Tab (w.setCell ⟨q, j, none⟩ (.int .u16 x)) g t (.slice (some ⟨q, 0, none⟩) ps.length cap) (ps.set j x) := by
  have ho := h.own
  rw [← nums_length ps] at ho
  have hq : g ≠ q := fun e => h.ne_ ht (by rw [e]; rfl)
  refine ⟨h.blk.far hq _, ?_, fun p hp => ?_, by rw [List.length_set]; exact h.pos, by rw [List.length_set]; exact h.le⟩
  · have := Own.stored ho j (x : Int)
    rwa [nums_set, nums_length] at this
  · rcases List.mem_or_eq_of_mem_set hp with hp | rfl
    · exact h.lt p hp
    · exact hx
end

set_option maxHeartbeats 800000 in
theorem gPlace_any (q n c : Nat) (i : Int) (w : World) (h0 : 0 < n) (hn : n ≤ 65536) :
    Calls Tryd.prog 92 #[.slice (some ⟨q, 0, none⟩) n c, .int .i64 i] w fun e w' => e = .returned (.pointer (some ⟨q, pl i n, none⟩)) ∧ w' = w := by
  have hp := pl_lt i h0
  rcases (by omega : i.tmod n < 0 ∨ 0 ≤ i.tmod n) with hs | hs
  · have he : i.tmod n = ((pl i n : Nat) : Int) - n := by have := tmod_neg h0 hs; omega
    generalize pl i n = k at *
    have hneg : decide ((k : Int) - n < 0) = true := by simp; omega
    clear hs
    go_enter Tryd.func92, Tryd.ntmps92
    go_wp2
    go_ret
    exact ⟨rfl, rfl⟩
  · have he := tmod_pos h0 hs
    generalize pl i n = k at *
    have hneg : decide ((k : Int) < 0) = false := by simp
    clear hs
    go_enter Tryd.func92, Tryd.ntmps92
    go_wp2
    go_ret
    exact ⟨rfl, rfl⟩

/-- The code's table. -/
abbrev TabC (w : World) (g : Nat) (v : Value) (ps : List Nat) : Prop := Tab w g 147 v ps

set_option maxHeartbeats 400000 in
theorem gLen_any (g : Nat) (v : Value) (ps : List Nat) (w : World) (h : TabC w g v ps) :
    Calls Tryd.prog 90 #[.pointer (some ⟨g, 0, none⟩)] w fun e w' => e = .returned (.int .i64 (ps.length : Nat)) ∧ w' = w := by
  obtain ⟨q, cap, rfl, _⟩ := h.form
  have c0 : w.cell? ⟨g, 0, none⟩ = some (.slice (some ⟨q, 0, none⟩) ps.length cap) := by simpa using h.blk.cell 0
  clear h
  go_enter Tryd.func90, Tryd.ntmps90
  go_wp2
  go_ret
  exact ⟨rfl, rfl⟩

set_option maxHeartbeats 400000 in
theorem gLen_nil (w : World) : Calls Tryd.prog 90 #[.pointer none] w fun e w' => e = .returned (.int .i64 0) ∧ w' = w := by
  go_enter Tryd.func90, Tryd.ntmps90
  go_wp2
  go_ret
  exact ⟨rfl, rfl⟩

set_option maxHeartbeats 800000 in
/-- At: P5.2. -/
theorem gAt_any (g : Nat) (v : Value) (ps : List Nat) (i : Int) (w : World) (h : TabC w g v ps) :
    Calls Tryd.prog 81 #[.pointer (some ⟨g, 0, none⟩), .int .i64 i] w fun e w' => e = .returned (.int .i64 (ch (ps.getD (pl i ps.length) 0) : Nat)) ∧ w' = w := by
  obtain ⟨q, cap, rfl, _⟩ := h.form
  have c0 : w.cell? ⟨g, 0, none⟩ = some (.slice (some ⟨q, 0, none⟩) ps.length cap) := by simpa using h.blk.cell 0
  have c1 := h.cell (pl_lt i h.pos)
  have hlt := h.getD_lt (pl i ps.length)
  have H := Lib.hid h
  have hpos : ((ps.length : Int) == 0) = false := by rw [beq_eq_false_iff_ne]; have := h.pos; omega
  clear h
  go_enter Tryd.func81, Tryd.ntmps81
  go_wp2_with fail
  refine (gLen_any g _ ps _ H.out).mono ?_
  rintro e w' ⟨rfl, rfl⟩
  go_wp2_with fail
  refine (gPlace_any q ps.length cap i _ H.out.pos H.out.le).mono ?_
  rintro e w' ⟨rfl, rfl⟩
  go_wp2_with fail
  refine (chance_any _ _ hlt).mono ?_
  rintro e w' ⟨rfl, rfl⟩
  go_wp2_with fail
  go_ret
  exact ⟨rfl, rfl⟩

set_option maxHeartbeats 400000 in
theorem gAt_nil (i : Int) (w : World) : Calls Tryd.prog 81 #[.pointer none, .int .i64 i] w fun e w' => e = .returned (.int .i64 0) ∧ w' = w := by
  go_enter Tryd.func81, Tryd.ntmps81
  go_wp2_with fail
  refine (gLen_nil _).mono ?_
  rintro e w' ⟨rfl, rfl⟩
  go_wp2_with fail
  go_ret
  exact ⟨rfl, rfl⟩

set_option maxHeartbeats 800000 in
/-- Learn: P5.2. -/
theorem gLearn_any (g : Nat) (v : Value) (ps : List Nat) (i b r : Int) (w : World) (h : TabC w g v ps) :
    Calls Tryd.prog 87 #[.pointer (some ⟨g, 0, none⟩), .int .i64 i, .int .i64 b, .int .i64 r] w fun e w' => e = .returned (.tuple #[]) ∧
      TabC w' g v (ps.set (pl i ps.length) (nx (ps.getD (pl i ps.length) 0) (b != 0) (rt r))) ∧ Kept (fun k => v.ownBlock = some k) w w' := by
  obtain ⟨q, cap, rfl, _⟩ := h.form
  have c0 : w.cell? ⟨g, 0, none⟩ = some (.slice (some ⟨q, 0, none⟩) ps.length cap) := by simpa using h.blk.cell 0
  have c1 := h.cell (pl_lt i h.pos)
  have f1 := h.frozen (pl i ps.length)
  have hlt := h.getD_lt (pl i ps.length)
  have H := Lib.hid h
  have hpos : ((ps.length : Int) == 0) = false := by rw [beq_eq_false_iff_ne]; have := h.pos; omega
  clear h
  go_enter Tryd.func87, Tryd.ntmps87
  go_wp2_with fail
  refine (gLen_any g _ ps _ H.out).mono ?_
  rintro e w' ⟨rfl, rfl⟩
  go_wp2_with fail
  refine (gPlace_any q ps.length cap i _ H.out.pos H.out.le).mono ?_
  rintro e w' ⟨rfl, rfl⟩
  go_wp2_with fail
  refine (next_any _ b r _ hlt).mono ?_
  rintro e w' ⟨rfl, rfl⟩
  go_wp2_with fail
  go_end0
  exact ⟨rfl, H.out.stored (by decide) _ _ (nx_lt hlt _ _), Kept.setCell (Kept.refl (fun k => (Value.slice (some ⟨q, 0, none⟩) ps.length cap).ownBlock = some k) _) (p := ⟨q, pl i ps.length, none⟩) (fun _ => rfl) _⟩

set_option maxHeartbeats 400000 in
theorem gLearn_nil (i b r : Int) (w : World) : Calls Tryd.prog 87 #[.pointer none, .int .i64 i, .int .i64 b, .int .i64 r] w fun e w' => e = .returned (.tuple #[]) ∧ w' = w := by
  go_enter Tryd.func87, Tryd.ntmps87
  go_wp2_with fail
  refine (gLen_nil _).mono ?_
  rintro e w' ⟨rfl, rfl⟩
  go_wp2_with fail
  refine bodyPost_ret (results_none rfl _ _ _) rfl ?_
  exact ⟨rfl, rfl⟩

/-- How many guesses. -/
def many_of (n : Int) : Nat := (min (max n 1) 65536).toNat
theorem of_int (n : Int) : min (max n 1) 65536 = ((many_of n : Nat) : Int) := by unfold many_of; omega
theorem of_int2 (n : Int) : max 1 (min n 65536) = ((many_of n : Nat) : Int) := by unfold many_of; omega
theorem of_bd (n : Int) : 1 ≤ many_of n ∧ many_of n ≤ 65536 := by unfold many_of; omega

/-- The first j are even. -/
def evens (n j : Nat) : List Nat := List.replicate j 32768 ++ List.replicate (n - j) 0
theorem evens_length {n j : Nat} (h : j ≤ n) : (evens n j).length = n := by simp [evens]; omega
theorem evens_set {n j : Nat} (h : j < n) : (evens n j).set j 32768 = evens n (j + 1) := by
  unfold evens
  rw [List.set_append_right _ _ (by simp), List.length_replicate, Nat.sub_self, show n - j = (n - (j + 1)) + 1 from by omega, List.replicate_succ, List.set_cons_zero, List.replicate_succ', List.append_assoc]
  rfl
theorem evens_all (n : Nat) : evens n n = List.replicate n 32768 := by simp [evens]
theorem made_zero (n : Nat) : (madeCells #[Value.int .u16 0] n).toList = ivs .u16 (nums (evens n 0)) := by
  simp only [madeCells, ivs, nums, evens]
  apply List.ext_getElem <;> simp [Nat.mod_one]

theorem Own.store_at {w : World} {b n c : Nat} {ps : List Nat} (h : Own w 108 .u16 (.slice (some ⟨b, 0, none⟩) n c) (nums ps)) (hn : ps.length = n) (j x : Nat) :
    Own (w.setCell ⟨b, j, none⟩ (.int .u16 x)) 108 .u16 (.slice (some ⟨b, 0, none⟩) n c) (nums (ps.set j x)) := by
  subst hn
  rw [← nums_length ps] at h
  have := Own.stored h j (x : Int)
  rwa [nums_set, nums_length] at this

set_option maxHeartbeats 1600000 in
/-- New: P5.2. -/
theorem gNew_any (n : Int) (w : World) : Calls Tryd.prog 77 #[.int .i64 n] w fun e w' => ∃ g v, e = .returned (.pointer (some ⟨g, 0, none⟩)) ∧ TabC w' g v (List.replicate (many_of n) 32768) ∧ w.heap.size ≤ g ∧ (∀ k, v.ownBlock = some k → w.heap.size ≤ k) ∧ Fresh w w' := by
  obtain ⟨i0, hi, hz0, hz1, hz2⟩ := info_parts Tryd.infoU16
  have hk := of_int n
  have hb := of_bd n
  generalize many_of n = m at *
  go_enter Tryd.func77, Tryd.ntmps77
  go_wp2_with (at_make; refine wpList_make_full _ rfl _ _ 145 rfl 0 108 i0 (.int .u16 0) 1 Tryd.underlying145 hi hz0 hz1 _ _ _ _ m rfl rfl (by omega) (by omega) (by rw [hz2]; omega) (by unfold maxLen; omega) (by omega) ?_)
  rw [made_zero]
  intro w1 hown hg
  have ho1 : Own w1 108 .u16 (.slice (some ⟨w.heap.size, 0, none⟩) m m) (nums (evens m 0)) := by unfold Own; rw [nums_length, evens_length (by omega)]; exact hown
  have hk1 : Fresh w w1 := (Kept.refl _ _).grown hg (fun k e _ => by cases e)
  have H1 := Lib.hid (And.intro ho1 hk1)
  clear hown hg ho1 hk1
  go_wp2_with fail
  go_loopw [11] (fun i wr => ∃ j : Nat, j ≤ m ∧ i = .int .i64 j ∧ Own wr 108 .u16 (.slice (some ⟨w.heap.size, 0, none⟩) m m) (nums (evens m j)) ∧ Fresh w wr) (fun i _ => (m - intOf i).toNat)
  case atStart => exact ⟨0, by omega, rfl, H1.out.1, H1.out.2⟩
  case round =>
    obtain ⟨j, hj, rfl, ho, hf⟩ := hrel
    by_cases hlt : j < m
    · have hst := ho.store_at (evens_length hj) j 32768
      rw [evens_set hlt] at hst
      have hc : wr.cell? ⟨w.heap.size, j, none⟩ = some (.int .u16 ((nums (evens m j)).getD j 0)) := by
        have hl : (nums (evens m j)).length = m := by rw [nums_length, evens_length hj]
        generalize nums (evens m j) = xs at *
        subst hl
        exact Own.cell ho hlt
      have hfz : wr.frozen? ⟨w.heap.size, j, none⟩ = false := by
        have hl : (nums (evens m j)).length = m := by rw [nums_length, evens_length hj]
        generalize nums (evens m j) = xs at *
        subst hl
        exact Own.frozen ho j
      have hf2 : Fresh w (wr.setCell ⟨w.heap.size, j, none⟩ (.int .u16 32768)) := hf.setCell (p := ⟨w.heap.size, j, none⟩) (fun h => by have h' : w.heap.size < w.heap.size := h; omega) _
      have HS := Lib.hid (And.intro hst hf2)
      clear hst hf2 ho hf
      go_wp2_with fail
      go_roundw
      case rel => exact ⟨j + 1, by omega, by go_num, HS.out.1, HS.out.2⟩
      case measure => simp [intOf]; omega
    · obtain rfl : j = m := by omega
      rw [evens_all] at ho
      have HO := Lib.hid (And.intro ho hf)
      clear ho hf
      go_wp2_with fail
      go_ret
      refine ⟨wr.heap.size, _, rfl, ⟨Blk.new _ _ _, HO.out.1.alloc _, fun p hp => ?_, by simp; omega, by simp; omega⟩, HO.out.2.size, fun k hk' => ?_, HO.out.2.alloc _⟩
      · rw [List.eq_of_mem_replicate hp]; decide
      · have : w.heap.size = k := by simpa [Value.ownBlock] using hk'
        omega

end Go.Proofs.YtpknbfkknnaajaaDoor

/- The contracts of within, Squash and Stretch, the code's and the document's, of the document's Round. -/
namespace Go.Proofs.YtpknbfkknnaajaaDoor
open Go.RowKit

theorem wrap_is {x S : Int} (h : S = x) (h1 : -9223372036854775808 ≤ S) (h2 : S ≤ 9223372036854775807) : wrap64 x = S := by subst h; exact IntWalk.wrap64_in _ ⟨h1, h2⟩

set_option maxHeartbeats 400000 in
theorem within_any (v m : Int) (w : World) (h0 : 0 ≤ m) (h1 : m ≤ 16777216) :
    Calls Tryd.prog 99 #[.int .i64 v, .int .i64 m] w fun e w' => e = .returned (.int .i64 (cl v m)) ∧ w' = w := by
  go_enter Tryd.func99, Tryd.ntmps99
  go_wp2
  go_ret
  exact ⟨ret_int (cl_int v m), rfl⟩

set_option maxHeartbeats 400000 in
theorem squash_any (d : Int) (w : World) :
    Calls Tryd.prog 86 #[.int .i64 d] w fun e w' => e = .returned (.int .i64 (sq d)) ∧ w' = w := by
  have hb := cl_bd (v := d) (m := 2047) (by omega)
  have HW := Lib.hid (within_any d 2047 · (by omega) (by omega))
  unfold sq
  have hs : sq0 (cl d 2047) = 2048 + (2560 * cl d 2047).tdiv (512 + max (cl d 2047) (-cl d 2047)) := rfl
  have HS := Lib.hid hs
  clear hs
  have hsb := sq_bd d
  unfold sq at hsb
  generalize sq0 (cl d 2047) = S at *
  generalize cl d 2047 = a at *
  have hn : (512 + max a (-a) == 0) = false := by rw [beq_eq_false_iff_ne]; omega
  go_enter Tryd.func86, Tryd.ntmps86
  go_wp2_with fail
  refine (HW.out _).mono ?_
  rintro e w' ⟨rfl, rfl⟩
  go_wp2_with fail
  go_ret
  exact ⟨ret_int (wrap_is HS.out (by omega) (by omega)), rfl⟩

set_option maxHeartbeats 400000 in
theorem qSquash_any (d : Int) (w : World) :
    Calls Tryd.prog 64 #[.int .i64 d] w fun e w' => e = .returned (.int .i64 (sq d)) ∧ w' = w := by
  have hb := cl_bd (v := d) (m := 2047) (by omega)
  have hc := cl_int2 (v := d) (m := 2047) (by omega)
  unfold sq
  have hs : sq0 (cl d 2047) = 2048 + (2560 * cl d 2047).tdiv (512 + max (cl d 2047) (-cl d 2047)) := rfl
  have HS := Lib.hid hs
  clear hs
  have hsb := sq_bd d
  unfold sq at hsb
  generalize sq0 (cl d 2047) = S at *
  generalize cl d 2047 = a at *
  have hn : (512 + max a (-a) == 0) = false := by rw [beq_eq_false_iff_ne]; omega
  go_enter Tryd.func64, Tryd.ntmps64
  go_wp2_with fail
  go_ret
  exact ⟨ret_int (wrap_is HS.out (by omega) (by omega)), rfl⟩

theorem st_hi {p : Int} (h : 2048 < p) : st p = (512 * (p - 2048) + (2560 - (p - 2048)) - 1) / (2560 - (p - 2048)) := if_pos h
theorem st_lo {p : Int} (h : ¬ 2048 < p) : st p = -((512 * (2048 - p + 1) - 1) / (2560 - (2048 - p + 1))) := if_neg h

set_option maxHeartbeats 400000 in
/-- Stretch: P6.1. -/
theorem stretch_any (p : Int) (w : World) :
    Calls Tryd.prog 83 #[.int .i64 p] w fun e w' => e = .returned (.int .i64 (st (pc p))) ∧ w' = w := by
  have hb := pc_bd p
  have hc : min (max p 1) 4095 = pc p := rfl
  generalize pc p = a at *
  by_cases h : 2048 < a
  · have HS := Lib.hid (st_hi h)
    generalize st a = S at *
    go_enter Tryd.func83, Tryd.ntmps83
    go_wp2_with fail
    go_ret
    exact ⟨ret_int HS.out.symm, rfl⟩
  · have HS := Lib.hid (st_lo h)
    have hs := st_bd hb.1 hb.2
    generalize st a = S at *
    go_enter Tryd.func83, Tryd.ntmps83
    go_wp2_with fail
    go_ret
    exact ⟨ret_int (wrap_is HS.out (by omega) (by omega)), rfl⟩

set_option maxHeartbeats 800000 in
/-- The document's Stretch: P6.1. -/
theorem qStretch_any (p : Int) (w : World) :
    Calls Tryd.prog 46 #[.int .i64 p] w fun e w' => e = .returned (.int .i64 (st (pc p))) ∧ w' = w := by
  have hb := pc_bd p
  have hc := pc_int2 p
  have hs := st_bd hb.1 hb.2
  have HS := Lib.hid (And.intro (fun d => st_below (d := d) hb.1 hb.2) (fun d => st_above (d := d) hb.1 hb.2))
  generalize pc p = a at *
  generalize st a = S at *
  go_enter Tryd.func46, Tryd.ntmps46
  go_wp2_with fail
  go_loop [3, 4] (fun x y => ∃ lo hi : Int, x = .int .i64 lo ∧ y = .int .i64 hi ∧ -2047 ≤ lo ∧ lo ≤ S ∧ S ≤ hi ∧ hi ≤ 2047) (fun x y => (intOf y - intOf x).toNat)
  case atStart => exact ⟨-2047, 2047, rfl, rfl, by omega, by omega, by omega, by omega⟩
  case round =>
    obtain ⟨lo, hi, rfl, rfl, h1, h2, h3, h4⟩ := hrel
    by_cases hlt : lo < hi
    · have hm : ∃ m : Int, (lo + hi + 4094) / 2 - 2047 = m := ⟨_, rfl⟩
      obtain ⟨m, hm⟩ := hm
      have hm1 : lo ≤ m := by omega
      have hm2 : m < hi := by omega
      by_cases hlm : m < S
      · have hq := HS.out.1 m (by omega) hlm
        have hd : decide (sq m < a) = true := by simp; omega
        go_wp2_with fail
        refine (qSquash_any m _).mono ?_
        rintro e w' ⟨rfl, rfl⟩
        generalize sq m = z at *
        go_wp2_with fail
        go_round
        case rel => exact ⟨m + 1, hi, rfl, rfl, by omega, by omega, by omega, by omega⟩
        case measure => simp [intOf]; omega
      · have hq := HS.out.2 m (by omega)
        have hd : decide (sq m < a) = false := by simp; omega
        go_wp2_with fail
        refine (qSquash_any m _).mono ?_
        rintro e w' ⟨rfl, rfl⟩
        generalize sq m = z at *
        go_wp2_with fail
        go_round
        case rel => exact ⟨lo, m, rfl, rfl, by omega, by omega, by omega, by omega⟩
        case measure => simp [intOf]; omega
    · obtain rfl : lo = S := by omega
      go_wp2_with fail
      go_ret
      exact ⟨rfl, rfl⟩

end Go.Proofs.YtpknbfkknnaajaaDoor
