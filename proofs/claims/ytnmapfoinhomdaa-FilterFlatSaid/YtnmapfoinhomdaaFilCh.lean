/- The code's Undo of filters. -/
import Derived.Test.YtnmapfoinhomdaaFilCg
namespace Go.Proofs.Ytnmapfoinhomdaa
open Go.RowKit Go.Shelf
set_option maxRecDepth 100000

attribute [local go_sem] Oper.semAt_some

/-- The first part of a slice. -/
theorem run_slice_low {P : Program} (t e : TypeId) (ht : P.underlying t = some (.slice e)) (hc : ∀ w, (sizeOf e).run P w = .ok 1 w) (A : Option Addr) (n c h : Nat) (hh : h ≤ c) (W : World) :
    (Instr.slice t (.slice A n c) none (some (.int .i64 (h : Int))) none).run P W = .ok (.slice A h c) W := by
  have he : P.elem t = e := by simp [Program.elem, ht]
  rw [run_slice_h W t A n c (by rw [he]; exact ht) .i64 (h : Int) (by omega) (by omega), he, hc]
  cases A <;> simp [Result.andThen, sliced, Addr.add]

/-- A row more. -/
def udStep (xs : List Int) (v q : Nat) (s : List Int × List Int) (x : Nat) : List Int × List Int :=
  (s.1 ++ unF (xs.getD (x * (v + 1)) 0) (rwF xs v x) s.2 q, unF (xs.getD (x * (v + 1)) 0) (rwF xs v x) s.2 q)
def udS (xs : List Int) (v q : Nat) (pre : List Nat) : List Int × List Int := pre.foldl (udStep xs v q) ([], [])
theorem udS_snoc (xs : List Int) (v q : Nat) (pre : List Nat) (x : Nat) : udS xs v q (pre ++ [x]) = udStep xs v q (udS xs v q pre) x := by simp [udS]
theorem udS_range (xs : List Int) (v q : Nat) : ∀ r, udS xs v q (List.range r) = (udN xs v q r, upN xs v q r)
  | 0 => rfl
  | r + 1 => by rw [List.range_succ, udS_snoc, udS_range xs v q r]; rfl
theorem udS_fold (xs : List Int) (v q : Nat) (R : Nat) (hR : R * (v + 1) ≤ xs.length) : ∀ (pre : List (Fin R)) (s : List Int × List Int), ((pre.map Fin.val).foldl (udStep xs v q) s).1.length = s.1.length + pre.length * v
  | [], s => by simp
  | x :: r, s => by
    have hx := Nat.mul_le_mul_right (v + 1) (show x.val + 1 ≤ R from x.isLt)
    have hp : (rwF xs v x.val).length = v := rwF_length (by omega)
    rw [List.map_cons, List.foldl_cons, udS_fold xs v q R hR r, List.length_cons, Nat.succ_mul]
    simp only [udStep, List.length_append, unF_length, hp]
    omega
theorem udS_length {xs : List Int} {v q R : Nat} (hR : R * (v + 1) ≤ xs.length) (pre : List (Fin R)) : (udS xs v q (pre.map Fin.val)).1.length = pre.length * v := by
  unfold udS
  rw [udS_fold xs v q R hR]
  simp
theorem udS_byte (xs : List Int) (v q : Nat) (pre : List Nat) : B8 (udS xs v q pre).2 := by
  rcases List.eq_nil_or_concat pre with rfl | ⟨l, x, rfl⟩
  · intro x hx
    cases hx
  · rw [List.concat_eq_append, udS_snoc]
    exact unN_byte _ _ _ _ _
theorem spl_take {z c : List Int} (ys : List Int) {o : Nat} (ho : o = c.length) : (spl (spl z 0 c) o ys).take o = c := by
  rw [spl_spl ys ho]
  subst ho
  simp [spl, List.append_assoc]

/-- What is behind a row's kind. -/
theorem Row.rowFrom {w : World} {b o n v x : Nat} {l : List Int} (h : Row w .u8 (some ⟨b, o, none⟩) n l) (hx : (x + 1) * (v + 1) ≤ n) : Row w .u8 (some ⟨b, o + x * (v + 1) + 1, none⟩) v (rwF l v x) := by
  have hl := h.len
  refine ⟨rwF_length (by omega), fun j hj => ?_⟩
  rw [Nat.succ_mul] at hx
  obtain ⟨b', o', e, hb, hc⟩ := h.at_ (x * (v + 1) + 1 + j) (by omega)
  injection e with e
  injection e with e1 e2
  subst e1 e2
  refine ⟨b, _, rfl, hb, ?_⟩
  rw [show o + x * (v + 1) + 1 + j = o + (x * (v + 1) + 1 + j) by omega, hc]
  unfold rwF
  simp only [List.getD]
  rw [List.getElem?_take_of_lt hj, List.getElem?_drop]

/-- Between two rounds. -/
structure UdH (w : World) (g rb ub N v R : Nat) (p : Int) (q : Nat) (xs : List Int) (d : Nat) (pre : List Nat) (W : World) : Prop where
  kinds : ∀ x ∈ pre, xs.getD (x * (v + 1)) 0 ≤ 4
  b0 : Blk W w.heap.size 3 #[.int .i64 v]
  b1 : Blk W (w.heap.size + 1) 3 #[.int .i64 p]
  r0 : Blk W (w.heap.size + 2) 22 #[.slice none 0 0]
  r1 : Blk W (w.heap.size + 2 + 1) 31 #[.int .i64 0]
  own : Own W 5 .u8 (.slice (some ⟨g, 0, none⟩) N N) (spl (List.replicate N 0) 0 (udS xs v q pre).1)
  rest : ∃ A, Blk W rb 22 #[.slice A (N - pre.length * v) (N - pre.length * v)] ∧ (pre.length < R → A = some ⟨g, pre.length * v, none⟩)
  up : ∃ B m c, Blk W ub 22 #[.slice B m c] ∧ m ≤ 1048576 ∧ ∀ V zs, Own V 5 .u8 (.slice (some ⟨g, 0, none⟩) N N) zs → zs.length = N → zs.take (pre.length * v) = (udS xs v q pre).1 → Row V .u8 B m (udS xs v q pre).2
  fr : Fresh w W
  big : d ≤ W.heap.size
theorem UdH.nc {w : World} {g rb ub N v R : Nat} {p : Int} {q : Nat} {xs : List Int} {d : Nat} {pre : List Nat} {S : Nat → Prop} {X Y : World} (h : UdH w g rb ub N v R p q xs d pre X) (hk : Kept S X Y) (hS : ∀ k, S k → NoCells X k ∧ w.heap.size ≤ k) : UdH w g rb ub N v R p q xs d pre Y := by
  obtain ⟨A, hA, hA2⟩ := h.rest
  obtain ⟨B, m, c, hB, hB2, hB3⟩ := h.up
  exact ⟨h.kinds, h.b0.kept hk (fun e => h.b0.cells (hS _ e).1), h.b1.kept hk (fun e => h.b1.cells (hS _ e).1), h.r0.kept hk (fun e => h.r0.cells (hS _ e).1), h.r1.kept hk (fun e => h.r1.cells (hS _ e).1), h.own.kept hk (fun k e e2 => h.own.cells e (hS _ e2).1), ⟨A, hA.kept hk (fun e => hA.cells (hS _ e).1), hA2⟩,
    ⟨B, m, c, hB.kept hk (fun e => hB.cells (hS _ e).1), hB2, hB3⟩, h.fr.trans hk fun i hi e => (by have := (hS i e).2; omega), Nat.le_trans h.big hk.size⟩
/-- Behind a round that has left. -/
structure UdL (w : World) (W : World) : Prop where
  r0 : Blk W (w.heap.size + 2) 22 #[.slice none 0 0]
  r1 : Blk W (w.heap.size + 2 + 1) 31 #[.int .i64 4]
  fr : Fresh w W
theorem UdL.nc {w : World} {S : Nat → Prop} {X Y : World} (h : UdL w X) (hk : Kept S X Y) (hS : ∀ k, S k → NoCells X k ∧ w.heap.size ≤ k) : UdL w Y :=
  ⟨h.r0.kept hk (fun e => h.r0.cells (hS _ e).1), h.r1.kept hk (fun e => h.r1.cells (hS _ e).1), h.fr.trans hk fun i hi e => by have := (hS i e).2; omega⟩
/-- What Undo of what may be tells. -/
def UdOC (w w' : World) (e : Ending) (xs : List Int) (v q : Nat) : Prop :=
  (kndF xs v ∧ ∃ u, e = .returned (.tuple #[u, .int .i64 0]) ∧ NewRow w w' 5 .u8 u (udF xs v q)) ∨ (¬ kndF xs v ∧ e = .returned (.tuple #[.slice none 0 0, .int .i64 4]) ∧ Fresh w w')

set_option maxHeartbeats 3200000 in
/-- Undo of what may be: P17.3. -/
theorem cUndoIn_any (A : Option Addr) (n c : Nat) (xs : List Int) (v : Nat) (p : Int) (w : World) (hr : Row w .u8 A n xs) (h8 : B8 xs) (hnc : n ≤ c) (hv : 1 ≤ v ∧ v ≤ 1048576) (hp : 1 ≤ p ∧ p ≤ 4) (hm : n % (v + 1) = 0) (hn : n - n / (v + 1) ≤ 1048576) :
    Calls Try.prog 22 #[.slice A n c, .int .i64 v, .int .i64 p] w fun e w' => UdOC w w' e xs v (plN p) := by
  refine (callsIn_wide (n := 6)).1 ?_
  obtain ⟨i0, hi, hz0, hz1, hz2⟩ := info_parts Try.infoCol
  obtain rfl := hr.len
  obtain ⟨D, hD⟩ : ∃ D, D = v + 1 := ⟨_, rfl⟩
  have hR : xs.length / (v + 1) * (v + 1) = xs.length := by
    have := Nat.div_add_mod xs.length (v + 1)
    rw [Nat.mul_comm] at this
    omega
  have hudF : Hid (udF xs v (plN p) = udN xs v (plN p) (xs.length / (v + 1))) := Lib.hid rfl
  have hknd : Hid (kndF xs v ↔ ∀ r, r < xs.length / (v + 1) → xs.getD (r * (v + 1)) 0 ≤ 4) := Lib.hid Iff.rfl
  have hdiv : (xs.length : Int).tdiv (D : Int) = ((xs.length / (v + 1) : Nat) : Int) := by rw [hD, Int.tdiv_eq_ediv_of_nonneg (by omega), ← Int.natCast_ediv]
  have hRn : xs.length / (v + 1) ≤ xs.length := Nat.div_le_self _ _
  have hRs := okU_fit (v := v) (n := xs.length) (p := p) hv hp
  obtain ⟨R, hRe⟩ : ∃ R, R = xs.length / (v + 1) := ⟨_, rfl⟩
  rw [← hRe] at hR hudF hknd hdiv hRn hn
  obtain ⟨N, hN⟩ : ∃ N, N = R * v := ⟨_, rfl⟩
  have hN1 : N + R = xs.length := by rw [hN, ← hR, Nat.mul_add, Nat.mul_one]
  have hRN : R ≤ N := by rw [hN]; exact Nat.le_mul_of_pos_right _ hv.1
  have hNi : (R : Int) * (v : Int) = (N : Int) := by rw [hN, Int.natCast_mul]
  have hDi : (v : Int) + 1 = (D : Int) := by omega
  have hN3 : N ≤ 1048576 := by omega
  have hdF : decide (xs.length % (v + 1) = 0 ∧ xs.length / (v + 1) * v ≤ 1048576) = true := decide_eq_true ⟨hm, by rw [← hRe, ← hN]; exact hN3⟩
  have HFt : Hid (∀ V, Calls Try.prog 34 #[.int .i64 xs.length, .int .i64 v, .int .i64 1, .int .i64 p] V fun e w' => e = .returned (.bool true) ∧ V = w') := Lib.hid fun V => by
    have := cFitF_in xs.length v (v + 1) 1 p V hv hp (by omega) (by omega) (by omega) (by omega)
    rwa [hdF] at this
  have HR := Lib.hid (And.intro hr (And.intro h8 hR))
  have HN := Lib.hid (And.intro hN (And.intro hN1 hD))
  have hD1 : 1 ≤ D := by omega
  have hD2 : D ≤ 1048577 := by omega
  have hlen2 : xs.length ≤ 2097152 := by omega
  clear hr h8 hR hm hRe hN hdF hRs hn hD hN1
  have ha : Kept (fun _ => False) w ((((w.alloc (.cells #[.int .i64 v] 3)).alloc (.cells #[.int .i64 p] 3)).alloc (.cells #[.slice none 0 0] 22)).alloc (.cells #[.int .i64 0] 31)) := ((((Kept.refl _ _).alloc _).alloc _).alloc _).alloc _
  refine callsIn_of_wp_marks Try.func22 rfl trivial ?_ rfl
  simp only [Try.ntmps22, List.size_toArray, List.length_cons, List.length_nil, Nat.reduceAdd, Nat.reduceSub, Array.replicate_succ, Array.replicate_zero, List.push_toArray, List.append_toArray, List.nil_append, List.cons_append]
  gi_wp2_with (first
    | (refine ⟨trivial, ?_⟩; gi_at_call 34; refine (callsIn_wide.2 (HFt.out _)).mono ?_; rintro e w1 ⟨rfl, rfl⟩))
  obtain ⟨Wa, hWa⟩ : ∃ Wa, Wa = (((w.alloc (.cells #[.int .i64 v] 3)).alloc (.cells #[.int .i64 p] 3)).alloc (.cells #[.slice none 0 0] 22)).alloc (.cells #[.int .i64 0] 31) := ⟨_, rfl⟩
  have hza : Wa.heap.size = w.heap.size + 4 := by rw [hWa]; simp
  have hb0 : Blk Wa w.heap.size 3 #[.int .i64 v] := by rw [hWa]; exact (((Blk.new _ _ _).alloc _).alloc _).alloc _
  have hb1 : Blk Wa (w.heap.size + 1) 3 #[.int .i64 p] := by
    rw [hWa]
    have := Blk.new (w.alloc (.cells #[.int .i64 v] 3)) 3 #[.int .i64 p]
    rw [World.size_alloc] at this
    exact (this.alloc _).alloc _
  have hb2 : Blk Wa (w.heap.size + 2) 22 #[.slice none 0 0] := by
    rw [hWa]
    have := Blk.new ((w.alloc (.cells #[.int .i64 v] 3)).alloc (.cells #[.int .i64 p] 3)) 22 #[.slice none 0 0]
    rw [World.size_alloc, World.size_alloc] at this
    exact this.alloc _
  have hb3 : Blk Wa (w.heap.size + 2 + 1) 31 #[.int .i64 0] := by
    rw [hWa]
    have := Blk.new (((w.alloc (.cells #[.int .i64 v] 3)).alloc (.cells #[.int .i64 p] 3)).alloc (.cells #[.slice none 0 0] 22)) 31 #[.int .i64 0]
    rw [World.size_alloc, World.size_alloc, World.size_alloc] at this
    exact this
  rw [← hWa] at ha
  rw [← hWa]
  refine wpIn_wide.2 ?_
  refine wp_region_still_tail 7 (by kernel_rfl) (by kernel_rfl) ?_
  change wpStill _ _ Wa.drew (fun a' => wpList _ _ _ _ a' Wa.drew) _ _
  have hzd : Wa.drew.heap.size = w.heap.size + 4 := hza
  have ha := ha.drew
  have hb0 := hb0.drew
  have hb1 := hb1.drew
  have hb2 := hb2.drew
  have hb3 := hb3.drew
  clear hWa hza
  generalize Wa.drew = Wd at *
  have c0 : Wd.cell? ⟨w.heap.size, 0, none⟩ = some (.int .i64 v) := (hb0.cell 0).trans rfl
  rw [← hDi] at hdiv
  have HDi := Lib.hid hDi
  have HCh : Hid (∀ V, Calls Try.prog 35 #[.slice A xs.length c, .int .i64 ((v : Int) + 1)] V fun e w' => e = .returned (.func (.func 42) #[] #[.pointer (some ⟨V.heap.size, 0, none⟩), .pointer (some ⟨V.heap.size + 1, 0, none⟩)]) ∧
      w' = (V.alloc (.cells #[.slice A xs.length c] 22)).alloc (.cells #[.int .i64 D] 3)) := Lib.hid fun V => by
    rw [hDi]
    exact chunkB_any A xs.length c D V hD1
  have hwv : IntKind.i64.wrap ((v : Int) + 1) = (v : Int) + 1 := IntWalk.i64_in _ (by omega)
  have hD0 : (v : Int) + 1 ≠ 0 := by omega
  clear hDi
  have hwR : IntKind.i64.wrap (R : Int) = (R : Int) := IntWalk.i64_in _ (by omega)
  have hwN : IntKind.i64.wrap (N : Int) = (N : Int) := IntWalk.i64_in _ (by omega)
  simp only [List.take_succ_cons, List.take_zero, List.drop_succ_cons, List.drop_zero]
  iterate 7 still_step
  refine wpStill_nil ?_
  go_wp2_with (at_make; refine wpList_make_zeros _ rfl _ _ 22 rfl 5 i0 .u8 1 Try.underlying22 hi hz0 hz1 hz2 _ _ _ _ N rfl rfl rfl rfl (by omega) (by unfold maxLen; omega) ?_)
  intro w2 ho2 hf2
  have hq0 := hb0.kept hf2 id
  have c2 : ((w2.alloc (.cells #[.slice (some ⟨w.heap.size + 4, 0, none⟩) N N] 22)).alloc (.cells #[.slice none 0 0] 22)).cell? ⟨w.heap.size, 0, none⟩ = some (.int .i64 v) := (((hq0.alloc _).alloc _).cell 0).trans rfl
  have hlt0 := hq0.lt
  go_wp2_with fail
  gi_wp2_with (refine ⟨trivial, ?_⟩; gi_at_call 35; refine (callsIn_wide.2 (HCh.out _)).mono ?_; rintro e w' ⟨rfl, rfl⟩)
  obtain ⟨W0, hW0⟩ : ∃ W0, W0 = (((w2.alloc (.cells #[.slice (some ⟨w.heap.size + 4, 0, none⟩) N N] 22)).alloc (.cells #[.slice none 0 0] 22)).alloc (.cells #[.slice A xs.length c] 22)).alloc (.cells #[.int .i64 D] 3) := ⟨_, rfl⟩
  have hz0 : W0.heap.size = w2.heap.size + 4 := by rw [hW0]; simp
  have hf0 : Fresh w2 W0 := by rw [hW0]; exact ((((Kept.refl _ _).alloc _).alloc _).alloc _).alloc _
  have hrb : Blk W0 w2.heap.size 22 #[.slice (some ⟨w.heap.size + 4, 0, none⟩) N N] := by rw [hW0]; exact (((Blk.new _ _ _).alloc _).alloc _).alloc _
  have hub : Blk W0 (w2.heap.size + 1) 22 #[.slice none 0 0] := by
    rw [hW0]
    have := Blk.new (w2.alloc (.cells #[.slice (some ⟨w.heap.size + 4, 0, none⟩) N N] 22)) 22 #[.slice none 0 0]
    rw [World.size_alloc] at this
    exact (this.alloc _).alloc _
  have hc1 : Blk W0 (w2.heap.size + 1 + 1) 22 #[.slice A xs.length c] := by
    rw [hW0]
    have := Blk.new ((w2.alloc (.cells #[.slice (some ⟨w.heap.size + 4, 0, none⟩) N N] 22)).alloc (.cells #[.slice none 0 0] 22)) 22 #[.slice A xs.length c]
    rw [World.size_alloc, World.size_alloc] at this
    exact this.alloc _
  have hc2 : Blk W0 (w2.heap.size + 1 + 1 + 1) 3 #[.int .i64 D] := by
    rw [hW0]
    have := Blk.new (((w2.alloc (.cells #[.slice (some ⟨w.heap.size + 4, 0, none⟩) N N] 22)).alloc (.cells #[.slice none 0 0] 22)).alloc (.cells #[.slice A xs.length c] 22)) 3 #[.int .i64 D]
    rw [World.size_alloc, World.size_alloc, World.size_alloc] at this
    exact this
  have hg2 : w.heap.size + 4 < w2.heap.size := by
    have := ho2.lt (g := w.heap.size + 4) (by simp [Value.ownBlock])
    exact this
  have hst : UdH w (w.heap.size + 4) w2.heap.size (w2.heap.size + 1) N v R p (plN p) xs W0.heap.size [] W0 :=
    ⟨fun _ h => (by cases h), hq0.kept hf0 id, (hb1.kept hf2 id).kept hf0 id, (hb2.kept hf2 id).kept hf0 id, (hb3.kept hf2 id).kept hf0 id, by rw [show (udS xs v (plN p) []).1 = [] from rfl, spl_nil]; exact ho2.kept hf0 (fun _ _ => id), ⟨_, by simpa using hrb, fun _ => by simp⟩,
      ⟨none, 0, 0, hub, by omega, fun V zs _ _ _ => Row.empty _ _ _⟩, (ha.trans hf2 fun _ _ e => e).trans hf0 fun _ _ e => e, Nat.le_refl _⟩
  have hA : 0 < xs.length → ∃ b o, A = some ⟨b, o, none⟩ := fun h0 => by
    obtain ⟨b, o, e, _⟩ := HR.out.1.at_ 0 h0
    exact ⟨b, o, e⟩
  rw [← hW0]
  have H0 := Lib.hid (And.intro hst (And.intro hc1 (And.intro hc2 hA)))
  clear hst hc1 hc2 hA hrb hub hf0 ho2 hf2 hq0 hW0 hlt0 c0 c2 hb0 hb1 hb2 hb3 ha hzd
  refine wpIn_rangeFunc_ownG rfl (by omega) (gf := 42) (lb := #[.pointer (some ⟨w2.heap.size + 1 + 1, 0, none⟩), .pointer (some ⟨w2.heap.size + 1 + 1 + 1, 0, none⟩)]) rfl trivial (enters_of Try.func42 (by kernel_rfl) rfl)
    (chunkB_stops 5 (by omega) (w2.heap.size + 1 + 1) A xs.length c D R H0.out.2.2.2 hD1 (by rw [HN.out.2.2]; exact HR.out.2.2) hnc (by omega) W0 H0.out.2.1 H0.out.2.2.1) boxes_t (boxes_b (by omega)) (Below.refl _ _) (fun _ => rfl)
    (fun pre W => UdH w (w.heap.size + 4) w2.heap.size (w2.heap.size + 1) N v R p (plN p) xs W0.heap.size (pre.map Fin.val) W)
    (fun cc pre W => cc = .ret ∧ (∃ x : Fin R, 4 < xs.getD (x.val * (v + 1)) 0) ∧ UdL w W)
    (fun s X Y row hs hg hr => hs.nc (kept_of_grown hg) fun k e => ⟨(hr k e).2, by have := (hr k e).1; omega⟩)
    (fun cc s X Y row hs hg hr => ⟨hs.1, hs.2.1, hs.2.2.nc (kept_of_grown hg) fun k e => ⟨(hr k e).2, by have := (hr k e).1; omega⟩⟩)
    H0.out.1
    (fun x => { tmps := #[.slice A xs.length c, .int .i64 v, .int .i64 p, undef, .pointer (some ⟨w.heap.size, 0, none⟩), .pointer (some ⟨w.heap.size + 1, 0, none⟩), .pointer (some ⟨w.heap.size + 1 + 1, 0, none⟩), .pointer (some ⟨w.heap.size + 1 + 1 + 1, 0, none⟩), .slice (some ⟨w.heap.size + 4, 0, none⟩) N N, .pointer (some ⟨w2.heap.size, 0, none⟩), .pointer (some ⟨w2.heap.size + 1, 0, none⟩), rowOf A D x.val, undef, undef, .slice A xs.length c, .int .i64 xs.length, .int .i64 v, .int .i64 p, .bool true, .bool false, .slice A xs.length c, .int .i64 xs.length, .int .i64 v, .int .i64 ((v : Int) + 1), .int .i64 R, .int .i64 v, .int .i64 N, .slice (some ⟨w.heap.size + 4, 0, none⟩) N N, .slice (some ⟨w.heap.size + 4, 0, none⟩) N N, .slice A xs.length c, .int .i64 v, .int .i64 ((v : Int) + 1), .func (.func 42) #[] #[.pointer (some ⟨w2.heap.size + 1 + 1, 0, none⟩), .pointer (some ⟨w2.heap.size + 1 + 1 + 1, 0, none⟩)], rowOf A D x.val, undef, undef, undef, undef, undef, undef, undef, undef, undef, undef, undef, undef, undef, undef, undef, undef, undef, undef, undef, undef, undef, undef], defers := [] }) ?assign ?body ?done ?stop
  case assign =>
    intro l x W K hK
    gi_wp2
    exact hK
  case body =>
    rintro L pre x W h hlen
    obtain ⟨Ar, hrb, hrA⟩ := h.rest
    obtain ⟨B, m, cu, hub, hm, hup⟩ := h.up
    rw [List.length_map] at hrb hrA hup
    have hrA := hrA hlen
    subst hrA
    have hxR := Nat.mul_le_mul_right (v + 1) (show x.val + 1 ≤ R from x.isLt)
    rw [HR.out.2.2] at hxR
    have hx1 : x.val * (v + 1) + (v + 1) ≤ xs.length := by rw [Nat.succ_mul] at hxR; exact hxR
    obtain ⟨b1, o1, hAe, hbw, _⟩ := HR.out.1.at_ (x.val * (v + 1)) (by omega)
    have hrow0 := HR.out.1
    rw [hAe] at hrow0
    have hrow := (hrow0.rowFrom hxR).fresh h.fr
    have hkc : W.cell? ⟨b1, o1 + x.val * (v + 1), none⟩ = some (.int .u8 (xs.getD (x.val * (v + 1)) 0)) := by
      obtain ⟨b', o', e, _, hc⟩ := (hrow0.fresh h.fr).at_ (x.val * (v + 1)) (by omega)
      injection e with e
      injection e with e1 e2
      subst e1 e2
      exact hc
    have hkd := HR.out.2.1.at_ (x.val * (v + 1))
    have hPN := Nat.mul_le_mul_right v (show pre.length + 1 ≤ R from hlen)
    rw [← HN.out.1, Nat.succ_mul] at hPN
    obtain ⟨P, hP⟩ : ∃ P, P = pre.length * v := ⟨_, rfl⟩
    rw [← hP] at hrb hPN hup
    obtain ⟨M, hM⟩ : ∃ M, M = N - P := ⟨_, rfl⟩
    rw [← hM] at hrb
    have hal := udS_length (v := v) (q := plN p) (Nat.le_of_eq HR.out.2.2) pre
    rw [← hP] at hal
    have hup8 := udS_byte xs v (plN p) (pre.map Fin.val)
    have hl8 := rwF_byte HR.out.2.1 v x.val
    have hsn : Hid (udS xs v (plN p) ((pre ++ [x]).map Fin.val) = udStep xs v (plN p) (udS xs v (plN p) (pre.map Fin.val)) x.val) := Lib.hid (by rw [List.map_append, List.map_singleton, udS_snoc])
    unfold udStep at hsn
    have hown := h.own
    obtain ⟨q1, q2⟩ := plN_hi (p := p) (by unfold I64; omega)
    have hlen8 := hrow.len
    unfold rowOf
    rw [hAe, Option.map_some]
    have hXO : o1 + x.val * D = o1 + x.val * (v + 1) := by rw [HN.out.2.2]
    obtain ⟨X, hX⟩ : ∃ X, X = o1 + x.val * (v + 1) := ⟨_, rfl⟩
    rw [← hX] at hXO hkc hrow
    simp only [hXO]
    obtain ⟨l, hl⟩ : ∃ l, l = rwF xs v x.val := ⟨_, rfl⟩
    obtain ⟨S, hS⟩ : ∃ S, S = udS xs v (plN p) (pre.map Fin.val) := ⟨_, rfl⟩
    obtain ⟨kd, hkd0⟩ : ∃ kd, kd = xs.getD (x.val * (v + 1)) 0 := ⟨_, rfl⟩
    rw [← hl] at hrow hl8 hlen8 hsn
    rw [← hS] at hup hup8 hal hsn hown
    rw [← hkd0] at hsn hkd hkc
    have hl0 := h.r0.lt
    have hl1 := h.r1.lt
    have cU : W.cell? ⟨w2.heap.size + 1, 0, none⟩ = some (.slice B m cu) := (hub.cell 0).trans rfl
    have cP : W.cell? ⟨w.heap.size + 1, 0, none⟩ = some (.int .i64 p) := (h.b1.cell 0).trans rfl
    have cV : W.cell? ⟨w.heap.size, 0, none⟩ = some (.int .i64 v) := (h.b0.cell 0).trans rfl
    have cR : W.cell? ⟨w2.heap.size, 0, none⟩ = some (.slice (some ⟨w.heap.size + 4, P, none⟩) M M) := (hrb.cell 0).trans rfl
    have hxs : (spl (List.replicate N 0) 0 S.1).length = N := by rw [spl_length (by rw [hal]; simp; omega)]; simp
    have hD0' : (0 : Int) < (D : Int) := by omega
    by_cases hk4 : kd ≤ 4
    · have hk5 : ¬ 5 ≤ kd := by omega
      have HT : Hid (∀ V, Fresh W V → Calls Try.prog 28 #[.agg #[.slice (some ⟨w.heap.size + 4, P, none⟩) v M, .slice B m cu, .int .i64 (plN p : Nat)], .int .i64 kd, .slice (some ⟨b1, X + 1, none⟩) v v] V fun e w' =>
          e = .returned (.tuple #[]) ∧ Kept (fun i => i = w.heap.size + 4) V w' ∧ Own w' 5 .u8 (.slice (some ⟨w.heap.size + 4, 0, none⟩) N N) (spl (spl (List.replicate N 0) 0 S.1) P (unF kd l S.2 (plN p)))) := Lib.hid fun V hV =>
        cFillF_any (some ⟨b1, X + 1, none⟩) v v l B m cu S.2 kd (plN p) (w.heap.size + 4) P N N M _ V (hrow.fresh hV) hl8 hup8 (by omega) (by omega) q1 q2 (hown.kept hV (fun _ _ => id)) hxs (by omega) (by omega)
          (fun b o e h0 => by injection e with e; injection e with e1 e2; omega)
          (fun V' ys hk hy ho => hup V' _ ho (by rw [spl_length (by rw [hxs]; omega), hxs]) (spl_take ys hal.symm))
      have HF : Hid (∀ V, Calls Try.prog 25 #[.slice (some ⟨w.heap.size + 4, P, none⟩) v M, .slice B m cu, .int .i64 p] V fun e w' => e = .returned (.agg #[.slice (some ⟨w.heap.size + 4, P, none⟩) v M, .slice B m cu, .int .i64 (plN p : Nat)]) ∧ Fresh V w') := Lib.hid fun V => cField_any _ v M B m cu p V
      have hRl := unF_length kd l S.2 (plN p)
      have hsz1 : ∀ w, (sizeOf 5).run Try.prog w = .ok 1 w := fun w => by kernel_rfl
      have hs0 := fun V => run_slice_low 22 5 Try.underlying22 hsz1 (some ⟨w.heap.size + 4, P, none⟩) M M v (by omega) V
      have hDv : D = v + 1 := HN.out.2.2
      have hs1 : ∀ V, (Instr.slice 22 (.slice (some ⟨b1, X, none⟩) D D) (some (.int .i64 1)) none none).run Try.prog V = .ok (.slice (some ⟨b1, X + 1, none⟩) v v) V := fun V => by
        have := run_slice_from 22 5 Try.underlying22 hsz1 (some ⟨b1, X, none⟩) D D 1 (by omega) V
        rw [cutAt, if_neg (by omega), show D - 1 = v by omega] at this
        simpa [Addr.add] using this
      obtain ⟨A', hA'⟩ : ∃ A', A' = cutAt (some ⟨w.heap.size + 4, P, none⟩) v M := ⟨_, rfl⟩
      have hs2 : ∀ V, (Instr.slice 22 (.slice (some ⟨w.heap.size + 4, P, none⟩) M M) (some (.int .i64 (v : Int))) none none).run Try.prog V = .ok (.slice A' (M - v) (M - v)) V := fun V => by
        have := run_slice_from 22 5 Try.underlying22 hsz1 (some ⟨w.heap.size + 4, P, none⟩) M M v (by omega) V
        rw [← hA'] at this
        exact this
      have hMv : v ≤ M := by omega
      have HH := Lib.hid (And.intro h (And.intro hown (And.intro hxs (And.intro hrb (And.intro hub (And.intro hal (And.intro hRl (And.intro hlen8 (And.intro hkd0 hk4)))))))))
      have HP := Lib.hid (And.intro hP (And.intro hM (And.intro hl (And.intro hS hA'))))
      clear h hkd0 hk4 hown hxs hrb hub hrow hrow0 hal hRl hup hup8 hl8 hl hS hP hM hX hXO q1 q2 hAe hlen8 hDv hA' hsz1
      generalize unF kd l S.2 (plN p) = RF at *
      generalize plN p = q at *
      gi_wp2
      refine wpIn_region_plain (by kernel_rfl) (NoDefer.of (by kernel_rfl)) ?_
      refine wpAny_take (i := 0) (v := ?_) rfl (by kernel_rfl) (by kernel_rfl) (by kernel_rfl) (fun _ _ _ h => h) (Or.inl ⟨by rfl, ?_⟩) ?_
      rotate_left
      · intro w
        go_simp
        with_reducible rfl
      refine wpAny_take (i := 4) (v := ?_) rfl (by kernel_rfl) (by kernel_rfl) (by kernel_rfl) (fun _ _ _ h => h) (Or.inl ⟨by rfl, ?_⟩) ?_
      rotate_left
      · intro w
        go_simp
        with_reducible rfl
      refine wpAny_take (i := 5) (v := ?_) rfl (by kernel_rfl) (by kernel_rfl) (by kernel_rfl) (fun _ _ _ h => h) (Or.inl ⟨by rfl, ?_⟩) ?_
      rotate_left
      · intro w
        go_simp
        with_reducible rfl
      refine wpAny_take (i := 6) (v := ?_) rfl (by kernel_rfl) (by kernel_rfl) (by kernel_rfl) (fun _ _ _ h => h) (Or.inl ⟨by rfl, ?_⟩) ?_
      rotate_left
      · intro w
        go_simp
        with_reducible rfl
      have cU' : W.drew.cell? ⟨w2.heap.size + 1, 0, none⟩ = some (.slice B m cu) := cU
      have cP' : W.drew.cell? ⟨w.heap.size + 1, 0, none⟩ = some (.int .i64 p) := cP
      refine wpAny_ready (rs := [1, 2]) (by kernel_rfl) (by simp) ?_
      refine AllReady.cons rfl (fun K hK => ?_) (AllReady.cons rfl (fun K hK => ?_) AllReady.nil)
      · go_simp
        refine hK _ _ ?_
        clear hK K
        refine wpAny_ready (rs := [2]) (by kernel_rfl) (by simp) ?_
        refine AllReady.cons rfl (fun K hK => ?_) AllReady.nil
        go_simp
        refine hK _ _ ?_
        clear hK K
        refine wpAny_ready (rs := [3]) (by kernel_rfl) (by simp) ?_
        refine AllReady.cons rfl (fun K hK => ?_) AllReady.nil
        go_simp
        refine (HF.out _).mono ?_
        rintro e y1 ⟨rfl, hf1⟩
        refine hK _ _ ?_
        clear hK K
        have hf1 := ((Kept.refl (fun _ => False) W).drew).trans hf1 (fun _ _ e => e)
        refine wpAny_ready (rs := [7]) (by kernel_rfl) (by simp) ?_
        refine AllReady.cons rfl (fun K hK => ?_) AllReady.nil
        go_simp
        refine (HT.out _ hf1).mono ?_
        rintro e y3 ⟨rfl, hk3, ho3⟩
        refine hK _ _ ?_
        clear hK K
        have hk3 := (hf1.mono (T := fun i => i = w.heap.size + 4) (fun _ _ e => e.elim)).trans hk3 (fun _ _ e => e)
        refine wpAny_done (by kernel_rfl) ?_ _
        refine Calm.of ?_
        have hR3 := HH.out.2.2.2.1.kept hk3 (by omega)
        have hU3 := HH.out.2.2.2.2.1.kept hk3 (by omega)
        have e0 : y3.cell? ⟨w.heap.size, 0, none⟩ = some (.int .i64 v) := ((HH.out.1.b0.kept hk3 (by omega)).cell 0).trans rfl
        have e1 : y3.cell? ⟨w2.heap.size, 0, none⟩ = some (.slice (some ⟨w.heap.size + 4, P, none⟩) M M) := (hR3.cell 0).trans rfl
        have e2 : y3.cell? ⟨w2.heap.size + 1, 0, none⟩ = some (.slice B m cu) := (hU3.cell 0).trans rfl
        have e3 := hR3.frozen 0
        have e4 := hU3.frozen 0
        have H3 := Lib.hid (And.intro hk3 (And.intro ho3 (And.intro hR3 hU3)))
        clear hk3 ho3 hR3 hU3
        gi_wp2
        have hend : Kept (fun k => k = w2.heap.size ∨ k = w2.heap.size + 1) y3 ((y3.setCell ⟨w2.heap.size, 0, none⟩ (.slice A' (M - v) (M - v))).setCell ⟨w2.heap.size + 1, 0, none⟩ (.slice (some ⟨w.heap.size + 4, P, none⟩) v M)) :=
          ((Kept.refl _ _).setCell (p := ⟨w2.heap.size, 0, none⟩) (fun _ => .inl rfl) _).setCell (p := ⟨w2.heap.size + 1, 0, none⟩) (fun _ => .inr rfl) _
        have hall : Kept (fun k => k = w.heap.size + 4 ∨ k = w2.heap.size ∨ k = w2.heap.size + 1) W ((y3.setCell ⟨w2.heap.size, 0, none⟩ (.slice A' (M - v) (M - v))).setCell ⟨w2.heap.size + 1, 0, none⟩ (.slice (some ⟨w.heap.size + 4, P, none⟩) v M)) :=
          (H3.out.1.mono (fun _ _ e => .inl e)).trans hend (fun _ _ e => .inr e)
        have hbig := HH.out.1.big
        have hcl : (S.1 ++ RF).length = P + v := by rw [List.length_append, HH.out.2.2.2.2.2.1, HH.out.2.2.2.2.2.2.1, HH.out.2.2.2.2.2.2.2.1]
        have hlen2 : ((pre ++ [x]).map Fin.val).length = pre.length + 1 := by simp
        have hmul : (pre.length + 1) * v = P + v := by rw [Nat.succ_mul, ← HP.out.1]
        refine ⟨KeepsFrom.of _ hall fun k e => ?_, ⟨hall.block _ (by omega) (by omega), hall.block _ (by omega) (by omega)⟩, ?_⟩
        · rcases e with rfl | rfl | rfl
          · exact HH.out.2.1.cells rfl
          · exact HH.out.2.2.2.1.cells
          · exact HH.out.2.2.2.2.1.cells
        · refine ⟨fun y hy => ?_, HH.out.1.b0.kept hall (by omega), HH.out.1.b1.kept hall (by omega), HH.out.1.r0.kept hall (by omega), HH.out.1.r1.kept hall (by omega), ?_, ?_, ?_, HH.out.1.fr.trans hall fun i hi e => by omega, Nat.le_trans hbig hall.size⟩
          · rw [List.map_append, List.mem_append] at hy
            rcases hy with hy | hy
            · exact HH.out.1.kinds y hy
            · have hy2 : y = x.val := by simpa using hy
              rw [hy2, ← HH.out.2.2.2.2.2.2.2.2.1]
              exact HH.out.2.2.2.2.2.2.2.2.2
          · rw [hsn.out, ← spl_spl _ (o := P) HH.out.2.2.2.2.2.1.symm]
            exact H3.out.2.1.kept hend (fun k e e2 => by
              have : w.heap.size + 4 = k := by simpa [Value.ownBlock] using e
              omega)
          · rw [hlen2, hmul]
            refine ⟨A', ?_, fun hlt => ?_⟩
            · rw [show N - (P + v) = M - v by rw [HP.out.2.1]; omega]
              exact (H3.out.2.2.1.set_ 0 _).far (p := ⟨w2.heap.size + 1, 0, none⟩) (by simp) _
            · have h2 := Nat.mul_le_mul_right v (show pre.length + 1 + 1 ≤ R from hlt)
              rw [← HN.out.1, Nat.succ_mul, hmul] at h2
              rw [HP.out.2.2.2.2, cutAt, if_neg (by rw [HP.out.2.1]; omega)]
              simp [Addr.add]
              omega
          · rw [hlen2, hmul, hsn.out]
            refine ⟨some ⟨w.heap.size + 4, P, none⟩, v, M, (H3.out.2.2.2.far (p := ⟨w2.heap.size, 0, none⟩) (by simp) _).set_ 0 _, hv.2, fun V zs ho hz htk => ?_⟩
            refine ⟨by rw [HH.out.2.2.2.2.2.2.1, HH.out.2.2.2.2.2.2.2.1], fun j hj => ⟨_, P, rfl, ho.lt rfl, ?_⟩⟩
            rw [ho.cellN hz (j := P + j) (by omega)]
            have e5 : zs.getD (P + j) 0 = (zs.take (P + v)).getD (P + j) 0 := by simp only [List.getD]; rw [List.getElem?_take_of_lt (by omega)]
            rw [e5, htk]
            simp only [List.getD]
            rw [List.getElem?_append_right (by rw [HH.out.2.2.2.2.2.1]; omega), HH.out.2.2.2.2.2.1, Nat.add_sub_cancel_left]
      · go_simp
        refine hK _ _ ?_
        clear hK K
        refine wpAny_ready (rs := [1]) (by kernel_rfl) (by simp) ?_
        refine AllReady.cons rfl (fun K hK => ?_) AllReady.nil
        go_simp
        refine hK _ _ ?_
        clear hK K
        refine wpAny_ready (rs := [3]) (by kernel_rfl) (by simp) ?_
        refine AllReady.cons rfl (fun K hK => ?_) AllReady.nil
        go_simp
        refine (HF.out _).mono ?_
        rintro e y1 ⟨rfl, hf1⟩
        refine hK _ _ ?_
        clear hK K
        have hf1 := ((Kept.refl (fun _ => False) W).drew).trans hf1 (fun _ _ e => e)
        refine wpAny_ready (rs := [7]) (by kernel_rfl) (by simp) ?_
        refine AllReady.cons rfl (fun K hK => ?_) AllReady.nil
        go_simp
        refine (HT.out _ hf1).mono ?_
        rintro e y3 ⟨rfl, hk3, ho3⟩
        refine hK _ _ ?_
        clear hK K
        have hk3 := (hf1.mono (T := fun i => i = w.heap.size + 4) (fun _ _ e => e.elim)).trans hk3 (fun _ _ e => e)
        refine wpAny_done (by kernel_rfl) ?_ _
        refine Calm.of ?_
        have hR3 := HH.out.2.2.2.1.kept hk3 (by omega)
        have hU3 := HH.out.2.2.2.2.1.kept hk3 (by omega)
        have e0 : y3.cell? ⟨w.heap.size, 0, none⟩ = some (.int .i64 v) := ((HH.out.1.b0.kept hk3 (by omega)).cell 0).trans rfl
        have e1 : y3.cell? ⟨w2.heap.size, 0, none⟩ = some (.slice (some ⟨w.heap.size + 4, P, none⟩) M M) := (hR3.cell 0).trans rfl
        have e2 : y3.cell? ⟨w2.heap.size + 1, 0, none⟩ = some (.slice B m cu) := (hU3.cell 0).trans rfl
        have e3 := hR3.frozen 0
        have e4 := hU3.frozen 0
        have H3 := Lib.hid (And.intro hk3 (And.intro ho3 (And.intro hR3 hU3)))
        clear hk3 ho3 hR3 hU3
        gi_wp2
        have hend : Kept (fun k => k = w2.heap.size ∨ k = w2.heap.size + 1) y3 ((y3.setCell ⟨w2.heap.size, 0, none⟩ (.slice A' (M - v) (M - v))).setCell ⟨w2.heap.size + 1, 0, none⟩ (.slice (some ⟨w.heap.size + 4, P, none⟩) v M)) :=
          ((Kept.refl _ _).setCell (p := ⟨w2.heap.size, 0, none⟩) (fun _ => .inl rfl) _).setCell (p := ⟨w2.heap.size + 1, 0, none⟩) (fun _ => .inr rfl) _
        have hall : Kept (fun k => k = w.heap.size + 4 ∨ k = w2.heap.size ∨ k = w2.heap.size + 1) W ((y3.setCell ⟨w2.heap.size, 0, none⟩ (.slice A' (M - v) (M - v))).setCell ⟨w2.heap.size + 1, 0, none⟩ (.slice (some ⟨w.heap.size + 4, P, none⟩) v M)) :=
          (H3.out.1.mono (fun _ _ e => .inl e)).trans hend (fun _ _ e => .inr e)
        have hbig := HH.out.1.big
        have hcl : (S.1 ++ RF).length = P + v := by rw [List.length_append, HH.out.2.2.2.2.2.1, HH.out.2.2.2.2.2.2.1, HH.out.2.2.2.2.2.2.2.1]
        have hlen2 : ((pre ++ [x]).map Fin.val).length = pre.length + 1 := by simp
        have hmul : (pre.length + 1) * v = P + v := by rw [Nat.succ_mul, ← HP.out.1]
        refine ⟨KeepsFrom.of _ hall fun k e => ?_, ⟨hall.block _ (by omega) (by omega), hall.block _ (by omega) (by omega)⟩, ?_⟩
        · rcases e with rfl | rfl | rfl
          · exact HH.out.2.1.cells rfl
          · exact HH.out.2.2.2.1.cells
          · exact HH.out.2.2.2.2.1.cells
        · refine ⟨fun y hy => ?_, HH.out.1.b0.kept hall (by omega), HH.out.1.b1.kept hall (by omega), HH.out.1.r0.kept hall (by omega), HH.out.1.r1.kept hall (by omega), ?_, ?_, ?_, HH.out.1.fr.trans hall fun i hi e => by omega, Nat.le_trans hbig hall.size⟩
          · rw [List.map_append, List.mem_append] at hy
            rcases hy with hy | hy
            · exact HH.out.1.kinds y hy
            · have hy2 : y = x.val := by simpa using hy
              rw [hy2, ← HH.out.2.2.2.2.2.2.2.2.1]
              exact HH.out.2.2.2.2.2.2.2.2.2
          · rw [hsn.out, ← spl_spl _ (o := P) HH.out.2.2.2.2.2.1.symm]
            exact H3.out.2.1.kept hend (fun k e e2 => by
              have : w.heap.size + 4 = k := by simpa [Value.ownBlock] using e
              omega)
          · rw [hlen2, hmul]
            refine ⟨A', ?_, fun hlt => ?_⟩
            · rw [show N - (P + v) = M - v by rw [HP.out.2.1]; omega]
              exact (H3.out.2.2.1.set_ 0 _).far (p := ⟨w2.heap.size + 1, 0, none⟩) (by simp) _
            · have h2 := Nat.mul_le_mul_right v (show pre.length + 1 + 1 ≤ R from hlt)
              rw [← HN.out.1, Nat.succ_mul, hmul] at h2
              rw [HP.out.2.2.2.2, cutAt, if_neg (by rw [HP.out.2.1]; omega)]
              simp [Addr.add]
              omega
          · rw [hlen2, hmul, hsn.out]
            refine ⟨some ⟨w.heap.size + 4, P, none⟩, v, M, (H3.out.2.2.2.far (p := ⟨w2.heap.size, 0, none⟩) (by simp) _).set_ 0 _, hv.2, fun V zs ho hz htk => ?_⟩
            refine ⟨by rw [HH.out.2.2.2.2.2.2.1, HH.out.2.2.2.2.2.2.2.1], fun j hj => ⟨_, P, rfl, ho.lt rfl, ?_⟩⟩
            rw [ho.cellN hz (j := P + j) (by omega)]
            have e5 : zs.getD (P + j) 0 = (zs.take (P + v)).getD (P + j) 0 := by simp only [List.getD]; rw [List.getElem?_take_of_lt (by omega)]
            rw [e5, htk]
            simp only [List.getD]
            rw [List.getElem?_append_right (by rw [HH.out.2.2.2.2.2.1]; omega), HH.out.2.2.2.2.2.1, Nat.add_sub_cancel_left]
    · have hk5 : 5 ≤ kd := by omega
      have c4 : W.cell? ⟨w.heap.size + 1 + 1, 0, none⟩ = some (.slice none 0 0) := (h.r0.cell 0).trans rfl
      have c5 : W.cell? ⟨w.heap.size + 1 + 1 + 1, 0, none⟩ = some (.int .i64 0) := (h.r1.cell 0).trans rfl
      have f4 : W.frozen? ⟨w.heap.size + 1 + 1, 0, none⟩ = false := h.r0.frozen 0
      have f5 : W.frozen? ⟨w.heap.size + 1 + 1 + 1, 0, none⟩ = false := h.r1.frozen 0
      have HH := Lib.hid (And.intro h (And.intro hkd0 hk4))
      clear h hkd0 hk4 hown hxs hrb hub hrow hrow0 hal hup hup8 hl8 hl hS hsn hP hM hX hXO q1 q2 hAe hlen8 cU cP cV cR
      gi_wp2
      refine ⟨?_, rfl, ⟨x, ?_⟩, ?_, ?_, ?_⟩
      · refine KeepsFrom.of (S := fun k => k = w.heap.size + 2 ∨ k = w.heap.size + 2 + 1) _ (((Kept.refl _ _).setCell (p := ⟨w.heap.size + 1 + 1, 0, none⟩) (fun _ => .inl rfl) _).setCell (p := ⟨w.heap.size + 1 + 1 + 1, 0, none⟩) (fun _ => .inr rfl) _) fun k e => ?_
        rcases e with rfl | rfl
        · exact HH.out.1.r0.cells
        · exact HH.out.1.r1.cells
      · show (4 : Int) < xs.getD (x.val * (v + 1)) 0
        have e := HH.out.2.1
        have e2 := HH.out.2.2
        omega
      · exact (HH.out.1.r0.set_ 0 _).far (p := ⟨w.heap.size + 1 + 1 + 1, 0, none⟩) (by simp) _
      · exact (HH.out.1.r1.far (p := ⟨w.heap.size + 1 + 1, 0, none⟩) (by simp) _).set_ 0 _
      · exact (HH.out.1.fr.setCell (p := ⟨w.heap.size + 1 + 1, 0, none⟩) (fun e => absurd e (by simp; omega)) _).setCell (p := ⟨w.heap.size + 1 + 1 + 1, 0, none⟩) (fun e => absurd e (by simp; omega)) _
  case done =>
    rintro E ys W hE hys h hK
    have hown := h.own
    have hal := udN_length (x := xs) (w := v) (n := plN p) R (Nat.le_of_eq HR.out.2.2)
    rw [hys, udS_range, spl_all (by rw [hal, ← HN.out.1]; simp)] at hown
    have hown : Own W 5 .u8 (.slice (some ⟨w.heap.size + 4, 0, none⟩) N N) (udF xs v (plN p)) := by rw [hudF.out]; exact hown
    have hk : kndF xs v := hknd.out.2 fun r hr => h.kinds r (by rw [hys]; exact List.mem_range.2 hr)
    have c4 : W.cell? ⟨w.heap.size + 1 + 1, 0, none⟩ = some (.slice none 0 0) := (h.r0.cell 0).trans rfl
    have c5 : W.cell? ⟨w.heap.size + 1 + 1 + 1, 0, none⟩ = some (.int .i64 0) := (h.r1.cell 0).trans rfl
    have f4 : W.frozen? ⟨w.heap.size + 1 + 1, 0, none⟩ = false := h.r0.frozen 0
    have f5 : W.frozen? ⟨w.heap.size + 1 + 1 + 1, 0, none⟩ = false := h.r1.frozen 0
    have HH := Lib.hid (And.intro h (And.intro hown hk))
    clear h hown hk hal
    gi_wp2
    obtain ⟨z1, z2, z3, z4, z5⟩ := results_from HH.out.1.r0 HH.out.1.r1 rfl rfl hK (by omega) (by omega) HH.out.1.fr (.slice (some ⟨w.heap.size + 4, 0, none⟩) N N) 0
    refine ⟨by simp, .inl ⟨_, _, rfl, run_takeDeferred z1, ?_⟩⟩
    refine ⟨.tuple #[.slice (some ⟨w.heap.size + 4, 0, none⟩) N N, .int .i64 0], by simp [results, Try.f22, go_sem, z2, z3], ?_⟩
    refine .inl ⟨HH.out.2.2, _, rfl, HH.out.2.1.kept z4 (fun k e e2 => ?_), fun k e => ?_, z5⟩
    · have e3 : w.heap.size + 4 = k := by simpa [Value.ownBlock] using e
      subst e3
      rcases e2 with e2 | e2 | e2
      · omega
      · omega
      · exact HH.out.2.1.cells rfl ⟨_, e2 ▸ hK, rfl⟩
    · have e3 : w.heap.size + 4 = k := by simpa [Value.ownBlock] using e
      omega
  case stop =>
    rintro E cc pre W hE _ ⟨rfl, ⟨x, hx⟩, h⟩ hK
    have hnk : ¬ kndF xs v := fun hk => by
      have := hknd.out.1 hk x.val x.isLt
      omega
    gi_wp2
    have k1 := kept_of_grown (grownBy_putObj' W E (.deferred none))
    have b0 := h.r0.kept k1 (fun e => h.r0.cells ⟨_, by injection e with e; exact e ▸ hK, rfl⟩)
    have b1 := h.r1.kept k1 (fun e => h.r1.cells ⟨_, by injection e with e; exact e ▸ hK, rfl⟩)
    have z2 := (b0.cell 0).trans (show _ = some (Value.slice none 0 0) from rfl)
    have z3 := (b1.cell 0).trans (show _ = some (Value.int .i64 4) from rfl)
    refine ⟨by simp, .inl ⟨_, _, rfl, run_takeDeferred hK, ?_⟩⟩
    refine ⟨.tuple #[.slice none 0 0, .int .i64 4], by simp [results, Try.f22, go_sem, z2, z3], ?_⟩
    exact .inr ⟨hnk, rfl, h.fr.trans k1 fun i hi e => by injection e with e; omega⟩

set_option maxHeartbeats 1600000 in
/-- Undo of what may not be. -/
theorem cUndoNo_any (A : Option Addr) (n c : Nat) (wd p : Int) (w : World) (hn : n ≤ 16777216) (h : ¬ okU wd p n) :
    Calls Try.prog 22 #[.slice A n c, .int .i64 wd, .int .i64 p] w fun e w' => e = .returned (.tuple #[.slice none 0 0, .int .i64 1]) ∧ Fresh w w' := by
  have HF : Hid (∀ V, Calls Try.prog 34 #[.int .i64 n, .int .i64 wd, .int .i64 1, .int .i64 p] V fun e w' => e = .returned (.bool false) ∧ V = w') := Lib.hid fun V => by
    by_cases h4 : 1 ≤ wd ∧ wd ≤ 1048576 ∧ 1 ≤ p ∧ p ≤ 4
    · obtain ⟨v, rfl⟩ : ∃ v : Nat, wd = v := ⟨wd.toNat, by omega⟩
      have := cFitF_in n v (v + 1) 1 p V (by omega) (by omega) (by omega) (by omega) (by omega) hn
      rwa [decide_eq_false (fun hh => h ((okU_fit (by omega) (by omega)).1 hh))] at this
    · exact cFitF_no n wd 1 p V h4
  clear h hn
  go_enter Try.func22, Try.ntmps22
  go_wp2_with fail
  refine (HF.out _).mono ?_
  rintro e w1 ⟨rfl, rfl⟩
  go_wp2_with fail
  refine bodyPost_ret (v := .tuple #[.slice none 0 0, .int .i64 1]) (by simp [results, Try.f22, go_sem]) rfl ?_
  exact ⟨rfl, ((((Kept.refl _ _).alloc _).alloc _).alloc _).alloc _⟩

end Go.Proofs.Ytnmapfoinhomdaa
