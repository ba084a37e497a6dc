/- The code's Apply of filters. -/
import Derived.Test.YtnmapfoinhomdaaFilCf
import Derived.Test.YtnmapfoinhomdaaFilK
import Derived.Test.YtnmapfoinhomdaaStillIn
namespace Go.Proofs.Ytnmapfoinhomdaa
open Go.RowKit Go.Shelf
set_option maxRecDepth 100000

attribute [local go_sem] Oper.semAt_some

/-- A row more: what is told, and the row ahead. -/
def apStep (bs : List Int) (v q : Nat) (s : List Int × List Int) (x : Nat) : List Int × List Int :=
  (s.1 ++ ([(bst (prtF bs v x) s.2 q : Int)] ++ rowF (bst (prtF bs v x) s.2 q : Nat) (prtF bs v x) s.2 q), prtF bs v x)
def apS (bs : List Int) (v q : Nat) (pre : List Nat) : List Int × List Int := pre.foldl (apStep bs v q) ([], [])
theorem apS_snoc (bs : List Int) (v q : Nat) (pre : List Nat) (x : Nat) : apS bs v q (pre ++ [x]) = apStep bs v q (apS bs v q pre) x := by simp [apS]
theorem apS_range (bs : List Int) (v q : Nat) : ∀ r, apS bs v q (List.range r) = (apN bs v q r, prvF bs v r)
  | 0 => rfl
  | r + 1 => by rw [List.range_succ, apS_snoc, apS_range bs v q r]; rfl
theorem apS_fold (bs : List Int) (v q : Nat) (R : Nat) (hR : R * v ≤ bs.length) : ∀ (pre : List (Fin R)) (s : List Int × List Int), ((pre.map Fin.val).foldl (apStep bs v q) s).1.length = s.1.length + pre.length * (v + 1)
  | [], s => by simp
  | x :: r, s => by
    have hx := Nat.mul_le_mul_right v (show x.val + 1 ≤ R from x.isLt)
    have hp : (prtF bs v x.val).length = v := prtF_length (by omega)
    rw [List.map_cons, List.foldl_cons, apS_fold bs v q R hR r, List.length_cons, Nat.succ_mul]
    simp only [apStep, List.length_append, rowF_length, hp, List.length_singleton]
    omega
theorem apS_length {bs : List Int} {v q R : Nat} (hR : R * v ≤ bs.length) (pre : List (Fin R)) : (apS bs v q (pre.map Fin.val)).1.length = pre.length * (v + 1) := by
  unfold apS
  rw [apS_fold bs v q R hR]
  simp
theorem apS_byte {bs : List Int} (h : B8 bs) (v q : Nat) (pre : List Nat) : B8 (apS bs v q pre).2 := by
  rcases List.eq_nil_or_concat pre with rfl | ⟨l, x, rfl⟩
  · intro x hx
    cases hx
  · rw [List.concat_eq_append, apS_snoc]
    exact prtF_byte h v x
theorem spl_spl {xs ys : List Int} (zs : List Int) {o : Nat} (ho : o = ys.length) : spl (spl xs 0 ys) o zs = spl xs 0 (ys ++ zs) := by
  subst ho
  simp only [spl, List.take_zero, List.nil_append, Nat.zero_add, List.length_append]
  rw [List.take_left', List.drop_append, List.append_assoc]
  · simp
  · rfl

/-- A row of the rows of one width. -/
theorem Row.rowOf {w : World} {A : Option Addr} {n v x : Nat} {l : List Int} (h : Row w .u8 A n l) (hx : (x + 1) * v ≤ n) : Row w .u8 (A.map fun a => ⟨a.block, a.off + x * v, none⟩) v (prtF l v x) := by
  have hl := h.len
  refine ⟨prtF_length (by omega), fun j hj => ?_⟩
  rw [Nat.succ_mul] at hx
  obtain ⟨b, o, rfl, hb, hc⟩ := h.at_ (x * v + j) (by omega)
  refine ⟨b, o + x * v, rfl, hb, ?_⟩
  rw [Nat.add_assoc, hc]
  unfold prtF
  simp only [List.getD]
  rw [List.getElem?_take_of_lt hj, List.getElem?_drop]

/-- Between two rounds. -/
structure ApH (w : World) (g rb ub N v R : Nat) (p : Int) (q : Nat) (bs : List Int) (d : Nat) (pre : List Nat) (W : World) : Prop where
  b0 : Blk W w.heap.size 3 #[.int .i64 v]
  b1 : Blk W (w.heap.size + 1) 3 #[.int .i64 p]
  own : Own W 5 .u8 (.slice (some ⟨g, 0, none⟩) N N) (spl (List.replicate N 0) 0 (apS bs v q pre).1)
  rest : ∃ A, Blk W rb 22 #[.slice A (N - pre.length * (v + 1)) (N - pre.length * (v + 1))] ∧ (pre.length < R → A = some ⟨g, pre.length * (v + 1), none⟩)
  up : ∃ B m c, Blk W ub 22 #[.slice B m c] ∧ Row W .u8 B m (apS bs v q pre).2 ∧ (∀ b o, B = some ⟨b, o, none⟩ → 0 < m → b < w.heap.size)
  fr : Fresh w W
  big : d ≤ W.heap.size
theorem ApH.nc {w : World} {g rb ub N v R : Nat} {p : Int} {q : Nat} {bs : List Int} {d : Nat} {pre : List Nat} {S : Nat → Prop} {X Y : World} (h : ApH w g rb ub N v R p q bs d pre X) (hk : Kept S X Y) (hS : ∀ k, S k → NoCells X k ∧ w.heap.size ≤ k) : ApH w g rb ub N v R p q bs d pre Y := by
  obtain ⟨A, hA, hA2⟩ := h.rest
  obtain ⟨B, m, c, hB, hB2, hB3⟩ := h.up
  exact ⟨h.b0.kept hk (fun e => h.b0.cells (hS _ e).1), h.b1.kept hk (fun e => h.b1.cells (hS _ e).1), h.own.kept hk (fun k e e2 => h.own.cells e (hS _ e2).1), ⟨A, hA.kept hk (fun e => hA.cells (hS _ e).1), hA2⟩,
    ⟨B, m, c, hB.kept hk (fun e => hB.cells (hS _ e).1), hB2.kept hk (fun b o e h0 e2 => by have := (hS _ e2).2; have := hB3 b o e h0; omega), hB3⟩, h.fr.trans hk fun i hi e => (by have := (hS i e).2; omega), Nat.le_trans h.big hk.size⟩

set_option maxHeartbeats 3200000 in
/-- Apply of what may be: P17.3. -/
theorem cApplyIn_any (A : Option Addr) (n c : Nat) (bs : List Int) (v : Nat) (p : Int) (w : World) (hr : Row w .u8 A n bs) (h8 : B8 bs) (hn : n ≤ 1048576) (hnc : n ≤ c) (hv : 1 ≤ v ∧ v ≤ 1048576) (hp : 1 ≤ p ∧ p ≤ 4) (hm : n % v = 0) :
    Calls Try.prog 20 #[.slice A n c, .int .i64 v, .int .i64 p] w fun e w' => ∃ u, e = .returned (.tuple #[u, .int .i64 0]) ∧ NewRow w w' 5 .u8 u (apF bs v (plN p)) := by
  refine (callsIn_wide (n := 6)).1 ?_
  obtain ⟨i0, hi, hz0, hz1, hz2⟩ := info_parts Try.infoCol
  obtain rfl := hr.len
  have hR : bs.length / v * v = bs.length := by
    have := Nat.div_add_mod bs.length v
    rw [Nat.mul_comm] at this
    omega
  have hapF : Hid (apF bs v (plN p) = apN bs v (plN p) (bs.length / v)) := Lib.hid rfl
  have hdiv : (bs.length : Int).tdiv (v : Int) = ((bs.length / v : Nat) : Int) := by rw [Int.tdiv_eq_ediv_of_nonneg (by omega), ← Int.natCast_ediv]
  have hRn : bs.length / v ≤ bs.length := Nat.div_le_self _ _
  obtain ⟨R, hRe⟩ : ∃ R, R = bs.length / v := ⟨_, rfl⟩
  rw [← hRe] at hR hapF hdiv hRn
  obtain ⟨N, hN⟩ : ∃ N, N = bs.length + R := ⟨_, rfl⟩
  have hN2 : N = R * (v + 1) := by rw [hN, Nat.mul_add, Nat.mul_one, hR]
  have hNi : (bs.length : Int) + (R : Int) = (N : Int) := by omega
  have hN3 : N ≤ 2097152 := by omega
  have hdF : decide (bs.length % v = 0 ∧ bs.length / v * v ≤ 1048576) = true := decide_eq_true ⟨hm, by rw [← hRe]; omega⟩
  have HFt : Hid (∀ V, Calls Try.prog 34 #[.int .i64 bs.length, .int .i64 v, .int .i64 0, .int .i64 p] V fun e w' => e = .returned (.bool true) ∧ V = w') := Lib.hid fun V => by
    have := cFitF_in bs.length v v 0 p V hv hp (by omega) (Nat.le_refl _) (by omega) (by omega)
    rwa [hdF] at this
  have HR := Lib.hid (And.intro hr (And.intro h8 hR))
  have HN := Lib.hid (And.intro hN hN2)
  clear hr h8 hR hm hRe hN hN2 hdF
  have ha0 : Blk ((w.alloc (.cells #[.int .i64 v] 3)).alloc (.cells #[.int .i64 p] 3)) w.heap.size 3 #[.int .i64 v] := (Blk.new _ _ _).alloc _
  have ha1 : Blk ((w.alloc (.cells #[.int .i64 v] 3)).alloc (.cells #[.int .i64 p] 3)) (w.heap.size + 1) 3 #[.int .i64 p] := by
    have := Blk.new (w.alloc (.cells #[.int .i64 v] 3)) 3 #[.int .i64 p]
    rwa [World.size_alloc] at this
  have HA := Lib.hid (And.intro ha0 (And.intro ha1 (((Kept.refl (fun _ => False) w).alloc (.cells #[.int .i64 v] 3)).alloc (.cells #[.int .i64 p] 3))))
  clear ha0 ha1
  refine callsIn_of_wp_marks Try.func20 rfl trivial ?_ rfl
  simp only [Try.ntmps20, List.size_toArray, List.length_cons, List.length_nil, Nat.reduceAdd, Nat.reduceSub, Array.replicate_succ, Array.replicate_zero, List.push_toArray, List.append_toArray, List.nil_append, List.cons_append]
  gi_wp2_with (first
    | (refine ⟨trivial, ?_⟩; gi_at_call 34; refine (callsIn_wide.2 (HFt.out _)).mono ?_; rintro e w1 ⟨rfl, rfl⟩)
    | (gi_at_make; refine wpListIn_make_zeros _ rfl _ _ 22 rfl 5 i0 .u8 1 Try.underlying22 hi hz0 hz1 hz2 .i64 .i64 (N : Int) (N : Int) N rfl rfl rfl rfl (by omega) (by unfold maxLen; omega) ?_; intro w2 ho2 hf2; have hq0 := HA.out.1.kept hf2 id; have hlt0 := hq0.lt; have c0 : ((w2.alloc (.cells #[.slice (some ⟨w.heap.size + 1 + 1, 0, none⟩) N N] 22)).alloc (.cells #[.slice none 0 0] 22)).cell? ⟨w.heap.size, 0, none⟩ = some (.int .i64 v) := (((hq0.alloc _).alloc _).cell 0).trans rfl)
    | (refine ⟨trivial, ?_⟩; gi_at_call 35; refine (callsIn_wide.2 (chunkB_any A bs.length c v _ hv.1)).mono ?_; rintro e w' ⟨rfl, rfl⟩))
  obtain ⟨W0, hW0⟩ : ∃ W0, W0 = (((w2.alloc (.cells #[.slice (some ⟨w.heap.size + 1 + 1, 0, none⟩) N N] 22)).alloc (.cells #[.slice none 0 0] 22)).alloc (.cells #[.slice A bs.length c] 22)).alloc (.cells #[.int .i64 v] 3) := ⟨_, rfl⟩
  have hz0 : W0.heap.size = w2.heap.size + 4 := by rw [hW0]; simp
  have hf0 : Fresh w2 W0 := by rw [hW0]; exact ((((Kept.refl _ _).alloc _).alloc _).alloc _).alloc _
  have hrb : Blk W0 w2.heap.size 22 #[.slice (some ⟨w.heap.size + 1 + 1, 0, none⟩) N N] := by rw [hW0]; exact (((Blk.new _ _ _).alloc _).alloc _).alloc _
  have hub : Blk W0 (w2.heap.size + 1) 22 #[.slice none 0 0] := by
    rw [hW0]
    have := Blk.new (w2.alloc (.cells #[.slice (some ⟨w.heap.size + 1 + 1, 0, none⟩) N N] 22)) 22 #[.slice none 0 0]
    rw [World.size_alloc] at this
    exact (this.alloc _).alloc _
  have hc1 : Blk W0 (w2.heap.size + 1 + 1) 22 #[.slice A bs.length c] := by
    rw [hW0]
    have := Blk.new ((w2.alloc (.cells #[.slice (some ⟨w.heap.size + 1 + 1, 0, none⟩) N N] 22)).alloc (.cells #[.slice none 0 0] 22)) 22 #[.slice A bs.length c]
    rw [World.size_alloc, World.size_alloc] at this
    exact this.alloc _
  have hc2 : Blk W0 (w2.heap.size + 1 + 1 + 1) 3 #[.int .i64 v] := by
    rw [hW0]
    have := Blk.new (((w2.alloc (.cells #[.slice (some ⟨w.heap.size + 1 + 1, 0, none⟩) N N] 22)).alloc (.cells #[.slice none 0 0] 22)).alloc (.cells #[.slice A bs.length c] 22)) 3 #[.int .i64 v]
    rw [World.size_alloc, World.size_alloc, World.size_alloc] at this
    exact this
  have hg2 : w.heap.size + 1 + 1 < w2.heap.size := by
    have := ho2.lt (g := w.heap.size + 1 + 1) (by simp [Value.ownBlock])
    exact this
  have ho2' : Own w2 5 .u8 (.slice (some ⟨w.heap.size + 1 + 1, 0, none⟩) N N) (List.replicate N 0) := by simpa using ho2
  have hst : ApH w (w.heap.size + 1 + 1) w2.heap.size (w2.heap.size + 1) N v R p (plN p) bs W0.heap.size [] W0 :=
    ⟨hq0.kept hf0 id, (HA.out.2.1.kept hf2 id).kept hf0 id, by rw [show (apS bs v (plN p) []).1 = [] from rfl, spl_nil]; exact ho2'.kept hf0 (fun _ _ => id), ⟨_, by simpa using hrb, fun _ => by simp⟩,
      ⟨none, 0, 0, hub, Row.empty _ _ _, fun b o e _ => by cases e⟩, (HA.out.2.2.trans hf2 fun _ _ e => e).trans hf0 fun _ _ e => e, Nat.le_refl _⟩
  have hA : 0 < bs.length → ∃ b o, A = some ⟨b, o, none⟩ := fun h0 => by
    obtain ⟨b, o, e, _⟩ := HR.out.1.at_ 0 h0
    exact ⟨b, o, e⟩
  rw [← hW0]
  have H0 := Lib.hid (And.intro hst (And.intro hc1 (And.intro hc2 hA)))
  clear hst hc1 hc2 hA hrb hub hf0 ho2 ho2' hf2 hq0 hW0 hlt0 c0
  refine wpIn_rangeFunc_ownG rfl (by omega) (gf := 42) (lb := #[.pointer (some ⟨w2.heap.size + 1 + 1, 0, none⟩), .pointer (some ⟨w2.heap.size + 1 + 1 + 1, 0, none⟩)]) rfl trivial (enters_of Try.func42 (by kernel_rfl) rfl)
    (chunkB_stops 5 (by omega) (w2.heap.size + 1 + 1) A bs.length c v R H0.out.2.2.2 hv.1 HR.out.2.2 hnc (by omega) W0 H0.out.2.1 H0.out.2.2.1) boxes_t (boxes_b (by omega)) (Below.refl _ _) (fun _ => rfl)
    (fun pre W => ApH w (w.heap.size + 1 + 1) w2.heap.size (w2.heap.size + 1) N v R p (plN p) bs W0.heap.size (pre.map Fin.val) W)
    (fun _ _ _ => False)
    (fun s X Y row hs hg hr => hs.nc (kept_of_grown hg) fun k e => ⟨(hr k e).2, by have := (hr k e).1; omega⟩)
    (fun _ _ _ _ _ hs _ _ => hs)
    H0.out.1
    (fun x => { tmps := #[.slice A bs.length c, .int .i64 v, .int .i64 p, undef, .pointer (some ⟨w.heap.size, 0, none⟩), .pointer (some ⟨w.heap.size + 1, 0, none⟩), .slice none 0 0, .int .i64 0, .slice (some ⟨w.heap.size + 1 + 1, 0, none⟩) N N, .pointer (some ⟨w2.heap.size, 0, none⟩), .pointer (some ⟨w2.heap.size + 1, 0, none⟩), rowOf A v x.val, undef, undef, .slice A bs.length c, .int .i64 bs.length, .int .i64 v, .int .i64 p, .bool true, .bool false, .slice A bs.length c, .int .i64 bs.length, .slice A bs.length c, .int .i64 bs.length, .int .i64 v, .int .i64 R, .int .i64 N, .slice (some ⟨w.heap.size + 1 + 1, 0, none⟩) N N, .slice (some ⟨w.heap.size + 1 + 1, 0, none⟩) N N, .slice A bs.length c, .int .i64 v, .func (.func 42) #[] #[.pointer (some ⟨w2.heap.size + 1 + 1, 0, none⟩), .pointer (some ⟨w2.heap.size + 1 + 1 + 1, 0, none⟩)], rowOf A v x.val, undef, undef, undef, undef, undef, undef, undef, undef, undef, undef, undef, undef, undef, undef, undef, undef, undef, undef, undef, undef, undef, undef, undef], defers := [] }) ?assign ?body ?done ?stop
  case assign =>
    intro l x W K hK
    gi_wp2
    exact hK
  case body =>
    rintro L pre x W h hlen
    obtain ⟨Ar, hrb, hrA⟩ := h.rest
    obtain ⟨B, m, cu, hub, hup, hBw⟩ := h.up
    rw [List.length_map] at hrb hrA
    have hrA := hrA hlen
    subst hrA
    have hxR := Nat.mul_le_mul_right v (show x.val + 1 ≤ R from x.isLt)
    rw [HR.out.2.2] at hxR
    have hrow := (HR.out.1.rowOf hxR).fresh h.fr
    have hPN := Nat.mul_le_mul_right (v + 1) (show pre.length + 1 ≤ R from hlen)
    rw [← HN.out.2, Nat.succ_mul] at hPN
    obtain ⟨P, hP⟩ : ∃ P, P = pre.length * (v + 1) := ⟨_, rfl⟩
    rw [← hP] at hrb hPN
    obtain ⟨M, hM⟩ : ∃ M, M = N - P := ⟨_, rfl⟩
    rw [← hM] at hrb
    have hal := apS_length (q := plN p) (Nat.le_of_eq HR.out.2.2) pre
    rw [← hP] at hal
    have hup8 := apS_byte HR.out.2.1 v (plN p) (pre.map Fin.val)
    have hl8 := prtF_byte HR.out.2.1 v x.val
    have hsn : Hid (apS bs v (plN p) ((pre ++ [x]).map Fin.val) = apStep bs v (plN p) (apS bs v (plN p) (pre.map Fin.val)) x.val) := Lib.hid (by rw [List.map_append, List.map_singleton, apS_snoc])
    unfold apStep at hsn
    have hown := h.own
    have hpl : (plN p : Int) = p := by rw [(plN_in p).2]; omega
    obtain ⟨q1, q2⟩ := plN_hi (p := p) (by unfold I64; omega)
    have hm : m ≤ 1048576 := by
      have e1 := hup.len
      rcases List.eq_nil_or_concat (pre.map Fin.val) with e | ⟨l, y, e⟩
      · rw [e] at e1
        simp [apS] at e1
        omega
      · rw [e, List.concat_eq_append, apS_snoc] at e1
        have := List.length_take_le v (bs.drop (y * v))
        simp only [apStep, prtF] at e1
        omega
    have hlen8 := hrow.len
    obtain ⟨LA, hLA⟩ : ∃ LA, LA = A.map fun a => (⟨a.block, a.off + x.val * v, none⟩ : Addr) := ⟨_, rfl⟩
    unfold rowOf
    rw [← hLA] at hrow ⊢
    have hLb : ∀ b o, LA = some ⟨b, o, none⟩ → 0 < v → b < w.heap.size := fun b o e h0 => by
      obtain ⟨b', o', e', hb', _⟩ := HR.out.1.at_ 0 (by omega)
      rw [hLA, e'] at e
      simp only [Option.map_some, Option.some.injEq, Addr.mk.injEq] at e
      omega
    obtain ⟨l, hl⟩ : ∃ l, l = prtF bs v x.val := ⟨_, rfl⟩
    obtain ⟨S, hS⟩ : ∃ S, S = apS bs v (plN p) (pre.map Fin.val) := ⟨_, rfl⟩
    rw [← hl] at hrow hl8 hlen8 hsn
    rw [← hS] at hup hup8 hal hsn hown
    have hK4 := bstN_le l S.2 (plN p) 4
    change bst l S.2 (plN p) ≤ 4 at hK4
    have HT : Hid (∀ V xs, Kept (fun i => i = w.heap.size + 1 + 1) W V → Own V 5 .u8 (.slice (some ⟨w.heap.size + 1 + 1, 0, none⟩) N N) xs → xs.length = N →
        Calls Try.prog 26 #[.agg #[.slice LA v v, .slice B m cu, .int .i64 (plN p : Nat)], .int .i64 (bst l S.2 (plN p) : Nat), .slice (some ⟨w.heap.size + 1 + 1, P + 1, none⟩) v (M - 1)] V fun e w' =>
          e = .returned (.tuple #[]) ∧ Kept (fun i => i = w.heap.size + 1 + 1) V w' ∧ Own w' 5 .u8 (.slice (some ⟨w.heap.size + 1 + 1, 0, none⟩) N N) (spl xs (P + 1) (rowF (bst l S.2 (plN p) : Nat) l S.2 (plN p)))) := Lib.hid fun V xs hk ho hx =>
      cTurnF_any LA v v l B m cu S.2 _ (plN p) (w.heap.size + 1 + 1) (P + 1) N N (M - 1) xs V (hrow.kept hk (fun b o e h0 e2 => by have := hLb b o e h0; omega)) (hup.kept hk (fun b o e h0 e2 => by have := hBw b o e h0; omega)) hl8 hup8 (by omega) (by omega) q2 ho hx (by omega) (by omega)
        (fun b o e h0 => by have := hLb b o e h0; omega) (fun b o e h0 => by have := hBw b o e h0; omega)
    have HB : Hid (∀ V, Fresh W V → Calls Try.prog 29 #[.agg #[.slice LA v v, .slice B m cu, .int .i64 (plN p : Nat)]] V fun e w' => e = .returned (.int .i64 (bst l S.2 (plN p) : Nat)) ∧ Fresh V w') := Lib.hid fun V hV =>
      cBestF_any LA v v l B m cu S.2 (plN p) V (hrow.fresh hV) (hup.fresh hV) hl8 hup8 (by omega) (by omega) q2
    have HF : Hid (∀ V, Calls Try.prog 25 #[.slice LA v v, .slice B m cu, .int .i64 p] V fun e w' => e = .returned (.agg #[.slice LA v v, .slice B m cu, .int .i64 (plN p : Nat)]) ∧ Fresh V w') := Lib.hid fun V => cField_any LA v v B m cu p V
    have hRl := rowF_length (bst l S.2 (plN p) : Nat) l S.2 (plN p)
    have cU : W.cell? ⟨w2.heap.size + 1, 0, none⟩ = some (.slice B m cu) := (hub.cell 0).trans rfl
    have cP : W.cell? ⟨w.heap.size + 1, 0, none⟩ = some (.int .i64 p) := (h.b1.cell 0).trans rfl
    have hxs : (spl (List.replicate N 0) 0 S.1).length = N := by rw [spl_length (by rw [hal]; simp; omega)]; simp
    have hcG := hown.cellN hxs (j := P) (by omega)
    have hfG := hown.frozenN hxs P
    have hgW := hown.lt (g := w.heap.size + 1 + 1) rfl
    have hM0 : (0 : Int) < (M : Int) := by omega
    have HH := Lib.hid (And.intro h (And.intro hown (And.intro hxs (And.intro hrb (And.intro hub (And.intro hrow (And.intro hLb (And.intro hal (And.intro hRl hlen8)))))))))
    have HP := Lib.hid (And.intro hP (And.intro hM (And.intro hl hS)))
    clear h hown hxs hrb hub hrow hLb hal hRl hlen8 hP hM hl hS hup hup8 hl8 hLA hBw hxR q1 q2 hpl hm
    generalize bst l S.2 (plN p) = K at *
    generalize rowF (K : Nat) l S.2 (plN p) = RF at *
    generalize (spl (List.replicate N 0) 0 S.1).getD P 0 = old at *
    generalize plN p = q at *
    gi_wp2_with (first
      | (refine ⟨trivial, ?_⟩; gi_at_call 25; refine (CallsIn.inRound L (callsIn_wide.2 (HF.out _))).mono ?_; rintro e y1 ⟨rfl, hf1⟩)
      | (refine ⟨trivial, ?_⟩; gi_at_call 29; refine (CallsIn.inRound L (callsIn_wide.2 (HB.out _ (hf1.alloc _)))).mono ?_; rintro e y2 ⟨rfl, hf2⟩
         have hfa := (hf1.alloc (.cells #[.slice LA v v, .slice B m cu, .int .i64 q] 44)).trans hf2 (fun _ _ e => e)
         have hfb := (Blk.new y1 44 #[.slice LA v v, .slice B m cu, .int .i64 q]).kept hf2 id
         have cR : y2.cell? ⟨w2.heap.size, 0, none⟩ = some (.slice (some ⟨w.heap.size + 1 + 1, P, none⟩) M M) := ((HH.out.2.2.2.1.kept hfa id).cell 0).trans rfl
         have cG : y2.cell? ⟨w.heap.size + 1 + 1, P, none⟩ = some (.int .u8 old) := (hfa.cell (p := ⟨w.heap.size + 1 + 1, P, none⟩) hgW id).trans hcG
         have fG : y2.frozen? ⟨w.heap.size + 1 + 1, P, none⟩ = false := (hfa.frozen (p := ⟨w.heap.size + 1 + 1, P, none⟩) hgW id).trans hfG))
    obtain ⟨V, hV⟩ : ∃ V, V = (y2.setCell ⟨w.heap.size + 1 + 1, P, none⟩ (.int .u8 K)).drew := ⟨_, rfl⟩
    have hVk : Kept (fun i => i = w.heap.size + 1 + 1) W V := by rw [hV]; exact ((hfa.mono (T := fun i => i = w.heap.size + 1 + 1) fun _ _ e => e.elim).setCell (p := ⟨w.heap.size + 1 + 1, P, none⟩) (fun _ => rfl) _).drew
    have hVo : Own V 5 .u8 (.slice (some ⟨w.heap.size + 1 + 1, 0, none⟩) N N) (spl (List.replicate N 0) 0 (S.1 ++ [(K : Int)])) := by
      have h1 := ((HH.out.2.1.kept hfa (fun _ _ => id)).storeN HH.out.2.2.1 P (K : Int)).drew
      rw [hV]
      have h2 := spl_set (xs := List.replicate N 0) (ys := S.1) (o := 0) (by rw [HH.out.2.2.2.2.2.2.2.1]; simp; omega) (K : Int)
      rw [Nat.zero_add, HH.out.2.2.2.2.2.2.2.1] at h2
      rw [← h2]
      exact h1
    have hVb : Blk V y1.heap.size 44 #[.slice LA v v, .slice B m cu, .int .i64 q] := by
      have := hf1.size
      rw [hV]
      exact (hfb.far (p := ⟨w.heap.size + 1 + 1, P, none⟩) (by simp; omega) _).drew
    have hyz := hf1.size
    have hV0 : V.cell? ⟨w.heap.size, 0, none⟩ = some (.int .i64 v) := ((HH.out.1.b0.kept hVk (by omega)).cell 0).trans rfl
    have hVR := HH.out.2.2.2.1.kept hVk (by omega)
    have cVR : V.cell? ⟨w2.heap.size, 0, none⟩ = some (.slice (some ⟨w.heap.size + 1 + 1, P, none⟩) M M) := (hVR.cell 0).trans rfl
    have d0 := (hVb.cell 0).trans (show _ = some (Value.slice LA v v) from rfl)
    have d1 := (hVb.cell 1).trans (show _ = some (Value.slice B m cu) from rfl)
    have d2 := (hVb.cell 2).trans (show _ = some (Value.int .i64 q) from rfl)
    have hw1 : IntKind.i64.wrap (1 + (v : Int)) = 1 + (v : Int) := IntWalk.i64_in _ (by omega)
    have hsz1 : ∀ w, (sizeOf 5).run Try.prog w = .ok 1 w := fun w => by kernel_rfl
    have hMv : v + 1 ≤ M := by rw [HP.out.2.1]; omega
    obtain ⟨g, hg⟩ : ∃ g, g = w.heap.size + 1 + 1 := ⟨_, rfl⟩
    have hs1 : ∀ w, (Instr.slice 22 (.slice (some ⟨g, P, none⟩) M M) (some (.int .i64 1)) (some (.int .i64 (1 + (v : Int)))) none).run Try.prog w = .ok (.slice (some ⟨g, P + 1, none⟩) v (M - 1)) w := fun w => by
      have := run_slice_part 22 5 Try.underlying22 hsz1 (some ⟨g, P, none⟩) M M 1 (1 + v) (1 + (v : Int)) (by omega) (by omega) (by omega) w
      rw [show 1 + v - 1 = v by omega, cutAt, if_neg (by omega)] at this
      simpa [Addr.add] using this
    rw [hg] at hs1
    clear hg
    refine wpIn_region_tail 6 (by kernel_rfl) (by kernel_rfl) (NoDefer.of (by kernel_rfl)) ?_
    rw [← hV]
    clear hV
    simp only [List.take_succ_cons, List.take_zero, List.drop_succ_cons, List.drop_zero]
    iterate 5 still_step
    still_step
    refine wpStill_nil ?_
    obtain ⟨A', hA'⟩ : ∃ A', A' = cutAt (some ⟨w.heap.size + 1 + 1, P, none⟩) (1 + v) M := ⟨_, rfl⟩
    have hs2 : ∀ V, (Instr.slice 22 (.slice (some ⟨w.heap.size + 1 + 1, P, none⟩) M M) (some (.int .i64 (1 + (v : Int)))) none none).run Try.prog V = .ok (.slice A' (M - (1 + v)) (M - (1 + v))) V := fun V => by
      have := run_slice_from 22 5 Try.underlying22 hsz1 (some ⟨w.heap.size + 1 + 1, P, none⟩) M M (1 + v) (by omega) V
      rw [← hA', show ((1 + v : Nat) : Int) = 1 + (v : Int) by omega] at this
      exact this
    have hxV : (spl (List.replicate N 0) 0 (S.1 ++ [(K : Int)])).length = N := by
      rw [spl_length (by rw [List.length_append, HH.out.2.2.2.2.2.2.2.1]; simp; omega)]
      simp
    have HTV := Lib.hid (HT.out V _ hVk hVo hxV)
    have HV := Lib.hid (And.intro hVk (And.intro hVR (And.intro hA' hxV)))
    clear hVk hVo hVR hVb hA' hxV hs1 hfa hfb cR cG fG hf1 hf2 HF HB HT cU cP hcG hfG
    go_wp2_with fail
    refine HTV.out.mono ?_
    rintro e y3 ⟨rfl, hk3, ho3⟩
    have hk3 := HV.out.1.trans hk3 (fun _ _ e => e)
    have hR3 := HH.out.2.2.2.1.kept hk3 (by omega)
    have hU3 := HH.out.2.2.2.2.1.kept hk3 (by omega)
    have e0 : y3.cell? ⟨w.heap.size, 0, none⟩ = some (.int .i64 v) := ((HH.out.1.b0.kept hk3 (by omega)).cell 0).trans rfl
    have e1 : y3.cell? ⟨w2.heap.size, 0, none⟩ = some (.slice (some ⟨w.heap.size + 1 + 1, P, none⟩) M M) := (hR3.cell 0).trans rfl
    have e2 : y3.cell? ⟨w2.heap.size + 1, 0, none⟩ = some (.slice B m cu) := (hU3.cell 0).trans rfl
    have e3 := hR3.frozen 0
    have e4 := hU3.frozen 0
    have H3 := Lib.hid (And.intro hk3 (And.intro ho3 (And.intro hR3 hU3)))
    clear hk3 ho3 hR3 hU3
    go_wp2_with fail
    refine Calm.of ?_
    gi_wp2_with fail
    have hend : Kept (fun k => k = w2.heap.size ∨ k = w2.heap.size + 1) y3 ((y3.setCell ⟨w2.heap.size, 0, none⟩ (.slice A' (M - (1 + v)) (M - (1 + v)))).setCell ⟨w2.heap.size + 1, 0, none⟩ (.slice LA v v)) :=
      ((Kept.refl _ _).setCell (p := ⟨w2.heap.size, 0, none⟩) (fun _ => .inl rfl) _).setCell (p := ⟨w2.heap.size + 1, 0, none⟩) (fun _ => .inr rfl) _
    have hall : Kept (fun k => k = w.heap.size + 1 + 1 ∨ k = w2.heap.size ∨ k = w2.heap.size + 1) W ((y3.setCell ⟨w2.heap.size, 0, none⟩ (.slice A' (M - (1 + v)) (M - (1 + v)))).setCell ⟨w2.heap.size + 1, 0, none⟩ (.slice LA v v)) :=
      (H3.out.1.mono (fun _ _ e => .inl e)).trans hend (fun _ _ e => .inr e)
    have hbig := HH.out.1.big
    refine ⟨KeepsFrom.of _ hall fun k e => ?_, ⟨hall.block _ (by omega) (by omega), hall.block _ (by omega) (by omega)⟩, ?_⟩
    · rcases e with rfl | rfl | rfl
      · exact HH.out.2.1.cells rfl
      · exact HH.out.2.2.2.1.cells
      · exact HH.out.2.2.2.2.1.cells
    · refine ⟨HH.out.1.b0.kept hall (by omega), HH.out.1.b1.kept hall (by omega), ?_, ?_, ?_, HH.out.1.fr.trans hall fun i hi e => by omega, Nat.le_trans hbig hall.size⟩
      · rw [hsn.out, ← List.append_assoc, ← spl_spl _ (o := P + 1) (by rw [List.length_append, HH.out.2.2.2.2.2.2.2.1]; rfl)]
        exact H3.out.2.1.kept hend (fun k e e2 => by
          have : w.heap.size + 1 + 1 = k := by simpa [Value.ownBlock] using e
          omega)
      · have hlen2 : ((pre ++ [x]).map Fin.val).length = pre.length + 1 := by simp
        have hmul : (pre.length + 1) * (v + 1) = P + (v + 1) := by rw [Nat.succ_mul, ← HP.out.1]
        rw [hlen2, hmul]
        refine ⟨A', ?_, fun hlt => ?_⟩
        · rw [show N - (P + (v + 1)) = M - (1 + v) by rw [HP.out.2.1]; omega]
          exact (H3.out.2.2.1.set_ 0 _).far (p := ⟨w2.heap.size + 1, 0, none⟩) (by simp) _
        · have h2 := Nat.mul_le_mul_right (v + 1) (show pre.length + 1 + 1 ≤ R from hlt)
          rw [← HN.out.2, Nat.succ_mul, hmul] at h2
          rw [HV.out.2.2.1, cutAt, if_neg (by rw [HP.out.2.1]; omega)]
          simp [Addr.add]
      · refine ⟨LA, v, v, (H3.out.2.2.2.far (p := ⟨w2.heap.size, 0, none⟩) (by simp) _).set_ 0 _, ?_, HH.out.2.2.2.2.2.2.1⟩
        rw [hsn.out]
        exact HH.out.2.2.2.2.2.1.kept hall fun b o e h0 e2 => by
          have := HH.out.2.2.2.2.2.2.1 b o e h0
          omega
  case done =>
    rintro D ys W hD hys h hK
    have hal := apN_length (b := bs) (w := v) (n := plN p) R (Nat.le_of_eq HR.out.2.2)
    have hown := h.own
    rw [hys, apS_range, spl_all (by rw [hal, ← HN.out.2]; simp)] at hown
    have hown : Own W 5 .u8 (.slice (some ⟨w.heap.size + 1 + 1, 0, none⟩) N N) (apF bs v (plN p)) := by rw [hapF.out]; exact hown
    have hfr := h.fr
    clear h hal
    gi_wp2
    refine ⟨by simp, .inl ⟨_, _, rfl, run_takeDeferred hK, ?_⟩⟩
    have hg := kept_of_grown (grownBy_putObj' W D (.deferred none))
    exact ⟨_, results_tmp2 rfl _ _ _, _, rfl, hown.kept hg (fun g e e2 => by cases e2; exact hown.cells e ⟨_, hK, rfl⟩), fun g e => (by
      have : w.heap.size + 1 + 1 = g := by simpa [Value.ownBlock] using e
      omega), hfr.trans hg fun i hi e => by cases e; omega⟩
  case stop =>
    rintro D c pre W _ _ h _
    exact h.elim

set_option maxHeartbeats 1600000 in
/-- Apply of what may not be. -/
theorem cApplyNo_any (A : Option Addr) (n c : Nat) (wd p : Int) (w : World) (hn : n ≤ 16777216) (h : ¬ okA wd p n) :
    Calls Try.prog 20 #[.slice A n c, .int .i64 wd, .int .i64 p] w fun e w' => e = .returned (.tuple #[.slice none 0 0, .int .i64 1]) ∧ Fresh w w' := by
  have HF : Hid (∀ V, Calls Try.prog 34 #[.int .i64 n, .int .i64 wd, .int .i64 0, .int .i64 p] V fun e w' => e = .returned (.bool false) ∧ V = w') := Lib.hid fun V => by
    by_cases h4 : 1 ≤ wd ∧ wd ≤ 1048576 ∧ 1 ≤ p ∧ p ≤ 4
    · obtain ⟨v, rfl⟩ : ∃ v : Nat, wd = v := ⟨wd.toNat, by omega⟩
      have := cFitF_in n v v 0 p V (by omega) (by omega) (by omega) (Nat.le_refl _) (by omega) hn
      rwa [decide_eq_false (fun hh => h ((okA_fit (by omega) (by omega)).1 hh))] at this
    · exact cFitF_no n wd 0 p V h4
  clear h hn
  go_enter Try.func20, Try.ntmps20
  go_wp2_with fail
  refine (HF.out _).mono ?_
  rintro e w1 ⟨rfl, rfl⟩
  go_wp2_with fail
  refine bodyPost_ret (results_tmp2 rfl _ _ _) rfl ?_
  exact ⟨rfl, ((Kept.refl _ _).alloc _).alloc _⟩

end Go.Proofs.Ytnmapfoinhomdaa
