/- Texts of this proof, one behind the other: FilCg, ColAw, ColC, ImaU, ImaS, ColCa, ImaA, FilCh, ImaP. -/
import Derived.Test.YthfifpapkknodaaPart4
import Derived.Test.YthfifpapkknodaaPart1
import Derived.Lib.SliceRun
import Derived.StillTailTactics
import Derived.BigQuiet
import Derived.BigRegion
import Derived.Deep.RegionHeld3

/- The code's Apply of filters. -/
namespace Go.Proofs.Ythfifpapkknodaa
open Go.RowKit Go.Shelf
set_option maxRecDepth 100000

attribute [local go_sem] Oper.semAt_some

/-- A row more: what is told, and the row ahead. -/
def apStep (bs : List Int) (v q : Nat) (s : List Int × List Int) (x : Nat) : List Int × List Int :=
  (s.1 ++ ([(bst (prtF bs v x) s.2 q : Int)] ++ rowF (bst (prtF bs v x) s.2 q : Nat) (prtF bs v x) s.2 q), prtF bs v x)
def apS (bs : List Int) (v q : Nat) (pre : List Nat) : List Int × List Int := pre.foldl (apStep bs v q) ([], [])
theorem apS_snoc (bs : List Int) (v q : Nat) (pre : List Nat) (x : Nat) : apS bs v q (pre ++ [x]) = apStep bs v q (apS bs v q pre) x := by simp [apS]
theorem apS_range (bs : List Int) (v q : Nat) : ∀ r, apS bs v q (List.range r) = (apN bs v q r, prvF bs v r)
  | 0 => rfl
  | r + 1 => by rw [List.range_succ, apS_snoc, apS_range bs v q r]; rfl
theorem apS_fold (bs : List Int) (v q : Nat) (R : Nat) (hR : R * v ≤ bs.length) : ∀ (pre : List (Fin R)) (s : List Int × List Int), ((pre.map Fin.val).foldl (apStep bs v q) s).1.length = s.1.length + pre.length * (v + 1)
  | [], s => by simp
  | x :: r, s => by
    have hx := Nat.mul_le_mul_right v (show x.val + 1 ≤ R from x.isLt)
    have hp : (prtF bs v x.val).length = v := prtF_length (by omega)
    rw [List.map_cons, List.foldl_cons, apS_fold bs v q R hR r, List.length_cons, Nat.succ_mul]
    simp only [apStep, List.length_append, rowF_length, hp, List.length_singleton]
    omega
theorem apS_length {bs : List Int} {v q R : Nat} (hR : R * v ≤ bs.length) (pre : List (Fin R)) : (apS bs v q (pre.map Fin.val)).1.length = pre.length * (v + 1) := by
  unfold apS
  rw [apS_fold bs v q R hR]
  simp
theorem apS_byte {bs : List Int} (h : B8 bs) (v q : Nat) (pre : List Nat) : B8 (apS bs v q pre).2 := by
  rcases List.eq_nil_or_concat pre with rfl | ⟨l, x, rfl⟩
  · intro x hx
    cases hx
  · rw [List.concat_eq_append, apS_snoc]
    exact prtF_byte h v x
theorem spl_spl {xs ys : List Int} (zs : List Int) {o : Nat} (ho : o = ys.length) : spl (spl xs 0 ys) o zs = spl xs 0 (ys ++ zs) := by
  subst ho
  simp only [spl, List.take_zero, List.nil_append, Nat.zero_add, List.length_append]
  rw [List.take_left', List.drop_append, List.append_assoc]
  · simp
  · rfl

/-- A row of the rows of one width. -/
theorem Row.rowOf {w : World} {A : Option Addr} {n v x : Nat} {l : List Int} (h : Row w .u8 A n l) (hx : (x + 1) * v ≤ n) : Row w .u8 (A.map fun a => ⟨a.block, a.off + x * v, none⟩) v (prtF l v x) := by
  have hl := h.len
  refine ⟨prtF_length (by omega), fun j hj => ?_⟩
  rw [Nat.succ_mul] at hx
  obtain ⟨b, o, rfl, hb, hc⟩ := h.at_ (x * v + j) (by omega)
  refine ⟨b, o + x * v, rfl, hb, ?_⟩
  rw [Nat.add_assoc, hc]
  unfold prtF
  simp only [List.getD]
  rw [List.getElem?_take_of_lt hj, List.getElem?_drop]

/-- Between two rounds. -/
structure ApH (w : World) (g rb ub N v R : Nat) (p : Int) (q : Nat) (bs : List Int) (d : Nat) (pre : List Nat) (W : World) : Prop where
  b0 : Blk W w.heap.size 3 #[.int .i64 v]
  b1 : Blk W (w.heap.size + 1) 3 #[.int .i64 p]
  own : Own W 5 .u8 (.slice (some ⟨g, 0, none⟩) N N) (spl (List.replicate N 0) 0 (apS bs v q pre).1)
  rest : ∃ A, Blk W rb 22 #[.slice A (N - pre.length * (v + 1)) (N - pre.length * (v + 1))] ∧ (pre.length < R → A = some ⟨g, pre.length * (v + 1), none⟩)
  up : ∃ B m c, Blk W ub 22 #[.slice B m c] ∧ Row W .u8 B m (apS bs v q pre).2 ∧ (∀ b o, B = some ⟨b, o, none⟩ → 0 < m → b < w.heap.size)
  fr : Fresh w W
  big : d ≤ W.heap.size
theorem ApH.nc {w : World} {g rb ub N v R : Nat} {p : Int} {q : Nat} {bs : List Int} {d : Nat} {pre : List Nat} {S : Nat → Prop} {X Y : World} (h : ApH w g rb ub N v R p q bs d pre X) (hk : Kept S X Y) (hS : ∀ k, S k → NoCells X k ∧ w.heap.size ≤ k) : ApH w g rb ub N v R p q bs d pre Y := by
  obtain ⟨A, hA, hA2⟩ := h.rest
  obtain ⟨B, m, c, hB, hB2, hB3⟩ := h.up
  exact ⟨h.b0.kept hk (fun e => h.b0.cells (hS _ e).1), h.b1.kept hk (fun e => h.b1.cells (hS _ e).1), h.own.kept hk (fun k e e2 => h.own.cells e (hS _ e2).1), ⟨A, hA.kept hk (fun e => hA.cells (hS _ e).1), hA2⟩,
    ⟨B, m, c, hB.kept hk (fun e => hB.cells (hS _ e).1), hB2.kept hk (fun b o e h0 e2 => by have := (hS _ e2).2; have := hB3 b o e h0; omega), hB3⟩, h.fr.trans hk fun i hi e => (by have := (hS i e).2; omega), Nat.le_trans h.big hk.size⟩

set_option maxHeartbeats 3200000 in
/-- Apply of what may be: P17.3. -/
theorem cApplyIn_any (A : Option Addr) (n c : Nat) (bs : List Int) (v : Nat) (p : Int) (w : World) (hr : Row w .u8 A n bs) (h8 : B8 bs) (hn : n ≤ 1048576) (hnc : n ≤ c) (hv : 1 ≤ v ∧ v ≤ 1048576) (hp : 1 ≤ p ∧ p ≤ 4) (hm : n % v = 0) :
    Calls Try.prog 50 #[.slice A n c, .int .i64 v, .int .i64 p] w fun e w' => ∃ u, e = .returned (.tuple #[u, .int .i64 0]) ∧ NewRow w w' 5 .u8 u (apF bs v (plN p)) := by
  refine (callsIn_wide (n := 6)).1 ?_
  obtain ⟨i0, hi, hz0, hz1, hz2⟩ := info_parts Try.infoCol
  obtain rfl := hr.len
  have hR : bs.length / v * v = bs.length := by
    have := Nat.div_add_mod bs.length v
    rw [Nat.mul_comm] at this
    omega
  have hapF : Hid (apF bs v (plN p) = apN bs v (plN p) (bs.length / v)) := Lib.hid rfl
  have hdiv : (bs.length : Int).tdiv (v : Int) = ((bs.length / v : Nat) : Int) := by rw [Int.tdiv_eq_ediv_of_nonneg (by omega), ← Int.natCast_ediv]
  have hRn : bs.length / v ≤ bs.length := Nat.div_le_self _ _
  obtain ⟨R, hRe⟩ : ∃ R, R = bs.length / v := ⟨_, rfl⟩
  rw [← hRe] at hR hapF hdiv hRn
  obtain ⟨N, hN⟩ : ∃ N, N = bs.length + R := ⟨_, rfl⟩
  have hN2 : N = R * (v + 1) := by rw [hN, Nat.mul_add, Nat.mul_one, hR]
  have hNi : (bs.length : Int) + (R : Int) = (N : Int) := by omega
  have hN3 : N ≤ 2097152 := by omega
  have hdF : decide (bs.length % v = 0 ∧ bs.length / v * v ≤ 1048576) = true := decide_eq_true ⟨hm, by rw [← hRe]; omega⟩
  have HFt : Hid (∀ V, Calls Try.prog 75 #[.int .i64 bs.length, .int .i64 v, .int .i64 0, .int .i64 p] V fun e w' => e = .returned (.bool true) ∧ V = w') := Lib.hid fun V => by
    have := cFitF_in bs.length v v 0 p V hv hp (by omega) (Nat.le_refl _) (by omega) (by omega)
    rwa [hdF] at this
  have HR := Lib.hid (And.intro hr (And.intro h8 hR))
  have HN := Lib.hid (And.intro hN hN2)
  clear hr h8 hR hm hRe hN hN2 hdF
  have ha0 : Blk ((w.alloc (.cells #[.int .i64 v] 3)).alloc (.cells #[.int .i64 p] 3)) w.heap.size 3 #[.int .i64 v] := (Blk.new _ _ _).alloc _
  have ha1 : Blk ((w.alloc (.cells #[.int .i64 v] 3)).alloc (.cells #[.int .i64 p] 3)) (w.heap.size + 1) 3 #[.int .i64 p] := by
    have := Blk.new (w.alloc (.cells #[.int .i64 v] 3)) 3 #[.int .i64 p]
    rwa [World.size_alloc] at this
  have HA := Lib.hid (And.intro ha0 (And.intro ha1 (((Kept.refl (fun _ => False) w).alloc (.cells #[.int .i64 v] 3)).alloc (.cells #[.int .i64 p] 3))))
  clear ha0 ha1
  refine callsIn_of_wp_marks Try.func50 rfl trivial ?_ rfl
  simp only [Try.ntmps50, List.size_toArray, List.length_cons, List.length_nil, Nat.reduceAdd, Nat.reduceSub, Array.replicate_succ, Array.replicate_zero, List.push_toArray, List.append_toArray, List.nil_append, List.cons_append]
  gi_wp2_with (first
    | (refine ⟨trivial, ?_⟩; gi_at_call 75; refine (callsIn_wide.2 (HFt.out _)).mono ?_; rintro e w1 ⟨rfl, rfl⟩)
    | (gi_at_make; refine wpListIn_make_zeros _ rfl _ _ 22 rfl 5 i0 .u8 1 Try.underlying22 hi hz0 hz1 hz2 .i64 .i64 (N : Int) (N : Int) N rfl rfl rfl rfl (by omega) (by unfold maxLen; omega) ?_; intro w2 ho2 hf2; have hq0 := HA.out.1.kept hf2 id; have hlt0 := hq0.lt; have c0 : ((w2.alloc (.cells #[.slice (some ⟨w.heap.size + 1 + 1, 0, none⟩) N N] 22)).alloc (.cells #[.slice none 0 0] 22)).cell? ⟨w.heap.size, 0, none⟩ = some (.int .i64 v) := (((hq0.alloc _).alloc _).cell 0).trans rfl)
    | (refine ⟨trivial, ?_⟩; gi_at_call 49; refine (callsIn_wide.2 (chunkB_any A bs.length c v _ hv.1)).mono ?_; rintro e w' ⟨rfl, rfl⟩))
  obtain ⟨W0, hW0⟩ : ∃ W0, W0 = (((w2.alloc (.cells #[.slice (some ⟨w.heap.size + 1 + 1, 0, none⟩) N N] 22)).alloc (.cells #[.slice none 0 0] 22)).alloc (.cells #[.slice A bs.length c] 22)).alloc (.cells #[.int .i64 v] 3) := ⟨_, rfl⟩
  have hz0 : W0.heap.size = w2.heap.size + 4 := by rw [hW0]; simp
  have hf0 : Fresh w2 W0 := by rw [hW0]; exact ((((Kept.refl _ _).alloc _).alloc _).alloc _).alloc _
  have hrb : Blk W0 w2.heap.size 22 #[.slice (some ⟨w.heap.size + 1 + 1, 0, none⟩) N N] := by rw [hW0]; exact (((Blk.new _ _ _).alloc _).alloc _).alloc _
  have hub : Blk W0 (w2.heap.size + 1) 22 #[.slice none 0 0] := by
    rw [hW0]
    have := Blk.new (w2.alloc (.cells #[.slice (some ⟨w.heap.size + 1 + 1, 0, none⟩) N N] 22)) 22 #[.slice none 0 0]
    rw [World.size_alloc] at this
    exact (this.alloc _).alloc _
  have hc1 : Blk W0 (w2.heap.size + 1 + 1) 22 #[.slice A bs.length c] := by
    rw [hW0]
    have := Blk.new ((w2.alloc (.cells #[.slice (some ⟨w.heap.size + 1 + 1, 0, none⟩) N N] 22)).alloc (.cells #[.slice none 0 0] 22)) 22 #[.slice A bs.length c]
    rw [World.size_alloc, World.size_alloc] at this
    exact this.alloc _
  have hc2 : Blk W0 (w2.heap.size + 1 + 1 + 1) 3 #[.int .i64 v] := by
    rw [hW0]
    have := Blk.new (((w2.alloc (.cells #[.slice (some ⟨w.heap.size + 1 + 1, 0, none⟩) N N] 22)).alloc (.cells #[.slice none 0 0] 22)).alloc (.cells #[.slice A bs.length c] 22)) 3 #[.int .i64 v]
    rw [World.size_alloc, World.size_alloc, World.size_alloc] at this
    exact this
  have hg2 : w.heap.size + 1 + 1 < w2.heap.size := by
    have := ho2.lt (g := w.heap.size + 1 + 1) (by simp [Value.ownBlock])
    exact this
  have ho2' : Own w2 5 .u8 (.slice (some ⟨w.heap.size + 1 + 1, 0, none⟩) N N) (List.replicate N 0) := by simpa using ho2
  have hst : ApH w (w.heap.size + 1 + 1) w2.heap.size (w2.heap.size + 1) N v R p (plN p) bs W0.heap.size [] W0 :=
    ⟨hq0.kept hf0 id, (HA.out.2.1.kept hf2 id).kept hf0 id, by rw [show (apS bs v (plN p) []).1 = [] from rfl, spl_nil]; exact ho2'.kept hf0 (fun _ _ => id), ⟨_, by simpa using hrb, fun _ => by simp⟩,
      ⟨none, 0, 0, hub, Row.empty _ _ _, fun b o e _ => by cases e⟩, (HA.out.2.2.trans hf2 fun _ _ e => e).trans hf0 fun _ _ e => e, Nat.le_refl _⟩
  have hA : 0 < bs.length → ∃ b o, A = some ⟨b, o, none⟩ := fun h0 => by
    obtain ⟨b, o, e, _⟩ := HR.out.1.at_ 0 h0
    exact ⟨b, o, e⟩
  rw [← hW0]
  have H0 := Lib.hid (And.intro hst (And.intro hc1 (And.intro hc2 hA)))
  clear hst hc1 hc2 hA hrb hub hf0 ho2 ho2' hf2 hq0 hW0 hlt0 c0
  refine wpIn_rangeFunc_ownG rfl (by omega) (gf := 74) (lb := #[.pointer (some ⟨w2.heap.size + 1 + 1, 0, none⟩), .pointer (some ⟨w2.heap.size + 1 + 1 + 1, 0, none⟩)]) rfl trivial (enters_of Try.func74 (by kernel_rfl) rfl)
    (chunkB_stops 5 (by omega) (w2.heap.size + 1 + 1) A bs.length c v R H0.out.2.2.2 hv.1 HR.out.2.2 hnc (by omega) W0 H0.out.2.1 H0.out.2.2.1) boxes_t (boxes_b (by omega)) (Below.refl _ _) (fun _ => rfl)
    (fun pre W => ApH w (w.heap.size + 1 + 1) w2.heap.size (w2.heap.size + 1) N v R p (plN p) bs W0.heap.size (pre.map Fin.val) W)
    (fun _ _ _ => False)
    (fun s X Y row hs hg hr => hs.nc (kept_of_grown hg) fun k e => ⟨(hr k e).2, by have := (hr k e).1; omega⟩)
    (fun _ _ _ _ _ hs _ _ => hs)
    H0.out.1
    (fun x => { tmps := #[.slice A bs.length c, .int .i64 v, .int .i64 p, undef, .pointer (some ⟨w.heap.size, 0, none⟩), .pointer (some ⟨w.heap.size + 1, 0, none⟩), .slice none 0 0, .int .i64 0, .slice (some ⟨w.heap.size + 1 + 1, 0, none⟩) N N, .pointer (some ⟨w2.heap.size, 0, none⟩), .pointer (some ⟨w2.heap.size + 1, 0, none⟩), rowOf A v x.val, undef, undef, .slice A bs.length c, .int .i64 bs.length, .int .i64 v, .int .i64 p, .bool true, .bool false, .slice A bs.length c, .int .i64 bs.length, .slice A bs.length c, .int .i64 bs.length, .int .i64 v, .int .i64 R, .int .i64 N, .slice (some ⟨w.heap.size + 1 + 1, 0, none⟩) N N, .slice (some ⟨w.heap.size + 1 + 1, 0, none⟩) N N, .slice A bs.length c, .int .i64 v, .func (.func 74) #[] #[.pointer (some ⟨w2.heap.size + 1 + 1, 0, none⟩), .pointer (some ⟨w2.heap.size + 1 + 1 + 1, 0, none⟩)], rowOf A v x.val, undef, undef, undef, undef, undef, undef, undef, undef, undef, undef, undef, undef, undef, undef, undef, undef, undef, undef, undef, undef, undef, undef, undef], defers := [] }) ?assign ?body ?done ?stop
  case assign =>
    intro l x W K hK
    gi_wp2
    exact hK
  case body =>
    rintro L pre x W h hlen
    obtain ⟨Ar, hrb, hrA⟩ := h.rest
    obtain ⟨B, m, cu, hub, hup, hBw⟩ := h.up
    rw [List.length_map] at hrb hrA
    have hrA := hrA hlen
    subst hrA
    have hxR := Nat.mul_le_mul_right v (show x.val + 1 ≤ R from x.isLt)
    rw [HR.out.2.2] at hxR
    have hrow := (HR.out.1.rowOf hxR).fresh h.fr
    have hPN := Nat.mul_le_mul_right (v + 1) (show pre.length + 1 ≤ R from hlen)
    rw [← HN.out.2, Nat.succ_mul] at hPN
    obtain ⟨P, hP⟩ : ∃ P, P = pre.length * (v + 1) := ⟨_, rfl⟩
    rw [← hP] at hrb hPN
    obtain ⟨M, hM⟩ : ∃ M, M = N - P := ⟨_, rfl⟩
    rw [← hM] at hrb
    have hal := apS_length (q := plN p) (Nat.le_of_eq HR.out.2.2) pre
    rw [← hP] at hal
    have hup8 := apS_byte HR.out.2.1 v (plN p) (pre.map Fin.val)
    have hl8 := prtF_byte HR.out.2.1 v x.val
    have hsn : Hid (apS bs v (plN p) ((pre ++ [x]).map Fin.val) = apStep bs v (plN p) (apS bs v (plN p) (pre.map Fin.val)) x.val) := Lib.hid (by rw [List.map_append, List.map_singleton, apS_snoc])
    unfold apStep at hsn
    have hown := h.own
    have hpl : (plN p : Int) = p := by rw [(plN_in p).2]; omega
    obtain ⟨q1, q2⟩ := plN_hi (p := p) (by unfold I64; omega)
    have hm : m ≤ 1048576 := by
      have e1 := hup.len
      rcases List.eq_nil_or_concat (pre.map Fin.val) with e | ⟨l, y, e⟩
      · rw [e] at e1
        simp [apS] at e1
        omega
      · rw [e, List.concat_eq_append, apS_snoc] at e1
        have := List.length_take_le v (bs.drop (y * v))
        simp only [apStep, prtF] at e1
        omega
    have hlen8 := hrow.len
    obtain ⟨LA, hLA⟩ : ∃ LA, LA = A.map fun a => (⟨a.block, a.off + x.val * v, none⟩ : Addr) := ⟨_, rfl⟩
    unfold rowOf
    rw [← hLA] at hrow ⊢
    have hLb : ∀ b o, LA = some ⟨b, o, none⟩ → 0 < v → b < w.heap.size := fun b o e h0 => by
      obtain ⟨b', o', e', hb', _⟩ := HR.out.1.at_ 0 (by omega)
      rw [hLA, e'] at e
      simp only [Option.map_some, Option.some.injEq, Addr.mk.injEq] at e
      omega
    obtain ⟨l, hl⟩ : ∃ l, l = prtF bs v x.val := ⟨_, rfl⟩
    obtain ⟨S, hS⟩ : ∃ S, S = apS bs v (plN p) (pre.map Fin.val) := ⟨_, rfl⟩
    rw [← hl] at hrow hl8 hlen8 hsn
    rw [← hS] at hup hup8 hal hsn hown
    have hK4 := bstN_le l S.2 (plN p) 4
    change bst l S.2 (plN p) ≤ 4 at hK4
    have HT : Hid (∀ V xs, Kept (fun i => i = w.heap.size + 1 + 1) W V → Own V 5 .u8 (.slice (some ⟨w.heap.size + 1 + 1, 0, none⟩) N N) xs → xs.length = N →
        Calls Try.prog 78 #[.agg #[.slice LA v v, .slice B m cu, .int .i64 (plN p : Nat)], .int .i64 (bst l S.2 (plN p) : Nat), .slice (some ⟨w.heap.size + 1 + 1, P + 1, none⟩) v (M - 1)] V fun e w' =>
          e = .returned (.tuple #[]) ∧ Kept (fun i => i = w.heap.size + 1 + 1) V w' ∧ Own w' 5 .u8 (.slice (some ⟨w.heap.size + 1 + 1, 0, none⟩) N N) (spl xs (P + 1) (rowF (bst l S.2 (plN p) : Nat) l S.2 (plN p)))) := Lib.hid fun V xs hk ho hx =>
      cTurnF_any LA v v l B m cu S.2 _ (plN p) (w.heap.size + 1 + 1) (P + 1) N N (M - 1) xs V (hrow.kept hk (fun b o e h0 e2 => by have := hLb b o e h0; omega)) (hup.kept hk (fun b o e h0 e2 => by have := hBw b o e h0; omega)) hl8 hup8 (by omega) (by omega) q2 ho hx (by omega) (by omega)
        (fun b o e h0 => by have := hLb b o e h0; omega) (fun b o e h0 => by have := hBw b o e h0; omega)
    have HB : Hid (∀ V, Fresh W V → Calls Try.prog 77 #[.agg #[.slice LA v v, .slice B m cu, .int .i64 (plN p : Nat)]] V fun e w' => e = .returned (.int .i64 (bst l S.2 (plN p) : Nat)) ∧ Fresh V w') := Lib.hid fun V hV =>
      cBestF_any LA v v l B m cu S.2 (plN p) V (hrow.fresh hV) (hup.fresh hV) hl8 hup8 (by omega) (by omega) q2
    have HF : Hid (∀ V, Calls Try.prog 76 #[.slice LA v v, .slice B m cu, .int .i64 p] V fun e w' => e = .returned (.agg #[.slice LA v v, .slice B m cu, .int .i64 (plN p : Nat)]) ∧ Fresh V w') := Lib.hid fun V => cField_any LA v v B m cu p V
    have hRl := rowF_length (bst l S.2 (plN p) : Nat) l S.2 (plN p)
    have cU : W.cell? ⟨w2.heap.size + 1, 0, none⟩ = some (.slice B m cu) := (hub.cell 0).trans rfl
    have cP : W.cell? ⟨w.heap.size + 1, 0, none⟩ = some (.int .i64 p) := (h.b1.cell 0).trans rfl
    have hxs : (spl (List.replicate N 0) 0 S.1).length = N := by rw [spl_length (by rw [hal]; simp; omega)]; simp
    have hcG := hown.cellN hxs (j := P) (by omega)
    have hfG := hown.frozenN hxs P
    have hgW := hown.lt (g := w.heap.size + 1 + 1) rfl
    have hM0 : (0 : Int) < (M : Int) := by omega
    have HH := Lib.hid (And.intro h (And.intro hown (And.intro hxs (And.intro hrb (And.intro hub (And.intro hrow (And.intro hLb (And.intro hal (And.intro hRl hlen8)))))))))
    have HP := Lib.hid (And.intro hP (And.intro hM (And.intro hl hS)))
    clear h hown hxs hrb hub hrow hLb hal hRl hlen8 hP hM hl hS hup hup8 hl8 hLA hBw hxR q1 q2 hpl hm
    generalize bst l S.2 (plN p) = K at *
    generalize rowF (K : Nat) l S.2 (plN p) = RF at *
    generalize (spl (List.replicate N 0) 0 S.1).getD P 0 = old at *
    generalize plN p = q at *
    gi_wp2_with (first
      | (refine ⟨trivial, ?_⟩; gi_at_call 76; refine (CallsIn.inRound L (callsIn_wide.2 (HF.out _))).mono ?_; rintro e y1 ⟨rfl, hf1⟩)
      | (refine ⟨trivial, ?_⟩; gi_at_call 77; refine (CallsIn.inRound L (callsIn_wide.2 (HB.out _ (hf1.alloc _)))).mono ?_; rintro e y2 ⟨rfl, hf2⟩
         have hfa := (hf1.alloc (.cells #[.slice LA v v, .slice B m cu, .int .i64 q] 112)).trans hf2 (fun _ _ e => e)
         have hfb := (Blk.new y1 112 #[.slice LA v v, .slice B m cu, .int .i64 q]).kept hf2 id
         have cR : y2.cell? ⟨w2.heap.size, 0, none⟩ = some (.slice (some ⟨w.heap.size + 1 + 1, P, none⟩) M M) := ((HH.out.2.2.2.1.kept hfa id).cell 0).trans rfl
         have cG : y2.cell? ⟨w.heap.size + 1 + 1, P, none⟩ = some (.int .u8 old) := (hfa.cell (p := ⟨w.heap.size + 1 + 1, P, none⟩) hgW id).trans hcG
         have fG : y2.frozen? ⟨w.heap.size + 1 + 1, P, none⟩ = false := (hfa.frozen (p := ⟨w.heap.size + 1 + 1, P, none⟩) hgW id).trans hfG))
    obtain ⟨V, hV⟩ : ∃ V, V = (y2.setCell ⟨w.heap.size + 1 + 1, P, none⟩ (.int .u8 K)).drew := ⟨_, rfl⟩
    have hVk : Kept (fun i => i = w.heap.size + 1 + 1) W V := by rw [hV]; exact ((hfa.mono (T := fun i => i = w.heap.size + 1 + 1) fun _ _ e => e.elim).setCell (p := ⟨w.heap.size + 1 + 1, P, none⟩) (fun _ => rfl) _).drew
    have hVo : Own V 5 .u8 (.slice (some ⟨w.heap.size + 1 + 1, 0, none⟩) N N) (spl (List.replicate N 0) 0 (S.1 ++ [(K : Int)])) := by
      have h1 := ((HH.out.2.1.kept hfa (fun _ _ => id)).storeN HH.out.2.2.1 P (K : Int)).drew
      rw [hV]
      have h2 := spl_set (xs := List.replicate N 0) (ys := S.1) (o := 0) (by rw [HH.out.2.2.2.2.2.2.2.1]; simp; omega) (K : Int)
      rw [Nat.zero_add, HH.out.2.2.2.2.2.2.2.1] at h2
      rw [← h2]
      exact h1
    have hVb : Blk V y1.heap.size 112 #[.slice LA v v, .slice B m cu, .int .i64 q] := by
      have := hf1.size
      rw [hV]
      exact (hfb.far (p := ⟨w.heap.size + 1 + 1, P, none⟩) (by simp; omega) _).drew
    have hyz := hf1.size
    have hV0 : V.cell? ⟨w.heap.size, 0, none⟩ = some (.int .i64 v) := ((HH.out.1.b0.kept hVk (by omega)).cell 0).trans rfl
    have hVR := HH.out.2.2.2.1.kept hVk (by omega)
    have cVR : V.cell? ⟨w2.heap.size, 0, none⟩ = some (.slice (some ⟨w.heap.size + 1 + 1, P, none⟩) M M) := (hVR.cell 0).trans rfl
    have d0 := (hVb.cell 0).trans (show _ = some (Value.slice LA v v) from rfl)
    have d1 := (hVb.cell 1).trans (show _ = some (Value.slice B m cu) from rfl)
    have d2 := (hVb.cell 2).trans (show _ = some (Value.int .i64 q) from rfl)
    have hw1 : IntKind.i64.wrap (1 + (v : Int)) = 1 + (v : Int) := IntWalk.i64_in _ (by omega)
    have hsz1 : ∀ w, (sizeOf 5).run Try.prog w = .ok 1 w := fun w => by kernel_rfl
    have hMv : v + 1 ≤ M := by rw [HP.out.2.1]; omega
    obtain ⟨g, hg⟩ : ∃ g, g = w.heap.size + 1 + 1 := ⟨_, rfl⟩
    have hs1 : ∀ w, (Instr.slice 22 (.slice (some ⟨g, P, none⟩) M M) (some (.int .i64 1)) (some (.int .i64 (1 + (v : Int)))) none).run Try.prog w = .ok (.slice (some ⟨g, P + 1, none⟩) v (M - 1)) w := fun w => by
      have := run_slice_part 22 5 Try.underlying22 hsz1 (some ⟨g, P, none⟩) M M 1 (1 + v) (1 + (v : Int)) (by omega) (by omega) (by omega) w
      rw [show 1 + v - 1 = v by omega, cutAt, if_neg (by omega)] at this
      simpa [Addr.add] using this
    rw [hg] at hs1
    clear hg
    refine wpIn_region_tail 6 (by kernel_rfl) (by kernel_rfl) (NoDefer.of (by kernel_rfl)) ?_
    rw [← hV]
    clear hV
    simp only [List.take_succ_cons, List.take_zero, List.drop_succ_cons, List.drop_zero]
    iterate 5 still_step
    still_step
    refine wpStill_nil ?_
    obtain ⟨A', hA'⟩ : ∃ A', A' = cutAt (some ⟨w.heap.size + 1 + 1, P, none⟩) (1 + v) M := ⟨_, rfl⟩
    have hs2 : ∀ V, (Instr.slice 22 (.slice (some ⟨w.heap.size + 1 + 1, P, none⟩) M M) (some (.int .i64 (1 + (v : Int)))) none none).run Try.prog V = .ok (.slice A' (M - (1 + v)) (M - (1 + v))) V := fun V => by
      have := run_slice_from 22 5 Try.underlying22 hsz1 (some ⟨w.heap.size + 1 + 1, P, none⟩) M M (1 + v) (by omega) V
      rw [← hA', show ((1 + v : Nat) : Int) = 1 + (v : Int) by omega] at this
      exact this
    have hxV : (spl (List.replicate N 0) 0 (S.1 ++ [(K : Int)])).length = N := by
      rw [spl_length (by rw [List.length_append, HH.out.2.2.2.2.2.2.2.1]; simp; omega)]
      simp
    have HTV := Lib.hid (HT.out V _ hVk hVo hxV)
    have HV := Lib.hid (And.intro hVk (And.intro hVR (And.intro hA' hxV)))
    clear hVk hVo hVR hVb hA' hxV hs1 hfa hfb cR cG fG hf1 hf2 HF HB HT cU cP hcG hfG
    go_wp2_with fail
    refine HTV.out.mono ?_
    rintro e y3 ⟨rfl, hk3, ho3⟩
    have hk3 := HV.out.1.trans hk3 (fun _ _ e => e)
    have hR3 := HH.out.2.2.2.1.kept hk3 (by omega)
    have hU3 := HH.out.2.2.2.2.1.kept hk3 (by omega)
    have e0 : y3.cell? ⟨w.heap.size, 0, none⟩ = some (.int .i64 v) := ((HH.out.1.b0.kept hk3 (by omega)).cell 0).trans rfl
    have e1 : y3.cell? ⟨w2.heap.size, 0, none⟩ = some (.slice (some ⟨w.heap.size + 1 + 1, P, none⟩) M M) := (hR3.cell 0).trans rfl
    have e2 : y3.cell? ⟨w2.heap.size + 1, 0, none⟩ = some (.slice B m cu) := (hU3.cell 0).trans rfl
    have e3 := hR3.frozen 0
    have e4 := hU3.frozen 0
    have H3 := Lib.hid (And.intro hk3 (And.intro ho3 (And.intro hR3 hU3)))
    clear hk3 ho3 hR3 hU3
    go_wp2_with fail
    refine Calm.of ?_
    gi_wp2_with fail
    have hend : Kept (fun k => k = w2.heap.size ∨ k = w2.heap.size + 1) y3 ((y3.setCell ⟨w2.heap.size, 0, none⟩ (.slice A' (M - (1 + v)) (M - (1 + v)))).setCell ⟨w2.heap.size + 1, 0, none⟩ (.slice LA v v)) :=
      ((Kept.refl _ _).setCell (p := ⟨w2.heap.size, 0, none⟩) (fun _ => .inl rfl) _).setCell (p := ⟨w2.heap.size + 1, 0, none⟩) (fun _ => .inr rfl) _
    have hall : Kept (fun k => k = w.heap.size + 1 + 1 ∨ k = w2.heap.size ∨ k = w2.heap.size + 1) W ((y3.setCell ⟨w2.heap.size, 0, none⟩ (.slice A' (M - (1 + v)) (M - (1 + v)))).setCell ⟨w2.heap.size + 1, 0, none⟩ (.slice LA v v)) :=
      (H3.out.1.mono (fun _ _ e => .inl e)).trans hend (fun _ _ e => .inr e)
    have hbig := HH.out.1.big
    refine ⟨KeepsFrom.of _ hall fun k e => ?_, ⟨hall.block _ (by omega) (by omega), hall.block _ (by omega) (by omega)⟩, ?_⟩
    · rcases e with rfl | rfl | rfl
      · exact HH.out.2.1.cells rfl
      · exact HH.out.2.2.2.1.cells
      · exact HH.out.2.2.2.2.1.cells
    · refine ⟨HH.out.1.b0.kept hall (by omega), HH.out.1.b1.kept hall (by omega), ?_, ?_, ?_, HH.out.1.fr.trans hall fun i hi e => by omega, Nat.le_trans hbig hall.size⟩
      · rw [hsn.out, ← List.append_assoc, ← spl_spl _ (o := P + 1) (by rw [List.length_append, HH.out.2.2.2.2.2.2.2.1]; rfl)]
        exact H3.out.2.1.kept hend (fun k e e2 => by
          have : w.heap.size + 1 + 1 = k := by simpa [Value.ownBlock] using e
          omega)
      · have hlen2 : ((pre ++ [x]).map Fin.val).length = pre.length + 1 := by simp
        have hmul : (pre.length + 1) * (v + 1) = P + (v + 1) := by rw [Nat.succ_mul, ← HP.out.1]
        rw [hlen2, hmul]
        refine ⟨A', ?_, fun hlt => ?_⟩
        · rw [show N - (P + (v + 1)) = M - (1 + v) by rw [HP.out.2.1]; omega]
          exact (H3.out.2.2.1.set_ 0 _).far (p := ⟨w2.heap.size + 1, 0, none⟩) (by simp) _
        · have h2 := Nat.mul_le_mul_right (v + 1) (show pre.length + 1 + 1 ≤ R from hlt)
          rw [← HN.out.2, Nat.succ_mul, hmul] at h2
          rw [HV.out.2.2.1, cutAt, if_neg (by rw [HP.out.2.1]; omega)]
          simp [Addr.add]
      · refine ⟨LA, v, v, (H3.out.2.2.2.far (p := ⟨w2.heap.size, 0, none⟩) (by simp) _).set_ 0 _, ?_, HH.out.2.2.2.2.2.2.1⟩
        rw [hsn.out]
        exact HH.out.2.2.2.2.2.1.kept hall fun b o e h0 e2 => by
          have := HH.out.2.2.2.2.2.2.1 b o e h0
          omega
  case done =>
    rintro D ys W hD hys h hK
    have hal := apN_length (b := bs) (w := v) (n := plN p) R (Nat.le_of_eq HR.out.2.2)
    have hown := h.own
    rw [hys, apS_range, spl_all (by rw [hal, ← HN.out.2]; simp)] at hown
    have hown : Own W 5 .u8 (.slice (some ⟨w.heap.size + 1 + 1, 0, none⟩) N N) (apF bs v (plN p)) := by rw [hapF.out]; exact hown
    have hfr := h.fr
    clear h hal
    gi_wp2
    refine ⟨by simp, .inl ⟨_, _, rfl, run_takeDeferred hK, ?_⟩⟩
    have hg := kept_of_grown (grownBy_putObj' W D (.deferred none))
    exact ⟨_, results_tmp2 rfl _ _ _, _, rfl, hown.kept hg (fun g e e2 => by cases e2; exact hown.cells e ⟨_, hK, rfl⟩), fun g e => (by
      have : w.heap.size + 1 + 1 = g := by simpa [Value.ownBlock] using e
      omega), hfr.trans hg fun i hi e => by cases e; omega⟩
  case stop =>
    rintro D c pre W _ _ h _
    exact h.elim

set_option maxHeartbeats 1600000 in
/-- Apply of what may not be. -/
theorem cApplyNo_any (A : Option Addr) (n c : Nat) (wd p : Int) (w : World) (hn : n ≤ 16777216) (h : ¬ okA wd p n) :
    Calls Try.prog 50 #[.slice A n c, .int .i64 wd, .int .i64 p] w fun e w' => e = .returned (.tuple #[.slice none 0 0, .int .i64 1]) ∧ Fresh w w' := by
  have HF : Hid (∀ V, Calls Try.prog 75 #[.int .i64 n, .int .i64 wd, .int .i64 0, .int .i64 p] V fun e w' => e = .returned (.bool false) ∧ V = w') := Lib.hid fun V => by
    by_cases h4 : 1 ≤ wd ∧ wd ≤ 1048576 ∧ 1 ≤ p ∧ p ≤ 4
    · obtain ⟨v, rfl⟩ : ∃ v : Nat, wd = v := ⟨wd.toNat, by omega⟩
      have := cFitF_in n v v 0 p V (by omega) (by omega) (by omega) (Nat.le_refl _) (by omega) hn
      rwa [decide_eq_false (fun hh => h ((okA_fit (by omega) (by omega)).1 hh))] at this
    · exact cFitF_no n wd 0 p V h4
  clear h hn
  go_enter Try.func50, Try.ntmps50
  go_wp2_with fail
  refine (HF.out _).mono ?_
  rintro e w1 ⟨rfl, rfl⟩
  go_wp2_with fail
  refine bodyPost_ret (results_tmp2 rfl _ _ _) rfl ?_
  exact ⟨rfl, ((Kept.refl _ _).alloc _).alloc _⟩

end Go.Proofs.Ythfifpapkknodaa

/- What the laws of colours ask of the code; awake. -/
namespace Go.Proofs.Ythfifpapkknodaa
open Go.RowKit
set_option maxRecDepth 100000

attribute [local go_sem ↓] Go.wp_at_zero Go.wp_at_succ

/-- The code's four calls answer as the document's. -/
structure ColourOK : Prop where
  turn : ∀ (A : Option Addr) (n c : Nat) (bs : List Int) (w : World), Row w .u8 A n bs → B8 bs → n ≤ 1048576 → n ≤ c →
    Calls Try.prog 51 #[.slice A n c] w fun e w' => ∃ u, e = .returned u ∧ NewRow w w' 5 .u8 u (trn (-1) bs)
  back : ∀ (A : Option Addr) (n c : Nat) (bs : List Int) (w : World), Row w .u8 A n bs → B8 bs → n ≤ 1048576 → n ≤ c →
    Calls Try.prog 91 #[.slice A n c] w fun e w' => ∃ u, e = .returned u ∧ NewRow w w' 5 .u8 u (trn 1 bs)
  apart : ∀ (A : Option Addr) (n c : Nat) (bs : List Int) (k : Int) (w : World), Row w .u8 A n bs → B8 bs → n ≤ 1048576 → n ≤ c →
    Calls Try.prog 52 #[.slice A n c, .int .i64 k] w fun e w' => ∃ u, e = .returned u ∧ NewRow w w' 5 .u8 u (aprt bs (colC k))
  together : ∀ (A : Option Addr) (n c : Nat) (bs : List Int) (k : Int) (w : World), Row w .u8 A n bs → B8 bs → n ≤ 1048576 → n ≤ c →
    Calls Try.prog 90 #[.slice A n c, .int .i64 k] w fun e w' => ∃ u, e = .returned u ∧ NewRow w w' 5 .u8 u (tgth bs (colC k))

/-- A list of n bytes is told, with room. -/
def Told8 (w w' : World) (e : Ending) (n : Nat) (xs : List Int) : Prop := ∃ B cB, e = .returned (.slice B n cB) ∧ Row w' .u8 B n xs ∧ n ≤ cB ∧ Fresh w w'
theorem Told8.of {w w' : World} {e : Ending} {n : Nat} {xs : List Int} (hn : xs.length = n) (h : ∃ u, e = .returned u ∧ NewRow w w' 5 .u8 u xs) : Told8 w w' e n xs := by
  obtain ⟨u, rfl, hu, _, hf⟩ := h
  have hcap := hu
  obtain ⟨B, cB, rfl, hr, _⟩ := hu.row
  have hc := hcap.cap
  rw [hn] at hr hc
  rw [hn]
  exact ⟨B, cB, rfl, hr, hc, hf⟩
theorem turn_three : trn (-1) [5, 3, 4] = [2, 3, 1] := by decide +kernel



end Go.Proofs.Ythfifpapkknodaa

/- The code's bytes.Clone, planes, and columns apart and together. -/
namespace Go.Proofs.Ythfifpapkknodaa
open Go.RowKit
set_option maxRecDepth 100000

attribute [local go_sem ↓] Go.wp_at_zero Go.wp_at_succ

theorem Row.none_nil {w : World} {k : IntKind} {n : Nat} {xs : List Int} (h : Row w k none n xs) : n = 0 ∧ xs = [] := by
  obtain rfl := h.nil0
  exact ⟨rfl, List.length_eq_zero_iff.1 h.len⟩

theorem run_slice_upto {P : Program} (t e : TypeId) (ht : P.underlying t = some (.slice e)) (hc : ∀ w, (sizeOf e).run P w = .ok 1 w) (A : Option Addr) (n c h : Nat) (k : Int) (hk : k = h) (hh : h ≤ c) (W : World) :
    (Instr.slice t (.slice A n c) none (some (.int .i64 k)) none).run P W = .ok (.slice A h c) W := by
  subst hk
  have he : P.elem t = e := by simp [Program.elem, ht]
  rw [run_slice_h W t A n c (by rw [he]; exact ht) .i64 (h : Int) (by omega) (by omega), he, hc]
  rcases A with _ | a
  · simp [Result.andThen, sliced]
  · simp [Result.andThen, sliced, Addr.add]

set_option maxHeartbeats 800000 in
/-- A list of bytes, anew. -/
theorem bClone_any (A : Option Addr) (n c : Nat) (xs : List Int) (w : World) (h : Row w .u8 A n xs) (hn : n ≤ 1000000000) :
    Calls Try.prog 98 #[.slice A n c] w fun e w' => ∃ v, e = .returned v ∧ NewRow w w' 5 .u8 v xs := by
  obtain ⟨i0, hi, hz0, hz1, hz2⟩ := info_parts Try.infoCol
  cases A with
  | none =>
    obtain ⟨rfl, rfl⟩ := h.none_nil
    have heq : ∀ W, (binOp .eql 22 (.slice none 0 c) (.slice none 0 0)).run Try.prog W = .ok (.bool true) W := fun W => Lib.run_eql_slice_nil W 22 5 none 0 c 0 0 Try.underlying22
    go_enter Try.func98, Try.ntmps98
    go_wp2_with fail
    go_ret
    exact ⟨_, rfl, NewRow.none _ _ _⟩
  | some a =>
    have heq : ∀ W, (binOp .eql 22 (.slice (some a) n c) (.slice none 0 0)).run Try.prog W = .ok (.bool false) W := fun W => Lib.run_eql_slice_nil W 22 5 (some a) n c 0 0 Try.underlying22
    go_enter Try.func98, Try.ntmps98
    have hown : NewRow w (w.alloc (.cells #[] 5)) 5 .u8 (.slice (some ⟨w.heap.size, 0, none⟩) 0 0) [] :=
      ⟨⟨rfl, .inr ⟨w.heap.size, 0, #[], rfl, Nat.zero_le _, heap_alloc_new w _, Nat.le_refl _, Nat.zero_le _, rfl, rfl⟩⟩, fun k hk => by
        have : w.heap.size = k := by simpa [Value.ownBlock] using hk
        omega, (Kept.refl _ _).alloc _⟩
    have hr := h.kept ((Kept.refl (fun _ => False) w).alloc (.cells #[] 5)) (fun _ _ _ _ => id)
    have HO := Lib.hid hown
    have HR := Lib.hid hr
    clear hown hr h
    go_wp2_with (at_builtin; refine wpList_new _ w rfl _ _ 22 rfl 5 i0 .u8 1 Try.underlying22 hi hz0 hz1 hz2 _ [] rfl HO.out (some a) n c xs rfl HR.out (by unfold maxLen; simp; omega) (by simp; omega) ?_)
    intro v' w1 hown1
    go_wp2_with fail
    go_ret
    exact ⟨v', rfl, hown1⟩

set_option maxHeartbeats 800000 in
/-- How many planes. -/
theorem cColPl_any (k : Int) (w : World) : Calls Try.prog 80 #[.int .i64 k] w fun e w' => e = .returned (.int .i64 (colC k : Nat)) ∧ w = w' := by
  have h : ((colC k : Nat) : Int) = min (max k 1) 16 := by rw [(colC_in k).2.2]; omega
  rw [h]
  clear h
  go_enter Try.func80, Try.ntmps80
  go_wp2_with fail
  go_ret
  exact ⟨rfl, rfl⟩

/-- Rows told column by column: R rows, W bytes wide. -/
def cols (bs : List Int) (R W : Nat) : List Int := fls R (fun k i => bs.getD (i * W + k) 0) W ++ bs.drop (R * W)
theorem aprt_cols (bs : List Int) (c : Nat) : aprt bs c = cols bs (bs.length / c) c := rfl
theorem tgth_cols (bs : List Int) (c : Nat) : tgth bs c = cols bs c (bs.length / c) := by rw [cols, tgth, Nat.mul_comm c]
/-- Where the byte comes from that is told at place p. -/
def cfr (R W p : Nat) : Nat := p % R * W + p / R
/-- .. the first j bytes of the rows alone. -/
def colsTo (bs : List Int) (R W j : Nat) : List Int := tn bs.length fun p => if p < R * W ∧ cfr R W p < j then bs.getD (cfr R W p) 0 else bs.getD p 0
theorem colsTo_length (bs : List Int) (R W j : Nat) : (colsTo bs R W j).length = bs.length := tn_length _ _
theorem colsTo_zero (bs : List Int) (R W : Nat) : colsTo bs R W 0 = bs := (tn_ext rfl fun i _ => by rw [if_neg (by omega)]).symm
theorem cfr_to {R W j : Nat} (hj : j < R * W) : j % W * R + j / W < R * W ∧ cfr R W (j % W * R + j / W) = j := by
  have hW : 0 < W := Nat.pos_of_ne_zero fun e => by rw [e, Nat.mul_zero] at hj; omega
  have h1 : j / W < R := Nat.div_lt_of_lt_mul (by rwa [Nat.mul_comm])
  have h2 := Nat.mod_lt j hW
  have h3 : (j % W + 1) * R ≤ W * R := Nat.mul_le_mul_right R h2
  rw [Nat.succ_mul, Nat.mul_comm W] at h3
  refine ⟨by omega, ?_⟩
  unfold cfr
  rw [Nat.add_comm (j % W * R), Nat.add_mul_mod_self_right, Nat.mod_eq_of_lt h1, Nat.add_mul_div_right _ _ (Nat.lt_of_le_of_lt (Nat.zero_le _) h1), Nat.div_eq_of_lt h1, Nat.zero_add, Nat.mul_comm (j / W)]
  exact Nat.div_add_mod j W
theorem cfr_from {R W p j : Nat} (hp : p < R * W) (h : cfr R W p = j) : p = j % W * R + j / W := by
  have hR : 0 < R := Nat.pos_of_ne_zero fun e => by rw [e, Nat.zero_mul] at hp; omega
  have h1 : p / R < W := Nat.div_lt_of_lt_mul hp
  subst h
  unfold cfr
  rw [Nat.add_comm (p % R * W), Nat.add_mul_mod_self_right, Nat.mod_eq_of_lt h1, Nat.add_mul_div_right _ _ (Nat.lt_of_le_of_lt (Nat.zero_le _) h1), Nat.div_eq_of_lt h1, Nat.zero_add, Nat.mul_comm (p / R)]
  exact (Nat.div_add_mod p R).symm
theorem cfr_lt {R W p : Nat} (hp : p < R * W) : cfr R W p < R * W := by
  have hR : 0 < R := Nat.pos_of_ne_zero fun e => by rw [e, Nat.zero_mul] at hp; omega
  have h1 : p / R < W := Nat.div_lt_of_lt_mul hp
  have h2 := Nat.mod_lt p hR
  have h3 : (p % R + 1) * W ≤ R * W := Nat.mul_le_mul_right W h2
  rw [Nat.succ_mul] at h3
  unfold cfr
  omega
theorem colsTo_next {bs : List Int} {R W j : Nat} (hj : j < R * W) : (colsTo bs R W j).set (j % W * R + j / W) (bs.getD j 0) = colsTo bs R W (j + 1) := by
  refine tn_ext (by rw [List.length_set, colsTo_length]) fun p hp => ?_
  obtain ⟨h1, h2⟩ := cfr_to hj
  by_cases e : p = j % W * R + j / W
  · subst e
    rw [if_pos ⟨h1, by omega⟩, h2]
    simp [List.getD, colsTo_length, hp]
  · have e1 : ((colsTo bs R W j).set (j % W * R + j / W) (bs.getD j 0)).getD p 0 = (colsTo bs R W j).getD p 0 := by
      simp only [List.getD]
      rw [List.getElem?_set_ne (by omega)]
    rw [e1, colsTo, tn_getD hp]
    by_cases h3 : p < R * W
    · have h4 : cfr R W p ≠ j := fun h => e (cfr_from h3 h)
      by_cases h5 : cfr R W p < j
      · rw [if_pos ⟨h3, h5⟩, if_pos ⟨h3, by omega⟩]
      · rw [if_neg (by omega), if_neg (by omega)]
    · rw [if_neg (by omega), if_neg (by omega)]
theorem colsTo_all {bs : List Int} {R W : Nat} (hl : R * W ≤ bs.length) : colsTo bs R W (R * W) = cols bs R W := by
  have hcl : (cols bs R W).length = bs.length := by
    rw [cols, List.length_append, fls_length, List.length_drop, Nat.mul_comm W]
    omega
  refine bs_ext (by rw [colsTo_length, hcl]) fun p hp => ?_
  rw [colsTo_length] at hp
  rw [colsTo, tn_getD hp]
  by_cases h : p < R * W
  · have hR : 0 < R := Nat.pos_of_ne_zero fun e => by rw [e, Nat.zero_mul] at h; omega
    rw [if_pos ⟨h, cfr_lt h⟩, cols, getD_left (by rw [fls_length, Nat.mul_comm]; exact h)]
    have := fls_getD R (fun k i => bs.getD (i * W + k) 0) W (p / R) (p % R) (Nat.div_lt_of_lt_mul h) (Nat.mod_lt p hR)
    rw [Nat.mul_comm, Nat.div_add_mod] at this
    rw [this]
    rfl
  · rw [if_neg (by omega), cols]
    simp only [List.getD]
    rw [List.getElem?_append_right (by rw [fls_length, Nat.mul_comm]; omega), fls_length, List.getElem?_drop, Nat.mul_comm W, Nat.add_sub_cancel' (by omega)]

set_option maxHeartbeats 3200000 in
/-- The rows that bytes begin with, told column by column. -/
theorem cByCols_any (A : Option Addr) (n c : Nat) (bs : List Int) (R W : Nat) (w : World) (hr : Row w .u8 A n bs) (hn : n ≤ 1048576) (hc : n ≤ c) (hRW : R * W ≤ n) (hR : R ≤ 1048576) (hW : W ≤ 1048576) :
    Calls Try.prog 81 #[.slice A n c, .int .i64 R, .int .i64 W] w fun e w' => ∃ u, e = .returned u ∧ NewRow w w' 5 .u8 u (cols bs R W) := by
  obtain rfl := hr.len
  have HR : Hid (∀ V, Fresh w V → Row V .u8 A bs.length bs) := Lib.hid fun V hV => hr.kept hV (fun _ _ _ _ => id)
  have HC : Hid (∀ V, Fresh w V → Calls Try.prog 98 #[.slice A bs.length c] V fun e w' => ∃ v, e = .returned v ∧ NewRow V w' 5 .u8 v bs) := Lib.hid fun V hV => bClone_any A bs.length c bs V (hr.kept hV (fun _ _ _ _ => id)) (by omega)
  obtain ⟨M, hM⟩ : ∃ M, M = R * W := ⟨_, rfl⟩
  have em : (R : Int) * (W : Int) = (M : Int) := by rw [hM]; simp
  have hMn : M ≤ bs.length := by omega
  have ew : IntKind.i64.wrap (M : Int) = (M : Int) := IntWalk.i64_in _ (by omega)
  have hsz1 : ∀ w, (sizeOf 5).run Try.prog w = .ok 1 w := fun w => by kernel_rfl
  have hs1 : ∀ V, (Instr.slice 22 (.slice A bs.length c) none (some (.int .i64 (M : Int))) none).run Try.prog V = .ok (.slice A M c) V := fun V => run_slice_upto 22 5 Try.underlying22 hsz1 A bs.length c M (M : Int) rfl (by omega) V
  have HM := Lib.hid (And.intro hM (And.intro hn (And.intro hR (And.intro hW hRW))))
  clear hr hM hRW
  go_enter Try.func81, Try.ntmps81
  go_wp2_with fail
  refine (HC.out w (Kept.refl _ _)).mono ?_
  rintro e w1 ⟨v, rfl, hv⟩
  have H1 := Lib.hid hv
  clear hv HC
  go_wp2_with fail
  go_loopw [18] (fun i wr => ∃ j : Nat, j ≤ M ∧ i = .int .i64 j ∧ NewRow w wr 5 .u8 v (colsTo bs R W j)) (fun i _ => (M - intOf i).toNat)
  case atStart => exact ⟨0, by omega, rfl, by rw [colsTo_zero]; exact H1.out⟩
  case round =>
    obtain ⟨j, hj, rfl, hv⟩ := hrel
    clear H1
    by_cases hlt : j < M
    · have hjn : j < bs.length := by omega
      obtain ⟨b, o, rfl, hb, hcell⟩ := (HR.out wr hv.2.2).at_ j hjn
      have hj' : j < R * W := by rw [← HM.out.1]; exact hlt
      have Hn : Hid ((colsTo bs R W j).set (j % W * R + j / W) (bs.getD j 0) = colsTo bs R W (j + 1)) := Lib.hid (colsTo_next hj')
      obtain ⟨hp1, _⟩ := cfr_to hj'
      rw [← HM.out.1] at hp1
      obtain ⟨g, cap, rfl, hgl⟩ := hv.1.form (by rw [colsTo_length]; omega)
      rw [colsTo_length] at hv ⊢
      have lq := colsTo_length bs R W j
      have kc := hv.1.cellN lq (j := j % W * R + j / W) (by omega)
      have kf := hv.1.frozenN lq (j % W * R + j / W)
      have hW0 : W ≠ 0 := fun e => by rw [e, Nat.mul_zero] at hj'; omega
      generalize bs.getD j 0 = x at *
      have hwz : (W : Int) ≠ 0 := by omega
      have q1 : (j : Int).tmod (W : Int) = ((j % W : Nat) : Int) := by rw [Int.tmod_eq_emod_of_nonneg (by omega), ← Int.natCast_emod]
      have q2 : (j : Int) / (W : Int) = ((j / W : Nat) : Int) := by rw [← Int.natCast_ediv]
      have q3 : ((j % W : Nat) : Int) * (R : Int) = ((j % W * R : Nat) : Int) := by simp
      have q4 : ((j % W * R : Nat) : Int) + ((j / W : Nat) : Int) = ((j % W * R + j / W : Nat) : Int) := by omega
      have hb1 : j % W * R ≤ M := Nat.le_trans (Nat.le_add_right _ _) (Nat.le_of_lt hp1)
      have hb2 : j / W ≤ M := Nat.le_trans (Nat.div_le_self j W) hj
      generalize hpe : j % W * R + j / W = p at *
      generalize j % W * R = T at *
      generalize j / W = z at *
      generalize j % W = y at *
      have v1 : IntKind.i64.wrap (T : Int) = (T : Int) := IntWalk.i64_in _ (by omega)
      have v2 : IntKind.i64.wrap (z : Int) = (z : Int) := IntWalk.i64_in _ (by omega)
      have v3 : IntKind.i64.wrap (p : Int) = (p : Int) := IntWalk.i64_in _ (by omega)
      have pn : (p : Int) < (bs.length : Int) := by omega
      clear hpe hb1 hb2
      go_wp2_with fail
      refine wp_region_still_tail 12 (by kernel_rfl) (by kernel_rfl) ?_
      simp only [List.take_succ_cons, List.take_zero, List.drop_succ_cons, List.drop_zero]
      iterate 12 still_step
      refine wpStill_nil ?_
      have hgw := hv.2.1 g rfl
      have hnew : NewRow w (wr.drew.setCell ⟨g, p, none⟩ (.int .u8 x)) 5 .u8 (.slice (some ⟨g, 0, none⟩) bs.length cap) (colsTo bs R W (j + 1)) := by
        rw [← Hn.out]
        exact ⟨hv.1.drew.storeN lq p x, hv.2.1, hv.2.2.drew.setCell (p := ⟨g, p, none⟩) (fun e => absurd e (by simp; omega)) _⟩
      have H2 := Lib.hid hnew
      clear hnew hv Hn
      go_wp2_with fail
      go_roundw
      case rel => exact ⟨j + 1, by omega, by go_num, H2.out⟩
      case measure => simp [intOf]; omega
    · obtain rfl : j = M := by omega
      have H2 : Hid (NewRow w wr 5 .u8 v (cols bs R W)) := Lib.hid (by
        rw [← colsTo_all HM.out.2.2.2.2, ← HM.out.1]
        exact hv)
      clear hv
      go_wp2_with fail
      go_ret
      exact ⟨_, rfl, H2.out⟩

set_option maxHeartbeats 1600000 in
theorem cApart_any (A : Option Addr) (n c : Nat) (bs : List Int) (k : Int) (w : World) (hr : Row w .u8 A n bs) (hn : n ≤ 1048576) (hc : n ≤ c) :
    Calls Try.prog 52 #[.slice A n c, .int .i64 k] w fun e w' => ∃ u, e = .returned u ∧ NewRow w w' 5 .u8 u (aprt bs (colC k)) := by
  obtain rfl := hr.len
  have HP : Hid (∀ V, Calls Try.prog 80 #[.int .i64 k] V fun e w' => e = .returned (.int .i64 (colC k : Nat)) ∧ V = w') := Lib.hid fun V => cColPl_any k V
  obtain ⟨h1, h16, hx⟩ := colC_in k
  clear hx
  rw [aprt_cols]
  generalize colC k = m at *
  have q2 : (bs.length : Int).tdiv (m : Int) = ((bs.length / m : Nat) : Int) := by rw [Int.tdiv_eq_ediv_of_nonneg (by omega), ← Int.natCast_ediv]
  have hd := Nat.div_mul_le_self bs.length m
  have hd2 := Nat.div_le_self bs.length m
  have HC := Lib.hid (cByCols_any A bs.length c bs (bs.length / m) m w hr hn hc hd (by omega) (by omega))
  generalize bs.length / m = d at *
  have v2 : IntKind.i64.wrap (d : Int) = (d : Int) := IntWalk.i64_in _ (by omega)
  clear hr hd
  go_enter Try.func52, Try.ntmps52
  go_wp2_with fail
  refine (HP.out _).mono ?_
  rintro e w1 ⟨rfl, rfl⟩
  go_wp2_with fail
  refine HC.out.mono ?_
  rintro e w1 ⟨u, rfl, hu⟩
  have H1 := Lib.hid hu
  clear hu HC
  go_wp2_with fail
  go_ret
  exact ⟨_, rfl, H1.out⟩

set_option maxHeartbeats 1600000 in
theorem cTogether_any (A : Option Addr) (n c : Nat) (bs : List Int) (k : Int) (w : World) (hr : Row w .u8 A n bs) (hn : n ≤ 1048576) (hc : n ≤ c) :
    Calls Try.prog 90 #[.slice A n c, .int .i64 k] w fun e w' => ∃ u, e = .returned u ∧ NewRow w w' 5 .u8 u (tgth bs (colC k)) := by
  obtain rfl := hr.len
  have HP : Hid (∀ V, Calls Try.prog 80 #[.int .i64 k] V fun e w' => e = .returned (.int .i64 (colC k : Nat)) ∧ V = w') := Lib.hid fun V => cColPl_any k V
  obtain ⟨h1, h16, hx⟩ := colC_in k
  clear hx
  rw [tgth_cols]
  generalize colC k = m at *
  have q2 : (bs.length : Int).tdiv (m : Int) = ((bs.length / m : Nat) : Int) := by rw [Int.tdiv_eq_ediv_of_nonneg (by omega), ← Int.natCast_ediv]
  have hd := Nat.mul_div_le bs.length m
  have hd2 := Nat.div_le_self bs.length m
  have HC := Lib.hid (cByCols_any A bs.length c bs m (bs.length / m) w hr hn hc hd (by omega) (by omega))
  generalize bs.length / m = d at *
  have v2 : IntKind.i64.wrap (d : Int) = (d : Int) := IntWalk.i64_in _ (by omega)
  clear hr hd
  go_enter Try.func90, Try.ntmps90
  go_wp2_with fail
  refine (HP.out _).mono ?_
  rintro e w1 ⟨rfl, rfl⟩
  go_wp2_with fail
  refine HC.out.mono ?_
  rintro e w1 ⟨u, rfl, hu⟩
  have H1 := Lib.hid hu
  clear hu HC
  go_wp2_with fail
  go_ret
  exact ⟨_, rfl, H1.out⟩

end Go.Proofs.Ythfifpapkknodaa

/- Image's cut: the first bytes of each row, and what is behind them. -/
namespace Go.Proofs.Ythfifpapkknodaa
open Go.RowKit Go.Shelf
set_option maxRecDepth 100000

attribute [local go_sem] Oper.semAt_some

theorem flat_range (f : Nat → List Int) : ∀ K, (List.range K).flatMap f = rowsN f K
  | 0 => rfl
  | K + 1 => by rw [List.range_succ, List.flatMap_append, flat_range f K]; simp [rowsN]
theorem flatO_le {f : Nat → List Int} {n : Nat} (h : ∀ i, (f i).length ≤ n) : ∀ pre : List Nat, (pre.flatMap f).length ≤ pre.length * n
  | [] => by simp
  | x :: r => by
    rw [List.flatMap_cons, List.length_append, List.length_cons, Nat.succ_mul]
    have := flatO_le h r
    have := h x
    omega
/-- The first bytes of a row, those behind them. -/
def cutO (bs : List Int) (S n i : Nat) : List Int := (prtF bs S i).take n
def behO (bs : List Int) (S n i : Nat) : List Int := (prtF bs S i).drop n

/-- Between two rounds: the box of n, both lists in their cells. -/
structure CuH (w : World) (n S z : Nat) (bs : List Int) (pre : List Nat) (W : World) : Prop where
  b0 : Blk W w.heap.size 3 #[.int .i64 (n : Int)]
  two : ∃ u v, Blk W (w.heap.size + 1) 22 #[u] ∧ Blk W (w.heap.size + 1 + 1) 22 #[v] ∧ Own W 5 .u8 u (pre.flatMap (cutO bs S n)) ∧ Own W 5 .u8 v (pre.flatMap (behO bs S n)) ∧
    (∀ g, u.ownBlock = some g → z ≤ g) ∧ (∀ g, v.ownBlock = some g → z ≤ g) ∧ (∀ g, u.ownBlock = some g → v.ownBlock ≠ some g)
  fr : Fresh w W
  big : z ≤ W.heap.size
theorem CuH.nc {w : World} {n S z : Nat} {bs : List Int} {pre : List Nat} {T : Nat → Prop} {X Y : World} (h : CuH w n S z bs pre X) (hk : Kept T X Y) (hT : ∀ k, T k → NoCells X k ∧ w.heap.size ≤ k) : CuH w n S z bs pre Y := by
  obtain ⟨u, v, h1, h2, h3, h4, h5, h6, h7⟩ := h.two
  exact ⟨h.b0.kept hk (fun e => h.b0.cells (hT _ e).1), ⟨u, v, h1.kept hk (fun e => h1.cells (hT _ e).1), h2.kept hk (fun e => h2.cells (hT _ e).1), h3.kept hk (fun g e e2 => h3.cells e (hT _ e2).1), h4.kept hk (fun g e e2 => h4.cells e (hT _ e2).1), h5, h6, h7⟩,
    h.fr.trans hk fun i hi e => (by have := (hT i e).2; omega), Nat.le_trans h.big hk.size⟩

set_option maxHeartbeats 6400000 in
theorem cCut_any (A : Option Addr) (N c : Nat) (bs : List Int) (S n R : Nat) (w : World) (hr : Row w .u8 A N bs) (hN : R * S = N) (hS : 1 ≤ S) (hR : 1 ≤ R) (hn : n ≤ S) (hNc : N ≤ c) (hN2 : N ≤ 2097152) :
    Calls Try.prog 30 #[.slice A N c, .int .i64 (S : Int), .int .i64 (n : Int)] w fun e w' => ∃ u v, e = .returned (.tuple #[u, v]) ∧ NewRow w w' 5 .u8 u (cutN bs S n R) ∧ NewRow w w' 5 .u8 v (behN bs S n R) := by
  refine (callsIn_wide (n := 6)).1 ?_
  obtain ⟨i0, hi, hz0, hz1, hz2⟩ := info_parts Try.infoCol
  have hpos : 1 ≤ N := by rw [← hN]; exact Nat.mul_pos hR hS
  obtain ⟨b, o, rfl, hb, _⟩ := hr.at_ 0 (by omega)
  have hsz1 : ∀ w, (sizeOf 5).run Try.prog w = .ok 1 w := fun w => by kernel_rfl
  have hSN : S ≤ N := by rw [← hN]; exact Nat.le_mul_of_pos_left _ (by omega)
  have HR := Lib.hid (And.intro hr (And.intro hN hb))
  have HO : Hid (∀ i, (cutO bs S n i).length ≤ S ∧ (behO bs S n i).length ≤ S) := Lib.hid fun i => by
    unfold cutO behO prtF
    simp only [List.length_take, List.length_drop]
    omega
  clear hr hN
  refine callsIn_of_wp_marks Try.func30 rfl trivial ?_ rfl
  simp only [Try.ntmps30, List.size_toArray, List.length_cons, List.length_nil, Nat.reduceAdd, Nat.reduceSub, Array.replicate_succ, Array.replicate_zero, List.push_toArray, List.append_toArray, List.nil_append, List.cons_append]
  gi_wp2_with (refine ⟨trivial, ?_⟩; gi_at_call 49; refine (callsIn_wide.2 (chunkB_any _ N _ S _ (by omega))).mono ?_; rintro e w' ⟨rfl, rfl⟩)
  obtain ⟨W0, hW0⟩ : ∃ W0, W0 = ((((w.alloc (.cells #[.int .i64 (n : Int)] 3)).alloc (.cells #[.slice none 0 0] 22)).alloc (.cells #[.slice none 0 0] 22)).alloc (.cells #[.slice (some ⟨b, o, none⟩) N c] 22)).alloc (.cells #[.int .i64 (S : Int)] 3) := ⟨_, rfl⟩
  have hz0' : W0.heap.size = w.heap.size + 5 := by rw [hW0]; simp
  have hf0 : Fresh w W0 := by rw [hW0]; exact (((((Kept.refl _ _).alloc _).alloc _).alloc _).alloc _).alloc _
  have hB0 : Blk W0 w.heap.size 3 #[.int .i64 (n : Int)] := by rw [hW0]; exact ((((Blk.new _ _ _).alloc _).alloc _).alloc _).alloc _
  have hB1 : Blk W0 (w.heap.size + 1) 22 #[.slice none 0 0] := by
    rw [hW0]
    have := Blk.new (w.alloc (.cells #[.int .i64 (n : Int)] 3)) 22 #[.slice none 0 0]
    rw [World.size_alloc] at this
    exact ((this.alloc _).alloc _).alloc _
  have hB2 : Blk W0 (w.heap.size + 1 + 1) 22 #[.slice none 0 0] := by
    rw [hW0]
    have := Blk.new ((w.alloc (.cells #[.int .i64 (n : Int)] 3)).alloc (.cells #[.slice none 0 0] 22)) 22 #[.slice none 0 0]
    rw [World.size_alloc, World.size_alloc] at this
    exact (this.alloc _).alloc _
  have hB3 : Blk W0 (w.heap.size + 1 + 1 + 1) 22 #[.slice (some ⟨b, o, none⟩) N c] := by
    rw [hW0]
    have := Blk.new (((w.alloc (.cells #[.int .i64 (n : Int)] 3)).alloc (.cells #[.slice none 0 0] 22)).alloc (.cells #[.slice none 0 0] 22)) 22 #[.slice (some ⟨b, o, none⟩) N c]
    rw [World.size_alloc, World.size_alloc, World.size_alloc] at this
    exact this.alloc _
  have hB4 : Blk W0 (w.heap.size + 1 + 1 + 1 + 1) 3 #[.int .i64 (S : Int)] := by
    rw [hW0]
    have := Blk.new ((((w.alloc (.cells #[.int .i64 (n : Int)] 3)).alloc (.cells #[.slice none 0 0] 22)).alloc (.cells #[.slice none 0 0] 22)).alloc (.cells #[.slice (some ⟨b, o, none⟩) N c] 22)) 3 #[.int .i64 (S : Int)]
    rw [World.size_alloc, World.size_alloc, World.size_alloc, World.size_alloc] at this
    exact this
  rw [← hW0]
  have hst : CuH w n S W0.heap.size bs [] W0 := ⟨hB0, ⟨_, _, hB1, hB2, Own.nil _ _ _, Own.nil _ _ _, fun g e => (by cases e), fun g e => (by cases e), fun g e => (by cases e)⟩, hf0, Nat.le_refl _⟩
  have H0 := Lib.hid (And.intro hst (And.intro hB3 hB4))
  clear hst hB0 hB1 hB2 hB3 hB4 hf0 hW0
  refine wpIn_rangeFunc_ownG rfl (by omega) (gf := 74) (lb := #[.pointer (some ⟨w.heap.size + 1 + 1 + 1, 0, none⟩), .pointer (some ⟨w.heap.size + 1 + 1 + 1 + 1, 0, none⟩)]) rfl trivial (enters_of Try.func74 (by kernel_rfl) rfl)
    (chunkB_stops 5 (by omega) (w.heap.size + 1 + 1 + 1) (some ⟨b, o, none⟩) N c S R (fun _ => ⟨b, o, rfl⟩) hS HR.out.2.1 hNc (by omega) W0 H0.out.2.1 H0.out.2.2) boxes_t (boxes_b (by omega)) (Below.refl _ _) (fun _ => rfl)
    (fun pre W => CuH w n S W0.heap.size bs (pre.map Fin.val) W)
    (fun _ _ _ => False)
    (fun s X Y row hs hg hr => hs.nc (kept_of_grown hg) fun k e => ⟨(hr k e).2, by have := (hr k e).1; omega⟩)
    (fun _ _ _ _ _ hs _ _ => hs)
    H0.out.1
    (fun x => { tmps := #[.slice (some ⟨b, o, none⟩) N c, .int .i64 (S : Int), .int .i64 (n : Int), undef, undef, .pointer (some ⟨w.heap.size, 0, none⟩), .pointer (some ⟨w.heap.size + 1, 0, none⟩), .pointer (some ⟨w.heap.size + 1 + 1, 0, none⟩), rowOf (some ⟨b, o, none⟩) S x.val, .slice (some ⟨b, o, none⟩) N c, .int .i64 (S : Int), .func (.func 74) #[] #[.pointer (some ⟨w.heap.size + 1 + 1 + 1, 0, none⟩), .pointer (some ⟨w.heap.size + 1 + 1 + 1 + 1, 0, none⟩)], rowOf (some ⟨b, o, none⟩) S x.val, undef, undef, undef, undef, undef, undef, undef, undef, undef, undef, undef, undef], defers := [] }) ?assign ?body ?done ?stop
  case assign =>
    intro l x W K hK
    gi_wp2
    exact hK
  case body =>
    rintro L pre x W h hlen
    have hsc : Hid (((pre ++ [x]).map Fin.val).flatMap (cutO bs S n) = (pre.map Fin.val).flatMap (cutO bs S n) ++ cutO bs S n x.val) := Lib.hid (by simp)
    have hsb : Hid (((pre ++ [x]).map Fin.val).flatMap (behO bs S n) = (pre.map Fin.val).flatMap (behO bs S n) ++ behO bs S n x.val) := Lib.hid (by simp)
    have hlc : ((pre.map Fin.val).flatMap (cutO bs S n)).length ≤ N ∧ ((pre.map Fin.val).flatMap (behO bs S n)).length ≤ N := by
      have h1 := flatO_le (fun i => (HO.out i).1) (pre.map Fin.val)
      have h2 := flatO_le (fun i => (HO.out i).2) (pre.map Fin.val)
      rw [List.length_map] at h1 h2
      have h3 := Nat.mul_le_mul_right S (Nat.le_of_lt hlen)
      rw [HR.out.2.1] at h3
      omega
    have hxn : (x.val + 1) * S ≤ N := by rw [← HR.out.2.1]; exact Nat.mul_le_mul_right S x.isLt
    obtain ⟨q, hq⟩ : ∃ q, q = o + x.val * S := ⟨_, rfl⟩
    have hrow : Hid (∀ V, Fresh w V → Row V .u8 (some ⟨b, q, none⟩) n (cutO bs S n x.val) ∧ Row V .u8 (cutAt (some ⟨b, q, none⟩) n S) (S - n) (behO bs S n x.val)) := Lib.hid fun V hV => by
      have h1 := (HR.out.1.kept hV (fun _ _ _ _ => id)).rowOf hxn
      simp only [Option.map_some] at h1
      rw [← hq] at h1
      refine ⟨h1.take hn, ?_⟩
      have h2 := h1.cut (l := n) (m := S - n) (c := S) (by omega) (Nat.le_refl _)
      rwa [List.take_of_length_le (by rw [List.length_drop, prtF_length (by rw [HR.out.1.len]; exact hxn)]; exact Nat.le_refl _)] at h2
    have hs1 : ∀ V, (Instr.slice 22 (.slice (some ⟨b, q, none⟩) S S) none (some (.int .i64 (n : Int))) none).run Try.prog V = .ok (.slice (some ⟨b, q, none⟩) n S) V := fun V => run_slice_upto 22 5 Try.underlying22 hsz1 (some ⟨b, q, none⟩) S S n (n : Int) rfl hn V
    have hs2 : ∀ V, (Instr.slice 22 (.slice (some ⟨b, q, none⟩) S S) (some (.int .i64 (n : Int))) none none).run Try.prog V = .ok (.slice (cutAt (some ⟨b, q, none⟩) n S) (S - n) (S - n)) V := fun V => run_slice_from 22 5 Try.underlying22 hsz1 (some ⟨b, q, none⟩) S S n hn V
    unfold rowOf
    simp only [Option.map_some]
    rw [← hq]
    clear hq hxn
    obtain ⟨u, v, c1, c2, o1, o2, z1, z2, zd⟩ := h.two
    have b0 := (h.b0.cell 0).trans (show _ = some (Value.int .i64 (n : Int)) from rfl)
    have b1 := (c1.cell 0).trans (show _ = some u from rfl)
    have f1 := c1.frozen 0
    have HH := Lib.hid (And.intro h (And.intro c1 (And.intro c2 (And.intro o1 (And.intro o2 (And.intro z1 (And.intro z2 zd)))))))
    clear h c1 c2 o1 o2 z1 z2 zd
    generalize (pre.map Fin.val).flatMap (cutO bs S n) = xs at *
    generalize (pre.map Fin.val).flatMap (behO bs S n) = ys at *
    generalize cutO bs S n x.val = X at *
    generalize behO bs S n x.val = Y at *
    generalize cutAt (some ⟨b, q, none⟩) n S = CA at *
    gi_wp2
    refine wpIn_region_tail 4 (by kernel_rfl) (by kernel_rfl) (NoDefer.of (by kernel_rfl)) ?_
    simp only [List.take_succ_cons, List.take_zero, List.drop_succ_cons, List.drop_zero]
    iterate 4 still_step
    refine wpStill_nil ?_
    go_wp2_with (at_builtin; refine wpList_app _ rfl _ _ 22 rfl 5 i0 .u8 1 Try.underlying22 hi hz0 hz1 hz2 u xs rfl HH.out.2.2.2.1.drew (some ⟨b, q, none⟩) n S X rfl (hrow.out _ HH.out.1.fr.drew).1 (by unfold maxLen; omega) (by omega) ?_)
    intro u' W1 o1' g1 a1
    obtain ⟨Au, cu, eu, _, _⟩ := o1'.row
    generalize (xs ++ X).length = lu at eu
    have k1 : Kept (fun k => u.ownBlock = some k) W.drew W1 := (Kept.refl _ _).grown g1 fun _ e _ => e
    have n1 : u.ownBlock ≠ some (w.heap.size + 1) := HH.out.2.2.2.1.ne_blk HH.out.2.1 (by decide)
    have n2 : u.ownBlock ≠ some (w.heap.size + 1 + 1) := HH.out.2.2.2.1.ne_blk HH.out.2.2.1 (by decide)
    have n0 : u.ownBlock ≠ some w.heap.size := HH.out.2.2.2.1.ne_blk HH.out.1.b0 (by decide)
    have c11 := HH.out.2.1.drew.kept k1 n1
    have c21 := HH.out.2.2.1.drew.kept k1 n2
    have f1 := c11.frozen 0
    have b1' := (c11.cell 0).trans (show _ = some u from rfl)
    have Heu := Lib.hid eu
    rw [eu]
    clear eu
    have H1 := Lib.hid (And.intro o1' (And.intro a1 (And.intro k1 (And.intro n0 (And.intro n1 (And.intro n2 (And.intro c11 c21)))))))
    clear o1' g1 a1 k1 n0 n1 n2 c11 c21
    go_wp2_with fail
    refine Calm.of ?_
    clear f1 b1'
    rw [← Heu.out]
    have hu'n : u'.ownBlock ≠ some (w.heap.size + 1) := H1.out.1.ne_blk H1.out.2.2.2.2.2.2.1 (by decide)
    obtain ⟨W2, hW2⟩ : ∃ W2, W2 = W1.setCell ⟨w.heap.size + 1, 0, none⟩ u' := ⟨_, rfl⟩
    rw [← hW2]
    have hk2 : Kept (fun k => u.ownBlock = some k ∨ k = w.heap.size + 1) W W2 := by
      rw [hW2]
      exact ((((Kept.refl (fun k => u.ownBlock = some k ∨ k = w.heap.size + 1) W).drew.trans H1.out.2.2.1 fun _ _ e => .inl e)).setCell (p := ⟨w.heap.size + 1, 0, none⟩) (fun _ => .inr rfl) u')
    have ho2 : Own W2 5 .u8 u' (xs ++ X) := by rw [hW2]; exact H1.out.1.setFar hu'n _
    have hc12 : Blk W2 (w.heap.size + 1) 22 #[u'] := by rw [hW2]; exact H1.out.2.2.2.2.2.2.1.set_ 0 _
    have hc22 : Blk W2 (w.heap.size + 1 + 1) 22 #[v] := by rw [hW2]; exact H1.out.2.2.2.2.2.2.2.far (p := ⟨w.heap.size + 1, 0, none⟩) (by simp) _
    have hfr2 : Fresh w W2 := HH.out.1.fr.trans hk2 fun i hi e => by
      rcases e with e | e
      · have := HH.out.2.2.2.2.2.1 i e; omega
      · omega
    have hb02 : Blk W2 w.heap.size 3 #[.int .i64 (n : Int)] := HH.out.1.b0.kept hk2 fun e => by
      rcases e with e | e
      · exact H1.out.2.2.2.1 e
      · omega
    have hov2 : Own W2 5 .u8 v ys := HH.out.2.2.2.2.1.kept hk2 fun g e e2 => by
      rcases e2 with e2 | e2
      · exact HH.out.2.2.2.2.2.2.2 g e2 e
      · exact HH.out.2.2.2.2.1.ne_blk HH.out.2.1 (by decide) (e2 ▸ e)
    have hzu : ∀ g, u'.ownBlock = some g → W0.heap.size ≤ g := fun g e => by
      have := HH.out.1.big
      rcases H1.out.2.1 with e2 | e2
      · exact HH.out.2.2.2.2.2.1 g (e2 ▸ e)
      · rw [e2] at e
        injection e with e
        have : W.drew.heap.size = W.heap.size := rfl
        omega
    have hzd : ∀ g, u'.ownBlock = some g → v.ownBlock ≠ some g := fun g e e3 => by
      rcases H1.out.2.1 with e2 | e2
      · exact HH.out.2.2.2.2.2.2.2 g (e2 ▸ e) e3
      · rw [e2] at e
        injection e with e
        have := HH.out.2.2.2.2.1.lt e3
        have : W.drew.heap.size = W.heap.size := rfl
        omega
    have b0' := (hb02.cell 0).trans (show _ = some (Value.int .i64 (n : Int)) from rfl)
    have b2 := (hc22.cell 0).trans (show _ = some v from rfl)
    have H2 := Lib.hid (And.intro hk2 (And.intro ho2 (And.intro hc12 (And.intro hc22 (And.intro hfr2 (And.intro hb02 (And.intro hov2 (And.intro hzu hzd))))))))
    clear hk2 ho2 hc12 hc22 hfr2 hb02 hov2 hzu hzd hW2 hu'n b0 b1 H1
    gi_wp2
    refine wpIn_region_tail 4 (by kernel_rfl) (by kernel_rfl) (NoDefer.of (by kernel_rfl)) ?_
    simp only [List.take_succ_cons, List.take_zero, List.drop_succ_cons, List.drop_zero]
    iterate 4 still_step
    refine wpStill_nil ?_
    go_wp2_with (at_builtin; refine wpList_app _ rfl _ _ 22 rfl 5 i0 .u8 1 Try.underlying22 hi hz0 hz1 hz2 v ys rfl H2.out.2.2.2.2.2.2.1.drew CA (S - n) (S - n) Y rfl (hrow.out _ H2.out.2.2.2.2.1.drew).2 (by unfold maxLen; omega) (by omega) ?_)
    intro v' W3 o3' g3 a3
    obtain ⟨Av, cv, ev, _, _⟩ := o3'.row
    generalize (ys ++ Y).length = lv at ev
    have k3 : Kept (fun k => v.ownBlock = some k) W2.drew W3 := (Kept.refl _ _).grown g3 fun _ e _ => e
    have n1 : v.ownBlock ≠ some (w.heap.size + 1) := H2.out.2.2.2.2.2.2.1.ne_blk H2.out.2.2.1 (by decide)
    have n2 : v.ownBlock ≠ some (w.heap.size + 1 + 1) := H2.out.2.2.2.2.2.2.1.ne_blk H2.out.2.2.2.1 (by decide)
    have n0 : v.ownBlock ≠ some w.heap.size := H2.out.2.2.2.2.2.2.1.ne_blk H2.out.2.2.2.2.2.1 (by decide)
    have c23 := H2.out.2.2.2.1.drew.kept k3 n2
    have f2 := c23.frozen 0
    have b2' := (c23.cell 0).trans (show _ = some v from rfl)
    have Hev := Lib.hid ev
    rw [ev]
    clear ev
    have H3 := Lib.hid (And.intro o3' (And.intro a3 (And.intro k3 (And.intro n0 (And.intro n1 (And.intro n2 c23))))))
    clear o3' g3 a3 k3 n0 n1 n2 c23
    go_wp2_with fail
    refine Calm.of ?_
    clear f2 b2'
    rw [← Hev.out]
    gi_wp2_with fail
    obtain ⟨W4, hW4⟩ : ∃ W4, W4 = W3.setCell ⟨w.heap.size + 1 + 1, 0, none⟩ v' := ⟨_, rfl⟩
    rw [← hW4]
    have hv'n : v'.ownBlock ≠ some (w.heap.size + 1 + 1) := H3.out.1.ne_blk H3.out.2.2.2.2.2.2 (by decide)
    have hk24 : Kept (fun k => v.ownBlock = some k ∨ k = w.heap.size + 1 + 1) W2 W4 := by
      rw [hW4]
      exact ((((Kept.refl (fun k => v.ownBlock = some k ∨ k = w.heap.size + 1 + 1) W2).drew.trans H3.out.2.2.1 fun _ _ e => .inl e)).setCell (p := ⟨w.heap.size + 1 + 1, 0, none⟩) (fun _ => .inr rfl) v')
    have ho4 : Own W4 5 .u8 v' (ys ++ Y) := by rw [hW4]; exact H3.out.1.setFar hv'n _
    have hc24 : Blk W4 (w.heap.size + 1 + 1) 22 #[v'] := by rw [hW4]; exact H3.out.2.2.2.2.2.2.set_ 0 _
    have hc14 : Blk W4 (w.heap.size + 1) 22 #[u'] := H2.out.2.2.1.kept hk24 fun e => by
      rcases e with e | e
      · exact H3.out.2.2.2.2.1 e
      · omega
    have hu4 : Own W4 5 .u8 u' (xs ++ X) := H2.out.2.1.kept hk24 fun g e e2 => by
      rcases e2 with e2 | e2
      · exact H2.out.2.2.2.2.2.2.2.2 g e e2
      · exact H2.out.2.1.ne_blk H2.out.2.2.2.1 (by decide) (e2 ▸ e)
    have hb4 : Blk W4 w.heap.size 3 #[.int .i64 (n : Int)] := H2.out.2.2.2.2.2.1.kept hk24 fun e => by
      rcases e with e | e
      · exact H3.out.2.2.2.1 e
      · omega
    have hfr4 : Fresh w W4 := H2.out.2.2.2.2.1.trans hk24 fun i hi e => by
      rcases e with e | e
      · have := HH.out.2.2.2.2.2.2.1 i e; omega
      · omega
    have hzv : ∀ g, v'.ownBlock = some g → W0.heap.size ≤ g := fun g e => by
      have h1 := HH.out.1.big
      have h2 := H2.out.1.size
      rcases H3.out.2.1 with e2 | e2
      · exact HH.out.2.2.2.2.2.2.1 g (e2 ▸ e)
      · rw [e2] at e
        injection e with e
        have : W2.drew.heap.size = W2.heap.size := rfl
        omega
    have hzd4 : ∀ g, u'.ownBlock = some g → v'.ownBlock ≠ some g := fun g e e3 => by
      rcases H3.out.2.1 with e2 | e2
      · exact H2.out.2.2.2.2.2.2.2.2 g e (e2 ▸ e3)
      · rw [e2] at e3
        injection e3 with e3
        have := H2.out.2.1.lt e
        have : W2.drew.heap.size = W2.heap.size := rfl
        omega
    have hall : Kept (fun k => u.ownBlock = some k ∨ v.ownBlock = some k ∨ k = w.heap.size + 1 ∨ k = w.heap.size + 1 + 1) W W4 :=
      (H2.out.1.mono (T := fun k => u.ownBlock = some k ∨ v.ownBlock = some k ∨ k = w.heap.size + 1 ∨ k = w.heap.size + 1 + 1) (fun _ _ e => by rcases e with e | e <;> simp [e])).trans hk24 (fun _ _ e => by rcases e with e | e <;> simp [e])
    have hlu : ∀ k, (u.ownBlock = some k ∨ v.ownBlock = some k ∨ k = w.heap.size + 1 ∨ k = w.heap.size + 1 + 1) → W0.heap.size ≤ k ∨ k = w.heap.size + 1 ∨ k = w.heap.size + 1 + 1 := fun k e => by
      rcases e with e | e | e | e
      · exact .inl (HH.out.2.2.2.2.2.1 k e)
      · exact .inl (HH.out.2.2.2.2.2.2.1 k e)
      · exact .inr (.inl e)
      · exact .inr (.inr e)
    have hbig := HH.out.1.big
    refine ⟨KeepsFrom.of _ hall fun k e => ?_, ⟨hall.block _ (by omega) (fun e => by have := hlu _ e; omega), hall.block _ (by omega) (fun e => by have := hlu _ e; omega)⟩, ?_⟩
    · rcases e with e | e | e | e
      · exact HH.out.2.2.2.1.cells e
      · exact HH.out.2.2.2.2.1.cells e
      · rw [e]; exact HH.out.2.1.cells
      · rw [e]; exact HH.out.2.2.1.cells
    · exact ⟨hb4, ⟨u', v', hc14, hc24, by rw [hsc.out]; exact hu4, by rw [hsb.out]; exact ho4, H2.out.2.2.2.2.2.2.2.1, hzv, hzd4⟩, hfr4, Nat.le_trans hbig hall.size⟩
  case done =>
    rintro D ys W hD hys h hK
    obtain ⟨u, v, c1, c2, o1, o2, z1, z2, _⟩ := h.two
    rw [hys, flat_range] at o1 o2
    obtain ⟨Au, cu, eu, _, _⟩ := o1.row
    obtain ⟨Av, cv, ev, _, _⟩ := o2.row
    generalize (rowsN (cutO bs S n) R).length = lu at eu
    generalize (rowsN (behO bs S n) R).length = lv at ev
    have Heu := Lib.hid (And.intro eu ev)
    have hfr := h.fr
    have hbw : w.heap.size ≤ W.heap.size := hfr.size
    have H1 := Lib.hid (And.intro h (And.intro c1 (And.intro c2 (And.intro o1 (And.intro o2 (And.intro z1 z2))))))
    have b1 := (c1.cell 0).trans (show _ = some u from rfl)
    have b2 := (c2.cell 0).trans (show _ = some v from rfl)
    have f1 := c1.frozen 0
    have f2 := c2.frozen 0
    rw [eu] at b1
    rw [ev] at b2
    clear h c1 c2 z1 z2 o1 o2 eu ev hfr
    gi_wp2
    gi_region
    rw [← Heu.out.1, ← Heu.out.2]
    gi_wp2
    obtain ⟨W5, hW5⟩ : ∃ W5, W5 = ((W.setCell ⟨w.heap.size + 1, 0, none⟩ u).setCell ⟨w.heap.size + 1 + 1, 0, none⟩ v).drew := ⟨_, rfl⟩
    rw [← hW5]
    have k5 : Kept (fun k => k = w.heap.size + 1 ∨ k = w.heap.size + 1 + 1) W W5 := by
      rw [hW5]
      exact (((Kept.refl (fun k => k = w.heap.size + 1 ∨ k = w.heap.size + 1 + 1) W).setCell (p := ⟨w.heap.size + 1, 0, none⟩) (fun _ => .inl rfl) u).setCell (p := ⟨w.heap.size + 1 + 1, 0, none⟩) (fun _ => .inr rfl) v).drew
    have c15 : Blk W5 (w.heap.size + 1) 22 #[u] := by rw [hW5]; exact (H1.out.2.1.set_ 0 u).far (p := ⟨w.heap.size + 1 + 1, 0, none⟩) (by simp) v
    have c25 : Blk W5 (w.heap.size + 1 + 1) 22 #[v] := by rw [hW5]; exact (H1.out.2.2.1.far (p := ⟨w.heap.size + 1, 0, none⟩) (by simp) u).set_ 0 v
    have hK5 : W5.heap[D]? = some (.deferred (some [])) := (k5.block D (Array.getElem?_eq_some_iff.1 hK).1 (by omega)).trans hK
    have hg := kept_of_grown (grownBy_putObj' W5 D (.deferred none))
    have d1 := ((c15.kept hg (fun e => by injection e with e; omega)).cell 0).trans (show _ = some u from rfl)
    have d2 := ((c25.kept hg (fun e => by injection e with e; omega)).cell 0).trans (show _ = some v from rfl)
    have all : Kept (fun k => k = w.heap.size + 1 ∨ k = w.heap.size + 1 + 1 ∨ k = D) W (W5.putObj D (.deferred none)) :=
      (k5.mono (T := fun k => k = w.heap.size + 1 ∨ k = w.heap.size + 1 + 1 ∨ k = D) fun i _ e => by rcases e with e | e <;> simp [e]).trans hg fun i _ e => by injection e with e; simp [e]
    have fin : ∀ x zs, Own W 5 .u8 x zs → Own (W5.putObj D (.deferred none)) 5 .u8 x zs := fun x zs ho => ho.kept all fun g e e2 => by
      rcases e2 with e2 | e2 | e2
      · exact ho.ne_blk H1.out.2.1 (by decide) (e2 ▸ e)
      · exact ho.ne_blk H1.out.2.2.1 (by decide) (e2 ▸ e)
      · exact ho.cells e ⟨_, e2 ▸ hK, rfl⟩
    have hfin : Fresh w (W5.putObj D (.deferred none)) := H1.out.1.fr.trans all fun i hi e => by omega
    refine ⟨by simp, .inl ⟨_, _, rfl, run_takeDeferred hK5, ?_⟩⟩
    exact ⟨.tuple #[u, v], by simp [results, Try.f30, go_sem, d1, d2], u, v, rfl, ⟨fin u _ H1.out.2.2.2.1, fun g e => by have := H1.out.2.2.2.2.2.1 g e; omega, hfin⟩, ⟨fin v _ H1.out.2.2.2.2.1, fun g e => by have := H1.out.2.2.2.2.2.2 g e; omega, hfin⟩⟩
  case stop =>
    rintro D c pre W _ _ h _
    exact h.elim

end Go.Proofs.Ythfifpapkknodaa

/- Image's splice: rows of both. -/
namespace Go.Proofs.Ythfifpapkknodaa
open Go.RowKit
set_option maxRecDepth 100000

attribute [local go_sem ↓] Go.wp_at_zero Go.wp_at_succ

set_option maxHeartbeats 3200000 in
theorem cSplice_any (A : Option Addr) (n c : Nat) (xs : List Int) (B : Option Addr) (m d : Nat) (ys : List Int) (K p q : Nat) (w : World) (hr : Row w .u8 A n xs) (hs : Row w .u8 B m ys) (hn : n = K * p) (hm : m = K * q) (hK : 1 ≤ K)
    (hnc : n ≤ c) (hmd : m ≤ d) (hn2 : n ≤ 2097152) (hm2 : m ≤ 2097152) (hK2 : K ≤ 1048576) :
    Calls Try.prog 63 #[.slice A n c, .slice B m d, .int .i64 (K : Int)] w fun e w' => ∃ u, e = .returned u ∧ NewRow w w' 5 .u8 u (splI xs ys p q K) := by
  obtain ⟨i0, hi0, hz0, hz1, hz2⟩ := info_parts Try.infoCol
  have HR : Hid (∀ V, Fresh w V → Row V .u8 A n xs ∧ Row V .u8 B m ys) := Lib.hid fun V hV => ⟨hr.kept hV (fun _ _ _ _ => id), hs.kept hV (fun _ _ _ _ => id)⟩
  have hsz1 : ∀ w, (sizeOf 5).run Try.prog w = .ok 1 w := fun w => by kernel_rfl
  have g0 : (K : Int) ≠ 0 := by omega
  have g1 : (K = 0) = False := by simp only [eq_iff_iff, iff_false]; omega
  have qn : (n : Int) / (K : Int) = (p : Int) := by rw [hn, ← Int.natCast_ediv, Nat.mul_div_cancel_left _ (by omega)]
  have qm : (m : Int) / (K : Int) = (q : Int) := by rw [hm, ← Int.natCast_ediv, Nat.mul_div_cancel_left _ (by omega)]
  have hpn : p ≤ n := by rw [hn]; exact Nat.le_mul_of_pos_left _ (by omega)
  have hqm : q ≤ m := by rw [hm]; exact Nat.le_mul_of_pos_left _ (by omega)
  have tn : (n : Int).tdiv (K : Int) = (p : Int) := by rw [Int.tdiv_eq_ediv_of_nonneg (by omega)]; exact qn
  have tm : (m : Int).tdiv (K : Int) = (q : Int) := by rw [Int.tdiv_eq_ediv_of_nonneg (by omega)]; exact qm
  have wp : IntKind.i64.wrap (p : Int) = (p : Int) := IntWalk.i64_in _ (by omega)
  have wq : IntKind.i64.wrap (q : Int) = (q : Int) := IntWalk.i64_in _ (by omega)
  have HL := Lib.hid (And.intro hr.len hs.len)
  have HM := Lib.hid (And.intro hn hm)
  clear hr hs hn hm
  go_enter Try.func63, Try.ntmps63
  go_wp2_with fail
  go_region
  go_wp2_with fail
  go_loopw [20, 7] (fun i v wr => ∃ j : Nat, j ≤ K ∧ i = .int .i64 (j : Int) ∧ NewRow w wr 5 .u8 v (splI xs ys p q j)) (fun i _ _ => (K - intOf i).toNat)
  case atStart => exact ⟨0, by omega, by simp, (NewRow.none w _ _).fresh (Kept.refl _ _).drew⟩
  case round =>
    obtain ⟨j, hj, rfl, hv⟩ := hrel
    have hl0 : (splI xs ys p q j).length = j * (p + q) := splI_length (by rw [HL.out.1, HM.out.1]; exact Nat.mul_le_mul_right p hj) (by rw [HL.out.2, HM.out.2]; exact Nat.mul_le_mul_right q hj)
    by_cases hlt : j < K
    · obtain ⟨P0, hP0⟩ : ∃ P0, P0 = j * p := ⟨_, rfl⟩
      obtain ⟨Q0, hQ0⟩ : ∃ Q0, Q0 = j * q := ⟨_, rfl⟩
      obtain ⟨P1, hP1⟩ : ∃ P1, P1 = (j + 1) * p := ⟨_, rfl⟩
      obtain ⟨Q1, hQ1⟩ : ∃ Q1, Q1 = (j + 1) * q := ⟨_, rfl⟩
      obtain ⟨k, hk⟩ : ∃ k, k = j + 1 := ⟨_, rfl⟩
      have e1 : (j : Int) * (p : Int) = (P0 : Int) := by rw [hP0]; simp
      have e2 : (j : Int) * (q : Int) = (Q0 : Int) := by rw [hQ0]; simp
      have e3 : (k : Int) * (p : Int) = (P1 : Int) := by rw [hP1, hk]; simp
      have e4 : (k : Int) * (q : Int) = (Q1 : Int) := by rw [hQ1, hk]; simp
      have e5 : (j : Int) + 1 = (k : Int) := by omega
      have hP : P1 = P0 + p := by rw [hP0, hP1, Nat.succ_mul]
      have hQ : Q1 = Q0 + q := by rw [hQ0, hQ1, Nat.succ_mul]
      have hPn : P1 ≤ n := by rw [hP1, HM.out.1]; exact Nat.mul_le_mul_right p hlt
      have hQn : Q1 ≤ m := by rw [hQ1, HM.out.2]; exact Nat.mul_le_mul_right q hlt
      have w1 : IntKind.i64.wrap (P0 : Int) = (P0 : Int) := IntWalk.i64_in _ (by omega)
      have w2 : IntKind.i64.wrap (Q0 : Int) = (Q0 : Int) := IntWalk.i64_in _ (by omega)
      have w3 : IntKind.i64.wrap (P1 : Int) = (P1 : Int) := IntWalk.i64_in _ (by omega)
      have w4 : IntKind.i64.wrap (Q1 : Int) = (Q1 : Int) := IntWalk.i64_in _ (by omega)
      have w5 : IntKind.i64.wrap (k : Int) = (k : Int) := IntWalk.i64_in _ (by omega)
      have hs1 : ∀ V, (Instr.slice 22 (.slice A n c) (some (.int .i64 (P0 : Int))) (some (.int .i64 (P1 : Int))) none).run Try.prog V = .ok (.slice (cutAt A P0 c) p (c - P0)) V := fun V => by
        have := run_slice_part (P := Try.prog) 22 5 Try.underlying22 hsz1 A n c P0 P1 (P1 : Int) rfl (by omega) (by omega) V
        rwa [show P1 - P0 = p by omega] at this
      have hs2 : ∀ V, (Instr.slice 22 (.slice B m d) (some (.int .i64 (Q0 : Int))) (some (.int .i64 (Q1 : Int))) none).run Try.prog V = .ok (.slice (cutAt B Q0 d) q (d - Q0)) V := fun V => by
        have := run_slice_part (P := Try.prog) 22 5 Try.underlying22 hsz1 B m d Q0 Q1 (Q1 : Int) rfl (by omega) (by omega) V
        rwa [show Q1 - Q0 = q by omega] at this
      have HX : Hid (∀ V, Fresh w V → Row V .u8 (cutAt A P0 c) p (prtF xs p j) ∧ Row V .u8 (cutAt B Q0 d) q (prtF ys q j)) := Lib.hid fun V hV => by
        unfold prtF
        rw [← hP0, ← hQ0]
        exact ⟨(HR.out V hV).1.cut (by omega) hnc, (HR.out V hV).2.cut (by omega) hmd⟩
      have Hn : Hid (splI xs ys p q k = splI xs ys p q j ++ (prtF xs p j ++ prtF ys q j)) := Lib.hid (by rw [hk]; rfl)
      have hlen : (splI xs ys p q j).length ≤ 4194304 := by
        rw [hl0, Nat.mul_add, ← hP0, ← hQ0]
        omega
      have hpq : (splI xs ys p q j).length + p + q ≤ 100000000 := by omega
      have HN := Lib.hid hv
      have HXl : Hid ((prtF xs p j).length = p) := Lib.hid (prtF_length (by rw [← hP1, HL.out.1]; omega))
      have Hk := Lib.hid hk
      generalize splI xs ys p q j = zs at *
      generalize prtF xs p j = X at *
      generalize prtF ys q j = Y at *
      have b1 : (P0 : Int) ≤ (P1 : Int) := by omega
      have b2 : (Q0 : Int) ≤ (Q1 : Int) := by omega
      clear hv hP0 hQ0 hP1 hQ1 hk hl0 hP hQ hPn hQn hpn hqm hj
      generalize cutAt A P0 c = CA at *
      generalize cutAt B Q0 d = CB at *
      go_wp2_with (at_builtin; refine wpList_new _ w rfl _ _ 22 rfl 5 i0 .u8 1 Try.underlying22 hi0 hz0 hz1 hz2 u7 zs rfl HN.out CA p (c - P0) X rfl (HX.out _ HN.out.2.2).1 (by unfold maxLen; omega) (by simp; omega) ?_)
      intro v8 w8 hn8
      have HN8 := Lib.hid hn8
      clear hn8 HN
      go_wp2_with (at_builtin; refine wpList_new _ w rfl _ _ 22 rfl 5 i0 .u8 1 Try.underlying22 hi0 hz0 hz1 hz2 v8 _ rfl HN8.out CB q (d - Q0) Y rfl (HX.out _ HN8.out.2.2).2 (by rw [List.length_append, HXl.out]; unfold maxLen; omega) (by rw [List.length_append, HXl.out]; simp; omega) ?_)
      intro v9 w9 hn9
      have HN9 : Hid (NewRow w w9 5 .u8 v9 (splI xs ys p q (j + 1))) := Lib.hid (by rw [← Hk.out, Hn.out]; exact hn9)
      clear hn9 HN8
      go_wp2_with fail
      go_roundw
      case rel => exact ⟨j + 1, by omega, by go_num, HN9.out⟩
      case measure => simp [intOf]; omega
    · have hjK : j = K := by omega
      have q0 : ¬ (j : Int) < (K : Int) := by omega
      have HE : Hid (NewRow w wr 5 .u8 u7 (splI xs ys p q K)) := Lib.hid (hjK ▸ hv)
      clear hv hjK hl0 hlt
      go_wp2_with fail
      go_ret
      exact ⟨_, rfl, HE.out⟩

end Go.Proofs.Ythfifpapkknodaa

/- The code's pixels by their green: colourOK. -/
namespace Go.Proofs.Ythfifpapkknodaa
open Go.RowKit Go.Shelf
set_option maxRecDepth 100000

attribute [local go_sem] Oper.semAt_some

/-- One pixel more. -/
def tpx (s : Int) (l : List Int) (x : Nat) : List Int := (l.set (x * 3) ((l.getD (x * 3) 0 + s * l.getD (x * 3 + 1) 0) % 256)).set (x * 3 + 2) ((l.getD (x * 3 + 2) 0 + s * l.getD (x * 3 + 1) 0) % 256)
def tpxs (s : Int) (bs : List Int) (pre : List Nat) : List Int := pre.foldl (tpx s) bs
theorem tpx_length (s : Int) (l : List Int) (x : Nat) : (tpx s l x).length = l.length := by simp [tpx]
theorem tpxs_length (s : Int) : ∀ (pre : List Nat) (bs : List Int), (tpxs s bs pre).length = bs.length
  | [], _ => rfl
  | x :: r, bs => (tpxs_length s r (tpx s bs x)).trans (tpx_length s bs x)
theorem tpxs_snoc (s : Int) (bs : List Int) (pre : List Nat) (x : Nat) : tpxs s bs (pre ++ [x]) = tpx s (tpxs s bs pre) x := by simp [tpxs]
theorem set_byte {l : List Int} (h : B8 l) (i : Nat) (v : Int) : B8 (l.set i (v % 256)) := fun x hx => by
  rcases List.mem_or_eq_of_mem_set hx with hx | rfl
  · exact h x hx
  · omega
theorem tpxs_byte (s : Int) : ∀ (pre : List Nat) (bs : List Int), B8 bs → B8 (tpxs s bs pre)
  | [], _, h => h
  | x :: r, bs, h => tpxs_byte s r (tpx s bs x) (set_byte (set_byte h _ _) _ _)
theorem tpxs_range (s : Int) (bs : List Int) : ∀ q, 3 * q ≤ bs.length → tpxs s bs (List.range q) = trnTo s bs q
  | 0, _ => (trnTo_zero s bs).symm
  | q + 1, h => by
    have g : ∀ i, 3 * q ≤ i → i < bs.length → (trnTo s bs q).getD i 0 = bs.getD i 0 := fun i h1 h2 => by rw [trnTo, tn_getD h2, if_neg (by omega)]
    rw [List.range_succ, tpxs_snoc, tpxs_range s bs q (by omega), tpx, Nat.mul_comm q 3, g _ (by omega) (by omega), g _ (by omega) (by omega), g _ (by omega) (by omega)]
    exact trnTo_next (by omega)

/-- Between two rounds. -/
structure GrH (w : World) (A : Option Addr) (N cap : Nat) (s : Int) (bs : List Int) (d : Nat) (pre : List Nat) (W : World) : Prop where
  b0 : Blk W w.heap.size 3 #[.int .i64 s]
  own : Own W 5 .u8 (.slice A N cap) (tpxs s bs pre)
  fr : Fresh w W
  big : d ≤ W.heap.size
theorem GrH.nc {w : World} {A : Option Addr} {N cap : Nat} {s : Int} {bs : List Int} {d : Nat} {pre : List Nat} {S : Nat → Prop} {X Y : World} (h : GrH w A N cap s bs d pre X) (hk : Kept S X Y) (hS : ∀ k, S k → NoCells X k ∧ w.heap.size ≤ k) : GrH w A N cap s bs d pre Y :=
  ⟨h.b0.kept hk (fun e => h.b0.cells (hS _ e).1), h.own.kept hk (fun k e e2 => h.own.cells e (hS _ e2).1), h.fr.trans hk fun i hi e => (by have := (hS i e).2; omega), Nat.le_trans h.big hk.size⟩

set_option maxHeartbeats 3200000 in
/-- The outer bytes of each pixel, its green added so many times. -/
theorem cGreen_any (A : Option Addr) (n c : Nat) (bs : List Int) (s : Int) (w : World) (hr : Row w .u8 A n bs) (h8 : B8 bs) (hn : n ≤ 1048576) (hs : -1 ≤ s ∧ s ≤ 1) :
    Calls Try.prog 79 #[.slice A n c, .int .i64 s] w fun e w' => ∃ u, e = .returned u ∧ NewRow w w' 5 .u8 u (trn s bs) := by
  refine (callsIn_wide (n := 6)).1 ?_
  obtain rfl := hr.len
  have HC : Hid (∀ V, Fresh w V → Calls Try.prog 98 #[.slice A bs.length c] V fun e w' => ∃ v, e = .returned v ∧ NewRow V w' 5 .u8 v bs) := Lib.hid fun V hV => bClone_any A bs.length c bs V (hr.kept hV (fun _ _ _ _ => id)) (by omega)
  have hdiv : (bs.length : Int).tdiv 3 = ((bs.length / 3 : Nat) : Int) := by rw [Int.tdiv_eq_ediv_of_nonneg (by omega), Int.natCast_ediv]; rfl
  obtain ⟨R, hRe⟩ : ∃ R, R = bs.length / 3 := ⟨_, rfl⟩
  have hR : R * 3 ≤ bs.length := by omega
  rw [← hRe] at hdiv
  obtain ⟨N, hN⟩ : ∃ N, N = R * 3 := ⟨_, rfl⟩
  have hNi : (R : Int) * 3 = (N : Int) := by omega
  have hNn : N ≤ bs.length := by omega
  have w1 : IntKind.i64.wrap (R : Int) = (R : Int) := IntWalk.i64_in _ (by omega)
  have w2 : IntKind.i64.wrap (N : Int) = (N : Int) := IntWalk.i64_in _ (by omega)
  have hsz1 : ∀ w, (sizeOf 5).run Try.prog w = .ok 1 w := fun w => by kernel_rfl
  have HR := Lib.hid (And.intro h8 (And.intro hRe hN))
  clear hr h8 hR hRe hN
  have ha0 : Blk (w.alloc (.cells #[.int .i64 s] 3)) w.heap.size 3 #[.int .i64 s] := Blk.new _ _ _
  have HA := Lib.hid (And.intro ha0 ((Kept.refl (fun _ => False) w).alloc (.cells #[.int .i64 s] 3)))
  clear ha0
  refine callsIn_of_wp_marks Try.func79 rfl trivial ?_ rfl
  simp only [Try.ntmps79, List.size_toArray, List.length_cons, List.length_nil, Nat.reduceAdd, Nat.reduceSub, Array.replicate_succ, Array.replicate_zero, List.push_toArray, List.append_toArray, List.nil_append, List.cons_append]
  gi_wp2_with (first
    | (refine ⟨trivial, ?_⟩; gi_at_call 98; refine (callsIn_wide.2 (HC.out _ HA.out.2)).mono ?_; rintro e v1 ⟨v, rfl, hv⟩
       have hv1 := hv.1
       have hcap := hv1
       obtain ⟨B, cB, rfl, _, _⟩ := hv1.row
       have hcap := hcap.cap
       have hs1 : ∀ V, (Instr.slice 22 (.slice B bs.length cB) none (some (.int .i64 (N : Int))) none).run Try.prog V = .ok (.slice B N cB) V := fun V => run_slice_upto 22 5 Try.underlying22 hsz1 B bs.length cB N (N : Int) rfl (by omega) V)
    | (refine ⟨trivial, ?_⟩; gi_at_call 49; refine (callsIn_wide.2 (chunkB_any _ N _ 3 _ (by omega))).mono ?_; rintro e w' ⟨rfl, rfl⟩))
  obtain ⟨W0, hW0⟩ : ∃ W0, W0 = (v1.alloc (.cells #[.slice B N cB] 22)).alloc (.cells #[.int .i64 3] 3) := ⟨_, rfl⟩
  have hz0 : W0.heap.size = v1.heap.size + 2 := by rw [hW0]; simp
  have hf0 : Fresh v1 W0 := by rw [hW0]; exact ((Kept.refl _ _).alloc _).alloc _
  have hc1 : Blk W0 v1.heap.size 22 #[.slice B N cB] := by rw [hW0]; exact (Blk.new _ _ _).alloc _
  have hc2 : Blk W0 (v1.heap.size + 1) 3 #[.int .i64 ((3 : Nat) : Int)] := by
    rw [hW0]
    have := Blk.new (v1.alloc (.cells #[.slice B N cB] 22)) 3 #[.int .i64 3]
    rwa [World.size_alloc] at this
  have hlt0 : w.heap.size + 1 ≤ v1.heap.size := by
    have := hv.2.2.size
    rwa [World.size_alloc] at this
  have hst : GrH w B bs.length cB s bs W0.heap.size [] W0 :=
    ⟨(HA.out.1.kept hv.2.2 id).kept hf0 id, hv.1.kept hf0 (fun _ _ => id), (HA.out.2.trans hv.2.2 fun _ _ e => e).trans hf0 fun _ _ e => e, Nat.le_refl _⟩
  have hvb : ∀ g, (Value.slice B bs.length cB).ownBlock = some g → w.heap.size ≤ g ∧ g < v1.heap.size := fun g e => by
    have := hv.2.1 g e
    rw [World.size_alloc] at this
    exact ⟨by omega, hv.1.lt e⟩
  have hB : 0 < N → ∃ b o, B = some ⟨b, o, none⟩ := fun h0 => by
    obtain ⟨g, cap, e, _⟩ := hv.1.form (by omega)
    injection e with e1 e2 e3
    exact ⟨g, 0, e1⟩
  rw [← hW0]
  have H0 := Lib.hid (And.intro hst (And.intro hc1 (And.intro hc2 (And.intro hB (And.intro hvb hlt0)))))
  clear hst hc1 hc2 hB hf0 hv hv1 hs1 hW0 hlt0 hvb
  refine wpIn_rangeFunc_ownG rfl (by omega) (gf := 74) (lb := #[.pointer (some ⟨v1.heap.size, 0, none⟩), .pointer (some ⟨v1.heap.size + 1, 0, none⟩)]) rfl trivial (enters_of Try.func74 (by kernel_rfl) rfl)
    (chunkB_stops 5 (by omega) v1.heap.size B N cB 3 R H0.out.2.2.2.1 (by omega) HR.out.2.2.symm (by omega) (by omega) W0 H0.out.2.1 H0.out.2.2.1) boxes_t (boxes_b (by omega)) (Below.refl _ _) (fun _ => rfl)
    (fun pre W => GrH w B bs.length cB s bs W0.heap.size (pre.map Fin.val) W)
    (fun _ _ _ => False)
    (fun s X Y row hs hg hr => hs.nc (kept_of_grown hg) fun k e => ⟨(hr k e).2, by have := (hr k e).1; have := H0.out.2.2.2.2.2; omega⟩)
    (fun _ _ _ _ _ hs _ _ => hs)
    H0.out.1
    (fun x => { tmps := #[.slice A bs.length c, .int .i64 s, undef, .pointer (some ⟨w.heap.size, 0, none⟩), .slice none 0 0, .slice B bs.length cB, .int .i64 N, rowOf B 3 x.val, undef, .slice A bs.length c, .slice B bs.length cB, .slice A bs.length c, .int .i64 bs.length, .int .i64 R, .int .i64 N, .slice B bs.length cB, .int .i64 N, .slice B N cB, .func (.func 74) #[] #[.pointer (some ⟨v1.heap.size, 0, none⟩), .pointer (some ⟨v1.heap.size + 1, 0, none⟩)], rowOf B 3 x.val, undef, undef, undef, undef, undef, undef, undef, undef, undef, undef, undef, undef, undef, undef, undef, undef, undef, undef, undef, undef, undef, undef, undef, undef, undef], defers := [] }) ?assign ?body ?done ?stop
  case assign =>
    intro l x W K hK
    gi_wp2
    exact hK
  case body =>
    rintro L pre x W h hlen
    have hx3 : x.val * 3 + 3 ≤ bs.length := by
      have := x.isLt
      have := HR.out.2.1
      omega
    have hsn : Hid (tpxs s bs ((pre ++ [x]).map Fin.val) = tpx s (tpxs s bs (pre.map Fin.val)) x.val) := Lib.hid (by rw [List.map_append, List.map_singleton, tpxs_snoc])
    have hl8 := tpxs_byte s (pre.map Fin.val) bs HR.out.1
    have hll := tpxs_length s (pre.map Fin.val) bs
    have hown := h.own
    generalize tpxs s bs (pre.map Fin.val) = l at *
    obtain ⟨g, cap, eB, hgl⟩ := hown.form (by omega)
    injection eB with eB e2 e3
    subst eB
    clear e2 e3
    obtain ⟨q, hq⟩ : ∃ q, q = x.val * 3 := ⟨_, rfl⟩
    unfold rowOf
    unfold tpx at hsn
    simp only [Option.map_some, Nat.zero_add]
    rw [← hq] at hsn hx3 ⊢
    clear hq
    have k0 := hown.cellN hll (j := q) (by omega)
    have k1 := hown.cellN hll (j := q + 1) (by omega)
    have k2 := hown.cellN hll (j := q + 2) (by omega)
    have f0 := hown.frozenN hll q
    have f2 := hown.frozenN hll (q + 2)
    have b0 := (h.b0.cell 0).trans (show _ = some (Value.int .i64 s) from rfl)
    obtain ⟨r1, r2⟩ := hl8.at_ q
    obtain ⟨g1, g2⟩ := hl8.at_ (q + 1)
    obtain ⟨u1, u2⟩ := hl8.at_ (q + 2)
    obtain ⟨hgW, hgv⟩ := H0.out.2.2.2.2.1 g rfl
    have HH := Lib.hid (And.intro h (And.intro hown hll))
    clear h hown hll hl8
    generalize l.getD q 0 = a at *
    generalize l.getD (q + 1) 0 = y at *
    generalize l.getD (q + 2) 0 = z at *
    have hp : -255 ≤ s * y ∧ s * y ≤ 255 := by
      obtain ⟨s1, s2⟩ := hs
      have e : s = -1 ∨ s = 0 ∨ s = 1 := by omega
      rcases e with rfl | rfl | rfl <;> omega
    obtain ⟨G, hG⟩ : ∃ G, G = s * y := ⟨_, rfl⟩
    rw [← hG] at hsn hp
    replace hG := hG.symm
    have p0 : IntKind.i64.wrap y = y := IntWalk.i64_in _ (by omega)
    have p1 : IntKind.i64.wrap G = G := IntWalk.i64_in _ (by omega)
    have p2 : IntKind.i64.wrap (a + G) = a + G := IntWalk.i64_in _ (by omega)
    have p3 : IntKind.i64.wrap (z + G) = z + G := IntWalk.i64_in _ (by omega)
    gi_wp2
    refine wpIn_region_tail 6 (by kernel_rfl) (by kernel_rfl) (NoDefer.of (by kernel_rfl)) ?_
    simp only [List.take_succ_cons, List.take_zero, List.drop_succ_cons, List.drop_zero]
    iterate 6 still_step
    refine wpStill_nil ?_
    go_wp2_with fail
    refine Calm.of ?_
    gi_wp2_with fail
    have hk : Kept (fun k => k = g) W ((W.setCell ⟨g, q, none⟩ (.int .u8 ((a + G) % 256))).setCell ⟨g, q + 2, none⟩ (.int .u8 ((z + G) % 256))).drew :=
      (((Kept.refl (fun k => k = g) W).setCell (p := ⟨g, q, none⟩) (fun _ => rfl) _).setCell (p := ⟨g, q + 2, none⟩) (fun _ => rfl) _).drew
    have ho := ((HH.out.2.1.storeN HH.out.2.2 q ((a + G) % 256)).storeN (by rw [List.length_set]; exact HH.out.2.2) (q + 2) ((z + G) % 256)).drew
    rw [← hsn.out] at ho
    have hbig := HH.out.1.big
    have hlt := H0.out.2.2.2.2.2
    have hgl2 := HH.out.2.1.cells (g := g) rfl
    refine ⟨KeepsFrom.of _ hk fun k e => (by subst e; exact hgl2), ⟨hk.block _ (by omega) (by omega), hk.block _ (by omega) (by omega)⟩, ?_⟩
    exact ⟨HH.out.1.b0.kept hk (fun e => by subst e; exact HH.out.2.1.ne_blk HH.out.1.b0 (by decide) rfl), ho, HH.out.1.fr.trans hk fun i hi e => by omega, Nat.le_trans hbig hk.size⟩
  case done =>
    rintro D ys W hD hys h hK
    have hown := h.own
    rw [hys, tpxs_range s bs R (by have := HR.out.2.1; omega), HR.out.2.1, trnTo_all] at hown
    have hfr := h.fr
    clear h
    gi_wp2
    refine ⟨by simp, .inl ⟨_, _, rfl, run_takeDeferred hK, ?_⟩⟩
    have hg := kept_of_grown (grownBy_putObj' W D (.deferred none))
    exact ⟨.slice B bs.length cB, results_tmp (t := 4) rfl _ _ _, _, rfl, hown.kept hg (fun g e e2 => by cases e2; exact hown.cells e ⟨_, hK, rfl⟩), fun g e => (H0.out.2.2.2.2.1 g e).1, hfr.trans hg fun i hi e => by cases e; have := H0.out.2.2.2.2.2; omega⟩
  case stop =>
    rintro D c pre W _ _ h _
    exact h.elim

set_option maxHeartbeats 800000 in
theorem cTurnC_any (A : Option Addr) (n c : Nat) (bs : List Int) (w : World) (hr : Row w .u8 A n bs) (h8 : B8 bs) (hn : n ≤ 1048576) :
    Calls Try.prog 51 #[.slice A n c] w fun e w' => ∃ u, e = .returned u ∧ NewRow w w' 5 .u8 u (trn (-1) bs) := by
  have HC := Lib.hid (cGreen_any A n c bs (-1) w hr h8 hn (by omega))
  clear hr h8
  go_enter Try.func51, Try.ntmps51
  go_wp2_with fail
  refine HC.out.mono ?_
  rintro e w1 ⟨u, rfl, hu⟩
  have H1 := Lib.hid hu
  clear hu HC
  go_wp2_with fail
  go_ret
  exact ⟨_, rfl, H1.out⟩

set_option maxHeartbeats 800000 in
theorem cBackC_any (A : Option Addr) (n c : Nat) (bs : List Int) (w : World) (hr : Row w .u8 A n bs) (h8 : B8 bs) (hn : n ≤ 1048576) :
    Calls Try.prog 91 #[.slice A n c] w fun e w' => ∃ u, e = .returned u ∧ NewRow w w' 5 .u8 u (trn 1 bs) := by
  have HC := Lib.hid (cGreen_any A n c bs 1 w hr h8 hn (by omega))
  clear hr h8
  go_enter Try.func91, Try.ntmps91
  go_wp2_with fail
  refine HC.out.mono ?_
  rintro e w1 ⟨u, rfl, hu⟩
  have H1 := Lib.hid hu
  clear hu HC
  go_wp2_with fail
  go_ret
  exact ⟨_, rfl, H1.out⟩

theorem colourOK : ColourOK :=
  ⟨fun A n c bs w hr h8 hn _ => cTurnC_any A n c bs w hr h8 hn, fun A n c bs w hr h8 hn _ => cBackC_any A n c bs w hr h8 hn,
    fun A n c bs k w hr _ hn hc => cApart_any A n c bs k w hr hn hc, fun A n c bs k w hr _ hn hc => cTogether_any A n c bs k w hr hn hc⟩

end Go.Proofs.Ythfifpapkknodaa

/- Image's small calls: the packer of a picture, where its rows end, its planes. -/
namespace Go.Proofs.Ythfifpapkknodaa
open Go.RowKit
set_option maxRecDepth 100000

attribute [local go_sem ↓] Go.wp_at_zero Go.wp_at_succ

/-- A packer's cells. -/
def pkc (a b p s f q : Nat) : Array Value := #[.int .i64 (a : Int), .int .i64 (b : Int), .int .i64 (p : Int), .int .i64 (s : Int), .int .i64 (f : Int), .int .i64 (q : Int), .int .i64 (p : Int), .int .i64 (p : Int)]

set_option maxHeartbeats 1600000 in
theorem cPackerOf_any (a b p s f q : Nat) (w : World) (hq : a * p = q) (h : q ≤ 1048576) :
    Calls Try.prog 15 #[.agg #[.int .i64 (a : Int), .int .i64 (b : Int), .int .i64 (p : Int), .int .i64 (s : Int), .int .i64 (f : Int)]] w fun e w' => e = .returned (.agg (pkc a b p s f q)) ∧ Fresh w w' := by
  have em : (a : Int) * (p : Int) = (q : Int) := by rw [← hq]; simp
  have ew : IntKind.i64.wrap (q : Int) = (q : Int) := IntWalk.i64_in _ (by omega)
  clear hq
  unfold pkc
  go_enter Try.func15, Try.ntmps15
  go_wp2_with fail
  exact bodyPost_ret (v := .agg #[.int .i64 (a : Int), .int .i64 (b : Int), .int .i64 (p : Int), .int .i64 (s : Int), .int .i64 (f : Int), .int .i64 (q : Int), .int .i64 (p : Int), .int .i64 (p : Int)]) (by simp [results, Try.results15, go_sem]) rfl ⟨rfl, ((Kept.refl _ _).alloc _).alloc _⟩

set_option maxHeartbeats 1600000 in
theorem cEnd_any (a b p s f q m t : Nat) (w : World) (hm : s * b = m) (ht : f + m = t) (h : t ≤ 1048576) :
    Calls Try.prog 17 #[.agg (pkc a b p s f q)] w fun e w' => e = .returned (.int .i64 (t : Int)) ∧ Fresh w w' := by
  have em : (s : Int) * (b : Int) = (m : Int) := by rw [← hm]; simp
  have et : (f : Int) + (m : Int) = (t : Int) := by omega
  have e1 : IntKind.i64.wrap (m : Int) = (m : Int) := IntWalk.i64_in _ (by omega)
  have e2 : IntKind.i64.wrap (t : Int) = (t : Int) := IntWalk.i64_in _ (by omega)
  clear hm ht
  unfold pkc
  go_enter Try.func17, Try.ntmps17
  go_wp2_with fail
  go_ret
  exact ⟨rfl, (Kept.refl _ _).alloc _⟩

set_option maxHeartbeats 1600000 in
theorem cTurnI_any (p : Nat) (A : Option Addr) (n c : Nat) (bs : List Int) (w : World) (hp : p = 1 ∨ p = 3) (hr : Row w .u8 A n bs) (h8 : B8 bs) (hn : n ≤ 1048576) (hc : n ≤ c) :
    Calls Try.prog 32 #[.int .i64 (p : Int), .slice A n c] w fun e w' => ∃ B d, e = .returned (.slice B n d) ∧ Row w' .u8 B n (trP p bs) ∧ n ≤ d ∧ Fresh w w' := by
  rcases hp with rfl | rfl
  · have HR := Lib.hid hr
    clear hr h8
    go_enter Try.func32, Try.ntmps32
    go_wp2_with fail
    go_ret
    exact ⟨_, _, rfl, HR.out, hc, Kept.refl _ _⟩
  · have HC := Lib.hid (cTurnC_any A n c bs w hr h8 hn)
    obtain rfl := hr.len
    clear hr h8
    go_enter Try.func32, Try.ntmps32
    go_wp2_with fail
    refine HC.out.mono ?_
    rintro e w1 ⟨u, rfl, hu⟩
    have hcap := hu.1
    obtain ⟨B, d, rfl, hru, _⟩ := hu.1.row
    have hc2 := hcap.cap
    rw [trn_length] at hru hc2
    rw [trn_length]
    have H1 := Lib.hid (And.intro hru (And.intro hc2 hu.2.2))
    clear hu hru hc2 hcap HC
    go_wp2_with fail
    go_ret
    exact ⟨_, _, rfl, H1.out.1, H1.out.2.1, H1.out.2.2⟩

set_option maxHeartbeats 1600000 in
theorem cBackI_any (p : Nat) (A : Option Addr) (n c : Nat) (bs : List Int) (w : World) (hp : p = 1 ∨ p = 3) (hr : Row w .u8 A n bs) (h8 : B8 bs) (hn : n ≤ 1048576) (hc : n ≤ c) :
    Calls Try.prog 64 #[.int .i64 (p : Int), .slice A n c] w fun e w' => ∃ B d, e = .returned (.slice B n d) ∧ Row w' .u8 B n (bcP p bs) ∧ n ≤ d ∧ Fresh w w' := by
  rcases hp with rfl | rfl
  · have HR := Lib.hid hr
    clear hr h8
    go_enter Try.func64, Try.ntmps64
    go_wp2_with fail
    go_ret
    exact ⟨_, _, rfl, HR.out, hc, Kept.refl _ _⟩
  · have HC := Lib.hid (cBackC_any A n c bs w hr h8 hn)
    obtain rfl := hr.len
    clear hr h8
    go_enter Try.func64, Try.ntmps64
    go_wp2_with fail
    refine HC.out.mono ?_
    rintro e w1 ⟨u, rfl, hu⟩
    have hcap := hu.1
    obtain ⟨B, d, rfl, hru, _⟩ := hu.1.row
    have hc2 := hcap.cap
    rw [trn_length] at hru hc2
    rw [trn_length]
    have H1 := Lib.hid (And.intro hru (And.intro hc2 hu.2.2))
    clear hu hru hc2 hcap HC
    go_wp2_with fail
    go_ret
    exact ⟨_, _, rfl, H1.out.1, H1.out.2.1, H1.out.2.2⟩

set_option maxHeartbeats 1600000 in
theorem cApartI_any (p : Nat) (A : Option Addr) (n c : Nat) (bs : List Int) (w : World) (hr : Row w .u8 A n bs) (hn : n ≤ 1048576) (hc : n ≤ c) :
    Calls Try.prog 34 #[.int .i64 (p : Int), .slice A n c] w fun e w' => ∃ u, e = .returned u ∧ NewRow w w' 5 .u8 u (aprt bs (colC (p : Nat))) := by
  have HC := Lib.hid (cApart_any A n c bs (p : Int) w hr hn hc)
  clear hr
  go_enter Try.func34, Try.ntmps34
  go_wp2_with fail
  refine HC.out.mono ?_
  rintro e w1 ⟨u, rfl, hu⟩
  have H1 := Lib.hid hu
  clear hu HC
  go_wp2_with fail
  go_ret
  exact ⟨_, rfl, H1.out⟩

set_option maxHeartbeats 1600000 in
theorem cTogI_any (p : Nat) (A : Option Addr) (n c : Nat) (bs : List Int) (w : World) (hr : Row w .u8 A n bs) (hn : n ≤ 1048576) (hc : n ≤ c) :
    Calls Try.prog 62 #[.int .i64 (p : Int), .slice A n c] w fun e w' => ∃ u, e = .returned u ∧ NewRow w w' 5 .u8 u (tgth bs (colC (p : Nat))) := by
  have HC := Lib.hid (cTogether_any A n c bs (p : Int) w hr hn hc)
  clear hr
  go_enter Try.func62, Try.ntmps62
  go_wp2_with fail
  refine HC.out.mono ?_
  rintro e w1 ⟨u, rfl, hu⟩
  have H1 := Lib.hid hu
  clear hu HC
  go_wp2_with fail
  go_ret
  exact ⟨_, rfl, H1.out⟩

end Go.Proofs.Ythfifpapkknodaa

/- The code's Undo of filters. -/
namespace Go.Proofs.Ythfifpapkknodaa
open Go.RowKit Go.Shelf
set_option maxRecDepth 100000

attribute [local go_sem] Oper.semAt_some

/-- The first part of a slice. -/
theorem run_slice_low {P : Program} (t e : TypeId) (ht : P.underlying t = some (.slice e)) (hc : ∀ w, (sizeOf e).run P w = .ok 1 w) (A : Option Addr) (n c h : Nat) (hh : h ≤ c) (W : World) :
    (Instr.slice t (.slice A n c) none (some (.int .i64 (h : Int))) none).run P W = .ok (.slice A h c) W := by
  have he : P.elem t = e := by simp [Program.elem, ht]
  rw [run_slice_h W t A n c (by rw [he]; exact ht) .i64 (h : Int) (by omega) (by omega), he, hc]
  cases A <;> simp [Result.andThen, sliced, Addr.add]

/-- A row more. -/
def udStep (xs : List Int) (v q : Nat) (s : List Int × List Int) (x : Nat) : List Int × List Int :=
  (s.1 ++ unF (xs.getD (x * (v + 1)) 0) (rwF xs v x) s.2 q, unF (xs.getD (x * (v + 1)) 0) (rwF xs v x) s.2 q)
def udS (xs : List Int) (v q : Nat) (pre : List Nat) : List Int × List Int := pre.foldl (udStep xs v q) ([], [])
theorem udS_snoc (xs : List Int) (v q : Nat) (pre : List Nat) (x : Nat) : udS xs v q (pre ++ [x]) = udStep xs v q (udS xs v q pre) x := by simp [udS]
theorem udS_range (xs : List Int) (v q : Nat) : ∀ r, udS xs v q (List.range r) = (udN xs v q r, upN xs v q r)
  | 0 => rfl
  | r + 1 => by rw [List.range_succ, udS_snoc, udS_range xs v q r]; rfl
theorem udS_fold (xs : List Int) (v q : Nat) (R : Nat) (hR : R * (v + 1) ≤ xs.length) : ∀ (pre : List (Fin R)) (s : List Int × List Int), ((pre.map Fin.val).foldl (udStep xs v q) s).1.length = s.1.length + pre.length * v
  | [], s => by simp
  | x :: r, s => by
    have hx := Nat.mul_le_mul_right (v + 1) (show x.val + 1 ≤ R from x.isLt)
    have hp : (rwF xs v x.val).length = v := rwF_length (by omega)
    rw [List.map_cons, List.foldl_cons, udS_fold xs v q R hR r, List.length_cons, Nat.succ_mul]
    simp only [udStep, List.length_append, unF_length, hp]
    omega
theorem udS_length {xs : List Int} {v q R : Nat} (hR : R * (v + 1) ≤ xs.length) (pre : List (Fin R)) : (udS xs v q (pre.map Fin.val)).1.length = pre.length * v := by
  unfold udS
  rw [udS_fold xs v q R hR]
  simp
theorem udS_byte (xs : List Int) (v q : Nat) (pre : List Nat) : B8 (udS xs v q pre).2 := by
  rcases List.eq_nil_or_concat pre with rfl | ⟨l, x, rfl⟩
  · intro x hx
    cases hx
  · rw [List.concat_eq_append, udS_snoc]
    exact unN_byte _ _ _ _ _
theorem spl_take {z c : List Int} (ys : List Int) {o : Nat} (ho : o = c.length) : (spl (spl z 0 c) o ys).take o = c := by
  rw [spl_spl ys ho]
  subst ho
  simp [spl, List.append_assoc]

/-- What is behind a row's kind. -/
theorem Row.rowFrom {w : World} {b o n v x : Nat} {l : List Int} (h : Row w .u8 (some ⟨b, o, none⟩) n l) (hx : (x + 1) * (v + 1) ≤ n) : Row w .u8 (some ⟨b, o + x * (v + 1) + 1, none⟩) v (rwF l v x) := by
  have hl := h.len
  refine ⟨rwF_length (by omega), fun j hj => ?_⟩
  rw [Nat.succ_mul] at hx
  obtain ⟨b', o', e, hb, hc⟩ := h.at_ (x * (v + 1) + 1 + j) (by omega)
  injection e with e
  injection e with e1 e2
  subst e1 e2
  refine ⟨b, _, rfl, hb, ?_⟩
  rw [show o + x * (v + 1) + 1 + j = o + (x * (v + 1) + 1 + j) by omega, hc]
  unfold rwF
  simp only [List.getD]
  rw [List.getElem?_take_of_lt hj, List.getElem?_drop]

/-- Between two rounds. -/
structure UdH (w : World) (g rb ub N v R : Nat) (p : Int) (q : Nat) (xs : List Int) (d : Nat) (pre : List Nat) (W : World) : Prop where
  kinds : ∀ x ∈ pre, xs.getD (x * (v + 1)) 0 ≤ 4
  b0 : Blk W w.heap.size 3 #[.int .i64 v]
  b1 : Blk W (w.heap.size + 1) 3 #[.int .i64 p]
  r0 : Blk W (w.heap.size + 2) 22 #[.slice none 0 0]
  r1 : Blk W (w.heap.size + 2 + 1) 32 #[.int .i64 0]
  own : Own W 5 .u8 (.slice (some ⟨g, 0, none⟩) N N) (spl (List.replicate N 0) 0 (udS xs v q pre).1)
  rest : ∃ A, Blk W rb 22 #[.slice A (N - pre.length * v) (N - pre.length * v)] ∧ (pre.length < R → A = some ⟨g, pre.length * v, none⟩)
  up : ∃ B m c, Blk W ub 22 #[.slice B m c] ∧ m ≤ 1048576 ∧ ∀ V zs, Own V 5 .u8 (.slice (some ⟨g, 0, none⟩) N N) zs → zs.length = N → zs.take (pre.length * v) = (udS xs v q pre).1 → Row V .u8 B m (udS xs v q pre).2
  fr : Fresh w W
  big : d ≤ W.heap.size
theorem UdH.nc {w : World} {g rb ub N v R : Nat} {p : Int} {q : Nat} {xs : List Int} {d : Nat} {pre : List Nat} {S : Nat → Prop} {X Y : World} (h : UdH w g rb ub N v R p q xs d pre X) (hk : Kept S X Y) (hS : ∀ k, S k → NoCells X k ∧ w.heap.size ≤ k) : UdH w g rb ub N v R p q xs d pre Y := by
  obtain ⟨A, hA, hA2⟩ := h.rest
  obtain ⟨B, m, c, hB, hB2, hB3⟩ := h.up
  exact ⟨h.kinds, h.b0.kept hk (fun e => h.b0.cells (hS _ e).1), h.b1.kept hk (fun e => h.b1.cells (hS _ e).1), h.r0.kept hk (fun e => h.r0.cells (hS _ e).1), h.r1.kept hk (fun e => h.r1.cells (hS _ e).1), h.own.kept hk (fun k e e2 => h.own.cells e (hS _ e2).1), ⟨A, hA.kept hk (fun e => hA.cells (hS _ e).1), hA2⟩,
    ⟨B, m, c, hB.kept hk (fun e => hB.cells (hS _ e).1), hB2, hB3⟩, h.fr.trans hk fun i hi e => (by have := (hS i e).2; omega), Nat.le_trans h.big hk.size⟩
/-- Behind a round that has left. -/
structure UdL (w : World) (W : World) : Prop where
  r0 : Blk W (w.heap.size + 2) 22 #[.slice none 0 0]
  r1 : Blk W (w.heap.size + 2 + 1) 32 #[.int .i64 4]
  fr : Fresh w W
theorem UdL.nc {w : World} {S : Nat → Prop} {X Y : World} (h : UdL w X) (hk : Kept S X Y) (hS : ∀ k, S k → NoCells X k ∧ w.heap.size ≤ k) : UdL w Y :=
  ⟨h.r0.kept hk (fun e => h.r0.cells (hS _ e).1), h.r1.kept hk (fun e => h.r1.cells (hS _ e).1), h.fr.trans hk fun i hi e => by have := (hS i e).2; omega⟩
/-- What Undo of what may be tells. -/
def UdOC (w w' : World) (e : Ending) (xs : List Int) (v q : Nat) : Prop :=
  (kndF xs v ∧ ∃ u, e = .returned (.tuple #[u, .int .i64 0]) ∧ NewRow w w' 5 .u8 u (udF xs v q)) ∨ (¬ kndF xs v ∧ e = .returned (.tuple #[.slice none 0 0, .int .i64 4]) ∧ Fresh w w')

set_option maxHeartbeats 3200000 in
/-- Undo of what may be: P17.3. -/
theorem cUndoIn_any (A : Option Addr) (n c : Nat) (xs : List Int) (v : Nat) (p : Int) (w : World) (hr : Row w .u8 A n xs) (h8 : B8 xs) (hnc : n ≤ c) (hv : 1 ≤ v ∧ v ≤ 1048576) (hp : 1 ≤ p ∧ p ≤ 4) (hm : n % (v + 1) = 0) (hn : n - n / (v + 1) ≤ 1048576) :
    Calls Try.prog 89 #[.slice A n c, .int .i64 v, .int .i64 p] w fun e w' => UdOC w w' e xs v (plN p) := by
  refine (callsIn_wide (n := 6)).1 ?_
  obtain ⟨i0, hi, hz0, hz1, hz2⟩ := info_parts Try.infoCol
  obtain rfl := hr.len
  obtain ⟨D, hD⟩ : ∃ D, D = v + 1 := ⟨_, rfl⟩
  have hR : xs.length / (v + 1) * (v + 1) = xs.length := by
    have := Nat.div_add_mod xs.length (v + 1)
    rw [Nat.mul_comm] at this
    omega
  have hudF : Hid (udF xs v (plN p) = udN xs v (plN p) (xs.length / (v + 1))) := Lib.hid rfl
  have hknd : Hid (kndF xs v ↔ ∀ r, r < xs.length / (v + 1) → xs.getD (r * (v + 1)) 0 ≤ 4) := Lib.hid Iff.rfl
  have hdiv : (xs.length : Int).tdiv (D : Int) = ((xs.length / (v + 1) : Nat) : Int) := by rw [hD, Int.tdiv_eq_ediv_of_nonneg (by omega), ← Int.natCast_ediv]
  have hRn : xs.length / (v + 1) ≤ xs.length := Nat.div_le_self _ _
  have hRs := okU_fit (v := v) (n := xs.length) (p := p) hv hp
  obtain ⟨R, hRe⟩ : ∃ R, R = xs.length / (v + 1) := ⟨_, rfl⟩
  rw [← hRe] at hR hudF hknd hdiv hRn hn
  obtain ⟨N, hN⟩ : ∃ N, N = R * v := ⟨_, rfl⟩
  have hN1 : N + R = xs.length := by rw [hN, ← hR, Nat.mul_add, Nat.mul_one]
  have hRN : R ≤ N := by rw [hN]; exact Nat.le_mul_of_pos_right _ hv.1
  have hNi : (R : Int) * (v : Int) = (N : Int) := by rw [hN, Int.natCast_mul]
  have hDi : (v : Int) + 1 = (D : Int) := by omega
  have hN3 : N ≤ 1048576 := by omega
  have hdF : decide (xs.length % (v + 1) = 0 ∧ xs.length / (v + 1) * v ≤ 1048576) = true := decide_eq_true ⟨hm, by rw [← hRe, ← hN]; exact hN3⟩
  have HFt : Hid (∀ V, Calls Try.prog 75 #[.int .i64 xs.length, .int .i64 v, .int .i64 1, .int .i64 p] V fun e w' => e = .returned (.bool true) ∧ V = w') := Lib.hid fun V => by
    have := cFitF_in xs.length v (v + 1) 1 p V hv hp (by omega) (by omega) (by omega) (by omega)
    rwa [hdF] at this
  have HR := Lib.hid (And.intro hr (And.intro h8 hR))
  have HN := Lib.hid (And.intro hN (And.intro hN1 hD))
  have hD1 : 1 ≤ D := by omega
  have hD2 : D ≤ 1048577 := by omega
  have hlen2 : xs.length ≤ 2097152 := by omega
  clear hr h8 hR hm hRe hN hdF hRs hn hD hN1
  have ha : Kept (fun _ => False) w ((((w.alloc (.cells #[.int .i64 v] 3)).alloc (.cells #[.int .i64 p] 3)).alloc (.cells #[.slice none 0 0] 22)).alloc (.cells #[.int .i64 0] 32)) := ((((Kept.refl _ _).alloc _).alloc _).alloc _).alloc _
  refine callsIn_of_wp_marks Try.func89 rfl trivial ?_ rfl
  simp only [Try.ntmps89, List.size_toArray, List.length_cons, List.length_nil, Nat.reduceAdd, Nat.reduceSub, Array.replicate_succ, Array.replicate_zero, List.push_toArray, List.append_toArray, List.nil_append, List.cons_append]
  gi_wp2_with (first
    | (refine ⟨trivial, ?_⟩; gi_at_call 75; refine (callsIn_wide.2 (HFt.out _)).mono ?_; rintro e w1 ⟨rfl, rfl⟩))
  obtain ⟨Wa, hWa⟩ : ∃ Wa, Wa = (((w.alloc (.cells #[.int .i64 v] 3)).alloc (.cells #[.int .i64 p] 3)).alloc (.cells #[.slice none 0 0] 22)).alloc (.cells #[.int .i64 0] 32) := ⟨_, rfl⟩
  have hza : Wa.heap.size = w.heap.size + 4 := by rw [hWa]; simp
  have hb0 : Blk Wa w.heap.size 3 #[.int .i64 v] := by rw [hWa]; exact (((Blk.new _ _ _).alloc _).alloc _).alloc _
  have hb1 : Blk Wa (w.heap.size + 1) 3 #[.int .i64 p] := by
    rw [hWa]
    have := Blk.new (w.alloc (.cells #[.int .i64 v] 3)) 3 #[.int .i64 p]
    rw [World.size_alloc] at this
    exact (this.alloc _).alloc _
  have hb2 : Blk Wa (w.heap.size + 2) 22 #[.slice none 0 0] := by
    rw [hWa]
    have := Blk.new ((w.alloc (.cells #[.int .i64 v] 3)).alloc (.cells #[.int .i64 p] 3)) 22 #[.slice none 0 0]
    rw [World.size_alloc, World.size_alloc] at this
    exact this.alloc _
  have hb3 : Blk Wa (w.heap.size + 2 + 1) 32 #[.int .i64 0] := by
    rw [hWa]
    have := Blk.new (((w.alloc (.cells #[.int .i64 v] 3)).alloc (.cells #[.int .i64 p] 3)).alloc (.cells #[.slice none 0 0] 22)) 32 #[.int .i64 0]
    rw [World.size_alloc, World.size_alloc, World.size_alloc] at this
    exact this
  rw [← hWa] at ha
  rw [← hWa]
  refine wpIn_wide.2 ?_
  refine wp_region_still_tail 7 (by kernel_rfl) (by kernel_rfl) ?_
  change wpStill _ _ Wa.drew (fun a' => wpList _ _ _ _ a' Wa.drew) _ _
  have hzd : Wa.drew.heap.size = w.heap.size + 4 := hza
  have ha := ha.drew
  have hb0 := hb0.drew
  have hb1 := hb1.drew
  have hb2 := hb2.drew
  have hb3 := hb3.drew
  clear hWa hza
  generalize Wa.drew = Wd at *
  have c0 : Wd.cell? ⟨w.heap.size, 0, none⟩ = some (.int .i64 v) := (hb0.cell 0).trans rfl
  rw [← hDi] at hdiv
  have HDi := Lib.hid hDi
  have HCh : Hid (∀ V, Calls Try.prog 49 #[.slice A xs.length c, .int .i64 ((v : Int) + 1)] V fun e w' => e = .returned (.func (.func 74) #[] #[.pointer (some ⟨V.heap.size, 0, none⟩), .pointer (some ⟨V.heap.size + 1, 0, none⟩)]) ∧
      w' = (V.alloc (.cells #[.slice A xs.length c] 22)).alloc (.cells #[.int .i64 D] 3)) := Lib.hid fun V => by
    rw [hDi]
    exact chunkB_any A xs.length c D V hD1
  have hwv : IntKind.i64.wrap ((v : Int) + 1) = (v : Int) + 1 := IntWalk.i64_in _ (by omega)
  have hD0 : (v : Int) + 1 ≠ 0 := by omega
  clear hDi
  have hwR : IntKind.i64.wrap (R : Int) = (R : Int) := IntWalk.i64_in _ (by omega)
  have hwN : IntKind.i64.wrap (N : Int) = (N : Int) := IntWalk.i64_in _ (by omega)
  simp only [List.take_succ_cons, List.take_zero, List.drop_succ_cons, List.drop_zero]
  iterate 7 still_step
  refine wpStill_nil ?_
  go_wp2_with (at_make; refine wpList_make_zeros _ rfl _ _ 22 rfl 5 i0 .u8 1 Try.underlying22 hi hz0 hz1 hz2 _ _ _ _ N rfl rfl rfl rfl (by omega) (by unfold maxLen; omega) ?_)
  intro w2 ho2 hf2
  have hq0 := hb0.kept hf2 id
  have c2 : ((w2.alloc (.cells #[.slice (some ⟨w.heap.size + 4, 0, none⟩) N N] 22)).alloc (.cells #[.slice none 0 0] 22)).cell? ⟨w.heap.size, 0, none⟩ = some (.int .i64 v) := (((hq0.alloc _).alloc _).cell 0).trans rfl
  have hlt0 := hq0.lt
  go_wp2_with fail
  gi_wp2_with (refine ⟨trivial, ?_⟩; gi_at_call 49; refine (callsIn_wide.2 (HCh.out _)).mono ?_; rintro e w' ⟨rfl, rfl⟩)
  obtain ⟨W0, hW0⟩ : ∃ W0, W0 = (((w2.alloc (.cells #[.slice (some ⟨w.heap.size + 4, 0, none⟩) N N] 22)).alloc (.cells #[.slice none 0 0] 22)).alloc (.cells #[.slice A xs.length c] 22)).alloc (.cells #[.int .i64 D] 3) := ⟨_, rfl⟩
  have hz0 : W0.heap.size = w2.heap.size + 4 := by rw [hW0]; simp
  have hf0 : Fresh w2 W0 := by rw [hW0]; exact ((((Kept.refl _ _).alloc _).alloc _).alloc _).alloc _
  have hrb : Blk W0 w2.heap.size 22 #[.slice (some ⟨w.heap.size + 4, 0, none⟩) N N] := by rw [hW0]; exact (((Blk.new _ _ _).alloc _).alloc _).alloc _
  have hub : Blk W0 (w2.heap.size + 1) 22 #[.slice none 0 0] := by
    rw [hW0]
    have := Blk.new (w2.alloc (.cells #[.slice (some ⟨w.heap.size + 4, 0, none⟩) N N] 22)) 22 #[.slice none 0 0]
    rw [World.size_alloc] at this
    exact (this.alloc _).alloc _
  have hc1 : Blk W0 (w2.heap.size + 1 + 1) 22 #[.slice A xs.length c] := by
    rw [hW0]
    have := Blk.new ((w2.alloc (.cells #[.slice (some ⟨w.heap.size + 4, 0, none⟩) N N] 22)).alloc (.cells #[.slice none 0 0] 22)) 22 #[.slice A xs.length c]
    rw [World.size_alloc, World.size_alloc] at this
    exact this.alloc _
  have hc2 : Blk W0 (w2.heap.size + 1 + 1 + 1) 3 #[.int .i64 D] := by
    rw [hW0]
    have := Blk.new (((w2.alloc (.cells #[.slice (some ⟨w.heap.size + 4, 0, none⟩) N N] 22)).alloc (.cells #[.slice none 0 0] 22)).alloc (.cells #[.slice A xs.length c] 22)) 3 #[.int .i64 D]
    rw [World.size_alloc, World.size_alloc, World.size_alloc] at this
    exact this
  have hg2 : w.heap.size + 4 < w2.heap.size := by
    have := ho2.lt (g := w.heap.size + 4) (by simp [Value.ownBlock])
    exact this
  have hst : UdH w (w.heap.size + 4) w2.heap.size (w2.heap.size + 1) N v R p (plN p) xs W0.heap.size [] W0 :=
    ⟨fun _ h => (by cases h), hq0.kept hf0 id, (hb1.kept hf2 id).kept hf0 id, (hb2.kept hf2 id).kept hf0 id, (hb3.kept hf2 id).kept hf0 id, by rw [show (udS xs v (plN p) []).1 = [] from rfl, spl_nil]; exact ho2.kept hf0 (fun _ _ => id), ⟨_, by simpa using hrb, fun _ => by simp⟩,
      ⟨none, 0, 0, hub, by omega, fun V zs _ _ _ => Row.empty _ _ _⟩, (ha.trans hf2 fun _ _ e => e).trans hf0 fun _ _ e => e, Nat.le_refl _⟩
  have hA : 0 < xs.length → ∃ b o, A = some ⟨b, o, none⟩ := fun h0 => by
    obtain ⟨b, o, e, _⟩ := HR.out.1.at_ 0 h0
    exact ⟨b, o, e⟩
  rw [← hW0]
  have H0 := Lib.hid (And.intro hst (And.intro hc1 (And.intro hc2 hA)))
  clear hst hc1 hc2 hA hrb hub hf0 ho2 hf2 hq0 hW0 hlt0 c0 c2 hb0 hb1 hb2 hb3 ha hzd
  refine wpIn_rangeFunc_ownG rfl (by omega) (gf := 74) (lb := #[.pointer (some ⟨w2.heap.size + 1 + 1, 0, none⟩), .pointer (some ⟨w2.heap.size + 1 + 1 + 1, 0, none⟩)]) rfl trivial (enters_of Try.func74 (by kernel_rfl) rfl)
    (chunkB_stops 5 (by omega) (w2.heap.size + 1 + 1) A xs.length c D R H0.out.2.2.2 hD1 (by rw [HN.out.2.2]; exact HR.out.2.2) hnc (by omega) W0 H0.out.2.1 H0.out.2.2.1) boxes_t (boxes_b (by omega)) (Below.refl _ _) (fun _ => rfl)
    (fun pre W => UdH w (w.heap.size + 4) w2.heap.size (w2.heap.size + 1) N v R p (plN p) xs W0.heap.size (pre.map Fin.val) W)
    (fun cc pre W => cc = .ret ∧ (∃ x : Fin R, 4 < xs.getD (x.val * (v + 1)) 0) ∧ UdL w W)
    (fun s X Y row hs hg hr => hs.nc (kept_of_grown hg) fun k e => ⟨(hr k e).2, by have := (hr k e).1; omega⟩)
    (fun cc s X Y row hs hg hr => ⟨hs.1, hs.2.1, hs.2.2.nc (kept_of_grown hg) fun k e => ⟨(hr k e).2, by have := (hr k e).1; omega⟩⟩)
    H0.out.1
    (fun x => { tmps := #[.slice A xs.length c, .int .i64 v, .int .i64 p, undef, .pointer (some ⟨w.heap.size, 0, none⟩), .pointer (some ⟨w.heap.size + 1, 0, none⟩), .pointer (some ⟨w.heap.size + 1 + 1, 0, none⟩), .pointer (some ⟨w.heap.size + 1 + 1 + 1, 0, none⟩), .slice (some ⟨w.heap.size + 4, 0, none⟩) N N, .pointer (some ⟨w2.heap.size, 0, none⟩), .pointer (some ⟨w2.heap.size + 1, 0, none⟩), rowOf A D x.val, undef, undef, .slice A xs.length c, .int .i64 xs.length, .int .i64 v, .int .i64 p, .bool true, .bool false, .slice A xs.length c, .int .i64 xs.length, .int .i64 v, .int .i64 ((v : Int) + 1), .int .i64 R, .int .i64 v, .int .i64 N, .slice (some ⟨w.heap.size + 4, 0, none⟩) N N, .slice (some ⟨w.heap.size + 4, 0, none⟩) N N, .slice A xs.length c, .int .i64 v, .int .i64 ((v : Int) + 1), .func (.func 74) #[] #[.pointer (some ⟨w2.heap.size + 1 + 1, 0, none⟩), .pointer (some ⟨w2.heap.size + 1 + 1 + 1, 0, none⟩)], rowOf A D x.val, undef, undef, undef, undef, undef, undef, undef, undef, undef, undef, undef, undef, undef, undef, undef, undef, undef, undef, undef, undef, undef, undef], defers := [] }) ?assign ?body ?done ?stop
  case assign =>
    intro l x W K hK
    gi_wp2
    exact hK
  case body =>
    rintro L pre x W h hlen
    obtain ⟨Ar, hrb, hrA⟩ := h.rest
    obtain ⟨B, m, cu, hub, hm, hup⟩ := h.up
    rw [List.length_map] at hrb hrA hup
    have hrA := hrA hlen
    subst hrA
    have hxR := Nat.mul_le_mul_right (v + 1) (show x.val + 1 ≤ R from x.isLt)
    rw [HR.out.2.2] at hxR
    have hx1 : x.val * (v + 1) + (v + 1) ≤ xs.length := by rw [Nat.succ_mul] at hxR; exact hxR
    obtain ⟨b1, o1, hAe, hbw, _⟩ := HR.out.1.at_ (x.val * (v + 1)) (by omega)
    have hrow0 := HR.out.1
    rw [hAe] at hrow0
    have hrow := (hrow0.rowFrom hxR).fresh h.fr
    have hkc : W.cell? ⟨b1, o1 + x.val * (v + 1), none⟩ = some (.int .u8 (xs.getD (x.val * (v + 1)) 0)) := by
      obtain ⟨b', o', e, _, hc⟩ := (hrow0.fresh h.fr).at_ (x.val * (v + 1)) (by omega)
      injection e with e
      injection e with e1 e2
      subst e1 e2
      exact hc
    have hkd := HR.out.2.1.at_ (x.val * (v + 1))
    have hPN := Nat.mul_le_mul_right v (show pre.length + 1 ≤ R from hlen)
    rw [← HN.out.1, Nat.succ_mul] at hPN
    obtain ⟨P, hP⟩ : ∃ P, P = pre.length * v := ⟨_, rfl⟩
    rw [← hP] at hrb hPN hup
    obtain ⟨M, hM⟩ : ∃ M, M = N - P := ⟨_, rfl⟩
    rw [← hM] at hrb
    have hal := udS_length (v := v) (q := plN p) (Nat.le_of_eq HR.out.2.2) pre
    rw [← hP] at hal
    have hup8 := udS_byte xs v (plN p) (pre.map Fin.val)
    have hl8 := rwF_byte HR.out.2.1 v x.val
    have hsn : Hid (udS xs v (plN p) ((pre ++ [x]).map Fin.val) = udStep xs v (plN p) (udS xs v (plN p) (pre.map Fin.val)) x.val) := Lib.hid (by rw [List.map_append, List.map_singleton, udS_snoc])
    unfold udStep at hsn
    have hown := h.own
    obtain ⟨q1, q2⟩ := plN_hi (p := p) (by unfold I64; omega)
    have hlen8 := hrow.len
    unfold rowOf
    rw [hAe, Option.map_some]
    have hXO : o1 + x.val * D = o1 + x.val * (v + 1) := by rw [HN.out.2.2]
    obtain ⟨X, hX⟩ : ∃ X, X = o1 + x.val * (v + 1) := ⟨_, rfl⟩
    rw [← hX] at hXO hkc hrow
    simp only [hXO]
    obtain ⟨l, hl⟩ : ∃ l, l = rwF xs v x.val := ⟨_, rfl⟩
    obtain ⟨S, hS⟩ : ∃ S, S = udS xs v (plN p) (pre.map Fin.val) := ⟨_, rfl⟩
    obtain ⟨kd, hkd0⟩ : ∃ kd, kd = xs.getD (x.val * (v + 1)) 0 := ⟨_, rfl⟩
    rw [← hl] at hrow hl8 hlen8 hsn
    rw [← hS] at hup hup8 hal hsn hown
    rw [← hkd0] at hsn hkd hkc
    have hl0 := h.r0.lt
    have hl1 := h.r1.lt
    have cU : W.cell? ⟨w2.heap.size + 1, 0, none⟩ = some (.slice B m cu) := (hub.cell 0).trans rfl
    have cP : W.cell? ⟨w.heap.size + 1, 0, none⟩ = some (.int .i64 p) := (h.b1.cell 0).trans rfl
    have cV : W.cell? ⟨w.heap.size, 0, none⟩ = some (.int .i64 v) := (h.b0.cell 0).trans rfl
    have cR : W.cell? ⟨w2.heap.size, 0, none⟩ = some (.slice (some ⟨w.heap.size + 4, P, none⟩) M M) := (hrb.cell 0).trans rfl
    have hxs : (spl (List.replicate N 0) 0 S.1).length = N := by rw [spl_length (by rw [hal]; simp; omega)]; simp
    have hD0' : (0 : Int) < (D : Int) := by omega
    by_cases hk4 : kd ≤ 4
    · have hk5 : ¬ 5 ≤ kd := by omega
      have HT : Hid (∀ V, Fresh W V → Calls Try.prog 99 #[.agg #[.slice (some ⟨w.heap.size + 4, P, none⟩) v M, .slice B m cu, .int .i64 (plN p : Nat)], .int .i64 kd, .slice (some ⟨b1, X + 1, none⟩) v v] V fun e w' =>
          e = .returned (.tuple #[]) ∧ Kept (fun i => i = w.heap.size + 4) V w' ∧ Own w' 5 .u8 (.slice (some ⟨w.heap.size + 4, 0, none⟩) N N) (spl (spl (List.replicate N 0) 0 S.1) P (unF kd l S.2 (plN p)))) := Lib.hid fun V hV =>
        cFillF_any (some ⟨b1, X + 1, none⟩) v v l B m cu S.2 kd (plN p) (w.heap.size + 4) P N N M _ V (hrow.fresh hV) hl8 hup8 (by omega) (by omega) q1 q2 (hown.kept hV (fun _ _ => id)) hxs (by omega) (by omega)
          (fun b o e h0 => by injection e with e; injection e with e1 e2; omega)
          (fun V' ys hk hy ho => hup V' _ ho (by rw [spl_length (by rw [hxs]; omega), hxs]) (spl_take ys hal.symm))
      have HF : Hid (∀ V, Calls Try.prog 76 #[.slice (some ⟨w.heap.size + 4, P, none⟩) v M, .slice B m cu, .int .i64 p] V fun e w' => e = .returned (.agg #[.slice (some ⟨w.heap.size + 4, P, none⟩) v M, .slice B m cu, .int .i64 (plN p : Nat)]) ∧ Fresh V w') := Lib.hid fun V => cField_any _ v M B m cu p V
      have hRl := unF_length kd l S.2 (plN p)
      have hsz1 : ∀ w, (sizeOf 5).run Try.prog w = .ok 1 w := fun w => by kernel_rfl
      have hs0 := fun V => run_slice_low 22 5 Try.underlying22 hsz1 (some ⟨w.heap.size + 4, P, none⟩) M M v (by omega) V
      have hDv : D = v + 1 := HN.out.2.2
      have hs1 : ∀ V, (Instr.slice 22 (.slice (some ⟨b1, X, none⟩) D D) (some (.int .i64 1)) none none).run Try.prog V = .ok (.slice (some ⟨b1, X + 1, none⟩) v v) V := fun V => by
        have := run_slice_from 22 5 Try.underlying22 hsz1 (some ⟨b1, X, none⟩) D D 1 (by omega) V
        rw [cutAt, if_neg (by omega), show D - 1 = v by omega] at this
        simpa [Addr.add] using this
      obtain ⟨A', hA'⟩ : ∃ A', A' = cutAt (some ⟨w.heap.size + 4, P, none⟩) v M := ⟨_, rfl⟩
      have hs2 : ∀ V, (Instr.slice 22 (.slice (some ⟨w.heap.size + 4, P, none⟩) M M) (some (.int .i64 (v : Int))) none none).run Try.prog V = .ok (.slice A' (M - v) (M - v)) V := fun V => by
        have := run_slice_from 22 5 Try.underlying22 hsz1 (some ⟨w.heap.size + 4, P, none⟩) M M v (by omega) V
        rw [← hA'] at this
        exact this
      have hMv : v ≤ M := by omega
      have HH := Lib.hid (And.intro h (And.intro hown (And.intro hxs (And.intro hrb (And.intro hub (And.intro hal (And.intro hRl (And.intro hlen8 (And.intro hkd0 hk4)))))))))
      have HP := Lib.hid (And.intro hP (And.intro hM (And.intro hl (And.intro hS hA'))))
      clear h hkd0 hk4 hown hxs hrb hub hrow hrow0 hal hRl hup hup8 hl8 hl hS hP hM hX hXO q1 q2 hAe hlen8 hDv hA' hsz1
      generalize unF kd l S.2 (plN p) = RF at *
      generalize plN p = q at *
      gi_wp2
      refine wpIn_region_plain (by kernel_rfl) (NoDefer.of (by kernel_rfl)) ?_
      refine wpAny_take (i := 0) (v := ?_) rfl (by kernel_rfl) (by kernel_rfl) (by kernel_rfl) (fun _ _ _ h => h) (Or.inl ⟨by rfl, ?_⟩) ?_
      rotate_left
      · intro w
        go_simp
        with_reducible rfl
      refine wpAny_take (i := 4) (v := ?_) rfl (by kernel_rfl) (by kernel_rfl) (by kernel_rfl) (fun _ _ _ h => h) (Or.inl ⟨by rfl, ?_⟩) ?_
      rotate_left
      · intro w
        go_simp
        with_reducible rfl
      refine wpAny_take (i := 5) (v := ?_) rfl (by kernel_rfl) (by kernel_rfl) (by kernel_rfl) (fun _ _ _ h => h) (Or.inl ⟨by rfl, ?_⟩) ?_
      rotate_left
      · intro w
        go_simp
        with_reducible rfl
      refine wpAny_take (i := 6) (v := ?_) rfl (by kernel_rfl) (by kernel_rfl) (by kernel_rfl) (fun _ _ _ h => h) (Or.inl ⟨by rfl, ?_⟩) ?_
      rotate_left
      · intro w
        go_simp
        with_reducible rfl
      have cU' : W.drew.cell? ⟨w2.heap.size + 1, 0, none⟩ = some (.slice B m cu) := cU
      have cP' : W.drew.cell? ⟨w.heap.size + 1, 0, none⟩ = some (.int .i64 p) := cP
      refine wpAny_ready (rs := [1, 2]) (by kernel_rfl) (by simp) ?_
      refine AllReady.cons rfl (fun K hK => ?_) (AllReady.cons rfl (fun K hK => ?_) AllReady.nil)
      · go_simp
        refine hK _ _ ?_
        clear hK K
        refine wpAny_ready (rs := [2]) (by kernel_rfl) (by simp) ?_
        refine AllReady.cons rfl (fun K hK => ?_) AllReady.nil
        go_simp
        refine hK _ _ ?_
        clear hK K
        refine wpAny_ready (rs := [3]) (by kernel_rfl) (by simp) ?_
        refine AllReady.cons rfl (fun K hK => ?_) AllReady.nil
        go_simp
        refine (HF.out _).mono ?_
        rintro e y1 ⟨rfl, hf1⟩
        refine hK _ _ ?_
        clear hK K
        have hf1 := ((Kept.refl (fun _ => False) W).drew).trans hf1 (fun _ _ e => e)
        refine wpAny_ready (rs := [7]) (by kernel_rfl) (by simp) ?_
        refine AllReady.cons rfl (fun K hK => ?_) AllReady.nil
        go_simp
        refine (HT.out _ hf1).mono ?_
        rintro e y3 ⟨rfl, hk3, ho3⟩
        refine hK _ _ ?_
        clear hK K
        have hk3 := (hf1.mono (T := fun i => i = w.heap.size + 4) (fun _ _ e => e.elim)).trans hk3 (fun _ _ e => e)
        refine wpAny_done (by kernel_rfl) ?_ _
        refine Calm.of ?_
        have hR3 := HH.out.2.2.2.1.kept hk3 (by omega)
        have hU3 := HH.out.2.2.2.2.1.kept hk3 (by omega)
        have e0 : y3.cell? ⟨w.heap.size, 0, none⟩ = some (.int .i64 v) := ((HH.out.1.b0.kept hk3 (by omega)).cell 0).trans rfl
        have e1 : y3.cell? ⟨w2.heap.size, 0, none⟩ = some (.slice (some ⟨w.heap.size + 4, P, none⟩) M M) := (hR3.cell 0).trans rfl
        have e2 : y3.cell? ⟨w2.heap.size + 1, 0, none⟩ = some (.slice B m cu) := (hU3.cell 0).trans rfl
        have e3 := hR3.frozen 0
        have e4 := hU3.frozen 0
        have H3 := Lib.hid (And.intro hk3 (And.intro ho3 (And.intro hR3 hU3)))
        clear hk3 ho3 hR3 hU3
        gi_wp2
        have hend : Kept (fun k => k = w2.heap.size ∨ k = w2.heap.size + 1) y3 ((y3.setCell ⟨w2.heap.size, 0, none⟩ (.slice A' (M - v) (M - v))).setCell ⟨w2.heap.size + 1, 0, none⟩ (.slice (some ⟨w.heap.size + 4, P, none⟩) v M)) :=
          ((Kept.refl _ _).setCell (p := ⟨w2.heap.size, 0, none⟩) (fun _ => .inl rfl) _).setCell (p := ⟨w2.heap.size + 1, 0, none⟩) (fun _ => .inr rfl) _
        have hall : Kept (fun k => k = w.heap.size + 4 ∨ k = w2.heap.size ∨ k = w2.heap.size + 1) W ((y3.setCell ⟨w2.heap.size, 0, none⟩ (.slice A' (M - v) (M - v))).setCell ⟨w2.heap.size + 1, 0, none⟩ (.slice (some ⟨w.heap.size + 4, P, none⟩) v M)) :=
          (H3.out.1.mono (fun _ _ e => .inl e)).trans hend (fun _ _ e => .inr e)
        have hbig := HH.out.1.big
        have hcl : (S.1 ++ RF).length = P + v := by rw [List.length_append, HH.out.2.2.2.2.2.1, HH.out.2.2.2.2.2.2.1, HH.out.2.2.2.2.2.2.2.1]
        have hlen2 : ((pre ++ [x]).map Fin.val).length = pre.length + 1 := by simp
        have hmul : (pre.length + 1) * v = P + v := by rw [Nat.succ_mul, ← HP.out.1]
        refine ⟨KeepsFrom.of _ hall fun k e => ?_, ⟨hall.block _ (by omega) (by omega), hall.block _ (by omega) (by omega)⟩, ?_⟩
        · rcases e with rfl | rfl | rfl
          · exact HH.out.2.1.cells rfl
          · exact HH.out.2.2.2.1.cells
          · exact HH.out.2.2.2.2.1.cells
        · refine ⟨fun y hy => ?_, HH.out.1.b0.kept hall (by omega), HH.out.1.b1.kept hall (by omega), HH.out.1.r0.kept hall (by omega), HH.out.1.r1.kept hall (by omega), ?_, ?_, ?_, HH.out.1.fr.trans hall fun i hi e => by omega, Nat.le_trans hbig hall.size⟩
          · rw [List.map_append, List.mem_append] at hy
            rcases hy with hy | hy
            · exact HH.out.1.kinds y hy
            · have hy2 : y = x.val := by simpa using hy
              rw [hy2, ← HH.out.2.2.2.2.2.2.2.2.1]
              exact HH.out.2.2.2.2.2.2.2.2.2
          · rw [hsn.out, ← spl_spl _ (o := P) HH.out.2.2.2.2.2.1.symm]
            exact H3.out.2.1.kept hend (fun k e e2 => by
              have : w.heap.size + 4 = k := by simpa [Value.ownBlock] using e
              omega)
          · rw [hlen2, hmul]
            refine ⟨A', ?_, fun hlt => ?_⟩
            · rw [show N - (P + v) = M - v by rw [HP.out.2.1]; omega]
              exact (H3.out.2.2.1.set_ 0 _).far (p := ⟨w2.heap.size + 1, 0, none⟩) (by simp) _
            · have h2 := Nat.mul_le_mul_right v (show pre.length + 1 + 1 ≤ R from hlt)
              rw [← HN.out.1, Nat.succ_mul, hmul] at h2
              rw [HP.out.2.2.2.2, cutAt, if_neg (by rw [HP.out.2.1]; omega)]
              simp [Addr.add]
              omega
          · rw [hlen2, hmul, hsn.out]
            refine ⟨some ⟨w.heap.size + 4, P, none⟩, v, M, (H3.out.2.2.2.far (p := ⟨w2.heap.size, 0, none⟩) (by simp) _).set_ 0 _, hv.2, fun V zs ho hz htk => ?_⟩
            refine ⟨by rw [HH.out.2.2.2.2.2.2.1, HH.out.2.2.2.2.2.2.2.1], fun j hj => ⟨_, P, rfl, ho.lt rfl, ?_⟩⟩
            rw [ho.cellN hz (j := P + j) (by omega)]
            have e5 : zs.getD (P + j) 0 = (zs.take (P + v)).getD (P + j) 0 := by simp only [List.getD]; rw [List.getElem?_take_of_lt (by omega)]
            rw [e5, htk]
            simp only [List.getD]
            rw [List.getElem?_append_right (by rw [HH.out.2.2.2.2.2.1]; omega), HH.out.2.2.2.2.2.1, Nat.add_sub_cancel_left]
      · go_simp
        refine hK _ _ ?_
        clear hK K
        refine wpAny_ready (rs := [1]) (by kernel_rfl) (by simp) ?_
        refine AllReady.cons rfl (fun K hK => ?_) AllReady.nil
        go_simp
        refine hK _ _ ?_
        clear hK K
        refine wpAny_ready (rs := [3]) (by kernel_rfl) (by simp) ?_
        refine AllReady.cons rfl (fun K hK => ?_) AllReady.nil
        go_simp
        refine (HF.out _).mono ?_
        rintro e y1 ⟨rfl, hf1⟩
        refine hK _ _ ?_
        clear hK K
        have hf1 := ((Kept.refl (fun _ => False) W).drew).trans hf1 (fun _ _ e => e)
        refine wpAny_ready (rs := [7]) (by kernel_rfl) (by simp) ?_
        refine AllReady.cons rfl (fun K hK => ?_) AllReady.nil
        go_simp
        refine (HT.out _ hf1).mono ?_
        rintro e y3 ⟨rfl, hk3, ho3⟩
        refine hK _ _ ?_
        clear hK K
        have hk3 := (hf1.mono (T := fun i => i = w.heap.size + 4) (fun _ _ e => e.elim)).trans hk3 (fun _ _ e => e)
        refine wpAny_done (by kernel_rfl) ?_ _
        refine Calm.of ?_
        have hR3 := HH.out.2.2.2.1.kept hk3 (by omega)
        have hU3 := HH.out.2.2.2.2.1.kept hk3 (by omega)
        have e0 : y3.cell? ⟨w.heap.size, 0, none⟩ = some (.int .i64 v) := ((HH.out.1.b0.kept hk3 (by omega)).cell 0).trans rfl
        have e1 : y3.cell? ⟨w2.heap.size, 0, none⟩ = some (.slice (some ⟨w.heap.size + 4, P, none⟩) M M) := (hR3.cell 0).trans rfl
        have e2 : y3.cell? ⟨w2.heap.size + 1, 0, none⟩ = some (.slice B m cu) := (hU3.cell 0).trans rfl
        have e3 := hR3.frozen 0
        have e4 := hU3.frozen 0
        have H3 := Lib.hid (And.intro hk3 (And.intro ho3 (And.intro hR3 hU3)))
        clear hk3 ho3 hR3 hU3
        gi_wp2
        have hend : Kept (fun k => k = w2.heap.size ∨ k = w2.heap.size + 1) y3 ((y3.setCell ⟨w2.heap.size, 0, none⟩ (.slice A' (M - v) (M - v))).setCell ⟨w2.heap.size + 1, 0, none⟩ (.slice (some ⟨w.heap.size + 4, P, none⟩) v M)) :=
          ((Kept.refl _ _).setCell (p := ⟨w2.heap.size, 0, none⟩) (fun _ => .inl rfl) _).setCell (p := ⟨w2.heap.size + 1, 0, none⟩) (fun _ => .inr rfl) _
        have hall : Kept (fun k => k = w.heap.size + 4 ∨ k = w2.heap.size ∨ k = w2.heap.size + 1) W ((y3.setCell ⟨w2.heap.size, 0, none⟩ (.slice A' (M - v) (M - v))).setCell ⟨w2.heap.size + 1, 0, none⟩ (.slice (some ⟨w.heap.size + 4, P, none⟩) v M)) :=
          (H3.out.1.mono (fun _ _ e => .inl e)).trans hend (fun _ _ e => .inr e)
        have hbig := HH.out.1.big
        have hcl : (S.1 ++ RF).length = P + v := by rw [List.length_append, HH.out.2.2.2.2.2.1, HH.out.2.2.2.2.2.2.1, HH.out.2.2.2.2.2.2.2.1]
        have hlen2 : ((pre ++ [x]).map Fin.val).length = pre.length + 1 := by simp
        have hmul : (pre.length + 1) * v = P + v := by rw [Nat.succ_mul, ← HP.out.1]
        refine ⟨KeepsFrom.of _ hall fun k e => ?_, ⟨hall.block _ (by omega) (by omega), hall.block _ (by omega) (by omega)⟩, ?_⟩
        · rcases e with rfl | rfl | rfl
          · exact HH.out.2.1.cells rfl
          · exact HH.out.2.2.2.1.cells
          · exact HH.out.2.2.2.2.1.cells
        · refine ⟨fun y hy => ?_, HH.out.1.b0.kept hall (by omega), HH.out.1.b1.kept hall (by omega), HH.out.1.r0.kept hall (by omega), HH.out.1.r1.kept hall (by omega), ?_, ?_, ?_, HH.out.1.fr.trans hall fun i hi e => by omega, Nat.le_trans hbig hall.size⟩
          · rw [List.map_append, List.mem_append] at hy
            rcases hy with hy | hy
            · exact HH.out.1.kinds y hy
            · have hy2 : y = x.val := by simpa using hy
              rw [hy2, ← HH.out.2.2.2.2.2.2.2.2.1]
              exact HH.out.2.2.2.2.2.2.2.2.2
          · rw [hsn.out, ← spl_spl _ (o := P) HH.out.2.2.2.2.2.1.symm]
            exact H3.out.2.1.kept hend (fun k e e2 => by
              have : w.heap.size + 4 = k := by simpa [Value.ownBlock] using e
              omega)
          · rw [hlen2, hmul]
            refine ⟨A', ?_, fun hlt => ?_⟩
            · rw [show N - (P + v) = M - v by rw [HP.out.2.1]; omega]
              exact (H3.out.2.2.1.set_ 0 _).far (p := ⟨w2.heap.size + 1, 0, none⟩) (by simp) _
            · have h2 := Nat.mul_le_mul_right v (show pre.length + 1 + 1 ≤ R from hlt)
              rw [← HN.out.1, Nat.succ_mul, hmul] at h2
              rw [HP.out.2.2.2.2, cutAt, if_neg (by rw [HP.out.2.1]; omega)]
              simp [Addr.add]
              omega
          · rw [hlen2, hmul, hsn.out]
            refine ⟨some ⟨w.heap.size + 4, P, none⟩, v, M, (H3.out.2.2.2.far (p := ⟨w2.heap.size, 0, none⟩) (by simp) _).set_ 0 _, hv.2, fun V zs ho hz htk => ?_⟩
            refine ⟨by rw [HH.out.2.2.2.2.2.2.1, HH.out.2.2.2.2.2.2.2.1], fun j hj => ⟨_, P, rfl, ho.lt rfl, ?_⟩⟩
            rw [ho.cellN hz (j := P + j) (by omega)]
            have e5 : zs.getD (P + j) 0 = (zs.take (P + v)).getD (P + j) 0 := by simp only [List.getD]; rw [List.getElem?_take_of_lt (by omega)]
            rw [e5, htk]
            simp only [List.getD]
            rw [List.getElem?_append_right (by rw [HH.out.2.2.2.2.2.1]; omega), HH.out.2.2.2.2.2.1, Nat.add_sub_cancel_left]
    · have hk5 : 5 ≤ kd := by omega
      have c4 : W.cell? ⟨w.heap.size + 1 + 1, 0, none⟩ = some (.slice none 0 0) := (h.r0.cell 0).trans rfl
      have c5 : W.cell? ⟨w.heap.size + 1 + 1 + 1, 0, none⟩ = some (.int .i64 0) := (h.r1.cell 0).trans rfl
      have f4 : W.frozen? ⟨w.heap.size + 1 + 1, 0, none⟩ = false := h.r0.frozen 0
      have f5 : W.frozen? ⟨w.heap.size + 1 + 1 + 1, 0, none⟩ = false := h.r1.frozen 0
      have HH := Lib.hid (And.intro h (And.intro hkd0 hk4))
      clear h hkd0 hk4 hown hxs hrb hub hrow hrow0 hal hup hup8 hl8 hl hS hsn hP hM hX hXO q1 q2 hAe hlen8 cU cP cV cR
      gi_wp2
      refine ⟨?_, rfl, ⟨x, ?_⟩, ?_, ?_, ?_⟩
      · refine KeepsFrom.of (S := fun k => k = w.heap.size + 2 ∨ k = w.heap.size + 2 + 1) _ (((Kept.refl _ _).setCell (p := ⟨w.heap.size + 1 + 1, 0, none⟩) (fun _ => .inl rfl) _).setCell (p := ⟨w.heap.size + 1 + 1 + 1, 0, none⟩) (fun _ => .inr rfl) _) fun k e => ?_
        rcases e with rfl | rfl
        · exact HH.out.1.r0.cells
        · exact HH.out.1.r1.cells
      · show (4 : Int) < xs.getD (x.val * (v + 1)) 0
        have e := HH.out.2.1
        have e2 := HH.out.2.2
        omega
      · exact (HH.out.1.r0.set_ 0 _).far (p := ⟨w.heap.size + 1 + 1 + 1, 0, none⟩) (by simp) _
      · exact (HH.out.1.r1.far (p := ⟨w.heap.size + 1 + 1, 0, none⟩) (by simp) _).set_ 0 _
      · exact (HH.out.1.fr.setCell (p := ⟨w.heap.size + 1 + 1, 0, none⟩) (fun e => absurd e (by simp; omega)) _).setCell (p := ⟨w.heap.size + 1 + 1 + 1, 0, none⟩) (fun e => absurd e (by simp; omega)) _
  case done =>
    rintro E ys W hE hys h hK
    have hown := h.own
    have hal := udN_length (x := xs) (w := v) (n := plN p) R (Nat.le_of_eq HR.out.2.2)
    rw [hys, udS_range, spl_all (by rw [hal, ← HN.out.1]; simp)] at hown
    have hown : Own W 5 .u8 (.slice (some ⟨w.heap.size + 4, 0, none⟩) N N) (udF xs v (plN p)) := by rw [hudF.out]; exact hown
    have hk : kndF xs v := hknd.out.2 fun r hr => h.kinds r (by rw [hys]; exact List.mem_range.2 hr)
    have c4 : W.cell? ⟨w.heap.size + 1 + 1, 0, none⟩ = some (.slice none 0 0) := (h.r0.cell 0).trans rfl
    have c5 : W.cell? ⟨w.heap.size + 1 + 1 + 1, 0, none⟩ = some (.int .i64 0) := (h.r1.cell 0).trans rfl
    have f4 : W.frozen? ⟨w.heap.size + 1 + 1, 0, none⟩ = false := h.r0.frozen 0
    have f5 : W.frozen? ⟨w.heap.size + 1 + 1 + 1, 0, none⟩ = false := h.r1.frozen 0
    have HH := Lib.hid (And.intro h (And.intro hown hk))
    clear h hown hk hal
    gi_wp2
    obtain ⟨z1, z2, z3, z4, z5⟩ := results_from HH.out.1.r0 HH.out.1.r1 rfl rfl hK (by omega) (by omega) HH.out.1.fr (.slice (some ⟨w.heap.size + 4, 0, none⟩) N N) 0
    refine ⟨by simp, .inl ⟨_, _, rfl, run_takeDeferred z1, ?_⟩⟩
    refine ⟨.tuple #[.slice (some ⟨w.heap.size + 4, 0, none⟩) N N, .int .i64 0], by simp [results, Try.f89, go_sem, z2, z3], ?_⟩
    refine .inl ⟨HH.out.2.2, _, rfl, HH.out.2.1.kept z4 (fun k e e2 => ?_), fun k e => ?_, z5⟩
    · have e3 : w.heap.size + 4 = k := by simpa [Value.ownBlock] using e
      subst e3
      rcases e2 with e2 | e2 | e2
      · omega
      · omega
      · exact HH.out.2.1.cells rfl ⟨_, e2 ▸ hK, rfl⟩
    · have e3 : w.heap.size + 4 = k := by simpa [Value.ownBlock] using e
      omega
  case stop =>
    rintro E cc pre W hE _ ⟨rfl, ⟨x, hx⟩, h⟩ hK
    have hnk : ¬ kndF xs v := fun hk => by
      have := hknd.out.1 hk x.val x.isLt
      omega
    gi_wp2
    have k1 := kept_of_grown (grownBy_putObj' W E (.deferred none))
    have b0 := h.r0.kept k1 (fun e => h.r0.cells ⟨_, by injection e with e; exact e ▸ hK, rfl⟩)
    have b1 := h.r1.kept k1 (fun e => h.r1.cells ⟨_, by injection e with e; exact e ▸ hK, rfl⟩)
    have z2 := (b0.cell 0).trans (show _ = some (Value.slice none 0 0) from rfl)
    have z3 := (b1.cell 0).trans (show _ = some (Value.int .i64 4) from rfl)
    refine ⟨by simp, .inl ⟨_, _, rfl, run_takeDeferred hK, ?_⟩⟩
    refine ⟨.tuple #[.slice none 0 0, .int .i64 4], by simp [results, Try.f89, go_sem, z2, z3], ?_⟩
    exact .inr ⟨hnk, rfl, h.fr.trans k1 fun i hi e => by injection e with e; omega⟩

set_option maxHeartbeats 1600000 in
/-- Undo of what may not be. -/
theorem cUndoNo_any (A : Option Addr) (n c : Nat) (wd p : Int) (w : World) (hn : n ≤ 16777216) (h : ¬ okU wd p n) :
    Calls Try.prog 89 #[.slice A n c, .int .i64 wd, .int .i64 p] w fun e w' => e = .returned (.tuple #[.slice none 0 0, .int .i64 1]) ∧ Fresh w w' := by
  have HF : Hid (∀ V, Calls Try.prog 75 #[.int .i64 n, .int .i64 wd, .int .i64 1, .int .i64 p] V fun e w' => e = .returned (.bool false) ∧ V = w') := Lib.hid fun V => by
    by_cases h4 : 1 ≤ wd ∧ wd ≤ 1048576 ∧ 1 ≤ p ∧ p ≤ 4
    · obtain ⟨v, rfl⟩ : ∃ v : Nat, wd = v := ⟨wd.toNat, by omega⟩
      have := cFitF_in n v (v + 1) 1 p V (by omega) (by omega) (by omega) (by omega) (by omega) hn
      rwa [decide_eq_false (fun hh => h ((okU_fit (by omega) (by omega)).1 hh))] at this
    · exact cFitF_no n wd 1 p V h4
  clear h hn
  go_enter Try.func89, Try.ntmps89
  go_wp2_with fail
  refine (HF.out _).mono ?_
  rintro e w1 ⟨rfl, rfl⟩
  go_wp2_with fail
  refine bodyPost_ret (v := .tuple #[.slice none 0 0, .int .i64 1]) (by simp [results, Try.f89, go_sem]) rfl ?_
  exact ⟨rfl, ((((Kept.refl _ _).alloc _).alloc _).alloc _).alloc _⟩

end Go.Proofs.Ythfifpapkknodaa

/- Image's rows: filtered by their best kinds, and back. -/
namespace Go.Proofs.Ythfifpapkknodaa
open Go.RowKit
set_option maxRecDepth 100000

attribute [local go_sem ↓] Go.wp_at_zero Go.wp_at_succ

theorem NewRow.behind {w w1 w2 : World} {e : TypeId} {k : IntKind} {v : Value} {xs : List Int} (h : NewRow w1 w2 e k v xs) (hf : Fresh w w1) : NewRow w w2 e k v xs := ⟨h.1, fun g e => Nat.le_trans hf.size (h.2.1 g e), hf.trans h.2.2 fun _ _ e => e⟩

set_option maxHeartbeats 1600000 in
theorem cApplyR_any (A : Option Addr) (n c : Nat) (bs : List Int) (wd p R : Nat) (w : World) (hr : Row w .u8 A n bs) (h8 : B8 bs) (hn : R * wd = n) (h1 : 1 ≤ wd) (hR : 1 ≤ R) (hp : p = 1 ∨ p = 3) (hn2 : n ≤ 1048576) (hnc : n ≤ c) :
    Calls Try.prog 31 #[.agg #[.int .i64 (wd : Int), .int .i64 (p : Int)], .slice A n c] w fun e w' => ∃ u v, e = .returned (.tuple #[u, v]) ∧
      NewRow w w' 5 .u8 u (cutN (apF bs wd (plN (p : Nat))) (1 + wd) 1 R) ∧ NewRow w w' 5 .u8 v (behN (apF bs wd (plN (p : Nat))) (1 + wd) 1 R) := by
  have hwn : wd ≤ n := by rw [← hn]; exact Nat.le_mul_of_pos_left _ (by omega)
  have hmod : n % wd = 0 := by rw [← hn]; exact Nat.mul_mod_left _ _
  have hRn : R ≤ n := by rw [← hn]; exact Nat.le_mul_of_pos_right _ (by omega)
  obtain ⟨W0, hW0⟩ : ∃ W0, W0 = w.alloc (.cells #[.int .i64 (wd : Int), .int .i64 (p : Int)] 41) := ⟨_, rfl⟩
  have hf0 : Fresh w W0 := by rw [hW0]; exact (Kept.refl _ _).alloc _
  have hb0 : Blk W0 w.heap.size 41 #[.int .i64 (wd : Int), .int .i64 (p : Int)] := by rw [hW0]; exact Blk.new _ _ _
  have HA := Lib.hid (cApplyIn_any A n c bs wd (p : Int) W0 (hr.kept hf0 (fun _ _ _ _ => id)) h8 hn2 hnc ⟨h1, by omega⟩ (by omega) hmod)
  have hal : (apF bs wd (plN (p : Nat))).length = R * (1 + wd) := by
    unfold apF
    rw [hr.len, ← hn, Nat.mul_div_cancel _ (by omega), apN_length _ (by rw [hr.len, hn]; exact Nat.le_refl _), Nat.add_comm]
  have hal2 : R * (1 + wd) ≤ 2097152 := by rw [Nat.mul_add, hn, Nat.mul_one]; omega
  obtain ⟨S, hS⟩ : ∃ S, S = 1 + wd := ⟨_, rfl⟩
  have eS : 1 + (wd : Int) = (S : Int) := by omega
  have wS : IntKind.i64.wrap (S : Int) = (S : Int) := IntWalk.i64_in _ (by omega)
  have k0 : W0.cell? ⟨w.heap.size, 0, none⟩ = some (.int .i64 (wd : Int)) := (hb0.cell 0).trans rfl
  have k1 : W0.cell? ⟨w.heap.size, 1, none⟩ = some (.int .i64 (p : Int)) := (hb0.cell 1).trans rfl
  rw [← hS] at hal hal2 ⊢
  have HS := Lib.hid hS
  have HB := Lib.hid (And.intro hf0 hb0)
  generalize apF bs wd (plN (p : Nat)) = L at *
  have HL := Lib.hid (And.intro hal hal2)
  clear hr h8 hn hmod hwn hRn hf0 hb0 hal hal2 hS hn2 hp
  go_enter Try.func31, Try.ntmps31
  go_wp2_with fail
  rw [← hW0]
  refine HA.out.mono ?_
  rintro e w1 ⟨u, rfl, hu⟩
  have hcap := hu.1
  obtain ⟨B, d, rfl, hru, _⟩ := hu.1.row
  have hcap := hcap.cap
  rw [HL.out.1] at hru hcap
  rw [HL.out.1]
  have hf1 : Fresh w w1 := HB.out.1.trans hu.2.2 fun _ _ e => e
  have j0 : w1.cell? ⟨w.heap.size, 0, none⟩ = some (.int .i64 (wd : Int)) := ((HB.out.2.kept hu.2.2 id).cell 0).trans rfl
  have HC := Lib.hid (cCut_any B (R * S) d L S 1 R w1 hru rfl (by have := HS.out; omega) hR (by have := HS.out; omega) hcap HL.out.2)
  have H1 := Lib.hid hf1
  clear hu hru hcap hf1 HA
  generalize R * S = N at *
  go_wp2_with fail
  refine HC.out.mono ?_
  rintro e w2 ⟨x, y, rfl, hx, hy⟩
  have H2 := Lib.hid (And.intro (hx.behind H1.out) (hy.behind H1.out))
  clear hx hy HC
  go_wp2_with fail
  go_ret2
  exact ⟨_, _, rfl, H2.out.1, H2.out.2⟩

/-- Rows unfiltered: the error, the bytes. -/
def unK (L : List Int) (wd q : Nat) : Int × List Int := if kndF L wd then (0, udF L wd q) else (4, [])

set_option maxHeartbeats 3200000 in
theorem cUndoR_any (A : Option Addr) (R c : Nat) (xs : List Int) (B : Option Addr) (m d : Nat) (ys : List Int) (wd p : Nat) (w : World) (hr : Row w .u8 A R xs) (hs : Row w .u8 B m ys) (hx : B8 xs) (hy : B8 ys) (hm : m = R * wd) (hR : 1 ≤ R) (h1 : 1 ≤ wd) (hp : p = 1 ∨ p = 3)
    (hm2 : m ≤ 1048576) (hRc : R ≤ c) (hmd : m ≤ d) :
    Calls Try.prog 61 #[.agg #[.int .i64 (wd : Int), .int .i64 (p : Int)], .slice A R c, .slice B m d] w fun e w' =>
      ∃ u, e = .returned (.tuple #[u, .int .i64 (unK (splI xs ys 1 wd R) wd (plN (p : Nat))).1]) ∧ NewRow w w' 5 .u8 u (unK (splI xs ys 1 wd R) wd (plN (p : Nat))).2 := by
  have hRm : R ≤ m := by rw [hm]; exact Nat.le_mul_of_pos_right _ (by omega)
  have hwm : wd ≤ m := by rw [hm]; exact Nat.le_mul_of_pos_left _ (by omega)
  obtain ⟨W0, hW0⟩ : ∃ W0, W0 = w.alloc (.cells #[.int .i64 (wd : Int), .int .i64 (p : Int)] 41) := ⟨_, rfl⟩
  have hf0 : Fresh w W0 := by rw [hW0]; exact (Kept.refl _ _).alloc _
  have hb0 : Blk W0 w.heap.size 41 #[.int .i64 (wd : Int), .int .i64 (p : Int)] := by rw [hW0]; exact Blk.new _ _ _
  obtain ⟨L, hL⟩ : ∃ L, L = splI xs ys 1 wd R := ⟨_, rfl⟩
  have hLl : L.length = R * (wd + 1) := by rw [hL, splI_length (by rw [hr.len]; omega) (by rw [hs.len, hm]; exact Nat.le_refl _), Nat.add_comm 1]
  have hL8 : B8 L := by rw [hL]; exact splI_byte hx hy _ _ _
  have HSp : Hid (∀ V, Fresh W0 V → Calls Try.prog 63 #[.slice A R c, .slice B m d, .int .i64 (R : Int)] V fun e w' => ∃ u, e = .returned u ∧ NewRow V w' 5 .u8 u L) := Lib.hid fun V hV => by
    rw [hL]
    have hfv := hf0.trans hV fun _ _ e => e
    exact cSplice_any A R c xs B m d ys R 1 wd V (hr.kept hfv (fun _ _ _ _ => id)) (hs.kept hfv (fun _ _ _ _ => id)) (by omega) hm hR hRc hmd (by omega) (by omega) (by omega)
  have HUn : Hid (∀ V B' d', Row V .u8 B' L.length L → L.length ≤ d' → Calls Try.prog 89 #[.slice B' L.length d', .int .i64 (wd : Int), .int .i64 (p : Int)] V fun e w' =>
      ∃ u, e = .returned (.tuple #[u, .int .i64 (unK L wd (plN (p : Nat))).1]) ∧ NewRow V w' 5 .u8 u (unK L wd (plN (p : Nat))).2) := Lib.hid fun V B' d' hrow hcap => by
    refine (cUndoIn_any B' L.length d' L wd (p : Int) V hrow hL8 hcap ⟨h1, by omega⟩ (by omega) (by rw [hLl]; exact Nat.mul_mod_left _ _) (by rw [hLl, Nat.mul_div_cancel _ (by omega), Nat.mul_add, Nat.mul_one, ← hm]; omega)).mono ?_
    unfold unK
    rintro e w' (⟨k, h⟩ | ⟨k, rfl, hf⟩)
    · rw [if_pos k]
      exact h
    · rw [if_neg k]
      exact ⟨_, rfl, Own.nil _ _ _, fun g e => (by cases e), hf⟩
  rw [← hL]
  have k0 : W0.cell? ⟨w.heap.size, 0, none⟩ = some (.int .i64 (wd : Int)) := (hb0.cell 0).trans rfl
  have k1 : W0.cell? ⟨w.heap.size, 1, none⟩ = some (.int .i64 (p : Int)) := (hb0.cell 1).trans rfl
  have HB := Lib.hid (And.intro hf0 (And.intro hb0 hLl))
  generalize unK L wd (plN (p : Nat)) = E at *
  clear hr hs hx hy hm hf0 hb0 hL hLl hL8 hRm hwm hm2 hp
  go_enter Try.func61, Try.ntmps61
  go_wp2_with fail
  rw [← hW0]
  clear hW0
  go_region_held3 (fun w' => w'.cell? ⟨w.heap.size, 0, none⟩ = some (.int .i64 (wd : Int)) ∧ w'.cell? ⟨w.heap.size, 1, none⟩ = some (.int .i64 (p : Int)))
    (first | go_keep | exact ⟨((HB.out.2.1.kept hf3 id).cell 0).trans rfl, ((HB.out.2.1.kept hf3 id).cell 1).trans rfl⟩ | exact ⟨((HB.out.2.1.kept hf4 id).cell 0).trans rfl, ((HB.out.2.1.kept hf4 id).cell 1).trans rfl⟩)
    (first
      | (go_at_call 63; (with_reducible refine (HSp.out _ (Kept.refl _ W0).drew).mono ?_); rintro e w3 ⟨u, rfl, hu⟩
         have hf3 : Fresh W0 w3 := (Kept.refl (fun _ => False) W0).drew.trans hu.2.2 fun _ _ e => e
         have hcap := hu.1
         obtain ⟨B', d', rfl, hru, _⟩ := hu.1.row
         have hcap := hcap.cap)
      | (go_at_call 89; (with_reducible refine (HUn.out _ _ _ hru hcap).mono ?_); rintro e w4 ⟨z, rfl, hz⟩; have hf4 : Fresh W0 w4 := hf3.trans hz.2.2 fun _ _ e => e))
  obtain ⟨Z, dz, ez, _, _⟩ := hz.1.row
  generalize E.2.length = lz at ez
  have HZ := Lib.hid ez
  have H4 := Lib.hid (hz.behind (HB.out.1.trans hf3 fun _ _ e => e))
  rw [ez]
  clear ez hz hu hru hcap hf3 hf4 HSp HUn k0 k1
  go_wp2_with fail
  go_ret2
  rw [← HZ.out]
  exact ⟨_, rfl, H4.out⟩

end Go.Proofs.Ythfifpapkknodaa
